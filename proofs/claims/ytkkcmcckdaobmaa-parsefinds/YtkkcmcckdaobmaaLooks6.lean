/- The contract of pollardingref6.looks: lookaheads are the least sets. -/
import Derived.Test.YtkkcmcckdaobmaaLooksMemAndCell6
import Derived.Test.YtkkcmcckdaobmaaMay1AndSets2Mem
import Derived.Deep.LoopGhost
namespace Go.Proofs.Ytkkcmcckdaobmaa
open Go.RowKit

theorem Try.infoBoolsL : (Try.prog.info? 62).map (fun i => (i.zero, i.size, i.bytes)) = some (some (.slice none 0 0), 1, 24) := by kernel_rfl
theorem Try.infoMatL : (Try.prog.info? 63).map (fun i => (i.zero, i.size, i.bytes)) = some (some (.slice none 0 0), 1, 24) := by kernel_rfl

/-- What looks leans on. -/
structure LooksIn (w : World) (ab lim T N : Nat) (rv : Value) (R : List Ru) (sv nv nuv fiv : Value) (vi vr : Nat → Value) (OL : List (List It)) (NL : List (List Int)) (Ls : List SetI) (Nu : List Bool) (Fi : List (List Bool)) : Prop where
  auto : AutoG w lim ab T N rv R
  lim : lim ≤ ab
  fro : ∀ o, w.frozen? ⟨ab, o, none⟩ = false
  c3 : w.cell? ⟨ab, 3, none⟩ = some nuv
  c4 : w.cell? ⟨ab, 4, none⟩ = some fiv
  c6 : w.cell? ⟨ab, 6, none⟩ = some sv
  c7 : w.cell? ⟨ab, 7, none⟩ = some nv
  owns : Owns w (ab + 1) (Pb sv nv vi vr OL NL none none)
  ok : AutoOk T N R OL NL Ls (cL T OL fun _ _ => .slice none 0 0).dom
  pos : 0 < OL.length
  few : OL.length ≤ 150
  sets : ∀ w', (∀ b o, b < ab → w'.cell? ⟨b, o, none⟩ = w.cell? ⟨b, o, none⟩) → BoolsAt w' nuv Nu ∧ MatAt w' fiv Fi
  nu : Nu.length = N
  fi : Fi.length = N
  fl : ∀ i, i < N → (Fi.getD i []).length = T
  t8 : T ≤ 8
  n1 : 1 ≤ N
  n12 : N ≤ 12
  r40 : R.length ≤ 40
  r8 : ∀ r, r ≤ R.length → (rightF R r).length ≤ 8
  sym : ∀ r, r ≤ R.length → ∀ s ∈ rightF R r, 0 ≤ s.2 ∧ s.2 ≤ 1000
  name : ∀ r, r ≤ R.length → ∀ s ∈ rightF R r, s.1 = false → 0 ≤ s.2 ∧ s.2 < (N : Int)

/-- While they are spread. -/
structure LInv (w1 : World) (H T N : Nat) (R : List Ru) (OL : List (List It)) (NL : List (List Int)) (Ls : List SetI) (Nu : List Bool) (Fi : List (List Bool)) (vb : Nat → Nat → Value) (X : LkX) (g : Bool) (wq : World) : Prop where
  bt : Bt wq H (cL T OL vb) X
  kept : Kept (cL T OL vb).K w1 wq
  snd : SndL (cL T OL vb).dom (ZL T R Nu Fi NL Ls OL) X
  h0 : bit X (0, 0) T = true
  fin : g = false → ∀ k, k < OL.length → ∀ j, j < (OL.getD k []).length → ∀ t, t ≤ T → (sprN OL NL R T Nu Fi k j t X).2 = false

theorem LooksIn.stable {w w1 : World} {ab lim T N : Nat} {rv sv nv nuv fiv lv : Value} {R : List Ru} {vi vr vl : Nat → Value} {vb : Nat → Nat → Value} {OL : List (List It)} {NL : List (List Int)} {Ls : List SetI} {Nu : List Bool} {Fi : List (List Bool)}
    (h : LooksIn w ab lim T N rv R sv nv nuv fiv vi vr OL NL Ls Nu Fi) (hi : IC w ab lv w1) (hL : Owns w1 w.heap.size (PL T OL lv vl vb OL.length 0 none)) : ∀ w', Kept (cL T OL vb).K w1 w' → AutoF ab lim T N rv R nuv fiv Nu Fi OL NL (cL T OL vb).V (adsOf sv nv lv vi vr vl) w' := fun w' hk => by
  have hab := h.auto.lt
  have hTN : 0 < T + N := by have := h.n1; omega
  refine autoF_stable (hi.auto h.auto h.lim) h.lim hab hi.kept.size ((hi.keep 6 (by omega)).trans h.c6) ((hi.keep 7 (by omega)).trans h.c7) hi.c8 ((hi.keep 3 (by omega)).trans h.c3) ((hi.keep 4 (by omega)).trans h.c4) (hi.owns h.owns) (fun i r g hr hg => (h.owns.lt hr hg).2) hL (fun w'' hw => ?_) h.ok.sok h.pos h.ok.len (fun k hk => (h.ok.go k hk 0 hTN).1) hTN hk
  refine h.sets w'' (fun b o hb => (hw b o hb).trans ?_)
  exact World.cell?_of_block (w := w) (hi.kept.block b (by omega) (by omega))

set_option maxRecDepth 100000 in
set_option maxHeartbeats 12800000 in
theorem looks6_any {w : World} {ab lim T N : Nat} {rv sv nv nuv fiv : Value} {R : List Ru} {vi vr : Nat → Value} {OL : List (List It)} {NL : List (List Int)} {Ls : List SetI} {Nu : List Bool} {Fi : List (List Bool)}
    (h : LooksIn w ab lim T N rv R sv nv nuv fiv vi vr OL NL Ls Nu Fi) (h8 : w.cell? ⟨ab, 8, none⟩ = some (.slice none 0 0)) :
    Calls Try.prog 14 #[.pointer (some ⟨ab, 0, none⟩)] w fun e w' => e = .returned (.tuple #[]) ∧ Below ab w w' ∧
      ∃ lv vl vb X, Bt w' w.heap.size (cL T OL vb) X ∧ (∀ w'', Kept (cL T OL vb).K w' w'' → AutoF ab lim T N rv R nuv fiv Nu Fi OL NL (cL T OL vb).V (adsOf sv nv lv vi vr vl) w'') ∧
        ∀ k, k < OL.length → ∀ j, j < (OL.getD k []).length → ∀ t, t ≤ T → (bit X (k, j) t = true ↔ LookQ T R Nu Fi NL Ls k (itemN OL k j) t) := by
  have HI : Hid (LooksIn w ab lim T N rv R sv nv nuv fiv vi vr OL NL Ls Nu Fi) := h
  have hab := h.auto.lt
  have hT := h.t8
  have hO := h.few
  have hO0 := h.pos
  obtain ⟨sg, scap, hsv, _, _⟩ := h.owns.stForm h.pos
  subst hsv
  have HIC0 : Hid (IC w ab (.slice none 0 0) w) := ⟨Kept.refl _ _, fun _ _ => rfl, h.fro, h8⟩
  have H369 : Hid (∀ k, k < OL.length → (OL.getD k []).length ≤ 369) := fun k hk => by
    have := ok_len h.r8 (h.ok.sok.rep k hk).nod (h.ok.sok.ok k hk)
    have := h.r40
    omega
  clear h h8
  go_enter Try.func14, Try.ntmps14
  go_wp2_with fail
  go_loopw [2] (fun s2 wr => ∃ (k : Nat) (lv : Value) (vl : Nat → Value) (vb : Nat → Nat → Value), s2 = .int .i64 k ∧ k ≤ OL.length ∧ IC w ab lv wr ∧ Owns wr w.heap.size (PL T OL lv vl vb k 0 none)) (fun s _ => OL.length - (intOf s).toNat)
  case atStart => exact ⟨0, .slice none 0 0, fun _ => .slice none 0 0, fun _ _ => .slice none 0 0, rfl, Nat.zero_le _, HIC0.out, PL_start w _⟩
  case round =>
    clear HIC0
    obtain ⟨k, lv, vl, vb, rfl, hk, hIC, hPL⟩ := hrel
    have HIC : Hid (IC w ab lv wr) := hIC
    have HPL : Hid (Owns wr w.heap.size (PL T OL lv vl vb k 0 none)) := hPL
    have c6 := (hIC.keep 6 (by omega)).trans HI.out.c6
    clear hIC hPL
    by_cases hlt : k < OL.length
    · have k0 : (0 : Int) ≤ (k : Int) := Int.natCast_nonneg _
      have k1 : (k : Int) < (OL.length : Int) := by omega
      have h369 := H369.out k hlt
      obtain ⟨n0, hn0⟩ : ∃ n0, (OL.getD k []).length = n0 := ⟨_, rfl⟩
      have HN0 : Hid ((OL.getD k []).length = n0) := hn0
      rw [hn0] at h369
      have HS : Hid (Owns wr w.heap.size (PL T OL lv vl vb k 0 (some (.slice none 0 0)))) := PL_nil HPL.out
      clear hn0 HPL
      go_wp2_with fail
      clear c6
      go_loopw [3, 4] (fun s3 s4 wq => ∃ (j : Nat) (cv : Value) (vb : Nat → Nat → Value), s3 = cv ∧ s4 = .int .i64 j ∧ j ≤ n0 ∧ IC w ab lv wq ∧ Owns wq w.heap.size (PL T OL lv vl vb k j (some cv))) (fun _ s _ => n0 - (intOf s).toNat)
      case atStart => exact ⟨0, _, vb, rfl, rfl, Nat.zero_le _, HIC.out, HS.out⟩
      case round =>
        clear HS HIC
        obtain ⟨j, cv, vb, hcv, rfl, hj, hIC, hPL⟩ := hrel
        have hcv' := hcv.symm
        subst hcv'
        clear hcv
        have HIC : Hid (IC w ab lv wr) := hIC
        have HPL : Hid (Owns wr w.heap.size (PL T OL lv vl vb k j (some cv))) := hPL
        have hA := hIC.auto HI.out.auto HI.out.lim
        have a0 := hA.t
        have c6 := (hIC.keep 6 (by omega)).trans HI.out.c6
        have hP' := hIC.owns HI.out.owns
        have hI := hP'.itemsOf hlt
        obtain ⟨ia, ic, hvi⟩ := hI.1
        have ck := hP'.stCell hlt
        rw [hvi, HN0.out] at ck
        have hwsz : w.heap.size ≤ wr.heap.size := hIC.kept.size
        clear hIC hPL hA hP' hI hvi
        by_cases hjlt : j < n0
        · have hw1 : IntKind.i64.wrap ((T : Int) + 1) = (T : Int) + 1 := IntWalk.i64_in _ (by omega)
          have mkB : ∀ u : World, (Instr.makeSlice 62 (.int .i64 ((T : Int) + 1)) (.int .i64 ((T : Int) + 1))).run Try.prog u = .ok (.slice (some ⟨u.heap.size, 0, none⟩) (T + 1) (T + 1)) (u.alloc (.cells (madeCells #[.bool false] (T + 1)) 4)) := fun u => by
            have := make_bools (T + 1) (by omega) u
            simpa using this
          have j0 : (0 : Int) ≤ (j : Int) := Int.natCast_nonneg _
          have j1 : (j : Int) < (n0 : Int) := by omega
          obtain ⟨W1, hW1⟩ : ∃ W1, W1 = wr.alloc (.cells (madeCells #[.bool false] (T + 1)) 4) := ⟨_, rfl⟩
          have hv0 := World.ownsRow_lit (base := w.heap.size) (e := 4) (size := 1) wr (madeCells #[.bool false] (T + 1)) (T + 1) hwsz (by unfold maxLen; omega) (by simp [size_madeCells])
          rw [toList_madeCells_one, ← hW1] at hv0
          have HV0 : Hid ((W1.alloc (.cells #[.slice (some ⟨wr.heap.size, 0, none⟩) (T + 1) (T + 1)] 62)).ownsRow w.heap.size 4 1 (.slice (some ⟨wr.heap.size, 0, none⟩) (T + 1) (T + 1)) (T + 1) ((List.replicate (T + 1) false).map Value.bool)) := by
            have := hv0.alloc (.cells #[.slice (some ⟨wr.heap.size, 0, none⟩) (T + 1) (T + 1)] 62)
            show World.ownsRow _ _ _ _ _ _ _
            simpa using this
          have hg1 : wr.grownBy (W1.alloc (.cells #[.slice (some ⟨wr.heap.size, 0, none⟩) (T + 1) (T + 1)] 62)) none := by
            have a := World.grownBy_alloc wr (.cells (madeCells #[.bool false] (T + 1)) 4) none
            rw [← hW1] at a
            have b := World.grownBy_alloc W1 (.cells #[.slice (some ⟨wr.heap.size, 0, none⟩) (T + 1) (T + 1)] 62) none
            exact ⟨b.os.trans a.os, b.tape.trans a.tape, b.output.trans a.output, Nat.le_trans a.size b.size, fun q hq hn => (b.block q (Nat.lt_of_lt_of_le hq a.size) hn).trans (a.block q hq hn)⟩
          have HG1 : Hid (wr.grownBy (W1.alloc (.cells #[.slice (some ⟨wr.heap.size, 0, none⟩) (T + 1) (T + 1)] 62)) none) := hg1
          have own5 : (W1.alloc (.cells #[.slice (some ⟨wr.heap.size, 0, none⟩) (T + 1) (T + 1)] 62)).ownsRow w.heap.size 62 1 cv j ((List.range j).map (vb k)) := (HPL.out.own .cur _ rfl).kept hg1 (by cases cv.ownBlock <;> simp)
          have hnw5 := World.news_of_block (cs := #[.slice (some ⟨wr.heap.size, 0, none⟩) (T + 1) (T + 1)]) (t := 62) (fr := (0, 0)) (heap_alloc_new W1 (.cells #[.slice (some ⟨wr.heap.size, 0, none⟩) (T + 1) (T + 1)] 62))
          have hW1s : W1.heap.size = wr.heap.size + 1 := by rw [hW1]; simp
          obtain ⟨i5, hi5, hz8, hz9, hz10⟩ := info_parts Try.infoBoolsL
          have m1 : j + 1 ≤ maxLen := by unfold maxLen; omega
          have m2 : (j + 1) * 24 ≤ 140737488355328 := by omega
          rw [hW1s] at hnw5
          clear hv0 hg1
          go_wp2_with
            (at_builtin
             rw [← hW1]
             refine wpList_append_lies _ rfl _ _ _ rfl w.heap.size 62 i5 _ 1 24 Try.underlying63 hi5 hz8 hz9 hz10 rfl (by omega) cv j ((List.range j).map (vb k)) rfl own5
               ⟨wr.heap.size + 1, 0, none⟩ 1 1 [.slice (some ⟨wr.heap.size, 0, none⟩) (T + 1) (T + 1)] rfl rfl hnw5 (by simp [Value.oneCell']) (by omega) m1 m2 (by simp; omega) (wr.heap.size + 2) (by simp; omega) ?_
             intro g6 cap6 w6 hown6 hgrow6 hat6 hlt6)
          have hcb : ∀ b, cv.ownBlock = some b → w.heap.size ≤ b := fun b hb => (HPL.out.lt (i := Lx.cur) rfl hb).1
          have HP6 : Hid (Owns w6 w.heap.size (PL T OL lv vl (fun k' j' => if k' = k ∧ j' = j then .slice (some ⟨wr.heap.size, 0, none⟩) (T + 1) (T + 1) else vb k' j') k (j + 1) (some (.slice (some ⟨g6, 0, none⟩) (j + 1) cap6)))) :=
            PL_row HPL.out HG1.out HV0.out (fun g hg => by simp only [Value.ownBlock, Option.some.injEq] at hg; omega) hgrow6 hown6 (fun g hg => by
              simp only [Value.ownBlock, Option.some.injEq] at hg
              subst hg
              rcases hat6 with h | h
              · exact .inl h
              · exact .inr (by simp; omega))
          have HIC6 : Hid (IC w ab lv w6) := (HIC.out.grow hab HG1.out (fun _ e => nomatch e)).grow hab hgrow6 hcb
          clear hown6 hgrow6 hat6 hlt6 own5 hnw5 hi5 hz8 hz9 hz10 m1 m2 HG1 HV0 hcb
          go_roundw
          case rel => exact ⟨j + 1, _, _, rfl, by go_num, by omega, HIC6.out, HP6.out⟩
          case measure => simp [intOf]; omega
        · obtain rfl : j = n0 := by omega
          obtain ⟨ca, cc, hcv⟩ : ∃ a c, cv = .slice a j c := own_form (HPL.out.own .cur _ rfl)
          subst hcv
          have c8 := HIC.out.c8
          have hcut : decide ((j : Int) < (j : Int)) = false := by simp
          have hg1 := World.grownBy_alloc wr (.cells #[.slice ca j cc] 63) none
          have HPa : Hid (Owns (wr.alloc (.cells #[.slice ca j cc] 63)) w.heap.size (PL T OL lv vl vb k j (some (.slice ca j cc)))) := HPL.out.alloc _
          have HICa : Hid (IC w ab lv (wr.alloc (.cells #[.slice ca j cc] 63))) := HIC.out.grow hab hg1 (fun _ e => nomatch e)
          have own5 : (wr.alloc (.cells #[.slice ca j cc] 63)).ownsRow w.heap.size 63 1 lv k ((List.range k).map vl) := HPa.out.own .sp _ rfl
          have hnw5 := World.news_of_block (cs := #[.slice ca j cc]) (t := 63) (fr := (0, 0)) (heap_alloc_new wr (.cells #[.slice ca j cc] 63))
          obtain ⟨i5, hi5, hz8, hz9, hz10⟩ := info_parts Try.infoMatL
          have m1 : k + 1 ≤ maxLen := by unfold maxLen; omega
          have m2 : (k + 1) * 24 ≤ 140737488355328 := by omega
          clear hg1 a0
          go_wp2_with
            (at_builtin
             refine wpList_append_lies _ rfl _ _ _ rfl w.heap.size 63 i5 _ 1 24 Try.underlying68 hi5 hz8 hz9 hz10 rfl (by omega) lv k ((List.range k).map vl) rfl own5
               ⟨wr.heap.size, 0, none⟩ 1 1 [.slice ca j cc] rfl rfl hnw5 (by simp [Value.oneCell']) (by omega) m1 m2 (by simp; omega) (wr.heap.size + 1) (by simp) ?_
             intro g6 cap6 w6 hown6 hgrow6 hat6 hlt6
             have hic6 := HICa.out.grow hab hgrow6 (fun b hb => (HPa.out.lt (i := Lx.sp) rfl hb).1)
             have c86 := hic6.c8
             have f86 := hic6.fro 8
             have HIC6 : Hid (IC w ab lv w6) := hic6
             clear hic6)
          have HP6 : Hid (Owns w6 w.heap.size (PL T OL (.slice (some ⟨g6, 0, none⟩) (k + 1) cap6) (fun q => if q = k then .slice ca j cc else vl q) vb (k + 1) 0 none)) :=
            PL_state HN0.out.symm HPa.out hgrow6 hown6 (fun g hg => by
              simp only [Value.ownBlock, Option.some.injEq] at hg
              subst hg
              rcases hat6 with h | h
              · exact .inl h
              · exact .inr (by simp; omega))
          clear hown6 hgrow6 hat6 hlt6 own5 hnw5 hi5 hz8 hz9 hz10 m1 m2
          go_roundw
          case rel => exact ⟨k + 1, _, _, _, by go_num, by omega, HIC6.out.set8 _, HP6.out.setBelow (a := ⟨ab, 8, none⟩) hab _⟩
          case measure => simp [intOf]; omega
    · obtain rfl : k = OL.length := by omega
      have hF0 := HI.out.stable HIC.out HPL.out
      have HF : Hid (∀ w', Kept (cL T OL vb).K wr w' → AutoF ab lim T N rv R nuv fiv Nu Fi OL NL (cL T OL vb).V (adsOf (.slice (some ⟨sg, 0, none⟩) OL.length scap) nv lv vi vr vl) w') := hF0
      have hW := hF0 wr (Kept.refl _ _)
      have hok : AutoOk T N R OL NL Ls (cL T OL vb).dom := HI.out.ok
      have HOk : Hid (AutoOk T N R OL NL Ls (cL T OL vb).dom) := hok
      have hne : 0 < (OL.getD 0 []).length := List.length_pos_iff.2 (hok.sok.ne 0 hO0)
      have hd0 : (cL T OL vb).dom (0, 0) = some (T + 1) := by rw [hok.dom, if_pos ⟨hO0, hne⟩]
      have hBt0 := PL_bt HPL.out
      obtain ⟨g0, cap0, hv0, _, _⟩ := hBt0.form hd0 (by omega)
      have c8 := hW.c8
      obtain ⟨l1, l2⟩ := hW.lk 0 hO0
      have l3 := l2 0 hne
      rw [hv0] at l3
      obtain ⟨l4, l5⟩ := hBt0.cell hd0 hv0 (m := T) (by omega)
      have a0 := hW.auto.t
      obtain ⟨n0, hn0⟩ : ∃ n0, (OL.getD 0 []).length = n0 := ⟨_, rfl⟩
      rw [hn0] at l1 hne
      have i0 : (0 : Int) < (OL.length : Int) := by omega
      have i1 : (0 : Int) < (n0 : Int) := by omega
      have i2 : (0 : Int) ≤ (T : Int) := Int.natCast_nonneg _
      have i3 : (T : Int) < (T : Int) + 1 := by omega
      obtain ⟨bb, hbb⟩ : ∃ b, bit (fun _ : Nat × Nat => List.replicate (T + 1) false) (0, 0) T = b := ⟨_, rfl⟩
      rw [hbb] at l4
      have HS1 : Hid (LInv wr w.heap.size T N R OL NL Ls Nu Fi vb (setX (fun _ => List.replicate (T + 1) false) (0, 0) T true) true (wr.setCell ⟨g0, T, none⟩ (.bool true)).drew) := by
        refine ⟨(hBt0.set hd0 hv0 T true).drew, ((Kept.refl _ _).setCell (Tab.inK hd0 hv0) _).drew, fun p n m hp hm hb => ?_, ?_, fun e => (nomatch e)⟩
        · rw [bit_set (by simp)] at hb
          by_cases hc : p = (0, 0) ∧ m = T
          · rw [hc.1, hc.2]
            show LookQ T R Nu Fi NL Ls 0 (itemN OL 0 0) T
            have : itemN OL 0 0 = (R.length, 0) := hok.sok.head hO0
            rw [this]
            exact LookP.start
          · rw [if_neg hc] at hb
            simp only [bit, List.getD] at hb
            rw [List.getElem?_replicate] at hb
            split at hb <;> simp at hb
        · rw [bit_set (by simp)]
          simp
      have HBel : Hid (∀ wq, Kept (cL T OL vb).K wr wq → Below ab w wq) := fun wq hk => by
        have h1 := HIC.out.kept
        have hs := h1.size
        refine ⟨hk.os.trans h1.os, hk.tape.trans h1.tape, hk.output.trans h1.output, Nat.le_trans hs hk.size, fun b hb => (hk.block b (by omega) (fun hK => by have := (cL_K HPL.out hK).1; omega)).trans (h1.block b (by omega) (by omega))⟩
      have HK0 : Hid (∀ b, b < lim → ¬ (cL T OL vb).K b) := fun b hb hK => by have := (cL_K HPL.out hK).1; have := HI.out.lim; omega
      clear hF0 hW hok hBt0 l2 hbb HIC HPL hn0
      go_wp2_with fail
      refine wp_region_tail 14 (by kernel_rfl) (by kernel_rfl) ?_
      simp only [List.take_succ_cons, List.take_zero, List.drop_succ_cons, List.drop_zero]
      repeat still_step
      refine wpStill_nil ?_
      go_wp2_with fail
      clear c6 c8 l1 l3 l4 l5 a0
      generalize (wr.setCell ⟨g0, T, none⟩ (.bool true)).drew = W2 at HS1 ⊢
      obtain ⟨w1, hw1⟩ : ∃ w1, w1 = wr := ⟨_, rfl⟩
      subst hw1
      obtain ⟨X1, hX1⟩ : ∃ X1, setX (fun _ : Nat × Nat => List.replicate (T + 1) false) (0, 0) T true = X1 := ⟨_, rfl⟩
      rw [hX1] at HS1
      clear hX1
      go_loopg [5] (2 * togoL OL T X1 + 1) (fun n s5 wq => ∃ (X : LkX) (g : Bool), n = 2 * togoL OL T X + (if g then 1 else 0) ∧ s5 = .bool g ∧ LInv w1 w.heap.size T N R OL NL Ls Nu Fi vb X g wq)
      case atStart => exact ⟨X1, true, by simp, rfl, HS1.out⟩
      case round =>
        clear HS1
        obtain ⟨X, g, hn, rfl, hInv⟩ := hrel
        have HInv : Hid (LInv w1 w.heap.size T N R OL NL Ls Nu Fi vb X g wr) := hInv
        have HN : Hid (gk = 2 * togoL OL T X + (if g then 1 else 0)) := hn
        clear hn hInv
        cases g with
        | false =>
          go_wp2_with fail
          go_end0
          refine ⟨rfl, HBel.out _ HInv.out.kept, lv, vl, vb, X, HInv.out.bt, fun w'' hk => HF.out w'' (HInv.out.kept.trans hk), fun k hk j hj t ht => ?_⟩
          exact looks_iff HOk.out hO0 (fun p n hp => HInv.out.bt.len hp) HInv.out.snd HInv.out.h0 (HInv.out.fin rfl) hk hj ht
        | true =>
          have c6 := (HF.out _ HInv.out.kept).c6
          go_wp2_with fail
          clear c6
          go_loopw [5, 6] (fun s5 s6 wq => ∃ k : Nat, s5 = .bool (loopN k (acc (passJ OL NL R T Nu Fi)) (X, false)).2 ∧ s6 = .int .i64 k ∧ k ≤ OL.length ∧ Bt wq w.heap.size (cL T OL vb) (loopN k (acc (passJ OL NL R T Nu Fi)) (X, false)).1 ∧ Kept (cL T OL vb).K w1 wq) (fun _ s _ => OL.length - (intOf s).toNat)
          case atStart => exact ⟨0, rfl, rfl, Nat.zero_le _, HInv.out.bt, HInv.out.kept⟩
          case round =>
            obtain ⟨k, rfl, rfl, hk, hBk, hKk⟩ := hrel
            have HBk : Hid (Bt wr w.heap.size (cL T OL vb) (loopN k (acc (passJ OL NL R T Nu Fi)) (X, false)).1) := hBk
            have HKk : Hid (Kept (cL T OL vb).K w1 wr) := hKk
            have hFk := HF.out wr hKk
            have c6 := hFk.c6
            by_cases hlt : k < OL.length
            · obtain ⟨ck, _⟩ := hFk.st k hlt
              obtain ⟨n1, hn1⟩ : ∃ n1, (OL.getD k []).length = n1 := ⟨_, rfl⟩
              have HN1 : Hid ((OL.getD k []).length = n1) := hn1
              rw [hn1] at ck
              have k0 : (0 : Int) ≤ (k : Int) := Int.natCast_nonneg _
              have k1 : (k : Int) < (OL.length : Int) := by omega
              have hn369 := H369.out k hlt
              rw [hn1] at hn369
              obtain ⟨Sk, hSk⟩ : ∃ S, loopN k (acc (passJ OL NL R T Nu Fi)) (X, false) = S := ⟨_, rfl⟩
              have HSk : Hid (loopN k (acc (passJ OL NL R T Nu Fi)) (X, false) = Sk) := hSk
              rw [hSk] at HBk ⊢
              clear hBk hKk hFk hn1 hSk
              go_wp2_with fail
              clear ck c6
              go_loopw [5, 7] (fun s5 s7 wq => ∃ j : Nat, s5 = .bool (loopN j (acc (passT OL NL R T Nu Fi k)) Sk).2 ∧ s7 = .int .i64 j ∧ j ≤ n1 ∧ Bt wq w.heap.size (cL T OL vb) (loopN j (acc (passT OL NL R T Nu Fi k)) Sk).1 ∧ Kept (cL T OL vb).K w1 wq) (fun _ s _ => n1 - (intOf s).toNat)
              case atStart => exact ⟨0, rfl, rfl, Nat.zero_le _, HBk.out, HKk.out⟩
              case round =>
                clear HBk HKk
                obtain ⟨j, rfl, rfl, hj, hBj, hKj⟩ := hrel
                have HBj : Hid (Bt wr w.heap.size (cL T OL vb) (loopN j (acc (passT OL NL R T Nu Fi k)) Sk).1) := hBj
                have HKj : Hid (Kept (cL T OL vb).K w1 wr) := hKj
                have hFj := HF.out wr hKj
                have c6 := hFj.c6
                obtain ⟨ck, _⟩ := hFj.st k hlt
                rw [HN1.out] at ck
                clear hBj hKj hFj
                by_cases hjlt : j < n1
                · have j0 : (0 : Int) ≤ (j : Int) := Int.natCast_nonneg _
                  have j1 : (j : Int) < (n1 : Int) := by omega
                  obtain ⟨Sj, hSj⟩ : ∃ S, loopN j (acc (passT OL NL R T Nu Fi k)) Sk = S := ⟨_, rfl⟩
                  have HSj : Hid (loopN j (acc (passT OL NL R T Nu Fi k)) Sk = Sj) := hSj
                  rw [hSj] at HBj ⊢
                  clear hSj
                  go_wp2_with fail
                  clear ck c6
                  go_loopw [5, 8] (fun s5 s8 wq => ∃ t : Nat, s5 = .bool (loopN t (acc (sprN OL NL R T Nu Fi k j)) Sj).2 ∧ s8 = .int .i64 t ∧ t ≤ T + 1 ∧ Bt wq w.heap.size (cL T OL vb) (loopN t (acc (sprN OL NL R T Nu Fi k j)) Sj).1 ∧ Kept (cL T OL vb).K w1 wq) (fun _ s _ => T + 1 - (intOf s).toNat)
                  case atStart => exact ⟨0, rfl, rfl, Nat.zero_le _, HBj.out, HKj.out⟩
                  case round =>
                    clear HBj HKj
                    obtain ⟨t, rfl, rfl, ht, hBt, hKt⟩ := hrel
                    have HBt : Hid (Bt wr w.heap.size (cL T OL vb) (loopN t (acc (sprN OL NL R T Nu Fi k j)) Sj).1) := hBt
                    have HKt : Hid (Kept (cL T OL vb).K w1 wr) := hKt
                    have a0 := (HF.out wr hKt).auto.t
                    clear hBt hKt
                    by_cases htlt : t ≤ T
                    · have t1 : (t : Int) ≤ (T : Int) := by omega
                      have hstep : loopN (t + 1) (acc (sprN OL NL R T Nu Fi k j)) Sj = acc (sprN OL NL R T Nu Fi k j) t (loopN t (acc (sprN OL NL R T Nu Fi k j)) Sj) := rfl
                      obtain ⟨⟨Y, g⟩, hSt⟩ : ∃ S, loopN t (acc (sprN OL NL R T Nu Fi k j)) Sj = S := ⟨_, rfl⟩
                      rw [hSt] at hstep HBt ⊢
                      simp only [acc] at hstep
                      have call := spread6_any (k := k) (j := j) (t := t) (fun w' hk' => HF.out w' (HKt.out.trans hk')) HBt.out HOk.out hT HI.out.r40 HI.out.r8 HI.out.sym HI.out.name HI.out.nu HI.out.fi HI.out.fl HK0.out hlt (by rw [HN1.out]; exact hjlt) htlt
                      obtain ⟨⟨Y', b⟩, hsp⟩ : ∃ S, sprN OL NL R T Nu Fi k j t Y = S := ⟨_, rfl⟩
                      rw [hsp] at hstep call
                      simp only at hstep call
                      have HSt : Hid (loopN (t + 1) (acc (sprN OL NL R T Nu Fi k j)) Sj = (Y', g || b)) := hstep
                      clear hstep hSt hsp
                      cases b with
                      | true =>
                        go_wp2_with
                          (go_at_call 31; refine call.mono ?_; rintro e w5 ⟨rfl, hB5, hK5⟩)
                        go_roundw
                        case rel => exact ⟨t + 1, by rw [HSt.out]; simp, by go_num, by omega, by rw [HSt.out]; exact hB5, HKt.out.trans hK5⟩
                        case measure => simp [intOf]; omega
                      | false =>
                        go_wp2_with
                          (go_at_call 31; refine call.mono ?_; rintro e w5 ⟨rfl, hB5, hK5⟩)
                        go_roundw
                        case rel => exact ⟨t + 1, by rw [HSt.out]; simp, by go_num, by omega, by rw [HSt.out]; exact hB5, HKt.out.trans hK5⟩
                        case measure => simp [intOf]; omega
                    · obtain rfl : t = T + 1 := by omega
                      have e1 : decide (((T + 1 : Nat) : Int) ≤ (T : Int)) = false := decide_eq_false (by omega)
                      have e2 : decide ((T : Int) + 1 ≤ (T : Int)) = false := decide_eq_false (by omega)
                      have HE : Hid (loopN (j + 1) (acc (passT OL NL R T Nu Fi k)) Sk = loopN (T + 1) (acc (sprN OL NL R T Nu Fi k j)) Sj) := by
                        show loopN (j + 1) (acc (passT OL NL R T Nu Fi k)) Sk = _
                        have : loopN (j + 1) (acc (passT OL NL R T Nu Fi k)) Sk = acc (passT OL NL R T Nu Fi k) j (loopN j (acc (passT OL NL R T Nu Fi k)) Sk) := rfl
                        rw [this, HSj.out]
                        obtain ⟨Y, g⟩ := Sj
                        rw [acc_from Y g]
                        rfl
                      go_wp2_with fail
                      go_roundw
                      case rel => exact ⟨j + 1, by rw [HE.out], by go_num, by omega, by rw [HE.out]; exact HBt.out, HKt.out⟩
                      case measure => simp [intOf]; omega
                · obtain rfl : j = n1 := by omega
                  have e1 : decide ((j : Int) < (j : Int)) = false := by simp
                  have HE : Hid (loopN (k + 1) (acc (passJ OL NL R T Nu Fi)) (X, false) = loopN j (acc (passT OL NL R T Nu Fi k)) Sk) := by
                    show loopN (k + 1) (acc (passJ OL NL R T Nu Fi)) (X, false) = _
                    have : loopN (k + 1) (acc (passJ OL NL R T Nu Fi)) (X, false) = acc (passJ OL NL R T Nu Fi) k (loopN k (acc (passJ OL NL R T Nu Fi)) (X, false)) := rfl
                    rw [this, HSk.out]
                    obtain ⟨Y, g⟩ := Sk
                    rw [acc_from Y g]
                    unfold acc passJ
                    rw [HN1.out]
                    rfl
                  go_wp2_with fail
                  go_roundw
                  case rel => exact ⟨k + 1, by rw [HE.out], by go_num, by omega, by rw [HE.out]; exact HBj.out, HKj.out⟩
                  case measure => simp [intOf]; omega
            · obtain rfl : k = OL.length := by omega
              obtain ⟨u1, u2, u3⟩ := passK_up (Nu := Nu) (Fi := Fi) HOk.out (fun p n hp => HInv.out.bt.len hp)
              have e1 : decide ((OL.length : Int) < (OL.length : Int)) = false := by simp
              have eK : loopN OL.length (acc (passJ OL NL R T Nu Fi)) (X, false) = passK OL NL R T Nu Fi X := rfl
              rw [eK] at HBk ⊢
              obtain ⟨⟨Y, g⟩, hY⟩ : ∃ S, passK OL NL R T Nu Fi X = S := ⟨_, rfl⟩
              rw [hY] at u1 u2 u3 HBk ⊢
              simp only at u1 u2 u3
              have HL : Hid (LInv w1 w.heap.size T N R OL NL Ls Nu Fi vb Y g wr) := ⟨HBk.out, HKk.out, u3 HInv.out.snd, u1.up _ _ HInv.out.h0, fun hg => by rw [u1.still hg]; exact u2 hg⟩
              have HM : Hid (2 * togoL OL T Y + (if g then 1 else 0) < 2 * togoL OL T X + 1) := by
                show 2 * togoL OL T Y + (if g then 1 else 0) < 2 * togoL OL T X + 1
                cases g with
                | true => have h1 : togoL OL T Y < togoL OL T X := togo_lt HOk.out u1; simp only [if_true]; omega
                | false => rw [u1.still rfl]; simp
              clear u1 u2 u3 hBk hKk hFk eK hY
              go_wp2_with fail
              go_roundg (2 * togoL OL T Y + (if g then 1 else 0))
              case measure =>
                rw [HN.out]
                have h1 := HM.out
                show 2 * togoL OL T Y + (if g = true then 1 else 0) < 2 * togoL OL T X + 1
                exact h1
              case rel => exact ⟨Y, g, rfl, rfl, HL.out⟩

end Go.Proofs.Ytkkcmcckdaobmaa
