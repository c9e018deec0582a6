import Derived.Test.YtikjekfpgklbdaaTrPfAndTrEf
/- extract's back. -/
namespace Go.Proofs.Ytikjekfpgklbdaa
open Go.RowKit

section
variable {T N o b c : Int} {ra : Option Addr} {rl rc fr up ka : Nat}

set_option maxRecDepth 100000 in
set_option maxHeartbeats 3200000 in
theorem extract_backs : ∀ (n : Nat) (w : World) (q : Nat) (ks : Fo) (kv : Value) (A : Nat → Prop), (flatFo ks).length < n → (q = ka → fr < lenF ks) → allFo (fun q ks => q = ka → fr < lenF ks) ks → (flatFo ks).length ≤ 2000 → FoIn w A kv ks → (∀ b, A b → b < w.heap.size) →
    Calls Try.prog 80 #[.agg #[.int .i64 T, .int .i64 N, .slice ra rl rc, .int .i64 o, .int .i64 (ka : Int), .int .i64 b, .int .i64 c, .int .i64 (fr : Int), .int .i64 (up : Int)], .agg #[.int .i64 (q : Int), kv]] w fun e w' => ∃ kv', e = .returned (.agg #[.int .i64 (q : Int), kv']) ∧ FoIn w' (fun b => A b ∨ w.heap.size ≤ b) kv' (if q = ka then outF fr (exB ka fr ks) else exB ka fr ks) ∧ Below w.heap.size w w' := by
  intro n
  induction n with
  | zero => intro _ _ _ _ _ h; omega
  | succ n ih =>
  intro w q ks kv A hn hqk hall hl hk hA
  have hk1 := hk
  obtain ⟨ka1, kc, hkv, _⟩ := hk1
  obtain ⟨n1, hn1⟩ : ∃ n, lenF ks = n := ⟨_, rfl⟩
  rw [hn1] at hkv hqk
  subst hkv
  obtain ⟨W, hW⟩ : ∃ W, ((w.alloc (.cells #[.int .i64 T, .int .i64 N, .slice ra rl rc, .int .i64 o, .int .i64 (ka : Int), .int .i64 b, .int .i64 c, .int .i64 (fr : Int), .int .i64 (up : Int)] 86)).alloc (.cells #[.int .i64 (q : Int), .slice ka1 n1 kc] 70)).alloc (.cells #[.int .i64 0, .slice none 0 0] 70) = W := ⟨_, rfl⟩
  have hM := mbox hW
  have HS : Hid (∀ wq, Below W.heap.size W wq → ExtS w.heap.size T N o ka b c ra rl rc fr up q (.slice ka1 n1 kc) wq ∧ wq.heap[w.heap.size + 1 + 1]? = some (.cells #[.int .i64 0, .slice none 0 0] 70 (0, 0))) := fun wq h1 => by
    have hc := (h1.block _ (by have := hM.size; omega)).trans hM.chg
    have ht := (h1.block _ (by have := hM.size; omega)).trans hM.tre
    exact ⟨⟨cell_of_blk hc rfl, cell_of_blk hc rfl, cell_of_blk hc rfl, cell_of_blk hc rfl, cell_of_blk hc rfl, cell_of_blk hc rfl, cell_of_blk hc rfl, cell_of_blk hc rfl, cell_of_blk hc rfl, cell_of_blk ht rfl, cell_of_blk ht rfl⟩, (h1.block _ (by have := hM.size; omega)).trans hM.res⟩
  obtain ⟨x0, x1, x2, x3, x4, x5, x6, x7, x8, x9, x10⟩ := (HS.out W (Below.refl _ _)).1
  have ea := each_over (w := W) (A := A) (v := .slice ka1 n1 kc) (recv := .agg #[.int .i64 T, .int .i64 N, .slice ra rl rc, .int .i64 o, .int .i64 (ka : Int), .int .i64 b, .int .i64 c, .int .i64 (fr : Int), .int .i64 (up : Int)]) (dn := 80) (F := fun q ks => (q, if q = ka then outF fr (exB ka fr ks) else exB ka fr ks)) (G := exB ka fr) (fun args w' => by simp [callFunc, Try.func80, Try.f80 ]) rfl (fun _ _ _ => rfl) (hk.below hM.below) (fun b hb => Nat.lt_of_lt_of_le (hA b hb) hM.below.size) (by omega) fun w' q' ks' kv' hm hb' hk' hA' => by
    have := memF_size hm
    have h2 := allFo_mem hall hm
    exact ih w' q' ks' kv' A (by omega) h2.1 h2.2 (by omega) hk' hA'
  have HM : Hid (Below w.heap.size w W ∧ w.heap.size + 3 ≤ W.heap.size) := ⟨hM.below, by have := hM.size; omega⟩
  have HA : Hid (∀ b, A b → b < w.heap.size) := hA
  have HK : Hid ((flatFo (exB ka fr ks)).length ≤ 2000 ∧ lenF (exB ka fr ks) = n1 ∧ n1 ≤ 2000) := ⟨by have := exB_flat ka fr ks; omega, (exB_len ka fr ks).trans hn1, by obtain ⟨L, hL, _⟩ := hk.list; have := rowOf_size L; rw [hL] at this; have h3 := rowOf_len L; rw [hL] at h3; omega⟩
  clear ih hn hall hl hk hA hM hn1
  by_cases hqa : q = ka
  · subst hqa
    have hfu := hqk rfl
    have hfr : fr ≤ 2000 := by have := HK.out.2.2; omega
    have i0 : (0 : Int) ≤ (fr : Int) := Int.natCast_nonneg _
    have i1 : (fr : Int) < (n1 : Int) := by omega
    have hwr : IntKind.i64.wrap ((fr : Int) + 1) = (fr : Int) + 1 := IntWalk.i64_in _ (by omega)
    rw [if_pos rfl]
    clear hqk
    go_enter Try.func80, Try.ntmps80
    go_upto_region 5 with
      (go_at_call 83; refine ea.mono ?_; rintro e w2 ⟨rv, L', rfl, hT2, hG2, hB2⟩
       obtain ⟨la, lc, hlv⟩ := own_form hT2.own
       subst hlv
       have hLn : L'.length = n1 := by rw [← HK.out.2.1, ← hG2, rowOf_len]
       have hfl : fr < L'.length := by rw [hLn]; exact hfu
       obtain ⟨b1, o1, c1', hv, _, d1, d2⟩ := hT2.trIn.cells fr hfl
       injection hv with hv1 _ hv3
       subst hv1
       subst hv3
       obtain ⟨z0, z1, z2, z3, z4, z5, z6, z7, z8, z9, z10⟩ := (HS.out w2 hB2).1
       obtain ⟨xa, xc, hxv, -⟩ := hT2.trIn.kids L'[fr] (List.getElem_mem hfl)
       obtain ⟨⟨kv3, q3, ks3⟩, hx3⟩ : ∃ x, L'[fr] = x := ⟨_, rfl⟩
       rw [hx3] at d1 d2 hxv
       simp only at d1 d2 hxv
       obtain ⟨n3, hn3⟩ : ∃ n, lenF ks3 = n := ⟨_, rfl⟩
       rw [hn3] at hxv
       subst hxv
       have HT : Hid (TrOwn w2 W.heap.size A (.slice (some ⟨b1, o1, none⟩) L'.length lc) L' ∧ rowOf L' = exB q fr ks ∧ Below W.heap.size W w2) := ⟨hT2, hG2, hB2⟩
       have HX : Hid (∃ h : fr < L'.length, L'[fr]'h = (.slice xa n3 xc, q3, ks3)) := ⟨hfl, hx3⟩
       have HLn : Hid (L'.length = n1) := hLn
       rw [hLn]
       rw [hLn] at HT
       clear ea hT2 hG2 hB2 x0 x1 x2 x3 x4 x5 x6 x7 x8 x9 x10 hW hx3 hn3 hfl hLn)
    have hcap : n1 ≤ lc := by
      rcases HT.out.1.own.2 with ⟨h0, h00⟩ | ⟨g, cap, cur, hg, _, _, hle, _⟩
      · injection h0 with _ h1 h2; omega
      · injection hg with _ _ hg3; omega
    obtain ⟨wc, hwc⟩ : ∃ V, w2.alloc (.cells #[.int .i64 (q3 : Int), .slice xa n3 xc] 70) = V := ⟨_, rfl⟩
    have hBx : Below w2.heap.size w2 wc := by rw [← hwc]; exact (Below.refl _ _).alloc (Nat.le_refl _) _
    have hcb := heap_alloc_new w2 (.cells #[.int .i64 (q3 : Int), .slice xa n3 xc] 70)
    obtain ⟨p, hp⟩ : ∃ x, w2.heap.size = x := ⟨_, rfl⟩
    rw [hwc, hp] at hcb
    rw [hwc]
    rw [hp]
    have c1 : wc.cell? ⟨p, 1, none⟩ = some (.slice xa n3 xc) := cell_of_blk (i := 1) hcb rfl
    obtain ⟨Wd, hWd⟩ : ∃ V, wc.drew = V := ⟨_, rfl⟩
    have hBd : Below w2.heap.size w2 Wd := by rw [← hWd]; exact hBx.drew
    have hBc : Below wc.heap.size wc Wd := by rw [← hWd]; exact (Below.refl _ _).drew
    have hW2 : Below W.heap.size W Wd := HT.out.2.2.trans (hBd.mono HT.out.2.2.size)
    have HSd : Hid (∀ wq, Below Wd.heap.size Wd wq → (ExtS w.heap.size T N o q b c ra rl rc fr up q (.slice ka1 n1 kc) wq ∧ wq.cell? ⟨p, 1, none⟩ = some (.slice xa n3 xc)) ∧ Below W.heap.size W wq ∧ TrIn wq (fun b => A b ∨ W.heap.size ≤ b) (.slice (some ⟨b1, o1, none⟩) n1 lc) L') := fun wq hq => by
      have h1 : Below W.heap.size W wq := hW2.trans (hq.mono hW2.size)
      have h2 : Below wc.heap.size wc wq := hBc.trans (hq.mono hBc.size)
      exact ⟨⟨(HS.out wq h1).1, (h2.cell (World.block_lt_of_cell? _ _ c1)).trans c1⟩, h1, HT.out.1.trIn.below (hBd.trans (hq.mono hBd.size))⟩
    have S0 := (HSd.out Wd (Below.refl _ _)).1
    obtain ⟨nn, hnn⟩ : ∃ nn, n1 = (fr + 1) + nn := ⟨n1 - (fr + 1), by omega⟩
    have hup1 := fun w => tr_upto (la := some ⟨b1, o1, none⟩) (f := fr) (sl := n1) (lc := lc) (fi := (fr : Int)) rfl (by omega) w
    obtain ⟨A4, hfro, hfro'⟩ := tr_from (la := some ⟨b1, o1, none⟩) (f := fr + 1) (n := nn) (sl := n1) (lc := lc) (fi := (fr : Int) + 1) (by omega) hnn
    have HF4 : Hid (lc ≠ fr + 1 → A4 = (some (⟨b1, o1, none⟩ : Addr)).map (·.add ((fr + 1) * 2))) := hfro'
    have HNN : Hid (n1 = (fr + 1) + nn) := hnn
    have HW2 : Hid (W.heap.size ≤ Wd.heap.size) := hW2.size
    clear hBd hBc hW2 hBx c1 hp hfro' hnn hcb hwc z0 z1 z2 z3 z4 z5 z6 z7 z8 z9 z10 d1 d2
    refine wp_region_mix [0, 1, 2, 3, 4, 5, 6, 7, 8, 9, 10, 11, 12] 4 16 (fun wq => ExtS w.heap.size T N o q b c ra rl rc fr up q (.slice ka1 n1 kc) wq ∧ wq.cell? ⟨p, 1, none⟩ = some (.slice xa n3 xc)) (by kernel_rfl) (by kernel_rfl) (by rw [hWd]; exact S0) ?_
    rw [hWd]
    clear hWd S0
    iterate 13
      refine StillI.con8 (v := ?_) rfl (by rfl) ?_ ?_
      rotate_left
      · intro w' hSw
        obtain ⟨⟨z0, z1, z2, z3, z4, z5, z6, z7, z8, z9, z10⟩, z12⟩ := hSw
        go_simp
        try with_reducible rfl
      simp only [Act.put, List.setIfInBounds_toArray, List.set_cons_zero, List.set_cons_succ]
    rw [StillI]
    have hB7' : Below Wd.heap.size Wd (Wd.alloc (.cells #[.slice (some ⟨b1, o1, none⟩) fr lc, .slice xa n3 xc, .slice A4 nn (lc - (fr + 1))] 68)) := (Below.refl _ _).alloc (Nat.le_refl _) _
    refine TailC.one (i := 13) (by kernel_rfl) ⟨_, rfl, fun K hK => ?_⟩
    go_simp
    refine hK.out _ _ (fun _ => (HSd.out _ hB7').1) ?_
    clear hK
    have hb7 := heap_alloc_new Wd (.cells #[.slice (some ⟨b1, o1, none⟩) fr lc, .slice xa n3 xc, .slice A4 nn (lc - (fr + 1))] 68)
    obtain ⟨p7, hp7⟩ : ∃ x, Wd.heap.size = x := ⟨_, rfl⟩
    obtain ⟨w7, hw7⟩ : ∃ V, Wd.alloc (.cells #[.slice (some ⟨b1, o1, none⟩) fr lc, .slice xa n3 xc, .slice A4 nn (lc - (fr + 1))] 68) = V := ⟨_, rfl⟩
    rw [hw7] at hB7' hb7 ⊢
    rw [hp7] at hb7 ⊢
    clear hw7
    have hAll := (HSd.out w7 hB7').2.2
    obtain ⟨hfl, hx3⟩ := HX.out
    have hkk := hAll.kids L'[fr] (List.getElem_mem hfl)
    have hsz := memF_size (mem_rowOf (L := L') (x := L'[fr]) (List.getElem_mem hfl))
    rw [hx3, HT.out.2.1] at hsz
    rw [hx3] at hkk
    simp only at hkk hsz
    obtain ⟨L3, hL3, hT3⟩ := hkk.list
    have hL3s : L3.length ≤ 2000 := by have := rowOf_size L3; rw [hL3] at this; have := HK.out.1; omega
    have HDr : Hid (L'.drop fr = (.slice xa n3 xc, q3, ks3) :: L'.drop (fr + 1)) := by show _ = _; rw [← hx3]; exact List.drop_eq_getElem_cons hfl
    have cc := tcat3 (w := w7) (pb := p7) (A := fun b => A b ∨ W.heap.size ≤ b) (La := L'.take fr) (Lb := L3) (Lc := L'.drop (fr + 1)) (cell_of_blk (i := 0) hb7 rfl) (cell_of_blk (i := 1) hb7 rfl) (cell_of_blk (i := 2) hb7 rfl)
      (by
        have h0 : TrIn w7 (fun b => A b ∨ W.heap.size ≤ b) (.slice (some ⟨b1, o1, none⟩) L'.length lc) L' := by rw [HLn.out]; exact hAll
        exact h0.take (by omega))
      hT3
      (by
        have h0 : TrIn w7 (fun b => A b ∨ W.heap.size ≤ b) (.slice (some ⟨b1, o1, none⟩) L'.length lc) L' := by rw [HLn.out]; exact hAll
        exact h0.drop (by rw [HLn.out]; exact HNN.out) HF4.out)
      (by have := HK.out.2.2; have := HLn.out; simp only [List.length_take, List.length_drop]; omega)
    clear hAll hb7 hp7 hkk hsz hT3 hx3 hL3s
    refine TailC.one (i := 14) (by kernel_rfl) ⟨_, rfl, fun K hK => ?_⟩
    go_simp
    refine cc.mono ?_
    rintro e w8 ⟨a8, n8, d8, rfl, hT8, hB8⟩
    dsimp only
    have hB8' : Below Wd.heap.size Wd w8 := hB7'.trans (hB8.mono hB7'.size)
    refine hK.out _ _ (fun _ => (HSd.out _ hB8').1) ?_
    clear hK cc
    have hW8 := (HSd.out _ hB8').2.1
    have hres := (HS.out w8 hW8).2
    have y0 : w8.cell? ⟨w.heap.size + 1 + 1, 0, none⟩ = some (.int .i64 0) := cell_of_blk hres rfl
    have y1 : w8.cell? ⟨w.heap.size + 1 + 1, 1, none⟩ = some (.slice none 0 0) := cell_of_blk hres rfl
    have yf0 : w8.frozen? ⟨w.heap.size + 1 + 1, 0, none⟩ = false := frozen_of_blk hres
    have yf1 : w8.frozen? ⟨w.heap.size + 1 + 1, 1, none⟩ = false := frozen_of_blk hres
    have q0 := res_0 (v0 := .int .i64 (q : Int)) (v1 := .slice a8 n8 d8) hres
    have q1 := res_1 (v0 := .int .i64 (q : Int)) (v1 := .slice a8 n8 d8) hres
    have HR : Hid (FoIn w8 (fun b => A b ∨ W.heap.size ≤ b) (.slice a8 n8 d8) (outF fr (exB q fr ks)) ∧ Below W.heap.size W w8) := by
      refine ⟨?_, hW8⟩
      have h1 := hT8.fo
      have h2 : rowOf (L'.take fr ++ L3 ++ L'.drop (fr + 1)) = outF fr (exB q fr ks) := by
        unfold outF
        rw [← HT.out.2.1, ← rowOf_drop, HDr.out, rowOf, kidsF, restF, ← rowOf_take, List.append_assoc, rowOf_app, rowOf_app, hL3]
      rw [h2] at h1
      refine h1.kept fun x hx _ => ⟨rfl, ?_⟩
      rcases hx with hx | hx
      · exact hx
      · exact .inr (Nat.le_trans (Nat.le_trans HW2.out hB7'.size) hx)
    refine TailC.one (i := 15) (by kernel_rfl) ⟨_, rfl, fun K hK => ?_⟩
    go_simp
    refine hK.out _ _ (fun _ => (HSd.out _ hB8').1) ?_
    clear hK hT8 hB8 hB8' hB7' hW8 hres
    refine TailC.last (i := 16) (by kernel_rfl) ⟨_, rfl, fun K hK => ?_⟩
    go_simp
    refine hK.out _ _ (fun h => absurd h (by omega)) (NoPanic.normal ?_)
    clear hK
    go_wp2_with fail
    refine bodyPost_ret (v := .agg #[.int .i64 (q : Int), .slice a8 n8 d8]) (by simp [results, Try.results80, go_sem, q0, q1]) rfl ?_
    have hz := HM.out.2
    exact ⟨_, rfl, HR.out.1.laidR HA.out hz _ _, ((HM.out.1.trans (HR.out.2.mono HM.out.1.size)).setCell (by simp; omega) _).setCell (by simp; omega) _⟩
  · have hne : ((q : Int) == (ka : Int)) = false := by simp; omega
    have hne2 : decide ((q : Int) = (ka : Int)) = false := decide_eq_false (by omega)
    rw [if_neg hqa]
    clear hqk
    go_enter Try.func80, Try.ntmps80
    go_wp2_with
      (go_at_call 83; refine ea.mono ?_; rintro e w2 ⟨rv, L', rfl, hT2, hG2, hB2⟩
       obtain ⟨la, lc, hlv⟩ := own_form hT2.own
       subst hlv
       obtain ⟨n2, hn2⟩ : ∃ n, L'.length = n := ⟨_, rfl⟩
       rw [hn2] at hT2 ⊢
       obtain ⟨z0, z1, z2, z3, z4, z5, z6, z7, z8, z9, z10⟩ := (HS.out w2 hB2).1
       have hres := (HS.out w2 hB2).2
       have y0 : w2.cell? ⟨w.heap.size + 1 + 1, 0, none⟩ = some (.int .i64 0) := cell_of_blk hres rfl
       have y1 : w2.cell? ⟨w.heap.size + 1 + 1, 1, none⟩ = some (.slice none 0 0) := cell_of_blk hres rfl
       have yf0 : w2.frozen? ⟨w.heap.size + 1 + 1, 0, none⟩ = false := frozen_of_blk hres
       have yf1 : w2.frozen? ⟨w.heap.size + 1 + 1, 1, none⟩ = false := frozen_of_blk hres
       have q0 := res_0 (v0 := .int .i64 (q : Int)) (v1 := .slice la n2 lc) hres
       have q1 := res_1 (v0 := .int .i64 (q : Int)) (v1 := .slice la n2 lc) hres
       have HT : Hid (FoIn w2 (fun b => A b ∨ W.heap.size ≤ b) (.slice la n2 lc) (exB ka fr ks) ∧ Below W.heap.size W w2) := by
         refine ⟨?_, hB2⟩
         have := hT2.trIn.fo
         rw [hG2] at this
         exact this
       clear ea hT2 hG2 hB2 hn2 hres x0 x1 x2 x3 x4 x5 x6 x7 x8 x9 x10 hW)
    refine bodyPost_ret (v := .agg #[.int .i64 (q : Int), .slice la n2 lc]) (by simp [results, Try.results80, go_sem, q0, q1]) rfl ?_
    have hz := HM.out.2
    exact ⟨_, rfl, HT.out.1.laidR HA.out hz _ _, ((HM.out.1.trans (HT.out.2.mono HM.out.1.size)).setCell (by simp; omega) _).setCell (by simp; omega) _⟩
end

end Go.Proofs.Ytikjekfpgklbdaa

/- inline's numberForward and numberBack. -/
namespace Go.Proofs.Ytikjekfpgklbdaa
open Go.RowKit

section
variable {w : World} {T N o b c at' : Int} {ra ca : Option Addr} {rl rc nI cc ka q : Nat}

set_option maxRecDepth 100000 in
set_option maxHeartbeats 3200000 in
theorem st_numF (hq : q ≠ ka) (hq1 : q ≤ 100000) (hn : nI ≤ 100000) :
    Calls Try.prog 93 #[.agg #[.int .i64 T, .int .i64 N, .slice ra rl rc, .int .i64 o, .int .i64 (ka : Int), .int .i64 b, .int .i64 c, .slice ca nI cc, .int .i64 at'], .int .i64 (q : Int)] w fun e w' => e = .returned (.int .i64 ((if q < ka then q else q - 1 + nI : Nat) : Int)) ∧ Below w.heap.size w w' := by
  have HB : Hid (Below w.heap.size w (w.alloc (.cells #[.int .i64 T, .int .i64 N, .slice ra rl rc, .int .i64 o, .int .i64 (ka : Int), .int .i64 b, .int .i64 c, .slice ca nI cc, .int .i64 at'] 89))) := (Below.refl _ _).alloc (Nat.le_refl _) _
  by_cases h : q < ka
  · have hd : decide (q < ka) = true := decide_eq_true h
    rw [if_pos h]
    clear h
    go_enter Try.func93, Try.ntmps93
    go_wp2_with fail
    go_ret
    exact ⟨rfl, HB.out⟩
  · have hd : decide (q < ka) = false := decide_eq_false h
    have i1 : IntKind.i64.wrap ((q : Int) - 1) = (q : Int) - 1 := IntWalk.i64_in _ (by omega)
    have i2 : IntKind.i64.wrap ((q : Int) - 1 + (nI : Int)) = (q : Int) - 1 + (nI : Int) := IntWalk.i64_in _ (by omega)
    have HE : Hid ((q : Int) - 1 + (nI : Int) = ((q - 1 + nI : Nat) : Int)) := by show _ = _; omega
    rw [if_neg h, ← HE.out]
    clear h
    go_enter Try.func93, Try.ntmps93
    go_wp2_with fail
    go_ret
    exact ⟨rfl, HB.out⟩
set_option maxRecDepth 100000 in
set_option maxHeartbeats 3200000 in
theorem st_numB (hq : q < ka ∨ nI ≤ q + 1) (hq1 : q ≤ 100000) (hn : nI ≤ 100000) :
    Calls Try.prog 92 #[.agg #[.int .i64 T, .int .i64 N, .slice ra rl rc, .int .i64 o, .int .i64 (ka : Int), .int .i64 b, .int .i64 c, .slice ca nI cc, .int .i64 at'], .int .i64 (q : Int)] w fun e w' => e = .returned (.int .i64 ((if q < ka then q else q + 1 - nI : Nat) : Int)) ∧ Below w.heap.size w w' := by
  have HB : Hid (Below w.heap.size w (w.alloc (.cells #[.int .i64 T, .int .i64 N, .slice ra rl rc, .int .i64 o, .int .i64 (ka : Int), .int .i64 b, .int .i64 c, .slice ca nI cc, .int .i64 at'] 89))) := (Below.refl _ _).alloc (Nat.le_refl _) _
  by_cases h : q < ka
  · have hd : decide (q < ka) = true := decide_eq_true h
    rw [if_pos h]
    clear h
    go_enter Try.func92, Try.ntmps92
    go_wp2_with fail
    go_ret
    exact ⟨rfl, HB.out⟩
  · have hd : decide (q < ka) = false := decide_eq_false h
    have i1 : IntKind.i64.wrap ((q : Int) + 1) = (q : Int) + 1 := IntWalk.i64_in _ (by omega)
    have i2 : IntKind.i64.wrap ((q : Int) + 1 - (nI : Int)) = (q : Int) + 1 - (nI : Int) := IntWalk.i64_in _ (by omega)
    have HE : Hid ((q : Int) + 1 - (nI : Int) = ((q + 1 - nI : Nat) : Int)) := by show _ = _; omega
    rw [if_neg h, ← HE.out]
    clear h
    go_enter Try.func92, Try.ntmps92
    go_wp2_with fail
    go_ret
    exact ⟨rfl, HB.out⟩
end

end Go.Proofs.Ytikjekfpgklbdaa

/- inline's forward. -/
namespace Go.Proofs.Ytikjekfpgklbdaa
open Go.RowKit

/-- What inline's forward and back read. -/
def InlS (sz : Nat) (T N o a b c : Int) (ra : Option Addr) (rl rc : Nat) (ov : Value) (fr : Nat) (q : Nat) (kv : Value) (wq : World) : Prop :=
  wq.cell? ⟨sz, 0, none⟩ = some (.int .i64 T) ∧ wq.cell? ⟨sz, 1, none⟩ = some (.int .i64 N) ∧ wq.cell? ⟨sz, 2, none⟩ = some (.slice ra rl rc) ∧ wq.cell? ⟨sz, 3, none⟩ = some (.int .i64 o) ∧ wq.cell? ⟨sz, 4, none⟩ = some (.int .i64 a) ∧ wq.cell? ⟨sz, 5, none⟩ = some (.int .i64 b) ∧ wq.cell? ⟨sz, 6, none⟩ = some (.int .i64 c) ∧ wq.cell? ⟨sz, 7, none⟩ = some ov ∧ wq.cell? ⟨sz, 8, none⟩ = some (.int .i64 (fr : Int)) ∧ wq.cell? ⟨sz + 1, 0, none⟩ = some (.int .i64 (q : Int)) ∧ wq.cell? ⟨sz + 1, 1, none⟩ = some kv

/-- What holds of each tree of a derivation. -/
def InP (I : List Nat) (f sh ush rk : Nat → Nat) (ka fr : Nat) (q : Nat) (ks : Fo) : Prop :=
  q ≤ 100000 ∧ (q ≠ ka → sh q = (if q < ka then q else q - 1 + I.length)) ∧ (q = ka → ∃ j k2 k3, dropF fr ks = .nd j k2 k3 ∧ j ≠ ka ∧ ush (sh j) = j ∧ AtF I f j ∧ rk j = ka + f j)
theorem allN_app {P : Nat → Fo → Prop} : ∀ (t u : Fo), allFo P t → allFo P u → allFo P (appF t u)
  | .no, _, _, h => h
  | .nd _ _ ts, u, h, h' => ⟨h.1, h.2.1, allN_app ts u h.2.2 h'⟩
theorem allN_take {P : Nat → Fo → Prop} : ∀ (i : Nat) (t : Fo), allFo P t → allFo P (takeF i t)
  | 0, _, _ => trivial
  | _ + 1, .no, _ => trivial
  | i + 1, .nd _ _ ts, h => ⟨h.1, h.2.1, allN_take i ts h.2.2⟩
theorem allN_drop {P : Nat → Fo → Prop} : ∀ (i : Nat) (t : Fo), allFo P t → allFo P (dropF i t)
  | 0, _, h => h
  | _ + 1, .no, _ => trivial
  | i + 1, .nd _ _ ts, h => allN_drop i ts h.2.2
theorem allN_out {P : Nat → Fo → Prop} {i : Nat} {t : Fo} (h : allFo P t) : allFo P (outF i t) := by
  unfold outF
  have hd := allN_drop i t h
  refine allN_app _ _ (allN_take i t h) (allN_app _ _ ?_ ?_)
  · cases hD : dropF i t with
    | no => trivial
    | nd q ks ts => rw [hD] at hd; exact hd.2.1
  · cases hD : dropF i t with
    | no => trivial
    | nd q ks ts => rw [hD] at hd; exact hd.2.2
theorem takeF_dropF : ∀ (i : Nat) (t : Fo), appF (takeF i t) (dropF i t) = t
  | 0, _ => rfl
  | _ + 1, .no => rfl
  | i + 1, .nd _ _ ts => by rw [takeF, dropF, appF, takeF_dropF i ts]
theorem takeF_len : ∀ (i : Nat) (t : Fo) {j k2 k3}, dropF i t = .nd j k2 k3 → lenF (takeF i t) = i
  | 0, _, _, _, _, _ => rfl
  | _ + 1, .no, _, _, _, h => by cases h
  | i + 1, .nd _ _ ts, _, _, _, h => by rw [takeF, lenF, takeF_len i ts h]
/-- From the top or from below: the same. -/
theorem inl_out {a i : Nat} {sh ush rk : Nat → Nat} {t : Fo} {j : Nat} {k2 k3 : Fo} (h : dropF i t = .nd j k2 k3) (hj : j ≠ a) : inlF a i sh ush rk (outF i t) = outF i (inlF a i sh ush rk t) ∧ headF (dropF i (inlF a i sh ush rk t)) = sh j ∧ (flatFo (outF i t)).length + 1 = (flatFo t).length := by
  have e := takeF_dropF i t
  rw [h] at e
  have hl := takeF_len i t h
  have e1 : inlF a i sh ush rk t = appF (inlF a i sh ush rk (takeF i t)) (.nd (sh j) (inlF a i sh ush rk k2) (inlF a i sh ush rk k3)) := by
    rw [← e, inlF_app, inlF, if_neg hj, if_neg hj, e]
  have hl1 : lenF (inlF a i sh ush rk (takeF i t)) = i := by rw [inlF_len]; exact hl
  have e2 : outF i t = appF (takeF i t) (appF k2 k3) := by unfold outF; rw [h]; rfl
  refine ⟨?_, ?_, ?_⟩
  · rw [e1, outF_app hl1, e2, inlF_app, inlF_app]
  · rw [e1, drop_app_of hl1]; rfl
  · have e3 : (flatFo t).length = (flatFo (appF (takeF i t) (.nd j k2 k3))).length := by rw [e]
    rw [e2, e3, flat_app, flat_app, flat_app, flatFo]
    simp only [List.length_append, List.length_cons]
    omega

section
variable {w0 : World} {B : Nat} {ov : Value} {I : List Nat} {f sh ush rk : Nat → Nat} {T N o b c : Int} {ra : Option Addr} {rl rc fr ka : Nat}

set_option maxRecDepth 100000 in
set_option maxHeartbeats 3200000 in
theorem inline_forwards (hIl : I.length ≤ 100000) (hO : w0.ownsRow B 3 1 ov I.length (idxV I)) : ∀ (n : Nat) (w : World) (q : Nat) (ks : Fo) (kv : Value) (A : Nat → Prop), (flatFo ks).length < n → Below w0.heap.size w0 w → InP I f sh ush rk ka fr q ks → allFo (InP I f sh ush rk ka fr) ks → (flatFo ks).length ≤ 2000 → FoIn w A kv ks → (∀ b, A b → b < w.heap.size) →
    Calls Try.prog 90 #[.agg #[.int .i64 T, .int .i64 N, .slice ra rl rc, .int .i64 o, .int .i64 (ka : Int), .int .i64 b, .int .i64 c, ov, .int .i64 (fr : Int)], .agg #[.int .i64 (q : Int), kv]] w fun e w' => ∃ kv', e = .returned (.agg #[.int .i64 ((if q = ka then rk (ush (headF (dropF fr (inlF ka fr sh ush rk ks)))) else sh q : Nat) : Int), kv']) ∧ FoIn w' (fun b => A b ∨ w.heap.size ≤ b) kv' (if q = ka then outF fr (inlF ka fr sh ush rk ks) else inlF ka fr sh ush rk ks) ∧ Below w.heap.size w w' := by
  obtain ⟨ca, cc, hov⟩ := own_form hO
  subst hov
  intro n
  induction n with
  | zero => intro _ _ _ _ _ h; omega
  | succ n ih =>
  intro w q ks kv A hn hb0 hqP hall hl hk hA
  have hk1 := hk
  obtain ⟨ka1, kc, hkv, _⟩ := hk1
  obtain ⟨n1, hn1⟩ : ∃ n, lenF ks = n := ⟨_, rfl⟩
  rw [hn1] at hkv
  subst hkv
  obtain ⟨W, hW⟩ : ∃ W, ((w.alloc (.cells #[.int .i64 T, .int .i64 N, .slice ra rl rc, .int .i64 o, .int .i64 (ka : Int), .int .i64 b, .int .i64 c, .slice ca I.length cc, .int .i64 (fr : Int)] 89)).alloc (.cells #[.int .i64 (q : Int), .slice ka1 n1 kc] 70)).alloc (.cells #[.int .i64 0, .slice none 0 0] 70) = W := ⟨_, rfl⟩
  have hM := mbox hW
  have HS : Hid (∀ wq, Below W.heap.size W wq → InlS w.heap.size T N o ka b c ra rl rc (.slice ca I.length cc) fr q (.slice ka1 n1 kc) wq ∧ wq.heap[w.heap.size + 1 + 1]? = some (.cells #[.int .i64 0, .slice none 0 0] 70 (0, 0))) := fun wq h1 => by
    have hc := (h1.block _ (by have := hM.size; omega)).trans hM.chg
    have ht := (h1.block _ (by have := hM.size; omega)).trans hM.tre
    exact ⟨⟨cell_of_blk hc rfl, cell_of_blk hc rfl, cell_of_blk hc rfl, cell_of_blk hc rfl, cell_of_blk hc rfl, cell_of_blk hc rfl, cell_of_blk hc rfl, cell_of_blk hc rfl, cell_of_blk hc rfl, cell_of_blk ht rfl, cell_of_blk ht rfl⟩, (h1.block _ (by have := hM.size; omega)).trans hM.res⟩
  obtain ⟨x0, x1, x2, x3, x4, x5, x6, x7, x8, x9, x10⟩ := (HS.out W (Below.refl _ _)).1
  have HEa : Hid (∀ (wq : World) (A' : Nat → Prop) (v' : Value) (ks' : Fo), Below W.heap.size W wq → FoIn wq A' v' ks' → (∀ b, A' b → b < wq.heap.size) → (flatFo ks').length ≤ (flatFo ks).length → allFo (InP I f sh ush rk ka fr) ks' → Calls Try.prog 83 #[v', .func (.func 90) #[.agg #[.int .i64 T, .int .i64 N, .slice ra rl rc, .int .i64 o, .int .i64 (ka : Int), .int .i64 b, .int .i64 c, .slice ca I.length cc, .int .i64 (fr : Int)]] #[]] wq fun e w' => ∃ ov L', e = .returned ov ∧ TrOwn w' wq.heap.size A' ov L' ∧ rowOf L' = inlF ka fr sh ush rk ks' ∧ Below wq.heap.size wq w') := fun wq A' v' ks' hq' hk' hA' hs' hall' => by
    refine each_over (F := fun q ks => (if q = ka then rk (ush (headF (dropF fr (inlF ka fr sh ush rk ks)))) else sh q, if q = ka then outF fr (inlF ka fr sh ush rk ks) else inlF ka fr sh ush rk ks)) (G := inlF ka fr sh ush rk) (fun args w' => by simp [callFunc, Try.func90, Try.f90 ]) rfl (fun _ _ _ => rfl) hk' hA' (by omega) fun w' q'' ks'' kv'' hm hb' hk'' hA'' => ?_
    have := memF_size hm
    have h2 := allFo_mem hall' hm
    exact ih w' q'' ks'' kv'' A' (by omega) (hb0.trans ((hM.below.trans ((hq'.trans (hb'.mono hq'.size)).mono hM.below.size)).mono hb0.size)) h2.1 h2.2 (by omega) hk'' hA''
  have HM : Hid (Below w.heap.size w W ∧ w.heap.size + 3 ≤ W.heap.size ∧ Below w0.heap.size w0 W) := ⟨hM.below, by have := hM.size; omega, hb0.trans (hM.below.mono hb0.size)⟩
  have HA : Hid (∀ b, A b → b < w.heap.size) := hA
  have HK : Hid (FoIn W A (.slice ka1 n1 kc) ks ∧ allFo (InP I f sh ush rk ka fr) ks ∧ (flatFo ks).length ≤ 2000) := ⟨hk.below hM.below, hall, hl⟩
  have HQ : Hid (InP I f sh ush rk ka fr q ks) := hqP
  clear ih hn hall hl hk hA hM hb0 hqP
  by_cases hqa : q = ka
  · subst hqa
    obtain ⟨j, k2, k3, hD, hj, hush, hAt, hrk⟩ := HQ.out.2.2 rfl
    obtain ⟨hio, hhd, hsz⟩ := inl_out (sh := sh) (ush := ush) (rk := rk) hD hj
    rw [if_pos rfl, if_pos rfl, hhd, hush, hrk, ← hio]
    have hfj : f j ≤ 100000 := by have := hAt.1; omega
    have hq1 := HQ.out.1
    have hwr2 : IntKind.i64.wrap ((q : Int) + (f j : Int)) = (q : Int) + (f j : Int) := IntWalk.i64_in _ (by omega)
    have HFJ : Hid (((q + f j : Nat) : Int) = (q : Int) + (f j : Int)) := by show _ = _; omega
    rw [HFJ.out]
    obtain ⟨L, hLk, hTL⟩ := HK.out.1.list
    have hLn : L.length = n1 := by rw [← hn1, ← hLk, rowOf_len]
    have hfl : fr < L.length := by
      rcases Nat.lt_or_ge fr L.length with h | h
      · exact h
      · rw [← hLk, ← rowOf_drop, List.drop_eq_nil_of_le h] at hD
        cases hD
    have hLs : L.length ≤ 2000 := by have := rowOf_size L; rw [hLk] at this; have := HK.out.2.2; omega
    have hDr := List.drop_eq_getElem_cons hfl
    obtain ⟨b1, o1, c1', hv, _, d1, d2⟩ := hTL.cells fr hfl
    injection hv with hv1 hv2 hv3
    clear hv2
    subst hv1
    subst hv3
    obtain ⟨xa, xc, hxv, -⟩ := hTL.kids L[fr] (List.getElem_mem hfl)
    have hkk := hTL.kids L[fr] (List.getElem_mem hfl)
    obtain ⟨⟨kv3, q3, ks3⟩, hx3⟩ : ∃ x, L[fr] = x := ⟨_, rfl⟩
    rw [hx3] at d1 d2 hxv hDr hkk
    simp only at d1 d2 hxv hkk
    obtain ⟨n3, hn3⟩ : ∃ n, lenF ks3 = n := ⟨_, rfl⟩
    rw [hn3] at hxv
    subst hxv
    have hD' : rowOf (L.drop fr) = .nd j k2 k3 := by rw [rowOf_drop, hLk]; exact hD
    rw [hDr, rowOf] at hD'
    injection hD' with hj3 hk23 hk3
    simp only at hj3 hk23
    subst hj3
    subst hk23
    obtain ⟨L3, hL3, hT3⟩ := hkk.list
    have hL3s : L3.length ≤ 2000 := by
      have h1 := rowOf_size L3
      rw [hL3] at h1
      have h2 := memF_size (mem_rowOf (L := L) (x := L[fr]) (List.getElem_mem hfl))
      rw [hx3, hLk] at h2
      have := HK.out.2.2
      simp only at h2
      omega
    have hOut : rowOf (L.take fr ++ L3 ++ L.drop (fr + 1)) = outF fr ks := by
      unfold outF
      rw [← hLk, ← rowOf_drop, hDr, rowOf, kidsF, restF, ← rowOf_take, List.append_assoc, rowOf_app, rowOf_app, hL3]
    have HL : Hid (L.length = n1 ∧ fr < L.length ∧ L.length ≤ 2000 ∧ L3.length ≤ 2000 ∧ rowOf (L.take fr ++ L3 ++ L.drop (fr + 1)) = outF fr ks ∧ (flatFo (outF fr ks)).length + 1 = (flatFo ks).length) := ⟨hLn, hfl, hLs, hL3s, hOut, hsz⟩
    have HTL : Hid (TrIn W A (.slice (some ⟨b1, o1, none⟩) n1 kc) L ∧ TrIn W A (.slice xa n3 xc) L3) := ⟨hTL, hT3⟩
    have hcap : n1 ≤ kc := by obtain ⟨_, _, h1, h2⟩ := hTL.form; injection h1 with _ _ h3; omega
    have hfu : fr < n1 := by omega
    have hfr : fr ≤ 2000 := by omega
    have i0 : (0 : Int) ≤ (fr : Int) := Int.natCast_nonneg _
    have i1 : (fr : Int) < (n1 : Int) := by omega
    have hwr : IntKind.i64.wrap ((fr : Int) + 1) = (fr : Int) + 1 := IntWalk.i64_in _ (by omega)
    have HIx : Hid (∀ wq, Below W.heap.size W wq → Calls Try.prog 94 #[.slice ca I.length cc, .int .i64 (q3 : Int)] wq fun e w' => e = .returned (.int .i64 (f q3 : Int)) ∧ w' = wq) := fun wq hq' => by
      have hb : Below w0.heap.size w0 wq := HM.out.2.2.trans (hq'.mono HM.out.2.2.size)
      have h1 := own_below hO hb fun g hg => (hO.lt g hg).2
      rw [idxV_ints] at h1
      have h2 := own_ints (Z := I.map fun (n : Nat) => (n : Int)) (by rw [List.length_map]; exact h1)
      refine index_at h2 (by rw [List.length_map]; omega) (by rw [List.length_map]; exact hAt.1) (by rw [getD_map, hAt.2.1]) fun j hj => ?_
      rw [getD_map]
      have := hAt.2.2 j hj
      omega
    clear hD hj hush hAt hrk hio hhd hsz hLk hTL hLn hfl hLs hDr hkk hx3 hn3 hk3 hT3 hL3 hL3s hOut hn1
    go_enter Try.func90, Try.ntmps90
    go_upto_region 4 with fail
    obtain ⟨wc, hwc⟩ : ∃ V, W.alloc (.cells #[.int .i64 (q3 : Int), .slice xa n3 xc] 70) = V := ⟨_, rfl⟩
    have hBx : Below W.heap.size W wc := by rw [← hwc]; exact (Below.refl _ _).alloc (Nat.le_refl _) _
    have hcb := heap_alloc_new W (.cells #[.int .i64 (q3 : Int), .slice xa n3 xc] 70)
    obtain ⟨p, hp⟩ : ∃ x, W.heap.size = x := ⟨_, rfl⟩
    rw [hwc, hp] at hcb
    rw [hwc]
    rw [hp]
    have c0 : wc.cell? ⟨p, 0, none⟩ = some (.int .i64 (q3 : Int)) := cell_of_blk (i := 0) hcb rfl
    have c1 : wc.cell? ⟨p, 1, none⟩ = some (.slice xa n3 xc) := cell_of_blk (i := 1) hcb rfl
    obtain ⟨Wd, hWd⟩ : ∃ V, wc.drew = V := ⟨_, rfl⟩
    have hBc : Below wc.heap.size wc Wd := by rw [← hWd]; exact (Below.refl _ _).drew
    have hW2 : Below W.heap.size W Wd := hBx.trans (hBc.mono hBx.size)
    have HSd : Hid (∀ wq, Below Wd.heap.size Wd wq → (InlS w.heap.size T N o q b c ra rl rc (.slice ca I.length cc) fr q (.slice (some ⟨b1, o1, none⟩) n1 kc) wq ∧ wq.cell? ⟨p, 0, none⟩ = some (.int .i64 (q3 : Int)) ∧ wq.cell? ⟨p, 1, none⟩ = some (.slice xa n3 xc)) ∧ Below W.heap.size W wq) := fun wq hq => by
      have h1 : Below W.heap.size W wq := hW2.trans (hq.mono hW2.size)
      have h2 : Below wc.heap.size wc wq := hBc.trans (hq.mono hBc.size)
      exact ⟨⟨(HS.out wq h1).1, (h2.cell (World.block_lt_of_cell? _ _ c0)).trans c0, (h2.cell (World.block_lt_of_cell? _ _ c1)).trans c1⟩, h1⟩
    have S0 := (HSd.out Wd (Below.refl _ _)).1
    obtain ⟨nn, hnn⟩ : ∃ nn, n1 = (fr + 1) + nn := ⟨n1 - (fr + 1), by omega⟩
    have hup1 := fun w => tr_upto (la := some ⟨b1, o1, none⟩) (f := fr) (sl := n1) (lc := kc) (fi := (fr : Int)) rfl (by omega) w
    obtain ⟨A4, hfro, hfro'⟩ := tr_from (la := some ⟨b1, o1, none⟩) (f := fr + 1) (n := nn) (sl := n1) (lc := kc) (fi := (fr : Int) + 1) (by omega) hnn
    have HF4 : Hid (kc ≠ fr + 1 → A4 = (some (⟨b1, o1, none⟩ : Addr)).map (·.add ((fr + 1) * 2))) := hfro'
    have HNN : Hid (n1 = (fr + 1) + nn) := hnn
    have HW2 : Hid (W.heap.size ≤ Wd.heap.size) := hW2.size
    clear hBc hW2 hBx c0 c1 hp hfro' hnn hcb hwc x0 x1 x2 x3 x4 x5 x6 x7 x8 x9 x10 d1 d2 hW
    refine wp_region_mix [0, 1, 2, 3, 4, 5, 6, 7, 8, 9, 10, 11, 12] 3 15 (fun wq => InlS w.heap.size T N o q b c ra rl rc (.slice ca I.length cc) fr q (.slice (some ⟨b1, o1, none⟩) n1 kc) wq ∧ wq.cell? ⟨p, 0, none⟩ = some (.int .i64 (q3 : Int)) ∧ wq.cell? ⟨p, 1, none⟩ = some (.slice xa n3 xc)) (by kernel_rfl) (by kernel_rfl) (by rw [hWd]; exact S0) ?_
    rw [hWd]
    clear hWd S0
    iterate 13
      refine StillI.con8 (v := ?_) rfl (by rfl) ?_ ?_
      rotate_left
      · intro w' hSw
        obtain ⟨⟨z0, z1, z2, z3, z4, z5, z6, z7, z8, z9, z10⟩, z11, z12⟩ := hSw
        go_simp
        try with_reducible rfl
      simp only [Act.put, List.setIfInBounds_toArray, List.set_cons_zero, List.set_cons_succ]
    rw [StillI]
    have hB7' : Below Wd.heap.size Wd (Wd.alloc (.cells #[.slice (some ⟨b1, o1, none⟩) fr kc, .slice xa n3 xc, .slice A4 nn (kc - (fr + 1))] 68)) := (Below.refl _ _).alloc (Nat.le_refl _) _
    refine TailC.one (i := 13) (by kernel_rfl) ⟨_, rfl, fun K hK => ?_⟩
    go_simp
    refine hK.out _ _ (fun _ => (HSd.out _ hB7').1) ?_
    clear hK
    have hb7 := heap_alloc_new Wd (.cells #[.slice (some ⟨b1, o1, none⟩) fr kc, .slice xa n3 xc, .slice A4 nn (kc - (fr + 1))] 68)
    obtain ⟨p7, hp7⟩ : ∃ x, Wd.heap.size = x := ⟨_, rfl⟩
    obtain ⟨w7, hw7⟩ : ∃ V, Wd.alloc (.cells #[.slice (some ⟨b1, o1, none⟩) fr kc, .slice xa n3 xc, .slice A4 nn (kc - (fr + 1))] 68) = V := ⟨_, rfl⟩
    rw [hw7] at hB7' hb7 ⊢
    rw [hp7] at hb7 ⊢
    clear hw7
    have hW7 := (HSd.out w7 hB7').2
    have cc1 := tcat3 (w := w7) (pb := p7) (A := A) (La := L.take fr) (Lb := L3) (Lc := L.drop (fr + 1)) (cell_of_blk (i := 0) hb7 rfl) (cell_of_blk (i := 1) hb7 rfl) (cell_of_blk (i := 2) hb7 rfl)
      (by
        have h0 : TrIn w7 A (.slice (some ⟨b1, o1, none⟩) L.length kc) L := by rw [HL.out.1]; exact HTL.out.1.below hW7
        exact h0.take (by have := HL.out.2.1; omega))
      (HTL.out.2.below hW7)
      (by
        have h0 : TrIn w7 A (.slice (some ⟨b1, o1, none⟩) L.length kc) L := by rw [HL.out.1]; exact HTL.out.1.below hW7
        exact h0.drop (by rw [HL.out.1]; exact HNN.out) HF4.out)
      (by have := HL.out.2.2.1; have := HL.out.2.2.2.1; simp only [List.length_take, List.length_drop]; omega)
    clear hb7 hp7 hfro hup1 hwr
    refine TailC.one (i := 14) (by kernel_rfl) ⟨_, rfl, fun K hK => ?_⟩
    go_simp
    refine cc1.mono ?_
    rintro e w8 ⟨a8, n8, d8, rfl, hT8, hB8⟩
    dsimp only
    have hB8' : Below Wd.heap.size Wd w8 := hB7'.trans (hB8.mono hB7'.size)
    refine hK.out _ _ (fun _ => (HSd.out _ hB8').1) ?_
    clear hK cc1
    refine TailC.last (i := 15) (by kernel_rfl) ⟨_, rfl, fun K hK => ?_⟩
    go_simp
    refine hK.out _ _ (fun h => absurd h (by omega)) (NoPanic.normal ?_)
    clear hK
    have HT8 : Hid (FoIn w8 (fun b => (A b ∨ W.heap.size ≤ b) ∧ b < w8.heap.size) (.slice a8 n8 d8) (outF fr ks)) := by
      have h1 := hT8.fo
      rw [HL.out.2.2.2.2.1] at h1
      exact h1.kept fun x hx hlt => ⟨rfl, hx.imp id fun h => Nat.le_trans hW7.size h, hlt⟩
    have HB8 : Hid (Below Wd.heap.size Wd w8) := hB8'
    clear hT8 hB8 hB8' hB7' hW7
    go_upto_region 5 with fail
    obtain ⟨We, hWe⟩ : ∃ V, w8.drew = V := ⟨_, rfl⟩
    have hBe : Below w8.heap.size w8 We := by rw [← hWe]; exact (Below.refl _ _).drew
    have HSe : Hid (∀ wq, Below We.heap.size We wq → (InlS w.heap.size T N o q b c ra rl rc (.slice ca I.length cc) fr q (.slice (some ⟨b1, o1, none⟩) n1 kc) wq ∧ wq.cell? ⟨p, 0, none⟩ = some (.int .i64 (q3 : Int)) ∧ wq.cell? ⟨p, 1, none⟩ = some (.slice xa n3 xc)) ∧ Below W.heap.size W wq ∧ Below w8.heap.size w8 wq) := fun wq hq => by
      have h1 : Below w8.heap.size w8 wq := hBe.trans (hq.mono hBe.size)
      have h2 := HSd.out wq (HB8.out.trans (h1.mono HB8.out.size))
      exact ⟨h2.1, h2.2, h1⟩
    have S0 := (HSe.out We (Below.refl _ _)).1
    have ix := HIx.out We (HSe.out We (Below.refl _ _)).2.1
    clear hBe
    refine wp_region_mix [0, 1, 2, 3, 4, 5, 6, 7, 10, 11, 12] 5 15 (fun wq => InlS w.heap.size T N o q b c ra rl rc (.slice ca I.length cc) fr q (.slice (some ⟨b1, o1, none⟩) n1 kc) wq ∧ wq.cell? ⟨p, 0, none⟩ = some (.int .i64 (q3 : Int)) ∧ wq.cell? ⟨p, 1, none⟩ = some (.slice xa n3 xc)) (by kernel_rfl) (by kernel_rfl) (by rw [hWe]; exact S0) ?_
    rw [hWe]
    clear hWe S0
    iterate 11
      refine StillI.con8 (v := ?_) rfl (by rfl) ?_ ?_
      rotate_left
      · intro w' hSw
        obtain ⟨⟨z0, z1, z2, z3, z4, z5, z6, z7, z8, z9, z10⟩, z11, z12⟩ := hSw
        go_simp
        try with_reducible rfl
      simp only [Act.put, List.setIfInBounds_toArray, List.set_cons_zero, List.set_cons_succ]
    rw [StillI]
    refine TailC.one (i := 8) (by kernel_rfl) ⟨_, rfl, fun K hK => ?_⟩
    go_simp
    refine ix.mono ?_
    rintro e w9 ⟨rfl, h9⟩
    obtain rfl : We = w9 := h9.symm
    dsimp only
    refine hK.out _ _ (fun _ => (HSe.out We (Below.refl _ _)).1) ?_
    clear hK ix
    refine TailC.read (i := 9) (v := .int .i64 ((q : Int) + (f q3 : Int))) rfl (by kernel_rfl) (by rfl) (fun w' _ => by unfold execOp; go_simp) (HSe.out We (Below.refl _ _)).1 ?_
    simp only [Act.put, List.setIfInBounds_toArray, List.set_cons_zero, List.set_cons_succ]
    have hWe8 := (HSe.out We (Below.refl _ _)).2
    have ea := HEa.out We (fun b => (A b ∨ W.heap.size ≤ b) ∧ b < w8.heap.size) (.slice a8 n8 d8) (outF fr ks) hWe8.1 (HT8.out.below hWe8.2) (fun b hb => Nat.lt_of_lt_of_le hb.2 hWe8.2.size) (by have := HL.out.2.2.2.2.2; omega) (allN_out HK.out.2.1)
    refine TailC.one (i := 13) (by kernel_rfl) ⟨_, rfl, fun K hK => ?_⟩
    go_simp
    refine ea.mono ?_
    rintro e w10 ⟨rv, L', rfl, hT3, hG3, hB3⟩
    obtain ⟨la, lc, hlv⟩ := own_form hT3.own
    subst hlv
    obtain ⟨n4, hn4⟩ : ∃ n, L'.length = n := ⟨_, rfl⟩
    rw [hn4] at hT3 ⊢
    dsimp only
    have hW3 := (HSe.out w10 hB3).2.1
    refine hK.out _ _ (fun _ => (HSe.out w10 hB3).1) ?_
    clear hK ea
    have hres := (HS.out w10 hW3).2
    have y0 : w10.cell? ⟨w.heap.size + 1 + 1, 0, none⟩ = some (.int .i64 0) := cell_of_blk hres rfl
    have y1 : w10.cell? ⟨w.heap.size + 1 + 1, 1, none⟩ = some (.slice none 0 0) := cell_of_blk hres rfl
    have yf0 : w10.frozen? ⟨w.heap.size + 1 + 1, 0, none⟩ = false := frozen_of_blk hres
    have yf1 : w10.frozen? ⟨w.heap.size + 1 + 1, 1, none⟩ = false := frozen_of_blk hres
    have q0 := res_0 (v0 := .int .i64 ((q : Int) + (f q3 : Int))) (v1 := .slice la n4 lc) hres
    have q1 := res_1 (v0 := .int .i64 ((q : Int) + (f q3 : Int))) (v1 := .slice la n4 lc) hres
    refine TailC.one (i := 14) (by kernel_rfl) ⟨_, rfl, fun K hK => ?_⟩
    go_simp
    refine hK.out _ _ (fun _ => (HSe.out w10 hB3).1) ?_
    clear hK
    have HT : Hid (FoIn w10 (fun b => A b ∨ W.heap.size ≤ b) (.slice la n4 lc) (inlF q fr sh ush rk (outF fr ks)) ∧ Below W.heap.size W w10) := by
      refine ⟨?_, hW3⟩
      have h1 := hT3.trIn.fo
      rw [hG3] at h1
      refine h1.kept fun x hx _ => ⟨rfl, ?_⟩
      rcases hx with hx | hx
      · exact hx.1
      · exact .inr (Nat.le_trans hWe8.1.size hx)
    clear hT3 hG3 hB3 hn4 hres hW3 hWe8
    refine TailC.last (i := 15) (by kernel_rfl) ⟨_, rfl, fun K hK => ?_⟩
    go_simp
    refine hK.out _ _ (fun h => absurd h (by omega)) (NoPanic.normal ?_)
    clear hK
    go_wp2_with fail
    refine bodyPost_ret (v := .agg #[.int .i64 ((q : Int) + (f q3 : Int)), .slice la n4 lc]) (by simp [results, Try.results90, go_sem, q0, q1]) rfl ?_
    have hz := HM.out.2.1
    exact ⟨_, rfl, HT.out.1.laidR HA.out hz _ _, ((HM.out.1.trans (HT.out.2.mono HM.out.1.size)).setCell (by simp; omega) _).setCell (by simp; omega) _⟩
  · have hne : ((q : Int) == (ka : Int)) = false := by simp; omega
    rw [if_neg hqa, if_neg hqa]
    go_enter Try.func90, Try.ntmps90
    go_upto_region 2 with fail
    obtain ⟨Wd, hWd⟩ : ∃ V, W.drew = V := ⟨_, rfl⟩
    have hBd : Below W.heap.size W Wd := by rw [← hWd]; exact (Below.refl _ _).drew
    have S0 := (HS.out Wd hBd).1
    have nf := st_numF (w := Wd) (T := T) (N := N) (o := o) (b := b) (c := c) (at' := (fr : Int)) (ra := ra) (ca := ca) (rl := rl) (rc := rc) (nI := I.length) (cc := cc) (ka := ka) (q := q) hqa HQ.out.1 hIl
    rw [← HQ.out.2.1 hqa] at nf
    have HBd : Hid (Below W.heap.size W Wd) := hBd
    clear hBd x0 x1 x2 x3 x4 x5 x6 x7 x8 x9 x10 hW
    refine wp_region_mix [0, 1, 2, 4, 5, 6, 7] 4 10 (InlS w.heap.size T N o ka b c ra rl rc (.slice ca I.length cc) fr q (.slice ka1 n1 kc)) (by kernel_rfl) (by kernel_rfl) (by rw [hWd]; exact S0) ?_
    rw [hWd]
    clear hWd S0
    iterate 7
      refine StillI.con8 (v := ?_) rfl (by rfl) ?_ ?_
      rotate_left
      · intro w' hSw
        obtain ⟨z0, z1, z2, z3, z4, z5, z6, z7, z8, z9, z10⟩ := hSw
        go_simp
        try with_reducible rfl
      simp only [Act.put, List.setIfInBounds_toArray, List.set_cons_zero, List.set_cons_succ]
    rw [StillI]
    refine TailC.one (i := 3) (by kernel_rfl) ⟨_, rfl, fun K hK => ?_⟩
    go_simp
    refine nf.mono ?_
    rintro e w2 ⟨rfl, hB2⟩
    dsimp only
    have hW2 : Below W.heap.size W w2 := HBd.out.trans (hB2.mono HBd.out.size)
    refine hK.out _ _ (fun _ => (HS.out w2 hW2).1) ?_
    clear hK nf
    have ea := HEa.out w2 A (.slice ka1 n1 kc) ks hW2 (HK.out.1.below hW2) (fun b hb => Nat.lt_of_lt_of_le (HA.out b hb) (Nat.le_trans HM.out.1.size hW2.size)) (Nat.le_refl _) HK.out.2.1
    refine TailC.one (i := 8) (by kernel_rfl) ⟨_, rfl, fun K hK => ?_⟩
    go_simp
    refine ea.mono ?_
    rintro e w3 ⟨rv, L', rfl, hT3, hG3, hB3⟩
    obtain ⟨la, lc, hlv⟩ := own_form hT3.own
    subst hlv
    obtain ⟨n3, hn3⟩ : ∃ n, L'.length = n := ⟨_, rfl⟩
    rw [hn3] at hT3 ⊢
    dsimp only
    have hW3 : Below W.heap.size W w3 := hW2.trans (hB3.mono hW2.size)
    refine hK.out _ _ (fun _ => (HS.out w3 hW3).1) ?_
    clear hK ea
    have hres := (HS.out w3 hW3).2
    have y0 : w3.cell? ⟨w.heap.size + 1 + 1, 0, none⟩ = some (.int .i64 0) := cell_of_blk hres rfl
    have y1 : w3.cell? ⟨w.heap.size + 1 + 1, 1, none⟩ = some (.slice none 0 0) := cell_of_blk hres rfl
    have yf0 : w3.frozen? ⟨w.heap.size + 1 + 1, 0, none⟩ = false := frozen_of_blk hres
    have yf1 : w3.frozen? ⟨w.heap.size + 1 + 1, 1, none⟩ = false := frozen_of_blk hres
    have q0 := res_0 (v0 := .int .i64 ((sh q : Nat) : Int)) (v1 := .slice la n3 lc) hres
    have q1 := res_1 (v0 := .int .i64 ((sh q : Nat) : Int)) (v1 := .slice la n3 lc) hres
    refine TailC.one (i := 9) (by kernel_rfl) ⟨_, rfl, fun K hK => ?_⟩
    go_simp
    refine hK.out _ _ (fun _ => (HS.out w3 hW3).1) ?_
    clear hK
    have HT : Hid (FoIn w3 (fun b => A b ∨ W.heap.size ≤ b) (.slice la n3 lc) (inlF ka fr sh ush rk ks) ∧ Below W.heap.size W w3) := by
      refine ⟨?_, hW3⟩
      have h1 := hT3.trIn.fo
      rw [hG3] at h1
      exact h1.kept fun x hx _ => ⟨rfl, hx.imp id fun h => Nat.le_trans hW2.size h⟩
    clear hT3 hG3 hB3 hn3 hres hW3 hW2 hB2
    refine TailC.last (i := 10) (by kernel_rfl) ⟨_, rfl, fun K hK => ?_⟩
    go_simp
    refine hK.out _ _ (fun h => absurd h (by omega)) (NoPanic.normal ?_)
    clear hK
    go_wp2_with fail
    refine bodyPost_ret (v := .agg #[.int .i64 ((sh q : Nat) : Int), .slice la n3 lc]) (by simp [results, Try.results90, go_sem, q0, q1]) rfl ?_
    have hz := HM.out.2.1
    exact ⟨_, rfl, HT.out.1.laidR HA.out hz _ _, ((HM.out.1.trans (HT.out.2.mono HM.out.1.size)).setCell (by simp; omega) _).setCell (by simp; omega) _⟩
end

end Go.Proofs.Ytikjekfpgklbdaa
