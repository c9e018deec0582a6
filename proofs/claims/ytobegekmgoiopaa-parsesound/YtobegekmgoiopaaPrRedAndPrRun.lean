import Derived.Test.YtobegekmgoiopaaPrMemAndPrCell
import Derived.Test.YtobegekmgoiopaaTkLookAndRowI
import Derived.Laws.AppendOwnNone
import Derived.Test.YtobegekmgoiopaaLRRunAndPrFor
/- The contract of package parse's reduce. -/
namespace Go.Proofs.Ytobegekmgoiopaa
open Go.RowKit

/-- x[f:] of places. -/
theorem pl_from {la : Option Addr} {f n sl lc : Nat} (hs : sl = f + n) : ∃ A, (∀ w : World, Sem.run Try.prog (Instr.sliceAt 47 (.slice la sl lc) (some (.int .i64 f)) none none) w = .ok (.slice A n (lc - f)) w) ∧ (lc ≠ f → A = la.map (·.add (f * 2))) := by
  have h0 : (0 : Int) ≤ (f : Int) := Int.natCast_nonneg _
  have h1 : (f : Int) ≤ (sl : Int) := by omega
  have h2 : sl - f = n := by omega
  refine ⟨if lc = f then la else la.map (·.add (f * 2)), fun w => ?_, fun h => by rw [if_neg h]⟩
  go_simp
  intro h
  omega

/-- x[:f] of places. -/
theorem pl_upto {g f sl lc : Nat} (hu : f ≤ lc) (w : World) : Sem.run Try.prog (Instr.sliceAt 47 (.slice (some ⟨g, 0, none⟩) sl lc) none (some (.int .i64 f)) none) w = .ok (.slice (some ⟨g, 0, none⟩) f lc) w := by
  have h0 : (0 : Int) ≤ (f : Int) := Int.natCast_nonneg _
  have h1 : (f : Int) ≤ (lc : Int) := by omega
  go_simp

/-- What is put behind the rule so far. -/
def derP (m : Int) (PL : List Pl) (f i : Nat) : List Int := m :: (((PL.drop f).take i).map fun x => x.2.2).flatten
theorem derP_succ {m : Int} {PL : List Pl} {f i : Nat} (h : f + i < PL.length) : derP m PL f (i + 1) = derP m PL f i ++ (PL.getD (f + i) noPl).2.2 := by
  unfold derP
  have hi : i < (PL.drop f).length := by rw [List.length_drop]; omega
  rw [List.take_succ_eq_append_getElem hi, List.map_append, List.flatten_append]
  have e : (PL.drop f)[i] = PL.getD (f + i) noPl := by simp [List.getD, h]
  rw [e]
  simp
theorem derP_le {m : Int} {PL : List Pl} {f i : Nat} {c : Nat} (h : ((PL.map fun x => x.2.2).map List.length).sum ≤ c) : (derP m PL f i).length ≤ c + 1 := by
  unfold derP
  rw [List.length_cons, List.length_flatten]
  have e : ((((PL.drop f).take i).map fun x => x.2.2).map List.length).sum ≤ ((PL.map fun x => x.2.2).map List.length).sum := by
    have h1 : ((PL.map fun x => x.2.2).map List.length).sum = (((PL.take f).map fun x => x.2.2).map List.length).sum + (((PL.drop f).map fun x => x.2.2).map List.length).sum := by
      rw [← List.sum_append, ← List.map_append, ← List.map_append, List.take_append_drop]
    have h2 : (((PL.drop f).map fun x => x.2.2).map List.length).sum = ((((PL.drop f).take i).map fun x => x.2.2).map List.length).sum + ((((PL.drop f).drop i).map fun x => x.2.2).map List.length).sum := by
      rw [← List.sum_append, ← List.map_append, ← List.map_append, List.take_append_drop]
    omega
  omega

set_option maxRecDepth 100000 in
set_option maxHeartbeats 6400000 in
theorem rn_reduce {w0 w : World} {d : RnA} {sv : Value} {PL : List Pl} {p q : Nat} {R : List Ru} {tok : List Int} {C : List (List Ce)} {G : List (List Int)} (h : RnM w0 d sv PL p q w) (E : RnE w0 d R tok C G) {m kp rl Lf qs gg : Nat} (hm : m < R.length) (hL : (R.getD m (0, [])).1 = (Lf : Int)) (hrl : (R.getD m (0, [])).2.length = rl) (hPL : PL.length = kp + 1 + rl) (hl : PL.length ≤ 10000) (hq : q ≤ 10000) (hsum : ((PL.map fun x => x.2.2).map List.length).sum ≤ 10000)
    (hqs : (PL.getD kp noPl).1 = qs) (hqG : qs < G.length) (hLG : Lf < (G.getD qs []).length) (hgg : (G.getD qs []).getD Lf 0 = (gg : Int)) :
    Calls Try.prog 22 #[.pointer (some ⟨d.ra, 0, none⟩), .int .i64 m] w fun e w' => e = .returned (.tuple #[]) ∧ ∃ sv' dv, RnM w0 d sv' (PL.take (kp + 1) ++ [(gg, dv, (m : Int) :: ((PL.drop (kp + 1)).map fun x => x.2.2).flatten)]) p (q + 1) w' := by
  obtain ⟨g, cap, hsv, hg, hcap⟩ := h.form (by omega)
  obtain ⟨sl, hsl⟩ : ∃ n, PL.length = n := ⟨_, rfl⟩
  rw [hsl] at hsv hcap hl
  subst hsv
  obtain ⟨f, hf⟩ : ∃ f, kp + 1 = f := ⟨_, rfl⟩
  have hslf : sl = f + rl := by omega
  obtain ⟨rb, ro, rc, qa, qc, hrv, hrb, z1, z2, hqc, _⟩ := (E.rules.below h.since).2 m hm
  obtain ⟨ru, hrue⟩ : ∃ x, R.getD m (0, []) = x := ⟨_, rfl⟩
  rw [hL] at z1
  rw [hrl] at z2
  rw [← Nat.add_assoc] at z2
  have c2 := (h.cell (i := 2) rfl).1
  rw [hrv] at c2
  have v0 : (0 : Int) ≤ (m : Int) := Int.natCast_nonneg _
  have v1 : (m : Int) < (R.length : Int) := by omega
  have hfr : IntKind.i64.wrap ((sl : Int) - (rl : Int)) = (f : Int) := by rw [IntWalk.i64_in _ (by omega)]; omega
  have HM : Hid (RnM w0 d (.slice (some ⟨g, 0, none⟩) sl cap) PL p q w) := h
  have HE : Hid (RnE w0 d R tok C G) := E
  have HRv : Hid (d.rv = .slice (some ⟨rb, ro, none⟩) R.length rc) := hrv
  have HSl : Hid (PL.length = sl) := hsl
  have HF : Hid (kp + 1 = f) := hf
  have HSum : Hid (((PL.map fun x => x.2.2).map List.length).sum ≤ 10000) := hsum
  have HQs : Hid ((PL.getD kp noPl).1 = qs) := hqs
  have HGG : Hid (qs < G.length ∧ Lf < (G.getD qs []).length ∧ (G.getD qs []).getD Lf 0 = (gg : Int)) := ⟨hqG, hLG, hgg⟩
  have HSF : Hid (sl = f + rl) := hslf
  have hrl10 : rl ≤ 10000 := by omega
  have c8 := (h.cell (i := 8) rfl).1
  have hra := h.lt.1
  have hB0 : w.heap.size ≤ w.heap.size := Nat.le_refl _
  obtain ⟨rnb, hrnb⟩ : ∃ x, d.ra = x := ⟨_, rfl⟩
  have HRa : Hid (d.ra = rnb) := hrnb
  rw [hrnb] at c2 c8 hra ⊢
  clear h E hrv hsl hf hsum hqs hqG hLG hgg hslf hrue hL hrl hPL hrnb hm hrb hqc
  go_enter Try.func22, Try.ntmps22
  go_upto_region 1 with fail
  obtain ⟨W1, hW1⟩ : ∃ W, w.alloc (.cells #[.int .i64 Lf, .slice qa rl qc] 28) = W := ⟨_, rfl⟩
  have hM1 := HM.out.alloc (.cells #[.int .i64 Lf, .slice qa rl qc] 28)
  have b0 : W1.cell? ⟨w.heap.size, 0, none⟩ = some (.int .i64 Lf) := by rw [← hW1]; simp [go_sem]
  have b1 : W1.cell? ⟨w.heap.size, 1, none⟩ = some (.slice qa rl qc) := by rw [← hW1]; simp [go_sem]
  rw [hW1] at hM1 ⊢
  have c8' := (hM1.cell (i := 8) rfl).1
  rw [HRa.out] at c8'
  have HM1 : Hid (RnM w0 d (.slice (some ⟨g, 0, none⟩) sl cap) PL p q W1) := hM1
  clear hW1 hM1 c2 c8 z1 z2 v0 v1
  go_big_quiet (fail)
  obtain ⟨W2, hW2⟩ : ∃ W, W1.drewN nq = W := ⟨_, rfl⟩
  have hB2 : Below W1.heap.size W1 W2 := by rw [← hW2]; exact below_drewN (Below.refl _ _) _
  rw [hW2]
  have HM2 : Hid (RnM w0 d (.slice (some ⟨g, 0, none⟩) sl cap) PL p q W2) := HM1.out.below hB2
  have e0 := (hB2.cell (World.block_lt_of_cell? _ _ b0)).trans b0
  have HE0 : Hid (W2.cell? ⟨w.heap.size, 0, none⟩ = some (.int .i64 Lf)) := e0
  have c8 : (W2.alloc (.cells #[.int .i64 m] 3)).cell? ⟨rnb, 8, none⟩ = some (.slice (some ⟨g, 0, none⟩) sl cap) := by
    have := ((HM2.out.alloc (.cells #[.int .i64 m] 3)).cell (i := 8) rfl).1
    rw [HRa.out] at this
    exact this
  obtain ⟨A, hA, hA'⟩ := pl_from (la := some ⟨g, 0, none⟩) (lc := cap) HSF.out
  have HA' : Hid (cap ≠ f → A = (some (⟨g, 0, none⟩ : Addr)).map (·.add (f * 2))) := hA'
  have HO0 : Hid ((W2.alloc (.cells #[.int .i64 m] 3)).ownsRow W2.heap.size 3 1 (.slice (some ⟨W2.heap.size, 0, none⟩) 1 1) 1 [.int .i64 m]) := by
    have := World.ownsRow_lit (base := W2.heap.size) (e := 3) (size := 1) W2 #[.int .i64 m] 1 (Nat.le_refl _) (by unfold maxLen; omega) rfl
    exact this
  clear hW2 hB2 b0 b1 c8' hA' e0 HM1
  go_wp2_with fail
  clear c8 hA hfr
  go_loopw [6, 36] (fun s6 s36 wr => ∃ (i gd cd : Nat), s6 = .slice (some ⟨gd, 0, none⟩) (derP m PL f i).length cd ∧ s36 = .int .i64 i ∧ i ≤ rl ∧ wr.ownsRow W2.heap.size 3 1 (.slice (some ⟨gd, 0, none⟩) (derP m PL f i).length cd) (derP m PL f i).length ((derP m PL f i).map (Value.int .i64)) ∧ Below W2.heap.size W2 wr) (fun _ s _ => rl - (intOf s).toNat)
  case atStart => exact ⟨0, W2.heap.size, 1, rfl, rfl, Nat.zero_le _, HO0.out, (Below.refl _ _).alloc (Nat.le_refl _) _⟩
  case round =>
    clear HO0
    obtain ⟨i, gd, cd, rfl, rfl, hi, hown, hB⟩ := hrel
    have HB : Hid (Below W2.heap.size W2 wr) := hB
    obtain ⟨dl, hdl⟩ : ∃ n, (derP m PL f i).length = n := ⟨_, rfl⟩
    rw [hdl] at hown ⊢
    have hdl1 : dl ≤ 10001 := by rw [← hdl]; exact derP_le HSum.out
    have HDl : Hid ((derP m PL f i).length = dl) := hdl
    have HOw : Hid (wr.ownsRow W2.heap.size 3 1 (.slice (some ⟨gd, 0, none⟩) dl cd) dl ((derP m PL f i).map (Value.int .i64))) := hown
    have hMr := HM2.out.below hB
    have HMr : Hid (RnM w0 d (.slice (some ⟨g, 0, none⟩) sl cap) PL p q wr) := hMr
    clear hB hown hdl
    by_cases hlt : i < rl
    · have hcf : cap ≠ f := by have := HSF.out; omega
      have hAe := HA'.out hcf
      simp only [Option.map_some, Addr.add_lit, Nat.zero_add] at hAe
      subst hAe
      have hfi : f + i < PL.length := by rw [HSl.out, HSF.out]; omega
      obtain ⟨c0, c1⟩ := hMr.place (by rw [HSl.out]) (i := f + i) hfi
      have hdv := hMr.derAt (i := f + i) hfi
      have hsu := derP_succ (m := (m : Int)) hfi
      have hle := derP_le (m := (m : Int)) (f := f) (i := i + 1) HSum.out
      obtain ⟨⟨s, dv, D⟩, hpl⟩ : ∃ x, PL.getD (f + i) noPl = x := ⟨_, rfl⟩
      rw [hpl] at c0 c1 hdv hsu
      simp only at c0 c1 hdv hsu
      rw [Nat.add_mul] at c0 c1
      have HSu : Hid (derP m PL f (i + 1) = derP m PL f i ++ D) := hsu
      have hDl : dl + D.length ≤ 10001 := by rw [hsu, List.length_append, HDl.out] at hle; exact hle
      have i0 : (0 : Int) ≤ (i : Int) := Int.natCast_nonneg _
      have i1 : (i : Int) < (rl : Int) := by omega
      obtain ⟨i0', hi0, hz0, hz1, hz2⟩ := info_parts Try.infoInt
      clear hMr hpl hsu hle
      rcases hdv with ⟨rfl, rfl⟩ | ⟨hD0, b, c, rfl, _, hbl, _, hcl⟩
      · have own5 := HOw.out.alloc (.cells #[.int .i64 s, .slice none 0 0] 46)
        have HB5 : Hid (Below W2.heap.size W2 (wr.alloc (.cells #[.int .i64 s, .slice none 0 0] 46))) := HB.out.alloc HB.out.size _
        go_wp2_with
          (at_builtin
           refine wpList_append_own_none rfl _ _ _ rfl W2.heap.size 3 i0' 1 Try.underlying25 hi0 (.slice (some ⟨gd, 0, none⟩) dl cd) dl ((derP m PL f i).map (Value.int .i64)) rfl own5 rfl ?_)
        go_roundw
        case rel =>
          have e := HSu.out
          rw [List.append_nil] at e
          exact ⟨i + 1, gd, cd, by rw [e, HDl.out], by go_num, by omega, by rw [e, HDl.out]; exact own5, HB5.out⟩
        case measure => simp [intOf]; omega
      · have own5 := HOw.out.alloc (.cells #[.int .i64 s, .slice (some ⟨b, 0, none⟩) D.length c] 46)
        have hB5 : Below W2.heap.size W2 (wr.alloc (.cells #[.int .i64 s, .slice (some ⟨b, 0, none⟩) D.length c] 46)) := HB.out.alloc HB.out.size _
        have HB5 : Hid (Below W2.heap.size W2 (wr.alloc (.cells #[.int .i64 s, .slice (some ⟨b, 0, none⟩) D.length c] 46))) := hB5
        have hsz5 := hB5.size
        have hnw : ∀ j u, (D.map (Value.int .i64))[j]? = some u → (wr.alloc (.cells #[.int .i64 s, .slice (some ⟨b, 0, none⟩) D.length c] 46)).cell? ((⟨b, 0, none⟩ : Addr).add j) = some u := fun j u hj => by
          have hjl := (List.getElem?_eq_some_iff.1 hj).1
          simp only [List.length_map] at hjl
          rw [Addr.add_lit, Nat.zero_add, World.cell?_alloc_past _ _ _ hbl, hcl j hjl, ← hj]
          simp [List.getD, hjl]
        have hone : ∀ u ∈ D.map (Value.int .i64), u.oneCell' = true := fun u hu => by
          obtain ⟨n, _, rfl⟩ := List.mem_map.1 hu
          rfl
        have n1 : dl + D.length ≤ maxLen := by unfold maxLen; omega
        have n2 : (dl + D.length) * 8 ≤ 140737488355328 := by omega
        have nl : (D.map (Value.int .i64)).length = D.length * 1 := by simp
        clear hB5 hcl
        go_wp2_with
          (at_builtin
           refine wpList_append_lies _ rfl _ _ _ rfl W2.heap.size 3 i0' _ 1 8 Try.underlying25 hi0 hz0 hz1 hz2 rfl (by omega) (.slice (some ⟨gd, 0, none⟩) dl cd) dl ((derP m PL f i).map (Value.int .i64)) rfl own5 ⟨b, 0, none⟩ D.length c (D.map (Value.int .i64)) rfl nl hnw hone hD0 n1 n2 hsz5 (wr.heap.size + 1) (by simp) ?_
           intro g6 cap6 w6 hown6 hgrow6 hat6 hlt6)
        go_roundw
        case rel =>
          refine ⟨i + 1, g6, cap6, by rw [HSu.out, List.length_append, HDl.out], by go_num, by omega, by rw [HSu.out, List.length_append, HDl.out, List.map_append]; exact hown6, HB5.out.grown hgrow6 HB5.out.size fun k hk => (own5.lt k hk).1⟩
        case measure => simp [intOf]; omega
    · obtain rfl : i = rl := by omega
      have HDe : Hid (derP m PL f i = (m : Int) :: ((PL.drop f).map fun x => x.2.2).flatten) := by
        show derP m PL f i = _
        unfold derP
        rw [List.take_of_length_le (by rw [List.length_drop, HSl.out, HSF.out]; omega)]
      have hul : f ≤ cap := by have := HSF.out; omega
      have c8 := (hMr.cell (i := 8) rfl).1
      have c8f := (hMr.cell (i := 8) rfl).2
      rw [HRa.out] at c8 c8f
      have hup := fun w => pl_upto (g := g) (sl := sl) hul w
      have hMc := hMr.cut (g := g) (cap := cap) (n := f) (by rw [HSl.out]) (by rw [HSl.out, HSF.out]; omega)
      rw [HRa.out] at hMc
      have HMc : Hid (RnM w0 d (.slice (some ⟨g, 0, none⟩) f cap) (PL.take f) p q (wr.setCell ⟨rnb, 8, none⟩ (.slice (some ⟨g, 0, none⟩) f cap))) := hMc
      clear hMr hMc
      go_upto_region 9 with fail
      obtain ⟨W4, hW4⟩ : ∃ W, wr.setCell ⟨rnb, 8, none⟩ (.slice (some ⟨g, 0, none⟩) f cap) = W := ⟨_, rfl⟩
      have hsz4 : wr.heap.size = W4.heap.size := by rw [← hW4]; simp
      have hne8 : ∀ b, b ≠ rnb → W4.heap[b]? = wr.heap[b]? := fun b hb => by rw [← hW4]; exact Below.heap_setCell _ _ _ _ hb
      have HDv : Hid (DvAt W4 (fun b => W2.heap.size ≤ b) (.slice (some ⟨gd, 0, none⟩) dl cd) (derP m PL f i)) := by
        refine .inr ⟨by rw [HDe.out]; simp, gd, cd, by rw [HDl.out], (HOw.out.lt gd rfl).1, by rw [← hsz4]; exact (HOw.out.lt gd rfl).2, ?_, fun j hj => ?_⟩
        · rcases HOw.out.2 with ⟨h0, _⟩ | ⟨g', cap', cur', hg', _, _, hle, _⟩
          · cases h0
          · injection hg' with _ _ e3; rw [HDl.out]; omega
        have hgr : gd ≠ rnb := fun e => by
          have h1 := (HOw.out.lt gd rfl).1
          have h2 := HM2.out.lt.1
          rw [HRa.out] at h2
          omega
        rw [World.cell?_of_block (w := wr) (a := ⟨gd, j, none⟩) (hne8 gd hgr), HOw.out.cellAt j (by rw [← HDl.out]; omega)]
        simp [List.getD, hj]
      rw [hW4] at HMc ⊢
      have HM4 : Hid (RnM w0 d (.slice (some ⟨g, 0, none⟩) f cap) (PL.take f) p q W4.drew) := HMc.out.drew
      have hbx : W4.drew.cell? ⟨w.heap.size, 0, none⟩ = some (.int .i64 Lf) := by
        have h1 := (HB.out.cell (World.block_lt_of_cell? _ _ HE0.out)).trans HE0.out
        have hgr : w.heap.size ≠ rnb := by omega
        exact (World.cell?_of_block (w := wr) (a := ⟨w.heap.size, 0, none⟩) (hne8 _ hgr)).trans h1
      have hl4 : (PL.take f).length = kp + 1 := by rw [List.length_take, HSl.out, HSF.out, ← HF.out]; omega
      have hq4 : ((PL.take f).getD kp noPl).1 = qs := by rw [← HQs.out]; simp [List.getD, ← HF.out]
      obtain ⟨xv, hxv⟩ : ∃ x, ((PL.take f).getD kp noPl).2.1 = x := ⟨_, rfl⟩
      have la := rn_last HM4.out hl4 (by have := HSF.out; have := HF.out; omega) hq4 hxv
      obtain ⟨xa, xn, xc, hxv'⟩ : ∃ a n c, xv = .slice a n c := by
        obtain ⟨a, c, e⟩ := (HM4.out.derAt (i := kp) (by rw [hl4]; omega)).slice
        exact ⟨a, _, c, by rw [← hxv, e]⟩
      subst hxv'
      rw [HRa.out] at la
      have c4 := (HM4.out.cell (i := 4) rfl).1
      rw [HRa.out] at c4
      obtain ⟨yb, yo, yc, rk, hyv, k1, hrow⟩ := HE.out.tab.goto.2 qs HGG.out.1
      obtain ⟨ub, uo, uc, hrk, _, k2⟩ := hrow.2 Lf HGG.out.2.1
      rw [HGG.out.2.2] at k2
      rw [hyv] at c4
      subst hrk
      obtain ⟨rn, hrn⟩ : ∃ x, (G.getD qs []).length = x := ⟨_, rfl⟩
      rw [hrn] at k1
      have HRest : Hid (∀ wq, Below W4.drew.heap.size W4.drew wq → (wq.cell? ⟨rnb, 4, none⟩ = some (.slice (some ⟨yb, yo, none⟩) G.length yc) ∧ wq.cell? ⟨w.heap.size, 0, none⟩ = some (.int .i64 Lf)) ∧ wq.cell? ⟨yb, yo + qs, none⟩ = some (.slice (some ⟨ub, uo, none⟩) rn uc) ∧ wq.cell? ⟨ub, uo + Lf, none⟩ = some (.int .i64 gg)) := fun wq hq => by
        have hz : Below w0.heap.size w0 wq := HM4.out.since.trans (hq.mono HM4.out.le)
        exact ⟨⟨(hq.cell (World.block_lt_of_cell? _ _ c4)).trans c4, (hq.cell (World.block_lt_of_cell? _ _ hbx)).trans hbx⟩, (hz.cell (World.block_lt_of_cell? _ _ k1)).trans k1, (hz.cell (World.block_lt_of_cell? _ _ k2)).trans k2⟩
      have j0 : (0 : Int) ≤ (qs : Int) := Int.natCast_nonneg _
      have j1 : (qs : Int) < (G.length : Int) := by have := HGG.out.1; omega
      have l0 : (0 : Int) ≤ (Lf : Int) := Int.natCast_nonneg _
      have l1 : (Lf : Int) < (rn : Int) := by have := HGG.out.2.1; rw [hrn] at this; omega
      clear hW4 c8 c8f hup k1 k2 hrow hyv hrn hxv hq4
      refine wp_region_held_seq [0, 1, 2, 3, 4, 5, 10, 11] [6, 7, 8, 9, 12, 13, 14] 14 (fun w' => w'.cell? ⟨rnb, 4, none⟩ = some (.slice (some ⟨yb, yo, none⟩) G.length yc) ∧ w'.cell? ⟨w.heap.size, 0, none⟩ = some (.int .i64 Lf)) (by kernel_rfl) (by kernel_rfl) ⟨c4, hbx⟩ ?_
      iterate 8
        refine StillI.conL (v := ?_) rfl (by rfl) ?_ ?_
        rotate_left
        · intro w' hSw
          obtain ⟨hSw1, hSw2⟩ := hSw
          go_simp
          try with_reducible rfl
        simp only [Act.put, List.setIfInBounds_toArray, List.set_cons_zero, List.set_cons_succ]
      rw [StillI]
      refine TailI.conL rfl (fun K hK => ?_)
      go_simp
      refine la.mono ?_
      rintro e w5 ⟨rfl, hB5⟩
      dsimp only
      have HB5 : Hid (Below W4.drew.heap.size W4.drew w5) := hB5
      obtain ⟨⟨m3, m4⟩, m5, m6⟩ := HRest.out w5 hB5
      refine hK.out _ _ (fun _ => ⟨m3, m4⟩) ?_
      clear hK la hB5 c4 hbx
      iterate 6
        refine TailI.conL rfl (fun K hK => ?_)
        go_simp
        refine hK.out _ _ (fun _ => ⟨m3, m4⟩) ?_
        clear hK
      rw [TailI]
      refine NoPanic.normal ?_
      clear m3 m4 m5 m6
      have hlf : (PL.take f).length = f := hl4.trans HF.out
      have h5 := HM4.out.below HB5.out
      have h6 := h5.alloc (.cells #[.int .i64 gg, .slice (some ⟨gd, 0, none⟩) dl cd] 46)
      have own6 := h6.stack
      rw [hlf] at own6
      have c8 := (h5.cell (i := 8) rfl).1
      have d8 := (h6.cell (i := 8) rfl).1
      have d8f := (h6.cell (i := 8) rfl).2
      have d7 := (h6.cell (i := 7) rfl).1
      have d7f := (h6.cell (i := 7) rfl).2
      have hra6 := h6.lt.1
      have hne : some d.ra ≠ (Value.slice (some ⟨g, 0, none⟩) f cap).ownBlock := fun e => h6.apart e.symm
      rw [HRa.out] at c8 d8 d8f d7 d7f hra6 hne
      have hf10 : f ≤ 10000 := by have := HSF.out; omega
      have hn1 : f + 1 ≤ maxLen := by unfold maxLen; omega
      have hn2 : (f + 1) * 32 ≤ 140737488355328 := by omega
      have hB6 : w0.heap.size ≤ (w5.alloc (.cells #[.int .i64 gg, .slice (some ⟨gd, 0, none⟩) dl cd] 46)).heap.size := h6.le
      obtain ⟨i0, hi0, hz0, hz1, hz2⟩ := info_parts Try.infoPl
      have H6 : Hid (RnM w0 d (.slice (some ⟨g, 0, none⟩) f cap) (PL.take f) p q (w5.alloc (.cells #[.int .i64 gg, .slice (some ⟨gd, 0, none⟩) dl cd] 46))) := h6
      have HLf : Hid ((PL.take f).length = f) := hlf
      clear h5 h6 hl4 hlf
      go_wp2_with
        (at_builtin
         refine wpList_append_lies _ rfl _ _ _ rfl w0.heap.size 46 i0 _ 2 32 Try.underlying47 hi0 hz0 hz1 hz2 rfl (by omega) (.slice (some ⟨g, 0, none⟩) f cap) f (flatPl (PL.take f)) rfl own6 ⟨w5.heap.size, 0, none⟩ 1 1 [.int .i64 gg, .slice (some ⟨gd, 0, none⟩) dl cd] rfl rfl (World.news_of_block (cs := #[.int .i64 gg, .slice (some ⟨gd, 0, none⟩) dl cd]) (t := 46) (fr := (0, 0)) (heap_alloc_new w5 _)) (by simp [Value.oneCell']) (by omega) hn1 hn2 hB6 (w5.heap.size + 1) (by simp) ?_
         intro g7 cap7 w7 hown7 hgrow7 hat7 hlt7
         have x8 := (hgrow7.cell_far ⟨rnb, 8, none⟩ hra6 hne).trans d8
         have x8f := (hgrow7.frozen_far ⟨rnb, 8, none⟩ hra6 hne).trans d8f
         have x7 := (hgrow7.cell_far ⟨rnb, 7, none⟩ hra6 hne).trans d7
         have x7f := (hgrow7.frozen_far ⟨rnb, 7, none⟩ hra6 hne).trans d7f)
      go_end0
      refine ⟨rfl, .slice (some ⟨g7, 0, none⟩) (f + 1) cap7, .slice (some ⟨gd, 0, none⟩) dl cd, ?_⟩
      rw [HF.out, ← HDe.out]
      have hkeep : ∀ b, W2.heap.size ≤ b → b < W4.heap.size → (w5.alloc (.cells #[.int .i64 gg, .slice (some ⟨gd, 0, none⟩) dl cd] 46)).heap[b]? = W4.heap[b]? ∧ RnO d (.slice (some ⟨g, 0, none⟩) f cap) b := fun b hb1 hb2 => by
        have hs5 : W4.heap.size ≤ w5.heap.size := HB5.out.size
        refine ⟨((heap_alloc_old w5 _ (show b < w5.heap.size by omega))).trans (HB5.out.block b hb2), fun e => ?_, fun e => ?_⟩
        · have := HM2.out.lt.1; omega
        · have := (HM2.out.stack.lt g rfl).2
          simp only [Value.ownBlock, Option.some.injEq] at e
          omega
      have hsz : W4.heap.size ≤ (w5.alloc (.cells #[.int .i64 gg, .slice (some ⟨gd, 0, none⟩) dl cd] 46)).heap.size := by
        have : W4.heap.size ≤ w5.heap.size := HB5.out.size
        simp
        omega
      have r := H6.out.turn (sv' := .slice (some ⟨g7, 0, none⟩) (f + 1) cap7) (PL' := PL.take f ++ [(gg, .slice (some ⟨gd, 0, none⟩) dl cd, derP m PL f i)]) hgrow7 (by
          have := hown7
          rw [List.length_append, HLf.out, flatPl_append]
          exact this) (fun g' hg' => by
          obtain rfl : g7 = g' := by simpa [Value.ownBlock] using hg'
          rcases hat7 with h5 | h5
          · exact .inl h5
          · exact .inr (by simpa using h5)) (fun x hx => by
          rcases List.mem_append.1 hx with hx | hx
          · exact H6.out.der x hx
          · simp only [List.mem_singleton] at hx
            subst hx
            exact HDv.out.kept hsz hkeep)
      rw [HRa.out] at r
      have r2 := r.setRed (q + 1)
      rw [HRa.out] at r2
      exact r2

end Go.Proofs.Ytobegekmgoiopaa

/- The contract of package parse's run. -/
namespace Go.Proofs.Ytobegekmgoiopaa
open Go.RowKit

theorem pl_field1 {s : Int} {a : Option Addr} {n c : Nat} (w : World) : Sem.run Try.prog (Instr.field 46 (.agg #[.int .i64 s, .slice a n c]) 1) w = .ok (.slice a n c) w := by
  unfold Instr.field asAgg
  go_simp

/-- What the places say. -/
def pcOf (PL : List Pl) (p q : Nat) : PC := ⟨PL.map fun x => x.1, (PL.drop 1).map fun x => x.2.2, p, q⟩

section
variable {PL : List Pl} {p q : Nat}
theorem pc_shift (h : 0 < PL.length) (s : Nat) : pcOf (PL ++ [(s, .slice none 0 0, [])]) (p + 1) q = ⟨(pcOf PL p q).S ++ [s], (pcOf PL p q).F ++ [[]], p + 1, q⟩ := by
  unfold pcOf
  rw [List.drop_append_of_le_length (by omega)]
  simp
theorem pc_red {kp rl gg : Nat} (h : PL.length = kp + 1 + rl) (dv : Value) (m : Int) :
    pcOf (PL.take (kp + 1) ++ [(gg, dv, m :: ((PL.drop (kp + 1)).map fun x => x.2.2).flatten)]) p (q + 1) = ⟨(pcOf PL p q).S.take (kp + 1) ++ [gg], (pcOf PL p q).F.take kp ++ [m :: ((pcOf PL p q).F.drop kp).flatten], p, q + 1⟩ := by
  unfold pcOf
  have hl : (PL.take (kp + 1)).length = kp + 1 := by rw [List.length_take, h]; omega
  rw [List.drop_append_of_le_length (by omega)]
  simp only [List.map_append, List.map_take, List.map_cons, List.map_nil, List.map_drop, List.drop_drop, PC.mk.injEq, true_and, List.drop_take]
  refine ⟨?_, trivial⟩
  rw [Nat.add_comm 1 kp]
  simp
end

/-- Whenever the loop begins anew; n is what is left to be done, at most. -/
structure RRd (T N : Nat) (R : List Ru) (tok : List Int) (K : Nat) (w0 : World) (d : RnA) (sv : Value) (PL : List Pl) (p q n : Nat) (w : World) : Prop where
  m : RnM w0 d sv PL p q w
  inv : PInv T N R (allN T N R K).1 (allN T N R K).2 tok (pcOf PL p q)
  sum : Sum (pcOf PL p q)
  fst : (PL.getD 0 noPl).2.2 = []
  num : n = (tok.length - p) + (401 - q)
  few : q ≤ 400
  run : runP T R (cellP T N R (allN T N R K).1 (allN T N R K).2) (goP T (allN T N R K).1) tok (n + 1) (pcOf PL p q) = parseN T N R (allN T N R K).1 (allN T N R K).2 tok
  small : 0 < PL.length ∧ PL.length + n ≤ 1000

/-- A step that goes on: what is left is less by one. -/
theorem RRd.next {T N : Nat} {R : List Ru} {tok : List Int} {K : Nat} {w0 : World} {d : RnA} {sv sv' : Value} {PL PL' : List Pl} {p q n p' q' : Nat} {w w' : World} (h : RRd T N R tok K w0 d sv PL p q n w) (lr : LRok T N R (allN T N R K).1 (allN T N R K).2) (htok : ∀ t ∈ tok, 0 ≤ t ∧ t < (T : Int))
    (hst : stepP T R (cellP T N R (allN T N R K).1 (allN T N R K).2) (goP T (allN T N R K).1) tok (pcOf PL p q) = .go (pcOf PL' p' q')) (hq : q' ≤ 400) (hM : RnM w0 d sv' PL' p' q' w') (h0 : (PL'.getD 0 noPl).2.2 = []) (hS : 0 < PL'.length ∧ PL'.length ≤ PL.length + 1) : n - 1 < n ∧ RRd T N R tok K w0 d sv' PL' p' q' (n - 1) w' := by
  have hi := h.inv.go lr htok hst
  have hs := step_sum hst
  have hp : p' ≤ tok.length := hi.pos
  have hp0 : p ≤ tok.length := h.inv.pos
  have hn := h.num
  have hsm := h.small
  have hfew := h.few
  have hs1 : p' + q' = p + q + 1 ∧ q ≤ q' ∧ p ≤ p' := hs
  refine ⟨by omega, hM, hi, sum_step hst h.sum, h0, by omega, hq, ?_, by omega⟩
  have hr := h.run
  rw [run_step hst hfew] at hr
  rw [show n - 1 + 1 = n by omega]
  exact hr

theorem RRd.total {T N : Nat} {R : List Ru} {tok : List Int} {K : Nat} {w0 : World} {d : RnA} {sv : Value} {PL : List Pl} {p q n : Nat} {w : World} (h : RRd T N R tok K w0 d sv PL p q n w) : ((PL.map fun x => x.2.2).map List.length).sum ≤ 10000 := by
  have h1 := h.sum
  have h2 := h.small.1
  have h3 := h.fst
  have h4 := h.few
  unfold Sum pcOf at h1
  simp only at h1
  cases PL with
  | nil => simp at h2
  | cons x L =>
    simp only [List.drop_succ_cons, List.drop_zero] at h1
    have h5 : x.2.2 = [] := h3
    rw [List.map_cons, List.map_cons, List.sum_cons, h5, h1]
    simp
    omega

set_option maxRecDepth 100000 in
set_option maxHeartbeats 6400000 in
theorem rn_run {w0 w : World} {d : RnA} {sv : Value} {R : List Ru} {tok : List Int} {N K : Nat} (h : RnM w0 d sv [noPl] 0 0 w) (E : RnE w0 d R tok (tabC d.T N R K) (tabG d.T N R K)) (hf : Fine d.T N R) (hW : Whole d.T N R K) (hN : 0 < N) (hcl : clashN (tabC d.T N R K) = 0) (htok : ∀ t ∈ tok, 0 ≤ t ∧ t < (d.T : Int)) (h30 : tok.length ≤ 30) :
    Calls Try.prog 9 #[.pointer (some ⟨d.ra, 0, none⟩)] w fun e w' => ∃ dv D a x, e = .returned (.tuple #[dv, .int .i64 a, .int .i64 x]) ∧ ListC w' dv D ∧ (D, a, x) = ansP (parseN d.T N R (allN d.T N R K).1 (allN d.T N R K).2 tok) ∧ Below w0.heap.size w0 w' := by
  obtain ⟨T, hT⟩ : ∃ T, d.T = T := ⟨_, rfl⟩
  rw [hT] at E hf hW hcl htok ⊢
  have hlr := lr_of hf hW (whole_pos hW)
  have HLR : Hid (LRok T N R (allN T N R K).1 (allN T N R K).2) := hlr
  have HOne : Hid (∀ k, k < K → ∀ t, t ≤ T → oneB (cellP T N R (allN T N R K).1 (allN T N R K).2 k t) = true) := clash_one hcl
  have HTok : Hid (∀ t ∈ tok, 0 ≤ t ∧ t < (T : Int)) := htok
  have HWh : Hid (Whole T N R K) := hW
  have HF : Hid (Fine T N R) := hf
  have HE : Hid (RnE w0 d R tok (tabC T N R K) (tabG T N R K)) := E
  have HR0 : Hid (RRd T N R tok K w0 d sv [noPl] 0 0 (tok.length + 401) w) := by
    refine ⟨h, pinv_start, rfl, rfl, by omega, by omega, rfl, by simp; omega⟩
  have HT : Hid (d.T = T) := hT
  obtain ⟨rb, hrb⟩ : ∃ x, d.ra = x := ⟨_, rfl⟩
  have HRa : Hid (d.ra = rb) := hrb
  rw [hrb]
  clear h E hf hW hcl htok hlr hT hrb
  go_enter Try.func9, Try.ntmps9
  go_wp2_with fail
  go_loopg [2] (tok.length + 401) (fun n s2 wr => s2 = .slice none 0 0 ∧ ∃ (sv : Value) (PL : List Pl) (p q : Nat), RRd T N R tok K w0 d sv PL p q n wr)
  case atStart => exact ⟨rfl, _, _, _, _, HR0.out⟩
  case round =>
    clear HR0
    obtain ⟨rfl, sv1, PL, p, q, hRd⟩ := hrel
    have HRd : Hid (RRd T N R tok K w0 d sv1 PL p q gk wr) := hRd
    have hfew := hRd.few
    have hsm := hRd.small
    have hnum := hRd.num
    obtain ⟨sh1, sh2, sh3⟩ := hRd.inv.shape HLR.out
    have hKl : (allN T N R K).2.length = K := HWh.out
    rw [hKl] at sh2 sh3
    obtain ⟨k, hk⟩ : ∃ k, PL.length = k + 1 := ⟨PL.length - 1, by omega⟩
    have htop : topS (pcOf PL p q) = (PL.getD k noPl).1 := by
      unfold topS pcOf
      simp [List.getD, hk]
    obtain ⟨tp, htp⟩ : ∃ tp, (PL.getD k noPl).1 = tp := ⟨_, rfl⟩
    rw [htop, htp] at sh2
    have hpl : p ≤ tok.length := hRd.inv.pos
    have hntl := nextT_le HTok.out p
    obtain ⟨nt, hnt⟩ : ∃ nt, nextT T tok p = nt := ⟨_, rfl⟩
    rw [hnt] at hntl
    obtain ⟨⟨sh, Ru', en⟩, hce⟩ : ∃ x, cellP T N R (allN T N R K).1 (allN T N R K).2 tp nt = x := ⟨_, rfl⟩
    have cel := rn_cell (tp := tp) (nt := nt) (sh := sh) (Ru' := Ru') (en := en) hRd.m HE.out hk (by omega) htp (by rw [tabC_len]; exact sh2) (by rw [tabC_row sh2, rowP_len]; omega) (fun hpt => by
        rw [← hnt]
        unfold nextT
        rw [if_pos hpt]
        have e1 : tok.getD p 0 = tok[p] := by simp [List.getD, hpt]
        have := HTok.out tok[p] (List.getElem_mem hpt)
        rw [e1]
        omega) (fun hpt => by
        rw [← hnt, HT.out]
        unfold nextT
        rw [if_neg hpt]) (by rw [tabC_row sh2, rowP_at hntl, hce])
    have hstep : stepP T R (cellP T N R (allN T N R K).1 (allN T N R K).2) (goP T (allN T N R K).1) tok (pcOf PL p q) = stepC R (goP T (allN T N R K).1) (pcOf PL p q) (sh, Ru', en) := by
      unfold stepP
      rw [htop, htp]
      show stepC R _ _ (cellP T N R _ _ tp (nextT T tok p)) = _
      rw [hnt, hce]
    have HSt : Hid (stepP T R (cellP T N R (allN T N R K).1 (allN T N R K).2) (goP T (allN T N R K).1) tok (pcOf PL p q) = stepC R (goP T (allN T N R K).1) (pcOf PL p q) (sh, Ru', en)) := hstep
    have HCe : Hid (cellP T N R (allN T N R K).1 (allN T N R K).2 tp nt = (sh, Ru', en)) := hce
    have HTop : Hid (topS (pcOf PL p q) = tp) := htop.trans htp
    have HK1 : Hid (PL.length = k + 1) := hk
    have HS3 : Hid (∀ s ∈ (pcOf PL p q).S, s < K) := sh3
    rw [HRa.out] at cel
    clear hstep hce htop htp hnt sh3 sh1 hRd hk
    obtain ⟨m2, hm2⟩ : ∃ m2, Ru'.length = m2 := ⟨_, rfl⟩
    have HM2 : Hid (Ru'.length = m2) := hm2
    have cel2 := cel.mono (R' := fun e w' => ∃ ua uc, e = .returned (.agg #[.int .i64 sh, .slice ua m2 uc, .bool en]) ∧ ListAt w' w'.heap.size (.slice ua m2 uc) Ru' ∧ Below wr.heap.size wr w') fun e w' ⟨rl, h1, h2, h3⟩ => by
      obtain ⟨a, c, hrl⟩ := h2.1
      rw [hm2] at hrl
      subst hrl
      exact ⟨a, c, h1, h2, h3⟩
    clear cel hm2
    have HBx : Hid (∀ w5 (o : Obj), Below wr.heap.size wr w5 → RnM w0 d sv1 PL p q (w5.alloc o)) := fun w5 o hb => (HRd.out.m.below hb).alloc o
    cases en with
    | true =>
      have hfin := HRd.out.inv.fin HLR.out HTok.out (d := (pcOf PL p q).F.getD 0 []) (by rw [HSt.out]; rfl)
      obtain ⟨dd, hdd⟩ : ∃ dd, (pcOf PL p q).F.getD 0 [] = dd := ⟨_, rfl⟩
      rw [hdd] at hfin
      have hdone : parseN T N R (allN T N R K).1 (allN T N R K).2 tok = .done dd := by
        rw [← HRd.out.run, runP, if_pos (by exact hfew)]
        simp only [HSt.out, stepC, if_true]
        rw [hdd]
      have HDn : Hid (parseN T N R (allN T N R K).1 (allN T N R K).2 tok = .done dd) := hdone
      have hk1 : k = 1 := by
        have := congrArg List.length hfin.2
        simp only [pcOf, List.length_map, List.length_drop, HK1.out, List.length_singleton] at this
        omega
      subst hk1
      have HD2 : Hid ((PL.getD 1 noPl).2.2 = dd) := by
        show (PL.getD 1 noPl).2.2 = dd
        have h2 := HK1.out
        match PL, h2 with
        | [a, b], _ =>
          have h3 := hfin.2
          simp only [pcOf, List.drop_succ_cons, List.drop_zero, List.map_cons, List.map_nil, List.cons.injEq, and_true] at h3
          exact h3
      obtain ⟨x1, hx1⟩ : ∃ x, (PL.getD 1 noPl).2.1 = x := ⟨_, rfl⟩
      have HX1 : Hid ((PL.getD 1 noPl).2.1 = x1) := hx1
      obtain ⟨s1, hs1⟩ : ∃ x, (PL.getD 1 noPl).1 = x := ⟨_, rfl⟩
      have HS1 : Hid ((PL.getD 1 noPl).1 = s1) := hs1
      obtain ⟨da, dn, dc, hxs⟩ : ∃ a n c, x1 = .slice a n c := by
        obtain ⟨a, c, e⟩ := (HRd.out.m.derAt (i := 1) (by rw [HK1.out]; omega)).slice
        exact ⟨a, _, c, by rw [← hx1, e]⟩
      subst hxs
      have hfd := fun w => pl_field1 (s := (s1 : Int)) (a := da) (n := dn) (c := dc) w
      clear hfin hdd hdone hx1 hs1
      go_wp2_with
        (first
         | (go_at_call 19; refine cel2.mono ?_; rintro e w5 ⟨ua, uc, rfl, hL5, hB5⟩
            have hM5 := HBx.out w5 (.cells #[.int .i64 sh, .slice ua m2 uc, .bool true] 65) hB5
            have HM5 : Hid (RnM w0 d sv1 PL p q (w5.alloc (.cells #[.int .i64 sh, .slice ua m2 uc, .bool true] 65))) := hM5
            have la := rn_last hM5 HK1.out (by omega) HS1.out HX1.out
            rw [HRa.out] at la
            clear hM5 hL5 hB5 cel2)
         | (go_at_call 20; refine la.mono ?_; rintro e w6 ⟨rfl, hB6⟩
            have HM6 : Hid (RnM w0 d sv1 PL p q w6) := HM5.out.below hB6
            clear la hB6))
      refine bodyPost_ret (v := .tuple #[.slice da dn dc, .int .i64 (-1), .int .i64 0]) (by simp [results, Try.results9, go_sem]) rfl ?_
      have hdv := (HM6.out.derAt (i := 1) (by rw [HK1.out]; omega)).listC
      rw [HX1.out, HD2.out] at hdv
      exact ⟨_, dd, -1, 0, rfl, hdv, by rw [HDn.out]; rfl, HM6.out.since⟩
    | false =>
      by_cases hsh : 0 ≤ sh
      · obtain ⟨sn, rfl⟩ : ∃ sn : Nat, sh = sn := ⟨sh.toNat, by omega⟩
        have hgo : stepP T R (cellP T N R (allN T N R K).1 (allN T N R K).2) (goP T (allN T N R K).1) tok (pcOf PL p q) = .go (pcOf (PL ++ [(sn, .slice none 0 0, [])]) (p + 1) q) := by
          rw [HSt.out, pc_shift hsm.1]
          unfold stepC
          simp only [Bool.false_eq_true, if_false, hsh, if_true, Int.toNat_natCast]
          rfl
        have HGo : Hid (stepP T R (cellP T N R (allN T N R K).1 (allN T N R K).2) (goP T (allN T N R K).1) tok (pcOf PL p q) = .go (pcOf (PL ++ [(sn, .slice none 0 0, [])]) (p + 1) q)) := hgo
        clear hgo
        go_wp2_with
          (first
           | (go_at_call 19; refine cel2.mono ?_; rintro e w5 ⟨ua, uc, rfl, hL5, hB5⟩
              have sft := rn_shift (HBx.out w5 (.cells #[.int .i64 sn, .slice ua m2 uc, .bool false] 65) hB5) hsm.1 (by omega) (by omega) sn
              rw [HRa.out] at sft
              clear hL5 hB5 cel2)
           | (go_at_call 21; refine sft.mono ?_; rintro e w6 ⟨rfl, sv6, hM6⟩
              have HM6 : Hid (RnM w0 d sv6 (PL ++ [(sn, .slice none 0 0, [])]) (p + 1) q w6) := hM6
              clear sft hM6))
        have hnx := HRd.out.next HLR.out HTok.out HGo.out hfew HM6.out (by
          have := HRd.out.fst
          rw [List.getD, List.getElem?_append_left hsm.1]
          exact this) (by simp)
        go_roundg (gk - 1)
        case measure => exact hnx.1
        case rel => exact ⟨rfl, _, _, _, _, hnx.2⟩
      · have hshd : decide (0 ≤ sh) = false := decide_eq_false hsh
        cases hRu : Ru' with
        | nil =>
          have hm20 : m2 = 0 := by rw [← HM2.out, hRu]; rfl
          subst hm20
          have hno : parseN T N R (allN T N R K).1 (allN T N R K).2 tok = .none p := by
            rw [← HRd.out.run, runP, if_pos (by exact hfew)]
            simp only [HSt.out, stepC, hRu, if_neg hsh]
            simp [pcOf]
          have HDn : Hid (parseN T N R (allN T N R K).1 (allN T N R K).2 tok = .none p) := hno
          clear hno hRu
          go_wp2_with
            (go_at_call 19; refine cel2.mono ?_; rintro e w5 ⟨ua, uc, rfl, hL5, hB5⟩
             have hM5 := HBx.out w5 (.cells #[.int .i64 sh, .slice ua 0 uc, .bool false] 65) hB5
             have c6 := (hM5.cell (i := 6) rfl).1
             rw [HRa.out] at c6
             have HS5 : Hid (Below w0.heap.size w0 (w5.alloc (.cells #[.int .i64 sh, .slice ua 0 uc, .bool false] 65))) := hM5.since
             clear hM5 hL5 hB5 cel2)
          go_big_quiet (fail)
          go_wp2_with fail
          refine bodyPost_ret (v := .tuple #[.slice none 0 0, .int .i64 p, .int .i64 0]) (by simp [results, Try.results9, go_sem]) rfl ?_
          exact ⟨_, [], p, 0, rfl, ⟨⟨⟨_, _, rfl⟩, fun p hp => by simp at hp⟩, _, _, _, rfl, Nat.le_refl _⟩, by rw [HDn.out]; rfl, below_drewN HS5.out _⟩
        | cons q1 rest =>
          obtain ⟨m, rfl, hmR, hdn⟩ := rules_done (T := T) (N := N) (R := R) (NL := (allN T N R K).1) (Ls := (allN T N R K).2) (k := tp) (t := nt) (q := q1) (by rw [HCe.out, hRu]; simp)
          obtain ⟨_, hr1, hr2, gg, hr3⟩ := HRd.out.inv.red HLR.out (t := nt) (m := m) (by rw [HTop.out, HCe.out, hRu]; simp)
          rw [show (allN T N R K).2.length = K from HWh.out] at hr2
          have hFl : (pcOf PL p q).F.length = k := by simp [pcOf, HK1.out]
          rw [hFl] at hr1 hr2 hr3
          obtain ⟨rl, hrl⟩ : ∃ x, (R.getD m (0, [])).2.length = x := ⟨_, rfl⟩
          have hLb := HF.out.left (R.getD m (0, [])) (by simp [List.getD, hmR])
          obtain ⟨Lf, hLf⟩ : ∃ Lf : Nat, (R.getD m (0, [])).1 = (Lf : Int) := ⟨(R.getD m (0, [])).1.toNat, by omega⟩
          rw [hrl] at hr1 hr2 hr3
          rw [hLf] at hr3 hLb
          rw [Int.toNat_natCast] at hr3
          obtain ⟨kp, hkp⟩ : ∃ kp, k = kp + rl := ⟨k - rl, by omega⟩
          rw [hkp, show kp + rl - rl = kp by omega] at hr2 hr3
          have hSg : (pcOf PL p q).S.getD kp 0 = (PL.getD kp noPl).1 := by
            have : kp < PL.length := by rw [HK1.out]; omega
            simp [pcOf, List.getD, this]
          rw [hSg] at hr2 hr3
          obtain ⟨qs, hqs⟩ : ∃ x, (PL.getD kp noPl).1 = x := ⟨_, rfl⟩
          rw [hqs] at hr2 hr3
          have hPLk : PL.length = kp + 1 + rl := by rw [HK1.out]; omega
          have hgo : ∀ dv, stepP T R (cellP T N R (allN T N R K).1 (allN T N R K).2) (goP T (allN T N R K).1) tok (pcOf PL p q) = .go (pcOf (PL.take (kp + 1) ++ [(gg, dv, (m : Int) :: ((PL.drop (kp + 1)).map fun x => x.2.2).flatten)]) p (q + 1)) := fun dv => by
            rw [HSt.out, hRu, pc_red hPLk]
            unfold stepC
            simp only [Bool.false_eq_true, if_false, if_neg hsh]
            unfold redP
            simp only [Int.toNat_natCast, hFl, hrl, hkp]
            rw [show kp + rl - rl = kp by omega, hSg, hqs, hLf, Int.toNat_natCast, hr3, Int.toNat_natCast]
            rfl
          have HGo : Hid (∀ dv, stepP T R (cellP T N R (allN T N R K).1 (allN T N R K).2) (goP T (allN T N R K).1) tok (pcOf PL p q) = .go (pcOf (PL.take (kp + 1) ++ [(gg, dv, (m : Int) :: ((PL.drop (kp + 1)).map fun x => x.2.2).flatten)]) p (q + 1))) := hgo
          have hm2e : m2 = rest.length + 1 := by rw [← HM2.out, hRu]; rfl
          have hm2n : ((m2 : Int) == 0) = false := by simp; omega
          have HRu : Hid (Ru' = (m : Int) :: rest) := hRu
          have HRed : Hid (∀ w6, RnM w0 d sv1 PL p q w6 → Calls Try.prog 22 #[.pointer (some ⟨rb, 0, none⟩), .int .i64 m] w6 fun e w' => e = .returned (.tuple #[]) ∧ ∃ sv' dv, RnM w0 d sv' (PL.take (kp + 1) ++ [(gg, dv, (m : Int) :: ((PL.drop (kp + 1)).map fun x => x.2.2).flatten)]) p (q + 1) w') := fun w6 h6 => by
            have := rn_reduce h6 HE.out (m := m) (kp := kp) (rl := rl) (Lf := Lf) (qs := qs) (gg := gg) hmR hLf hrl hPLk (by omega) (by omega) HRd.out.total hqs (by rw [tabG_len]; exact hr2) (by rw [goto_row HWh.out hr2 hN]; omega) (by rw [tabG_at hr2]; exact hr3)
            rw [HRa.out] at this
            exact this
          have HKp : Hid (PL.length = kp + 1 + rl) := hPLk
          clear hgo hRu hm2e hr3 hdn hLf hrl hqs hSg hFl hPLk hLb hr1 hkp
          by_cases hq4 : q = 400
          · subst hq4
            have hno : parseN T N R (allN T N R K).1 (allN T N R K).2 tok = .size := by
              rw [← HRd.out.run, run_step (HGo.out (.slice none 0 0)) (by exact hfew)]
              cases gk with
              | zero => rfl
              | succ n => rw [runP, if_neg (by simp [pcOf])]
            have HDn : Hid (parseN T N R (allN T N R K).1 (allN T N R K).2 tok = .size) := hno
            clear hno
            go_wp2_with
              (go_at_call 19; refine cel2.mono ?_; rintro e w5 ⟨ua, uc, rfl, hL5, hB5⟩
               have hM5 := HBx.out w5 (.cells #[.int .i64 sh, .slice ua m2 uc, .bool false] 65) hB5
               have c7 := (hM5.cell (i := 7) rfl).1
               rw [HRa.out] at c7
               have HS5 : Hid (Below w0.heap.size w0 (w5.alloc (.cells #[.int .i64 sh, .slice ua m2 uc, .bool false] 65))) := hM5.since
               clear hM5 hL5 hB5 cel2)
            refine bodyPost_ret (v := .tuple #[.slice none 0 0, .int .i64 0, .int .i64 1]) (by simp [results, Try.results9, go_sem]) rfl ?_
            exact ⟨_, [], 0, 1, rfl, ⟨⟨⟨_, _, rfl⟩, fun p hp => by simp at hp⟩, _, _, _, rfl, Nat.le_refl _⟩, by rw [HDn.out]; rfl, HS5.out⟩
          · have hq5 : ((q : Int) == 400) = false := by simp; omega
            go_wp2_with
              (first
               | (go_at_call 19; refine cel2.mono ?_; rintro e w5 ⟨ua, uc, rfl, hL5, hB5⟩
                  have hM5 := HBx.out w5 (.cells #[.int .i64 sh, .slice ua m2 uc, .bool false] 65) hB5
                  have c7 := (hM5.cell (i := 7) rfl).1
                  rw [HRa.out] at c7
                  obtain ⟨lb, lo, lc, hlv, hlb, x0⟩ := hL5.2 0 (by rw [HRu.out]; simp)
                  rw [HM2.out] at hlv
                  injection hlv with hl1 _ hl3
                  subst hl1
                  subst hl3
                  rw [HRu.out] at x0
                  have y0 : (w5.alloc (.cells #[.int .i64 sh, .slice (some ⟨lb, lo, none⟩) m2 uc, .bool false] 65)).cell? ⟨lb, lo, none⟩ = some (.int .i64 m) := (World.cell?_alloc_past _ _ _ hlb).trans x0
                  have hmm2 : (0 : Int) < (m2 : Int) := by have := HM2.out; rw [HRu.out] at this; simp at this; omega
                  have red := HRed.out _ hM5
                  clear hM5 hL5 hB5 cel2 x0)
               | (go_at_call 22; refine red.mono ?_; rintro e w6 ⟨rfl, sv6, dv6, hM6⟩
                  have HM6 : Hid (RnM w0 d sv6 (PL.take (kp + 1) ++ [(gg, dv6, (m : Int) :: ((PL.drop (kp + 1)).map fun x => x.2.2).flatten)]) p (q + 1) w6) := hM6
                  clear red hM6))
            have hnx := HRd.out.next HLR.out HTok.out (HGo.out dv6) (by omega) HM6.out (by
              have h1 := HRd.out.fst
              have h2 : 0 < (PL.take (kp + 1)).length := by rw [List.length_take, HKp.out]; omega
              rw [List.getD, List.getElem?_append_left h2, List.getElem?_take, if_pos (by omega)]
              exact h1) (by
              have := HKp.out
              simp
              omega)
            go_roundg (gk - 1)
            case measure => exact hnx.1
            case rel => exact ⟨rfl, _, _, _, _, hnx.2⟩

end Go.Proofs.Ytobegekmgoiopaa
