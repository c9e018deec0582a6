import Derived.Test.YtinmafbaapoloaaSets2MemAndTabMath
import Derived.Test.YtinmafbaapoloaaSetsIsAndTkClash
import Derived.Test.YtinmafbaapoloaaOf6
import Derived.Test.YtinmafbaapoloaaRows
import Derived.Test.YtinmafbaapoloaaMathAndAuto6
import Derived.ProofKit
import Derived.Deep.SlicePairs
/- The contracts of pollardingref6.ints and Same, where both sides are one. -/
namespace Go.Proofs.Ytinmafbaapoloaa
open Go.RowKit

set_option maxRecDepth 100000 in
set_option maxHeartbeats 1600000 in
theorem ints6_eq {w : World} {la lb : Nat} {a b : Value} {X : List Int} (ha : ListAt w la a X) (hb : ListAt w lb b X) (hl : X.length ≤ 1000000) :
    Calls Try.prog 14 #[a, b] w fun e w' => e = .returned (.bool true) ∧ ∃ m, w' = w.drewN m := by
  obtain ⟨aa, ac, hav⟩ := ha.1
  obtain ⟨ba, bc, hbv⟩ := hb.1
  have HA : Hid (ListAt w la a X) := ha
  have HB : Hid (ListAt w lb b X) := hb
  clear ha hb
  subst hav
  subst hbv
  have e0 : ((X.length : Int) != (X.length : Int)) = false := by simp
  go_enter Try.func14, Try.ntmps14
  go_wp2_with fail
  go_loopw [5] (fun k wr => ∃ i m : Nat, k = .int .i64 i ∧ i ≤ X.length ∧ wr = w.drewN m) (fun k _ => X.length - (intOf k).toNat)
  case atStart => exact ⟨0, 0, rfl, Nat.zero_le _, rfl⟩
  case round =>
    obtain ⟨i, m, rfl, hi, rfl⟩ := hrel
    by_cases hlt : i < X.length
    · obtain ⟨g1, o1, c1, hv1, _, k1⟩ := HA.out.2 i hlt
      obtain ⟨g2, o2, c2, hv2, _, k2⟩ := HB.out.2 i hlt
      cases hv1
      cases hv2
      obtain ⟨z, hz⟩ : ∃ z, X.getD i 0 = z := ⟨_, rfl⟩
      rw [hz] at k1 k2
      have j0 : (0 : Int) ≤ (i : Int) := Int.natCast_nonneg _
      have j1 : (i : Int) < (X.length : Int) := by omega
      have e1 : (z != z) = false := by simp
      clear hz
      go_wp2_with fail
      go_big_quiet (fail)
      go_wp2_with fail
      go_roundw
      case rel => exact ⟨i + 1, _, by go_num, by omega, rfl⟩
      case measure => simp [intOf]; omega
    · go_wp2_with fail
      go_ret
      exact ⟨rfl, m, rfl⟩

set_option maxRecDepth 100000 in
set_option maxHeartbeats 3200000 in
theorem same6_eq {w : World} {c1 g1 c2 g2 : Value} {C : List (List Ce)} {G : List (List Int)} (h1 : TabAt w c1 g1 C G) (h2 : TabAt w c2 g2 C G) (hC : C.length ≤ 1000) (hG : G.length ≤ 1000) (hR : ∀ i, i < C.length → (C.getD i []).length ≤ 1000) (hS : ∀ i, i < G.length → (G.getD i []).length ≤ 1000)
    (hU : ∀ i k, i < C.length → k < (C.getD i []).length → ((C.getD i []).getD k (0, [], false)).2.1.length ≤ 1000) :
    Calls Try.prog 6 #[.agg #[c1, g1], .agg #[c2, g2]] w fun e w' => e = .returned (.bool true) ∧ Below w.heap.size w w' := by
  obtain ⟨ca1, cc1, hc1⟩ := h1.cells.1
  obtain ⟨ga1, gc1, hg1⟩ := h1.goto.1
  obtain ⟨ca2, cc2, hc2⟩ := h2.cells.1
  obtain ⟨ga2, gc2, hg2⟩ := h2.goto.1
  subst hc1
  subst hg1
  subst hc2
  subst hg2
  have H1 : Hid (TabAt w (.slice ca1 C.length cc1) (.slice ga1 G.length gc1) C G) := h1
  have H2 : Hid (TabAt w (.slice ca2 C.length cc2) (.slice ga2 G.length gc2) C G) := h2
  have HR : Hid (∀ i, i < C.length → (C.getD i []).length ≤ 1000) := hR
  have HS : Hid (∀ i, i < G.length → (G.getD i []).length ≤ 1000) := hS
  have HU : Hid (∀ i k, i < C.length → k < (C.getD i []).length → ((C.getD i []).getD k (0, [], false)).2.1.length ≤ 1000) := hU
  obtain ⟨WT, hWT⟩ : ∃ W, (w.alloc (.cells #[.slice ca1 C.length cc1, .slice ga1 G.length gc1] 28)).alloc (.cells #[.slice ca2 C.length cc2, .slice ga2 G.length gc2] 28) = W := ⟨_, rfl⟩
  have HBX : Hid (∀ wr, Below (w.heap.size + 2) WT wr → wr.cell? ⟨w.heap.size, 0, none⟩ = some (.slice ca1 C.length cc1) ∧ wr.cell? ⟨w.heap.size, 1, none⟩ = some (.slice ga1 G.length gc1) ∧ wr.cell? ⟨w.heap.size + 1, 0, none⟩ = some (.slice ca2 C.length cc2) ∧ wr.cell? ⟨w.heap.size + 1, 1, none⟩ = some (.slice ga2 G.length gc2) ∧ Below w.heap.size w wr ∧ w.heap.size + 2 ≤ wr.heap.size) := fun wr hB => by
    subst hWT
    have hB0 : Below w.heap.size w ((w.alloc (.cells #[.slice ca1 C.length cc1, .slice ga1 G.length gc1] 28)).alloc (.cells #[.slice ca2 C.length cc2, .slice ga2 G.length gc2] 28)) := ((Below.refl _ _).alloc (Nat.le_refl _) _).alloc (by simp) _
    exact ⟨(hB.cell (by simp)).trans (by simp [go_sem]), (hB.cell (by simp)).trans (by simp [go_sem]), (hB.cell (by simp)).trans (by simp [go_sem]), (hB.cell (by simp)).trans (by simp [go_sem]), hB0.trans (hB.mono (by omega)), by have := hB.size; simpa using this⟩
  have e0 : ((C.length : Int) != (C.length : Int)) = false := by simp
  have e00 : ((G.length : Int) != (G.length : Int)) = false := by simp
  have HWT : Hid ((w.alloc (.cells #[.slice ca1 C.length cc1, .slice ga1 G.length gc1] 28)).alloc (.cells #[.slice ca2 C.length cc2, .slice ga2 G.length gc2] 28) = WT) := hWT
  clear h1 h2 hR hS hU hWT
  go_enter Try.func6, Try.ntmps6
  go_wp2_with fail
  rw [HWT.out]
  clear HWT
  go_loopw [5] (fun s5 wr => ∃ i : Nat, s5 = .int .i64 i ∧ i ≤ C.length ∧ Below (w.heap.size + 2) WT wr) (fun s _ => C.length - (intOf s).toNat)
  case atStart => exact ⟨0, rfl, Nat.zero_le _, Below.refl _ _⟩
  case round =>
    obtain ⟨i, rfl, hi, hB⟩ := hrel
    have HB : Hid (Below (w.heap.size + 2) WT wr) := hB
    obtain ⟨b1, b2, b3, b4, hBw, hsz⟩ := HBX.out wr hB
    by_cases hlt : i < C.length
    · obtain ⟨Xr, hXr⟩ : ∃ x, C.getD i [] = x := ⟨_, rfl⟩
      have HXr : Hid (C.getD i [] = Xr) := hXr
      have hXl : Xr.length ≤ 1000 := by rw [← hXr]; exact HR.out i hlt
      obtain ⟨x1, o1, q1, r1, hv1, d1, hs1⟩ := (H1.out.cells.below hBw).2 i hlt
      obtain ⟨x2, o2, q2, r2, hv2, d2, hs2⟩ := (H2.out.cells.below hBw).2 i hlt
      cases hv1
      cases hv2
      rw [hXr] at hs1 hs2
      obtain ⟨ra1, rc1, hr1⟩ := hs1.1
      obtain ⟨ra2, rc2, hr2⟩ := hs2.1
      subst hr1
      subst hr2
      have i0 : (0 : Int) ≤ (i : Int) := Int.natCast_nonneg _
      have i1 : (i : Int) < (C.length : Int) := by omega
      have e1 : ((Xr.length : Int) != (Xr.length : Int)) = false := by simp
      clear hB hBw hXr hs1 hs2
      go_wp2_with fail
      go_big_quiet (fail)
      go_wp2_with fail
      clear b1 b2 b3 b4 d1 d2
      go_loopw [6] (fun s6 wq => ∃ k : Nat, s6 = .int .i64 k ∧ k ≤ Xr.length ∧ Below (w.heap.size + 2) WT wq) (fun s _ => Xr.length - (intOf s).toNat)
      case atStart => exact ⟨0, rfl, Nat.zero_le _, below_drewN HB.out _⟩
      case round =>
        clear HB
        obtain ⟨k, rfl, hk, hB⟩ := hrel
        have HB : Hid (Below (w.heap.size + 2) WT wr) := hB
        obtain ⟨b1, b2, b3, b4, hBw, hsz⟩ := HBX.out wr hB
        obtain ⟨x1, o1, q1, r1, hv1, d1, hs1⟩ := (H1.out.cells.below hBw).2 i hlt
        obtain ⟨x2, o2, q2, r2, hv2, d2, hs2⟩ := (H2.out.cells.below hBw).2 i hlt
        cases hv1
        cases hv2
        rw [HXr.out] at hs1 hs2
        obtain ⟨ra1', rc1', hr1⟩ := hs1.1
        obtain ⟨ra2', rc2', hr2⟩ := hs2.1
        subst hr1
        subst hr2
        by_cases hklt : k < Xr.length
        · obtain ⟨y1, p1, c1', l1, hw1, a1, a2, a3, a4⟩ := hs1.2 k hklt
          obtain ⟨y2, p2, c2', l2, hw2, f1, f2, f3, f4⟩ := hs2.2 k hklt
          cases hw1
          cases hw2
          have hul := HU.out i k hlt (by rw [HXr.out]; exact hklt)
          rw [HXr.out] at hul
          obtain ⟨⟨sh, ru, en⟩, hce⟩ : ∃ x, Xr.getD k (0, [], false) = x := ⟨_, rfl⟩
          rw [hce] at a1 a3 a4 f1 f3 f4 hul
          simp only at a1 a3 a4 f1 f3 f4 hul
          have hBA : Below wr.heap.size wr ((wr.alloc (.cells #[.int .i64 sh, l1, .bool en] 60)).alloc (.cells #[.int .i64 sh, l2, .bool en] 60)) := ((Below.refl _ _).alloc (Nat.le_refl _) _).alloc (by simp) _
          have call := ints6_eq (a3.below hBA) (f3.below hBA) (by omega)
          have HA : Hid (Below (w.heap.size + 2) WT ((wr.alloc (.cells #[.int .i64 sh, l1, .bool en] 60)).alloc (.cells #[.int .i64 sh, l2, .bool en] 60))) := HB.out.trans (hBA.mono hsz)
          have g1 := (same_alloc1 wr (.cells #[.int .i64 sh, l1, .bool en] 60) _ _ (World.block_lt_of_cell? _ _ b3)).trans b3
          have g2 := (same_alloc1 wr (.cells #[.int .i64 sh, l1, .bool en] 60) _ _ (World.block_lt_of_cell? _ _ d2)).trans d2
          have g3 := (same_alloc1 wr (.cells #[.int .i64 sh, l1, .bool en] 60) _ _ (World.block_lt_of_cell? _ _ f1)).trans f1
          have g4 := (same_alloc1 wr (.cells #[.int .i64 sh, l1, .bool en] 60) _ _ (World.block_lt_of_cell? _ _ f2)).trans f2
          have g5 := (same_alloc1 wr (.cells #[.int .i64 sh, l1, .bool en] 60) _ _ (World.block_lt_of_cell? _ _ f4)).trans f4
          have k0 : (0 : Int) ≤ (k : Int) := Int.natCast_nonneg _
          have k1 : (k : Int) < (Xr.length : Int) := by omega
          have e2 : (sh != sh) = false := by simp
          have e3 : (en != en) = false := by simp
          obtain ⟨la1, lc1, hl1⟩ := a3.1
          obtain ⟨la2, lc2, hl2⟩ := f3.1
          subst hl1
          subst hl2
          clear hs1 hs2 hce a3 f3 hB hBw hBA
          go_wp2_with (go_at_call 14; refine call.mono ?_; rintro e w5 ⟨rfl, m5, rfl⟩)
          go_roundw
          case rel => exact ⟨k + 1, by go_num, by omega, below_drewN HA.out _⟩
          case measure => simp [intOf]; omega
        · clear hs1 hs2 hB hBw
          go_wp2_with fail
          go_roundw
          case rel => exact ⟨i + 1, by go_num, by omega, HB.out⟩
          case measure => simp [intOf]; omega
    · clear hB hBw
      go_wp2_with fail
      clear b1 b2 b3 b4
      go_loopw [9] (fun s9 wq => ∃ j : Nat, s9 = .int .i64 j ∧ j ≤ G.length ∧ Below (w.heap.size + 2) WT wq) (fun s _ => G.length - (intOf s).toNat)
      case atStart => exact ⟨0, rfl, Nat.zero_le _, HB.out⟩
      case round =>
        clear HB
        obtain ⟨j, rfl, hj, hB⟩ := hrel
        have HB : Hid (Below (w.heap.size + 2) WT wr) := hB
        obtain ⟨b1, b2, b3, b4, hBw, hsz⟩ := HBX.out wr hB
        have HBw : Hid (Below w.heap.size w wr) := hBw
        by_cases hjlt : j < G.length
        · obtain ⟨x1, o1, q1, r1, hv1, d1, hs1⟩ := (H1.out.goto.below hBw).2 j hjlt
          obtain ⟨x2, o2, q2, r2, hv2, d2, hs2⟩ := (H2.out.goto.below hBw).2 j hjlt
          cases hv1
          cases hv2
          have hgl := HS.out j hjlt
          obtain ⟨Gj, hGj⟩ : ∃ x, G.getD j [] = x := ⟨_, rfl⟩
          rw [hGj] at hs1 hs2 hgl
          clear hGj
          have call := ints6_eq (w := wr.drew) hs1 hs2 (by omega)
          obtain ⟨ra1, rc1, hr1⟩ := hs1.1
          obtain ⟨ra2, rc2, hr2⟩ := hs2.1
          subst hr1
          subst hr2
          have i0 : (0 : Int) ≤ (j : Int) := Int.natCast_nonneg _
          have i1 : (j : Int) < (G.length : Int) := by omega
          clear hB hBw hs1 hs2
          go_wp2_with fail
          refine wp_region_tail 10 (by kernel_rfl) (by kernel_rfl) ?_
          simp only [List.take_succ_cons, List.take_zero, List.drop_succ_cons, List.drop_zero]
          repeat still_step
          refine wpStill_nil ?_
          go_wp2_with (go_at_call 14; refine call.mono ?_; rintro e w5 ⟨rfl, m5, rfl⟩)
          go_roundw
          case rel => exact ⟨j + 1, by go_num, by omega, below_drewN HB.out _⟩
          case measure => simp [intOf]; omega
        · clear hB hBw
          go_wp2_with fail
          go_ret
          exact ⟨rfl, HBw.out⟩

end Go.Proofs.Ytinmafbaapoloaa

/- The law pollardinglaw.TableTells: it returns true. -/
namespace Go.Proofs.Ytinmafbaapoloaa
open Go.RowKit

theorem tab_nil (w : World) : TabAt w (.slice none 0 0) (.slice none 0 0) [] [] := ⟨⟨⟨none, 0, rfl⟩, fun _ hi => absurd hi (Nat.not_lt_zero _)⟩, ⟨⟨none, 0, rfl⟩, fun _ hi => absurd hi (Nat.not_lt_zero _)⟩⟩

theorem whole_one {T N : Nat} {R : List Ru} {K K' : Nat} (h : Whole T N R K) (h' : Whole T N R K') : K = K' := by
  rcases Nat.lt_trichotomy K K' with hl | he | hl
  · have := whole_reach h' K hl
    unfold Whole at h
    omega
  · exact he
  · have := whole_reach h K' hl
    unfold Whole at h'
    omega

theorem tab_small {T N : Nat} {R : List Ru} {K : Nat} (hm : mayB T N R = true) (h : Whole T N R K) (hK : K ≤ 150) :
    (tabC T N R K).length ≤ 1000 ∧ (tabG T N R K).length ≤ 1000 ∧ (∀ i, i < (tabC T N R K).length → ((tabC T N R K).getD i []).length ≤ 1000) ∧ (∀ i, i < (tabG T N R K).length → ((tabG T N R K).getD i []).length ≤ 1000) ∧
    ∀ i k, i < (tabC T N R K).length → k < ((tabC T N R K).getD i []).length → (((tabC T N R K).getD i []).getD k (0, [], false)).2.1.length ≤ 1000 := by
  obtain ⟨hT, hN1, hN, hRl, _⟩ := may_fine hm
  have eC : ∀ i, i < K → (tabC T N R K).getD i [] = rowP T N R (allN T N R K).1 (allN T N R K).2 i := fun i hi => by unfold tabC; simp [List.getD, hi]
  refine ⟨by unfold tabC; simp; omega, by unfold tabG; simp; omega, fun i hi => ?_, fun i hi => ?_, fun i k hi hk => ?_⟩
  · have hi' : i < K := by unfold tabC at hi; simpa using hi
    rw [eC i hi']
    unfold rowP
    simp
    omega
  · have hi' : i < K := by unfold tabG at hi; simpa using hi
    have e : (tabG T N R K).getD i [] = ((allN T N R K).1.getD i []).drop T := by unfold tabG; simp [List.getD, hi']
    have := (all_go (whole_reach h) i hi' 0 (by omega)).1
    rw [e, List.length_drop, this]
    omega
  · have hi' : i < K := by unfold tabC at hi; simpa using hi
    rw [eC i hi'] at hk ⊢
    have hk' : k < T + 1 := by unfold rowP at hk; simpa using hk
    have e : (rowP T N R (allN T N R K).1 (allN T N R K).2 i).getD k (0, [], false) = cellP T N R (allN T N R K).1 (allN T N R K).2 i k := by unfold rowP; simp [List.getD, hk']
    rw [e]
    unfold cellP
    simp only [List.length_map]
    have := List.length_filter_le (fun n => @decide (DoneP T N R (allN T N R K).1 (allN T N R K).2 i k n) (Classical.propDecidable _)) (List.range R.length)
    simp only [List.length_range] at this
    omega

set_option maxRecDepth 100000 in
set_option maxHeartbeats 1600000 in
theorem tableTells_not {w : World} {T N : Int} {rv : Value} {R : List Ru} (hr : RulesAt w w.heap.size rv R) (hm : mayB T N R = false) :
    Calls Try.prog 3 #[.agg #[.int .i64 T, .int .i64 N, rv]] w fun e w' => e = .returned (.bool true) ∧ Below w.heap.size w w' := by
  obtain ⟨ra, rc, hrv⟩ := hr.1
  subst hrv
  have HR1 : Hid (RulesAt (w.alloc (.cells #[.int .i64 T, .int .i64 N, .slice ra R.length rc] 24)) (w.alloc (.cells #[.int .i64 T, .int .i64 N, .slice ra R.length rc] 24)).heap.size (.slice ra R.length rc) R) := hr.boxed _
  have tab := tkOf_not (T := T) (N := N) HR1.out hm
  have HM : Hid (mayB T N R = false) := hm
  have HB1 : Hid (Below w.heap.size w (w.alloc (.cells #[.int .i64 T, .int .i64 N, .slice ra R.length rc] 24))) := (Below.refl _ _).alloc (Nat.le_refl _) _
  clear hr hm
  go_enter Try.func3, Try.ntmps3
  go_wp2_with
    (first
     | (go_at_call 4; refine tab.mono ?_; rintro e w2 ⟨rfl, hB2⟩
        have b0 : w2.cell? ⟨w.heap.size, 0, none⟩ = some (.int .i64 T) := (hB2.cell (by simp)).trans (by simp [go_sem])
        have b1 : w2.cell? ⟨w.heap.size, 1, none⟩ = some (.int .i64 N) := (hB2.cell (by simp)).trans (by simp [go_sem])
        have b2 : w2.cell? ⟨w.heap.size, 2, none⟩ = some (.slice ra R.length rc) := (hB2.cell (by simp)).trans (by simp [go_sem])
        have hs2 : w.heap.size < w2.heap.size := by have := hB2.size; simp at this; omega
        have m0 : (w2.alloc (.cells #[.slice none 0 0, .slice none 0 0] 28)).cell? ⟨w.heap.size, 0, none⟩ = some (.int .i64 T) := by rw [World.cell?_alloc_past _ _ _ hs2]; exact b0
        have m1 : (w2.alloc (.cells #[.slice none 0 0, .slice none 0 0] 28)).cell? ⟨w.heap.size, 1, none⟩ = some (.int .i64 N) := by rw [World.cell?_alloc_past _ _ _ hs2]; exact b1
        have m2 : (w2.alloc (.cells #[.slice none 0 0, .slice none 0 0] 28)).cell? ⟨w.heap.size, 2, none⟩ = some (.slice ra R.length rc) := by rw [World.cell?_alloc_past _ _ _ hs2]; exact b2
        have hR2 : RulesAt w2 w2.heap.size (.slice ra R.length rc) R := (HR1.out.below hB2).mono hB2.size
        have may := may1_any (T := T) (N := N) (hR2.boxed (.cells #[.slice none 0 0, .slice none 0 0] 28))
        rw [HM.out] at may
        have HB2 : Hid (Below w.heap.size w w2) := HB1.out.trans (hB2.mono (by simp))
        clear hB2 hR2 tab)
     | (go_at_call 5; refine may.mono ?_; rintro e w3 ⟨rfl, hB3⟩
        have s0 : w3.cell? ⟨w2.heap.size, 0, none⟩ = some (.slice none 0 0) := (hB3.cell (by simp)).trans (by simp [go_sem])
        have s1 : w3.cell? ⟨w2.heap.size, 1, none⟩ = some (.slice none 0 0) := (hB3.cell (by simp)).trans (by simp [go_sem])
        have hs3 : w2.heap.size < w3.heap.size := by have := hB3.size; simp at this; omega
        have HB3 : Hid (Below w.heap.size w w3) := (HB2.out.alloc (by omega) _).trans (hB3.mono (by simp; omega))
        clear hB3 may)
     | (go_at_call 6
        refine (same6_eq (tab_nil _) (tab_nil _) (by simp) (by simp) (by simp) (by simp) (by simp)).mono ?_
        rintro e w4 ⟨rfl, hB4⟩))
  go_ret
  exact ⟨rfl, HB3.out.trans (hB4.mono (by omega))⟩

set_option maxRecDepth 100000 in
set_option maxHeartbeats 3200000 in
theorem tableTells_more {w : World} {T N : Nat} {rv : Value} {R : List Ru} (hr : RulesAt w w.heap.size rv R) (hm : mayB T N R = true) (hmo : More T N R 150) :
    Calls Try.prog 3 #[.agg #[.int .i64 T, .int .i64 N, rv]] w fun e w' => e = .returned (.bool true) ∧ Below w.heap.size w w' := by
  obtain ⟨ra, rc, hrv⟩ := hr.1
  subst hrv
  have HR1 : Hid (RulesAt (w.alloc (.cells #[.int .i64 T, .int .i64 N, .slice ra R.length rc] 24)) (w.alloc (.cells #[.int .i64 T, .int .i64 N, .slice ra R.length rc] 24)).heap.size (.slice ra R.length rc) R) := hr.boxed _
  have tab0 := tkOf_may (T := T) (N := N) HR1.out hm
  have tab := tab0.mono (R' := fun e w' => e = .returned (.tuple #[.agg #[.slice none 0 0, .slice none 0 0], .int .i64 1]) ∧ Below (w.alloc (.cells #[.int .i64 T, .int .i64 N, .slice ra R.length rc] 24)).heap.size (w.alloc (.cells #[.int .i64 T, .int .i64 N, .slice ra R.length rc] 24)) w') fun e w' h => by
    rcases h with ⟨h1, h2, _⟩ | ⟨K, cv, gv, _, _, h3, h4, _⟩
    · exact ⟨h1, h2⟩
    · exact absurd hmo (whole_or h3 h4)
  have HM : Hid (mayB T N R = true) := hm
  have HMO : Hid (More T N R 150) := hmo
  have HB1 : Hid (Below w.heap.size w (w.alloc (.cells #[.int .i64 T, .int .i64 N, .slice ra R.length rc] 24))) := (Below.refl _ _).alloc (Nat.le_refl _) _
  clear hr hm tab0 hmo
  go_enter Try.func3, Try.ntmps3
  go_wp2_with
    (first
     | (go_at_call 4; refine tab.mono ?_; rintro e w2 ⟨rfl, hB2⟩
        have b0 : w2.cell? ⟨w.heap.size, 0, none⟩ = some (.int .i64 T) := (hB2.cell (by simp)).trans (by simp [go_sem])
        have b1 : w2.cell? ⟨w.heap.size, 1, none⟩ = some (.int .i64 N) := (hB2.cell (by simp)).trans (by simp [go_sem])
        have b2 : w2.cell? ⟨w.heap.size, 2, none⟩ = some (.slice ra R.length rc) := (hB2.cell (by simp)).trans (by simp [go_sem])
        have hs2 : w.heap.size < w2.heap.size := by have := hB2.size; simp at this; omega
        have m0 : (w2.alloc (.cells #[.slice none 0 0, .slice none 0 0] 28)).cell? ⟨w.heap.size, 0, none⟩ = some (.int .i64 T) := by rw [World.cell?_alloc_past _ _ _ hs2]; exact b0
        have m1 : (w2.alloc (.cells #[.slice none 0 0, .slice none 0 0] 28)).cell? ⟨w.heap.size, 1, none⟩ = some (.int .i64 N) := by rw [World.cell?_alloc_past _ _ _ hs2]; exact b1
        have m2 : (w2.alloc (.cells #[.slice none 0 0, .slice none 0 0] 28)).cell? ⟨w.heap.size, 2, none⟩ = some (.slice ra R.length rc) := by rw [World.cell?_alloc_past _ _ _ hs2]; exact b2
        have hR2 : RulesAt w2 w2.heap.size (.slice ra R.length rc) R := (HR1.out.below hB2).mono hB2.size
        have HR2 : Hid (RulesAt (w2.alloc (.cells #[.slice none 0 0, .slice none 0 0] 28)) (w2.alloc (.cells #[.slice none 0 0, .slice none 0 0] 28)).heap.size (.slice ra R.length rc) R) := hR2.boxed _
        have may := may1_any (T := T) (N := N) HR2.out
        rw [HM.out] at may
        have HB2 : Hid (Below w.heap.size w w2) := HB1.out.trans (hB2.mono (by simp))
        clear hB2 hR2 tab)
     | (go_at_call 5; refine may.mono ?_; rintro e w3 ⟨rfl, hB3⟩
        have s0 : w3.cell? ⟨w2.heap.size, 0, none⟩ = some (.slice none 0 0) := (hB3.cell (by simp)).trans (by simp [go_sem])
        have s1 : w3.cell? ⟨w2.heap.size, 1, none⟩ = some (.slice none 0 0) := (hB3.cell (by simp)).trans (by simp [go_sem])
        have hs3 : w2.heap.size < w3.heap.size := by have := hB3.size; simp at this; omega
        have n0 := (hB3.cell (p := ⟨w.heap.size, 0, none⟩) (by simp; omega)).trans m0
        have n1 := (hB3.cell (p := ⟨w.heap.size, 1, none⟩) (by simp; omega)).trans m1
        have n2 := (hB3.cell (p := ⟨w.heap.size, 2, none⟩) (by simp; omega)).trans m2
        have HB3 : Hid (Below w.heap.size w w3) := (HB2.out.alloc (by omega) _).trans (hB3.mono (by simp; omega))
        have ref := (of6_any (w := w3) (T := T) (N := N) ((HR2.out.below hB3).mono hB3.size) HM.out (fine_of HM.out).1).mono (R' := fun e w' => e = .returned (.tuple #[.agg #[.slice none 0 0, .slice none 0 0], .bool false]) ∧ Below w3.heap.size w3 w') fun e w' h => by
          rcases h with ⟨h1, h2, _⟩ | ⟨K, cv, gv, _, _, h3, h4, _⟩
          · exact ⟨h1, h2⟩
          · exact absurd HMO.out (whole_or h3 h4)
        clear hB3 may m0 m1 m2 b0 b1 b2)
     | (go_at_call 7; refine ref.mono ?_; rintro e w4 ⟨rfl, hB4⟩
        have t0 := (hB4.cell (p := ⟨w2.heap.size, 0, none⟩) hs3).trans s0
        have t1 := (hB4.cell (p := ⟨w2.heap.size, 1, none⟩) hs3).trans s1
        have hs4 : w3.heap.size ≤ w4.heap.size := hB4.size
        have v0 : (w4.alloc (.cells #[.slice none 0 0, .slice none 0 0] 28)).cell? ⟨w2.heap.size, 0, none⟩ = some (.slice none 0 0) := by rw [World.cell?_alloc_past _ _ _ (by omega)]; exact t0
        have v1 : (w4.alloc (.cells #[.slice none 0 0, .slice none 0 0] 28)).cell? ⟨w2.heap.size, 1, none⟩ = some (.slice none 0 0) := by rw [World.cell?_alloc_past _ _ _ (by omega)]; exact t1
        have HB4 : Hid (Below w.heap.size w (w4.alloc (.cells #[.slice none 0 0, .slice none 0 0] 28))) := (HB3.out.trans (hB4.mono (by omega))).alloc (by omega) _
        clear hB4 ref)
     | (go_at_call 6
        refine (same6_eq (tab_nil _) (tab_nil _) (by simp) (by simp) (by simp) (by simp) (by simp)).mono ?_
        rintro e w5 ⟨rfl, hB5⟩))
  go_ret
  exact ⟨rfl, HB4.out.trans (hB5.mono (by simp; omega))⟩

set_option maxRecDepth 100000 in
set_option maxHeartbeats 3200000 in
theorem tableTells_whole {w : World} {T N : Nat} {rv : Value} {R : List Ru} (hr : RulesAt w w.heap.size rv R) (hm : mayB T N R = true) (hmo : ¬ More T N R 150) :
    Calls Try.prog 3 #[.agg #[.int .i64 T, .int .i64 N, rv]] w fun e w' => e = .returned (.bool true) ∧ Below w.heap.size w w' := by
  obtain ⟨ra, rc, hrv⟩ := hr.1
  subst hrv
  have HR1 : Hid (RulesAt (w.alloc (.cells #[.int .i64 T, .int .i64 N, .slice ra R.length rc] 24)) (w.alloc (.cells #[.int .i64 T, .int .i64 N, .slice ra R.length rc] 24)).heap.size (.slice ra R.length rc) R) := hr.boxed _
  have tab0 := tkOf_may (T := T) (N := N) HR1.out hm
  have tab := tab0.mono (R' := fun e w' => ∃ K cv gv, e = .returned (.tuple #[.agg #[cv, gv], .int .i64 0]) ∧ Below (w.alloc (.cells #[.int .i64 T, .int .i64 N, .slice ra R.length rc] 24)).heap.size (w.alloc (.cells #[.int .i64 T, .int .i64 N, .slice ra R.length rc] 24)) w' ∧ Whole T N R K ∧ K ≤ 150 ∧ TabAt w' cv gv (tabC T N R K) (tabG T N R K)) fun e w' h => by
    rcases h with ⟨_, _, h2⟩ | h
    · exact absurd h2 hmo
    · exact h
  have HM : Hid (mayB T N R = true) := hm
  have HMO : Hid (¬ More T N R 150) := hmo
  have HB1 : Hid (Below w.heap.size w (w.alloc (.cells #[.int .i64 T, .int .i64 N, .slice ra R.length rc] 24))) := (Below.refl _ _).alloc (Nat.le_refl _) _
  clear hr hm tab0 hmo
  go_enter Try.func3, Try.ntmps3
  go_upto_region 7 with
    (first
     | (go_at_call 4; refine tab.mono ?_; rintro e w2 ⟨K, cv, gv, rfl, hB2, hW, hK, hTab⟩
        obtain ⟨ca, cc, hcv⟩ := hTab.cells.1
        obtain ⟨ga, gc, hgv⟩ := hTab.goto.1
        obtain ⟨nc, hnc⟩ : ∃ n, (tabC T N R K).length = n := ⟨_, rfl⟩
        obtain ⟨ng, hng⟩ : ∃ n, (tabG T N R K).length = n := ⟨_, rfl⟩
        rw [hnc] at hcv
        rw [hng] at hgv
        clear hnc hng
        subst hcv
        subst hgv
        have b0 : w2.cell? ⟨w.heap.size, 0, none⟩ = some (.int .i64 T) := (hB2.cell (by simp)).trans (by simp [go_sem])
        have b1 : w2.cell? ⟨w.heap.size, 1, none⟩ = some (.int .i64 N) := (hB2.cell (by simp)).trans (by simp [go_sem])
        have b2 : w2.cell? ⟨w.heap.size, 2, none⟩ = some (.slice ra R.length rc) := (hB2.cell (by simp)).trans (by simp [go_sem])
        have hs2 : w.heap.size < w2.heap.size := by have := hB2.size; simp at this; omega
        have m0 : (w2.alloc (.cells #[.slice ca nc cc, .slice ga ng gc] 28)).cell? ⟨w.heap.size, 0, none⟩ = some (.int .i64 T) := by rw [World.cell?_alloc_past _ _ _ hs2]; exact b0
        have m1 : (w2.alloc (.cells #[.slice ca nc cc, .slice ga ng gc] 28)).cell? ⟨w.heap.size, 1, none⟩ = some (.int .i64 N) := by rw [World.cell?_alloc_past _ _ _ hs2]; exact b1
        have m2 : (w2.alloc (.cells #[.slice ca nc cc, .slice ga ng gc] 28)).cell? ⟨w.heap.size, 2, none⟩ = some (.slice ra R.length rc) := by rw [World.cell?_alloc_past _ _ _ hs2]; exact b2
        have hR2 : RulesAt w2 w2.heap.size (.slice ra R.length rc) R := (HR1.out.below hB2).mono hB2.size
        have HR2 : Hid (RulesAt (w2.alloc (.cells #[.slice ca nc cc, .slice ga ng gc] 28)) (w2.alloc (.cells #[.slice ca nc cc, .slice ga ng gc] 28)).heap.size (.slice ra R.length rc) R) := hR2.boxed _
        have may := may1_any (T := T) (N := N) HR2.out
        rw [HM.out] at may
        have HB2 : Hid (Below w.heap.size w w2) := HB1.out.trans (hB2.mono (by simp))
        have HW : Hid (Whole T N R K ∧ K ≤ 150) := ⟨hW, hK⟩
        have HT2 : Hid (TabAt w2 (.slice ca nc cc) (.slice ga ng gc) (tabC T N R K) (tabG T N R K)) := hTab
        clear hB2 hR2 tab hW hK hTab)
     | (go_at_call 5; refine may.mono ?_; rintro e w3 ⟨rfl, hB3⟩
        have s0 : w3.cell? ⟨w2.heap.size, 0, none⟩ = some (.slice ca nc cc) := (hB3.cell (by simp)).trans (by simp [go_sem])
        have s1 : w3.cell? ⟨w2.heap.size, 1, none⟩ = some (.slice ga ng gc) := (hB3.cell (by simp)).trans (by simp [go_sem])
        have hs3 : w2.heap.size < w3.heap.size := by have := hB3.size; simp at this; omega
        have n0 := (hB3.cell (p := ⟨w.heap.size, 0, none⟩) (by simp; omega)).trans m0
        have n1 := (hB3.cell (p := ⟨w.heap.size, 1, none⟩) (by simp; omega)).trans m1
        have n2 := (hB3.cell (p := ⟨w.heap.size, 2, none⟩) (by simp; omega)).trans m2
        have hB23 : Below w2.heap.size w2 w3 := ((Below.refl _ _).alloc (Nat.le_refl _) _).trans (hB3.mono (by simp))
        have HT3 : Hid (TabAt w3 (.slice ca nc cc) (.slice ga ng gc) (tabC T N R K) (tabG T N R K)) := HT2.out.below hB23
        have HB3 : Hid (Below w.heap.size w w3) := HB2.out.trans (hB23.mono (by omega))
        have ref := (of6_any (w := w3) (T := T) (N := N) ((HR2.out.below hB3).mono hB3.size) HM.out (fine_of HM.out).1).mono (R' := fun e w' => ∃ cv gv, e = .returned (.tuple #[.agg #[cv, gv], .bool true]) ∧ Below w3.heap.size w3 w' ∧ TabAt w' cv gv (tabC T N R K) (tabG T N R K)) fun e w' h => by
          rcases h with ⟨_, _, h2⟩ | ⟨K', cv, gv, h1, h2, h3, _, h5⟩
          · exact absurd h2 HMO.out
          · rw [← whole_one HW.out.1 h3] at h5
            exact ⟨cv, gv, h1, h2, h5⟩
        clear hB3 may m0 m1 m2 b0 b1 b2 hB23)
     | (go_at_call 7; refine ref.mono ?_; rintro e w4 ⟨cv', gv', rfl, hB4, hTab4⟩
        obtain ⟨ca', cc', hcv⟩ := hTab4.cells.1
        obtain ⟨ga', gc', hgv⟩ := hTab4.goto.1
        obtain ⟨nc', hnc⟩ : ∃ n, (tabC T N R K).length = n := ⟨_, rfl⟩
        obtain ⟨ng', hng⟩ : ∃ n, (tabG T N R K).length = n := ⟨_, rfl⟩
        rw [hnc] at hcv
        rw [hng] at hgv
        clear hnc hng
        subst hcv
        subst hgv
        have t0 := (hB4.cell (p := ⟨w2.heap.size, 0, none⟩) hs3).trans s0
        have t1 := (hB4.cell (p := ⟨w2.heap.size, 1, none⟩) hs3).trans s1
        have hs4 : w3.heap.size ≤ w4.heap.size := hB4.size
        have HBa : Hid (Below w4.heap.size w4 (w4.alloc (.cells #[.slice ca' nc' cc', .slice ga' ng' gc'] 28))) := (Below.refl _ _).alloc (Nat.le_refl _) _
        have v0 : (w4.alloc (.cells #[.slice ca' nc' cc', .slice ga' ng' gc'] 28)).cell? ⟨w2.heap.size, 0, none⟩ = some (.slice ca nc cc) := by rw [World.cell?_alloc_past _ _ _ (by omega)]; exact t0
        have v1 : (w4.alloc (.cells #[.slice ca' nc' cc', .slice ga' ng' gc'] 28)).cell? ⟨w2.heap.size, 1, none⟩ = some (.slice ga ng gc) := by rw [World.cell?_alloc_past _ _ _ (by omega)]; exact t1
        have HT4 : Hid (TabAt (w4.alloc (.cells #[.slice ca' nc' cc', .slice ga' ng' gc'] 28)) (.slice ca nc cc) (.slice ga ng gc) (tabC T N R K) (tabG T N R K) ∧ TabAt (w4.alloc (.cells #[.slice ca' nc' cc', .slice ga' ng' gc'] 28)) (.slice ca' nc' cc') (.slice ga' ng' gc') (tabC T N R K) (tabG T N R K)) := ⟨(HT3.out.below hB4).below HBa.out, hTab4.below HBa.out⟩
        have HB4 : Hid (Below w.heap.size w (w4.alloc (.cells #[.slice ca' nc' cc', .slice ga' ng' gc'] 28))) := (HB3.out.trans (hB4.mono (by omega))).alloc (by omega) _
        clear hB4 ref hTab4))
  have v2 : (w4.alloc (.cells #[.slice ca' nc' cc', .slice ga' ng' gc'] 28)).cell? ⟨w4.heap.size, 0, none⟩ = some (.slice ca' nc' cc') := by simp [go_sem]
  have v3 : (w4.alloc (.cells #[.slice ca' nc' cc', .slice ga' ng' gc'] 28)).cell? ⟨w4.heap.size, 1, none⟩ = some (.slice ga' ng' gc') := by simp [go_sem]
  have hs5 : w4.heap.size < (w4.alloc (.cells #[.slice ca' nc' cc', .slice ga' ng' gc'] 28)).heap.size := by simp
  obtain ⟨W5, hW5⟩ : ∃ W, w4.alloc (.cells #[.slice ca' nc' cc', .slice ga' ng' gc'] 28) = W := ⟨_, rfl⟩
  rw [hW5] at v0 v1 v2 v3 HT4 HB4 hs5 ⊢
  clear hW5 t0 t1 s0 s1 n0 n1 n2
  obtain ⟨l1, l2, l3, l4, l5⟩ := tab_small HM.out HW.out.1 HW.out.2
  have sam := same6_eq (w := W5.drew) (HT4.out.1.below (Below.refl _ _).drew) (HT4.out.2.below (Below.refl _ _).drew) l1 l2 l3 l4 l5
  have HL : Hid ((tabC T N R K).length ≤ 1000 ∧ (∀ i, i < (tabC T N R K).length → ((tabC T N R K).getD i []).length ≤ 1000) ∧ ∀ i k, i < (tabC T N R K).length → k < ((tabC T N R K).getD i []).length → (((tabC T N R K).getD i []).getD k (0, [], false)).2.1.length ≤ 1000) := ⟨l1, l3, l5⟩
  clear l1 l2 l3 l4 l5
  go_region_held3 (fun wx => wx.cell? ⟨w2.heap.size, 0, none⟩ = some (.slice ca nc cc) ∧ wx.cell? ⟨w2.heap.size, 1, none⟩ = some (.slice ga ng gc) ∧ wx.cell? ⟨w4.heap.size, 0, none⟩ = some (.slice ca' nc' cc') ∧ wx.cell? ⟨w4.heap.size, 1, none⟩ = some (.slice ga' ng' gc')) (first | (refine ⟨?_, ?_, ?_, ?_⟩ <;> assumption) | go_keep)
    (first
     | (go_at_call 6; refine sam.mono ?_; rintro e w6 ⟨rfl, hB6⟩
        have hb6 : Below W5.heap.size W5 w6 := (Below.refl _ _).drew.trans hB6
        have p0 := (hb6.cell (p := ⟨w2.heap.size, 0, none⟩) (by simp only; omega)).trans v0
        have p1 := (hb6.cell (p := ⟨w2.heap.size, 1, none⟩) (by simp only; omega)).trans v1
        have p2 := (hb6.cell (p := ⟨w4.heap.size, 0, none⟩) (by simp only; omega)).trans v2
        have p3 := (hb6.cell (p := ⟨w4.heap.size, 1, none⟩) (by simp only; omega)).trans v3
        have HB6 : Hid (Below W5.heap.size W5 w6) := hb6
        have hs6 : W5.heap.size ≤ w6.heap.size := hb6.size
        have cl1 := tk_clashes (HT4.out.1.below hb6) HL.out.1 HL.out.2.1 HL.out.2.2
        clear hb6 hB6 sam)
     | (go_at_call 8; refine cl1.mono ?_; rintro e w7 ⟨rfl, hB7⟩
        have q0 := (hB7.cell (p := ⟨w2.heap.size, 0, none⟩) (by simp only; omega)).trans p0
        have q1 := (hB7.cell (p := ⟨w2.heap.size, 1, none⟩) (by simp only; omega)).trans p1
        have q2 := (hB7.cell (p := ⟨w4.heap.size, 0, none⟩) (by simp only; omega)).trans p2
        have q3 := (hB7.cell (p := ⟨w4.heap.size, 1, none⟩) (by simp only; omega)).trans p3
        have HB7 : Hid (Below W5.heap.size W5 w7) := HB6.out.trans (hB7.mono hs6)
        have hs7 : W5.heap.size ≤ w7.heap.size := HB7.out.size
        have cl2 := clashes6_any (HT4.out.2.below HB7.out) HL.out.1 HL.out.2.1
        clear hB7 cl1)
     | (go_at_call 9; refine cl2.mono ?_; rintro e w8 ⟨rfl, hB8⟩
        have r0 := (hB8.cell (p := ⟨w2.heap.size, 0, none⟩) (by simp only; omega)).trans q0
        have r1 := (hB8.cell (p := ⟨w2.heap.size, 1, none⟩) (by simp only; omega)).trans q1
        have r2 := (hB8.cell (p := ⟨w4.heap.size, 0, none⟩) (by simp only; omega)).trans q2
        have r3 := (hB8.cell (p := ⟨w4.heap.size, 1, none⟩) (by simp only; omega)).trans q3
        have HB8 : Hid (Below W5.heap.size W5 w8) := HB7.out.trans (hB8.mono hs7)
        clear hB8 cl2))
  all_goals
    go_wp2_with fail
    go_ret
    exact ⟨rfl, HB4.out.trans (HB8.out.mono (by omega))⟩

theorem tableTells_any {w : World} {T N : Int} {rv : Value} {R : List Ru} (hr : RulesAt w w.heap.size rv R) :
    Calls Try.prog 3 #[.agg #[.int .i64 T, .int .i64 N, rv]] w fun e w' => e = .returned (.bool true) ∧ Below w.heap.size w w' := by
  cases hm : mayB T N R with
  | false => exact tableTells_not hr hm
  | true =>
    have hh := hm
    simp only [mayB, headB, Bool.and_eq_true, decide_eq_true_eq] at hh
    obtain ⟨t, rfl⟩ : ∃ t : Nat, T = t := ⟨T.toNat, by omega⟩
    obtain ⟨n, rfl⟩ : ∃ n : Nat, N = n := ⟨N.toNat, by omega⟩
    by_cases hmo : More t n R 150
    · exact tableTells_more hr hm hmo
    · exact tableTells_whole hr hm hmo

end Go.Proofs.Ytinmafbaapoloaa

/- A grammar that came in as data lies in memory as RulesAt says; what the bound on the bulk gives. -/
namespace Go.Proofs.Ytinmafbaapoloaa
open Go.ChangeShapes Go.WideShapes Go.ChangeAt Go.RowKit Go.Deep

theorem Try.cells54 : Try.prog.cellsOf 54 = 2 := by kernel_rfl
theorem Try.cells56 : Try.prog.cellsOf 56 = 2 := by kernel_rfl
theorem Try.cells3 : Try.prog.cellsOf 3 = 1 := by kernel_rfl
theorem Try.cells4 : Try.prog.cellsOf 4 = 1 := by kernel_rfl
theorem Try.cells52 : Try.prog.cellsOf 52 = 1 := by kernel_rfl

theorem bulk_one {H : Type} (d : DataW H) : 1 ≤ Rows.uptoBulk d := by
  cases d with
  | lit l => cases l <;> simp [Rows.uptoBulk]
  | nil => simp [Rows.uptoBulk]
  | ptr d => simp [Rows.uptoBulk]
  | slice elems spare => simp [Rows.uptoBulk]
  | agg parts => simp [Rows.uptoBulk]
  | iface t d => simp [Rows.uptoBulk]
  | map entries => simp [Rows.uptoBulk]
  | held h => simp [Rows.uptoBulk]

theorem bulk_part {H : Type} {d : DataW H} {l : List (DataW H)} (h : d ∈ l) : Rows.uptoBulk d ≤ Rows.uptoBulkAll l := by
  induction l with
  | nil => cases h
  | cons x r ih =>
    simp only [Rows.uptoBulkAll]
    cases List.mem_cons.1 h with
    | inl e => subst e; omega
    | inr e => have := ih e; omega

theorem bulk_length {H : Type} (l : List (DataW H)) : l.length ≤ Rows.uptoBulkAll l := by
  induction l with
  | nil => simp
  | cons x r ih => have := bulk_one x; simp only [Rows.uptoBulkAll, List.length_cons]; omega

section
variable {H : Type} {enc : TypeId × Value → H} {W : World} {n : Nat} {v : Value} {x : DataW H × List MemPlace}

theorem plain_of_cell {a : Addr} {u : Value} (h : W.cell? (a.add 0) = some u) : ∃ b o, a = ⟨b, o, none⟩ := by
  obtain ⟨b, o, spot⟩ := a
  have : spot = none := by simpa [Addr.add] using World.cell?_spot h
  subst this
  exact ⟨b, o, rfl⟩

/-- The symbols of a rule. -/
theorem syms_read (h : DataW.trod enc Try.prog W 0 (fun _ => true) true n 52 [v] = some x) :
    ∃ (Rt : List Sy) (qa : Option Addr) (qc : Nat), v = .slice qa Rt.length qc ∧ Rt.length ≤ qc ∧ Rt.length ≤ Rows.uptoBulk x.1 ∧
      ∀ j, j < Rt.length → ∃ b' o', qa = some ⟨b', o', none⟩ ∧ b' < W.heap.size ∧
        W.cell? ⟨b', o' + j * 2, none⟩ = some (.bool (Rt.getD j (false, 0)).1) ∧ W.cell? ⟨b', o' + (j * 2 + 1), none⟩ = some (.int .i64 (Rt.getD j (false, 0)).2) := by
  rcases open_slice_pairs Try.underlying52 Try.underlying56 Try.cells56 rfl rfl Try.cells4 Try.cells3 h with ⟨hv, _⟩ | ⟨a, len, cap, m, n', V0, V1, D0, D1, P0, P1, hv, _, hl, _, hm, rfl, hx⟩
  · simp only [List.cons.injEq, and_true] at hv
    exact ⟨[], none, 0, hv, by simp, by simp, fun j hj => by simp at hj⟩
  · simp only [List.cons.injEq, and_true] at hv
    simp only [if_true] at hm
    have each : ∀ i, i < len → ∃ s : Sy, W.cell? (a.add (i * 2)) = some (.bool s.1) ∧ W.cell? (a.add (i * 2 + 1)) = some (.int .i64 s.2) := fun i hi => by
      obtain ⟨h1, h2, h3, h4⟩ := hx i (by omega)
      obtain ⟨t, ht, _⟩ := DataW.trod_bool Try.underlying4 h3
      obtain ⟨k, hk, _⟩ := DataW.trod_int Try.underlying3 h4
      simp only [List.cons.injEq, and_true] at ht hk
      exact ⟨(t, k), by rw [h1, ht], by rw [h2, hk]⟩
    obtain ⟨f, hf⟩ := choose_lt each
    have hlen : ((List.range len).map f).length = len := by simp
    have hget : ∀ j, j < len → ((List.range len).map f).getD j (false, 0) = f j := fun j hj => by simp [List.getD, hj]
    refine ⟨(List.range len).map f, some a, cap, by rw [hv, hlen], by rw [hlen]; exact hl, ?_, fun j hj => ?_⟩
    · have := bulk_length ((List.range len).map fun i => DataW.agg [D0 i, D1 i])
      simp only [Rows.uptoBulk, List.length_map, List.length_range] at this ⊢
      omega
    · rw [hlen] at hj
      rw [hget j hj]
      have h0 := (hf 0 (by omega)).1
      rw [Nat.zero_mul] at h0
      obtain ⟨b, o, rfl⟩ := plain_of_cell h0
      obtain ⟨h1, h2⟩ := hf j hj
      rw [add_plain] at h1 h2
      exact ⟨b, o, rfl, World.block_lt_of_cell? W _ h1, h1, h2⟩

/-- The rules of a grammar. -/
theorem rules_read (h : DataW.trod enc Try.prog W 0 (fun _ => true) true n 22 [v] = some x) :
    ∃ R : List Ru, RulesAt W W.heap.size v R ∧ ∀ q, (R.getD q (0, [])).2.length ≤ Rows.uptoBulk x.1 := by
  rcases open_slice_pairs Try.underlying22 Try.underlying54 Try.cells54 rfl rfl Try.cells3 Try.cells52 h with ⟨hv, _⟩ | ⟨a, len, cap, m, n', V0, V1, D0, D1, P0, P1, hv, _, hl, _, hm, rfl, hx⟩
  · simp only [List.cons.injEq, and_true] at hv
    exact ⟨[], ⟨⟨none, 0, hv⟩, fun q hq => by simp at hq⟩, fun q => by simp⟩
  · simp only [List.cons.injEq, and_true] at hv
    simp only [if_true] at hm
    have each : ∀ i, i < len → ∃ r : Ru, W.cell? (a.add (i * 2)) = some (.int .i64 r.1) ∧ ∃ qa qc, W.cell? (a.add (i * 2 + 1)) = some (.slice qa r.2.length qc) ∧ r.2.length ≤ qc ∧ r.2.length ≤ Rows.uptoBulk (D1 i) ∧
        ∀ j, j < r.2.length → ∃ b' o', qa = some ⟨b', o', none⟩ ∧ b' < W.heap.size ∧
          W.cell? ⟨b', o' + j * 2, none⟩ = some (.bool (r.2.getD j (false, 0)).1) ∧ W.cell? ⟨b', o' + (j * 2 + 1), none⟩ = some (.int .i64 (r.2.getD j (false, 0)).2) := fun i hi => by
      obtain ⟨h1, h2, h3, h4⟩ := hx i (by omega)
      obtain ⟨k, hk, _⟩ := DataW.trod_int Try.underlying3 h3
      simp only [List.cons.injEq, and_true] at hk
      obtain ⟨Rt, qa, qc, hq, hc, hb, hs⟩ := syms_read h4
      exact ⟨(k, Rt), by rw [h1, hk], qa, qc, by rw [h2, hq], hc, hb, hs⟩
    obtain ⟨f, hf⟩ := choose_lt each
    have hlen : ((List.range len).map f).length = len := by simp
    have hget : ∀ j, j < len → ((List.range len).map f).getD j (0, []) = f j := fun j hj => by simp [List.getD, hj]
    refine ⟨(List.range len).map f, ⟨⟨some a, cap, by rw [hv, hlen]⟩, fun q hq => ?_⟩, fun q => ?_⟩
    · rw [hlen] at hq
      rw [hget q hq]
      have h0 := (hf 0 (by omega)).1
      rw [Nat.zero_mul] at h0
      obtain ⟨b, o, rfl⟩ := plain_of_cell h0
      obtain ⟨h1, qa, qc, h2, hc, _, h3⟩ := hf q hq
      rw [add_plain] at h1 h2
      exact ⟨b, o, cap, qa, qc, by rw [hv, hlen], World.block_lt_of_cell? W _ h1, h1, h2, hc, h3⟩
    · by_cases hq : q < len
      · rw [hget q hq]
        obtain ⟨_, _, _, _, _, hb, _⟩ := hf q hq
        have h1 : DataW.agg [D0 q, D1 q] ∈ (List.range len).map fun i => DataW.agg [D0 i, D1 i] := List.mem_map.2 ⟨q, List.mem_range.2 hq, rfl⟩
        have h2 := bulk_part h1
        simp only [Rows.uptoBulk, Rows.uptoBulkAll] at h2 ⊢
        omega
      · simp [List.getD, List.getElem?_eq_none (show ((List.range len).map f).length ≤ q by omega)]

end

end Go.Proofs.Ytinmafbaapoloaa
