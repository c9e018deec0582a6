/- The contracts of pollardingref6.ints and Same, where both sides are one. -/
import Derived.Test.YtchpfdnifbdfpaaTab6
namespace Go.Proofs.Ytchpfdnifbdfpaa
open Go.RowKit

set_option maxRecDepth 100000 in
set_option maxHeartbeats 1600000 in
theorem ints6_eq {w : World} {la lb : Nat} {a b : Value} {X : List Int} (ha : ListAt w la a X) (hb : ListAt w lb b X) (hl : X.length ≤ 1000000) :
    Calls Try.prog 14 #[a, b] w fun e w' => e = .returned (.bool true) ∧ ∃ m, w' = w.drewN m := by
  obtain ⟨aa, ac, hav⟩ := ha.1
  obtain ⟨ba, bc, hbv⟩ := hb.1
  have HA : Hid (ListAt w la a X) := ha
  have HB : Hid (ListAt w lb b X) := hb
  clear ha hb
  subst hav
  subst hbv
  have e0 : ((X.length : Int) != (X.length : Int)) = false := by simp
  go_enter Try.func14, Try.ntmps14
  go_wp2_with fail
  go_loopw [5] (fun k wr => ∃ i m : Nat, k = .int .i64 i ∧ i ≤ X.length ∧ wr = w.drewN m) (fun k _ => X.length - (intOf k).toNat)
  case atStart => exact ⟨0, 0, rfl, Nat.zero_le _, rfl⟩
  case round =>
    obtain ⟨i, m, rfl, hi, rfl⟩ := hrel
    by_cases hlt : i < X.length
    · obtain ⟨g1, o1, c1, hv1, _, k1⟩ := HA.out.2 i hlt
      obtain ⟨g2, o2, c2, hv2, _, k2⟩ := HB.out.2 i hlt
      cases hv1
      cases hv2
      obtain ⟨z, hz⟩ : ∃ z, X.getD i 0 = z := ⟨_, rfl⟩
      rw [hz] at k1 k2
      have j0 : (0 : Int) ≤ (i : Int) := Int.natCast_nonneg _
      have j1 : (i : Int) < (X.length : Int) := by omega
      have e1 : (z != z) = false := by simp
      clear hz
      go_wp2_with fail
      go_big_quiet (fail)
      go_wp2_with fail
      go_roundw
      case rel => exact ⟨i + 1, _, by go_num, by omega, rfl⟩
      case measure => simp [intOf]; omega
    · go_wp2_with fail
      go_ret
      exact ⟨rfl, m, rfl⟩

set_option maxRecDepth 100000 in
set_option maxHeartbeats 3200000 in
theorem same6_eq {w : World} {c1 g1 c2 g2 : Value} {C : List (List Ce)} {G : List (List Int)} (h1 : TabAt w c1 g1 C G) (h2 : TabAt w c2 g2 C G) (hC : C.length ≤ 1000) (hG : G.length ≤ 1000) (hR : ∀ i, i < C.length → (C.getD i []).length ≤ 1000) (hS : ∀ i, i < G.length → (G.getD i []).length ≤ 1000)
    (hU : ∀ i k, i < C.length → k < (C.getD i []).length → ((C.getD i []).getD k (0, [], false)).2.1.length ≤ 1000) :
    Calls Try.prog 6 #[.agg #[c1, g1], .agg #[c2, g2]] w fun e w' => e = .returned (.bool true) ∧ Below w.heap.size w w' := by
  obtain ⟨ca1, cc1, hc1⟩ := h1.cells.1
  obtain ⟨ga1, gc1, hg1⟩ := h1.goto.1
  obtain ⟨ca2, cc2, hc2⟩ := h2.cells.1
  obtain ⟨ga2, gc2, hg2⟩ := h2.goto.1
  subst hc1
  subst hg1
  subst hc2
  subst hg2
  have H1 : Hid (TabAt w (.slice ca1 C.length cc1) (.slice ga1 G.length gc1) C G) := h1
  have H2 : Hid (TabAt w (.slice ca2 C.length cc2) (.slice ga2 G.length gc2) C G) := h2
  have HR : Hid (∀ i, i < C.length → (C.getD i []).length ≤ 1000) := hR
  have HS : Hid (∀ i, i < G.length → (G.getD i []).length ≤ 1000) := hS
  have HU : Hid (∀ i k, i < C.length → k < (C.getD i []).length → ((C.getD i []).getD k (0, [], false)).2.1.length ≤ 1000) := hU
  obtain ⟨WT, hWT⟩ : ∃ W, (w.alloc (.cells #[.slice ca1 C.length cc1, .slice ga1 G.length gc1] 28)).alloc (.cells #[.slice ca2 C.length cc2, .slice ga2 G.length gc2] 28) = W := ⟨_, rfl⟩
  have HBX : Hid (∀ wr, Below (w.heap.size + 2) WT wr → wr.cell? ⟨w.heap.size, 0, none⟩ = some (.slice ca1 C.length cc1) ∧ wr.cell? ⟨w.heap.size, 1, none⟩ = some (.slice ga1 G.length gc1) ∧ wr.cell? ⟨w.heap.size + 1, 0, none⟩ = some (.slice ca2 C.length cc2) ∧ wr.cell? ⟨w.heap.size + 1, 1, none⟩ = some (.slice ga2 G.length gc2) ∧ Below w.heap.size w wr ∧ w.heap.size + 2 ≤ wr.heap.size) := fun wr hB => by
    subst hWT
    have hB0 : Below w.heap.size w ((w.alloc (.cells #[.slice ca1 C.length cc1, .slice ga1 G.length gc1] 28)).alloc (.cells #[.slice ca2 C.length cc2, .slice ga2 G.length gc2] 28)) := ((Below.refl _ _).alloc (Nat.le_refl _) _).alloc (by simp) _
    exact ⟨(hB.cell (by simp)).trans (by simp [go_sem]), (hB.cell (by simp)).trans (by simp [go_sem]), (hB.cell (by simp)).trans (by simp [go_sem]), (hB.cell (by simp)).trans (by simp [go_sem]), hB0.trans (hB.mono (by omega)), by have := hB.size; simpa using this⟩
  have e0 : ((C.length : Int) != (C.length : Int)) = false := by simp
  have e00 : ((G.length : Int) != (G.length : Int)) = false := by simp
  have HWT : Hid ((w.alloc (.cells #[.slice ca1 C.length cc1, .slice ga1 G.length gc1] 28)).alloc (.cells #[.slice ca2 C.length cc2, .slice ga2 G.length gc2] 28) = WT) := hWT
  clear h1 h2 hR hS hU hWT
  go_enter Try.func6, Try.ntmps6
  go_wp2_with fail
  rw [HWT.out]
  clear HWT
  go_loopw [5] (fun s5 wr => ∃ i : Nat, s5 = .int .i64 i ∧ i ≤ C.length ∧ Below (w.heap.size + 2) WT wr) (fun s _ => C.length - (intOf s).toNat)
  case atStart => exact ⟨0, rfl, Nat.zero_le _, Below.refl _ _⟩
  case round =>
    obtain ⟨i, rfl, hi, hB⟩ := hrel
    have HB : Hid (Below (w.heap.size + 2) WT wr) := hB
    obtain ⟨b1, b2, b3, b4, hBw, hsz⟩ := HBX.out wr hB
    by_cases hlt : i < C.length
    · obtain ⟨Xr, hXr⟩ : ∃ x, C.getD i [] = x := ⟨_, rfl⟩
      have HXr : Hid (C.getD i [] = Xr) := hXr
      have hXl : Xr.length ≤ 1000 := by rw [← hXr]; exact HR.out i hlt
      obtain ⟨x1, o1, q1, r1, hv1, d1, hs1⟩ := (H1.out.cells.below hBw).2 i hlt
      obtain ⟨x2, o2, q2, r2, hv2, d2, hs2⟩ := (H2.out.cells.below hBw).2 i hlt
      cases hv1
      cases hv2
      rw [hXr] at hs1 hs2
      obtain ⟨ra1, rc1, hr1⟩ := hs1.1
      obtain ⟨ra2, rc2, hr2⟩ := hs2.1
      subst hr1
      subst hr2
      have i0 : (0 : Int) ≤ (i : Int) := Int.natCast_nonneg _
      have i1 : (i : Int) < (C.length : Int) := by omega
      have e1 : ((Xr.length : Int) != (Xr.length : Int)) = false := by simp
      clear hB hBw hXr hs1 hs2
      go_wp2_with fail
      go_big_quiet (fail)
      go_wp2_with fail
      clear b1 b2 b3 b4 d1 d2
      go_loopw [6] (fun s6 wq => ∃ k : Nat, s6 = .int .i64 k ∧ k ≤ Xr.length ∧ Below (w.heap.size + 2) WT wq) (fun s _ => Xr.length - (intOf s).toNat)
      case atStart => exact ⟨0, rfl, Nat.zero_le _, below_drewN HB.out _⟩
      case round =>
        clear HB
        obtain ⟨k, rfl, hk, hB⟩ := hrel
        have HB : Hid (Below (w.heap.size + 2) WT wr) := hB
        obtain ⟨b1, b2, b3, b4, hBw, hsz⟩ := HBX.out wr hB
        obtain ⟨x1, o1, q1, r1, hv1, d1, hs1⟩ := (H1.out.cells.below hBw).2 i hlt
        obtain ⟨x2, o2, q2, r2, hv2, d2, hs2⟩ := (H2.out.cells.below hBw).2 i hlt
        cases hv1
        cases hv2
        rw [HXr.out] at hs1 hs2
        obtain ⟨ra1', rc1', hr1⟩ := hs1.1
        obtain ⟨ra2', rc2', hr2⟩ := hs2.1
        subst hr1
        subst hr2
        by_cases hklt : k < Xr.length
        · obtain ⟨y1, p1, c1', l1, hw1, a1, a2, a3, a4⟩ := hs1.2 k hklt
          obtain ⟨y2, p2, c2', l2, hw2, f1, f2, f3, f4⟩ := hs2.2 k hklt
          cases hw1
          cases hw2
          have hul := HU.out i k hlt (by rw [HXr.out]; exact hklt)
          rw [HXr.out] at hul
          obtain ⟨⟨sh, ru, en⟩, hce⟩ : ∃ x, Xr.getD k (0, [], false) = x := ⟨_, rfl⟩
          rw [hce] at a1 a3 a4 f1 f3 f4 hul
          simp only at a1 a3 a4 f1 f3 f4 hul
          have hBA : Below wr.heap.size wr ((wr.alloc (.cells #[.int .i64 sh, l1, .bool en] 60)).alloc (.cells #[.int .i64 sh, l2, .bool en] 60)) := ((Below.refl _ _).alloc (Nat.le_refl _) _).alloc (by simp) _
          have call := ints6_eq (a3.below hBA) (f3.below hBA) (by omega)
          have HA : Hid (Below (w.heap.size + 2) WT ((wr.alloc (.cells #[.int .i64 sh, l1, .bool en] 60)).alloc (.cells #[.int .i64 sh, l2, .bool en] 60))) := HB.out.trans (hBA.mono hsz)
          have g1 := (same_alloc1 wr (.cells #[.int .i64 sh, l1, .bool en] 60) _ _ (World.block_lt_of_cell? _ _ b3)).trans b3
          have g2 := (same_alloc1 wr (.cells #[.int .i64 sh, l1, .bool en] 60) _ _ (World.block_lt_of_cell? _ _ d2)).trans d2
          have g3 := (same_alloc1 wr (.cells #[.int .i64 sh, l1, .bool en] 60) _ _ (World.block_lt_of_cell? _ _ f1)).trans f1
          have g4 := (same_alloc1 wr (.cells #[.int .i64 sh, l1, .bool en] 60) _ _ (World.block_lt_of_cell? _ _ f2)).trans f2
          have g5 := (same_alloc1 wr (.cells #[.int .i64 sh, l1, .bool en] 60) _ _ (World.block_lt_of_cell? _ _ f4)).trans f4
          have k0 : (0 : Int) ≤ (k : Int) := Int.natCast_nonneg _
          have k1 : (k : Int) < (Xr.length : Int) := by omega
          have e2 : (sh != sh) = false := by simp
          have e3 : (en != en) = false := by simp
          obtain ⟨la1, lc1, hl1⟩ := a3.1
          obtain ⟨la2, lc2, hl2⟩ := f3.1
          subst hl1
          subst hl2
          clear hs1 hs2 hce a3 f3 hB hBw hBA
          go_wp2_with (go_at_call 14; refine call.mono ?_; rintro e w5 ⟨rfl, m5, rfl⟩)
          go_roundw
          case rel => exact ⟨k + 1, by go_num, by omega, below_drewN HA.out _⟩
          case measure => simp [intOf]; omega
        · clear hs1 hs2 hB hBw
          go_wp2_with fail
          go_roundw
          case rel => exact ⟨i + 1, by go_num, by omega, HB.out⟩
          case measure => simp [intOf]; omega
    · clear hB hBw
      go_wp2_with fail
      clear b1 b2 b3 b4
      go_loopw [9] (fun s9 wq => ∃ j : Nat, s9 = .int .i64 j ∧ j ≤ G.length ∧ Below (w.heap.size + 2) WT wq) (fun s _ => G.length - (intOf s).toNat)
      case atStart => exact ⟨0, rfl, Nat.zero_le _, HB.out⟩
      case round =>
        clear HB
        obtain ⟨j, rfl, hj, hB⟩ := hrel
        have HB : Hid (Below (w.heap.size + 2) WT wr) := hB
        obtain ⟨b1, b2, b3, b4, hBw, hsz⟩ := HBX.out wr hB
        have HBw : Hid (Below w.heap.size w wr) := hBw
        by_cases hjlt : j < G.length
        · obtain ⟨x1, o1, q1, r1, hv1, d1, hs1⟩ := (H1.out.goto.below hBw).2 j hjlt
          obtain ⟨x2, o2, q2, r2, hv2, d2, hs2⟩ := (H2.out.goto.below hBw).2 j hjlt
          cases hv1
          cases hv2
          have hgl := HS.out j hjlt
          obtain ⟨Gj, hGj⟩ : ∃ x, G.getD j [] = x := ⟨_, rfl⟩
          rw [hGj] at hs1 hs2 hgl
          clear hGj
          have call := ints6_eq (w := wr.drew) hs1 hs2 (by omega)
          obtain ⟨ra1, rc1, hr1⟩ := hs1.1
          obtain ⟨ra2, rc2, hr2⟩ := hs2.1
          subst hr1
          subst hr2
          have i0 : (0 : Int) ≤ (j : Int) := Int.natCast_nonneg _
          have i1 : (j : Int) < (G.length : Int) := by omega
          clear hB hBw hs1 hs2
          go_wp2_with fail
          refine wp_region_tail 10 (by kernel_rfl) (by kernel_rfl) ?_
          simp only [List.take_succ_cons, List.take_zero, List.drop_succ_cons, List.drop_zero]
          repeat still_step
          refine wpStill_nil ?_
          go_wp2_with (go_at_call 14; refine call.mono ?_; rintro e w5 ⟨rfl, m5, rfl⟩)
          go_roundw
          case rel => exact ⟨j + 1, by go_num, by omega, below_drewN HB.out _⟩
          case measure => simp [intOf]; omega
        · clear hB hBw
          go_wp2_with fail
          go_ret
          exact ⟨rfl, HBw.out⟩

end Go.Proofs.Ytchpfdnifbdfpaa
