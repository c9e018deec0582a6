/- The law pollardinglaw.SetsTells: it returns true. -/
import Derived.Test.YtjcgncklbfjhcaaSetsSame
namespace Go.Proofs.Ytjcgncklbfjhcaa
open Go.RowKit

set_option maxRecDepth 100000 in
set_option maxHeartbeats 1600000 in
theorem setsTells_not {w : World} {T N : Int} {rv : Value} {R : List Ru} (hr : RulesAt w w.heap.size rv R) (hm : mayB T N R = false) :
    Calls Try.prog 3 #[.agg #[.int .i64 T, .int .i64 N, rv]] w fun e w' => e = .returned (.bool true) ∧ Below w.heap.size w w' := by
  obtain ⟨ra, rc, hrv⟩ := hr.1
  subst hrv
  have HR1 : Hid (RulesAt (w.alloc (.cells #[.int .i64 T, .int .i64 N, .slice ra R.length rc] 24)) (w.alloc (.cells #[.int .i64 T, .int .i64 N, .slice ra R.length rc] 24)).heap.size (.slice ra R.length rc) R) := hr.boxed _
  have sets := setsOf_not (T := T) (N := N) HR1.out hm
  have HM : Hid (mayB T N R = false) := hm
  have HB1 : Hid (Below w.heap.size w (w.alloc (.cells #[.int .i64 T, .int .i64 N, .slice ra R.length rc] 24))) := (Below.refl _ _).alloc (Nat.le_refl _) _
  clear hr hm
  go_enter Try.func3, Try.ntmps3
  go_wp2_with
    (first
     | (go_at_call 4; refine sets.mono ?_; rintro e w2 ⟨rfl, hB2⟩
        have b0 : w2.cell? ⟨w.heap.size, 0, none⟩ = some (.int .i64 T) := (hB2.cell (by simp)).trans (by simp [go_sem])
        have b1 : w2.cell? ⟨w.heap.size, 1, none⟩ = some (.int .i64 N) := (hB2.cell (by simp)).trans (by simp [go_sem])
        have b2 : w2.cell? ⟨w.heap.size, 2, none⟩ = some (.slice ra R.length rc) := (hB2.cell (by simp)).trans (by simp [go_sem])
        have hs2 : w.heap.size < w2.heap.size := by have := hB2.size; simp at this; omega
        have m0 : (w2.alloc (.cells #[.slice none 0 0, .slice none 0 0, .slice none 0 0] 28)).cell? ⟨w.heap.size, 0, none⟩ = some (.int .i64 T) := by rw [World.cell?_alloc_past _ _ _ hs2]; exact b0
        have m1 : (w2.alloc (.cells #[.slice none 0 0, .slice none 0 0, .slice none 0 0] 28)).cell? ⟨w.heap.size, 1, none⟩ = some (.int .i64 N) := by rw [World.cell?_alloc_past _ _ _ hs2]; exact b1
        have m2 : (w2.alloc (.cells #[.slice none 0 0, .slice none 0 0, .slice none 0 0] 28)).cell? ⟨w.heap.size, 2, none⟩ = some (.slice ra R.length rc) := by rw [World.cell?_alloc_past _ _ _ hs2]; exact b2
        have hR2 : RulesAt w2 w2.heap.size (.slice ra R.length rc) R := (HR1.out.below hB2).mono hB2.size
        have may := may1_any (T := T) (N := N) (hR2.boxed (.cells #[.slice none 0 0, .slice none 0 0, .slice none 0 0] 28))
        rw [HM.out] at may
        have HB2 : Hid (Below w.heap.size w w2) := HB1.out.trans (hB2.mono (by simp))
        clear hB2 hR2 sets)
     | (go_at_call 5; refine may.mono ?_; rintro e w3 ⟨rfl, hB3⟩
        have s0 : w3.cell? ⟨w2.heap.size, 0, none⟩ = some (.slice none 0 0) := (hB3.cell (by simp)).trans (by simp [go_sem])
        have s1 : w3.cell? ⟨w2.heap.size, 1, none⟩ = some (.slice none 0 0) := (hB3.cell (by simp)).trans (by simp [go_sem])
        have s2 : w3.cell? ⟨w2.heap.size, 2, none⟩ = some (.slice none 0 0) := (hB3.cell (by simp)).trans (by simp [go_sem])
        have hs3 : w2.heap.size < w3.heap.size := by have := hB3.size; simp at this; omega
        have HB3 : Hid (Below w.heap.size w w3) := (HB2.out.alloc (by omega) _).trans (hB3.mono (by simp; omega))
        clear hB3 may)
     | (go_at_call 6
        refine (same2_eq (X := []) (F := []) (G := []) (bools_nil _) (bools_nil _) (mat_nil _) (mat_nil _) (mat_nil _) (mat_nil _) (by simp) (by simp) (by simp) (by simp) (by simp)).mono ?_
        rintro e w4 ⟨rfl, hB4⟩))
  go_ret
  exact ⟨rfl, HB3.out.trans (hB4.mono (by omega))⟩

set_option maxRecDepth 100000 in
set_option maxHeartbeats 3200000 in
theorem setsTells_may {w : World} {T N : Nat} {rv : Value} {R : List Ru} (hr : RulesAt w w.heap.size rv R) (hm : mayB T N R = true) :
    Calls Try.prog 3 #[.agg #[.int .i64 T, .int .i64 N, rv]] w fun e w' => e = .returned (.bool true) ∧ Below w.heap.size w w' := by
  obtain ⟨hT, hN1, hN, hRl, _⟩ := may_fine hm
  obtain ⟨ra, rc, hrv⟩ := hr.1
  subst hrv
  have HR1 : Hid (RulesAt (w.alloc (.cells #[.int .i64 T, .int .i64 N, .slice ra R.length rc] 24)) (w.alloc (.cells #[.int .i64 T, .int .i64 N, .slice ra R.length rc] 24)).heap.size (.slice ra R.length rc) R) := hr.boxed _
  have sets := setsOf_may (T := T) (N := N) HR1.out hm
  have HM : Hid (mayB T N R = true) := hm
  have HB1 : Hid (Below w.heap.size w (w.alloc (.cells #[.int .i64 T, .int .i64 N, .slice ra R.length rc] 24))) := (Below.refl _ _).alloc (Nat.le_refl _) _
  clear hr hm
  go_enter Try.func3, Try.ntmps3
  go_wp2_with
    (first
     | (go_at_call 4; refine sets.mono ?_; rintro e w2 ⟨nv, fv, gv, vf, vg, rfl, hB2, gb, B, Y, hBB, hA, hg, hBt, hF, hG⟩
        obtain ⟨na, nc, hnv⟩ := (dev_bools hBt).1
        obtain ⟨fa, fc, hfv⟩ := hF.1
        obtain ⟨ga, gc, hgv⟩ := hG.1
        have hN' : nv = .slice na N nc := by rw [hnv, hA.shp .null N rfl]
        clear hnv
        subst hN'
        subst hfv
        subst hgv
        have b0 : w2.cell? ⟨w.heap.size, 0, none⟩ = some (.int .i64 T) := (hB2.cell (by simp)).trans (by simp [go_sem])
        have b1 : w2.cell? ⟨w.heap.size, 1, none⟩ = some (.int .i64 N) := (hB2.cell (by simp)).trans (by simp [go_sem])
        have b2 : w2.cell? ⟨w.heap.size, 2, none⟩ = some (.slice ra R.length rc) := (hB2.cell (by simp)).trans (by simp [go_sem])
        have hs2 : w.heap.size < w2.heap.size := by have := hB2.size; simp at this; omega
        have m0 : (w2.alloc (.cells #[.slice na N nc, .slice fa N fc, .slice ga N gc] 28)).cell? ⟨w.heap.size, 0, none⟩ = some (.int .i64 T) := by rw [World.cell?_alloc_past _ _ _ hs2]; exact b0
        have m1 : (w2.alloc (.cells #[.slice na N nc, .slice fa N fc, .slice ga N gc] 28)).cell? ⟨w.heap.size, 1, none⟩ = some (.int .i64 N) := by rw [World.cell?_alloc_past _ _ _ hs2]; exact b1
        have m2 : (w2.alloc (.cells #[.slice na N nc, .slice fa N fc, .slice ga N gc] 28)).cell? ⟨w.heap.size, 2, none⟩ = some (.slice ra R.length rc) := by rw [World.cell?_alloc_past _ _ _ hs2]; exact b2
        have hR2 : RulesAt w2 w2.heap.size (.slice ra R.length rc) R := (HR1.out.below hB2).mono hB2.size
        have may := may1_any (T := T) (N := N) (hR2.boxed (.cells #[.slice na N nc, .slice fa N fc, .slice ga N gc] 28))
        rw [HM.out] at may
        have HB2 : Hid (Below w.heap.size w w2) := HB1.out.trans (hB2.mono (by simp))
        have HR2 : Hid (RulesAt w2 w2.heap.size (.slice ra R.length rc) R) := hR2
        have HD1 : Hid (BoolsAt w2 (.slice na N nc) (Y .null)) := dev_bools hBt
        have HD2 : Hid (MatAt w2 (.slice fa N fc) ((List.range N).map fun n => Y (.f n))) := dev_first hBt hF
        have HD3 : Hid (MatAt w2 (.slice ga N gc) ((List.range N).map fun n => Y (.g n))) := dev_follow hBt hG
        have HE : Hid (Y .null = nullA R N ∧ ((List.range N).map fun n => Y (.f n)) = firstA R (nullA R N) T N ∧ ((List.range N).map fun n => Y (.g n)) = followA R (nullA R N) (firstA R (nullA R N) T N) T N) := dev_is_ref (fine_of HM.out).1 hA hg
        clear hB2 hR2 sets hBB hA hg hBt hF hG)
     | (go_at_call 5; refine may.mono ?_; rintro e w3 ⟨rfl, hB3⟩
        have s0 : w3.cell? ⟨w2.heap.size, 0, none⟩ = some (.slice na N nc) := (hB3.cell (by simp)).trans (by simp [go_sem])
        have s1 : w3.cell? ⟨w2.heap.size, 1, none⟩ = some (.slice fa N fc) := (hB3.cell (by simp)).trans (by simp [go_sem])
        have s2 : w3.cell? ⟨w2.heap.size, 2, none⟩ = some (.slice ga N gc) := (hB3.cell (by simp)).trans (by simp [go_sem])
        have hs3 : w2.heap.size < w3.heap.size := by have := hB3.size; simp at this; omega
        have g0 : w3.cell? ⟨w.heap.size, 0, none⟩ = some (.int .i64 T) := (hB3.cell (by simp; omega)).trans m0
        have g1 : w3.cell? ⟨w.heap.size, 1, none⟩ = some (.int .i64 N) := (hB3.cell (by simp; omega)).trans m1
        have g2 : w3.cell? ⟨w.heap.size, 2, none⟩ = some (.slice ra R.length rc) := (hB3.cell (by simp; omega)).trans m2
        have hB23 : Below w2.heap.size w2 w3 := ((Below.refl _ _).alloc (Nat.le_refl _) _).trans (hB3.mono (by simp))
        have HB23 : Hid (Below w2.heap.size w2 w3) := hB23
        have HB3 : Hid (Below w.heap.size w w3) := HB2.out.trans (hB23.mono (by omega))
        have of2 := of2_any (w := w3.drew) (T := T) (N := N) ((HR2.out.below hB23.drew).mono (by show w2.heap.size ≤ w3.heap.size; omega)) HM.out
        clear hB3 hB23 may m0 m1 m2))
  go_region_with
    (first
     | (go_at_call 7; refine of2.mono ?_; rintro e w4 ⟨nv', fv', gv', vf', vg', sb', rfl, hB4, hO4⟩
        have t0 : w4.cell? ⟨w2.heap.size, 0, none⟩ = some (.slice na N nc) := (hB4.cell (p := ⟨w2.heap.size, 0, none⟩) hs3).trans s0
        have t1 : w4.cell? ⟨w2.heap.size, 1, none⟩ = some (.slice fa N fc) := (hB4.cell (p := ⟨w2.heap.size, 1, none⟩) hs3).trans s1
        have t2 : w4.cell? ⟨w2.heap.size, 2, none⟩ = some (.slice ga N gc) := (hB4.cell (p := ⟨w2.heap.size, 2, none⟩) hs3).trans s2
        have HB4 : Hid (Below w3.heap.size w3 w4) := (Below.refl _ _).drew.trans hB4
        have HO4 : Hid (Owns w4 (w3.drew.heap.size + 2) (Pset sb' T N N N nv' fv' gv' vf' vg' (nullA R N) (firstA R (nullA R N) T N) (followA R (nullA R N) (firstA R (nullA R N) T N) T N))) := hO4
        clear hB4 hO4)
     | (go_at_call 6
        have hsm : ∀ b o, b < w2.heap.size → w4.cell? ⟨b, o, none⟩ = w2.cell? ⟨b, o, none⟩ := same_below (HB23.out.trans (HB4.out.mono HB23.out.size))
        have hfi := (fine_of HM.out).1
        have h1 := nullA_iff hfi
        have h2 := firstA_iff hfi h1.2
        have h3 := followA_iff hfi h1.2 h2.2
        have x1 := HD1.out.same hsm
        have x2 := HD2.out.same hsm
        have x3 := HD3.out.same hsm
        rw [HE.out.1] at x1
        rw [HE.out.2.1] at x2
        rw [HE.out.2.2] at x3
        refine (same2_eq x1 HO4.out.bools x2 (HO4.out.mat h2.1.1) x3 (ref_follow HO4.out h3.1.1) ?_ ?_ ?_ ?_ ?_).mono ?_
        · rw [h1.1]; omega
        · rw [h2.1.1]; omega
        · intro i hi; rw [h2.1.1] at hi; rw [h2.1.2 i hi]; omega
        · rw [h3.1.1]; omega
        · intro i hi; rw [h3.1.1] at hi; rw [h3.1.2 i hi]; omega
        rintro e w5 ⟨rfl, hB5⟩
        have HB5 : Hid (Below w4.heap.size w4 w5) := hB5
        clear hB5 hsm hfi h1 h2 h3 x1 x2 x3))
  all_goals
    go_wp2_with fail
    go_ret
    exact ⟨rfl, (HB3.out.trans (HB4.out.mono (by have := HB3.out.size; omega))).trans (HB5.out.mono (by have := HB3.out.size; have := HB4.out.size; omega))⟩

theorem setsTells_any {w : World} {T N : Int} {rv : Value} {R : List Ru} (hr : RulesAt w w.heap.size rv R) :
    Calls Try.prog 3 #[.agg #[.int .i64 T, .int .i64 N, rv]] w fun e w' => e = .returned (.bool true) ∧ Below w.heap.size w w' := by
  cases hm : mayB T N R with
  | false => exact setsTells_not hr hm
  | true =>
    have hh := hm
    simp only [mayB, headB, Bool.and_eq_true, decide_eq_true_eq] at hh
    obtain ⟨t, rfl⟩ : ∃ t : Nat, T = t := ⟨T.toNat, by omega⟩
    obtain ⟨n, rfl⟩ : ∃ n : Nat, N = n := ⟨N.toNat, by omega⟩
    exact setsTells_may hr hm

end Go.Proofs.Ytjcgncklbfjhcaa
