/- The law pollardinglaw.TableTells: it returns true. -/
import Derived.Test.YtchpfdnifbdfpaaTkOf
import Derived.Test.YtchpfdnifbdfpaaTkClash
import Derived.Test.YtchpfdnifbdfpaaOf6
import Derived.Test.YtchpfdnifbdfpaaTable6
namespace Go.Proofs.Ytchpfdnifbdfpaa
open Go.RowKit

theorem tab_nil (w : World) : TabAt w (.slice none 0 0) (.slice none 0 0) [] [] := ⟨⟨⟨none, 0, rfl⟩, fun _ hi => absurd hi (Nat.not_lt_zero _)⟩, ⟨⟨none, 0, rfl⟩, fun _ hi => absurd hi (Nat.not_lt_zero _)⟩⟩

theorem whole_one {T N : Nat} {R : List Ru} {K K' : Nat} (h : Whole T N R K) (h' : Whole T N R K') : K = K' := by
  rcases Nat.lt_trichotomy K K' with hl | he | hl
  · have := whole_reach h' K hl
    unfold Whole at h
    omega
  · exact he
  · have := whole_reach h K' hl
    unfold Whole at h'
    omega

theorem tab_small {T N : Nat} {R : List Ru} {K : Nat} (hm : mayB T N R = true) (h : Whole T N R K) (hK : K ≤ 150) :
    (tabC T N R K).length ≤ 1000 ∧ (tabG T N R K).length ≤ 1000 ∧ (∀ i, i < (tabC T N R K).length → ((tabC T N R K).getD i []).length ≤ 1000) ∧ (∀ i, i < (tabG T N R K).length → ((tabG T N R K).getD i []).length ≤ 1000) ∧
    ∀ i k, i < (tabC T N R K).length → k < ((tabC T N R K).getD i []).length → (((tabC T N R K).getD i []).getD k (0, [], false)).2.1.length ≤ 1000 := by
  obtain ⟨hT, hN1, hN, hRl, _⟩ := may_fine hm
  have eC : ∀ i, i < K → (tabC T N R K).getD i [] = rowP T N R (allN T N R K).1 (allN T N R K).2 i := fun i hi => by unfold tabC; simp [List.getD, hi]
  refine ⟨by unfold tabC; simp; omega, by unfold tabG; simp; omega, fun i hi => ?_, fun i hi => ?_, fun i k hi hk => ?_⟩
  · have hi' : i < K := by unfold tabC at hi; simpa using hi
    rw [eC i hi']
    unfold rowP
    simp
    omega
  · have hi' : i < K := by unfold tabG at hi; simpa using hi
    have e : (tabG T N R K).getD i [] = ((allN T N R K).1.getD i []).drop T := by unfold tabG; simp [List.getD, hi']
    have := (all_go (whole_reach h) i hi' 0 (by omega)).1
    rw [e, List.length_drop, this]
    omega
  · have hi' : i < K := by unfold tabC at hi; simpa using hi
    rw [eC i hi'] at hk ⊢
    have hk' : k < T + 1 := by unfold rowP at hk; simpa using hk
    have e : (rowP T N R (allN T N R K).1 (allN T N R K).2 i).getD k (0, [], false) = cellP T N R (allN T N R K).1 (allN T N R K).2 i k := by unfold rowP; simp [List.getD, hk']
    rw [e]
    unfold cellP
    simp only [List.length_map]
    have := List.length_filter_le (fun n => @decide (DoneP T N R (allN T N R K).1 (allN T N R K).2 i k n) (Classical.propDecidable _)) (List.range R.length)
    simp only [List.length_range] at this
    omega

set_option maxRecDepth 100000 in
set_option maxHeartbeats 1600000 in
theorem tableTells_not {w : World} {T N : Int} {rv : Value} {R : List Ru} (hr : RulesAt w w.heap.size rv R) (hm : mayB T N R = false) :
    Calls Try.prog 3 #[.agg #[.int .i64 T, .int .i64 N, rv]] w fun e w' => e = .returned (.bool true) ∧ Below w.heap.size w w' := by
  obtain ⟨ra, rc, hrv⟩ := hr.1
  subst hrv
  have HR1 : Hid (RulesAt (w.alloc (.cells #[.int .i64 T, .int .i64 N, .slice ra R.length rc] 24)) (w.alloc (.cells #[.int .i64 T, .int .i64 N, .slice ra R.length rc] 24)).heap.size (.slice ra R.length rc) R) := hr.boxed _
  have tab := tkOf_not (T := T) (N := N) HR1.out hm
  have HM : Hid (mayB T N R = false) := hm
  have HB1 : Hid (Below w.heap.size w (w.alloc (.cells #[.int .i64 T, .int .i64 N, .slice ra R.length rc] 24))) := (Below.refl _ _).alloc (Nat.le_refl _) _
  clear hr hm
  go_enter Try.func3, Try.ntmps3
  go_wp2_with
    (first
     | (go_at_call 4; refine tab.mono ?_; rintro e w2 ⟨rfl, hB2⟩
        have b0 : w2.cell? ⟨w.heap.size, 0, none⟩ = some (.int .i64 T) := (hB2.cell (by simp)).trans (by simp [go_sem])
        have b1 : w2.cell? ⟨w.heap.size, 1, none⟩ = some (.int .i64 N) := (hB2.cell (by simp)).trans (by simp [go_sem])
        have b2 : w2.cell? ⟨w.heap.size, 2, none⟩ = some (.slice ra R.length rc) := (hB2.cell (by simp)).trans (by simp [go_sem])
        have hs2 : w.heap.size < w2.heap.size := by have := hB2.size; simp at this; omega
        have m0 : (w2.alloc (.cells #[.slice none 0 0, .slice none 0 0] 28)).cell? ⟨w.heap.size, 0, none⟩ = some (.int .i64 T) := by rw [World.cell?_alloc_past _ _ _ hs2]; exact b0
        have m1 : (w2.alloc (.cells #[.slice none 0 0, .slice none 0 0] 28)).cell? ⟨w.heap.size, 1, none⟩ = some (.int .i64 N) := by rw [World.cell?_alloc_past _ _ _ hs2]; exact b1
        have m2 : (w2.alloc (.cells #[.slice none 0 0, .slice none 0 0] 28)).cell? ⟨w.heap.size, 2, none⟩ = some (.slice ra R.length rc) := by rw [World.cell?_alloc_past _ _ _ hs2]; exact b2
        have hR2 : RulesAt w2 w2.heap.size (.slice ra R.length rc) R := (HR1.out.below hB2).mono hB2.size
        have may := may1_any (T := T) (N := N) (hR2.boxed (.cells #[.slice none 0 0, .slice none 0 0] 28))
        rw [HM.out] at may
        have HB2 : Hid (Below w.heap.size w w2) := HB1.out.trans (hB2.mono (by simp))
        clear hB2 hR2 tab)
     | (go_at_call 5; refine may.mono ?_; rintro e w3 ⟨rfl, hB3⟩
        have s0 : w3.cell? ⟨w2.heap.size, 0, none⟩ = some (.slice none 0 0) := (hB3.cell (by simp)).trans (by simp [go_sem])
        have s1 : w3.cell? ⟨w2.heap.size, 1, none⟩ = some (.slice none 0 0) := (hB3.cell (by simp)).trans (by simp [go_sem])
        have hs3 : w2.heap.size < w3.heap.size := by have := hB3.size; simp at this; omega
        have HB3 : Hid (Below w.heap.size w w3) := (HB2.out.alloc (by omega) _).trans (hB3.mono (by simp; omega))
        clear hB3 may)
     | (go_at_call 6
        refine (same6_eq (tab_nil _) (tab_nil _) (by simp) (by simp) (by simp) (by simp) (by simp)).mono ?_
        rintro e w4 ⟨rfl, hB4⟩))
  go_ret
  exact ⟨rfl, HB3.out.trans (hB4.mono (by omega))⟩

set_option maxRecDepth 100000 in
set_option maxHeartbeats 3200000 in
theorem tableTells_more {w : World} {T N : Nat} {rv : Value} {R : List Ru} (hr : RulesAt w w.heap.size rv R) (hm : mayB T N R = true) (hmo : More T N R 150) :
    Calls Try.prog 3 #[.agg #[.int .i64 T, .int .i64 N, rv]] w fun e w' => e = .returned (.bool true) ∧ Below w.heap.size w w' := by
  obtain ⟨ra, rc, hrv⟩ := hr.1
  subst hrv
  have HR1 : Hid (RulesAt (w.alloc (.cells #[.int .i64 T, .int .i64 N, .slice ra R.length rc] 24)) (w.alloc (.cells #[.int .i64 T, .int .i64 N, .slice ra R.length rc] 24)).heap.size (.slice ra R.length rc) R) := hr.boxed _
  have tab0 := tkOf_may (T := T) (N := N) HR1.out hm
  have tab := tab0.mono (R' := fun e w' => e = .returned (.tuple #[.agg #[.slice none 0 0, .slice none 0 0], .int .i64 1]) ∧ Below (w.alloc (.cells #[.int .i64 T, .int .i64 N, .slice ra R.length rc] 24)).heap.size (w.alloc (.cells #[.int .i64 T, .int .i64 N, .slice ra R.length rc] 24)) w') fun e w' h => by
    rcases h with ⟨h1, h2, _⟩ | ⟨K, cv, gv, _, _, h3, h4, _⟩
    · exact ⟨h1, h2⟩
    · exact absurd hmo (whole_or h3 h4)
  have HM : Hid (mayB T N R = true) := hm
  have HMO : Hid (More T N R 150) := hmo
  have HB1 : Hid (Below w.heap.size w (w.alloc (.cells #[.int .i64 T, .int .i64 N, .slice ra R.length rc] 24))) := (Below.refl _ _).alloc (Nat.le_refl _) _
  clear hr hm tab0 hmo
  go_enter Try.func3, Try.ntmps3
  go_wp2_with
    (first
     | (go_at_call 4; refine tab.mono ?_; rintro e w2 ⟨rfl, hB2⟩
        have b0 : w2.cell? ⟨w.heap.size, 0, none⟩ = some (.int .i64 T) := (hB2.cell (by simp)).trans (by simp [go_sem])
        have b1 : w2.cell? ⟨w.heap.size, 1, none⟩ = some (.int .i64 N) := (hB2.cell (by simp)).trans (by simp [go_sem])
        have b2 : w2.cell? ⟨w.heap.size, 2, none⟩ = some (.slice ra R.length rc) := (hB2.cell (by simp)).trans (by simp [go_sem])
        have hs2 : w.heap.size < w2.heap.size := by have := hB2.size; simp at this; omega
        have m0 : (w2.alloc (.cells #[.slice none 0 0, .slice none 0 0] 28)).cell? ⟨w.heap.size, 0, none⟩ = some (.int .i64 T) := by rw [World.cell?_alloc_past _ _ _ hs2]; exact b0
        have m1 : (w2.alloc (.cells #[.slice none 0 0, .slice none 0 0] 28)).cell? ⟨w.heap.size, 1, none⟩ = some (.int .i64 N) := by rw [World.cell?_alloc_past _ _ _ hs2]; exact b1
        have m2 : (w2.alloc (.cells #[.slice none 0 0, .slice none 0 0] 28)).cell? ⟨w.heap.size, 2, none⟩ = some (.slice ra R.length rc) := by rw [World.cell?_alloc_past _ _ _ hs2]; exact b2
        have hR2 : RulesAt w2 w2.heap.size (.slice ra R.length rc) R := (HR1.out.below hB2).mono hB2.size
        have HR2 : Hid (RulesAt (w2.alloc (.cells #[.slice none 0 0, .slice none 0 0] 28)) (w2.alloc (.cells #[.slice none 0 0, .slice none 0 0] 28)).heap.size (.slice ra R.length rc) R) := hR2.boxed _
        have may := may1_any (T := T) (N := N) HR2.out
        rw [HM.out] at may
        have HB2 : Hid (Below w.heap.size w w2) := HB1.out.trans (hB2.mono (by simp))
        clear hB2 hR2 tab)
     | (go_at_call 5; refine may.mono ?_; rintro e w3 ⟨rfl, hB3⟩
        have s0 : w3.cell? ⟨w2.heap.size, 0, none⟩ = some (.slice none 0 0) := (hB3.cell (by simp)).trans (by simp [go_sem])
        have s1 : w3.cell? ⟨w2.heap.size, 1, none⟩ = some (.slice none 0 0) := (hB3.cell (by simp)).trans (by simp [go_sem])
        have hs3 : w2.heap.size < w3.heap.size := by have := hB3.size; simp at this; omega
        have n0 := (hB3.cell (p := ⟨w.heap.size, 0, none⟩) (by simp; omega)).trans m0
        have n1 := (hB3.cell (p := ⟨w.heap.size, 1, none⟩) (by simp; omega)).trans m1
        have n2 := (hB3.cell (p := ⟨w.heap.size, 2, none⟩) (by simp; omega)).trans m2
        have HB3 : Hid (Below w.heap.size w w3) := (HB2.out.alloc (by omega) _).trans (hB3.mono (by simp; omega))
        have ref := (of6_any (w := w3) (T := T) (N := N) ((HR2.out.below hB3).mono hB3.size) HM.out (fine_of HM.out).1).mono (R' := fun e w' => e = .returned (.tuple #[.agg #[.slice none 0 0, .slice none 0 0], .bool false]) ∧ Below w3.heap.size w3 w') fun e w' h => by
          rcases h with ⟨h1, h2, _⟩ | ⟨K, cv, gv, _, _, h3, h4, _⟩
          · exact ⟨h1, h2⟩
          · exact absurd HMO.out (whole_or h3 h4)
        clear hB3 may m0 m1 m2 b0 b1 b2)
     | (go_at_call 7; refine ref.mono ?_; rintro e w4 ⟨rfl, hB4⟩
        have t0 := (hB4.cell (p := ⟨w2.heap.size, 0, none⟩) hs3).trans s0
        have t1 := (hB4.cell (p := ⟨w2.heap.size, 1, none⟩) hs3).trans s1
        have hs4 : w3.heap.size ≤ w4.heap.size := hB4.size
        have v0 : (w4.alloc (.cells #[.slice none 0 0, .slice none 0 0] 28)).cell? ⟨w2.heap.size, 0, none⟩ = some (.slice none 0 0) := by rw [World.cell?_alloc_past _ _ _ (by omega)]; exact t0
        have v1 : (w4.alloc (.cells #[.slice none 0 0, .slice none 0 0] 28)).cell? ⟨w2.heap.size, 1, none⟩ = some (.slice none 0 0) := by rw [World.cell?_alloc_past _ _ _ (by omega)]; exact t1
        have HB4 : Hid (Below w.heap.size w (w4.alloc (.cells #[.slice none 0 0, .slice none 0 0] 28))) := (HB3.out.trans (hB4.mono (by omega))).alloc (by omega) _
        clear hB4 ref)
     | (go_at_call 6
        refine (same6_eq (tab_nil _) (tab_nil _) (by simp) (by simp) (by simp) (by simp) (by simp)).mono ?_
        rintro e w5 ⟨rfl, hB5⟩))
  go_ret
  exact ⟨rfl, HB4.out.trans (hB5.mono (by simp; omega))⟩

set_option maxRecDepth 100000 in
set_option maxHeartbeats 3200000 in
theorem tableTells_whole {w : World} {T N : Nat} {rv : Value} {R : List Ru} (hr : RulesAt w w.heap.size rv R) (hm : mayB T N R = true) (hmo : ¬ More T N R 150) :
    Calls Try.prog 3 #[.agg #[.int .i64 T, .int .i64 N, rv]] w fun e w' => e = .returned (.bool true) ∧ Below w.heap.size w w' := by
  obtain ⟨ra, rc, hrv⟩ := hr.1
  subst hrv
  have HR1 : Hid (RulesAt (w.alloc (.cells #[.int .i64 T, .int .i64 N, .slice ra R.length rc] 24)) (w.alloc (.cells #[.int .i64 T, .int .i64 N, .slice ra R.length rc] 24)).heap.size (.slice ra R.length rc) R) := hr.boxed _
  have tab0 := tkOf_may (T := T) (N := N) HR1.out hm
  have tab := tab0.mono (R' := fun e w' => ∃ K cv gv, e = .returned (.tuple #[.agg #[cv, gv], .int .i64 0]) ∧ Below (w.alloc (.cells #[.int .i64 T, .int .i64 N, .slice ra R.length rc] 24)).heap.size (w.alloc (.cells #[.int .i64 T, .int .i64 N, .slice ra R.length rc] 24)) w' ∧ Whole T N R K ∧ K ≤ 150 ∧ TabAt w' cv gv (tabC T N R K) (tabG T N R K)) fun e w' h => by
    rcases h with ⟨_, _, h2⟩ | h
    · exact absurd h2 hmo
    · exact h
  have HM : Hid (mayB T N R = true) := hm
  have HMO : Hid (¬ More T N R 150) := hmo
  have HB1 : Hid (Below w.heap.size w (w.alloc (.cells #[.int .i64 T, .int .i64 N, .slice ra R.length rc] 24))) := (Below.refl _ _).alloc (Nat.le_refl _) _
  clear hr hm tab0 hmo
  go_enter Try.func3, Try.ntmps3
  go_upto_region 7 with
    (first
     | (go_at_call 4; refine tab.mono ?_; rintro e w2 ⟨K, cv, gv, rfl, hB2, hW, hK, hTab⟩
        obtain ⟨ca, cc, hcv⟩ := hTab.cells.1
        obtain ⟨ga, gc, hgv⟩ := hTab.goto.1
        obtain ⟨nc, hnc⟩ : ∃ n, (tabC T N R K).length = n := ⟨_, rfl⟩
        obtain ⟨ng, hng⟩ : ∃ n, (tabG T N R K).length = n := ⟨_, rfl⟩
        rw [hnc] at hcv
        rw [hng] at hgv
        clear hnc hng
        subst hcv
        subst hgv
        have b0 : w2.cell? ⟨w.heap.size, 0, none⟩ = some (.int .i64 T) := (hB2.cell (by simp)).trans (by simp [go_sem])
        have b1 : w2.cell? ⟨w.heap.size, 1, none⟩ = some (.int .i64 N) := (hB2.cell (by simp)).trans (by simp [go_sem])
        have b2 : w2.cell? ⟨w.heap.size, 2, none⟩ = some (.slice ra R.length rc) := (hB2.cell (by simp)).trans (by simp [go_sem])
        have hs2 : w.heap.size < w2.heap.size := by have := hB2.size; simp at this; omega
        have m0 : (w2.alloc (.cells #[.slice ca nc cc, .slice ga ng gc] 28)).cell? ⟨w.heap.size, 0, none⟩ = some (.int .i64 T) := by rw [World.cell?_alloc_past _ _ _ hs2]; exact b0
        have m1 : (w2.alloc (.cells #[.slice ca nc cc, .slice ga ng gc] 28)).cell? ⟨w.heap.size, 1, none⟩ = some (.int .i64 N) := by rw [World.cell?_alloc_past _ _ _ hs2]; exact b1
        have m2 : (w2.alloc (.cells #[.slice ca nc cc, .slice ga ng gc] 28)).cell? ⟨w.heap.size, 2, none⟩ = some (.slice ra R.length rc) := by rw [World.cell?_alloc_past _ _ _ hs2]; exact b2
        have hR2 : RulesAt w2 w2.heap.size (.slice ra R.length rc) R := (HR1.out.below hB2).mono hB2.size
        have HR2 : Hid (RulesAt (w2.alloc (.cells #[.slice ca nc cc, .slice ga ng gc] 28)) (w2.alloc (.cells #[.slice ca nc cc, .slice ga ng gc] 28)).heap.size (.slice ra R.length rc) R) := hR2.boxed _
        have may := may1_any (T := T) (N := N) HR2.out
        rw [HM.out] at may
        have HB2 : Hid (Below w.heap.size w w2) := HB1.out.trans (hB2.mono (by simp))
        have HW : Hid (Whole T N R K ∧ K ≤ 150) := ⟨hW, hK⟩
        have HT2 : Hid (TabAt w2 (.slice ca nc cc) (.slice ga ng gc) (tabC T N R K) (tabG T N R K)) := hTab
        clear hB2 hR2 tab hW hK hTab)
     | (go_at_call 5; refine may.mono ?_; rintro e w3 ⟨rfl, hB3⟩
        have s0 : w3.cell? ⟨w2.heap.size, 0, none⟩ = some (.slice ca nc cc) := (hB3.cell (by simp)).trans (by simp [go_sem])
        have s1 : w3.cell? ⟨w2.heap.size, 1, none⟩ = some (.slice ga ng gc) := (hB3.cell (by simp)).trans (by simp [go_sem])
        have hs3 : w2.heap.size < w3.heap.size := by have := hB3.size; simp at this; omega
        have n0 := (hB3.cell (p := ⟨w.heap.size, 0, none⟩) (by simp; omega)).trans m0
        have n1 := (hB3.cell (p := ⟨w.heap.size, 1, none⟩) (by simp; omega)).trans m1
        have n2 := (hB3.cell (p := ⟨w.heap.size, 2, none⟩) (by simp; omega)).trans m2
        have hB23 : Below w2.heap.size w2 w3 := ((Below.refl _ _).alloc (Nat.le_refl _) _).trans (hB3.mono (by simp))
        have HT3 : Hid (TabAt w3 (.slice ca nc cc) (.slice ga ng gc) (tabC T N R K) (tabG T N R K)) := HT2.out.below hB23
        have HB3 : Hid (Below w.heap.size w w3) := HB2.out.trans (hB23.mono (by omega))
        have ref := (of6_any (w := w3) (T := T) (N := N) ((HR2.out.below hB3).mono hB3.size) HM.out (fine_of HM.out).1).mono (R' := fun e w' => ∃ cv gv, e = .returned (.tuple #[.agg #[cv, gv], .bool true]) ∧ Below w3.heap.size w3 w' ∧ TabAt w' cv gv (tabC T N R K) (tabG T N R K)) fun e w' h => by
          rcases h with ⟨_, _, h2⟩ | ⟨K', cv, gv, h1, h2, h3, _, h5⟩
          · exact absurd h2 HMO.out
          · rw [← whole_one HW.out.1 h3] at h5
            exact ⟨cv, gv, h1, h2, h5⟩
        clear hB3 may m0 m1 m2 b0 b1 b2 hB23)
     | (go_at_call 7; refine ref.mono ?_; rintro e w4 ⟨cv', gv', rfl, hB4, hTab4⟩
        obtain ⟨ca', cc', hcv⟩ := hTab4.cells.1
        obtain ⟨ga', gc', hgv⟩ := hTab4.goto.1
        obtain ⟨nc', hnc⟩ : ∃ n, (tabC T N R K).length = n := ⟨_, rfl⟩
        obtain ⟨ng', hng⟩ : ∃ n, (tabG T N R K).length = n := ⟨_, rfl⟩
        rw [hnc] at hcv
        rw [hng] at hgv
        clear hnc hng
        subst hcv
        subst hgv
        have t0 := (hB4.cell (p := ⟨w2.heap.size, 0, none⟩) hs3).trans s0
        have t1 := (hB4.cell (p := ⟨w2.heap.size, 1, none⟩) hs3).trans s1
        have hs4 : w3.heap.size ≤ w4.heap.size := hB4.size
        have HBa : Hid (Below w4.heap.size w4 (w4.alloc (.cells #[.slice ca' nc' cc', .slice ga' ng' gc'] 28))) := (Below.refl _ _).alloc (Nat.le_refl _) _
        have v0 : (w4.alloc (.cells #[.slice ca' nc' cc', .slice ga' ng' gc'] 28)).cell? ⟨w2.heap.size, 0, none⟩ = some (.slice ca nc cc) := by rw [World.cell?_alloc_past _ _ _ (by omega)]; exact t0
        have v1 : (w4.alloc (.cells #[.slice ca' nc' cc', .slice ga' ng' gc'] 28)).cell? ⟨w2.heap.size, 1, none⟩ = some (.slice ga ng gc) := by rw [World.cell?_alloc_past _ _ _ (by omega)]; exact t1
        have HT4 : Hid (TabAt (w4.alloc (.cells #[.slice ca' nc' cc', .slice ga' ng' gc'] 28)) (.slice ca nc cc) (.slice ga ng gc) (tabC T N R K) (tabG T N R K) ∧ TabAt (w4.alloc (.cells #[.slice ca' nc' cc', .slice ga' ng' gc'] 28)) (.slice ca' nc' cc') (.slice ga' ng' gc') (tabC T N R K) (tabG T N R K)) := ⟨(HT3.out.below hB4).below HBa.out, hTab4.below HBa.out⟩
        have HB4 : Hid (Below w.heap.size w (w4.alloc (.cells #[.slice ca' nc' cc', .slice ga' ng' gc'] 28))) := (HB3.out.trans (hB4.mono (by omega))).alloc (by omega) _
        clear hB4 ref hTab4))
  have v2 : (w4.alloc (.cells #[.slice ca' nc' cc', .slice ga' ng' gc'] 28)).cell? ⟨w4.heap.size, 0, none⟩ = some (.slice ca' nc' cc') := by simp [go_sem]
  have v3 : (w4.alloc (.cells #[.slice ca' nc' cc', .slice ga' ng' gc'] 28)).cell? ⟨w4.heap.size, 1, none⟩ = some (.slice ga' ng' gc') := by simp [go_sem]
  have hs5 : w4.heap.size < (w4.alloc (.cells #[.slice ca' nc' cc', .slice ga' ng' gc'] 28)).heap.size := by simp
  obtain ⟨W5, hW5⟩ : ∃ W, w4.alloc (.cells #[.slice ca' nc' cc', .slice ga' ng' gc'] 28) = W := ⟨_, rfl⟩
  rw [hW5] at v0 v1 v2 v3 HT4 HB4 hs5 ⊢
  clear hW5 t0 t1 s0 s1 n0 n1 n2
  obtain ⟨l1, l2, l3, l4, l5⟩ := tab_small HM.out HW.out.1 HW.out.2
  have sam := same6_eq (w := W5.drew) (HT4.out.1.below (Below.refl _ _).drew) (HT4.out.2.below (Below.refl _ _).drew) l1 l2 l3 l4 l5
  have HL : Hid ((tabC T N R K).length ≤ 1000 ∧ (∀ i, i < (tabC T N R K).length → ((tabC T N R K).getD i []).length ≤ 1000) ∧ ∀ i k, i < (tabC T N R K).length → k < ((tabC T N R K).getD i []).length → (((tabC T N R K).getD i []).getD k (0, [], false)).2.1.length ≤ 1000) := ⟨l1, l3, l5⟩
  clear l1 l2 l3 l4 l5
  go_region_held3 (fun wx => wx.cell? ⟨w2.heap.size, 0, none⟩ = some (.slice ca nc cc) ∧ wx.cell? ⟨w2.heap.size, 1, none⟩ = some (.slice ga ng gc) ∧ wx.cell? ⟨w4.heap.size, 0, none⟩ = some (.slice ca' nc' cc') ∧ wx.cell? ⟨w4.heap.size, 1, none⟩ = some (.slice ga' ng' gc')) (first | (refine ⟨?_, ?_, ?_, ?_⟩ <;> assumption) | go_keep)
    (first
     | (go_at_call 6; refine sam.mono ?_; rintro e w6 ⟨rfl, hB6⟩
        have hb6 : Below W5.heap.size W5 w6 := (Below.refl _ _).drew.trans hB6
        have p0 := (hb6.cell (p := ⟨w2.heap.size, 0, none⟩) (by simp only; omega)).trans v0
        have p1 := (hb6.cell (p := ⟨w2.heap.size, 1, none⟩) (by simp only; omega)).trans v1
        have p2 := (hb6.cell (p := ⟨w4.heap.size, 0, none⟩) (by simp only; omega)).trans v2
        have p3 := (hb6.cell (p := ⟨w4.heap.size, 1, none⟩) (by simp only; omega)).trans v3
        have HB6 : Hid (Below W5.heap.size W5 w6) := hb6
        have hs6 : W5.heap.size ≤ w6.heap.size := hb6.size
        have cl1 := tk_clashes (HT4.out.1.below hb6) HL.out.1 HL.out.2.1 HL.out.2.2
        clear hb6 hB6 sam)
     | (go_at_call 8; refine cl1.mono ?_; rintro e w7 ⟨rfl, hB7⟩
        have q0 := (hB7.cell (p := ⟨w2.heap.size, 0, none⟩) (by simp only; omega)).trans p0
        have q1 := (hB7.cell (p := ⟨w2.heap.size, 1, none⟩) (by simp only; omega)).trans p1
        have q2 := (hB7.cell (p := ⟨w4.heap.size, 0, none⟩) (by simp only; omega)).trans p2
        have q3 := (hB7.cell (p := ⟨w4.heap.size, 1, none⟩) (by simp only; omega)).trans p3
        have HB7 : Hid (Below W5.heap.size W5 w7) := HB6.out.trans (hB7.mono hs6)
        have hs7 : W5.heap.size ≤ w7.heap.size := HB7.out.size
        have cl2 := clashes6_any (HT4.out.2.below HB7.out) HL.out.1 HL.out.2.1
        clear hB7 cl1)
     | (go_at_call 9; refine cl2.mono ?_; rintro e w8 ⟨rfl, hB8⟩
        have r0 := (hB8.cell (p := ⟨w2.heap.size, 0, none⟩) (by simp only; omega)).trans q0
        have r1 := (hB8.cell (p := ⟨w2.heap.size, 1, none⟩) (by simp only; omega)).trans q1
        have r2 := (hB8.cell (p := ⟨w4.heap.size, 0, none⟩) (by simp only; omega)).trans q2
        have r3 := (hB8.cell (p := ⟨w4.heap.size, 1, none⟩) (by simp only; omega)).trans q3
        have HB8 : Hid (Below W5.heap.size W5 w8) := HB7.out.trans (hB8.mono hs7)
        clear hB8 cl2))
  all_goals
    go_wp2_with fail
    go_ret
    exact ⟨rfl, HB4.out.trans (HB8.out.mono (by omega))⟩

theorem tableTells_any {w : World} {T N : Int} {rv : Value} {R : List Ru} (hr : RulesAt w w.heap.size rv R) :
    Calls Try.prog 3 #[.agg #[.int .i64 T, .int .i64 N, rv]] w fun e w' => e = .returned (.bool true) ∧ Below w.heap.size w w' := by
  cases hm : mayB T N R with
  | false => exact tableTells_not hr hm
  | true =>
    have hh := hm
    simp only [mayB, headB, Bool.and_eq_true, decide_eq_true_eq] at hh
    obtain ⟨t, rfl⟩ : ∃ t : Nat, T = t := ⟨T.toNat, by omega⟩
    obtain ⟨n, rfl⟩ : ∃ n : Nat, N = n := ⟨N.toNat, by omega⟩
    by_cases hmo : More t n R 150
    · exact tableTells_more hr hm hmo
    · exact tableTells_whole hr hm hmo

end Go.Proofs.Ytchpfdnifbdfpaa
