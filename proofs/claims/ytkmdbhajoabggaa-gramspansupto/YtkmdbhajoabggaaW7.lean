/- The law itself, over a grammar and a list that lie in memory. -/
import Derived.Test.YtkmdbhajoabggaaW6
namespace Go.Proofs.Ytkmdbhajoabggaa
open Go.RowKit

theorem own_below {B base : Nat} {e : TypeId} {size : Nat} {v : Value} {n : Nat} {xs : List Value} {w w' : World} (h : w.ownsRow base e size v n xs) (hb : Below B w w') (hv : ∀ g, v.ownBlock = some g → g < B) : w'.ownsRow base e size v n xs := by
  refine ⟨h.1, ?_⟩
  rcases h.2 with h2 | ⟨g, cap, cur, rfl, h2, h3, h4⟩
  · exact .inl h2
  · exact .inr ⟨g, cap, cur, rfl, h2, (hb.block g (hv g rfl)).trans h3, h4⟩

theorem one_read : readF [(0, [])] [0] = some { pos := 1, Y := [], S := [(0, 0, 0)] } := by rfl

theorem one_max : ∀ q, ((([(0, [])] : List Ru).getD q (0, [])).2).length ≤ 0 := by
  intro q
  match q with
  | 0 => simp
  | q + 1 => simp

/-- The smallest grammar and its derivation, as the law lays them. -/
theorem one_rules (w : World) (a b : Obj) : RulesAt (((w.alloc (.cells #[.int .i64 0, .slice none 0 0] 33)).alloc a).alloc b) (((w.alloc (.cells #[.int .i64 0, .slice none 0 0] 33)).alloc a).alloc b).heap.size
    (.slice (some ⟨w.heap.size, 0, none⟩) 1 1) [(0, [])] := by
  refine ⟨⟨_, _, rfl⟩, fun q hq => ?_⟩
  have hq0 : q = 0 := by simp at hq; omega
  subst hq0
  refine ⟨w.heap.size, 0, 1, none, 0, rfl, by simp; omega, ?_, ?_, fun j hj => by simp at hj⟩
  · simp [go_sem]
  · simp [go_sem]

theorem one_list (w : World) : ListAt (w.alloc (.cells #[.int .i64 0] 3)) (w.alloc (.cells #[.int .i64 0] 3)).heap.size (.slice (some ⟨w.heap.size, 0, none⟩) 1 1) [0] := by
  refine ⟨⟨_, _, rfl⟩, fun p hp => ?_⟩
  have hp0 : p = 0 := by simp at hp; omega
  subst hp0
  exact ⟨w.heap.size, 0, 1, rfl, by simp, by simp [go_sem]⟩

theorem call_one (w2 : World) : Calls Try.prog 4 #[.agg #[.int .i64 0, .int .i64 1, .slice (some ⟨w2.heap.size, 0, none⟩) 1 1], .slice (some ⟨w2.heap.size + 2, 0, none⟩) 1 1]
    (((w2.alloc (.cells #[.int .i64 0, .slice none 0 0] 33)).alloc (.cells #[.int .i64 0, .int .i64 1, .slice (some ⟨w2.heap.size, 0, none⟩) 1 1] 24)).alloc (.cells #[.int .i64 0] 3)) fun e w' => ∃ yv, e = .returned (.tuple #[yv, .bool true]) ∧ Below w2.heap.size w2 w' := by
  have hl := one_list ((w2.alloc (.cells #[.int .i64 0, .slice none 0 0] 33)).alloc (.cells #[.int .i64 0, .int .i64 1, .slice (some ⟨w2.heap.size, 0, none⟩) 1 1] 24))
  have := yield_some (T := 0) (N := 1) (one_rules w2 (.cells #[.int .i64 0, .int .i64 1, .slice (some ⟨w2.heap.size, 0, none⟩) 1 1] 24) (.cells #[.int .i64 0] 3)) hl one_max (by omega) one_read
  simp only [World.size_alloc] at this
  refine this.mono ?_
  rintro e w' ⟨yv, rfl, hB, _⟩
  exact ⟨yv, rfl, ((((Below.refl _ _).alloc (Nat.le_refl _) _).alloc (by simp) _).alloc (by simp; omega) _).trans (hB.mono (by omega))⟩

set_option maxRecDepth 100000 in
set_option maxHeartbeats 1600000 in
theorem law_none {w : World} {T N : Int} {rv dv : Value} {R : List Ru} {D : List Int} {M : Nat} (hr : RulesAt w w.heap.size rv R) (hd : ListAt w w.heap.size dv D)
    (hM : ∀ q, (R.getD q (0, [])).2.length ≤ M) (hM' : M ≤ 2147483648) (h : readF R D = none) :
    Calls Try.prog 3 #[.agg #[.int .i64 T, .int .i64 N, rv], dv] w fun e w' => e = .returned (.bool true) ∧ Below w.heap.size w w' := by
  have hr0 := hr.boxed (.cells #[.int .i64 T, .int .i64 N, rv] 24)
  have hd0 := hd.boxed (.cells #[.int .i64 T, .int .i64 N, rv] 24)
  have callY := yield_none (T := T) (N := N) hr0 hd0 hM hM' h
  obtain ⟨ra, rc, hrv⟩ := hr.1
  obtain ⟨da, dc, hdv⟩ := hd.1
  have callS : ∀ w1, Below (w.alloc (.cells #[.int .i64 T, .int .i64 N, rv] 24)).heap.size (w.alloc (.cells #[.int .i64 T, .int .i64 N, rv] 24)) w1 →
      Calls Try.prog 5 #[.agg #[.int .i64 T, .int .i64 N, rv], dv] w1 fun e w' => e = .returned (.tuple #[.slice none 0 0, .bool false]) ∧ Below w1.heap.size w1 w' := fun w1 hB =>
    spans_none ((hr0.below hB).mono hB.size) ((hd0.below hB).mono hB.size) hM hM' h
  clear hr hd hr0 hd0
  subst hrv
  subst hdv
  go_enter Try.func3, Try.ntmps3
  go_upto_region 3 with (first
    | (go_at_call 4; refine callY.mono ?_; rintro e w1 ⟨rfl, hB1⟩; have bx : w1.cell? ⟨w.heap.size, 0, none⟩ = some (.int .i64 T) ∧ w1.cell? ⟨w.heap.size, 1, none⟩ = some (.int .i64 N) ∧ w1.cell? ⟨w.heap.size, 2, none⟩ = some (.slice ra R.length rc) := ⟨(hB1.cell (by simp)).trans (by simp [go_sem]), (hB1.cell (by simp)).trans (by simp [go_sem]), (hB1.cell (by simp)).trans (by simp [go_sem])⟩; obtain ⟨bx0, bx1, bx2⟩ := bx)
    | (go_at_call 5; refine (callS _ hB1).mono ?_; rintro e w2 ⟨rfl, hB2⟩))
  clear callY callS
  have callO2 := call_one w2
  go_wp2_with (go_at_call 4; refine callO2.mono ?_; rintro e w3 ⟨yv, rfl, hB3⟩)
  go_ret
  have h1 := hB1.size
  have h2 := hB2.size
  simp only [World.size_alloc] at h1
  exact ⟨rfl, (((Below.refl _ _).alloc (Nat.le_refl _) _).trans (hB1.mono (by simp))).trans ((hB2.mono (by omega)).trans (hB3.mono (by omega)))⟩

set_option maxRecDepth 100000 in
set_option maxHeartbeats 3200000 in
theorem law_some {w : World} {T N : Int} {rv dv : Value} {R : List Ru} {D : List Int} {M : Nat} {st : St} (hr : RulesAt w w.heap.size rv R) (hd : ListAt w w.heap.size dv D)
    (hM : ∀ q, (R.getD q (0, [])).2.length ≤ M) (hM' : M ≤ 2147483648) (h : readF R D = some st) :
    Calls Try.prog 3 #[.agg #[.int .i64 T, .int .i64 N, rv], dv] w fun e w' => e = .returned (.bool true) ∧ Below w.heap.size w w' := by
  have hr0 := hr.boxed (.cells #[.int .i64 T, .int .i64 N, rv] 24)
  have hd0 := hd.boxed (.cells #[.int .i64 T, .int .i64 N, rv] 24)
  have callY := yield_some (T := T) (N := N) hr0 hd0 hM hM' h
  obtain ⟨hD, _, hSl, hD0, hseg, ⟨q0, T0, hS0⟩, hYb⟩ := readF_good hM h
  have hYl : st.Y.length ≤ 400 * 2147483648 := Nat.le_trans hYb (Nat.mul_le_mul hD hM')
  obtain ⟨ra, rc, hrv⟩ := hr.1
  obtain ⟨db, dO, dc, hdv, hdb, _⟩ := hd.2 0 hD0
  have hdc : ∀ j, j < D.length → w.cell? ⟨db, dO + j, none⟩ = some (.int .i64 (D.getD j 0)) := fun j hj => by
    obtain ⟨b, o, c, e, _, k⟩ := hd.2 j hj
    rw [hdv] at e
    cases e
    exact k
  have callS : ∀ w1, Below (w.alloc (.cells #[.int .i64 T, .int .i64 N, rv] 24)).heap.size (w.alloc (.cells #[.int .i64 T, .int .i64 N, rv] 24)) w1 →
      Calls Try.prog 5 #[.agg #[.int .i64 T, .int .i64 N, rv], dv] w1 fun e w' => ∃ sv, e = .returned (.tuple #[sv, .bool true]) ∧ Below w1.heap.size w1 w' ∧ w'.ownsRow w1.heap.size 35 3 sv D.length (flat st.S) := fun w1 hB => by
    have := spans_some (T := T) (N := N) ((hr0.below hB).mono hB.size) ((hd0.below hB).mono hB.size) hM hM' h
    rwa [hSl] at this
  have HL : Hid (st.S.length = D.length) := hSl
  have HS0 : Hid (st.S = (q0, 0, st.Y.length) :: T0) := hS0
  have HG : Hid (Seg D 0 0 st.Y.length st.S) := hseg
  clear hr hd hr0 hd0 hYb hSl hS0 hseg h
  subst hrv
  subst hdv
  go_enter Try.func3, Try.ntmps3
  go_upto_region 3 with (first
    | (go_at_call 4; refine callY.mono ?_; rintro e w1 ⟨yv, rfl, hB1, hY⟩; have bx : w1.cell? ⟨w.heap.size, 0, none⟩ = some (.int .i64 T) ∧ w1.cell? ⟨w.heap.size, 1, none⟩ = some (.int .i64 N) ∧ w1.cell? ⟨w.heap.size, 2, none⟩ = some (.slice ra R.length rc) := ⟨(hB1.cell (by simp)).trans (by simp [go_sem]), (hB1.cell (by simp)).trans (by simp [go_sem]), (hB1.cell (by simp)).trans (by simp [go_sem])⟩; obtain ⟨bx0, bx1, bx2⟩ := bx)
    | (go_at_call 5; refine (callS _ hB1).mono ?_; rintro e w2 ⟨sv, rfl, hB2, hS⟩))
  obtain ⟨ya, yc, rfl⟩ := own_form hY
  obtain ⟨sg, sc, rfl, hsg, hsg2⟩ := hS.form (by omega)
  clear callY callS
  have callO2 := call_one w2
  clear bx0 bx1 bx2
  have h1 := hB1.size
  have h2 := hB2.size
  simp only [World.size_alloc] at h1
  have hBw : Below w.heap.size w w2 := (((Below.refl _ _).alloc (Nat.le_refl _) _).trans (hB1.mono (by simp))).trans (hB2.mono (by omega))
  clear hB1 hB2 hY
  go_upto_region 5 with (go_at_call 4; refine callO2.mono ?_; rintro e w3 ⟨yv, rfl, hB3⟩)
  clear callO2
  have hown : w3.ownsRow w1.heap.size 35 3 (.slice (some ⟨sg, 0, none⟩) D.length sc) D.length (flat st.S) := own_below hS hB3 (fun g hg => by cases hg; exact hsg2)
  have hBf : Below w.heap.size w w3 := hBw.trans (hB3.mono (by omega))
  have hsc : ∀ j t, st.S[j]? = some t → w3.cell? ⟨sg, j * 3, none⟩ = some (.int .i64 t.1) ∧ w3.cell? ⟨sg, j * 3 + 1, none⟩ = some (.int .i64 t.2.1) ∧ w3.cell? ⟨sg, j * 3 + 2, none⟩ = some (.int .i64 t.2.2) := fun j t ht => by
    have hj : j < D.length := by rw [← HL.out]; exact (List.getElem?_eq_some_iff.1 ht).1
    obtain ⟨f1, f2, f3⟩ := flat_get ht
    exact ⟨(hown.cellAt _ (by omega)).trans f1, (hown.cellAt _ (by omega)).trans f2, (hown.cellAt _ (by omega)).trans f3⟩
  have hdc3 : ∀ j, j < D.length → w3.cell? ⟨db, dO + j, none⟩ = some (.int .i64 (D.getD j 0)) := fun j hj => (hBf.cell hdb).trans (hdc j hj)
  obtain ⟨s00, s01, s02⟩ := hsc 0 (q0, 0, st.Y.length) (by rw [HS0.out]; rfl)
  simp only [Nat.zero_mul, Nat.zero_add] at s00 s01 s02
  have HF : Hid (Below w.heap.size w w3) := hBf
  have HC : Hid (∀ j t, st.S[j]? = some t → w3.cell? ⟨sg, j * 3, none⟩ = some (.int .i64 t.1) ∧ w3.cell? ⟨sg, j * 3 + 1, none⟩ = some (.int .i64 t.2.1) ∧ w3.cell? ⟨sg, j * 3 + 2, none⟩ = some (.int .i64 t.2.2)) := hsc
  have HD : Hid (∀ j, j < D.length → w3.cell? ⟨db, dO + j, none⟩ = some (.int .i64 (D.getD j 0))) := hdc3
  have hSn : ¬ D.length = 0 := by omega
  clear hBf hsc hdc3 hown hBw hB3 hS hdc hdb
  go_wp2_with fail
  clear s00 s01 s02
  go_loopw [12] (fun i wr => ∃ (j m : Nat), i = .int .i64 j ∧ j ≤ D.length ∧ wr = w3.drewN m) (fun i _ => D.length - (intOf i).toNat)
  case atStart => exact ⟨0, 0, rfl, Nat.zero_le _, rfl⟩
  case round =>
    obtain ⟨j, m, rfl, hj, rfl⟩ := hrel
    by_cases hlt : j < D.length
    · obtain ⟨t, ht⟩ : ∃ t, st.S[j]? = some t := ⟨st.S[j]'(by rw [HL.out]; exact hlt), by simp⟩
      obtain ⟨a1, a2, a3, a4, a5⟩ := HG.out j t ht
      obtain ⟨s0, s1, s2⟩ := HC.out j t ht
      have d0 := HD.out j hlt
      rw [Nat.zero_add] at a1
      rw [getD_of_some a1] at d0
      obtain ⟨r, f, u⟩ := t
      simp only at a1 a2 a3 a4 a5 s0 s1 s2 d0
      have HA : Hid (∀ i y, i + 1 = j → st.S[i]? = some y → y.2.1 ≤ f) := a5
      clear a1 a2 a5 ht
      have hi0 : (0 : Int) ≤ (j : Int) := Int.natCast_nonneg _
      have hi1 : (j : Int) < (D.length : Int) := by omega
      have e1 : (r != r) = false := by simp
      have e2 : decide (u < f) = false := by simp; omega
      have e3 : decide (st.Y.length < u) = false := by simp; omega
      by_cases hz : j = 0
      · have e5 : decide ((0 : Int) < (j : Int)) = false := by simp; omega
        have e6 : decide (0 < j) = false := by simp; omega
        clear hz
        go_wp2_with fail
        go_big_quiet (fail)
        go_wp2_with fail
        go_roundw
        case rel => exact ⟨j + 1, _, by go_num, by omega, rfl⟩
        case measure => simp [intOf]; omega
      · obtain ⟨i, hi⟩ : ∃ i, i + 1 = j := ⟨j - 1, by omega⟩
        obtain ⟨y, hy⟩ : ∃ y, st.S[i]? = some y := ⟨st.S[i]'(by rw [HL.out]; omega), by simp⟩
        obtain ⟨p0, p1, p2⟩ := HC.out i y hy
        have hf := HA.out i y hi hy
        have hji : (j : Int) - 1 = (i : Int) := by omega
        have hi2 : (0 : Int) ≤ (i : Int) := Int.natCast_nonneg _
        have hi3 : (i : Int) < (D.length : Int) := by omega
        have e4 : decide (f < y.2.1) = false := by simp; omega
        have e5 : decide ((0 : Int) < (j : Int)) = true := by simp; omega
        have e6 : decide (0 < j) = true := by simp; omega
        clear hy hi hz
        go_wp2_with fail
        go_big_quiet (fail)
        go_wp2_with fail
        go_roundw
        case rel => exact ⟨j + 1, _, by go_num, by omega, rfl⟩
        case measure => simp [intOf]; omega
    · go_wp2_with fail
      go_ret
      exact ⟨rfl, below_drewN HF.out m⟩

theorem law_any {w : World} {T N : Int} {rv dv : Value} {R : List Ru} {D : List Int} {M : Nat} (hr : RulesAt w w.heap.size rv R) (hd : ListAt w w.heap.size dv D)
    (hM : ∀ q, (R.getD q (0, [])).2.length ≤ M) (hM' : M ≤ 2147483648) :
    Calls Try.prog 3 #[.agg #[.int .i64 T, .int .i64 N, rv], dv] w fun e w' => e = .returned (.bool true) ∧ Below w.heap.size w w' := by
  cases h : readF R D with
  | none => exact law_none hr hd hM hM' h
  | some st => exact law_some hr hd hM hM' h

end Go.Proofs.Ytkmdbhajoabggaa
