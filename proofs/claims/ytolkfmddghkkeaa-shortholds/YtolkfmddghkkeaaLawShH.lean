/- The law pollardinglaw.ShortHolds: it returns true. -/
import Derived.Test.YtolkfmddghkkeaaShortDOf
import Derived.Test.YtolkfmddghkkeaaYieldMath
import Derived.Test.YtolkfmddghkkeaaThrUse
namespace Go.Proofs.Ytolkfmddghkkeaa
open Go.RowKit

/-- What the law's box and arguments are in a later world. -/
def LawBox (w : World) (T N : Int) (rv dv : Value) (R : List Ru) (D : List Int) (wq : World) : Prop :=
  wq.cell? ⟨w.heap.size, 0, none⟩ = some (.int .i64 T) ∧ wq.cell? ⟨w.heap.size, 1, none⟩ = some (.int .i64 N) ∧ wq.cell? ⟨w.heap.size, 2, none⟩ = some rv ∧ RulesAt wq wq.heap.size rv R ∧ ListAt wq wq.heap.size dv D ∧ Below w.heap.size w wq ∧ w.heap.size + 1 ≤ wq.heap.size

theorem lawBox {w : World} {T N : Int} {rv dv : Value} {R : List Ru} {D : List Int} (hr : RulesAt w w.heap.size rv R) (hd : ListAt w w.heap.size dv D) : ∀ wq, Below (w.heap.size + 1) (w.alloc (.cells #[.int .i64 T, .int .i64 N, rv] 24)) wq → LawBox w T N rv dv R D wq := fun wq hq => by
  have hB : Below w.heap.size w wq := ((Below.refl _ _).alloc (Nat.le_refl _) _).trans (hq.mono (by omega))
  exact ⟨(hq.cell (by simp)).trans (by simp [go_sem]), (hq.cell (by simp)).trans (by simp [go_sem]), (hq.cell (by simp)).trans (by simp [go_sem]), (hr.below hB).mono hB.size, (hd.below hB).mono hB.size, hB, by have := hq.size; simpa using this⟩

theorem short_le {N : Nat} {R : List Ru} {O : List Int} {m : Nat} (h : IsShort N R O) (hN : 0 < N) (hY : ∃ v, Can R 0 v ∧ v ≤ (m : Int)) : 0 ≤ O.getD 0 0 ∧ O.getD 0 0 ≤ (m : Int) := by
  obtain ⟨v, h1, h2⟩ := hY
  by_cases h0 : O.getD 0 0 < 0
  · exact absurd h1 ((h.none 0 hN h0).2 v)
  · have := (h.some 0 hN (by omega)).2 v h1
    exact ⟨by omega, by omega⟩

set_option maxRecDepth 100000 in
set_option maxHeartbeats 1600000 in
theorem shortHolds_not {w : World} {T N : Int} {rv dv : Value} {R : List Ru} {D : List Int} (hr : RulesAt w w.heap.size rv R) (hd : ListAt w w.heap.size dv D) (hm : mayB T N R = false) :
    Calls Try.prog 3 #[.agg #[.int .i64 T, .int .i64 N, rv], dv] w fun e w' => e = .returned (.bool true) ∧ Below w.heap.size w w' := by
  obtain ⟨ra, rc, hrv⟩ := hr.1
  obtain ⟨da, dc, hdv⟩ := hd.1
  subst hrv
  subst hdv
  have HBX : Hid (∀ wq, Below (w.heap.size + 1) (w.alloc (.cells #[.int .i64 T, .int .i64 N, .slice ra R.length rc] 24)) wq → LawBox w T N (.slice ra R.length rc) (.slice da D.length dc) R D wq) := lawBox hr hd
  have mk := devShort_not (T := T) (N := N) (hr.boxed (.cells #[.int .i64 T, .int .i64 N, .slice ra R.length rc] 24)) hm
  simp only [World.size_alloc] at mk
  have HM : Hid (mayB T N R = false) := hm
  clear hr hm hd
  go_enter Try.func3, Try.ntmps3
  go_wp2_with
    (first
     | (go_at_call 4; refine mk.mono ?_; rintro e w1 ⟨rfl, hB1⟩
        obtain ⟨b0, b1, b2, hR, _, _, hs1⟩ := HBX.out w1 hB1
        have thr := thr_not (T := T) (N := N) (da := da) (dl := D.length) (dc := dc) hR (.inl HM.out)
        unfold noThrough at thr
        have HB1 : Hid (Below (w.heap.size + 1) (w.alloc (.cells #[.int .i64 T, .int .i64 N, .slice ra R.length rc] 24)) w1) := hB1
        clear hB1 hR mk)
     | (go_at_call 5; refine thr.mono ?_; rintro e w3 ⟨rfl, hB3⟩
        have hC3 := HB1.out.trans (hB3.mono hs1)
        clear b0 b1 b2
        obtain ⟨b0, b1, b2, hR, _, _, hs3⟩ := HBX.out w3 hC3
        have may := may1_any (T := T) (N := N) hR
        rw [HM.out] at may
        have HB3 : Hid (Below (w.heap.size + 1) (w.alloc (.cells #[.int .i64 T, .int .i64 N, .slice ra R.length rc] 24)) w3) := hC3
        clear hB3 hC3 hR thr)
     | (go_at_call 6; refine may.mono ?_; rintro e w4 ⟨rfl, hB4⟩
        have HB4 : Hid (Below w.heap.size w w4) := (HBX.out w4 (HB3.out.trans (hB4.mono hs3))).2.2.2.2.2.1
        clear hB4 may))
  go_ret
  exact ⟨rfl, HB4.out⟩

set_option maxRecDepth 100000 in
set_option maxHeartbeats 1600000 in
theorem shortHolds_none {w : World} {T N : Nat} {rv dv : Value} {R : List Ru} {D : List Int} (hr : RulesAt w w.heap.size rv R) (hd : ListAt w w.heap.size dv D) (hm : mayB T N R = true) (hn : readF R D = none) :
    Calls Try.prog 3 #[.agg #[.int .i64 T, .int .i64 N, rv], dv] w fun e w' => e = .returned (.bool true) ∧ Below w.heap.size w w' := by
  obtain ⟨ra, rc, hrv⟩ := hr.1
  obtain ⟨da, dc, hdv⟩ := hd.1
  subst hrv
  subst hdv
  have HBX : Hid (∀ wq, Below (w.heap.size + 1) (w.alloc (.cells #[.int .i64 T, .int .i64 N, .slice ra R.length rc] 24)) wq → LawBox w T N (.slice ra R.length rc) (.slice da D.length dc) R D wq) := lawBox hr hd
  obtain ⟨hT, hN1, hN, hRl, _⟩ := may_fine hm
  have mk := devShort_may (T := T) (N := N) (hr.boxed (.cells #[.int .i64 T, .int .i64 N, .slice ra R.length rc] 24)) hm
  simp only [World.size_alloc] at mk
  have HM : Hid (mayB T N R = true) := hm
  have HN : Hid (readF R D = none) := hn
  have e0 : ((N : Int) != (N : Int)) = false := by simp
  have i0 : (0 : Int) < (N : Int) := by omega
  clear hr hm hd hn
  go_enter Try.func3, Try.ntmps3
  go_wp2_with
    (first
     | (go_at_call 4; refine mk.mono ?_; rintro e w1 ⟨g1, O1, rfl, hB1, hr1, hm1⟩
        obtain ⟨b0, b1, b2, hR, hL, _, hs1⟩ := HBX.out w1 hB1
        have thr := thr_none (T := T) (N := N) hR hL HM.out HN.out
        unfold noThrough at thr
        have HB1 : Hid (Below (w.heap.size + 1) (w.alloc (.cells #[.int .i64 T, .int .i64 N, .slice ra R.length rc] 24)) w1) := hB1
        have HD1 : Hid (RowI w1 (w.heap.size + 1) g1 N O1 ∧ IsShort N R O1) := ⟨hr1, hm1⟩
        clear hB1 hR hL mk hr1 hm1)
     | (go_at_call 5; refine thr.mono ?_; rintro e w3 ⟨rfl, hB3⟩
        have hC3 := HB1.out.trans (hB3.mono hs1)
        clear b0 b1 b2
        obtain ⟨b0, b1, b2, hR, _, _, hs3⟩ := HBX.out w3 hC3
        have may := may1_any (T := T) (N := N) hR
        rw [HM.out] at may
        have HB3 : Hid (Below (w.heap.size + 1) (w.alloc (.cells #[.int .i64 T, .int .i64 N, .slice ra R.length rc] 24)) w3) := hC3
        have HB13 : Hid (Below w1.heap.size w1 w3) := hB3
        clear hB3 hC3 hR thr)
     | (go_at_call 6; refine may.mono ?_; rintro e w4 ⟨rfl, hB4⟩
        have hC4 := HB3.out.trans (hB4.mono hs3)
        clear b0 b1 b2
        obtain ⟨b0, b1, b2, _, _, hBw, hs4⟩ := HBX.out w4 hC4
        have HB4 : Hid (Below w.heap.size w w4) := hBw
        clear hB4 hC4 hBw may))
  go_ret
  exact ⟨rfl, HB4.out⟩

set_option maxRecDepth 100000 in
set_option maxHeartbeats 1600000 in
theorem shortHolds_some {w : World} {T N : Nat} {rv dv : Value} {R : List Ru} {D : List Int} {st : St} (hr : RulesAt w w.heap.size rv R) (hd : ListAt w w.heap.size dv D) (hm : mayB T N R = true) (hn : readF R D = some st) :
    Calls Try.prog 3 #[.agg #[.int .i64 T, .int .i64 N, rv], dv] w fun e w' => e = .returned (.bool true) ∧ Below w.heap.size w w' := by
  obtain ⟨ra, rc, hrv⟩ := hr.1
  obtain ⟨da, dc, hdv⟩ := hd.1
  subst hrv
  subst hdv
  have HBX : Hid (∀ wq, Below (w.heap.size + 1) (w.alloc (.cells #[.int .i64 T, .int .i64 N, .slice ra R.length rc] 24)) wq → LawBox w T N (.slice ra R.length rc) (.slice da D.length dc) R D wq) := lawBox hr hd
  obtain ⟨hT, hN1, hN, hRl, _⟩ := may_fine hm
  have mk := devShort_may (T := T) (N := N) (hr.boxed (.cells #[.int .i64 T, .int .i64 N, .slice ra R.length rc] 24)) hm
  simp only [World.size_alloc] at mk
  have HM : Hid (mayB T N R = true) := hm
  have HN : Hid (readF R D = some st) := hn
  have HY : Hid (∃ v, Can R 0 v ∧ v ≤ st.Y.length) := read_yield hn
  have e0 : ((N : Int) != (N : Int)) = false := by simp
  have i0 : (0 : Int) < (N : Int) := by omega
  clear hr hm hd hn
  go_enter Try.func3, Try.ntmps3
  go_wp2_with
    (first
     | (go_at_call 4; refine mk.mono ?_; rintro e w1 ⟨g1, O1, rfl, hB1, hr1, hm1⟩
        obtain ⟨b0, b1, b2, hR, hL, _, hs1⟩ := HBX.out w1 hB1
        have thr := thr_some (T := T) (N := N) hR hL HM.out HN.out
        have HB1 : Hid (Below (w.heap.size + 1) (w.alloc (.cells #[.int .i64 T, .int .i64 N, .slice ra R.length rc] 24)) w1) := hB1
        have HD1 : Hid (RowI w1 (w.heap.size + 1) g1 N O1 ∧ IsShort N R O1) := ⟨hr1, hm1⟩
        clear hB1 hR hL mk hr1 hm1)
     | (go_at_call 5; refine thr.mono ?_; rintro e w3 ⟨ta, tc, sv, rfl, hB3, _⟩
        have hC3 := HB1.out.trans (hB3.mono hs1)
        clear b0 b1 b2
        obtain ⟨b0, b1, b2, hR, _, _, hs3⟩ := HBX.out w3 hC3
        have may := may1_any (T := T) (N := N) hR
        rw [HM.out] at may
        have HB3 : Hid (Below (w.heap.size + 1) (w.alloc (.cells #[.int .i64 T, .int .i64 N, .slice ra R.length rc] 24)) w3) := hC3
        have HB13 : Hid (Below w1.heap.size w1 w3) := hB3
        clear hB3 hC3 hR thr)
     | (go_at_call 6; refine may.mono ?_; rintro e w4 ⟨rfl, hB4⟩
        have hC4 := HB3.out.trans (hB4.mono hs3)
        clear b0 b1 b2
        obtain ⟨b0, b1, b2, _, _, hBw, hs4⟩ := HBX.out w4 hC4
        have HB4 : Hid (Below w.heap.size w w4) := hBw
        have c0 := ((HD1.out.1.below HB13.out).below hB4).cell (m := 0) (by omega)
        have hz := short_le HD1.out.2 (by omega) HY.out
        obtain ⟨z, hzz⟩ : ∃ z, O1.getD 0 0 = z := ⟨_, rfl⟩
        rw [hzz] at c0 hz
        have c1 := c0.1
        have z1 := hz.1
        have z2 := hz.2
        clear c0 hz hzz
        clear hB4 hC4 hBw may))
  go_ret
  exact ⟨rfl, HB4.out⟩

theorem shortHolds_any {w : World} {T N : Int} {rv dv : Value} {R : List Ru} {D : List Int} (hr : RulesAt w w.heap.size rv R) (hd : ListAt w w.heap.size dv D) :
    Calls Try.prog 3 #[.agg #[.int .i64 T, .int .i64 N, rv], dv] w fun e w' => e = .returned (.bool true) ∧ Below w.heap.size w w' := by
  cases hm : mayB T N R with
  | false => exact shortHolds_not hr hd hm
  | true =>
    have hh := hm
    simp only [mayB, headB, Bool.and_eq_true, decide_eq_true_eq] at hh
    obtain ⟨t, rfl⟩ : ∃ t : Nat, T = t := ⟨T.toNat, by omega⟩
    obtain ⟨n, rfl⟩ : ∃ n : Nat, N = n := ⟨N.toNat, by omega⟩
    cases hn : readF R D with
    | none => exact shortHolds_none hr hd hm hn
    | some st => exact shortHolds_some hr hd hm hn

end Go.Proofs.Ytolkfmddghkkeaa
