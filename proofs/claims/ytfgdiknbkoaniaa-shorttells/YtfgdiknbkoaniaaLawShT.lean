/- The law pollardinglaw.ShortTells: it returns true. -/
import Derived.Test.YtfgdiknbkoaniaaShortDOf
import Derived.Test.YtfgdiknbkoaniaaShort4
import Derived.Test.YtfgdiknbkoaniaaInts1
namespace Go.Proofs.Ytfgdiknbkoaniaa
open Go.RowKit

set_option maxRecDepth 100000 in
set_option maxHeartbeats 1600000 in
theorem shortTells_not {w : World} {T N : Int} {rv : Value} {R : List Ru} (hr : RulesAt w w.heap.size rv R) (hm : mayB T N R = false) :
    Calls Try.prog 3 #[.agg #[.int .i64 T, .int .i64 N, rv]] w fun e w' => e = .returned (.bool true) ∧ Below w.heap.size w w' := by
  obtain ⟨ra, rc, hrv⟩ := hr.1
  subst hrv
  have HBX : Hid (∀ wq, Below (w.heap.size + 1) (w.alloc (.cells #[.int .i64 T, .int .i64 N, .slice ra R.length rc] 24)) wq → wq.cell? ⟨w.heap.size, 0, none⟩ = some (.int .i64 T) ∧ wq.cell? ⟨w.heap.size, 1, none⟩ = some (.int .i64 N) ∧ wq.cell? ⟨w.heap.size, 2, none⟩ = some (.slice ra R.length rc) ∧ RulesAt wq wq.heap.size (.slice ra R.length rc) R ∧ Below w.heap.size w wq ∧ w.heap.size + 1 ≤ wq.heap.size) := fun wq hq => by
    have hB : Below w.heap.size w wq := ((Below.refl _ _).alloc (Nat.le_refl _) _).trans (hq.mono (by omega))
    exact ⟨(hq.cell (by simp)).trans (by simp [go_sem]), (hq.cell (by simp)).trans (by simp [go_sem]), (hq.cell (by simp)).trans (by simp [go_sem]), (hr.below hB).mono hB.size, hB, by have := hq.size; simpa using this⟩
  have mk := devShort_not (T := T) (N := N) (hr.boxed (.cells #[.int .i64 T, .int .i64 N, .slice ra R.length rc] 24)) hm
  simp only [World.size_alloc] at mk
  have HM : Hid (mayB T N R = false) := hm
  clear hr hm
  go_enter Try.func3, Try.ntmps3
  go_wp2_with
    (first
     | (go_at_call 4; refine mk.mono ?_; rintro e w1 ⟨rfl, hB1⟩
        obtain ⟨b0, b1, b2, hR, _, hs1⟩ := HBX.out w1 hB1
        have may := may1_any (T := T) (N := N) hR
        rw [HM.out] at may
        have HB1 : Hid (Below (w.heap.size + 1) (w.alloc (.cells #[.int .i64 T, .int .i64 N, .slice ra R.length rc] 24)) w1) := hB1
        clear hB1 hR mk)
     | (go_at_call 5; refine may.mono ?_; rintro e w4 ⟨rfl, hB4⟩
        have HB4 : Hid (Below w.heap.size w w4) := (HBX.out w4 (HB1.out.trans (hB4.mono hs1))).2.2.2.2.1
        clear hB4 may))
  go_ret
  exact ⟨rfl, HB4.out⟩

set_option maxRecDepth 100000 in
set_option maxHeartbeats 1600000 in
theorem shortTells_may {w : World} {T N : Nat} {rv : Value} {R : List Ru} (hr : RulesAt w w.heap.size rv R) (hm : mayB T N R = true) :
    Calls Try.prog 3 #[.agg #[.int .i64 T, .int .i64 N, rv]] w fun e w' => e = .returned (.bool true) ∧ Below w.heap.size w w' := by
  have hf := may_FineD hm
  obtain ⟨hT, hN1, hN, hRl, _⟩ := may_fine hm
  obtain ⟨ra, rc, hrv⟩ := hr.1
  subst hrv
  have HBX : Hid (∀ wq, Below (w.heap.size + 1) (w.alloc (.cells #[.int .i64 T, .int .i64 N, .slice ra R.length rc] 24)) wq → wq.cell? ⟨w.heap.size, 0, none⟩ = some (.int .i64 T) ∧ wq.cell? ⟨w.heap.size, 1, none⟩ = some (.int .i64 N) ∧ wq.cell? ⟨w.heap.size, 2, none⟩ = some (.slice ra R.length rc) ∧ RulesAt wq wq.heap.size (.slice ra R.length rc) R ∧ Below w.heap.size w wq ∧ w.heap.size + 1 ≤ wq.heap.size) := fun wq hq => by
    have hB : Below w.heap.size w wq := ((Below.refl _ _).alloc (Nat.le_refl _) _).trans (hq.mono (by omega))
    exact ⟨(hq.cell (by simp)).trans (by simp [go_sem]), (hq.cell (by simp)).trans (by simp [go_sem]), (hq.cell (by simp)).trans (by simp [go_sem]), (hr.below hB).mono hB.size, hB, by have := hq.size; simpa using this⟩
  have mk := devShort_may (T := T) (N := N) (hr.boxed (.cells #[.int .i64 T, .int .i64 N, .slice ra R.length rc] 24)) hm
  simp only [World.size_alloc] at mk
  have HM : Hid (mayB T N R = true) := hm
  have HF : Hid (Fine T N R) := hf
  clear hr hm hf
  go_enter Try.func3, Try.ntmps3
  go_wp2_with
    (first
     | (go_at_call 4; refine mk.mono ?_; rintro e w1 ⟨g1, O1, rfl, hB1, hr1, hm1⟩
        obtain ⟨b0, b1, b2, hR, _, hs1⟩ := HBX.out w1 hB1
        have may := may1_any (T := T) (N := N) hR
        rw [HM.out] at may
        have HB1 : Hid (Below (w.heap.size + 1) (w.alloc (.cells #[.int .i64 T, .int .i64 N, .slice ra R.length rc] 24)) w1) := hB1
        have HD1 : Hid (RowI w1 (w.heap.size + 1) g1 N O1) := hr1
        have HI1 : Hid (IsShort N R O1) := hm1
        clear hB1 hR mk hr1 hm1)
     | (go_at_call 5; refine may.mono ?_; rintro e w2 ⟨rfl, hB2⟩
        have hC2 := HB1.out.trans (hB2.mono hs1)
        clear b0 b1 b2
        obtain ⟨b0, b1, b2, hR, _, hs2⟩ := HBX.out w2 hC2
        have ro := of4_any (T := T) (N := N) hR HM.out HF.out
        have HB2 : Hid (Below (w.heap.size + 1) (w.alloc (.cells #[.int .i64 T, .int .i64 N, .slice ra R.length rc] 24)) w2) := hC2
        have HB12 : Hid (Below w1.heap.size w1 w2) := hB2
        clear hB2 hC2 hR may)
     | (go_at_call 7; refine ro.mono ?_; rintro e w3 ⟨O2, rfl, hB3, hr3, hI3⟩
        have HB3 : Hid (Below w.heap.size w w3) := (HBX.out w3 (HB2.out.trans (hB3.mono hs2))).2.2.2.2.1
        have hx : RowI w3 (w.heap.size + 1) g1 N O1 := (HD1.out.below HB12.out).below hB3
        rw [hI3.one HI1.out] at hr3
        have ie := ints_eq hx.list hr3.list (by rw [hx.len]; omega)
        clear hB3 hr3 hI3 hx ro b0 b1 b2)
     | (go_at_call 6; refine ie.mono ?_; rintro e w4 ⟨rfl, m, rfl⟩))
  go_ret
  exact ⟨rfl, below_drewN HB3.out _⟩

theorem shortTells_any {w : World} {T N : Int} {rv : Value} {R : List Ru} (hr : RulesAt w w.heap.size rv R) :
    Calls Try.prog 3 #[.agg #[.int .i64 T, .int .i64 N, rv]] w fun e w' => e = .returned (.bool true) ∧ Below w.heap.size w w' := by
  cases hm : mayB T N R with
  | false => exact shortTells_not hr hm
  | true =>
    have hh := hm
    simp only [mayB, headB, Bool.and_eq_true, decide_eq_true_eq] at hh
    obtain ⟨t, rfl⟩ : ∃ t : Nat, T = t := ⟨T.toNat, by omega⟩
    obtain ⟨n, rfl⟩ : ∃ n : Nat, N = n := ⟨N.toNat, by omega⟩
    exact shortTells_may hr hm

end Go.Proofs.Ytfgdiknbkoaniaa
