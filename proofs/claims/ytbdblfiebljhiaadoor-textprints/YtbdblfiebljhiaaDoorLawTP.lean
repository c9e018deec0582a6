/- The law pollardinglaw.TextPrints: it returns true. -/
import Derived.Test.YtbdblfiebljhiaaDoorTxPr
import Derived.Test.YtbdblfiebljhiaaDoorTxTx
import Derived.Test.YtbdblfiebljhiaaDoorMay1
namespace Go.Proofs.YtbdblfiebljhiaaDoor
open Go.RowKit

section
variable {w : World} {ra : Option Addr} {rc : Nat} {R : List Ru}

set_option maxRecDepth 100000 in
set_option maxHeartbeats 3200000 in
theorem textPrints_no {T N : Int} (hr : RulesAt w w.heap.size (.slice ra R.length rc) R) (hm : mayB T N R = false) :
    Calls Tryd.prog 3 #[.agg #[.int .i64 T, .int .i64 N, .slice ra R.length rc]] w fun e w' => e = .returned (.bool true) ∧ Below w.heap.size w w' := by
  obtain ⟨W1, hW1⟩ : ∃ W, w.alloc (.cells #[.int .i64 T, .int .i64 N, .slice ra R.length rc] 24) = W := ⟨_, rfl⟩
  have hB1 : Below w.heap.size w W1 := by rw [← hW1]; exact (Below.refl _ _).alloc (Nat.le_refl _) _
  have hx := heap_alloc_new w (.cells #[.int .i64 T, .int .i64 N, .slice ra R.length rc] 24)
  rw [hW1] at hx
  have hr1 : RulesAt W1 W1.heap.size (.slice ra R.length rc) R := (hr.below hB1).mono hB1.size
  have HG : Hid (∀ wq, Below W1.heap.size W1 wq → (wq.cell? ⟨w.heap.size, 0, none⟩ = some (.int .i64 T) ∧ wq.cell? ⟨w.heap.size, 1, none⟩ = some (.int .i64 N) ∧ wq.cell? ⟨w.heap.size, 2, none⟩ = some (.slice ra R.length rc)) ∧ RulesAt wq wq.heap.size (.slice ra R.length rc) R ∧ Below w.heap.size w wq) := fun wq hq => by
    have hy := (hq.block _ (Array.getElem?_eq_some_iff.1 hx).1).trans hx
    exact ⟨⟨cell_bk hy rfl, cell_bk hy rfl, cell_bk hy rfl⟩, (hr1.below hq).mono hq.size, hB1.trans (hq.mono hB1.size)⟩
  have HM : Hid (mayB T N R = false) := hm
  have pr := print_no (T := T) (N := N) hr1 hm
  obtain ⟨⟨g0, g1, g2⟩, -, -⟩ := HG.out W1 (Below.refl _ _)
  clear hr hm hB1 hx hr1
  go_enter Tryd.func3, Tryd.ntmps3
  go_wp2_with
    (first
     | (go_at_call 4; refine pr.mono ?_; rintro e w2 ⟨rfl, h2⟩
        obtain ⟨⟨f0, f1, f2⟩, hr2, -⟩ := HG.out w2 h2
        have may := may1_any (T := T) (N := N) hr2
        rw [HM.out] at may
        have HB2 : Hid (Below W1.heap.size W1 w2) := h2
        clear h2 hr2 pr)
     | (go_at_call 5; refine may.mono ?_; rintro e w3 ⟨rfl, h3⟩
        have HB3 : Hid (Below W1.heap.size W1 w3) := HB2.out.trans (h3.mono HB2.out.size)
        clear h3 may))
  go_ret
  exact ⟨rfl, (HG.out w3 HB3.out).2.2⟩

set_option maxRecDepth 100000 in
set_option maxHeartbeats 3200000 in
theorem textPrints_yes {T N : Nat} (hr : RulesAt w w.heap.size (.slice ra R.length rc) R) (hm : mayB T N R = true) :
    Calls Tryd.prog 3 #[.agg #[.int .i64 T, .int .i64 N, .slice ra R.length rc]] w fun e w' => e = .returned (.bool true) ∧ Below w.heap.size w w' := by
  obtain ⟨W1, hW1⟩ : ∃ W, w.alloc (.cells #[.int .i64 (T : Int), .int .i64 (N : Int), .slice ra R.length rc] 24) = W := ⟨_, rfl⟩
  have hB1 : Below w.heap.size w W1 := by rw [← hW1]; exact (Below.refl _ _).alloc (Nat.le_refl _) _
  have hx := heap_alloc_new w (.cells #[.int .i64 (T : Int), .int .i64 (N : Int), .slice ra R.length rc] 24)
  rw [hW1] at hx
  have hr1 : RulesAt W1 W1.heap.size (.slice ra R.length rc) R := (hr.below hB1).mono hB1.size
  have HG : Hid (∀ wq, Below W1.heap.size W1 wq → (wq.cell? ⟨w.heap.size, 0, none⟩ = some (.int .i64 (T : Int)) ∧ wq.cell? ⟨w.heap.size, 1, none⟩ = some (.int .i64 (N : Int)) ∧ wq.cell? ⟨w.heap.size, 2, none⟩ = some (.slice ra R.length rc)) ∧ RulesAt wq wq.heap.size (.slice ra R.length rc) R ∧ Below w.heap.size w wq) := fun wq hq => by
    have hy := (hq.block _ (Array.getElem?_eq_some_iff.1 hx).1).trans hx
    exact ⟨⟨cell_bk hy rfl, cell_bk hy rfl, cell_bk hy rfl⟩, (hr1.below hq).mono hq.size, hB1.trans (hq.mono hB1.size)⟩
  have HM : Hid (mayB T N R = true) := hm
  have pr := print_yes (T := T) (N := N) hr1 hm
  obtain ⟨tx, htx⟩ : ∃ z, (⟨(textB T N R).toArray⟩ : ByteArray) = z := ⟨_, rfl⟩
  rw [htx] at pr
  have HT : Hid ((⟨(textB T N R).toArray⟩ : ByteArray) = tx) := htx
  obtain ⟨⟨g0, g1, g2⟩, -, -⟩ := HG.out W1 (Below.refl _ _)
  clear hr hm hB1 hx hr1 htx
  go_enter Tryd.func3, Tryd.ntmps3
  go_wp2_with
    (first
     | (go_at_call 4; refine pr.mono ?_; rintro e w2 ⟨rfl, h2⟩
        obtain ⟨⟨f0, f1, f2⟩, hr2, -⟩ := HG.out w2 h2
        have may := may1_any (T := (T : Int)) (N := (N : Int)) hr2
        rw [HM.out] at may
        have HB2 : Hid (Below W1.heap.size W1 w2) := h2
        clear h2 hr2 pr)
     | (go_at_call 5; refine may.mono ?_; rintro e w3 ⟨rfl, h3⟩
        have HB3 : Hid (Below W1.heap.size W1 w3) := HB2.out.trans (h3.mono HB2.out.size)
        obtain ⟨⟨e0, e1, e2⟩, hr3, -⟩ := HG.out w3 HB3.out
        have tex := text_any (T := T) (N := N) hr3 HM.out
        rw [HT.out] at tex
        clear h3 may hr3)
     | (go_at_call 6; refine tex.mono ?_; rintro e w4 ⟨rfl, h4⟩
        have HB4 : Hid (Below W1.heap.size W1 w4) := HB3.out.trans (h4.mono HB3.out.size)
        clear h4 tex))
  go_ret
  exact ⟨rfl, (HG.out w4 HB4.out).2.2⟩

theorem textPrints_any {T N : Int} {rv : Value} (hr : RulesAt w w.heap.size rv R) :
    Calls Tryd.prog 3 #[.agg #[.int .i64 T, .int .i64 N, rv]] w fun e w' => e = .returned (.bool true) ∧ Below w.heap.size w w' := by
  obtain ⟨ra, rc, hrv⟩ := hr.1
  subst hrv
  cases hm : mayB T N R with
  | false => exact textPrints_no hr hm
  | true =>
    have hh := hm
    simp only [mayB, headB, Bool.and_eq_true, decide_eq_true_eq] at hh
    obtain ⟨t, rfl⟩ : ∃ t : Nat, T = t := ⟨T.toNat, by omega⟩
    obtain ⟨n, rfl⟩ : ∃ n : Nat, N = n := ⟨N.toNat, by omega⟩
    exact textPrints_yes hr hm
end
end Go.Proofs.YtbdblfiebljhiaaDoor
