/- The law pollardingkeep.TextBack: it returns true. -/
import Derived.Test.YtdkbbmkbpfgekaaDoorTxPr
import Derived.Test.YtdkbbmkbpfgekaaDoorTxBk
import Derived.Test.YtdkbbmkbpfgekaaDoorSame8
namespace Go.Proofs.YtdkbbmkbpfgekaaDoor
open Go.RowKit

section
variable {w : World} {ra : Option Addr} {rc : Nat} {R : List Ru}

set_option maxRecDepth 100000 in
set_option maxHeartbeats 3200000 in
theorem textBack_no {T N : Int} (hr : RulesAt w w.heap.size (.slice ra R.length rc) R) (hm : mayB T N R = false) :
    Calls Tryd.prog 3 #[.agg #[.int .i64 T, .int .i64 N, .slice ra R.length rc]] w fun e w' => e = .returned (.bool true) ∧ Below w.heap.size w w' := by
  obtain ⟨W1, hW1⟩ : ∃ W, w.alloc (.cells #[.int .i64 T, .int .i64 N, .slice ra R.length rc] 24) = W := ⟨_, rfl⟩
  have hB1 : Below w.heap.size w W1 := by rw [← hW1]; exact (Below.refl _ _).alloc (Nat.le_refl _) _
  have hx := heap_alloc_new w (.cells #[.int .i64 T, .int .i64 N, .slice ra R.length rc] 24)
  rw [hW1] at hx
  have hr1 : RulesAt W1 W1.heap.size (.slice ra R.length rc) R := (hr.below hB1).mono hB1.size
  have HG : Hid (∀ wq, Below W1.heap.size W1 wq → (wq.cell? ⟨w.heap.size, 0, none⟩ = some (.int .i64 T) ∧ wq.cell? ⟨w.heap.size, 1, none⟩ = some (.int .i64 N) ∧ wq.cell? ⟨w.heap.size, 2, none⟩ = some (.slice ra R.length rc)) ∧ RulesAt wq wq.heap.size (.slice ra R.length rc) R ∧ Below w.heap.size w wq) := fun wq hq => by
    have hy := (hq.block _ (Array.getElem?_eq_some_iff.1 hx).1).trans hx
    exact ⟨⟨cell_bk hy rfl, cell_bk hy rfl, cell_bk hy rfl⟩, (hr1.below hq).mono hq.size, hB1.trans (hq.mono hB1.size)⟩
  have HM : Hid (mayB T N R = false) := hm
  have pr := print_no (T := T) (N := N) hr1 hm
  obtain ⟨⟨g0, g1, g2⟩, -, -⟩ := HG.out W1 (Below.refl _ _)
  clear hr hm hB1 hx hr1
  go_enter Tryd.func3, Tryd.ntmps3
  go_wp2_with
    (go_at_call 4; refine pr.mono ?_; rintro e w2 ⟨rfl, h2⟩
     have HB2 : Hid (Below W1.heap.size W1 w2) := h2
     clear h2 pr)
  go_ret
  exact ⟨rfl, (HG.out w2 HB2.out).2.2⟩

set_option maxRecDepth 100000 in
set_option maxHeartbeats 3200000 in
theorem textBack_yes {T N : Nat} (hr : RulesAt w w.heap.size (.slice ra R.length rc) R) (hm : mayB T N R = true) :
    Calls Tryd.prog 3 #[.agg #[.int .i64 T, .int .i64 N, .slice ra R.length rc]] w fun e w' => e = .returned (.bool true) ∧ Below w.heap.size w w' := by
  obtain ⟨W1, hW1⟩ : ∃ W, w.alloc (.cells #[.int .i64 (T : Int), .int .i64 (N : Int), .slice ra R.length rc] 24) = W := ⟨_, rfl⟩
  have hB1 : Below w.heap.size w W1 := by rw [← hW1]; exact (Below.refl _ _).alloc (Nat.le_refl _) _
  have hx := heap_alloc_new w (.cells #[.int .i64 (T : Int), .int .i64 (N : Int), .slice ra R.length rc] 24)
  rw [hW1] at hx
  have hr1 : RulesAt W1 W1.heap.size (.slice ra R.length rc) R := (hr.below hB1).mono hB1.size
  have HG : Hid (∀ wq, Below W1.heap.size W1 wq → (wq.cell? ⟨w.heap.size, 0, none⟩ = some (.int .i64 (T : Int)) ∧ wq.cell? ⟨w.heap.size, 1, none⟩ = some (.int .i64 (N : Int)) ∧ wq.cell? ⟨w.heap.size, 2, none⟩ = some (.slice ra R.length rc)) ∧ RulesAt wq wq.heap.size (.slice ra R.length rc) R ∧ Below w.heap.size w wq) := fun wq hq => by
    have hy := (hq.block _ (Array.getElem?_eq_some_iff.1 hx).1).trans hx
    exact ⟨⟨cell_bk hy rfl, cell_bk hy rfl, cell_bk hy rfl⟩, (hr1.below hq).mono hq.size, hB1.trans (hq.mono hB1.size)⟩
  have HM : Hid (mayB T N R = true) := hm
  have pr := print_yes (T := T) (N := N) hr1 hm
  have hlen : (textB T N R).length ≤ 9223372036854775807 := by
    have hl := low_of hm
    have h1 := head_len hl
    have h2 := hl.part R.length
    rw [List.take_length] at h2
    unfold textB
    rw [List.length_append]
    omega
  have hl := low_of hm
  have HP : Hid (∀ wq, Calls Tryd.prog 5 #[.string ⟨(textB T N R).toArray⟩] wq fun e w' => ∃ rv, e = .returned (.tuple #[.agg #[.int .i64 (T : Int), .int .i64 (N : Int), rv], .agg #[.int .i64 0, .int .i64 0]]) ∧ RulesAt w' w'.heap.size rv R ∧ Below wq.heap.size wq w') := fun wq => by
    have := parse_ok (w := wq) hlen (ok_give hm)
    rw [all_give hm] at this
    exact this
  have HL : Hid (R.length ≤ 1000 ∧ ∀ i, i < R.length → (R.getD i (0, [])).2.length ≤ 1000) := ⟨by have := hl.r; omega, fun i hi => by have := hl.len i hi; omega⟩
  have e9 : (textB T N R).isEmpty = false := by simp [textB, headB9]
  obtain ⟨tx, htx⟩ : ∃ z, textB T N R = z := ⟨_, rfl⟩
  rw [htx] at pr HP e9
  obtain ⟨⟨g0, g1, g2⟩, -, -⟩ := HG.out W1 (Below.refl _ _)
  clear hr hm hB1 hx hr1 htx hl hlen
  go_enter Tryd.func3, Tryd.ntmps3
  go_wp2_with
    (first
     | (go_at_call 4; refine pr.mono ?_; rintro e w2 ⟨rfl, h2⟩
        have pa := HP.out w2
        have HB2 : Hid (Below W1.heap.size W1 w2) := h2
        clear h2 pr)
     | (go_at_call 5; refine pa.mono ?_; rintro e w3 ⟨rv, rfl, h4, h5⟩
        obtain ⟨qa, qc, hrv⟩ := h4.1
        subst hrv
        have h6 := HB2.out.trans (h5.mono HB2.out.size)
        have hz6 := h6.size
        have h7 : Below W1.heap.size W1 ((w3.alloc (.cells #[.int .i64 (T : Int), .int .i64 (N : Int), .slice qa R.length qc] 24)).alloc (.cells #[.int .i64 0, .int .i64 0] 29)) := (h6.alloc hz6 _).alloc (by simp; omega) _
        obtain ⟨⟨x0, x1, x2⟩, hr5, -⟩ := HG.out _ h7
        have sm := same8_eq (T := (T : Int)) (N := (N : Int)) hr5 ((h4.boxed (.cells #[.int .i64 (T : Int), .int .i64 (N : Int), .slice qa R.length qc] 24)).boxed (.cells #[.int .i64 0, .int .i64 0] 29)) HL.out.1 HL.out.2
        have HB7 : Hid (Below W1.heap.size W1 ((w3.alloc (.cells #[.int .i64 (T : Int), .int .i64 (N : Int), .slice qa R.length qc] 24)).alloc (.cells #[.int .i64 0, .int .i64 0] 29))) := h7
        clear pa h4 h5 h6 h7 hr5 hz6)
     | (go_at_call 6; refine sm.mono ?_; rintro e w8 ⟨rfl, h8⟩
        have HB8 : Hid (Below W1.heap.size W1 w8) := HB7.out.trans (h8.mono HB7.out.size)
        clear h8 sm))
  go_ret
  exact ⟨rfl, (HG.out w8 HB8.out).2.2⟩

theorem textBack_any {T N : Int} {rv : Value} (hr : RulesAt w w.heap.size rv R) :
    Calls Tryd.prog 3 #[.agg #[.int .i64 T, .int .i64 N, rv]] w fun e w' => e = .returned (.bool true) ∧ Below w.heap.size w w' := by
  obtain ⟨ra, rc, hrv⟩ := hr.1
  subst hrv
  cases hm : mayB T N R with
  | false => exact textBack_no hr hm
  | true =>
    have hh := hm
    simp only [mayB, headB, Bool.and_eq_true, decide_eq_true_eq] at hh
    obtain ⟨t, rfl⟩ : ∃ t : Nat, T = t := ⟨T.toNat, by omega⟩
    obtain ⟨n, rfl⟩ : ∃ n : Nat, N = n := ⟨N.toNat, by omega⟩
    exact textBack_yes hr hm
end
end Go.Proofs.YtdkbbmkbpfgekaaDoor
