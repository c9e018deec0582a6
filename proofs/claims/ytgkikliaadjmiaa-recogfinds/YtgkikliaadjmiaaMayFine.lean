/- What may be, as bounds. No walk. -/
import Derived.Test.YtgkikliaadjmiaaMay1
import Derived.Test.YtgkikliaadjmiaaBits
import Derived.Deep.RegionLaw
import Derived.Deep.RegionWith
import Derived.Deep.Cut
import Derived.Deep.CutRange
import Derived.Deep.DrawnRows
namespace Go.Proofs.Ytgkikliaadjmiaa
open Go.RowKit

/-- What may be, as bounds. -/
theorem may_fine {T N : Nat} {R : List Ru} (h : mayB T N R = true) : T ≤ 8 ∧ 1 ≤ N ∧ N ≤ 12 ∧ R.length ≤ 40 ∧
    ∀ i, i < R.length → 0 ≤ (R.getD i (0, [])).1 ∧ (R.getD i (0, [])).1 < (N : Int) ∧ (R.getD i (0, [])).2.length ≤ 8 ∧
      ∀ s ∈ (R.getD i (0, [])).2, 0 ≤ s.2 ∧ s.2 < if s.1 then (T : Int) else (N : Int) := by
  simp only [mayB, headB, Bool.and_eq_true, decide_eq_true_eq] at h
  obtain ⟨⟨h1, h2, h3, h4, h5⟩, h6⟩ := h
  refine ⟨by omega, by omega, by omega, h5, fun i hi => ?_⟩
  have h7 := List.all_eq_true.1 h6 (R.getD i (0, [])) (by simp [List.getD, hi])
  simp only [ruleB, Bool.and_eq_true, decide_eq_true_eq] at h7
  refine ⟨h7.1.1, h7.1.2.1, h7.1.2.2, fun s hs => ?_⟩
  have h8 := List.all_eq_true.1 h7.2 s hs
  simpa [symB] using h8

end Go.Proofs.Ytgkikliaadjmiaa
