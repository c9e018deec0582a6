/- pollardingref1.Through: where the list is a derivation, and where it is none. No walk. -/
import Derived.Test.YtgkikliaadjmiaaThr
namespace Go.Proofs.Ytgkikliaadjmiaa
open Go.RowKit

theorem thr_none {w : World} {T N : Int} {rv dv : Value} {R : List Ru} {D : List Int} (hr : RulesAt w w.heap.size rv R) (hd : ListAt w w.heap.size dv D) (hm : mayB T N R = true) (h : readF R D = none) :
    Calls Try.prog 4 #[.agg #[.int .i64 T, .int .i64 N, rv], dv] w fun e w' => e = .returned noThrough ∧ Below w.heap.size w w' := by
  by_cases hD : 400 < D.length
  · obtain ⟨da, dc, rfl⟩ := hd.1
    exact thr_not hr (.inr hD)
  · refine (thr_main hr hd hm (by omega)).mono ?_
    rintro e w' (⟨st, tv, sv, h1, _⟩ | ⟨_, h2, h3⟩)
    · rw [h] at h1; cases h1
    · exact ⟨h2, h3⟩

theorem thr_some {w : World} {T N : Int} {rv dv : Value} {R : List Ru} {D : List Int} {st : St} (hr : RulesAt w w.heap.size rv R) (hd : ListAt w w.heap.size dv D) (hm : mayB T N R = true) (h : readF R D = some st) :
    Calls Try.prog 4 #[.agg #[.int .i64 T, .int .i64 N, rv], dv] w fun e w' => ∃ ta tc sv, e = .returned (.tuple #[.slice ta st.Y.length tc, sv, .bool true]) ∧ Below w.heap.size w w' ∧
      w'.ownsRow w.heap.size 3 1 (.slice ta st.Y.length tc) st.Y.length (st.Y.map (Value.int .i64)) := by
  have hD : D.length ≤ 400 := by
    unfold readF at h
    split at h
    · cases h
    · omega
  refine (thr_main hr hd hm hD).mono ?_
  rintro e w' (⟨st', tv, sv, h1, h2, h3, h4, _⟩ | ⟨h1, _⟩)
  · rw [h] at h1
    cases h1
    obtain ⟨ta, tc, rfl⟩ := own_form h4
    exact ⟨ta, tc, sv, h2, h3, h4⟩
  · rw [h] at h1; cases h1

end Go.Proofs.Ytgkikliaadjmiaa
