/- What is wrong with tokens; what is derived is made of terms. No walk. -/
import Derived.Test.YthmdlaappenjgaaMay1
import Derived.Test.YthmdlaappenjgaaMayFine
import Derived.Test.YthmdlaappenjgaaDerMath
import Derived.Test.YthmdlaappenjgaaLfp
namespace Go.Proofs.Ythmdlaappenjgaa

/-- All tokens are terms. -/
def inB (T : Int) (tok : List Int) : Bool := tok.all fun t => decide (0 ≤ t) && decide (t < T)
/-- E1: the first that applies. -/
def wrongE (T N : Int) (R : List Ru) (tok : List Int) : Int := if mayB T N R = false then 2 else if 30 < tok.length then 1 else if inB T tok = false then 3 else 0

/-- Of a grammar that may be. -/
theorem may_FineR {T N : Nat} {R : List Ru} (h : mayB T N R = true) : Fine T N R := by
  obtain ⟨_, h1, _, _, h5⟩ := may_fine h
  have mem : ∀ r ∈ R, 0 ≤ r.1 ∧ r.1 < (N : Int) ∧ ∀ s ∈ r.2, 0 ≤ s.2 ∧ s.2 < if s.1 then (T : Int) else (N : Int) := fun r hr => by
    obtain ⟨q, hq, rfl⟩ := List.getElem_of_mem hr
    have e : R.getD q (0, []) = R[q] := by simp [List.getD, hq]
    rw [← e]
    exact ⟨(h5 q hq).1, (h5 q hq).2.1, (h5 q hq).2.2.2⟩
  refine ⟨fun r hr => ⟨(mem r hr).1, (mem r hr).2.1⟩, fun r hr s hs hb => ?_, fun r hr s hs hb => ?_, h1⟩
  · have := (mem r hr).2.2 s hs; rw [hb] at this; simpa using this
  · have := (mem r hr).2.2 s hs; rw [hb] at this; simpa using this

end Go.Proofs.Ythmdlaappenjgaa
