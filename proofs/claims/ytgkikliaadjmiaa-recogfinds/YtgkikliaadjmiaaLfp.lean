/- Plain: the least set that an operator holds, by rounds. No program, no memory. -/
import Derived.Test.YtgkikliaadjmiaaMath
namespace Go.Proofs.Ytgkikliaadjmiaa
open Classical

noncomputable def cnt (N : Nat) (A : Int → Prop) : Nat := ((List.range N).filter fun i => decide (A (i : Nat))).length

/-! ### Sets of grammars -/

/-- All symbols are names of A. -/
def AllN (A : Int → Prop) (l : List Sy) : Prop := ∀ s ∈ l, s.1 = false ∧ A s.2
/-- Symbols may begin with the term t, where names of A may, and those of Nu be nothing. -/
def Beg (Nu A : Int → Prop) (t : Int) (l : List Sy) : Prop := ∃ i s, l[i]? = some s ∧ ((s.1 = true ∧ s.2 = t) ∨ (s.1 = false ∧ A s.2)) ∧ AllN Nu (l.take i)
theorem AllN.mono {A B : Int → Prop} (h : ∀ n, A n → B n) {l : List Sy} (hl : AllN A l) : AllN B l := fun s hs => ⟨(hl s hs).1, h _ (hl s hs).2⟩
theorem Beg.mono {Nu A B : Int → Prop} {t : Int} (h : ∀ n, A n → B n) {l : List Sy} (hl : Beg Nu A t l) : Beg Nu B t l := by
  obtain ⟨i, s, h1, h2, h3⟩ := hl
  refine ⟨i, s, h1, ?_, h3⟩
  rcases h2 with h2 | ⟨h2, h4⟩
  · exact .inl h2
  · exact .inr ⟨h2, h _ h4⟩

/-- What A1 says of a rule's names. -/
structure Fine (T N : Nat) (R : List Ru) : Prop where
  left : ∀ r ∈ R, 0 ≤ r.1 ∧ r.1 < (N : Int)
  name : ∀ r ∈ R, ∀ s ∈ r.2, s.1 = false → 0 ≤ s.2 ∧ s.2 < (N : Int)
  term : ∀ r ∈ R, ∀ s ∈ r.2, s.1 = true → 0 ≤ s.2 ∧ s.2 < (T : Int)
  some : 1 ≤ N

section
variable {T N : Nat} {R : List Ru} (h : Fine T N R)
include h

end

end Go.Proofs.Ytgkikliaadjmiaa
