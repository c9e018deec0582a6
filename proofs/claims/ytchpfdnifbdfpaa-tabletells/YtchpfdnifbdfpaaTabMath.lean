/- Plain: a table in plain words (F3). No program. -/
import Derived.Test.YtchpfdnifbdfpaaSpreadMathAndLooksMath
import Derived.Test.YtchpfdnifbdfpaaSets2Math
import Derived.Test.YtchpfdnifbdfpaaTab6
namespace Go.Proofs.Ytchpfdnifbdfpaa

section
open Classical
/-- A rule is read whole in the state k, and has t as lookahead. -/
def DoneP (T N : Nat) (R : List Ru) (NL : List (List Int)) (Ls : List SetI) (k t n : Nat) : Prop := Ls.getD k noS (n, (rightF R n).length) ∧ LookQ T R (nullA R N) (firstA R (nullA R N) T N) NL Ls k (n, (rightF R n).length) t
noncomputable def cellP (T N : Nat) (R : List Ru) (NL : List (List Int)) (Ls : List SetI) (k t : Nat) : Ce :=
  (if t < T then (NL.getD k []).getD t 0 else -1, ((List.range R.length).filter fun n => decide (DoneP T N R NL Ls k t n)).map fun n => ((n : Nat) : Int), decide (DoneP T N R NL Ls k t R.length))
noncomputable def rowP (T N : Nat) (R : List Ru) (NL : List (List Int)) (Ls : List SetI) (k : Nat) : List Ce := (List.range (T + 1)).map (cellP T N R NL Ls k)
/-- F3: the table, where there are K states. -/
noncomputable def tabC (T N : Nat) (R : List Ru) (K : Nat) : List (List Ce) := (List.range K).map (rowP T N R (allN T N R K).1 (allN T N R K).2)
noncomputable def tabG (T N : Nat) (R : List Ru) (K : Nat) : List (List Int) := (List.range K).map fun k => ((allN T N R K).1.getD k []).drop T

end

theorem num_in {T N : Nat} {R : List Ru} (hf : Fine T N R) {r : Nat} (hr : r ≤ R.length) : ∀ s ∈ rightF R r, (0 ≤ numF T s ∧ numF T s < (T : Int) + N) ∧ (s.1 = false → 0 ≤ s.2 ∧ s.2 < (N : Int)) := fun s hs => by
  have hN := hf.some
  unfold rightF at hs
  split at hs
  · simp only [List.mem_singleton] at hs
    subst hs
    simp [numF]
    omega
  · have hm : R.getD r (0, []) ∈ R := by simp [List.getD, show r < R.length by omega]
    obtain ⟨t, v⟩ := s
    cases t with
    | true => have := hf.term _ hm _ hs rfl; simp only [numF, if_true] at this ⊢; exact ⟨by omega, fun h => (nomatch h)⟩
    | false => have := hf.name _ hm _ hs rfl; simp only [numF, Bool.false_eq_true, if_false] at this ⊢; exact ⟨by omega, fun _ => this⟩

end Go.Proofs.Ytchpfdnifbdfpaa
