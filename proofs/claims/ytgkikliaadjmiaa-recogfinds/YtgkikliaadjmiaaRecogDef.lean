/- What is wrong with tokens; what is derived is made of terms. No walk. -/
import Derived.Test.YtgkikliaadjmiaaMay1
import Derived.Test.YtgkikliaadjmiaaMayFine
import Derived.Test.YtgkikliaadjmiaaDerMath
import Derived.Test.YtgkikliaadjmiaaLfp
namespace Go.Proofs.Ytgkikliaadjmiaa

/-- All tokens are terms. -/
def inB (T : Int) (tok : List Int) : Bool := tok.all fun t => decide (0 ≤ t) && decide (t < T)
/-- E1: the first that applies. -/
def wrongE (T N : Int) (R : List Ru) (tok : List Int) : Int := if mayB T N R = false then 2 else if 30 < tok.length then 1 else if inB T tok = false then 3 else 0

/-- What is derived is made of terms. -/
theorem der_terms {T : Int} {R : List Ru} (hR : ∀ r ∈ R, ∀ s ∈ r.2, s.1 = true → 0 ≤ s.2 ∧ s.2 < T) : ∀ k n Z, DerL R k n Z → ∀ t ∈ Z, 0 ≤ t ∧ t < T := by
  intro k
  induction k with
  | zero => intro n Z h; exact h.elim
  | succ k ih =>
    rintro n Z ⟨r, hr, _, hs⟩
    have main : ∀ (l : List Sy) (Z : List Int), (∀ s ∈ l, s.1 = true → 0 ≤ s.2 ∧ s.2 < T) → SeqD (DerL R k) l Z → ∀ t ∈ Z, 0 ≤ t ∧ t < T := by
      intro l
      induction l with
      | nil => intro Z _ h t ht; have e : Z = [] := h; rw [e] at ht; cases ht
      | cons s l ihl =>
        intro Z hl h t ht
        obtain ⟨b, v⟩ := s
        cases b with
        | true =>
          obtain ⟨Z', rfl, h2⟩ := h
          rcases List.mem_cons.1 ht with rfl | ht
          · exact hl (true, t) (by simp) rfl
          · exact ihl Z' (fun s hs => hl s (by simp [hs])) h2 t ht
        | false =>
          obtain ⟨Z1, Z2, rfl, h2, h3⟩ := h
          rcases List.mem_append.1 ht with ht | ht
          · exact ih v Z1 h2 t ht
          · exact ihl Z2 (fun s hs => hl s (by simp [hs])) h3 t ht
    exact main r.2 Z (hR r hr) hs

theorem der_in {T N : Nat} {R : List Ru} (hm : mayB T N R = true) {n : Int} {Z : List Int} (h : Der R n Z) : inB T Z = true := by
  obtain ⟨_, _, _, _, h5⟩ := may_fine hm
  obtain ⟨k, hk⟩ := h
  unfold inB
  rw [List.all_eq_true]
  intro t ht
  have := der_terms (T := T) (R := R) (fun r hr s hs hb => by
    obtain ⟨q, hq, rfl⟩ := List.getElem_of_mem hr
    have e : R.getD q (0, []) = R[q] := by simp [List.getD, hq]
    have h6 := (h5 q hq).2.2.2 s (by rw [e]; exact hs)
    rw [hb] at h6
    simpa using h6) k n Z hk t ht
  simpa using this

end Go.Proofs.Ytgkikliaadjmiaa
