/- Plain: D2: what a derivation yields is no shorter than what its name can. -/
import Derived.Test.YtolkfmddghkkeaaShortMath
namespace Go.Proofs.Ytolkfmddghkkeaa

section
variable {R : List Ru}

theorem syms_yield {f : Int → St → Option St} (hF : ∀ n st st', f n st = some st' → ∃ v, Can R n v ∧ (st.Y.length : Int) + v ≤ st'.Y.length) :
    ∀ (l : List Sy) (st st' : St), symsF f l st = some st' → ∃ s, SumR (Can R) l s ∧ (st.Y.length : Int) + s ≤ st'.Y.length := by
  intro l
  induction l with
  | nil =>
    intro st st' h
    simp only [symsF, Option.some.injEq] at h
    subst h
    exact ⟨0, rfl, by omega⟩
  | cons s l ih =>
    intro st st' h
    obtain ⟨b, v⟩ := s
    cases b with
    | true =>
      simp only [symsF] at h
      obtain ⟨s, h1, h2⟩ := ih _ _ h
      simp only [List.length_append, List.length_cons, List.length_nil] at h2
      exact ⟨1 + s, ⟨s, h1, rfl⟩, by omega⟩
    | false =>
      simp only [symsF] at h
      split at h
      · cases h
      · rename_i st1 h1
        obtain ⟨a, a1, a2⟩ := hF _ _ _ h1
        obtain ⟨s, b1, b2⟩ := ih _ _ h
        exact ⟨a + s, ⟨a, s, a1, b1, rfl⟩, by omega⟩

theorem name_yield {D : List Int} : ∀ (k : Nat) (n : Int) (st st' : St), nameF R D k n st = some st' → ∃ v, Can R n v ∧ (st.Y.length : Int) + v ≤ st'.Y.length := by
  intro k
  induction k with
  | zero => intro n st st' h; cases h
  | succ k ih =>
    intro n st st' h
    rw [nameF] at h
    split at h
    · cases h
    · rename_i q hq
      obtain ⟨_, hqR, hL⟩ := nextF_some hq
      have hmem : R.getD q (0, []) ∈ R := by simp [List.getD, hqR]
      split at h
      · cases h
      · rename_i st1 h1
        simp only [Option.some.injEq] at h
        subst h
        obtain ⟨s, a1, a2⟩ := syms_yield ih _ _ _ h1
        simp only at a2 ⊢
        refine ⟨min s lid, by rw [← hL]; exact Can_step hmem a1, by omega⟩

/-- D2. -/
theorem read_yield {D : List Int} {st : St} (h : readF R D = some st) : ∃ v, Can R 0 v ∧ v ≤ st.Y.length := by
  unfold readF at h
  split at h
  · cases h
  · split at h
    · cases h
    · rename_i st1 h1
      split at h
      · cases h
      · simp only [Option.some.injEq] at h
        subst h
        obtain ⟨v, h2, h3⟩ := name_yield _ _ _ _ h1
        exact ⟨v, h2, by simpa using h3⟩
end

end Go.Proofs.Ytolkfmddghkkeaa
