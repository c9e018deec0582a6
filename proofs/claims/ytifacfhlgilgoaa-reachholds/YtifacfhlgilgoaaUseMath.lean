/- Plain: C2: each rule of a derivation of the name 0 has a Left that makes and comes. -/
import Derived.Test.YtifacfhlgilgoaaLfp3
namespace Go.Proofs.Ytifacfhlgilgoaa

section
variable {T N : Nat} {R : List Ru} (hf : Fine T N R)
include hf

/-- The numbers from a to below b are those of rules whose Left makes and comes. -/
def Used (N : Nat) (R : List Ru) (D : List Int) (a b : Nat) : Prop := ∀ p, a ≤ p → p < b → ∃ q : Nat, D[p]? = some (q : Int) ∧ q < R.length ∧ MakesP N R (R.getD q (0, [])).1 ∧ ComesP N R (R.getD q (0, [])).1

omit hf in
theorem Used.join {D : List Int} {a b c : Nat} (h : Used N R D a b) (k : Used N R D b c) : Used N R D a c := fun p h1 h2 => by
  by_cases hp : p < b
  · exact h p h1 hp
  · exact k p (by omega) h2

theorem syms_used {D : List Int} {f : Int → St → Option St} (hF : ∀ n st st', f n st = some st' → MakesP N R n ∧ st.pos ≤ st'.pos ∧ (ComesP N R n → Used N R D st.pos st'.pos)) :
    ∀ (l : List Sy) (st st' : St), symsF f l st = some st' → AllM (MakesP N R) l ∧ st.pos ≤ st'.pos ∧ ((∀ n : Int, (false, n) ∈ l → ComesP N R n) → Used N R D st.pos st'.pos) := by
  have _ := hf
  intro l
  induction l with
  | nil =>
    intro st st' h
    simp only [symsF, Option.some.injEq] at h
    subst h
    exact ⟨fun s hs => (by cases hs), Nat.le_refl _, fun _ p h1 h2 => by omega⟩
  | cons s l ih =>
    intro st st' h
    obtain ⟨b, v⟩ := s
    cases b with
    | true =>
      simp only [symsF] at h
      obtain ⟨h1, h2, h3⟩ := ih _ _ h
      refine ⟨fun s hs hb => ?_, h2, fun hc => h3 fun n hn => hc n (List.mem_cons_of_mem _ hn)⟩
      rcases List.mem_cons.1 hs with rfl | hs
      · cases hb
      · exact h1 s hs hb
    | false =>
      simp only [symsF] at h
      split at h
      · cases h
      · rename_i st1 h1
        obtain ⟨a1, a2, a3⟩ := hF _ _ _ h1
        obtain ⟨b1, b2, b3⟩ := ih _ _ h
        refine ⟨fun s hs hb => ?_, Nat.le_trans a2 b2, fun hc => (a3 (hc v (by simp))).join (b3 fun n hn => hc n (List.mem_cons_of_mem _ hn))⟩
        rcases List.mem_cons.1 hs with rfl | hs
        · exact a1
        · exact b1 s hs hb

theorem name_used {D : List Int} : ∀ (k : Nat) (n : Int) (st st' : St), nameF R D k n st = some st' → MakesP N R n ∧ st.pos ≤ st'.pos ∧ (ComesP N R n → Used N R D st.pos st'.pos) := by
  intro k
  induction k with
  | zero => intro n st st' h; cases h
  | succ k ih =>
    intro n st st' h
    rw [nameF] at h
    split at h
    · cases h
    · rename_i q hq
      obtain ⟨hD, hqR, hL⟩ := nextF_some hq
      have hmem : R.getD q (0, []) ∈ R := mem_getD hqR
      split at h
      · cases h
      · rename_i st1 h1
        simp only [Option.some.injEq] at h
        subst h
        obtain ⟨a1, a2, a3⟩ := syms_used hf ih _ _ _ h1
        simp only at a2 a3 ⊢
        have hm : MakesP N R n := Lv_closed (MakesF_mono hf) _ ⟨_, hmem, hL, a1⟩
        refine ⟨hm, by omega, fun hc => ?_⟩
        have hu := a3 fun m hm' => Lv_closed (ComesF_mono hf _) _ (.inr ⟨_, hmem, hm', a1, by rw [hL]; exact hc⟩)
        intro p h2 h3
        by_cases hp : p = st.pos
        · subst hp
          exact ⟨q, hD, hqR, by rw [hL]; exact hm, by rw [hL]; exact hc⟩
        · exact hu p (by omega) h3

/-- C2. -/
theorem read_used {D : List Int} {st : St} (h : readF R D = some st) : Used N R D 0 D.length := by
  unfold readF at h
  split at h
  · cases h
  · split at h
    · cases h
    · rename_i st1 h1
      split at h
      · cases h
      · obtain ⟨a1, _, a3⟩ := name_used hf _ _ _ _ h1
        have := a3 (Lv_closed (ComesF_mono hf _) _ (.inl ⟨rfl, a1⟩))
        exact fun p h2 h3 => this p h2 (by omega)
end

end Go.Proofs.Ytifacfhlgilgoaa
