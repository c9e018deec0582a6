/- Plain lists and numbers: what the reader of package gram makes of a list of rules' numbers, and what is true of the spans that it lays. No program, no memory. -/

namespace Go.Proofs.Ythmdlaappenjgaa

/-- A symbol: is it a term; its number. -/
abbrev Sy := Bool × Int
/-- A rule: its Left; its Right. -/
abbrev Ru := Int × List Sy
/-- A span: rule, from, to. -/
abbrev Sp := Int × Nat × Nat

/-- What holds of the spans T that were laid while the numbers from a on were taken, and the yield grew from lo to hi. -/
def Seg (D : List Int) (a lo hi : Nat) (T : List Sp) : Prop :=
  ∀ i t, T[i]? = some t → D[a + i]? = some t.1 ∧ lo ≤ t.2.1 ∧ t.2.1 ≤ t.2.2 ∧ t.2.2 ≤ hi ∧ ∀ j u, j + 1 = i → T[j]? = some u → u.2.1 ≤ t.2.1

theorem Seg.nil (D : List Int) (a lo hi : Nat) : Seg D a lo hi [] := by
  intro i t h
  simp at h

theorem Seg.cons {D : List Int} {a lo hi : Nat} {q : Int} {T : List Sp} (hq : D[a]? = some q) (h : Seg D (a + 1) lo hi T) (h1 : lo ≤ hi) : Seg D a lo hi ((q, lo, hi) :: T) := by
  intro i t ht
  cases i with
  | zero =>
    simp only [List.getElem?_cons_zero, Option.some.injEq] at ht
    subst ht
    exact ⟨by simpa using hq, Nat.le_refl _, h1, Nat.le_refl _, fun j u hj _ => by omega⟩
  | succ i =>
    simp only [List.getElem?_cons_succ] at ht
    obtain ⟨a1, a2, a3, a4, a5⟩ := h i t ht
    refine ⟨by rw [← a1]; congr 1; omega, a2, a3, a4, fun j u hj hu => ?_⟩
    cases j with
    | zero =>
      simp only [List.getElem?_cons_zero, Option.some.injEq] at hu
      subst hu
      exact a2
    | succ j =>
      simp only [List.getElem?_cons_succ] at hu
      exact a5 j u (by omega) hu

end Go.Proofs.Ythmdlaappenjgaa
