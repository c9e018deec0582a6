/- Plain: what a derivation yields is foreseen: nothing, where its name is Null; else its first token is in First of its name. -/
import Derived.Test.YtgdpljpnifciaaaLfp
namespace Go.Proofs.Ytgdpljpnifciaaa

section
variable {T N : Nat} {R : List Ru} (hf : Fine T N R)
include hf

/-- What has been yielded since: nothing, and all names are Null; or the first of it is one with which the symbols may begin. -/
def Foreseen (N : Nat) (R : List Ru) (Z : List Int) (l : List Sy) : Prop := (Z = [] → AllN (NullP N R) l) ∧ ∀ t z, Z = t :: z → Beg (NullP N R) (FirstP N R t) t l

omit hf in
theorem Beg.cons {Nu A : Int → Prop} {t : Int} {s : Sy} {l : List Sy} (h1 : s.1 = false) (h2 : Nu s.2) (h : Beg Nu A t l) : Beg Nu A t (s :: l) := by
  obtain ⟨i, x, a1, a2, a3⟩ := h
  refine ⟨i + 1, x, by simpa using a1, a2, fun y hy => ?_⟩
  simp only [List.take_succ_cons, List.mem_cons] at hy
  rcases hy with rfl | hy
  · exact ⟨h1, h2⟩
  · exact a3 y hy

theorem syms_foreseen {f : Int → St → Option St} (hF : ∀ n st st', f n st = some st' → ∃ Z, st'.Y = st.Y ++ Z ∧ (Z = [] → NullP N R n) ∧ ∀ t z, Z = t :: z → FirstP N R t n) :
    ∀ (l : List Sy) (st st' : St), symsF f l st = some st' → ∃ Z, st'.Y = st.Y ++ Z ∧ Foreseen N R Z l := by
  have _ := hf
  intro l
  induction l with
  | nil =>
    intro st st' h
    simp only [symsF, Option.some.injEq] at h
    subst h
    exact ⟨[], by simp, ⟨fun _ s hs => (by cases hs), fun t z h => (by cases h)⟩⟩
  | cons s l ih =>
    intro st st' h
    obtain ⟨b, v⟩ := s
    cases b with
    | true =>
      simp only [symsF] at h
      obtain ⟨Z, hZ, _⟩ := ih _ _ h
      refine ⟨v :: Z, by rw [hZ]; simp, ⟨fun h => (by cases h), fun t z h => ?_⟩⟩
      cases h
      exact ⟨0, (true, v), rfl, .inl ⟨rfl, rfl⟩, fun y hy => by simp at hy⟩
    | false =>
      simp only [symsF] at h
      split at h
      · cases h
      · rename_i st1 h1
        obtain ⟨Z1, e1, n1, t1⟩ := hF _ _ _ h1
        obtain ⟨Z2, e2, n2, t2⟩ := ih _ _ h
        refine ⟨Z1 ++ Z2, by rw [e2, e1, List.append_assoc], ⟨fun h => ?_, fun t z h => ?_⟩⟩
        · obtain ⟨h3, h4⟩ := List.append_eq_nil_iff.1 h
          intro y hy
          rcases List.mem_cons.1 hy with rfl | hy
          · exact ⟨rfl, n1 h3⟩
          · exact n2 h4 y hy
        · cases Z1 with
          | nil => exact (t2 t z (by simpa using h)).cons rfl (n1 rfl)
          | cons a Z1 =>
            simp only [List.cons_append, List.cons.injEq] at h
            obtain ⟨rfl, _⟩ := h
            exact ⟨0, (false, v), rfl, .inr ⟨rfl, t1 a Z1 rfl⟩, fun y hy => by simp at hy⟩

theorem name_foreseen {D : List Int} : ∀ (k : Nat) (n : Int) (st st' : St), nameF R D k n st = some st' → ∃ Z, st'.Y = st.Y ++ Z ∧ (Z = [] → NullP N R n) ∧ ∀ t z, Z = t :: z → FirstP N R t n := by
  intro k
  induction k with
  | zero => intro n st st' h; cases h
  | succ k ih =>
    intro n st st' h
    rw [nameF] at h
    split at h
    · cases h
    · rename_i q hq
      obtain ⟨_, hqR, hL⟩ := nextF_some hq
      have hmem : R.getD q (0, []) ∈ R := by simp [List.getD, hqR]
      split at h
      · cases h
      · rename_i st1 h1
        simp only [Option.some.injEq] at h
        subst h
        obtain ⟨Z, e, f1, f2⟩ := syms_foreseen hf ih _ _ _ h1
        exact ⟨Z, e, fun hz => Lv_closed (NullF_mono hf) _ ⟨_, hmem, hL, f1 hz⟩, fun t z hz => Lv_closed (FirstF_mono hf _ _) _ ⟨_, hmem, hL, f2 t z hz⟩⟩

/-- B2. -/
theorem read_foreseen {D : List Int} {st : St} (h : readF R D = some st) : (st.Y = [] → NullP N R 0) ∧ ∀ t z, st.Y = t :: z → FirstP N R t 0 := by
  unfold readF at h
  split at h
  · cases h
  · split at h
    · cases h
    · rename_i st1 h1
      split at h
      · cases h
      · simp only [Option.some.injEq] at h
        subst h
        obtain ⟨Z, e, f1, f2⟩ := name_foreseen hf _ _ _ _ h1
        simp only [List.nil_append] at e
        rw [e]
        exact ⟨f1, f2⟩

/-- All tokens are terms of the grammar. -/
theorem syms_terms {f : Int → St → Option St} (hF : ∀ n st st', f n st = some st' → (∀ t ∈ st.Y, 0 ≤ t ∧ t < (T : Int)) → ∀ t ∈ st'.Y, 0 ≤ t ∧ t < (T : Int)) :
    ∀ (l : List Sy), (∀ s ∈ l, s.1 = true → 0 ≤ s.2 ∧ s.2 < (T : Int)) → ∀ (st st' : St), symsF f l st = some st' → (∀ t ∈ st.Y, 0 ≤ t ∧ t < (T : Int)) → ∀ t ∈ st'.Y, 0 ≤ t ∧ t < (T : Int) := by
  have _ := hf
  intro l
  induction l with
  | nil =>
    intro _ st st' h hY
    simp only [symsF, Option.some.injEq] at h
    subst h
    exact hY
  | cons s l ih =>
    intro hl st st' h hY
    have hl' : ∀ s ∈ l, s.1 = true → 0 ≤ s.2 ∧ s.2 < (T : Int) := fun s hs => hl s (List.mem_cons_of_mem _ hs)
    obtain ⟨b, v⟩ := s
    cases b with
    | true =>
      simp only [symsF] at h
      refine ih hl' _ _ h fun t ht => ?_
      simp only [List.mem_append, List.mem_singleton] at ht
      rcases ht with ht | rfl
      · exact hY t ht
      · exact hl (true, t) (by simp) rfl
    | false =>
      simp only [symsF] at h
      split at h
      · cases h
      · rename_i st1 h1
        exact ih hl' _ _ h (hF _ _ _ h1 hY)

theorem name_terms {D : List Int} : ∀ (k : Nat) (n : Int) (st st' : St), nameF R D k n st = some st' → (∀ t ∈ st.Y, 0 ≤ t ∧ t < (T : Int)) → ∀ t ∈ st'.Y, 0 ≤ t ∧ t < (T : Int) := by
  intro k
  induction k with
  | zero => intro n st st' h; cases h
  | succ k ih =>
    intro n st st' h hY
    rw [nameF] at h
    split at h
    · cases h
    · rename_i q hq
      obtain ⟨_, hqR, _⟩ := nextF_some hq
      have hmem : R.getD q (0, []) ∈ R := by simp [List.getD, hqR]
      split at h
      · cases h
      · rename_i st1 h1
        simp only [Option.some.injEq] at h
        subst h
        have := syms_terms hf ih _ (fun s hs hb => hf.term _ hmem s hs hb) _ _ h1 hY
        exact this

theorem read_terms {D : List Int} {st : St} (h : readF R D = some st) : ∀ t ∈ st.Y, 0 ≤ t ∧ t < (T : Int) := by
  unfold readF at h
  split at h
  · cases h
  · split at h
    · cases h
    · rename_i st1 h1
      split at h
      · cases h
      · simp only [Option.some.injEq] at h
        subst h
        exact name_terms hf _ _ _ _ h1 (fun t ht => by cases ht)
end

end Go.Proofs.Ytgdpljpnifciaaa
