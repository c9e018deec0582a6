/- Plain: what a name derives, as lists of tokens; what derivations yield is derived; how parts of tokens are put together. No program. -/
import Derived.Test.YtgkikliaadjmiaaMath
namespace Go.Proofs.Ytgkikliaadjmiaa

/-- Symbols become tokens, where names become what A says. -/
def SeqD (A : Int → List Int → Prop) : List Sy → List Int → Prop
  | [], Z => Z = []
  | (true, v) :: l, Z => ∃ Z', Z = v :: Z' ∧ SeqD A l Z'
  | (false, n) :: l, Z => ∃ Z1 Z2, Z = Z1 ++ Z2 ∧ A n Z1 ∧ SeqD A l Z2
def DerF (R : List Ru) (A : Int → List Int → Prop) (n : Int) (Z : List Int) : Prop := ∃ r ∈ R, r.1 = n ∧ SeqD A r.2 Z
def DerL (R : List Ru) : Nat → Int → List Int → Prop
  | 0, _, _ => False
  | k + 1, n, Z => DerF R (DerL R k) n Z
/-- There is a derivation of the name n, however long, that yields Z. -/
def Der (R : List Ru) (n : Int) (Z : List Int) : Prop := ∃ k, DerL R k n Z

theorem SeqD.mono {A B : Int → List Int → Prop} (h : ∀ n Z, A n Z → B n Z) : ∀ {l : List Sy} {Z : List Int}, SeqD A l Z → SeqD B l Z := by
  intro l
  induction l with
  | nil => intro Z hZ; exact hZ
  | cons s l ih =>
    intro Z hZ
    obtain ⟨b, n⟩ := s
    cases b with
    | true => obtain ⟨Z', h1, h2⟩ := hZ; exact ⟨Z', h1, ih h2⟩
    | false => obtain ⟨Z1, Z2, h1, h2, h3⟩ := hZ; exact ⟨Z1, Z2, h1, h _ _ h2, ih h3⟩

theorem DerF.mono {R : List Ru} {A B : Int → List Int → Prop} (h : ∀ n Z, A n Z → B n Z) {n : Int} {Z : List Int} (hZ : DerF R A n Z) : DerF R B n Z := by
  obtain ⟨r, h1, h2, h3⟩ := hZ
  exact ⟨r, h1, h2, h3.mono h⟩

theorem DerL_succ {R : List Ru} : ∀ k n Z, DerL R k n Z → DerL R (k + 1) n Z := by
  intro k
  induction k with
  | zero => intro n Z h; exact h.elim
  | succ k ih => intro n Z h; exact DerF.mono ih h
theorem DerL_le {R : List Ru} {k m : Nat} (h : k ≤ m) : ∀ n Z, DerL R k n Z → DerL R m n Z := by
  induction h with
  | refl => intro n Z h; exact h
  | step _ ih => intro n Z h; exact DerL_succ _ _ _ (ih n Z h)

theorem SeqD_level {R : List Ru} : ∀ {l : List Sy} {Z : List Int}, SeqD (Der R) l Z → ∃ k, SeqD (DerL R k) l Z := by
  intro l
  induction l with
  | nil => intro Z h; exact ⟨0, h⟩
  | cons s l ih =>
    intro Z h
    obtain ⟨b, n⟩ := s
    cases b with
    | true =>
      obtain ⟨Z', h1, h2⟩ := h
      obtain ⟨k, hk⟩ := ih h2
      exact ⟨k, Z', h1, hk⟩
    | false =>
      obtain ⟨Z1, Z2, h1, ⟨m, h2⟩, h3⟩ := h
      obtain ⟨k, hk⟩ := ih h3
      exact ⟨max m k, Z1, Z2, h1, DerL_le (Nat.le_max_left _ _) _ _ h2, hk.mono (DerL_le (Nat.le_max_right _ _))⟩

theorem Der_step {R : List Ru} {r : Ru} (hr : r ∈ R) {Z : List Int} (h : SeqD (Der R) r.2 Z) : Der R r.1 Z := by
  obtain ⟨k, hk⟩ := SeqD_level h
  exact ⟨k + 1, r, hr, rfl, hk⟩

/-! ### What a derivation yields is derived -/

section
variable {R : List Ru}

theorem syms_der {f : Int → St → Option St} (hF : ∀ n st st', f n st = some st' → ∃ Z, st'.Y = st.Y ++ Z ∧ Der R n Z) :
    ∀ (l : List Sy) (st st' : St), symsF f l st = some st' → ∃ Z, st'.Y = st.Y ++ Z ∧ SeqD (Der R) l Z := by
  intro l
  induction l with
  | nil =>
    intro st st' h
    simp only [symsF, Option.some.injEq] at h
    subst h
    exact ⟨[], by simp, rfl⟩
  | cons s l ih =>
    intro st st' h
    obtain ⟨b, v⟩ := s
    cases b with
    | true =>
      simp only [symsF] at h
      obtain ⟨Z, h1, h2⟩ := ih _ _ h
      exact ⟨v :: Z, by rw [h1]; simp, Z, rfl, h2⟩
    | false =>
      simp only [symsF] at h
      split at h
      · cases h
      · rename_i st1 h1
        obtain ⟨Z1, a1, a2⟩ := hF _ _ _ h1
        obtain ⟨Z2, b1, b2⟩ := ih _ _ h
        exact ⟨Z1 ++ Z2, by rw [b1, a1, List.append_assoc], Z1, Z2, rfl, a2, b2⟩

theorem name_der {D : List Int} : ∀ (k : Nat) (n : Int) (st st' : St), nameF R D k n st = some st' → ∃ Z, st'.Y = st.Y ++ Z ∧ Der R n Z := by
  intro k
  induction k with
  | zero => intro n st st' h; cases h
  | succ k ih =>
    intro n st st' h
    rw [nameF] at h
    split at h
    · cases h
    · rename_i q hq
      obtain ⟨_, hqR, hL⟩ := nextF_some hq
      have hmem : R.getD q (0, []) ∈ R := by simp [List.getD, hqR]
      split at h
      · cases h
      · rename_i st1 h1
        simp only [Option.some.injEq] at h
        subst h
        obtain ⟨Z, a1, a2⟩ := syms_der ih _ _ _ h1
        exact ⟨Z, a1, by rw [← hL]; exact Der_step hmem a2⟩

theorem read_der {D : List Int} {st : St} (h : readF R D = some st) : Der R 0 st.Y := by
  unfold readF at h
  split at h
  · cases h
  · split at h
    · cases h
    · rename_i st1 h1
      split at h
      · cases h
      · simp only [Option.some.injEq] at h
        subst h
        obtain ⟨Z, h2, h3⟩ := name_der _ _ _ _ h1
        simp only [List.nil_append] at h2
        rw [h2]
        exact h3
end

/-! ### Parts of the tokens -/

/-- The tokens from i to below j. -/
def part (tok : List Int) (i j : Nat) : List Int := (tok.drop i).take (j - i)

theorem part_self (tok : List Int) (i : Nat) : part tok i i = [] := by simp [part]
theorem part_all (tok : List Int) : part tok 0 tok.length = tok := by simp [part]
theorem part_len {tok : List Int} {i j : Nat} (h : i ≤ j) (hj : j ≤ tok.length) : (part tok i j).length = j - i := by
  simp [part]
  omega
theorem part_cons {tok : List Int} {i j : Nat} (h : i < j) (hj : j ≤ tok.length) : part tok i j = tok.getD i 0 :: part tok (i + 1) j := by
  have hi : i < tok.length := by omega
  unfold part
  rw [List.drop_eq_getElem_cons hi, show j - i = (j - (i + 1)) + 1 by omega, List.take_succ_cons]
  simp [List.getD, hi]
theorem part_append {tok : List Int} {i m j : Nat} (h1 : i ≤ m) (h2 : m ≤ j) : part tok i j = part tok i m ++ part tok m j := by
  unfold part
  have e : tok.drop m = (tok.drop i).drop (m - i) := by rw [List.drop_drop]; congr 1; omega
  rw [e, show j - i = (m - i) + (j - m) by omega, List.take_add]
/-- A part's beginning is a part. -/
theorem part_split {tok Z1 Z2 : List Int} {i j : Nat} (h : i ≤ j) (hj : j ≤ tok.length) (e : part tok i j = Z1 ++ Z2) : i + Z1.length ≤ j ∧ Z1 = part tok i (i + Z1.length) ∧ Z2 = part tok (i + Z1.length) j := by
  have hl := part_len h hj
  have hl2 : Z1.length + Z2.length = j - i := by rw [← hl, e]; simp
  have hle : i + Z1.length ≤ j := by omega
  have e2 := part_append (tok := tok) (i := i) (m := i + Z1.length) (j := j) (by omega) hle
  rw [e] at e2
  have hl3 : (part tok i (i + Z1.length)).length = Z1.length := by rw [part_len (by omega) (by omega)]; omega
  obtain ⟨a, b⟩ := List.append_inj e2 hl3.symm
  exact ⟨hle, a, b⟩

/-- A symbol leads from i to m, by what is known of names. -/
def Mv (K : Nat → Nat → Nat → Bool) (tok : List Int) (upto : Nat) (s : Sy) (i m : Nat) : Prop :=
  (s.1 = true ∧ i < upto ∧ m = i + 1 ∧ tok.getD i 0 = s.2) ∨ (s.1 = false ∧ i ≤ m ∧ m ≤ upto ∧ K i m s.2.toNat = true)
def Rch (K : Nat → Nat → Nat → Bool) (tok : List Int) (upto : Nat) : List Sy → Nat → Nat → Prop
  | [], i, x => i = x
  | s :: l, i, x => ∃ m, Mv K tok upto s i m ∧ Rch K tok upto l m x

section
variable {K : Nat → Nat → Nat → Bool} {tok : List Int} {upto : Nat}

theorem Mv.le {s : Sy} {i m : Nat} (h : Mv K tok upto s i m) : i ≤ m ∧ m ≤ upto := by
  rcases h with ⟨_, h1, h2, _⟩ | ⟨_, h1, h2, _⟩ <;> omega
theorem Rch.le {l : List Sy} {i x : Nat} (h : Rch K tok upto l i x) (hi : i ≤ upto) : i ≤ x ∧ x ≤ upto := by
  induction l generalizing i with
  | nil => have : i = x := h; omega
  | cons s l ih =>
    obtain ⟨m, h1, h2⟩ := h
    have := h1.le
    have := ih h2 this.2
    omega

end

end Go.Proofs.Ytgkikliaadjmiaa
