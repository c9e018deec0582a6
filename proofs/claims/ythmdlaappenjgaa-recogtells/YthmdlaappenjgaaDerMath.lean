/- Plain: what a name derives, as lists of tokens; what derivations yield is derived; how parts of tokens are put together. No program. -/
import Derived.Test.YthmdlaappenjgaaMath
namespace Go.Proofs.Ythmdlaappenjgaa

/-- Symbols become tokens, where names become what A says. -/
def SeqD (A : Int → List Int → Prop) : List Sy → List Int → Prop
  | [], Z => Z = []
  | (true, v) :: l, Z => ∃ Z', Z = v :: Z' ∧ SeqD A l Z'
  | (false, n) :: l, Z => ∃ Z1 Z2, Z = Z1 ++ Z2 ∧ A n Z1 ∧ SeqD A l Z2
def DerF (R : List Ru) (A : Int → List Int → Prop) (n : Int) (Z : List Int) : Prop := ∃ r ∈ R, r.1 = n ∧ SeqD A r.2 Z
def DerL (R : List Ru) : Nat → Int → List Int → Prop
  | 0, _, _ => False
  | k + 1, n, Z => DerF R (DerL R k) n Z
/-- There is a derivation of the name n, however long, that yields Z. -/
def Der (R : List Ru) (n : Int) (Z : List Int) : Prop := ∃ k, DerL R k n Z

theorem SeqD.mono {A B : Int → List Int → Prop} (h : ∀ n Z, A n Z → B n Z) : ∀ {l : List Sy} {Z : List Int}, SeqD A l Z → SeqD B l Z := by
  intro l
  induction l with
  | nil => intro Z hZ; exact hZ
  | cons s l ih =>
    intro Z hZ
    obtain ⟨b, n⟩ := s
    cases b with
    | true => obtain ⟨Z', h1, h2⟩ := hZ; exact ⟨Z', h1, ih h2⟩
    | false => obtain ⟨Z1, Z2, h1, h2, h3⟩ := hZ; exact ⟨Z1, Z2, h1, h _ _ h2, ih h3⟩

theorem DerF.mono {R : List Ru} {A B : Int → List Int → Prop} (h : ∀ n Z, A n Z → B n Z) {n : Int} {Z : List Int} (hZ : DerF R A n Z) : DerF R B n Z := by
  obtain ⟨r, h1, h2, h3⟩ := hZ
  exact ⟨r, h1, h2, h3.mono h⟩

theorem DerL_succ {R : List Ru} : ∀ k n Z, DerL R k n Z → DerL R (k + 1) n Z := by
  intro k
  induction k with
  | zero => intro n Z h; exact h.elim
  | succ k ih => intro n Z h; exact DerF.mono ih h
theorem DerL_le {R : List Ru} {k m : Nat} (h : k ≤ m) : ∀ n Z, DerL R k n Z → DerL R m n Z := by
  induction h with
  | refl => intro n Z h; exact h
  | step _ ih => intro n Z h; exact DerL_succ _ _ _ (ih n Z h)

theorem SeqD_level {R : List Ru} : ∀ {l : List Sy} {Z : List Int}, SeqD (Der R) l Z → ∃ k, SeqD (DerL R k) l Z := by
  intro l
  induction l with
  | nil => intro Z h; exact ⟨0, h⟩
  | cons s l ih =>
    intro Z h
    obtain ⟨b, n⟩ := s
    cases b with
    | true =>
      obtain ⟨Z', h1, h2⟩ := h
      obtain ⟨k, hk⟩ := ih h2
      exact ⟨k, Z', h1, hk⟩
    | false =>
      obtain ⟨Z1, Z2, h1, ⟨m, h2⟩, h3⟩ := h
      obtain ⟨k, hk⟩ := ih h3
      exact ⟨max m k, Z1, Z2, h1, DerL_le (Nat.le_max_left _ _) _ _ h2, hk.mono (DerL_le (Nat.le_max_right _ _))⟩

theorem Der_step {R : List Ru} {r : Ru} (hr : r ∈ R) {Z : List Int} (h : SeqD (Der R) r.2 Z) : Der R r.1 Z := by
  obtain ⟨k, hk⟩ := SeqD_level h
  exact ⟨k + 1, r, hr, rfl, hk⟩

/-! ### What a derivation yields is derived -/

section
variable {R : List Ru}

end

/-! ### Parts of the tokens -/

/-- The tokens from i to below j. -/
def part (tok : List Int) (i j : Nat) : List Int := (tok.drop i).take (j - i)

theorem part_self (tok : List Int) (i : Nat) : part tok i i = [] := by simp [part]
theorem part_all (tok : List Int) : part tok 0 tok.length = tok := by simp [part]
theorem part_len {tok : List Int} {i j : Nat} (h : i ≤ j) (hj : j ≤ tok.length) : (part tok i j).length = j - i := by
  simp [part]
  omega
theorem part_cons {tok : List Int} {i j : Nat} (h : i < j) (hj : j ≤ tok.length) : part tok i j = tok.getD i 0 :: part tok (i + 1) j := by
  have hi : i < tok.length := by omega
  unfold part
  rw [List.drop_eq_getElem_cons hi, show j - i = (j - (i + 1)) + 1 by omega, List.take_succ_cons]
  simp [List.getD, hi]
theorem part_append {tok : List Int} {i m j : Nat} (h1 : i ≤ m) (h2 : m ≤ j) : part tok i j = part tok i m ++ part tok m j := by
  unfold part
  have e : tok.drop m = (tok.drop i).drop (m - i) := by rw [List.drop_drop]; congr 1; omega
  rw [e, show j - i = (m - i) + (j - m) by omega, List.take_add]
/-- A part's beginning is a part. -/
theorem part_split {tok Z1 Z2 : List Int} {i j : Nat} (h : i ≤ j) (hj : j ≤ tok.length) (e : part tok i j = Z1 ++ Z2) : i + Z1.length ≤ j ∧ Z1 = part tok i (i + Z1.length) ∧ Z2 = part tok (i + Z1.length) j := by
  have hl := part_len h hj
  have hl2 : Z1.length + Z2.length = j - i := by rw [← hl, e]; simp
  have hle : i + Z1.length ≤ j := by omega
  have e2 := part_append (tok := tok) (i := i) (m := i + Z1.length) (j := j) (by omega) hle
  rw [e] at e2
  have hl3 : (part tok i (i + Z1.length)).length = Z1.length := by rw [part_len (by omega) (by omega)]; omega
  obtain ⟨a, b⟩ := List.append_inj e2 hl3.symm
  exact ⟨hle, a, b⟩

/-- A symbol leads from i to m, by what is known of names. -/
def Mv (K : Nat → Nat → Nat → Bool) (tok : List Int) (upto : Nat) (s : Sy) (i m : Nat) : Prop :=
  (s.1 = true ∧ i < upto ∧ m = i + 1 ∧ tok.getD i 0 = s.2) ∨ (s.1 = false ∧ i ≤ m ∧ m ≤ upto ∧ K i m s.2.toNat = true)
def Rch (K : Nat → Nat → Nat → Bool) (tok : List Int) (upto : Nat) : List Sy → Nat → Nat → Prop
  | [], i, x => i = x
  | s :: l, i, x => ∃ m, Mv K tok upto s i m ∧ Rch K tok upto l m x

section
variable {K : Nat → Nat → Nat → Bool} {tok : List Int} {upto : Nat}

theorem Mv.le {s : Sy} {i m : Nat} (h : Mv K tok upto s i m) : i ≤ m ∧ m ≤ upto := by
  rcases h with ⟨_, h1, h2, _⟩ | ⟨_, h1, h2, _⟩ <;> omega
theorem Rch.le {l : List Sy} {i x : Nat} (h : Rch K tok upto l i x) (hi : i ≤ upto) : i ≤ x ∧ x ≤ upto := by
  induction l generalizing i with
  | nil => have : i = x := h; omega
  | cons s l ih =>
    obtain ⟨m, h1, h2⟩ := h
    have := h1.le
    have := ih h2 this.2
    omega

theorem Rch_snoc {l : List Sy} {s : Sy} {i x : Nat} : Rch K tok upto (l ++ [s]) i x ↔ ∃ m, Rch K tok upto l i m ∧ Mv K tok upto s m x := by
  induction l generalizing i with
  | nil =>
    constructor
    · rintro ⟨m, h1, h2⟩
      have h2' : m = x := h2
      subst h2'
      exact ⟨i, rfl, h1⟩
    · rintro ⟨m, h1, h2⟩
      have h1' : i = m := h1
      subst h1'
      exact ⟨x, h2, rfl⟩
  | cons t l ih =>
    constructor
    · rintro ⟨m, h1, h2⟩
      obtain ⟨y, h3, h4⟩ := ih.1 h2
      exact ⟨y, ⟨m, h1, h3⟩, h4⟩
    · rintro ⟨y, ⟨m, h1, h3⟩, h4⟩
      exact ⟨m, h1, ih.2 ⟨y, h3, h4⟩⟩

/-- What is reached is derived. -/
theorem Rch_sound {R : List Ru} (hto : upto ≤ tok.length) (hK : ∀ i j, i ≤ j → j ≤ upto → ∀ n : Nat, K i j n = true → Der R n (part tok i j)) : ∀ {l : List Sy} {i x : Nat}, (∀ s ∈ l, s.1 = false → 0 ≤ s.2) → i ≤ upto → Rch K tok upto l i x → SeqD (Der R) l (part tok i x) := by
  intro l
  induction l with
  | nil => intro i x _ _ h; have h' : i = x := h; subst h'; exact part_self _ _
  | cons s l ih =>
    intro i x hin hi h
    obtain ⟨m, h1, h2⟩ := h
    have hm := h1.le
    have hx := h2.le hm.2
    have hl := ih (fun s hs => hin s (List.mem_cons_of_mem _ hs)) hm.2 h2
    obtain ⟨b, v⟩ := s
    rcases h1 with ⟨hb, h3, h4, h5⟩ | ⟨hb, h3, h4, h5⟩
    · simp only at hb h5
      subst hb
      subst h4
      exact ⟨part tok (i + 1) x, by rw [part_cons (by omega) (by omega), h5], hl⟩
    · simp only at hb h5
      subst hb
      have hv := hin (false, v) (by simp) rfl
      simp only at hv
      have := hK i m h3 h4 v.toNat h5
      have e : ((v.toNat : Nat) : Int) = v := by omega
      rw [e] at this
      exact ⟨part tok i m, part tok m x, part_append h3 hx.1, this, hl⟩

/-- What is derived of known names is reached. -/
theorem Rch_complete {A : Int → List Int → Prop} {a0 b0 : Nat} (hto : b0 ≤ upto) (hn : upto ≤ tok.length) (hK : ∀ i j, a0 ≤ i → i ≤ j → j ≤ b0 → ∀ n, A n (part tok i j) → K i j n.toNat = true) : ∀ {l : List Sy} {i x : Nat}, a0 ≤ i → i ≤ x → x ≤ b0 → SeqD A l (part tok i x) → Rch K tok upto l i x := by
  intro l
  induction l with
  | nil =>
    intro i x _ h1 h2 h
    have h' : part tok i x = [] := h
    have := part_len (tok := tok) h1 (by omega)
    rw [h'] at this
    simp only [List.length_nil] at this
    show i = x
    omega
  | cons s l ih =>
    intro i x h0 h1 h2 h
    obtain ⟨b, v⟩ := s
    cases b with
    | true =>
      obtain ⟨Z', h3, h4⟩ := h
      have hlt : i < x := by
        have := part_len (tok := tok) h1 (by omega)
        rw [h3] at this
        simp only [List.length_cons] at this
        omega
      rw [part_cons hlt (by omega)] at h3
      simp only [List.cons.injEq] at h3
      obtain ⟨h5, rfl⟩ := h3
      exact ⟨i + 1, .inl ⟨rfl, by omega, rfl, h5⟩, ih (by omega) (by omega) h2 h4⟩
    | false =>
      obtain ⟨Z1, Z2, h3, h4, h5⟩ := h
      obtain ⟨h6, h7, h8⟩ := part_split h1 (by omega) h3
      rw [h8] at h5
      rw [h7] at h4
      have := hK i (i + Z1.length) h0 (by omega) (by omega) v (by rw [h7] at h4 ⊢; simpa using h4)
      exact ⟨i + Z1.length, .inr ⟨rfl, by omega, by omega, this⟩, ih (by omega) h6 h2 h5⟩

/-- One part: where all shorter parts within it are known, and it is closed under the rules, it is known. -/
theorem cyk_complete {R : List Ru} {a b : Nat} (hab : a ≤ b) (hto : b = upto) (hn : upto ≤ tok.length) (hsub : ∀ i j, a ≤ i → i ≤ j → j ≤ b → ¬ (i = a ∧ j = b) → ∀ n, Der R n (part tok i j) → K i j n.toNat = true)
    (hcl : ∀ r ∈ R, Rch K tok upto r.2 a b → K a b r.1.toNat = true) : ∀ n, Der R n (part tok a b) → K a b n.toNat = true := by
  have main : ∀ k n, DerL R k n (part tok a b) → K a b n.toNat = true := by
    intro k
    induction k with
    | zero => intro n h; exact h.elim
    | succ k ih =>
      rintro n ⟨r, hr, rfl, hs⟩
      refine hcl r hr (Rch_complete (A := DerL R k) (a0 := a) (b0 := b) (by omega) hn (fun i j h1 h2 h3 m hm => ?_) (Nat.le_refl _) hab (Nat.le_refl _) hs)
      by_cases h : i = a ∧ j = b
      · obtain ⟨rfl, rfl⟩ := h
        exact ih m hm
      · exact hsub i j h1 h2 h3 h m ⟨k, hm⟩
  rintro n ⟨k, h⟩
  exact main k n h
end

end Go.Proofs.Ythmdlaappenjgaa
