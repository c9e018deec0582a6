/- Plain: the least set that an operator holds, by rounds. No program, no memory. -/
import Derived.Test.YtifacfhlgilgoaaMath
namespace Go.Proofs.Ytifacfhlgilgoaa
open Classical

/-- What so many rounds of an operator make. -/
def Lv (F : (Int → Prop) → Int → Prop) : Nat → Int → Prop
  | 0, _ => False
  | k + 1, n => F (Lv F k) n

/-- An operator that grows, on the numbers from 0 to below N. -/
structure Mono (N : Nat) (F : (Int → Prop) → Int → Prop) : Prop where
  mono : ∀ A B : Int → Prop, (∀ n, A n → B n) → ∀ n, F A n → F B n
  bound : ∀ A n, F A n → 0 ≤ n ∧ n < (N : Int)

theorem Lv_succ {N : Nat} {F : (Int → Prop) → Int → Prop} (h : Mono N F) : ∀ k n, Lv F k n → Lv F (k + 1) n := by
  intro k
  induction k with
  | zero => intro n hn; exact hn.elim
  | succ k ih => intro n hn; exact h.mono _ _ ih n hn

theorem Lv_le {N : Nat} {F : (Int → Prop) → Int → Prop} (h : Mono N F) {k m : Nat} (hkm : k ≤ m) : ∀ n, Lv F k n → Lv F m n := by
  induction hkm with
  | refl => intro n hn; exact hn
  | step _ ih => intro n hn; exact Lv_succ h _ n (ih n hn)

noncomputable def cnt (N : Nat) (A : Int → Prop) : Nat := ((List.range N).filter fun i => decide (A (i : Nat))).length

theorem cnt_le (N : Nat) (A : Int → Prop) : cnt N A ≤ N := by
  have := List.length_filter_le (fun i : Nat => decide (A i)) (List.range N)
  simpa [cnt] using this

theorem filter_lt {α : Type} (p q : α → Bool) (h : ∀ x, p x = true → q x = true) : ∀ (l : List α),
    (l.filter p).length ≤ (l.filter q).length ∧ ((∃ x ∈ l, q x = true ∧ p x = false) → (l.filter p).length < (l.filter q).length) := by
  intro l
  induction l with
  | nil => simp
  | cons a r ih =>
    obtain ⟨ih1, ih2⟩ := ih
    cases hp : p a with
    | true =>
      have hq := h a hp
      simp only [List.filter_cons, hp, hq, if_true, List.length_cons]
      refine ⟨by omega, ?_⟩
      rintro ⟨x, hx, h1, h2⟩
      have : x ∈ r := by
        rcases List.mem_cons.1 hx with rfl | hx
        · rw [hp] at h2; cases h2
        · exact hx
      have := ih2 ⟨x, this, h1, h2⟩
      omega
    | false =>
      cases hq : q a with
      | true =>
        simp only [List.filter_cons, hp, hq, if_true, List.length_cons, Bool.false_eq_true, if_false]
        exact ⟨by omega, fun _ => by omega⟩
      | false =>
        simp only [List.filter_cons, hp, hq, Bool.false_eq_true, if_false]
        refine ⟨ih1, ?_⟩
        rintro ⟨x, hx, h1, h2⟩
        have : x ∈ r := by
          rcases List.mem_cons.1 hx with rfl | hx
          · rw [hq] at h1; cases h1
          · exact hx
        exact ih2 ⟨x, this, h1, h2⟩

theorem cnt_lt {N : Nat} {A B : Int → Prop} (h : ∀ n, A n → B n) {n : Int} (h0 : 0 ≤ n) (h1 : n < (N : Int)) (hb : B n) (ha : ¬ A n) : cnt N A < cnt N B := by
  obtain ⟨k, rfl⟩ : ∃ k : Nat, n = k := ⟨n.toNat, by omega⟩
  refine (filter_lt (fun i : Nat => decide (A i)) (fun i : Nat => decide (B i)) (fun x hx => ?_) (List.range N)).2 ⟨k, List.mem_range.2 (by omega), ?_, ?_⟩
  · simp only [decide_eq_true_eq] at hx ⊢; exact h _ hx
  · simpa using hb
  · simpa using ha

/-- N rounds are enough. -/
theorem Lv_stop {N : Nat} {F : (Int → Prop) → Int → Prop} (h : Mono N F) : ∀ m n, Lv F m n → Lv F N n := by
  have ex : ∃ k, k ≤ N ∧ ∀ n, Lv F (k + 1) n → Lv F k n := by
    refine byContradiction fun hno => ?_
    have grow : ∀ k, k ≤ N + 1 → k ≤ cnt N (Lv F k) := by
      intro k
      induction k with
      | zero => intro _; exact Nat.zero_le _
      | succ k ih =>
        intro hk
        have h1 := ih (by omega)
        have h2 : ∃ n, Lv F (k + 1) n ∧ ¬ Lv F k n := by
          refine byContradiction fun hn => hno ⟨k, by omega, fun n hn' => byContradiction fun hc => hn ⟨n, hn', hc⟩⟩
        obtain ⟨n, h3, h4⟩ := h2
        have hb := h.bound _ n h3
        have := cnt_lt (Lv_succ h k) hb.1 hb.2 h3 h4
        omega
    have h1 := grow (N + 1) (Nat.le_refl _)
    have h2 := cnt_le N (Lv F (N + 1))
    omega
  obtain ⟨k, hk, hstop⟩ := ex
  have all : ∀ m n, Lv F m n → Lv F k n := by
    intro m
    induction m with
    | zero => intro n hn; exact hn.elim
    | succ m ih => intro n hn; exact hstop n (h.mono _ _ ih n hn)
  exact fun m n hn => Lv_le h hk n (all m n hn)

/-- What N rounds make is held. -/
theorem Lv_closed {N : Nat} {F : (Int → Prop) → Int → Prop} (h : Mono N F) : ∀ n, F (Lv F N) n → Lv F N n := fun n hn => Lv_stop h (N + 1) n hn

/-- .. and in whatever is held. -/
theorem Lv_least {F : (Int → Prop) → Int → Prop} (mono : ∀ A B : Int → Prop, (∀ n, A n → B n) → ∀ n, F A n → F B n) {A : Int → Prop} (hA : ∀ n, F A n → A n) : ∀ k n, Lv F k n → A n := by
  intro k
  induction k with
  | zero => intro n hn; exact hn.elim
  | succ k ih => intro n hn; exact hA n (mono _ _ ih n hn)

/-! ### Sets of grammars -/

/-- All symbols are names of A. -/
def AllN (A : Int → Prop) (l : List Sy) : Prop := ∀ s ∈ l, s.1 = false ∧ A s.2
/-- Symbols may begin with the term t, where names of A may, and those of Nu be nothing. -/
def Beg (Nu A : Int → Prop) (t : Int) (l : List Sy) : Prop := ∃ i s, l[i]? = some s ∧ ((s.1 = true ∧ s.2 = t) ∨ (s.1 = false ∧ A s.2)) ∧ AllN Nu (l.take i)
theorem AllN.mono {A B : Int → Prop} (h : ∀ n, A n → B n) {l : List Sy} (hl : AllN A l) : AllN B l := fun s hs => ⟨(hl s hs).1, h _ (hl s hs).2⟩
theorem Beg.mono {Nu A B : Int → Prop} {t : Int} (h : ∀ n, A n → B n) {l : List Sy} (hl : Beg Nu A t l) : Beg Nu B t l := by
  obtain ⟨i, s, h1, h2, h3⟩ := hl
  refine ⟨i, s, h1, ?_, h3⟩
  rcases h2 with h2 | ⟨h2, h4⟩
  · exact .inl h2
  · exact .inr ⟨h2, h _ h4⟩

/-- What A1 says of a rule's names. -/
structure Fine (T N : Nat) (R : List Ru) : Prop where
  left : ∀ r ∈ R, 0 ≤ r.1 ∧ r.1 < (N : Int)
  name : ∀ r ∈ R, ∀ s ∈ r.2, s.1 = false → 0 ≤ s.2 ∧ s.2 < (N : Int)
  term : ∀ r ∈ R, ∀ s ∈ r.2, s.1 = true → 0 ≤ s.2 ∧ s.2 < (T : Int)
  some : 1 ≤ N

section
variable {T N : Nat} {R : List Ru} (h : Fine T N R)
include h

end

end Go.Proofs.Ytifacfhlgilgoaa
