/- Plain: C1's least sets: which names make, which come, which ones a name begins with. -/
import Derived.Test.YtifacfhlgilgoaaLfp
import Derived.Test.YtifacfhlgilgoaaAllB
namespace Go.Proofs.Ytifacfhlgilgoaa

/-- The table says so of the name n. -/
def hasB (X : List Bool) (n : Int) : Prop := 0 ≤ n ∧ X.getD n.toNat false = true
/-- All names among symbols are of A. -/
def AllM (A : Int → Prop) (l : List Sy) : Prop := ∀ s ∈ l, s.1 = false → A s.2
def MakesF (R : List Ru) (A : Int → Prop) (n : Int) : Prop := ∃ r ∈ R, r.1 = n ∧ AllM A r.2
def ComesF (R : List Ru) (M A : Int → Prop) (n : Int) : Prop := (n = 0 ∧ M 0) ∨ ∃ r ∈ R, (false, n) ∈ r.2 ∧ AllM M r.2 ∧ A r.1
def MakesP (N : Nat) (R : List Ru) : Int → Prop := Lv (MakesF R) N
def ComesP (N : Nat) (R : List Ru) : Int → Prop := Lv (ComesF R (MakesP N R)) N
theorem AllM.mono {A B : Int → Prop} (h : ∀ n, A n → B n) {l : List Sy} (hl : AllM A l) : AllM B l := fun s hs hb => h _ (hl s hs hb)

theorem MakesF_up (R : List Ru) (A B : Int → Prop) (h : ∀ n, A n → B n) (n : Int) (hn : MakesF R A n) : MakesF R B n := by
  obtain ⟨r, h1, h2, h3⟩ := hn
  exact ⟨r, h1, h2, h3.mono h⟩
theorem ComesF_up (R : List Ru) (M : Int → Prop) (A B : Int → Prop) (h : ∀ n, A n → B n) (n : Int) (hn : ComesF R M A n) : ComesF R M B n := by
  rcases hn with hn | ⟨r, h1, h2, h3, h4⟩
  · exact .inl hn
  · exact .inr ⟨r, h1, h2, h3, h _ h4⟩
section
variable {T N : Nat} {R : List Ru} (h : Fine T N R)
include h

theorem MakesF_mono : Mono N (MakesF R) := ⟨fun A B => MakesF_up R A B, fun A n hn => by obtain ⟨r, h1, rfl, _⟩ := hn; exact h.left r h1⟩
theorem ComesF_mono (M : Int → Prop) : Mono N (ComesF R M) := ⟨fun A B => ComesF_up R M A B, fun A n hn => by
  rcases hn with ⟨rfl, _⟩ | ⟨r, h1, h2, _⟩
  · have := h.some; omega
  · exact h.name r h1 _ h2 rfl⟩
end

theorem allB_iff {X : List Bool} {l : List Sy} (h : ∀ s ∈ l, s.1 = false → 0 ≤ s.2) : allB X l = true ↔ AllM (hasB X) l := by
  unfold allB AllM hasB
  rw [List.all_eq_true]
  constructor
  · intro hh s hs hb
    have := hh s hs
    rw [hb] at this
    exact ⟨h s hs hb, by simpa using this⟩
  · intro hh s hs
    cases hb : s.1 with
    | true => rfl
    | false => rw [(hh s hs hb).2]; rfl

theorem mem_getD {R : List Ru} {i : Nat} (hi : i < R.length) : R.getD i (0, []) ∈ R := by simp [List.getD, hi]
theorem getD_of_mem {R : List Ru} {r : Ru} (hr : r ∈ R) : ∃ i, i < R.length ∧ R.getD i (0, []) = r := by
  obtain ⟨i, hi, rfl⟩ := List.getElem_of_mem hr
  exact ⟨i, hi, by simp [List.getD, hi]⟩
theorem toNat_of {v : Int} (h : 0 ≤ v) : ((v.toNat : Nat) : Int) = v := by omega

end Go.Proofs.Ytifacfhlgilgoaa
