/- Plain: C1's least sets: which names make, which come, which ones a name begins with. -/
import Derived.Test.YtlfjnljidehljaaLfp
import Derived.Test.YtlfjnljidehljaaAllB
namespace Go.Proofs.Ytlfjnljidehljaa

/-- The table says so of the name n. -/
def hasB (X : List Bool) (n : Int) : Prop := 0 ≤ n ∧ X.getD n.toNat false = true
/-- All names among symbols are of A. -/
def AllM (A : Int → Prop) (l : List Sy) : Prop := ∀ s ∈ l, s.1 = false → A s.2
def MakesF (R : List Ru) (A : Int → Prop) (n : Int) : Prop := ∃ r ∈ R, r.1 = n ∧ AllM A r.2
def ComesF (R : List Ru) (M A : Int → Prop) (n : Int) : Prop := (n = 0 ∧ M 0) ∨ ∃ r ∈ R, (false, n) ∈ r.2 ∧ AllM M r.2 ∧ A r.1
/-- a has a rule with b in its Right, and only names of Nu ahead of it. -/
def HeadD (R : List Ru) (Nu : Int → Prop) (a b : Int) : Prop := ∃ r ∈ R, r.1 = a ∧ ∃ k : Nat, r.2[k]? = some (false, b) ∧ AllN Nu (r.2.take k)
def WayF (R : List Ru) (Nu : Int → Prop) (n : Int) (A : Int → Prop) (b : Int) : Prop := HeadD R Nu n b ∨ ∃ a, A a ∧ HeadD R Nu a b

def MakesP (N : Nat) (R : List Ru) : Int → Prop := Lv (MakesF R) N
def ComesP (N : Nat) (R : List Ru) : Int → Prop := Lv (ComesF R (MakesP N R)) N
/-- What the name n begins with. -/
def WayP (N : Nat) (R : List Ru) (n : Int) : Int → Prop := Lv (WayF R (NullP N R) n) N

theorem AllM.mono {A B : Int → Prop} (h : ∀ n, A n → B n) {l : List Sy} (hl : AllM A l) : AllM B l := fun s hs hb => h _ (hl s hs hb)

theorem MakesF_up (R : List Ru) (A B : Int → Prop) (h : ∀ n, A n → B n) (n : Int) (hn : MakesF R A n) : MakesF R B n := by
  obtain ⟨r, h1, h2, h3⟩ := hn
  exact ⟨r, h1, h2, h3.mono h⟩
theorem ComesF_up (R : List Ru) (M : Int → Prop) (A B : Int → Prop) (h : ∀ n, A n → B n) (n : Int) (hn : ComesF R M A n) : ComesF R M B n := by
  rcases hn with hn | ⟨r, h1, h2, h3, h4⟩
  · exact .inl hn
  · exact .inr ⟨r, h1, h2, h3, h _ h4⟩
theorem WayF_up (R : List Ru) (Nu : Int → Prop) (n : Int) (A B : Int → Prop) (h : ∀ n, A n → B n) (b : Int) (hn : WayF R Nu n A b) : WayF R Nu n B b := by
  rcases hn with hn | ⟨a, h1, h2⟩
  · exact .inl hn
  · exact .inr ⟨a, h a h1, h2⟩

section
variable {T N : Nat} {R : List Ru} (h : Fine T N R)
include h

theorem MakesF_mono : Mono N (MakesF R) := ⟨fun A B => MakesF_up R A B, fun A n hn => by obtain ⟨r, h1, rfl, _⟩ := hn; exact h.left r h1⟩
theorem ComesF_mono (M : Int → Prop) : Mono N (ComesF R M) := ⟨fun A B => ComesF_up R M A B, fun A n hn => by
  rcases hn with ⟨rfl, _⟩ | ⟨r, h1, h2, _⟩
  · have := h.some; omega
  · exact h.name r h1 _ h2 rfl⟩
theorem HeadD_bound {Nu : Int → Prop} {a b : Int} (hd : HeadD R Nu a b) : (0 ≤ a ∧ a < (N : Int)) ∧ 0 ≤ b ∧ b < (N : Int) := by
  obtain ⟨r, h1, rfl, k, h2, _⟩ := hd
  exact ⟨h.left r h1, h.name r h1 _ (List.mem_of_getElem? h2) rfl⟩
theorem WayF_mono (Nu : Int → Prop) (n : Int) : Mono N (WayF R Nu n) := ⟨fun A B => WayF_up R Nu n A B, fun A b hn => by
  rcases hn with hn | ⟨a, _, h2⟩
  · exact (HeadD_bound h hn).2
  · exact (HeadD_bound h h2).2⟩

theorem way_step {n b : Int} (hd : HeadD R (NullP N R) n b) : WayP N R n b := Lv_closed (WayF_mono h _ _) _ (.inl hd)
theorem way_trans {n c b : Int} (hd : HeadD R (NullP N R) n c) (hb : WayP N R c b) : WayP N R n b := by
  have hm := WayF_mono h (NullP N R) n
  refine Lv_least (WayF_up R (NullP N R) c) (A := WayP N R n) (fun b hb => ?_) N b hb
  rcases hb with hb | ⟨a, h1, h2⟩
  · exact Lv_closed hm _ (.inr ⟨c, way_step h hd, hb⟩)
  · exact Lv_closed hm _ (.inr ⟨a, h1, h2⟩)
end

/-- A way's first step. -/
theorem way_peel {R : List Ru} {Nu : Int → Prop} : ∀ (k : Nat) (n b : Int), Lv (WayF R Nu n) (k + 1) b → HeadD R Nu n b ∨ ∃ c, HeadD R Nu n c ∧ Lv (WayF R Nu c) k b := by
  intro k
  induction k with
  | zero =>
    intro n b hb
    rcases hb with hb | ⟨a, h1, _⟩
    · exact .inl hb
    · exact h1.elim
  | succ k ih =>
    intro n b hb
    rcases hb with hb | ⟨a, h1, h2⟩
    · exact .inl hb
    · rcases ih n a h1 with h3 | ⟨c, h3, h4⟩
      · exact .inr ⟨a, h3, .inl h2⟩
      · exact .inr ⟨c, h3, .inr ⟨a, h4, h2⟩⟩

theorem way_least {R : List Ru} {Nu : Int → Prop} {X : Int → Int → Prop} (h1 : ∀ a b, HeadD R Nu a b → X a b) (h2 : ∀ a c b, HeadD R Nu a c → X c b → X a b) : ∀ (k : Nat) (n b : Int), Lv (WayF R Nu n) k b → X n b := by
  intro k
  induction k with
  | zero => intro n b hb; exact hb.elim
  | succ k ih =>
    intro n b hb
    rcases way_peel k n b hb with hb | ⟨c, h3, h4⟩
    · exact h1 n b hb
    · exact h2 n c b h3 (ih c b h4)

theorem allB_iff {X : List Bool} {l : List Sy} (h : ∀ s ∈ l, s.1 = false → 0 ≤ s.2) : allB X l = true ↔ AllM (hasB X) l := by
  unfold allB AllM hasB
  rw [List.all_eq_true]
  constructor
  · intro hh s hs hb
    have := hh s hs
    rw [hb] at this
    exact ⟨h s hs hb, by simpa using this⟩
  · intro hh s hs
    cases hb : s.1 with
    | true => rfl
    | false => rw [(hh s hs hb).2]; rfl

theorem mem_getD {R : List Ru} {i : Nat} (hi : i < R.length) : R.getD i (0, []) ∈ R := by simp [List.getD, hi]
theorem getD_of_mem {R : List Ru} {r : Ru} (hr : r ∈ R) : ∃ i, i < R.length ∧ R.getD i (0, []) = r := by
  obtain ⟨i, hi, rfl⟩ := List.getElem_of_mem hr
  exact ⟨i, hi, by simp [List.getD, hi]⟩
theorem toNat_of {v : Int} (h : 0 ≤ v) : ((v.toNat : Nat) : Int) = v := by omega

end Go.Proofs.Ytlfjnljidehljaa
