/- Plain: what pollardingref2.Of makes are the least sets. -/
import Derived.Test.YtlfjnljidehljaaLfp
import Derived.Test.YtlfjnljidehljaaSets2Mem
namespace Go.Proofs.Ytlfjnljidehljaa

/-- The table says so of the name n. -/
def hasN (X : List Bool) (n : Int) : Prop := 0 ≤ n ∧ X.getD n.toNat false = true
theorem hasN_set {X : List Bool} {l : Nat} (hl : l < X.length) {n : Int} : hasN (X.set l true) n ↔ n = (l : Int) ∨ hasN X n := by
  unfold hasN
  constructor
  · rintro ⟨h0, h1⟩
    by_cases e : n.toNat = l
    · exact .inl (by omega)
    · right
      refine ⟨h0, ?_⟩
      rw [← h1]
      simp [List.getD, List.getElem?_set_ne (fun h => e h.symm)]
  · rintro (rfl | ⟨h0, h1⟩)
    · exact ⟨by omega, by simp [List.getD, hl]⟩
    · refine ⟨h0, ?_⟩
      by_cases e : n.toNat = l
      · subst e; simp [List.getD, hl]
      · rw [← h1]; simp [List.getD, List.getElem?_set_ne (fun h => e h.symm)]

theorem nullB_iff {X : List Bool} {l : List Sy} (h : ∀ s ∈ l, s.1 = false → 0 ≤ s.2) : nullB X l = true ↔ AllN (hasN X) l := by
  unfold nullB AllN hasN
  rw [List.all_eq_true]
  constructor
  · intro hh s hs
    have := hh s hs
    simp only [Bool.and_eq_true, Bool.not_eq_true'] at this
    exact ⟨this.1, h s hs this.1, this.2⟩
  · intro hh s hs
    obtain ⟨h1, _, h2⟩ := hh s hs
    rw [h1, h2]
    rfl

section
variable {T N : Nat} {R : List Ru} (hf : Fine T N R)
include hf

theorem rule_mem {i : Nat} (hi : i < R.length) : R.getD i (0, []) ∈ R := by
  have _ := hf.some
  simp [List.getD, hi]

theorem rule_pos {i : Nat} (hi : i < R.length) : ∀ s ∈ (R.getD i (0, [])).2, s.1 = false → 0 ≤ s.2 := fun s hs h => (hf.name _ (rule_mem hf hi) s hs h).1

/-- Null: the rounds make the least set. -/
theorem nullA_iff : (nullA R N).length = N ∧ ∀ n, hasN (nullA R N) n ↔ NullP N R n := by
  have hm := NullF_mono hf
  have main := loopN_inv (n := N + 1) (f := fun _ => loopN R.length (nullS R)) (x := List.replicate N false)
    (fun k X => X.length = N ∧ (∀ n, hasN X n → NullP N R n) ∧ ∀ n, Lv (NullF R) k n → hasN X n)
    ⟨by simp, fun n hn => by
      unfold hasN at hn
      have := hn.2
      by_cases h : n.toNat < N
      · simp [List.getD, h] at this
      · simp [List.getD, List.getElem?_eq_none (show (List.replicate N false).length ≤ n.toNat by simp; omega)] at this, fun n hn => hn.elim⟩
    (fun k _ X ⟨h1, h2, h3⟩ => by
      have inner := loopN_inv (n := R.length) (f := nullS R) (x := X)
        (fun i Y => Y.length = N ∧ (∀ n, hasN Y n → NullP N R n) ∧ (∀ n, Lv (NullF R) k n → hasN Y n) ∧ ∀ j, j < i → AllN (Lv (NullF R) k) (R.getD j (0, [])).2 → hasN Y (R.getD j (0, [])).1)
        ⟨h1, h2, h3, fun j hj => absurd hj (Nat.not_lt_zero _)⟩
        (fun i hi Y ⟨y1, y2, y3, y4⟩ => by
          have hL := hf.left _ (rule_mem hf hi)
          have hl : (R.getD i (0, [])).1.toNat < Y.length := by omega
          have hcast : (((R.getD i (0, [])).1.toNat : Nat) : Int) = (R.getD i (0, [])).1 := by omega
          unfold nullS
          cases hb : nullB Y (R.getD i (0, [])).2 with
          | true =>
            simp only [if_true]
            have hall := (nullB_iff (rule_pos hf hi)).1 hb
            refine ⟨by simp [y1], fun n hn => ?_, fun n hn => (hasN_set hl).2 (.inr (y3 n hn)), fun j hj ha => ?_⟩
            · rcases (hasN_set hl).1 hn with rfl | hn
              · rw [hcast]
                exact Lv_closed hm _ ⟨_, rule_mem hf hi, rfl, hall.mono y2⟩
              · exact y2 n hn
            · rcases Nat.lt_succ_iff_lt_or_eq.1 hj with hj | rfl
              · exact (hasN_set hl).2 (.inr (y4 j hj ha))
              · exact (hasN_set hl).2 (.inl hcast.symm)
          | false =>
            simp only [Bool.false_eq_true, if_false]
            refine ⟨y1, y2, y3, fun j hj ha => ?_⟩
            rcases Nat.lt_succ_iff_lt_or_eq.1 hj with hj | rfl
            · exact y4 j hj ha
            · rw [(nullB_iff (rule_pos hf hi)).2 (ha.mono y3)] at hb; cases hb)
      obtain ⟨z1, z2, _, z4⟩ := inner
      refine ⟨z1, z2, fun n hn => ?_⟩
      obtain ⟨r, hr, rfl, ha⟩ := hn
      obtain ⟨j, hj, rfl⟩ := List.getElem_of_mem hr
      have e : R.getD j (0, []) = R[j] := by simp [List.getD, hj]
      have := z4 j hj (by rw [e]; exact ha)
      rwa [e] at this)
  obtain ⟨m1, m2, m3⟩ := main
  exact ⟨m1, fun n => ⟨m2 n, fun hn => m3 n (Lv_succ hm N n hn)⟩⟩

/-- A table of N rows, each of w truths. -/
def Shape (N w : Nat) (F : List (List Bool)) : Prop := F.length = N ∧ ∀ n, n < N → (F.getD n []).length = w

omit hf in
theorem Shape.set2 {N w : Nat} {F : List (List Bool)} (h : Shape N w F) (l t : Nat) : Shape N w (set2 F l t) := by
  refine ⟨by rw [set2_length]; exact h.1, fun n hn => ?_⟩
  rw [set2_get]
  split
  · rename_i e
    rw [List.length_set, ← e.1]
    exact h.2 n hn
  · exact h.2 n hn

omit hf in
theorem Shape.replicate (N w : Nat) : Shape N w (List.replicate N (List.replicate w false)) := by
  refine ⟨by simp, fun n hn => ?_⟩
  simp [List.getD, hn]

end

end Go.Proofs.Ytlfjnljidehljaa
