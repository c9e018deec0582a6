/- Plain: the text of a grammar (I1). No program. -/
import Derived.Lib.ItoaNum
import Derived.Test.YtganeciagepcpaaDoorMayFine
namespace Go.Proofs.YtganeciagepcpaaDoor

def symT9 (s : Sy) : List UInt8 := 32 :: (if s.1 then 116 else 110) :: Lib.decDigits s.2.toNat
def leftB9 (n : Int) : List UInt8 := 110 :: (Lib.decDigits n.toNat ++ [58])
def ruleB9 (r : Ru) : List UInt8 := leftB9 r.1 ++ ((r.2.map symT9).flatten ++ [10])
def headB9 (T N : Nat) : List UInt8 := [116, 101, 114, 109, 115, 32] ++ (Lib.decDigits T ++ ([32, 110, 97, 109, 101, 115, 32] ++ (Lib.decDigits N ++ [10])))
/-- The text of a grammar. -/
def textB (T N : Nat) (R : List Ru) : List UInt8 := headB9 T N ++ (R.map ruleB9).flatten

theorem getD_at9 {α : Type} {l : List α} {j : Nat} {d : α} (h : j < l.length) : l.getD j d = l[j] := by simp [List.getD, h]
theorem dec_one {n : Nat} (h : n < 10) : Lib.decDigits n = [UInt8.ofNat (48 + n)] := by rw [Lib.decDigits, dif_pos h]
theorem dec_two {n : Nat} (h : ¬ n < 10) : Lib.decDigits n = Lib.decDigits (n / 10) ++ [UInt8.ofNat (48 + n % 10)] := by rw [Lib.decDigits, dif_neg h]
theorem dec_len {n : Nat} (h : n < 100) : (Lib.decDigits n).length ≤ 2 := by
  by_cases h1 : n < 10
  · rw [dec_one h1]; simp
  · rw [dec_two h1, dec_one (by omega)]; simp
theorem symT9_len {s : Sy} (h : s.2.toNat < 100) : (symT9 s).length ≤ 4 := by
  have := dec_len h
  simp only [symT9, List.length_cons]
  omega
theorem flat_len {α : Type} (f : α → List UInt8) (m : Nat) : ∀ (l : List α), (∀ x ∈ l, (f x).length ≤ m) → (l.map f).flatten.length ≤ l.length * m
  | [], _ => by simp
  | x :: l, h => by
    have h1 := h x (List.mem_cons_self ..)
    have h2 := flat_len f m l fun y hy => h y (List.mem_cons_of_mem _ hy)
    rw [List.map_cons, List.flatten_cons, List.length_append, List.length_cons, Nat.add_mul]
    omega
/-- What there is of the numbers of a grammar that may be. -/
structure Low (T N : Nat) (R : List Ru) : Prop where
  t : T < 100
  n : N < 100
  r : R.length ≤ 40
  left : ∀ k, k < R.length → ∃ m : Nat, (R.getD k (0, [])).1 = m ∧ m < 100
  len : ∀ k, k < R.length → (R.getD k (0, [])).2.length ≤ 8
  sym : ∀ k, k < R.length → ∀ j, j < (R.getD k (0, [])).2.length → ∃ m : Nat, ((R.getD k (0, [])).2.getD j (false, 0)).2 = m ∧ m < 100
theorem low_of {T N : Nat} {R : List Ru} (hm : mayB T N R = true) : Low T N R := by
  obtain ⟨h1, h2, h3, h4, h5⟩ := may_fine hm
  refine ⟨by omega, by omega, h4, fun k hk => ?_, fun k hk => (h5 k hk).2.2.1, fun k hk j hj => ?_⟩
  · obtain ⟨a, b, _⟩ := h5 k hk
    exact ⟨(R.getD k (0, [])).1.toNat, by omega, by omega⟩
  · have hmem : (R.getD k (0, [])).2.getD j (false, 0) ∈ (R.getD k (0, [])).2 := by rw [getD_at9 hj]; exact List.getElem_mem hj
    obtain ⟨a, b⟩ := (h5 k hk).2.2.2 _ hmem
    refine ⟨((R.getD k (0, [])).2.getD j (false, 0)).2.toNat, by omega, ?_⟩
    split at b <;> omega
section
variable {T N : Nat} {R : List Ru}
theorem Low.syms (h : Low T N R) {k : Nat} (hk : k < R.length) : ∀ s ∈ (R.getD k (0, [])).2, (symT9 s).length ≤ 4 := fun s hs => by
  obtain ⟨j, hj, rfl⟩ := List.getElem_of_mem hs
  obtain ⟨m, h1, h2⟩ := h.sym k hk j hj
  rw [getD_at9 hj] at h1
  exact symT9_len (by omega)
theorem Low.left_len (h : Low T N R) {k : Nat} (hk : k < R.length) : (leftB9 (R.getD k (0, [])).1).length ≤ 4 := by
  obtain ⟨m, h1, h2⟩ := h.left k hk
  have := dec_len h2
  rw [h1]
  simp only [leftB9, List.length_cons, List.length_append, List.length_nil, Int.toNat_natCast]
  omega
theorem Low.rule_len (h : Low T N R) {k : Nat} (hk : k < R.length) : (ruleB9 (R.getD k (0, []))).length ≤ 40 := by
  have h1 := h.left_len hk
  have h2 := flat_len symT9 4 (R.getD k (0, [])).2 (h.syms hk)
  have h3 := h.len k hk
  simp only [ruleB9, List.length_append, List.length_cons, List.length_nil]
  omega
theorem head_len (h : Low T N R) : (headB9 T N).length ≤ 20 := by
  have h1 := dec_len h.t
  have h2 := dec_len h.n
  simp only [headB9, List.length_append, List.length_cons, List.length_nil]
  omega
theorem Low.mem (h : Low T N R) : ∀ r ∈ R, (ruleB9 r).length ≤ 40 := fun r hr => by
  obtain ⟨k, hk, rfl⟩ := List.getElem_of_mem hr
  have := h.rule_len hk
  rw [getD_at9 hk] at this
  exact this
theorem Low.part (h : Low T N R) (k : Nat) : (((R.take k).map ruleB9).flatten).length ≤ 1600 := by
  have h1 := flat_len ruleB9 40 (R.take k) fun r hr => h.mem r (List.mem_of_mem_take hr)
  have h2 := h.r
  rw [List.length_take] at h1
  have : min k R.length * 40 ≤ 40 * 40 := Nat.mul_le_mul_right _ (by omega)
  omega
theorem Low.sympart (h : Low T N R) {k : Nat} (hk : k < R.length) (j : Nat) : ((((R.getD k (0, [])).2.take j).map symT9).flatten).length ≤ 32 := by
  have h1 := flat_len symT9 4 ((R.getD k (0, [])).2.take j) fun s hs => h.syms hk s (List.mem_of_mem_take hs)
  have h2 := h.len k hk
  rw [List.length_take] at h1
  have : min j (R.getD k (0, [])).2.length * 4 ≤ 8 * 4 := Nat.mul_le_mul_right _ (by omega)
  omega
end
theorem take_next {α : Type} (f : α → List UInt8) {l : List α} {k : Nat} (hk : k < l.length) : ((l.take (k + 1)).map f).flatten = ((l.take k).map f).flatten ++ f l[k] := by
  rw [List.take_succ_eq_append_getElem hk, List.map_append, List.flatten_append]
  simp

end Go.Proofs.YtganeciagepcpaaDoor
