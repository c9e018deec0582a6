/- How the symbols and rules that text.Parse makes lie in memory. -/
import Derived.Test.YtganeciagepcpaaDoorTxRh
import Derived.Deep.AppendLies
import Derived.Laws.AppendOwnNone
namespace Go.Proofs.YtganeciagepcpaaDoor
open Go.RowKit

def syV9 (s : Sy) : List Value := [.bool s.1, .int .i64 s.2]
def flatY9 (l : List Sy) : List Value := l.flatMap syV9
theorem flatY9_get {l : List Sy} {i j : Nat} (hi : i < l.length) (hj : j < 2) : (flatY9 l)[i * 2 + j]? = (syV9 (l.getD i (false, 0)))[j]? := by
  unfold flatY9
  induction l generalizing i with
  | nil => simp at hi
  | cons a L ih =>
    rw [List.flatMap_cons]
    cases i with
    | zero => rw [List.getElem?_append_left (by simp [syV9]; omega)]; simp
    | succ i =>
      rw [List.getElem?_append_right (by simp [syV9]; omega)]
      simp only [syV9, List.length_cons, List.length_nil]
      rw [show (i + 1) * 2 + j - (0 + 1 + 1) = i * 2 + j by omega]
      have := ih (i := i) (by simpa using hi)
      simpa [List.getD, syV9] using this
theorem flatY9_snoc (l : List Sy) (s : Sy) : flatY9 (l ++ [s]) = flatY9 l ++ [.bool s.1, .int .i64 s.2] := by simp [flatY9, syV9]

theorem Tryd.infoSy9 : (Tryd.prog.info? 51).map (fun i => (i.zero, i.size, i.bytes)) = some (some (.agg #[.bool false, .int .i64 0]), 2, 16) := by kernel_rfl
theorem Tryd.infoRu9 : (Tryd.prog.info? 49).map (fun i => (i.zero, i.size, i.bytes)) = some (some (.agg #[.int .i64 0, .slice none 0 0]), 2, 32) := by kernel_rfl

theorem own_same {w w' : World} {base : Nat} {e : TypeId} {size n : Nat} {v : Value} {xs : List Value} (h : w.ownsRow base e size v n xs) (hb : ∀ g, v.ownBlock = some g → w'.heap[g]? = w.heap[g]?) : w'.ownsRow base e size v n xs := by
  refine ⟨h.1, ?_⟩
  rcases h.2 with h2 | ⟨g, cap, cur, rfl, h2, h3, h4⟩
  · exact .inl h2
  · exact .inr ⟨g, cap, cur, rfl, h2, by rw [hb g rfl]; exact h3, h4⟩

/-- A rule that the call makes: its own block, its Right's row behind it. -/
structure RuleIn (w : World) (p : Nat) (L : Int) (rv : Value) (A : List Sy) : Prop where
  at_ : w.heap[p]? = some (.cells #[.int .i64 L, rv] 49 (0, 0))
  own : w.ownsRow (p + 1) 51 2 rv A.length (flatY9 A)
section
variable {w w' : World} {p b : Nat} {L : Int} {rv : Value} {A : List Sy}
theorem RuleIn.lt (h : RuleIn w p L rv A) : p < w.heap.size := (Array.getElem?_eq_some_iff.1 h.at_).1
theorem RuleIn.but (h : RuleIn w p L rv A) (hb : But b w w') (hp : b < p) : RuleIn w' p L rv A :=
  ⟨(hb.block p h.lt (by omega)).trans h.at_, own_same h.own fun g hg => hb.block g (h.own.lt g hg).2 (by have := (h.own.lt g hg).1; omega)⟩
theorem RuleIn.later (h : RuleIn w p L rv A) (hb : Below w.heap.size w w') : RuleIn w' p L rv A :=
  ⟨(hb.block p h.lt).trans h.at_, own_same h.own fun g hg => hb.block g (h.own.lt g hg).2⟩
theorem RuleIn.put (h : RuleIn w p L rv A) {rv' : Value} {A' : List Sy} (hg : w.grownBy w' rv.ownBlock) (ho : w'.ownsRow (p + 1) 51 2 rv' A'.length (flatY9 A')) : RuleIn (w'.setCell ⟨p, 1, none⟩ rv') p L rv' A' := by
  have hb : w'.heap[p]? = w.heap[p]? := hg.block p h.lt fun e => by have := (h.own.lt p e.symm).1; omega
  exact ⟨Lib.heap_setCell_same (hb.trans h.at_) _, own_same ho fun g hgg => Below.heap_setCell _ _ _ g (by have := (ho.lt g hgg).1; show g ≠ p; omega)⟩
end
end Go.Proofs.YtganeciagepcpaaDoor
