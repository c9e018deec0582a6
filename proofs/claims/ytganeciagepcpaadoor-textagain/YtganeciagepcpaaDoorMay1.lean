/- The contract of pollardingref1.May: it tells what the plain function mayB tells. -/
import Derived.Test.YtganeciagepcpaaDoorRows
import Derived.Test.YtganeciagepcpaaDoorAt
import Derived.WalkKit
import Derived.WalkSpells
import Derived.Deep.Cut
import Derived.Deep.CutRange
namespace Go.Proofs.YtganeciagepcpaaDoor
open Go.RowKit

def symB (T N : Int) (s : Sy) : Bool := decide (0 ≤ s.2 ∧ s.2 < if s.1 then T else N)
def ruleB (T N : Int) (r : Ru) : Bool := decide (0 ≤ r.1 ∧ r.1 < N ∧ r.2.length ≤ 8) && r.2.all (symB T N)
def headB (T N : Int) (n : Nat) : Bool := decide (0 ≤ T ∧ T ≤ 8 ∧ 1 ≤ N ∧ N ≤ 12 ∧ n ≤ 40)
/-- A1: may a grammar be? -/
def mayB (T N : Int) (R : List Ru) : Bool := headB T N R.length && R.all (ruleB T N)

theorem all_take_succ {α : Type} (f : α → Bool) (l : List α) (d : α) (j : Nat) (h : j < l.length) : (l.take (j + 1)).all f = ((l.take j).all f && f (l.getD j d)) := by
  rw [List.take_succ_eq_append_getElem h, List.all_append]
  simp [List.getD, h]

theorem all_of_take {α : Type} (f : α → Bool) (l : List α) (j : Nat) (h : l.length ≤ j) : (l.take j).all f = l.all f := by
  rw [List.take_of_length_le h]

theorem not_all {α : Type} (f : α → Bool) (l : List α) (d : α) (j : Nat) (h : j < l.length) (hf : f (l.getD j d) = false) : l.all f = false := by
  rw [List.all_eq_false]
  refine ⟨l[j], List.getElem_mem h, ?_⟩
  simpa [List.getD, h] using hf

theorem rule_bad {T N : Int} {R : List Ru} {j : Nat} (hj : j < R.length) (h : ruleB T N (R.getD j (0, [])) = false) : R.all (ruleB T N) = false := not_all _ R (0, []) j hj h

end Go.Proofs.YtganeciagepcpaaDoor
