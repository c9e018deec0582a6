/- Plain: are all names of symbols so? -/
import Derived.Test.YtifacfhlgilgoaaMath
namespace Go.Proofs.Ytifacfhlgilgoaa

def allB (X : List Bool) (l : List Sy) : Bool := l.all fun s => s.1 || X.getD s.2.toNat false

theorem allB_take (X : List Bool) (l : List Sy) (i : Nat) (h : i < l.length) : allB X (l.take (i + 1)) = (allB X (l.take i) && ((l.getD i (false, 0)).1 || X.getD (l.getD i (false, 0)).2.toNat false)) := by
  unfold allB
  rw [List.take_succ_eq_append_getElem h, List.all_append]
  simp [List.getD, h]

theorem allB_bad (X : List Bool) (l : List Sy) (i : Nat) (h : i < l.length) (hb : ((l.getD i (false, 0)).1 || X.getD (l.getD i (false, 0)).2.toNat false) = false) : allB X l = false := by
  unfold allB
  rw [List.all_eq_false]
  refine ⟨l[i], List.getElem_mem h, ?_⟩
  have e : l.getD i (false, 0) = l[i] := by simp [List.getD, h]
  rw [e] at hb
  rw [hb]
  simp

end Go.Proofs.Ytifacfhlgilgoaa
