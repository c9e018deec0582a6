/- HeldTail, where what only reads does not stand ahead of all else in the text: the numbers of the operations that are taken first, and of those that follow, are given as lists. No program. -/
import Derived.Test.YtganeciagepcpaaDoorHeldTail
namespace Go.Proofs.YtganeciagepcpaaDoor

section
variable {P : Program} {ops : Array Oper} {Q : Exit → Act → World → Prop} {md : Region.Mode} {S : World → Prop}

/-- Those that are taken first. -/
def StillI (P : Program) (ops : Array Oper) (S : World → Prop) (K : Act → Prop) : List Nat → Act → Prop
  | [], a => K a
  | i :: l, a => ∃ o v, ops[i]? = some o ∧ YieldsIf P ops S o v a ∧ StillI P ops S K l (a.put o.dst v)
theorem StillI.cons {K : Act → Prop} {i : Nat} {o : Oper} {l : List Nat} {a : Act} {v : Value} (ho : ops[i]? = some o) (hw : Region.wanted o (yielded ops a.tmps) = true) (hy : ∀ w, S w → (execOp a.eval o).run P w = .ok (.value v) w) (h : StillI P ops S K l (a.put o.dst v)) : StillI P ops S K (i :: l) a :=
  ⟨o, v, ho, .inl ⟨hw, hy⟩, h⟩

/-- Those that follow. -/
def TailI (P : Program) (ops : Array Oper) (Q : Exit → Act → World → Prop) (S : World → Prop) (n : Nat) : List Nat → Act → World → Prop
  | [], a, w => Q .normal a w
  | k :: l, a, w => ∃ o, ops[k]? = some o ∧ ∀ K : Act → World → Prop, Shut (∀ a w, (k < n → S w) → TailI P ops Q S n l a w → K a w) → if Region.wanted o (yielded ops a.tmps) = true then Oper.wp P o a w K Q else K (a.put o.dst undef) w
theorem TailI.cons {n k : Nat} {o : Oper} {l : List Nat} {a : Act} {w : World} (ho : ops[k]? = some o) (h : ∀ K : Act → World → Prop, Shut (∀ a w, (k < n → S w) → TailI P ops Q S n l a w → K a w) → if Region.wanted o (yielded ops a.tmps) = true then Oper.wp P o a w K Q else K (a.put o.dst undef) w) : TailI P ops Q S n (k :: l) a w := ⟨o, ho, h⟩

end

end Go.Proofs.YtganeciagepcpaaDoor
