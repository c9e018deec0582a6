/- HeldSeq, where of what follows more than one may be the next: each that may is shown. No program. -/
import Derived.Test.YtganeciagepcpaaDoorHeldSeq
namespace Go.Proofs.YtganeciagepcpaaDoor

section
variable {P : Program} {ops : Array Oper} {Q : Exit → Act → World → Prop} {md : Region.Mode} {S : World → Prop}

/-- One step of the operation i. -/
def StepI (P : Program) (ops : Array Oper) (Q : Exit → Act → World → Prop) (S : World → Prop) (n : Nat) (J : Act → World → Prop) (i : Nat) (a : Act) (w : World) : Prop :=
  ∃ o, ops.toList[i]? = some o ∧ ∀ K : Act → World → Prop, Shut (∀ a w, (i < n → S w) → J a w → K a w) → if Region.wanted o (yielded ops a.tmps) = true then Oper.wp P o a w K Q else K (a.put o.dst undef) w
/-- So many follow, in whatever order. -/
def TailA (P : Program) (md : Region.Mode) (ops : Array Oper) (Q : Exit → Act → World → Prop) (S : World → Prop) (n : Nat) : Nat → Array Bool → Act → World → Prop
  | 0, listed, a, w => Region.ready md ops listed = [] ∧ Q .normal a w
  | k + 1, listed, a, w => Region.ready md ops listed ≠ [] ∧ ∀ i ∈ Region.ready md ops listed, StepI P ops Q S n (TailA P md ops Q S n k (listed.setIfInBounds i true)) i a w

theorem TailA.one {n k i : Nat} {listed : Array Bool} {a : Act} {w : World} (hr : decide (Region.ready md ops listed = [i]) = true) (h : StepI P ops Q S n (TailA P md ops Q S n k (listed.setIfInBounds i true)) i a w) : TailA P md ops Q S n (k + 1) listed a w := by
  have hr' := of_decide_eq_true hr
  refine ⟨by rw [hr']; simp, fun j hj => ?_⟩
  rw [hr'] at hj
  have : j = i := by simpa using hj
  subst this
  exact h
theorem TailA.two {n k i i' : Nat} {listed : Array Bool} {a : Act} {w : World} (hr : decide (Region.ready md ops listed = [i, i']) = true) (h : StepI P ops Q S n (TailA P md ops Q S n k (listed.setIfInBounds i true)) i a w) (h' : StepI P ops Q S n (TailA P md ops Q S n k (listed.setIfInBounds i' true)) i' a w) : TailA P md ops Q S n (k + 1) listed a w := by
  have hr' := of_decide_eq_true hr
  refine ⟨by rw [hr']; simp, fun j hj => ?_⟩
  rw [hr'] at hj
  simp only [List.mem_cons, List.not_mem_nil, or_false] at hj
  rcases hj with rfl | rfl
  · exact h
  · exact h'
theorem TailA.end {n : Nat} {listed : Array Bool} {a : Act} {w : World} (hr : decide (Region.ready md ops listed = []) = true) (h : Q .normal a w) : TailA P md ops Q S n 0 listed a w := ⟨of_decide_eq_true hr, h⟩

/-- What is listed when those that are taken first are. -/
def listAll : List Nat → Array Bool → Array Bool
  | [], listed => listed
  | i :: l, listed => listAll l (listed.setIfInBounds i true)
def lexA (md : Region.Mode) (ops : Array Oper) : List Nat → Array Bool → Bool
  | [], _ => true
  | k :: ks, listed => (Region.ready md ops listed).contains k && Region.free md ops listed k && lexA md ops ks (listed.setIfInBounds k true)

def heldAnyB (ops : Array Oper) (hs : List Nat) (m n : Nat) : Bool :=
  Region.noSelect ops && decide (n < ops.size) && Region.sinkB .any ops n && Region.chainB .any ops n && (hs.all fun i => decide (i < n)) && decide (hs.length + m = ops.size) && lexA .any ops hs (Array.replicate ops.size false)

end

end Go.Proofs.YtganeciagepcpaaDoor
