/- HeldAny, where what only reads may be taken first also among what follows. No program. -/
import Derived.Test.YtganeciagepcpaaDoorHeldAny
namespace Go.Proofs.YtganeciagepcpaaDoor

section
variable {P : Program} {ops : Array Oper} {Q : Exit → Act → World → Prop} {S : World → Prop}

def headMixB (ops : Array Oper) (n : Nat) : Bool := Region.noSelect ops && decide (n < ops.size) && Region.sinkB .any ops n && Region.chainB .any ops n

/-- So many follow, in whatever order. -/
def TailC (P : Program) (ops : Array Oper) (Q : Exit → Act → World → Prop) (S : World → Prop) (n k : Nat) (listed : Array Bool) (a : Act) (w : World) : Prop :=
  headMixB ops n = true → HeadInv .any ops n listed → wpAnyG P .any ops (NoPanic Q) S n k listed a w

theorem tailC_step {n k : Nat} {listed : Array Bool} {a : Act} {w : World} (hb : headMixB ops n = true) (inv : HeadInv .any ops n listed) (h0 : Region.ready .any ops listed ≠ []) (h : ∀ i ∈ Region.ready .any ops listed, i < n ∧ StepI P ops (NoPanic Q) S n (TailC P ops Q S n k (listed.setIfInBounds i true)) i a w) : wpAnyG P .any ops (NoPanic Q) S n (k + 1) listed a w := by
  refine ⟨fun h1 => absurd h1 h0, fun i hi => ?_⟩
  obtain ⟨hin, o, ho, h⟩ := h i hi
  have h1 := h (fun a' w' => (i < n → S w') ∧ wpAnyG P .any ops (NoPanic Q) S n k (listed.setIfInBounds i true) a' w')
    (fun a' w' hS hT => ⟨hS, hT hb (inv.set hi hin)⟩)
  have h0' : ops[i]? = some o := by simpa using ho
  unfold wpOp
  simp only [h0']
  split
  · rename_i hw
    rw [if_pos hw] at h1
    exact .inl h1
  · rename_i hw
    rw [if_neg hw] at h1
    exact h1

theorem TailC.one {n k i : Nat} {listed : Array Bool} {a : Act} {w : World} (hr : (decide (Region.ready .any ops listed = [i]) && decide (i < n)) = true) (h : StepI P ops (NoPanic Q) S n (TailC P ops Q S n k (listed.setIfInBounds i true)) i a w) : TailC P ops Q S n (k + 1) listed a w := fun hb inv => by
  simp only [Bool.and_eq_true, decide_eq_true_eq] at hr
  refine tailC_step hb inv (by rw [hr.1]; simp) fun j hj => ?_
  rw [hr.1] at hj
  have : j = i := by simpa using hj
  subst this
  exact ⟨hr.2, h⟩
theorem TailC.two {n k i i' : Nat} {listed : Array Bool} {a : Act} {w : World} (hr : (decide (Region.ready .any ops listed = [i, i']) && decide (i < n) && decide (i' < n)) = true) (h : StepI P ops (NoPanic Q) S n (TailC P ops Q S n k (listed.setIfInBounds i true)) i a w) (h' : StepI P ops (NoPanic Q) S n (TailC P ops Q S n k (listed.setIfInBounds i' true)) i' a w) : TailC P ops Q S n (k + 1) listed a w := fun hb inv => by
  simp only [Bool.and_eq_true, decide_eq_true_eq] at hr
  refine tailC_step hb inv (by rw [hr.1.1]; simp) fun j hj => ?_
  rw [hr.1.1] at hj
  simp only [List.mem_cons, List.not_mem_nil, or_false] at hj
  rcases hj with rfl | rfl
  · exact ⟨hr.1.2, h⟩
  · exact ⟨hr.2, h'⟩
/-- One that only reads is taken first. -/
theorem TailC.read {n k i : Nat} {o : Oper} {listed : Array Bool} {a : Act} {w : World} {v : Value} (ho : ops.toList[i]? = some o) (hr : ((Region.ready .any ops listed).contains i && Region.free .any ops listed i && decide (i < n)) = true) (hw : Region.wanted o (yielded ops a.tmps) = true) (hy : ∀ w, S w → (execOp a.eval o).run P w = .ok (.value v) w) (hS : S w) (h : TailC P ops Q S n k (listed.setIfInBounds i true) (a.put o.dst v) w) : TailC P ops Q S n (k + 1) listed a w := fun hb inv => by
  have hb' := hb
  simp only [headMixB, Bool.and_eq_true, decide_eq_true_eq] at hb'
  obtain ⟨⟨⟨hsel, hn⟩, hsk⟩, hc⟩ := hb'
  simp only [Bool.and_eq_true, decide_eq_true_eq] at hr
  have hi : ops[i]? = some o := by simpa using ho
  have hmem : i ∈ Region.ready .any ops listed := by simpa using hr.1.1
  obtain ⟨o', v', h0, hy', hK⟩ := (StillI.cons (K := fun a' => a' = a.put o.dst v) (l := []) hi hw hy rfl : StillI P ops S (fun a' => a' = a.put o.dst v) [i] a)
  rw [hi] at h0
  cases h0
  have hK' : a.put o.dst v' = a.put o.dst v := hK
  refine wpAnyG_first hi (Region.noSelect_spec hsel) (fun _ _ _ h => h) hsk hc hn hr.2 k listed a w inv (Region.free_spec hi hr.1.2) hmem hy' hS ?_
  rw [hK']
  exact h hb (inv.set hmem hr.2)
/-- The last one. -/
theorem TailC.last {n i : Nat} {listed : Array Bool} {a : Act} {w : World} (hr : (decide (Region.ready .any ops listed = [i]) && decide (Region.ready .any ops (listed.setIfInBounds i true) = [])) = true) (h : ∃ o, ops.toList[i]? = some o ∧ ∀ K : Act → World → Prop, Shut (∀ a w, (i < n → S w) → NoPanic Q .normal a w → K a w) → if Region.wanted o (yielded ops a.tmps) = true then Oper.wp P o a w K (NoPanic Q) else K (a.put o.dst undef) w) : TailC P ops Q S n 1 listed a w := fun _ _ => by
  simp only [Bool.and_eq_true, decide_eq_true_eq] at hr
  refine ⟨fun h1 => absurd h1 (by rw [hr.1]; simp), fun j hj => ?_⟩
  rw [hr.1] at hj
  have : j = i := by simpa using hj
  subst this
  obtain ⟨o, ho, h⟩ := h
  have h1 := h (fun a' w' => (j < n → S w') ∧ wpAnyG P .any ops (NoPanic Q) S n 0 (listed.setIfInBounds j true) a' w') (fun a' w' hS hT => ⟨hS, hr.2, hT⟩)
  have h0' : ops[j]? = some o := by simpa using ho
  unfold wpOp
  simp only [h0']
  split
  · rename_i hw
    rw [if_pos hw] at h1
    exact .inl h1
  · rename_i hw
    rw [if_neg hw] at h1
    exact h1

theorem wpAnyG_lexC {n m : Nat} (hb : headMixB ops n = true) {w : World} (hS : S w) :
    ∀ (l : List Nat) (listed : Array Bool) (a : Act), (∀ i ∈ l, i < n) → HeadInv .any ops n listed → lexA .any ops l listed = true → StillI P ops S (fun a' => TailC P ops Q S n m (listAll l listed) a' w) l a →
    wpAnyG P .any ops (NoPanic Q) S n (l.length + m) listed a w
  | [], listed, a, _, inv, _, h => by
    simp only [List.length_nil, Nat.zero_add]
    exact h hb inv
  | k :: l, listed, a, hl, inv, hB, h => by
    have hb' := hb
    simp only [headMixB, Bool.and_eq_true, decide_eq_true_eq] at hb'
    obtain ⟨⟨⟨hsel, hn⟩, hsk⟩, hc⟩ := hb'
    simp only [lexA, Bool.and_eq_true] at hB
    obtain ⟨⟨hr, hf⟩, hB'⟩ := hB
    have hkn := hl k (by simp)
    have hr' : k ∈ Region.ready .any ops listed := by simpa using hr
    obtain ⟨o, v, h0, hy, hK⟩ := h
    rw [show (k :: l).length + m = (l.length + m) + 1 by simp only [List.length_cons]; omega]
    exact wpAnyG_first h0 (Region.noSelect_spec hsel) (fun _ _ _ h => h) hsk hc hn hkn _ listed a w inv (Region.free_spec h0 hf) hr' hy hS
      (wpAnyG_lexC hb hS l _ _ (fun i hi => hl i (List.mem_cons_of_mem _ hi)) (inv.set hr' hkn) hB' hK)

theorem wp_region_mix {id : Nat} {a : Act} {w : World} (hs : List Nat) (m n : Nat) (S : World → Prop) (hm : P.follows .mixedOrders = true) (hB : heldAnyB ops hs m n = true) (hS : S w.drew)
    (h : StillI P ops S (fun a' => TailC P ops Q S n m (listAll hs (Array.replicate ops.size false)) a' w.drew) hs a) : (Code.region id ops true).wp P Q a w := by
  simp only [heldAnyB, Bool.and_eq_true, decide_eq_true_eq, List.all_eq_true] at hB
  obtain ⟨⟨⟨⟨⟨⟨hsel, hn⟩, hsk⟩, hc⟩, hl⟩, hlen⟩, hlex⟩ := hB
  have inv0 : HeadInv .any ops n (Array.replicate ops.size false) :=
    ⟨by simp, fun j oj _ hl => (by rw [getD_replicate_false] at hl; cases hl), fun t _ ht => Go.getD_in (by simpa using ht) (getD_replicate_false _ _)⟩
  refine wp_region_noPanic (wp_region_any hm (wpAny_of_G (S := S) (n := n) _ _ _ _ ?_))
  have hb : headMixB ops n = true := by simp only [headMixB, Bool.and_eq_true, decide_eq_true_eq]; exact ⟨⟨⟨hsel, hn⟩, hsk⟩, hc⟩
  have := wpAnyG_lexC (Q := Q) (m := m) hb hS hs _ a hl inv0 hlex h
  rw [hlen] at this
  exact this
end

end Go.Proofs.YtganeciagepcpaaDoor
