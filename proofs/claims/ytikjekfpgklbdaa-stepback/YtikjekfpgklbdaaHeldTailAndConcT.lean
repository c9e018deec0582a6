import Derived.Test.YtikjekfpgklbdaaBitsAndStepMath
import Derived.Deep.RegionHeld3
import Derived.Laws.AppendOwnNone
import Derived.Lib.AppendZeros
/- A region that draws its order: what its first operations read is the same in every world that meets S, whenever they come up; the others follow one another, and keep S, but the last of all. One walk, in the order of the text. No program. -/
namespace Go.Proofs.Ytikjekfpgklbdaa

section
variable {P : Program} {ops : Array Oper} {Q : Exit → Act → World → Prop} {md : Region.Mode} {S : World → Prop}

/-- Whatever order is picked from here on, S holds behind each operation ahead of number n. -/
def wpAnyG (P : Program) (md : Region.Mode) (ops : Array Oper) (Q : Exit → Act → World → Prop) (S : World → Prop) (n : Nat) : Nat → Array Bool → Act → World → Prop
  | 0, listed, a, w => Region.ready md ops listed = [] ∧ Q .normal a w
  | fuel + 1, listed, a, w =>
    (Region.ready md ops listed = [] → Q .normal a w) ∧
    ∀ i ∈ Region.ready md ops listed, wpOp P ops Q i (fun a' w' => (i < n → S w') ∧ wpAnyG P md ops Q S n fuel (listed.setIfInBounds i true) a' w') a w

theorem wpAny_of_G {n : Nat} : ∀ (fuel : Nat) (listed : Array Bool) (a : Act) (w : World), wpAnyG P md ops Q S n fuel listed a w → wpAny P md ops Q fuel listed a w
  | 0, _, _, _, h => h
  | fuel + 1, _, _, _, h => ⟨h.1, fun i hi => wpOp_mono (fun a' w' h' => wpAny_of_G fuel _ a' w' h'.2) (h.2 i hi)⟩

theorem wpAnyG_first {n i : Nat} {oi : Oper} {v : Value} (hi : ops[i]? = some oi) (hsel : ∀ (j : Nat) (o : Oper) cs b, ops[j]? = some o → o.op ≠ .select cs b)
    (hQ : ∀ c a w, Q (.panic c) (a.put oi.dst v) w → Q (.panic c) a w) (hs : Region.sinkB md ops n = true) (hc : Region.chainB md ops n = true) (hn : n < ops.size) (hin : i < n) :
    ∀ (fuel : Nat) (listed : Array Bool) (a : Act) (w : World), HeadInv md ops n listed →
      (∀ j oj, ops[j]? = some oj → j ≠ i → listed.getD j true = false → (∀ e ∈ oj.after, Region.binds md e = true → e.on ≠ i) → oi.apart ops oj = true) →
      i ∈ Region.ready md ops listed → YieldsIf P ops S oi v a → S w →
      wpAnyG P md ops Q S n fuel (listed.setIfInBounds i true) (a.put oi.dst v) w → wpAnyG P md ops Q S n (fuel + 1) listed a w := by
  intro fuel
  induction fuel with
  | zero =>
    intro listed a w _ _ hr hy hS H
    refine ⟨fun h => (by rw [h] at hr; cases hr), fun j hj => ?_⟩
    by_cases hji : j = i
    · subst hji; exact hy.wpOp hi hS ⟨fun _ => hS, H⟩
    · have := ready_mono hj hji
      rw [H.1] at this
      cases this
  | succ fuel ih =>
    intro listed a w inv hfree hr hy hS H
    have hun := (mem_ready.1 hr).1
    refine ⟨fun h => (by rw [h] at hr; cases hr), fun j hj => ?_⟩
    by_cases hji : j = i
    · subst hji; exact hy.wpOp hi hS ⟨fun _ => hS, H⟩
    · have hjn : j < n := by
        rcases Nat.lt_or_ge j n with h | h
        · exact h
        · exact absurd hj (tail_waits hs hc hn inv _ i rfl hin hun j h)
      have h1 := H.2 j (ready_mono hj hji)
      obtain ⟨hjun, oj, hoj, hall⟩ := mem_ready.1 hj
      have hnot : ∀ e ∈ oj.after, Region.binds md e = true → e.on ≠ i := fun e he hb heq => by
        have h1 := hall e he hb
        rw [heq, getD_both hun] at h1
        cases h1
      have h2 := wpOp_putIf hoj (hfree j oj hoj hji hjun hnot) (fun cs b => hsel i oi cs b hi) (fun cs b => hsel j oj cs b hoj) hQ hy h1
      have hfree' : ∀ k ok, ops[k]? = some ok → k ≠ i → (listed.setIfInBounds j true).getD k true = false →
          (∀ e ∈ ok.after, Region.binds md e = true → e.on ≠ i) → oi.apart ops ok = true := fun k ok hk hki hun hno => by
        refine hfree k ok hk hki ?_ hno
        by_cases hjk : j = k
        · subst hjk; exact hjun
        · rw [getD_set_ne true hjk] at hun; exact hun
      refine wpOp_mono (fun a' w' h3 => ⟨h3.2.1, ih (listed.setIfInBounds j true) a' w' (inv.set hj hjn) hfree' (ready_mono hr (Ne.symm hji)) h3.1 (h3.2.1 hjn) ?_⟩) h2
      rw [Array.setIfInBounds_comm _ _ hji]
      exact h3.2.2

/-- The first operations, one after another: each yields its value in every world that meets S. -/
def StillS (P : Program) (ops : Array Oper) (S : World → Prop) (K : Act → Prop) : List Oper → Act → Prop
  | [], a => K a
  | o :: l, a => ∃ v, YieldsIf P ops S o v a ∧ StillS P ops S K l (a.put o.dst v)

theorem StillS.cons {K : Act → Prop} {o : Oper} {l : List Oper} {a : Act} {v : Value} (hw : Region.wanted o (yielded ops a.tmps) = true) (hy : ∀ w, S w → (execOp a.eval o).run P w = .ok (.value v) w) (h : StillS P ops S K l (a.put o.dst v)) : StillS P ops S K (o :: l) a :=
  ⟨v, .inl ⟨hw, hy⟩, h⟩

end

end Go.Proofs.Ytikjekfpgklbdaa

/- HeldTail, where what only reads does not stand ahead of all else in the text: the numbers of the operations that are taken first, and of those that follow, are given as lists. No program. -/
namespace Go.Proofs.Ytikjekfpgklbdaa

section
variable {P : Program} {ops : Array Oper} {Q : Exit → Act → World → Prop} {md : Region.Mode} {S : World → Prop}

def seqI (md : Region.Mode) (ops : Array Oper) : List Nat → Array Bool → Bool
  | [], listed => (Region.ready md ops listed).isEmpty
  | k :: ks, listed => decide (Region.ready md ops listed = [k]) && seqI md ops ks (listed.setIfInBounds k true)
def lexI (md : Region.Mode) (ops : Array Oper) (ts : List Nat) : List Nat → Array Bool → Bool
  | [], listed => seqI md ops ts listed
  | k :: ks, listed => (Region.ready md ops listed).contains k && Region.free md ops listed k && lexI md ops ts ks (listed.setIfInBounds k true)

/-- Those that are taken first. -/
def StillI (P : Program) (ops : Array Oper) (S : World → Prop) (K : Act → Prop) : List Nat → Act → Prop
  | [], a => K a
  | i :: l, a => ∃ o v, ops[i]? = some o ∧ YieldsIf P ops S o v a ∧ StillI P ops S K l (a.put o.dst v)
theorem StillI.cons {K : Act → Prop} {i : Nat} {o : Oper} {l : List Nat} {a : Act} {v : Value} (ho : ops[i]? = some o) (hw : Region.wanted o (yielded ops a.tmps) = true) (hy : ∀ w, S w → (execOp a.eval o).run P w = .ok (.value v) w) (h : StillI P ops S K l (a.put o.dst v)) : StillI P ops S K (i :: l) a :=
  ⟨o, v, ho, .inl ⟨hw, hy⟩, h⟩

/-- Those that follow. -/
def TailI (P : Program) (ops : Array Oper) (Q : Exit → Act → World → Prop) (S : World → Prop) (n : Nat) : List Nat → Act → World → Prop
  | [], a, w => Q .normal a w
  | k :: l, a, w => ∃ o, ops[k]? = some o ∧ ∀ K : Act → World → Prop, Shut (∀ a w, (k < n → S w) → TailI P ops Q S n l a w → K a w) → if Region.wanted o (yielded ops a.tmps) = true then Oper.wp P o a w K Q else K (a.put o.dst undef) w
theorem TailI.cons {n k : Nat} {o : Oper} {l : List Nat} {a : Act} {w : World} (ho : ops[k]? = some o) (h : ∀ K : Act → World → Prop, Shut (∀ a w, (k < n → S w) → TailI P ops Q S n l a w → K a w) → if Region.wanted o (yielded ops a.tmps) = true then Oper.wp P o a w K Q else K (a.put o.dst undef) w) : TailI P ops Q S n (k :: l) a w := ⟨o, ho, h⟩

theorem wpAnyG_of_seqI {n : Nat} : ∀ (l : List Nat) (listed : Array Bool) (a : Act) (w : World), seqI md ops l listed = true → TailI P ops Q S n l a w → wpAnyG P md ops Q S n l.length listed a w
  | [], _, _, _, hB, h => ⟨by simpa [seqI] using hB, h⟩
  | k :: l, listed, a, w, hB, h => by
    simp only [seqI, Bool.and_eq_true, decide_eq_true_eq] at hB
    obtain ⟨o, h0, h⟩ := h
    refine ⟨fun h1 => (by rw [hB.1] at h1; cases h1), fun i hi => ?_⟩
    rw [hB.1] at hi
    have hik : i = k := by simpa using hi
    subst hik
    have h1 := h (fun a' w' => (i < n → S w') ∧ wpAnyG P md ops Q S n l.length (listed.setIfInBounds i true) a' w')
      (fun a' w' hS hT => ⟨hS, wpAnyG_of_seqI l _ a' w' hB.2 hT⟩)
    unfold wpOp
    simp only [h0]
    split
    · rename_i hw
      rw [if_pos hw] at h1
      exact .inl h1
    · rename_i hw
      rw [if_neg hw] at h1
      exact h1

theorem wpAnyG_lexI {n : Nat} {ts : List Nat} (hsel : Region.noSelect ops = true) (hQ : ∀ c a d v w, Q (.panic c) (a.put d v) w → Q (.panic c) a w) (hs : Region.sinkB md ops n = true) (hc : Region.chainB md ops n = true) (hn : n < ops.size) {w : World} (hS : S w) :
    ∀ (l : List Nat) (listed : Array Bool) (a : Act), (∀ i ∈ l, i < n) → HeadInv md ops n listed → lexI md ops ts l listed = true → StillI P ops S (fun a' => TailI P ops Q S n ts a' w) l a →
    wpAnyG P md ops Q S n (l.length + ts.length) listed a w
  | [], listed, a, _, _, hB, h => by
    simp only [List.length_nil, Nat.zero_add]
    exact wpAnyG_of_seqI ts listed a w (by simpa [lexI] using hB) h
  | k :: l, listed, a, hl, inv, hB, h => by
    simp only [lexI, Bool.and_eq_true] at hB
    obtain ⟨⟨hr, hf⟩, hB'⟩ := hB
    have hkn := hl k (by simp)
    have hr' : k ∈ Region.ready md ops listed := by simpa using hr
    obtain ⟨o, v, h0, hy, hK⟩ := h
    rw [show (k :: l).length + ts.length = (l.length + ts.length) + 1 by simp only [List.length_cons]; omega]
    exact wpAnyG_first h0 (Region.noSelect_spec hsel) (fun c a w => hQ c a _ _ w) hs hc hn hkn _ listed a w inv (Region.free_spec h0 hf) hr' hy hS
      (wpAnyG_lexI hsel hQ hs hc hn hS l _ _ (fun i hi => hl i (List.mem_cons_of_mem _ hi)) (inv.set hr' hkn) hB' hK)

def heldSeqB (ops : Array Oper) (hs ts : List Nat) (n : Nat) : Bool :=
  Region.noSelect ops && decide (n < ops.size) && Region.sinkB .any ops n && Region.chainB .any ops n && (hs.all fun i => decide (i < n)) && decide (hs.length + ts.length = ops.size) && lexI .any ops ts hs (Array.replicate ops.size false)

theorem wp_region_held_seq {id : Nat} {a : Act} {w : World} (hs ts : List Nat) (n : Nat) (S : World → Prop) (hm : P.follows .mixedOrders = true) (hB : heldSeqB ops hs ts n = true) (hS : S w.drew)
    (h : StillI P ops S (fun a' => TailI P ops (NoPanic Q) S n ts a' w.drew) hs a) : (Code.region id ops true).wp P Q a w := by
  simp only [heldSeqB, Bool.and_eq_true, decide_eq_true_eq, List.all_eq_true] at hB
  obtain ⟨⟨⟨⟨⟨⟨hsel, hn⟩, hsk⟩, hc⟩, hl⟩, hlen⟩, hlex⟩ := hB
  have inv0 : HeadInv .any ops n (Array.replicate ops.size false) :=
    ⟨by simp, fun j oj _ hl => (by rw [getD_replicate_false] at hl; cases hl), fun t _ ht => Go.getD_in (by simpa using ht) (getD_replicate_false _ _)⟩
  refine wp_region_noPanic (wp_region_any hm (wpAny_of_G (S := S) (n := n) _ _ _ _ ?_))
  have := wpAnyG_lexI (md := .any) (Q := NoPanic Q) hsel (fun _ _ _ _ _ h => h) hsk hc hn hS hs _ a hl inv0 hlex h
  rw [hlen] at this
  exact this
end

end Go.Proofs.Ytikjekfpgklbdaa

/- How symbols and rules that a step makes lie in memory; the contracts of pollardingref8's copied, own, swapped. -/
namespace Go.Proofs.Ytikjekfpgklbdaa
open Go.RowKit

theorem StillI.con8 {P : Program} {ops : Array Oper} {S : World → Prop} {K : Act → Prop} {i : Nat} {o : Oper} {l : List Nat} {a : Act} {v : Value} (ho : ops.toList[i]? = some o) (hw : Region.wanted o (yielded ops a.tmps) = true) (hy : ∀ w, S w → (execOp a.eval o).run P w = .ok (.value v) w) (h : StillI P ops S K l (a.put o.dst v)) : StillI P ops S K (i :: l) a :=
  StillI.cons (by simpa using ho) hw hy h
theorem TailI.con8 {P : Program} {ops : Array Oper} {Q : Exit → Act → World → Prop} {S : World → Prop} {n k : Nat} {o : Oper} {l : List Nat} {a : Act} {w : World} (ho : ops.toList[k]? = some o) (h : ∀ K : Act → World → Prop, Shut (∀ a w, (k < n → S w) → TailI P ops Q S n l a w → K a w) → if Region.wanted o (yielded ops a.tmps) = true then Oper.wp P o a w K Q else K (a.put o.dst undef) w) : TailI P ops Q S n (k :: l) a w :=
  TailI.cons (by simpa using ho) h

def syV (s : Sy) : List Value := [.bool s.1, .int .i64 s.2]
def flatY (l : List Sy) : List Value := l.flatMap syV

section
variable {l m : List Sy}
theorem flatY_len (l : List Sy) : (flatY l).length = l.length * 2 := by
  unfold flatY
  induction l with
  | nil => rfl
  | cons a L ih => rw [List.flatMap_cons, List.length_append, ih]; simp [syV]; omega
theorem flatY_get {i j : Nat} (hi : i < l.length) (hj : j < 2) : (flatY l)[i * 2 + j]? = (syV (l.getD i (false, 0)))[j]? := by
  unfold flatY
  induction l generalizing i with
  | nil => simp at hi
  | cons a L ih =>
    rw [List.flatMap_cons]
    cases i with
    | zero => rw [List.getElem?_append_left (by simp [syV]; omega)]; simp
    | succ i =>
      rw [List.getElem?_append_right (by simp [syV]; omega)]
      simp only [syV, List.length_cons, List.length_nil]
      rw [show (i + 1) * 2 + j - (0 + 1 + 1) = i * 2 + j by omega]
      have := ih (i := i) (by simpa using hi)
      simpa [List.getD, syV] using this
theorem flatY_append (l m : List Sy) : flatY (l ++ m) = flatY l ++ flatY m := by simp [flatY]
theorem flatY_one (l : List Sy) : ∀ u ∈ flatY l, u.oneCell' = true := fun u hu => by
  unfold flatY at hu
  obtain ⟨x, _, hu⟩ := List.mem_flatMap.1 hu
  simp only [syV, List.mem_cons, List.not_mem_nil, or_false] at hu
  rcases hu with rfl | rfl <;> rfl
theorem flatY_set {i : Nat} {v : Int} (hi : i < l.length) : (flatY l).set (i * 2 + 1) (.int .i64 v) = flatY (l.set i ((l.getD i (false, 0)).1, v)) := by
  unfold flatY
  induction l generalizing i with
  | nil => simp at hi
  | cons a L ih =>
    cases i with
    | zero => simp [syV]
    | succ i =>
      have := ih (i := i) (by simpa using hi)
      rw [List.flatMap_cons, List.set_cons_succ, List.flatMap_cons, List.set_append_right _ _ (by simp [syV]; omega)]
      simp only [syV, List.length_cons, List.length_nil] at this ⊢
      rw [show (i + 1) * 2 + 1 - (0 + 1 + 1) = i * 2 + 1 by omega, this]
      simp [List.getD]
end

/-- Symbols that lie at a slice value, in a block of A. -/
def SyHas (w : World) (A : Nat → Prop) (v : Value) (l : List Sy) : Prop :=
  (∃ a c, v = .slice a l.length c ∧ l.length ≤ c) ∧ ∀ j, j < l.length → ∃ b o c, v = .slice (some ⟨b, o, none⟩) l.length c ∧ A b ∧ b < w.heap.size ∧ w.cell? ⟨b, o + j * 2, none⟩ = some (.bool (l.getD j (false, 0)).1) ∧ w.cell? ⟨b, o + j * 2 + 1, none⟩ = some (.int .i64 (l.getD j (false, 0)).2)

section
variable {w w' : World} {A A' : Nat → Prop} {v : Value} {l : List Sy}
theorem SyHas.kept (h : SyHas w A v l) (hs : w.heap.size ≤ w'.heap.size) (hb : ∀ b, A b → b < w.heap.size → w'.heap[b]? = w.heap[b]? ∧ A' b) : SyHas w' A' v l :=
  ⟨h.1, fun j hj => let ⟨b, o, c, h1, h2, h3, h4, h5⟩ := h.2 j hj
    ⟨b, o, c, h1, (hb b h2 h3).2, by omega, (World.cell?_of_block (w := w) (hb b h2 h3).1).trans h4, (World.cell?_of_block (w := w) (hb b h2 h3).1).trans h5⟩⟩
theorem SyHas.below (h : SyHas w A v l) (hb : Below w.heap.size w w') : SyHas w' A v l := h.kept hb.size fun b hA hlt => ⟨hb.block b hlt, hA⟩
theorem SyHas.syms (h : SyHas w A v l) : SymsAt w v l := ⟨h.1, fun j hj => let ⟨b, o, c, h1, _, _, h4, h5⟩ := h.2 j hj; ⟨b, o, c, h1, h4, h5⟩⟩
theorem own_syIn {base : Nat} (h : w.ownsRow base 52 2 v l.length (flatY l)) : SyHas w (fun b => v.ownBlock = some b ∧ base ≤ b) v l := by
  have hh := h
  obtain ⟨_, ⟨hv, h0⟩ | ⟨g, cap, cur, e, hb, _, hle, _⟩⟩ := hh
  · exact ⟨⟨none, 0, by rw [hv, h0], by omega⟩, fun j hj => by omega⟩
  · subst e
    refine ⟨⟨_, _, rfl, hle⟩, fun j hj => ⟨g, 0, cap, rfl, ⟨rfl, hb⟩, (h.lt g rfl).2, ?_, ?_⟩⟩
    · rw [Nat.zero_add, h.cellAt (j * 2) (by omega)]
      exact flatY_get (j := 0) hj (by omega)
    · rw [Nat.zero_add, h.cellAt (j * 2 + 1) (by omega)]
      exact flatY_get (j := 1) hj (by omega)
/-- The cells of symbols, one by one. -/
theorem SymsAt.news (h : SymsAt w v l) (hl : 0 < l.length) : ∃ ad c, v = .slice (some ad) l.length c ∧ ∀ j u, (flatY l)[j]? = some u → w.cell? (ad.add j) = some u := by
  obtain ⟨b, o, c, h1, _, _⟩ := h.2 0 hl
  refine ⟨⟨b, o, none⟩, c, h1, fun j u hu => ?_⟩
  have hj := (List.getElem?_eq_some_iff.1 hu).1
  rw [flatY_len] at hj
  obtain ⟨b', o', c', h2, h3, h4⟩ := h.2 (j / 2) (by omega)
  rw [h1] at h2
  cases h2
  rw [Addr.add_lit]
  rcases Nat.mod_two_eq_zero_or_one j with h5 | h5
  · have e : j = j / 2 * 2 + 0 := by omega
    rw [e, flatY_get (by omega) (by omega)] at hu
    simp only [syV, List.getElem?_cons_zero, Option.some.injEq] at hu
    rw [← hu, ← h3, e]
    congr 3
    omega
  · have e : j = j / 2 * 2 + 1 := by omega
    rw [e, flatY_get (by omega) (by omega)] at hu
    simp only [syV, List.getElem?_cons_succ, List.getElem?_cons_zero, Option.some.injEq] at hu
    rw [← hu, ← h4]
    congr 2
    omega
end

theorem Try.infoSy8 : (Try.prog.info? 52).map (fun i => (i.zero, i.size, i.bytes)) = some (some (.agg #[.bool false, .int .i64 0]), 2, 16) := by kernel_rfl
theorem Try.infoRu8 : (Try.prog.info? 44).map (fun i => (i.zero, i.size, i.bytes)) = some (some (.agg #[.int .i64 0, .slice none 0 0]), 2, 32) := by kernel_rfl

theorem append_no8 {w : World} {b n c d : Nat} {sa : Option Addr} (hn : n ≤ d) : (Builtin.append_ #[ 41, 41 ] 41 #[.slice (some ⟨b, 0, none⟩) n d, .slice sa 0 c]).run Try.prog w = .ok (.slice (some ⟨b, 0, none⟩) n d) w := by
  cases sa <;> go_simp

/-- append(x, l...), x being the call's own: what comes of it. -/
theorem append_syms {w : World} {base g n d : Nat} {xs l : List Sy} {lv : Value} (ho : w.ownsRow base 52 2 (.slice (some ⟨g, 0, none⟩) n d) n (flatY xs)) (hl : SymsAt w lv l) (hb : base ≤ w.heap.size) (hs : n + l.length ≤ 100000) :
    ∃ g' d' w', (Builtin.append_ #[ 41, 41 ] 41 #[.slice (some ⟨g, 0, none⟩) n d, lv]).run Try.prog w = .ok (.slice (some ⟨g', 0, none⟩) (n + l.length) d') w' ∧ w'.ownsRow base 52 2 (.slice (some ⟨g', 0, none⟩) (n + l.length) d') (n + l.length) (flatY (xs ++ l)) ∧ w.grownBy w' (some g) ∧ (g' = g ∨ g' = w.heap.size) := by
  rcases Nat.eq_zero_or_pos l.length with h0 | h0
  · have he : l = [] := List.eq_nil_of_length_eq_zero h0
    subst he
    obtain ⟨a, c, hlv, _⟩ := hl.1
    rw [hlv]
    have hnd : n ≤ d := by
      obtain ⟨_, ⟨hx, _⟩ | ⟨_, _, _, hx, _, _, h5, _⟩⟩ := ho
      · cases hx
      · injection hx with _ _ hx3; omega
    exact ⟨g, d, w, append_no8 hnd, by simpa using ho, ⟨rfl, rfl, rfl, Nat.le_refl _, fun _ _ _ => rfl⟩, .inl rfl⟩
  · obtain ⟨ad, c, hlv, hnews⟩ := hl.news h0
    obtain ⟨i1, hi1, hy0, hy1, hy2⟩ := info_parts Try.infoSy8
    obtain ⟨g', cap, w', hr, h2, h3, h4, _⟩ := run_append_lies (P := Try.prog) w 41 41 base 52 i1 _ 2 16 Try.underlying41 hi1 hy0 hy1 hy2 rfl (by omega) (.slice (some ⟨g, 0, none⟩) n d) n (flatY xs) ho ad l.length c (flatY l) (flatY_len l) hnews (flatY_one l) h0 (by simp only [maxLen]; omega) (by omega) hb w.heap.size rfl
    rw [hlv]
    refine ⟨g', cap, w', hr, by rw [flatY_append]; exact h2, h3, ?_⟩
    rcases h4 with h4 | h4
    · simp only [Value.ownBlock, Option.some.injEq] at h4
      exact .inl h4.symm
    · exact .inr h4

/-- The same, as a walk takes it. -/
theorem wpList_append_syms {w : World} {ops : Array Oper} {rest : List Oper} {o : Oper} {a : Act} {Q : Exit → Act → World → Prop} (hgd : o.guard = none) (s x : Operand) (ho' : o.op = .call { callee := .builtin .append, args := #[s, x], argTypes := #[ 41, 41 ] }) (hty : o.type = 41)
    {base g n d : Nat} {xs l : List Sy} {lv : Value} (hsv : a.eval s = .slice (some ⟨g, 0, none⟩) n d) (hxv : a.eval x = lv) (ho : w.ownsRow base 52 2 (.slice (some ⟨g, 0, none⟩) n d) n (flatY xs)) (hl : SymsAt w lv l) (hb : base ≤ w.heap.size) (hs : n + l.length ≤ 100000)
    (h : ∀ g' d' w', w'.ownsRow base 52 2 (.slice (some ⟨g', 0, none⟩) (n + l.length) d') (n + l.length) (flatY (xs ++ l)) → w.grownBy w' (some g) → (g' = g ∨ g' = w.heap.size) → wpList Try.prog ops Q rest (a.put o.dst (.slice (some ⟨g', 0, none⟩) (n + l.length) d')) w') : wpList Try.prog ops Q (o :: rest) a w := by
  obtain ⟨g', d', w', hr, h1, h2, h3⟩ := append_syms ho hl hb hs
  refine wpList_plain hgd fun K hK => ?_
  unfold Oper.wp execOp
  simp only [ho', hty, resolve, invoke, builtin, Sem.run_bind, Sem.run_pure, Result.andThen_ok, List.map_toArray, List.map_cons, List.map_nil, hsv, hxv, hr]
  exact hK _ _ (h g' d' w' h1 h2 h3)

/-- x[f:] of symbols. -/
theorem sy_from {la : Option Addr} {f n sl lc : Nat} {fi : Int} (hf : fi = f) (hs : sl = f + n) : ∃ A, (∀ w : World, Sem.run Try.prog (Instr.sliceAt 41 (.slice la sl lc) (some (.int .i64 fi)) none none) w = .ok (.slice A n (lc - f)) w) ∧ (lc ≠ f → A = la.map (·.add (f * 2))) := by
  subst hf
  have h0 : (0 : Int) ≤ (f : Int) := Int.natCast_nonneg _
  have h1 : (f : Int) ≤ (sl : Int) := by omega
  have h2 : sl - f = n := by omega
  refine ⟨if lc = f then la else la.map (·.add (f * 2)), fun w => ?_, fun h => by rw [if_neg h]⟩
  go_simp
  intro h
  omega
/-- x[:f] of symbols. -/
theorem sy_upto {g f sl lc : Nat} {fi : Int} (hf : fi = f) (hu : f ≤ lc) (w : World) : Sem.run Try.prog (Instr.sliceAt 41 (.slice (some ⟨g, 0, none⟩) sl lc) none (some (.int .i64 fi)) none) w = .ok (.slice (some ⟨g, 0, none⟩) f lc) w := by
  subst hf
  have h0 : (0 : Int) ≤ (f : Int) := Int.natCast_nonneg _
  have h1 : (f : Int) ≤ (lc : Int) := by omega
  go_simp
/-- What is left of symbols can be read. -/
theorem SymsAt.drop8 {w : World} {g d f n : Nat} {A : Option Addr} {l : List Sy} (h : SymsAt w (.slice (some ⟨g, 0, none⟩) l.length d) l) (hl : l.length = f + n) (hA : d ≠ f → A = (some (⟨g, 0, none⟩ : Addr)).map (·.add (f * 2))) : SymsAt w (.slice A n (d - f)) (l.drop f) := by
  obtain ⟨_, _, hv, hd⟩ := h.1
  cases hv
  have hlen : (l.drop f).length = n := by rw [List.length_drop]; omega
  refine ⟨⟨A, d - f, by rw [hlen], by omega⟩, fun j hj => ?_⟩
  rw [hlen] at hj
  have hA' := hA (by omega)
  simp only [Option.map_some, Addr.add_lit, Nat.zero_add] at hA'
  subst hA'
  obtain ⟨b, o, c, hv, h1, h2⟩ := h.2 (f + j) (by omega)
  cases hv
  have e : (l.drop f).getD j (false, 0) = l.getD (f + j) (false, 0) := by simp [List.getD, List.getElem?_drop]
  refine ⟨g, f * 2, d - f, by rw [hlen], ?_, ?_⟩
  · rw [e, ← Nat.add_mul, ← h1, Nat.zero_add]
  · rw [e, ← Nat.add_mul, ← h2, Nat.zero_add]
/-- What is ahead, too. -/
theorem SymsAt.take8 {w : World} {g d f : Nat} {l : List Sy} (h : SymsAt w (.slice (some ⟨g, 0, none⟩) l.length d) l) (hl : f ≤ l.length) : SymsAt w (.slice (some ⟨g, 0, none⟩) f d) (l.take f) := by
  obtain ⟨_, _, hv, hd⟩ := h.1
  cases hv
  have hlen : (l.take f).length = f := by rw [List.length_take]; omega
  refine ⟨⟨_, d, by rw [hlen], by omega⟩, fun j hj => ?_⟩
  rw [hlen] at hj
  obtain ⟨b, o, c, hv, h1, h2⟩ := h.2 j (by omega)
  cases hv
  have e : (l.take f).getD j (false, 0) = l.getD j (false, 0) := by simp [List.getD, hj]
  exact ⟨g, 0, d, by rw [hlen], by rw [e]; exact h1, by rw [e]; exact h2⟩

set_option maxRecDepth 100000 in
theorem copied8_any {w : World} {lv : Value} {l : List Sy} (hl : SymsAt w lv l) (hs : l.length ≤ 1000) :
    Calls Try.prog 12 #[lv] w fun e w' => ∃ g d, e = .returned (.slice (some ⟨g, 0, none⟩) l.length d) ∧ w'.ownsRow w.heap.size 52 2 (.slice (some ⟨g, 0, none⟩) l.length d) l.length (flatY l) ∧ Below w.heap.size w w' := by
  have HB : Hid (Below w.heap.size w (w.alloc (.cells #[] 52))) := (Below.refl _ _).alloc (Nat.le_refl _) _
  have own0 : (w.alloc (.cells #[] 52)).ownsRow w.heap.size 52 2 (.slice (some ⟨w.heap.size, 0, none⟩) 0 0) 0 (flatY []) := ⟨rfl, .inr ⟨w.heap.size, 0, #[], rfl, Nat.le_refl _, heap_alloc_new _ _, Nat.le_refl _, by decide, rfl, rfl⟩⟩
  have hl1 := hl.same (same_alloc w (.cells #[] 52))
  obtain ⟨la, lc, hlv, _⟩ := hl.1
  have HLv : Hid (lv = .slice la l.length lc) := hlv
  clear hl
  go_enter Try.func12, Try.ntmps12
  go_wp2_with
    (at_builtin
     refine wpList_append_syms rfl _ _ rfl rfl rfl rfl own0 hl1 (by simp) (by omega) ?_
     intro g' d' w' hown hgrow hat)
  go_ret
  refine ⟨g', d', rfl, by simpa using hown, HB.out.grown hgrow HB.out.size fun k hk => ?_⟩
  simp only [Option.some.injEq] at hk
  omega

set_option maxRecDepth 100000 in
set_option maxHeartbeats 1600000 in
theorem own8_any {w : World} {L : Int} {lv : Value} {l : List Sy} (hl : SymsAt w lv l) :
    Calls Try.prog 17 #[.agg #[.int .i64 L, lv]] w fun e w' => e = .returned (.bool (ownR (L, l))) ∧ Below w.heap.size w w' := by
  obtain ⟨la, lc, hlv, _⟩ := hl.1
  subst hlv
  have HB : Hid (Below w.heap.size w (w.alloc (.cells #[.int .i64 L, .slice la l.length lc] 44))) := (Below.refl _ _).alloc (Nat.le_refl _) _
  by_cases h0 : 0 < l.length
  · obtain ⟨b, o, c, h1, h2, h3⟩ := (hl.same (same_alloc w (.cells #[.int .i64 L, .slice la l.length lc] 44))).2 0 h0
    cases h1
    simp only [Nat.zero_mul, Nat.add_zero] at h2 h3
    obtain ⟨⟨t, v⟩, hx⟩ : ∃ x, l.getD 0 (false, 0) = x := ⟨_, rfl⟩
    rw [hx] at h2 h3
    simp only at h2 h3
    have i0 : (0 : Int) < (l.length : Int) := by omega
    have hE : ownR (L, l) = (!t && decide (v = L)) := by unfold ownR; simp only [hx]; simp [h0]
    rw [hE]
    clear hl hx hE
    cases t with
    | true =>
      go_enter Try.func17, Try.ntmps17
      go_wp2_with fail
      go_big_quiet (fail)
      go_wp2_with fail
      go_ret
      exact ⟨rfl, below_drewN HB.out _⟩
    | false =>
      by_cases hv : v = L
      · subst hv
        have e1 : (v == v) = true := by simp
        go_enter Try.func17, Try.ntmps17
        go_wp2_with fail
        go_big_quiet (fail)
        go_wp2_with fail
        go_ret
        exact ⟨by simp, below_drewN HB.out _⟩
      · have e1 : (v == L) = false := by simpa using hv
        go_enter Try.func17, Try.ntmps17
        go_wp2_with fail
        go_big_quiet (fail)
        go_wp2_with fail
        go_ret
        exact ⟨by simp [hv], below_drewN HB.out _⟩
  · have hl0 : l.length = 0 := by omega
    have hE : ownR (L, l) = false := by unfold ownR; simp [hl0]
    rw [hE, hl0]
    rw [hl0] at HB
    clear hl hE h0 hl0
    go_enter Try.func17, Try.ntmps17
    go_wp2_with fail
    go_big_quiet (fail)
    go_wp2_with fail
    go_ret
    exact ⟨rfl, below_drewN HB.out _⟩

set_option maxRecDepth 100000 in
theorem swapped8_any {w : World} {n a b : Int} :
    Calls Try.prog 16 #[.int .i64 n, .int .i64 a, .int .i64 b] w fun e w' => e = .returned (.int .i64 (swapN a b n)) ∧ w' = w := by
  unfold swapN
  by_cases h1 : n = a
  · have e1 : (n == a) = true := by simpa using h1
    rw [if_pos h1]
    clear h1
    go_enter Try.func16, Try.ntmps16
    go_wp2_with fail
    go_ret
    exact ⟨rfl, rfl⟩
  · have e1 : (n == a) = false := by simpa using h1
    rw [if_neg h1]
    by_cases h2 : n = b
    · have e2 : (n == b) = true := by simpa using h2
      rw [if_pos h2]
      clear h1 h2
      go_enter Try.func16, Try.ntmps16
      go_wp2_with fail
      go_ret
      exact ⟨rfl, rfl⟩
    · have e2 : (n == b) = false := by simpa using h2
      rw [if_neg h2]
      clear h1 h2
      go_enter Try.func16, Try.ntmps16
      go_wp2_with fail
      go_ret
      exact ⟨rfl, rfl⟩

end Go.Proofs.Ytikjekfpgklbdaa

/- Rows of two cells an element, as they can be read; parts that are put together. No walk. -/
namespace Go.Proofs.Ytikjekfpgklbdaa
open Go.RowKit

/-- The cells ys lie at a slice value: m elements, two cells each. -/
def RowAt (w : World) (v : Value) (m : Nat) (ys : List Value) : Prop :=
  (∃ a c, v = .slice a m c ∧ m ≤ c) ∧ ys.length = m * 2 ∧ (∀ u ∈ ys, u.oneCell' = true) ∧ (0 < m → ∃ ad c, v = .slice (some ad) m c ∧ ∀ j u, ys[j]? = some u → w.cell? (ad.add j) = some u)

section
variable {w w' : World} {v : Value} {m : Nat} {ys : List Value}
theorem RowAt.below (h : RowAt w v m ys) {B : Nat} (hB : w.heap.size ≤ B) (hb : Below B w w') : RowAt w' v m ys := by
  refine ⟨h.1, h.2.1, h.2.2.1, fun hm => ?_⟩
  obtain ⟨ad, c, e, hc⟩ := h.2.2.2 hm
  refine ⟨ad, c, e, fun j u hu => ?_⟩
  have h1 := hc j u hu
  have h2 := World.block_lt_of_cell? _ _ h1
  exact (hb.cell (by omega)).trans h1
theorem SymsAt.row {l : List Sy} (h : SymsAt w v l) : RowAt w v l.length (flatY l) := ⟨h.1, flatY_len l, flatY_one l, fun hm => h.news hm⟩
end

/-- A part: where it lies, how long it is, its cells. -/
abbrev Part := Value × Nat × List Value
def totN (PL : List Part) : Nat := (PL.map fun p => p.2.1).sum
def totX (PL : List Part) : List Value := PL.flatMap fun p => p.2.2
theorem totN_take {PL : List Part} {k : Nat} (hk : k < PL.length) : totN (PL.take (k + 1)) = totN (PL.take k) + PL[k].2.1 := by
  unfold totN
  rw [List.take_succ_eq_append_getElem hk, List.map_append, List.sum_append]
  simp
theorem totX_take {PL : List Part} {k : Nat} (hk : k < PL.length) : totX (PL.take (k + 1)) = totX (PL.take k) ++ PL[k].2.2 := by
  unfold totX
  rw [List.take_succ_eq_append_getElem hk, List.flatMap_append]
  simp
theorem totN_le (PL : List Part) (k : Nat) : totN (PL.take k) ≤ totN PL := by
  have e : totN PL = totN (PL.take k) + totN (PL.drop k) := by
    unfold totN
    rw [← List.sum_append, ← List.map_append, List.take_append_drop]
  omega

end Go.Proofs.Ytikjekfpgklbdaa

/- The contracts of slices.Grow and slices.Concat, of step.tree. -/
namespace Go.Proofs.Ytikjekfpgklbdaa
open Go.RowKit

theorem Try.infoCcT : (Try.prog.info? 70).map (fun i => (i.zero, i.size, i.bytes)) = some (some (.agg #[.int .i64 0, .slice none 0 0]), 2, 32) := by kernel_rfl

theorem append_ccT0 {w : World} {oa sa : Option Addr} {n d c : Nat} (hn : n ≤ d) (h0 : oa = none → n = 0 ∧ d = 0) : (Builtin.append_ #[ 68, 68 ] 68 #[.slice oa n d, .slice sa 0 c]).run Try.prog w = .ok (.slice oa n d) w := by
  cases oa with
  | none =>
    obtain ⟨rfl, rfl⟩ := h0 rfl
    cases sa <;> go_simp
  | some o => cases sa <;> go_simp

/-- append(x, l...), x being the call's own, or none. -/
theorem append_ccT {w : World} {B : Nat} {ov lv : Value} {n m : Nat} {xs ys : List Value} (ho : w.ownsRow B 70 2 ov n xs) (hl : RowAt w lv m ys) (hb : B ≤ w.heap.size) (hs : n + m ≤ 100000) :
    ∃ a d w', (Builtin.append_ #[ 68, 68 ] 68 #[ov, lv]).run Try.prog w = .ok (.slice a (n + m) d) w' ∧ w'.ownsRow B 70 2 (.slice a (n + m) d) (n + m) (xs ++ ys) ∧ w.grownBy w' ov.ownBlock ∧ ∀ g, (Value.slice a (n + m) d).ownBlock = some g → ov.ownBlock = some g ∨ g = w.heap.size := by
  obtain ⟨oa, od, hov⟩ := own_form ho
  obtain ⟨⟨la, lc, hlv, _⟩, hlen, hone, hcell⟩ := hl
  rcases Nat.eq_zero_or_pos m with h0 | h0
  · subst h0
    have he : ys = [] := List.eq_nil_of_length_eq_zero (by omega)
    subst he
    rw [hov, hlv]
    have hnd : n ≤ od ∧ (oa = none → n = 0 ∧ od = 0) := by
      obtain ⟨_, ⟨hx, hz⟩ | ⟨_, _, _, hx, _, _, h5, _⟩⟩ := ho
      · rw [hov] at hx
        injection hx with x1 x2 x3
        exact ⟨by omega, fun _ => ⟨by omega, by omega⟩⟩
      · rw [hov] at hx
        injection hx with x1 x2 x3
        exact ⟨by omega, fun e => by rw [e] at x1; cases x1⟩
    refine ⟨oa, od, w, append_ccT0 hnd.1 hnd.2, ?_, ⟨rfl, rfl, rfl, Nat.le_refl _, fun _ _ _ => rfl⟩, fun g hg => .inl hg⟩
    rw [hov] at ho
    simpa using ho
  · obtain ⟨ad, c, he, hnews⟩ := hcell h0
    obtain ⟨i1, hi1, hy0, hy1, hy2⟩ := info_parts Try.infoCcT
    obtain ⟨g', cap', w', hr, h2, h3, h4, _⟩ := run_append_lies (P := Try.prog) w 68 68 B 70 i1 _ 2 32 Try.underlying68 hi1 hy0 hy1 hy2 rfl (by omega) ov n xs ho ad m c ys hlen hnews hone h0 (by simp only [maxLen]; omega) (by omega) hb w.heap.size rfl
    rw [he]
    refine ⟨_, _, w', hr, h2, h3, fun q hq => ?_⟩
    simp only [Value.ownBlock, Option.some.injEq] at hq
    subst hq
    exact h4

theorem wpList_append_ccT {w : World} {ops : Array Oper} {rest : List Oper} {o : Oper} {a : Act} {Q : Exit → Act → World → Prop} (hgd : o.guard = none) (s x : Operand) (ho' : o.op = .call { callee := .builtin .append, args := #[s, x], argTypes := #[ 68, 68 ] }) (hty : o.type = 68)
    {B n m : Nat} {xs ys : List Value} {ov lv : Value} (hsv : a.eval s = ov) (hxv : a.eval x = lv) (ho : w.ownsRow B 70 2 ov n xs) (hl : RowAt w lv m ys) (hb : B ≤ w.heap.size) (hs : n + m ≤ 100000)
    (h : ∀ a' d' w', w'.ownsRow B 70 2 (.slice a' (n + m) d') (n + m) (xs ++ ys) → w.grownBy w' ov.ownBlock → (∀ g, (Value.slice a' (n + m) d').ownBlock = some g → ov.ownBlock = some g ∨ g = w.heap.size) → wpList Try.prog ops Q rest (a.put o.dst (.slice a' (n + m) d')) w') : wpList Try.prog ops Q (o :: rest) a w := by
  obtain ⟨a', d', w', hr, h1, h2, h3⟩ := append_ccT ho hl hb hs
  refine wpList_plain hgd fun K hK => ?_
  unfold Oper.wp execOp
  simp only [ho', hty, resolve, invoke, builtin, Sem.run_bind, Sem.run_pure, Result.andThen_ok, List.map_toArray, List.map_cons, List.map_nil, hsv, hxv, hr]
  exact hK _ _ (h a' d' w' h1 h2 h3)

theorem step_append_ccT {w : World} {ops : Array Oper} {o : Oper} {a : Act} {K : Act → World → Prop} {Q : Exit → Act → World → Prop} {E : Prop} (hgd : o.guard = none) (s x : Operand) (ho' : o.op = .call { callee := .builtin .append, args := #[s, x], argTypes := #[ 68, 68 ] }) (hty : o.type = 68)
    {B n m : Nat} {xs ys : List Value} {ov lv : Value} (hsv : a.eval s = ov) (hxv : a.eval x = lv) (ho : w.ownsRow B 70 2 ov n xs) (hl : RowAt w lv m ys) (hb : B ≤ w.heap.size) (hs : n + m ≤ 100000)
    (h : ∀ a' d' w', w'.ownsRow B 70 2 (.slice a' (n + m) d') (n + m) (xs ++ ys) → w.grownBy w' ov.ownBlock → (∀ g, (Value.slice a' (n + m) d').ownBlock = some g → ov.ownBlock = some g ∨ g = w.heap.size) → K (a.put o.dst (.slice a' (n + m) d')) w') : if Region.wanted o (yielded ops a.tmps) = true then Oper.wp Try.prog o a w K Q else E := by
  obtain ⟨a', d', w', hr, h1, h2, h3⟩ := append_ccT ho hl hb hs
  have hw : Region.wanted o (yielded ops a.tmps) = true := by simp [Region.wanted, hgd]
  rw [if_pos hw]
  unfold Oper.wp execOp
  simp only [ho', hty, resolve, invoke, builtin, Sem.run_bind, Sem.run_pure, Result.andThen_ok, List.map_toArray, List.map_cons, List.map_nil, hsv, hxv, hr]
  exact h a' d' w' h1 h2 h3

set_option maxRecDepth 100000 in
set_option maxHeartbeats 3200000 in
theorem grow_ccT {w : World} {n : Nat} (hn : n ≤ 100000) :
    Calls Try.prog 87 #[.slice none 0 0, .int .i64 n] w fun e w' => ∃ v, e = .returned v ∧ w'.ownsRow w.heap.size 70 2 v 0 [] ∧ Below w.heap.size w w' := by
  have i0 : (0 : Int) ≤ (n : Int) := Int.natCast_nonneg _
  rcases Nat.eq_zero_or_pos n with h0 | h0
  · subst h0
    go_enter Try.func87, Try.ntmps87
    go_wp2_with fail
    go_ret
    exact ⟨_, rfl, World.ownsRow_nil _ _ _ _, Below.refl _ _⟩
  · obtain ⟨i1, hi1, hy0, hy1, hy2⟩ := info_parts Try.infoCcT
    have hi : (0 : Int) < (n : Int) := by omega
    have hr := Lib.run_append_nil_zeros (P := Try.prog) w 68 3 68 70 i1 (.agg #[.int .i64 0, .slice none 0 0]) .i64 .i64 Try.underlying68 Try.underlying3 hi1 hy0 n h0 (by rw [hy1]; omega) (by omega) (by rw [hy2]; omega)
    have hge := grownCap_ge w n 0 70
    have hle := grownCap_le_maxLen w n 0 70 (by unfold maxLen; omega)
    obtain ⟨C, hC⟩ : ∃ C, grownCap w n 0 70 = C := ⟨_, rfl⟩
    rw [hC] at hr hge hle
    clear hC
    obtain ⟨cur, hcur⟩ : ∃ cur, Builtin.zeroCells (.agg #[.int .i64 0, .slice none 0 0] : Value).cells n ++ Builtin.zeroCells (.agg #[.int .i64 0, .slice none 0 0] : Value).cells (C - n) = cur := ⟨_, rfl⟩
    have hcs : cur.size = C * 2 := by
      rw [← hcur, Array.size_append, size_zeroCells, size_zeroCells]
      have : (.agg #[.int .i64 0, .slice none 0 0] : Value).cells.size = 2 := rfl
      rw [this]
      omega
    rw [hcur] at hr
    clear hcur
    have hup : ∀ w0 w, Sem.run Try.prog (Instr.sliceAt 68 (.slice (some ⟨w0, 0, none⟩) n C) none (some (.int .i64 0)) none) w = .ok (.slice (some ⟨w0, 0, none⟩) 0 C) w := fun w0 w => by go_simp
    go_enter Try.func87, Try.ntmps87
    go_wp2_with (at_builtin; refine Lib.wpList_append_run _ rfl _ _ _ _ rfl _ _ rfl rfl _ _ hr ?_)
    go_ret
    exact ⟨_, rfl, ⟨rfl, .inr ⟨w.heap.size, C, cur, rfl, Nat.le_refl _, heap_alloc_new _ _, Nat.zero_le _, hle, hcs, rfl⟩⟩, (Below.refl _ _).drew.alloc (Nat.le_refl _) _⟩

set_option maxRecDepth 100000 in
set_option maxHeartbeats 6400000 in
theorem concat_ccT {w : World} {pb : Nat} {PL : List Part} (hp : ∀ i (hi : i < PL.length), w.cell? ⟨pb, i, none⟩ = some PL[i].1) (hr : ∀ p ∈ PL, RowAt w p.1 p.2.1 p.2.2) (hs : totN PL ≤ 100000) (hl : PL.length ≤ 1000) :
    Calls Try.prog 84 #[.slice (some ⟨pb, 0, none⟩) PL.length PL.length] w fun e w' => ∃ a d, e = .returned (.slice a (totN PL) d) ∧ w'.ownsRow w.heap.size 70 2 (.slice a (totN PL) d) (totN PL) (totX PL) ∧ Below w.heap.size w w' := by
  have HP : Hid (∀ i (hi : i < PL.length), w.cell? ⟨pb, i, none⟩ = some PL[i].1) := hp
  have HR : Hid (∀ p ∈ PL, RowAt w p.1 p.2.1 p.2.2) := hr
  have HS : Hid (totN PL ≤ 100000) := hs
  clear hp hr
  go_enter Try.func84, Try.ntmps84
  go_wp2_with fail
  go_loop [3, 11] (fun s3 s11 => ∃ k : Nat, s3 = .int .i64 (totN (PL.take k)) ∧ s11 = .int .i64 k ∧ k ≤ PL.length) (fun _ s => PL.length - (intOf s).toNat)
  case atStart => exact ⟨0, rfl, rfl, Nat.zero_le _⟩
  case round =>
    obtain ⟨k, rfl, rfl, hk⟩ := hrel
    by_cases hlt : k < PL.length
    · have c1 := HP.out k hlt
      obtain ⟨⟨a, c, hv, _⟩, _⟩ := HR.out PL[k] (List.getElem_mem hlt)
      have ht := totN_take hlt
      have hle := totN_le PL (k + 1)
      obtain ⟨m, hm⟩ : ∃ m, PL[k].2.1 = m := ⟨_, rfl⟩
      rw [hm] at hv ht
      rw [hv] at c1
      obtain ⟨t, h0⟩ : ∃ t, totN (PL.take k) = t := ⟨_, rfl⟩
      rw [h0] at ht ⊢
      have HT : Hid (totN (PL.take (k + 1)) = t + m) := ht
      have i0 : (0 : Int) ≤ (k : Int) := Int.natCast_nonneg _
      have i1 : (k : Int) < (PL.length : Int) := by omega
      have i2 : IntKind.i64.wrap ((t : Int) + (m : Int)) = (t : Int) + (m : Int) := IntWalk.i64_in _ (by omega)
      have i3 : decide ((t : Int) + (m : Int) < 0) = false := decide_eq_false (by omega)
      clear hm hv ht h0 hle
      go_wp2_with fail
      go_round
      case rel => exact ⟨k + 1, by rw [HT.out]; push_cast; rfl, by go_num, by omega⟩
      case measure => simp [intOf]; omega
    · have hkk : k = PL.length := by omega
      subst hkk
      rw [List.take_length]
      obtain ⟨t, h0⟩ : ∃ t, totN PL = t := ⟨_, rfl⟩
      have gr := grow_ccT (w := w) (n := t) (by omega)
      rw [h0]
      have HT : Hid (totN PL = t) := h0
      clear h0 hs
      go_wp2_with (go_at_call 87; refine gr.mono ?_; rintro e w1 ⟨v, rfl, hown, hB⟩; clear gr)
      go_loopw [6, 27] (fun s6 s27 wr => ∃ (k : Nat) (ov : Value), ov = s6 ∧ s27 = .int .i64 k ∧ k ≤ PL.length ∧ wr.ownsRow w.heap.size 70 2 ov (totN (PL.take k)) (totX (PL.take k)) ∧ Below w.heap.size w wr) (fun _ s _ => PL.length - (intOf s).toNat)
      case atStart => exact ⟨0, _, rfl, rfl, Nat.zero_le _, hown, hB⟩
      case round =>
        obtain ⟨k, ov, rfl, rfl, hk, hO, hB1⟩ := hrel
        clear hown hB
        have HB : Hid (Below w.heap.size w wr) := hB1
        by_cases hlt : k < PL.length
        · have hrow := (HR.out PL[k] (List.getElem_mem hlt)).below (Nat.le_refl _) hB1
          have c1 := (hB1.cell (World.block_lt_of_cell? _ _ (HP.out k hlt))).trans (HP.out k hlt)
          have ht := totN_take hlt
          have hx := totX_take hlt
          have hle := totN_le PL (k + 1)
          rw [HT.out] at hle
          have hT := HS.out
          rw [HT.out] at hT
          obtain ⟨⟨pv, m, ys⟩, hm⟩ : ∃ p, PL[k] = p := ⟨_, rfl⟩
          rw [hm] at hrow c1 ht hx
          simp only at hrow c1 ht hx
          obtain ⟨a, c, hv, _⟩ := hrow.1
          subst hv
          obtain ⟨q, h0⟩ : ∃ q, totN (PL.take k) = q := ⟨_, rfl⟩
          obtain ⟨xs, h1⟩ : ∃ xs, totX (PL.take k) = xs := ⟨_, rfl⟩
          rw [h0, h1] at hO
          rw [h0] at ht
          rw [h1] at hx
          have HX : Hid (totN (PL.take (k + 1)) = q + m ∧ totX (PL.take (k + 1)) = xs ++ ys) := ⟨ht, hx⟩
          have hqm : q + m ≤ 100000 := by omega
          have hbs := hB1.size
          have i0 : (0 : Int) ≤ (k : Int) := Int.natCast_nonneg _
          have i1 : (k : Int) < (PL.length : Int) := by omega
          clear hm ht hx hle hT h0 h1 hB1
          go_wp2_with
            (at_builtin
             refine wpList_append_ccT rfl _ _ rfl rfl rfl rfl hO hrow hbs hqm ?_
             intro a' d' w' hown' hgrow hat)
          go_roundw
          case rel => exact ⟨k + 1, _, rfl, by go_num, by omega, by rw [HX.out.1, HX.out.2]; exact hown', HB.out.grown hgrow HB.out.size fun g hg => ((hO.lt g hg).1)⟩
          case measure => simp [intOf]; omega
        · have hkk : k = PL.length := by omega
          subst hkk
          rw [List.take_length, HT.out] at hO
          obtain ⟨a, c, hv⟩ := own_form hO
          subst hv
          go_wp2_with fail
          go_ret
          rw [HT.out]
          exact ⟨a, c, rfl, hO, HB.out⟩

end Go.Proofs.Ytikjekfpgklbdaa
