import Derived.Test.YtlalmfheiippiaaHeldSeqAndStepTree
import Derived.Deep.DeepCutAuto
/- HeldSeq, where of what follows more than one may be the next: each that may is shown. No program. -/
namespace Go.Proofs.Ytlalmfheiippiaa

section
variable {P : Program} {ops : Array Oper} {Q : Exit → Act → World → Prop} {md : Region.Mode} {S : World → Prop}

/-- One step of the operation i. -/
def StepI (P : Program) (ops : Array Oper) (Q : Exit → Act → World → Prop) (S : World → Prop) (n : Nat) (J : Act → World → Prop) (i : Nat) (a : Act) (w : World) : Prop :=
  ∃ o, ops.toList[i]? = some o ∧ ∀ K : Act → World → Prop, Shut (∀ a w, (i < n → S w) → J a w → K a w) → if Region.wanted o (yielded ops a.tmps) = true then Oper.wp P o a w K Q else K (a.put o.dst undef) w
/-- So many follow, in whatever order. -/
def TailA (P : Program) (md : Region.Mode) (ops : Array Oper) (Q : Exit → Act → World → Prop) (S : World → Prop) (n : Nat) : Nat → Array Bool → Act → World → Prop
  | 0, listed, a, w => Region.ready md ops listed = [] ∧ Q .normal a w
  | k + 1, listed, a, w => Region.ready md ops listed ≠ [] ∧ ∀ i ∈ Region.ready md ops listed, StepI P ops Q S n (TailA P md ops Q S n k (listed.setIfInBounds i true)) i a w

theorem TailA.one {n k i : Nat} {listed : Array Bool} {a : Act} {w : World} (hr : decide (Region.ready md ops listed = [i]) = true) (h : StepI P ops Q S n (TailA P md ops Q S n k (listed.setIfInBounds i true)) i a w) : TailA P md ops Q S n (k + 1) listed a w := by
  have hr' := of_decide_eq_true hr
  refine ⟨by rw [hr']; simp, fun j hj => ?_⟩
  rw [hr'] at hj
  have : j = i := by simpa using hj
  subst this
  exact h
theorem TailA.two {n k i i' : Nat} {listed : Array Bool} {a : Act} {w : World} (hr : decide (Region.ready md ops listed = [i, i']) = true) (h : StepI P ops Q S n (TailA P md ops Q S n k (listed.setIfInBounds i true)) i a w) (h' : StepI P ops Q S n (TailA P md ops Q S n k (listed.setIfInBounds i' true)) i' a w) : TailA P md ops Q S n (k + 1) listed a w := by
  have hr' := of_decide_eq_true hr
  refine ⟨by rw [hr']; simp, fun j hj => ?_⟩
  rw [hr'] at hj
  simp only [List.mem_cons, List.not_mem_nil, or_false] at hj
  rcases hj with rfl | rfl
  · exact h
  · exact h'
theorem TailA.end {n : Nat} {listed : Array Bool} {a : Act} {w : World} (hr : decide (Region.ready md ops listed = []) = true) (h : Q .normal a w) : TailA P md ops Q S n 0 listed a w := ⟨of_decide_eq_true hr, h⟩

theorem wpAnyG_of_tailA {n : Nat} : ∀ (k : Nat) (listed : Array Bool) (a : Act) (w : World), TailA P md ops Q S n k listed a w → wpAnyG P md ops Q S n k listed a w
  | 0, _, _, _, h => ⟨by simpa using h.1, h.2⟩
  | k + 1, listed, a, w, h => by
    refine ⟨fun h1 => absurd h1 h.1, fun i hi => ?_⟩
    obtain ⟨o, h0, h⟩ := h.2 i hi
    have h1 := h (fun a' w' => (i < n → S w') ∧ wpAnyG P md ops Q S n k (listed.setIfInBounds i true) a' w')
      (fun a' w' hS hT => ⟨hS, wpAnyG_of_tailA k _ a' w' hT⟩)
    have h0' : ops[i]? = some o := by simpa using h0
    unfold wpOp
    simp only [h0']
    split
    · rename_i hw
      rw [if_pos hw] at h1
      exact .inl h1
    · rename_i hw
      rw [if_neg hw] at h1
      exact h1

/-- What is listed when those that are taken first are. -/
def listAll : List Nat → Array Bool → Array Bool
  | [], listed => listed
  | i :: l, listed => listAll l (listed.setIfInBounds i true)
def lexA (md : Region.Mode) (ops : Array Oper) : List Nat → Array Bool → Bool
  | [], _ => true
  | k :: ks, listed => (Region.ready md ops listed).contains k && Region.free md ops listed k && lexA md ops ks (listed.setIfInBounds k true)

theorem wpAnyG_lexA {n m : Nat} (hsel : Region.noSelect ops = true) (hQ : ∀ c a d v w, Q (.panic c) (a.put d v) w → Q (.panic c) a w) (hs : Region.sinkB md ops n = true) (hc : Region.chainB md ops n = true) (hn : n < ops.size) {w : World} (hS : S w) :
    ∀ (l : List Nat) (listed : Array Bool) (a : Act), (∀ i ∈ l, i < n) → HeadInv md ops n listed → lexA md ops l listed = true → StillI P ops S (fun a' => TailA P md ops Q S n m (listAll l listed) a' w) l a →
    wpAnyG P md ops Q S n (l.length + m) listed a w
  | [], listed, a, _, _, _, h => by
    simp only [List.length_nil, Nat.zero_add]
    exact wpAnyG_of_tailA m listed a w h
  | k :: l, listed, a, hl, inv, hB, h => by
    simp only [lexA, Bool.and_eq_true] at hB
    obtain ⟨⟨hr, hf⟩, hB'⟩ := hB
    have hkn := hl k (by simp)
    have hr' : k ∈ Region.ready md ops listed := by simpa using hr
    obtain ⟨o, v, h0, hy, hK⟩ := h
    rw [show (k :: l).length + m = (l.length + m) + 1 by simp only [List.length_cons]; omega]
    exact wpAnyG_first h0 (Region.noSelect_spec hsel) (fun c a w => hQ c a _ _ w) hs hc hn hkn _ listed a w inv (Region.free_spec h0 hf) hr' hy hS
      (wpAnyG_lexA hsel hQ hs hc hn hS l _ _ (fun i hi => hl i (List.mem_cons_of_mem _ hi)) (inv.set hr' hkn) hB' hK)

def heldAnyB (ops : Array Oper) (hs : List Nat) (m n : Nat) : Bool :=
  Region.noSelect ops && decide (n < ops.size) && Region.sinkB .any ops n && Region.chainB .any ops n && (hs.all fun i => decide (i < n)) && decide (hs.length + m = ops.size) && lexA .any ops hs (Array.replicate ops.size false)

theorem wp_region_held_any {id : Nat} {a : Act} {w : World} (hs : List Nat) (m n : Nat) (S : World → Prop) (hm : P.follows .mixedOrders = true) (hB : heldAnyB ops hs m n = true) (hS : S w.drew)
    (h : StillI P ops S (fun a' => TailA P .any ops (NoPanic Q) S n m (listAll hs (Array.replicate ops.size false)) a' w.drew) hs a) : (Code.region id ops true).wp P Q a w := by
  simp only [heldAnyB, Bool.and_eq_true, decide_eq_true_eq, List.all_eq_true] at hB
  obtain ⟨⟨⟨⟨⟨⟨hsel, hn⟩, hsk⟩, hc⟩, hl⟩, hlen⟩, hlex⟩ := hB
  have inv0 : HeadInv .any ops n (Array.replicate ops.size false) :=
    ⟨by simp, fun j oj _ hl => (by rw [getD_replicate_false] at hl; cases hl), fun t _ ht => Go.getD_in (by simpa using ht) (getD_replicate_false _ _)⟩
  refine wp_region_noPanic (wp_region_any hm (wpAny_of_G (S := S) (n := n) _ _ _ _ ?_))
  have := wpAnyG_lexA (md := .any) (Q := NoPanic Q) (m := m) hsel (fun _ _ _ _ _ h => h) hsk hc hn hS hs _ a hl inv0 hlex h
  rw [hlen] at this
  exact this
end

end Go.Proofs.Ytlalmfheiippiaa

/- The contracts of package step's small functions: isBelow, more, with, copied, namesIn. -/
namespace Go.Proofs.Ytlalmfheiippiaa
open Go.RowKit

theorem own_setLow {w : World} {base : Nat} {e : TypeId} {size : Nat} {v : Value} {n : Nat} {xs : List Value} (h : w.ownsRow base e size v n xs) {a : Addr} (ha : a.block < base) (u : Value) : (w.setCell a u).ownsRow base e size v n xs := by
  obtain ⟨z1, z2 | ⟨g', c', cur, e', z2, z3, z4⟩⟩ := h
  · exact ⟨z1, .inl z2⟩
  · exact ⟨z1, .inr ⟨g', c', cur, e', z2, by rw [Below.heap_setCell _ _ _ _ (by omega)]; exact z3, z4⟩⟩

set_option maxRecDepth 100000 in
theorem st_isBelow {w : World} {n m : Int} : Calls Try.prog 18 #[.int .i64 n, .int .i64 m] w fun e w' => e = .returned (.bool (decide (0 ≤ n) && decide (n < m))) ∧ w' = w := by
  by_cases h0 : 0 ≤ n
  · by_cases h1 : n < m
    · have e1 : decide (n < m) = true := decide_eq_true h1
      have e0 : decide (0 ≤ n) = true := decide_eq_true h0
      rw [e0, e1]
      go_enter Try.func18, Try.ntmps18
      go_wp2_with fail
      go_ret
      exact ⟨rfl, rfl⟩
    · have e1 : decide (n < m) = false := decide_eq_false h1
      have e0 : decide (0 ≤ n) = true := decide_eq_true h0
      rw [e0, e1]
      clear h1
      go_enter Try.func18, Try.ntmps18
      go_wp2_with fail
      go_ret
      exact ⟨rfl, rfl⟩
  · have e0 : decide (0 ≤ n) = false := decide_eq_false h0
    rw [e0]
    clear h0
    go_enter Try.func18, Try.ntmps18
    go_wp2_with fail
    go_ret
    exact ⟨rfl, rfl⟩

section
variable {w : World} {T N : Int} {ra : Option Addr} {rn rc : Nat} {op a b c : Int}

set_option maxRecDepth 100000 in
theorem st_more : Calls Try.prog 61 #[.agg #[.int .i64 T, .int .i64 N, .slice ra rn rc, .int .i64 op, .int .i64 a, .int .i64 b, .int .i64 c]] w fun e w' => e = .returned (.agg #[.bool false, .int .i64 N]) ∧ Below w.heap.size w w' := by
  go_enter Try.func61, Try.ntmps61
  go_wp2_with fail
  refine bodyPost_ret (v := .agg #[.bool false, .int .i64 N]) (by simp [results, Try.results61, go_sem]) rfl ?_
  exact ⟨rfl, by first | exact ((Below.refl _ _).alloc (Nat.le_refl _) _).alloc (by simp) _ | exact (((Below.refl _ _).alloc (Nat.le_refl _) _).alloc (by simp) _).setCell (by simp) _⟩

set_option maxRecDepth 100000 in
theorem st_with {M : Int} {oa : Option Addr} {on oc : Nat} : Calls Try.prog 55 #[.agg #[.int .i64 T, .int .i64 N, .slice ra rn rc, .int .i64 op, .int .i64 a, .int .i64 b, .int .i64 c], .int .i64 M, .slice oa on oc] w fun e w' => e = .returned (.agg #[.int .i64 T, .int .i64 M, .slice oa on oc]) ∧ Below w.heap.size w w' := by
  go_enter Try.func55, Try.ntmps55
  go_wp2_with fail
  refine bodyPost_ret (v := .agg #[.int .i64 T, .int .i64 M, .slice oa on oc]) (by simp [results, Try.results55, go_sem]) rfl ?_
  exact ⟨rfl, by first | exact ((Below.refl _ _).alloc (Nat.le_refl _) _).alloc (by simp) _ | exact (((Below.refl _ _).alloc (Nat.le_refl _) _).alloc (by simp) _).setCell (by simp) _⟩
end

set_option maxRecDepth 100000 in
set_option maxHeartbeats 3200000 in
theorem st_copied {w : World} {L : Int} {lv : Value} {l : List Sy} (hl : SymsAt w lv l) (hs : l.length ≤ 1000) :
    Calls Try.prog 56 #[.agg #[.int .i64 L, lv]] w fun e w' => ∃ ga d, e = .returned (.agg #[.int .i64 L, .slice ga l.length d]) ∧ w'.ownsRow w.heap.size 42 2 (.slice ga l.length d) l.length (flatY l) ∧ Below w.heap.size w w' := by
  obtain ⟨la, lc, hlv, _⟩ := hl.1
  subst hlv
  obtain ⟨n, hn⟩ : ∃ n, l.length = n := ⟨_, rfl⟩
  rw [hn] at hl hs ⊢
  have HL : Hid (SymsAt w (.slice la n lc) l ∧ l.length = n) := ⟨hl, hn⟩
  clear hl hn
  go_enter Try.func56, Try.ntmps56
  go_upto_region 1 with fail
  obtain ⟨W1, hW1⟩ : ∃ W, (w.alloc (.cells #[.int .i64 L, .slice la n lc] 39)).alloc (.cells #[.int .i64 0, .slice none 0 0] 39) = W := ⟨_, rfl⟩
  obtain ⟨W2, hW2⟩ : ∃ W, W1.drew = W := ⟨_, rfl⟩
  have u1 : W2.cell? ⟨w.heap.size, 0, none⟩ = some (.int .i64 L) := by rw [← hW2, ← hW1]; simp [go_sem]
  have u2 : W2.cell? ⟨w.heap.size, 1, none⟩ = some (.slice la n lc) := by rw [← hW2, ← hW1]; simp [go_sem]
  have u3 : W2.cell? ⟨w.heap.size + 1, 0, none⟩ = some (.int .i64 0) := by rw [← hW2, ← hW1]; simp [go_sem]
  have u4 : W2.cell? ⟨w.heap.size + 1, 1, none⟩ = some (.slice none 0 0) := by rw [← hW2, ← hW1]; simp [go_sem]
  have uf : ∀ o, W2.frozen? ⟨w.heap.size + 1, o, none⟩ = false := fun o => by rw [← hW2, ← hW1]; simp [go_sem]
  have hB1 : Below w.heap.size w W2 := by rw [← hW2, ← hW1]; exact (((Below.refl _ _).alloc (Nat.le_refl _) _).alloc (by simp) _).drew
  have hs1 : W2.heap.size = w.heap.size + 2 := by rw [← hW2, ← hW1]; simp
  have HL1 : Hid (∀ wq, Below W2.heap.size W2 wq → RowAt wq (.slice la n lc) n (flatY l)) := fun wq hq => by
    have := HL.out.1.row
    rw [HL.out.2] at this
    exact this.below (B := w.heap.size) (Nat.le_refl _) (hB1.trans (hq.mono (by omega)))
  have HS : Hid (W2.heap.size = w.heap.size + 2) := hs1
  rw [hW1]
  clear hW1 hs1
  refine wp_region_held_any [0, 1, 3, 4] 4 7 (fun w' => w'.cell? ⟨w.heap.size, 0, none⟩ = some (.int .i64 L) ∧ w'.cell? ⟨w.heap.size, 1, none⟩ = some (.slice la n lc)) (by kernel_rfl) (by kernel_rfl) (by rw [hW2]; exact ⟨u1, u2⟩) ?_
  rw [hW2]
  clear hW2
  iterate 4
    refine StillI.con8 (v := ?_) rfl (by rfl) ?_ ?_
    rotate_left
    · intro w' hSw
      obtain ⟨z0, z1⟩ := hSw
      go_simp
      try with_reducible rfl
    simp only [Act.put, List.setIfInBounds_toArray, List.set_cons_zero, List.set_cons_succ]
  rw [StillI]
  have hB2 : Below W2.heap.size W2 (W2.alloc (.cells #[] 42)) := (Below.refl _ _).alloc (Nat.le_refl _) _
  have own0 : (W2.alloc (.cells #[] 42)).ownsRow W2.heap.size 42 2 (.slice (some ⟨W2.heap.size, 0, none⟩) 0 0) 0 [] := ⟨rfl, .inr ⟨W2.heap.size, 0, #[], rfl, Nat.le_refl _, heap_alloc_new _ _, Nat.le_refl _, by decide, rfl, rfl⟩⟩
  have hrow := HL1.out _ hB2
  refine TailA.one (i := 2) (by kernel_rfl) ⟨_, rfl, fun K hK => ?_⟩
  go_simp
  refine hK.out _ _ (fun _ => ⟨?_, ?_⟩) ?_
  · exact (hB2.cell (World.block_lt_of_cell? _ _ u1)).trans u1
  · exact (hB2.cell (World.block_lt_of_cell? _ _ u2)).trans u2
  clear hK
  refine TailA.one (i := 5) (by kernel_rfl) ⟨_, rfl, fun K hK => ?_⟩
  refine step_append_ccY rfl _ _ rfl rfl rfl rfl own0 hrow hB2.size (by omega) ?_
  intro a' d' w' hown hgrow hat
  have hB3 : Below W2.heap.size W2 w' := hB2.grown hgrow hB2.size fun k hk => (own0.lt k hk).1
  rw [Nat.zero_add] at hown ⊢
  rw [List.nil_append] at hown
  have v1 := (hB3.cell (World.block_lt_of_cell? _ _ u1)).trans u1
  have v2 := (hB3.cell (World.block_lt_of_cell? _ _ u2)).trans u2
  have v3 := (hB3.cell (World.block_lt_of_cell? _ _ u3)).trans u3
  have v4 := (hB3.cell (World.block_lt_of_cell? _ _ u4)).trans u4
  have vf : ∀ o, w'.frozen? ⟨w.heap.size + 1, o, none⟩ = false := fun o => (hB3.frozen (p := ⟨w.heap.size + 1, o, none⟩) (show w.heap.size + 1 < _ by rw [HS.out]; omega)).trans (uf o)
  have vf0 := vf 0
  have vf1 := vf 1
  refine hK.out _ _ (fun _ => ⟨v1, v2⟩) ?_
  clear hK own0 hrow hgrow hat u1 u2 u3 u4 uf hB2
  refine TailA.one (i := 6) (by kernel_rfl) ⟨_, rfl, fun K hK => ?_⟩
  go_simp
  refine hK.out _ _ (fun _ => ⟨v1, v2⟩) ?_
  clear hK
  refine TailA.one (i := 7) (by kernel_rfl) ⟨_, rfl, fun K hK => ?_⟩
  go_simp
  refine hK.out _ _ (fun h => absurd h (by omega)) ?_
  clear hK
  refine TailA.end (by kernel_rfl) (NoPanic.normal ?_)
  have q0 : ((w'.setCell ⟨w.heap.size + 1, 0, none⟩ (.int .i64 L)).setCell ⟨w.heap.size + 1, 1, none⟩ (.slice a' n d')).cell? ⟨w.heap.size + 1, 0, none⟩ = some (.int .i64 L) := by
    rw [cell_set_other (.inr (by simp))]; exact World.cell?_setCell_same _ _ _ v3
  have q1 : ((w'.setCell ⟨w.heap.size + 1, 0, none⟩ (.int .i64 L)).setCell ⟨w.heap.size + 1, 1, none⟩ (.slice a' n d')).cell? ⟨w.heap.size + 1, 1, none⟩ = some (.slice a' n d') := by
    exact World.cell?_setCell_same _ _ _ ((cell_set_other (.inr (by simp))).trans v4)
  go_wp2_with fail
  refine bodyPost_ret (v := .agg #[.int .i64 L, .slice a' n d']) (by simp [results, Try.results56, go_sem, q0, q1]) rfl ?_
  have hlo : w.heap.size + 1 < W2.heap.size := by rw [HS.out]; omega
  refine ⟨a', d', rfl, own_mono (own_setLow (own_setLow hown (a := ⟨w.heap.size + 1, 0, none⟩) hlo _) (a := ⟨w.heap.size + 1, 1, none⟩) hlo _) (by omega), ?_⟩
  exact ((hB1.trans (hB3.mono (by omega))).setCell (p := ⟨w.heap.size + 1, 0, none⟩) (by simp) _).setCell (p := ⟨w.heap.size + 1, 1, none⟩) (by simp) _

theorem names_take {l : List Sy} {k : Nat} (hk : k < l.length) : (namesS (l.take (k + 1))).length = (namesS (l.take k)).length + (if (l.getD k (false, 0)).1 then 0 else 1) := by
  have e : l.getD k (false, 0) = l[k] := by simp [List.getD, hk]
  rw [List.take_succ_eq_append_getElem hk, names_app, List.length_append, e]
  obtain ⟨t, n⟩ := l[k]
  cases t <;> rfl
theorem names_le (l : List Sy) : (namesS l).length ≤ l.length := by
  induction l with
  | nil => exact Nat.le_refl _
  | cons x l ih =>
    obtain ⟨t, n⟩ := x
    cases t
    · rw [namesS, List.length_cons, List.length_cons]; omega
    · rw [namesS, List.length_cons]; omega

set_option maxRecDepth 100000 in
set_option maxHeartbeats 3200000 in
theorem st_namesIn {w : World} {lv : Value} {l : List Sy} (hl : SymsAt w lv l) (hs : l.length ≤ 1000) :
    Calls Try.prog 19 #[lv] w fun e w' => e = .returned (.int .i64 (namesS l).length) ∧ Below w.heap.size w w' := by
  obtain ⟨la, lc, hlv, _⟩ := hl.1
  subst hlv
  have HL : Hid (SymsAt w (.slice la l.length lc) l) := hl
  clear hl
  go_enter Try.func19, Try.ntmps19
  go_wp2_with fail
  go_loopw [3, 8] (fun s3 s8 wr => ∃ k : Nat, s3 = .int .i64 (namesS (l.take k)).length ∧ s8 = .int .i64 k ∧ k ≤ l.length ∧ Below w.heap.size w wr) (fun _ s _ => l.length - (intOf s).toNat)
  case atStart => exact ⟨0, rfl, rfl, Nat.zero_le _, Below.refl _ _⟩
  case round =>
    obtain ⟨k, rfl, rfl, hk, hB⟩ := hrel
    have HB : Hid (Below w.heap.size w wr) := hB
    by_cases hlt : k < l.length
    · obtain ⟨b, o, c, hv, c1, c2⟩ := (HL.out.same (same_below hB)).2 k hlt
      cases hv
      have ht := names_take hlt
      have hle := names_le (l.take k)
      rw [List.length_take] at hle
      obtain ⟨⟨t, v⟩, hx⟩ : ∃ x, l.getD k (false, 0) = x := ⟨_, rfl⟩
      rw [hx] at c1 c2 ht
      simp only at c1 c2 ht
      obtain ⟨q, hq⟩ : ∃ q, (namesS (l.take k)).length = q := ⟨_, rfl⟩
      rw [hq] at ht hle ⊢
      have hq8 : q ≤ 1000 := by omega
      have HT : Hid ((namesS (l.take (k + 1))).length = q + (if t = true then 0 else 1)) := ht
      have i0 : (0 : Int) ≤ (k : Int) := Int.natCast_nonneg _
      have i1 : (k : Int) < (l.length : Int) := by omega
      have hsz := hB.size
      clear hx ht hq hle hB
      cases t with
      | true =>
        go_wp2_with fail
        go_roundw
        case rel => exact ⟨k + 1, by rw [HT.out]; rfl, by go_num, by omega, HB.out.alloc hsz _⟩
        case measure => simp [intOf]; omega
      | false =>
        go_wp2_with fail
        go_roundw
        case rel => exact ⟨k + 1, by rw [HT.out]; go_num, by go_num, by omega, HB.out.alloc hsz _⟩
        case measure => simp [intOf]; omega
    · have hkk : k = l.length := by omega
      subst hkk
      rw [List.take_length]
      clear hB
      go_wp2_with fail
      go_ret
      exact ⟨rfl, HB.out⟩

end Go.Proofs.Ytlalmfheiippiaa

/- The contracts of pollardingref8's left and May. -/
namespace Go.Proofs.Ytlalmfheiippiaa
open Go.RowKit

end Go.Proofs.Ytlalmfheiippiaa

/- What pollardingref8.one holds while it makes rules. No walk. -/
namespace Go.Proofs.Ytlalmfheiippiaa
open Go.RowKit

def ruV (x : Value × Ru) : List Value := [.int .i64 x.2.1, x.1]
def flatR (RL : List (Value × Ru)) : List Value := RL.flatMap ruV
theorem flatR_len (RL : List (Value × Ru)) : (flatR RL).length = RL.length * 2 := by
  unfold flatR
  induction RL with
  | nil => rfl
  | cons a L ih => rw [List.flatMap_cons, List.length_append, ih]; simp [ruV]; omega
theorem flatR_get {RL : List (Value × Ru)} {i j : Nat} (hi : i < RL.length) (hj : j < 2) : (flatR RL)[i * 2 + j]? = (ruV (RL.getD i (.slice none 0 0, (0, []))))[j]? := by
  unfold flatR
  induction RL generalizing i with
  | nil => simp at hi
  | cons a L ih =>
    rw [List.flatMap_cons]
    cases i with
    | zero => rw [List.getElem?_append_left (by simp [ruV]; omega)]; simp
    | succ i =>
      rw [List.getElem?_append_right (by simp [ruV]; omega)]
      simp only [ruV, List.length_cons, List.length_nil]
      rw [show (i + 1) * 2 + j - (0 + 1 + 1) = i * 2 + j by omega]
      have := ih (i := i) (by simpa using hi)
      simpa [List.getD, ruV] using this
theorem flatR_append (A C : List (Value × Ru)) : flatR (A ++ C) = flatR A ++ flatR C := by simp [flatR]

/-- Rules that a call has made: in a row of its own, their symbols elsewhere. -/
structure RlIn (w : World) (B : Nat) (lv : Value) (RL : List (Value × Ru)) : Prop where
  own : w.ownsRow B 39 2 lv RL.length (flatR RL)
  sym : ∀ x ∈ RL, SyHas w (fun b => B ≤ b ∧ lv.ownBlock ≠ some b) x.1 x.2.2

section
variable {w w' : World} {B : Nat} {lv : Value} {RL : List (Value × Ru)}
theorem RlIn.below (h : RlIn w B lv RL) (hb : Below w.heap.size w w') : RlIn w' B lv RL := ⟨own_below h.own hb fun g hg => (h.own.lt g hg).2, fun x hx => (h.sym x hx).below hb⟩
theorem RlIn.mono {B' : Nat} (h : RlIn w B lv RL) (hB : B' ≤ B) : RlIn w B' lv RL := ⟨own_mono h.own hB, fun x hx => (h.sym x hx).kept (Nat.le_refl _) fun b hA _ => ⟨rfl, by have := hA.1; omega, hA.2⟩⟩
theorem rlIn_nil (w : World) (B : Nat) : RlIn w B (.slice none 0 0) [] := ⟨World.ownsRow_nil _ _ _ _, fun x hx => by cases hx⟩
theorem flatR_one (h : ∀ x ∈ RL, ∃ a n c, x.1 = .slice a n c) : ∀ u ∈ flatR RL, u.oneCell' = true := fun u hu => by
  unfold flatR at hu
  obtain ⟨x, hx, hu⟩ := List.mem_flatMap.1 hu
  obtain ⟨a, n, c, e⟩ := h x hx
  simp only [ruV, List.mem_cons, List.not_mem_nil, or_false] at hu
  rcases hu with rfl | rfl
  · rfl
  · rw [e]; rfl
theorem RlIn.slices (h : RlIn w B lv RL) : ∀ x ∈ RL, ∃ a n c, x.1 = .slice a n c := fun x hx => let ⟨a, c, e, _⟩ := (h.sym x hx).1; ⟨a, _, c, e⟩

/-- They can be read. -/
theorem RlIn.rules (h : RlIn w B lv RL) : RulesAt w w.heap.size lv (RL.map fun x => x.2) := by
  obtain ⟨a, c, hv⟩ := own_form h.own
  refine ⟨⟨a, c, by rw [hv, List.length_map]⟩, fun q hq => ?_⟩
  have hq' : q < RL.length := by simpa using hq
  obtain ⟨g, cap, hg, _, hlt⟩ := h.own.form (by omega)
  have ho := h.own
  rw [hg] at ho
  have e : (RL.map fun x => x.2).getD q (0, []) = (RL.getD q (.slice none 0 0, (0, []))).2 := by simp [List.getD, hq']
  have hx : RL.getD q (.slice none 0 0, (0, [])) ∈ RL := by simp [List.getD, hq']
  obtain ⟨⟨qa, qc, hqv, hqc⟩, hsy⟩ := h.sym _ hx
  have c0 := (ho.cellAt (q * 2) (by omega)).trans (flatR_get (j := 0) hq' (by omega))
  have c1 := (ho.cellAt (q * 2 + 1) (by omega)).trans (flatR_get (j := 1) hq' (by omega))
  simp only [ruV, List.getElem?_cons_zero, List.getElem?_cons_succ] at c0 c1
  rw [hqv] at c1
  refine ⟨g, 0, cap, qa, qc, by rw [hg, List.length_map], hlt, by rw [e, Nat.zero_add]; exact c0, by rw [e, Nat.zero_add]; exact c1, by rw [e]; exact hqc, fun j hj => ?_⟩
  rw [e] at hj ⊢
  obtain ⟨b, o, c', h1, _, h3, h4, h5⟩ := hsy j hj
  rw [hqv] at h1
  cases h1
  exact ⟨b, o, rfl, h3, h4, by rw [← Nat.add_assoc]; exact h5⟩
end

/-- What one holds: the grammar's box, the step's, the rule's, the rule's symbols. -/
structure O8 (w : World) (T N : Nat) (ra : Option Addr) (rc : Nat) (R : List Ru) (s : Stp) (rb g d : Nat) (L : Int) (l : List Sy) (wq : World) : Prop where
  g0 : wq.cell? ⟨w.heap.size, 0, none⟩ = some (.int .i64 T)
  g1 : wq.cell? ⟨w.heap.size, 1, none⟩ = some (.int .i64 N)
  g2 : wq.cell? ⟨w.heap.size, 2, none⟩ = some (.slice ra R.length rc)
  s0 : wq.cell? ⟨w.heap.size + 1, 0, none⟩ = some (.int .i64 s.op)
  s1 : wq.cell? ⟨w.heap.size + 1, 1, none⟩ = some (.int .i64 s.a)
  s2 : wq.cell? ⟨w.heap.size + 1, 2, none⟩ = some (.int .i64 s.b)
  s3 : wq.cell? ⟨w.heap.size + 1, 3, none⟩ = some (.int .i64 s.c)
  r0 : wq.cell? ⟨rb, 0, none⟩ = some (.int .i64 L)
  r1 : wq.cell? ⟨rb, 1, none⟩ = some (.slice (some ⟨g, 0, none⟩) l.length d)
  rf : ∀ o, wq.frozen? ⟨rb, o, none⟩ = false
  own : wq.ownsRow (w.heap.size + 2) 42 2 (.slice (some ⟨g, 0, none⟩) l.length d) l.length (flatY l)
  ne : g ≠ rb
  rlo : w.heap.size + 2 ≤ rb
  rules : RulesAt wq w.heap.size (.slice ra R.length rc) R
  below : Below w.heap.size w wq

section
variable {w wq w' : World} {T N : Nat} {ra : Option Addr} {rc : Nat} {R : List Ru} {s : Stp} {rb g d : Nat} {L : Int} {l : List Sy}
theorem O8.lt (h : O8 w T N ra rc R s rb g d L l wq) : rb < wq.heap.size := World.block_lt_of_cell? _ _ h.r0
theorem O8.glt (h : O8 w T N ra rc R s rb g d L l wq) : w.heap.size + 2 ≤ g ∧ g < wq.heap.size := h.own.lt g rfl
theorem O8.later (h : O8 w T N ra rc R s rb g d L l wq) (hb : Below wq.heap.size wq w') : O8 w T N ra rc R s rb g d L l w' := by
  have hlt := h.lt
  have hlo := h.rlo
  exact ⟨(hb.cell (by simp only; omega)).trans h.g0, (hb.cell (by simp only; omega)).trans h.g1, (hb.cell (by simp only; omega)).trans h.g2, (hb.cell (by simp only; omega)).trans h.s0, (hb.cell (by simp only; omega)).trans h.s1, (hb.cell (by simp only; omega)).trans h.s2, (hb.cell (by simp only; omega)).trans h.s3,
    (hb.cell (by simp only; omega)).trans h.r0, (hb.cell (by simp only; omega)).trans h.r1, fun o => (hb.frozen (by simp only; omega)).trans (h.rf o), own_below h.own hb fun g hg => (h.own.lt g hg).2, h.ne, h.rlo, h.rules.below (hb.mono (by omega)), h.below.trans (hb.mono (by omega))⟩
theorem O8.syms (h : O8 w T N ra rc R s rb g d L l wq) : SymsAt wq (.slice (some ⟨g, 0, none⟩) l.length d) l := (own_syIn h.own).syms
/-- The rule's Left turns. -/
theorem O8.setL (h : O8 w T N ra rc R s rb g d L l wq) (L' : Int) : O8 w T N ra rc R s rb g d L' l (wq.setCell ⟨rb, 0, none⟩ (.int .i64 L')) := by
  have hlo := h.rlo
  refine ⟨?_, ?_, ?_, ?_, ?_, ?_, ?_, World.cell?_setCell_same _ _ _ h.r0, ?_, fun o => (World.frozen?_setCell _ _ _ _).trans (h.rf o), ?_, h.ne, h.rlo, h.rules.below ((Below.refl _ _).setCell (by simp only; omega) _), h.below.setCell (by simp only; omega) _⟩
  · rw [cell_set_other (.inl (by simp only; omega))]; exact h.g0
  · rw [cell_set_other (.inl (by simp only; omega))]; exact h.g1
  · rw [cell_set_other (.inl (by simp only; omega))]; exact h.g2
  · rw [cell_set_other (.inl (by simp only; omega))]; exact h.s0
  · rw [cell_set_other (.inl (by simp only; omega))]; exact h.s1
  · rw [cell_set_other (.inl (by simp only; omega))]; exact h.s2
  · rw [cell_set_other (.inl (by simp only; omega))]; exact h.s3
  · rw [cell_set_other (.inr (by simp))]; exact h.r1
  · obtain ⟨h1, ⟨hx, _⟩ | ⟨g', c', cur, e, h2, h3, h4⟩⟩ := h.own
    · cases hx
    · refine ⟨h1, .inr ⟨g', c', cur, e, h2, ?_, h4⟩⟩
      injection e with e1
      injection e1 with e1
      injection e1 with e1
      subst e1
      rw [Below.heap_setCell _ _ _ _ (fun e => h.ne (by simpa using e))]
      exact h3
/-- The one rule is answered. -/
theorem O8.out (h : O8 w T N ra rc R s rb g d L l wq) : RlIn (wq.alloc (.cells #[.int .i64 L, .slice (some ⟨g, 0, none⟩) l.length d] 39)) w.heap.size (.slice (some ⟨wq.heap.size, 0, none⟩) 1 1) [(.slice (some ⟨g, 0, none⟩) l.length d, (L, l))] ∧ Below w.heap.size w (wq.alloc (.cells #[.int .i64 L, .slice (some ⟨g, 0, none⟩) l.length d] 39)) := by
  have hB := h.below.alloc h.below.size (.cells #[.int .i64 L, .slice (some ⟨g, 0, none⟩) l.length d] 39)
  refine ⟨⟨?_, fun x hx => ?_⟩, hB⟩
  · have := World.ownsRow_lit (base := w.heap.size) (e := 39) (size := 2) wq #[.int .i64 L, .slice (some ⟨g, 0, none⟩) l.length d] 1 h.below.size (by unfold maxLen; omega) rfl
    exact this
  · simp only [List.mem_singleton] at hx
    subst hx
    have := (own_syIn h.own).below ((Below.refl _ _).alloc (Nat.le_refl _) (.cells #[.int .i64 L, .slice (some ⟨g, 0, none⟩) l.length d] 39))
    refine this.kept (Nat.le_refl _) fun b hA _ => ⟨rfl, by have := hA.2; omega, fun e => ?_⟩
    simp only [Value.ownBlock, Option.some.injEq] at hA e
    have := h.glt
    omega
/-- The rule's Right turns: symbols that are new. -/
theorem O8.setR (h : O8 w T N ra rc R s rb g d L l wq) {w5 : World} {L' : Int} {l' : List Sy} {g3 d3 : Nat} {u : Value} (hs : wq.heap.size ≤ w5.heap.size) (hb : ∀ k, k < wq.heap.size → k ≠ rb → w5.heap[k]? = wq.heap[k]?) (hB : Below w.heap.size w w5) (h0 : w5.cell? ⟨rb, 0, none⟩ = some (.int .i64 L')) (h1 : w5.cell? ⟨rb, 1, none⟩ = some u) (hf : ∀ o, w5.frozen? ⟨rb, o, none⟩ = false)
    {B : Nat} (ho : w5.ownsRow B 42 2 (.slice (some ⟨g3, 0, none⟩) l'.length d3) l'.length (flatY l')) (hg : wq.heap.size ≤ g3) : O8 w T N ra rc R s rb g3 d3 L' l' (w5.setCell ⟨rb, 1, none⟩ (.slice (some ⟨g3, 0, none⟩) l'.length d3)) := by
  have hlo := h.rlo
  have hlt := h.lt
  have keep : ∀ b o v, b < w.heap.size + 2 → wq.cell? ⟨b, o, none⟩ = some v → (w5.setCell ⟨rb, 1, none⟩ (.slice (some ⟨g3, 0, none⟩) l'.length d3)).cell? ⟨b, o, none⟩ = some v := fun b o v hbl hv => by
    rw [cell_set_other (.inl (by simp only; omega)), World.cell?_of_block (w := wq) (a := ⟨b, o, none⟩) (hb b (by omega) (by omega))]
    exact hv
  refine ⟨keep _ _ _ (by omega) h.g0, keep _ _ _ (by omega) h.g1, keep _ _ _ (by omega) h.g2, keep _ _ _ (by omega) h.s0, keep _ _ _ (by omega) h.s1, keep _ _ _ (by omega) h.s2, keep _ _ _ (by omega) h.s3, ?_, World.cell?_setCell_same _ _ _ h1, fun o => (World.frozen?_setCell _ _ _ _).trans (hf o), ?_, by omega, h.rlo, ?_, hB.setCell (by simp only; omega) _⟩
  · rw [cell_set_other (.inr (by simp))]; exact h0
  · obtain ⟨z1, ⟨hx, _⟩ | ⟨g', c', cur, e, z2, z3, z4⟩⟩ := ho
    · cases hx
    · refine ⟨z1, .inr ⟨g', c', cur, e, ?_, ?_, z4⟩⟩
      · injection e with e1
        injection e1 with e1
        injection e1 with e1
        omega
      · injection e with e1
        injection e1 with e1
        injection e1 with e1
        subst e1
        rw [Below.heap_setCell _ _ _ _ (by simp only; omega)]
        exact z3
  · have hB2 : Below w.heap.size wq (w5.setCell ⟨rb, 1, none⟩ (.slice (some ⟨g3, 0, none⟩) l'.length d3)) := by
      have h8 := hB.setCell (p := ⟨rb, 1, none⟩) (by simp only; omega) (.slice (some ⟨g3, 0, none⟩) l'.length d3)
      exact ⟨h8.os.trans h.below.os.symm, h8.tape.trans h.below.tape.symm, h8.output.trans h.below.output.symm, by simpa using hs, fun k hk => (h8.block k hk).trans (h.below.block k hk).symm⟩
    exact h.rules.below hB2
end

end Go.Proofs.Ytlalmfheiippiaa

/- Rules in memory of their own, each one's symbols in a block of theirs; the contract of package step's copies. -/
namespace Go.Proofs.Ytlalmfheiippiaa
open Go.RowKit

/-- The rows: that of the rules, and the symbols of each. -/
def rlP (lv : Value) (RL : List (Value × Ru)) : Option Nat → Option Row
  | none => some ⟨lv, 39, 2, RL.length, flatR RL⟩
  | some k => (RL[k]?).map fun x => ⟨x.1, 42, 2, x.2.2.length, flatY x.2.2⟩

section
variable {w w5 w6 : World} {B : Nat} {lv nv v : Value} {RL : List (Value × Ru)} {L : Int} {l : List Sy}

theorem rlP_some {k : Nat} {a : Row} (h : rlP lv RL (some k) = some a) : ∃ hk : k < RL.length, a = ⟨RL[k].1, 42, 2, RL[k].2.2.length, flatY RL[k].2.2⟩ := by
  change (RL[k]?).map (fun x => (⟨x.1, 42, 2, x.2.2.length, flatY x.2.2⟩ : Row)) = some a at h
  by_cases hk : k < RL.length
  · rw [List.getElem?_eq_getElem hk] at h
    simp only [Option.map_some, Option.some.injEq] at h
    exact ⟨hk, h.symm⟩
  · rw [List.getElem?_eq_none (by omega)] at h
    simp at h
theorem rlP_at {k : Nat} (hk : k < RL.length) : rlP lv RL (some k) = some ⟨RL[k].1, 42, 2, RL[k].2.2.length, flatY RL[k].2.2⟩ := by
  change (RL[k]?).map (fun x => (⟨x.1, 42, 2, x.2.2.length, flatY x.2.2⟩ : Row)) = _
  rw [List.getElem?_eq_getElem hk]
  rfl
theorem rl_nil (w : World) (B : Nat) : Owns w B (rlP (.slice none 0 0) []) := by
  refine ⟨fun i r hr => ?_, fun i j a b hij ha hb g h1 h2 => ?_⟩
  · cases i with
    | none => cases hr; exact World.ownsRow_nil _ _ _ _
    | some k => obtain ⟨hk, _⟩ := rlP_some hr; simp at hk
  · cases i with
    | none => cases ha; cases h1
    | some k => obtain ⟨hk, _⟩ := rlP_some ha; simp at hk
theorem Owns.rlOwn (h : Owns w B (rlP lv RL)) : w.ownsRow B 39 2 lv RL.length (flatR RL) := h.own none _ rfl
theorem Owns.rlSym (h : Owns w B (rlP lv RL)) {k : Nat} (hk : k < RL.length) : w.ownsRow B 42 2 RL[k].1 RL[k].2.2.length (flatY RL[k].2.2) := h.own (some k) _ (rlP_at hk)
/-- One rule more. -/
theorem Owns.rlPush (h : Owns w B (rlP lv RL)) (hB : B ≤ w.heap.size) (hb : Below w.heap.size w w5) (ho : w5.ownsRow w.heap.size 42 2 v l.length (flatY l)) (hg : w5.grownBy w6 lv.ownBlock) (hn : w6.ownsRow B 39 2 nv (RL.length + 1) (flatR (RL ++ [(v, (L, l))]))) (hat : ∀ g, nv.ownBlock = some g → lv.ownBlock = some g ∨ w5.heap.size ≤ g) : Owns w6 B (rlP nv (RL ++ [(v, (L, l))])) := by
  have hs5 := hb.size
  have hlv : ∀ g, lv.ownBlock = some g → g < w.heap.size := fun g hg => (h.rlOwn.lt g hg).2
  have old : ∀ k (hk : k < RL.length), w6.ownsRow B 42 2 RL[k].1 RL[k].2.2.length (flatY RL[k].2.2) := fun k hk => by
    refine (own_below (h.rlSym hk) hb fun g hg => (((h.rlSym hk).lt g hg).2)).kept hg ?_
    cases e : RL[k].1.ownBlock with
    | none => exact .inl rfl
    | some g => exact .inr fun e' => h.apart (some k) none _ _ (by simp) (rlP_at hk) rfl g e e'.symm
  have new : w6.ownsRow w.heap.size 42 2 v l.length (flatY l) := by
    refine ho.kept hg ?_
    cases e : v.ownBlock with
    | none => exact .inl rfl
    | some g => exact .inr fun e' => by have := hlv g e'.symm; have := (ho.lt g e).1; omega
  have cases' : ∀ {k : Nat} {a : Row}, rlP nv (RL ++ [(v, (L, l))]) (some k) = some a → (∃ hk : k < RL.length, a = ⟨RL[k].1, 42, 2, RL[k].2.2.length, flatY RL[k].2.2⟩) ∨ (k = RL.length ∧ a = ⟨v, 42, 2, l.length, flatY l⟩) := fun {k a} hr => by
    obtain ⟨hk, e⟩ := rlP_some hr
    rcases Nat.lt_or_ge k RL.length with hlt | hge
    · refine .inl ⟨hlt, ?_⟩
      simp only [List.getElem_append_left hlt] at e
      exact e
    · have : k = RL.length := by simp at hk; omega
      subst this
      refine .inr ⟨rfl, ?_⟩
      simpa using e
  have noneSome : ∀ {k : Nat} {a : Row}, rlP nv (RL ++ [(v, (L, l))]) (some k) = some a → ∀ g, a.v.ownBlock = some g → nv.ownBlock = some g → False := fun {k a} ha g h1 h2 => by
    rcases cases' ha with ⟨hk, rfl⟩ | ⟨_, rfl⟩
    · have hlt := ((h.rlSym hk).lt g h1).2
      rcases hat g h2 with e | e
      · exact h.apart (some k) none _ _ (by simp) (rlP_at hk) rfl g h1 e
      · omega
    · have hl1 := (ho.lt g h1)
      rcases hat g h2 with e | e
      · have := hlv g e; omega
      · omega
  refine ⟨fun i r hr => ?_, fun i j a b hij ha hb' g h1 h2 => ?_⟩
  · cases i with
    | none =>
      cases hr
      simp only [List.length_append, List.length_singleton]
      exact hn
    | some k =>
      rcases cases' hr with ⟨hk, rfl⟩ | ⟨_, rfl⟩
      · exact old k hk
      · exact own_mono new hB
  · cases i with
    | none =>
      cases j with
      | none => exact hij rfl
      | some k => cases ha; exact noneSome hb' g h2 h1
    | some k =>
      cases j with
      | none => cases hb'; exact noneSome ha g h1 h2
      | some k' =>
        rcases cases' ha with ⟨hk, rfl⟩ | ⟨e1, rfl⟩
        · rcases cases' hb' with ⟨hk', rfl⟩ | ⟨_, rfl⟩
          · exact h.apart (some k) (some k') _ _ hij (rlP_at hk) (rlP_at hk') g h1 h2
          · have := ((h.rlSym hk).lt g h1).2
            have := (ho.lt g h2).1
            omega
        · rcases cases' hb' with ⟨hk', rfl⟩ | ⟨e2, rfl⟩
          · have := ((h.rlSym hk').lt g h2).2
            have := (ho.lt g h1).1
            omega
          · exact hij (by rw [e1, e2])
/-- They are rules that a call has made. -/
theorem Owns.rlIn (h : Owns w B (rlP lv RL)) : RlIn w B lv RL := by
  refine ⟨h.rlOwn, fun x hx => ?_⟩
  obtain ⟨k, hk, rfl⟩ := List.getElem_of_mem hx
  refine (own_syIn (h.rlSym hk)).kept (Nat.le_refl _) fun b hA _ => ⟨rfl, hA.2, fun e => ?_⟩
  exact h.apart (some k) none _ _ (by simp) (rlP_at hk) rfl b hA.1 e
end

theorem flatR_push (RL : List (Value × Ru)) (v : Value) (L : Int) (l : List Sy) : flatR (RL ++ [(v, (L, l))]) = flatR RL ++ [.int .i64 L, v] := by rw [flatR_append]; rfl
/-- A new rule, as a row of one. -/
theorem rule_row {w : World} {L : Int} {va : Option Addr} {n d : Nat} : RowAt (w.alloc (.cells #[.int .i64 L, .slice va n d] 39)) (.slice (some ⟨w.heap.size, 0, none⟩) 1 1) 1 [.int .i64 L, .slice va n d] :=
  ⟨⟨_, _, rfl, Nat.le_refl _⟩, rfl, by simp [Value.oneCell'], fun _ => ⟨_, _, rfl, World.news_of_block (cs := #[.int .i64 L, .slice va n d]) (t := 39) (fr := (0, 0)) (heap_alloc_new w _)⟩⟩

set_option maxRecDepth 100000 in
set_option maxHeartbeats 6400000 in
theorem st_copies {w : World} {T N : Int} {ra : Option Addr} {rc : Nat} {op a b c : Int} {R : List Ru} (hr : RulesAt w w.heap.size (.slice ra R.length rc) R) (hl : R.length ≤ 1000) (hl2 : ∀ q, q < R.length → (R.getD q (0, [])).2.length ≤ 1000) :
    Calls Try.prog 53 #[.agg #[.int .i64 T, .int .i64 N, .slice ra R.length rc, .int .i64 op, .int .i64 a, .int .i64 b, .int .i64 c]] w fun e w' => ∃ lv RL, e = .returned lv ∧ Owns w' w.heap.size (rlP lv RL) ∧ (RL.map fun x => x.2) = R ∧ Below w.heap.size w w' := by
  have HR : Hid (RulesAt w w.heap.size (.slice ra R.length rc) R) := hr
  have H2 : Hid (∀ q, q < R.length → (R.getD q (0, [])).2.length ≤ 1000) := hl2
  clear hr hl2
  have hB1 : Below w.heap.size w (w.alloc (.cells #[.int .i64 T, .int .i64 N, .slice ra R.length rc, .int .i64 op, .int .i64 a, .int .i64 b, .int .i64 c] 46)) := (Below.refl _ _).alloc (Nat.le_refl _) _
  have HB1 : Hid (Below w.heap.size w (w.alloc (.cells #[.int .i64 T, .int .i64 N, .slice ra R.length rc, .int .i64 op, .int .i64 a, .int .i64 b, .int .i64 c] 46))) := hB1
  clear hB1
  go_enter Try.func53, Try.ntmps53
  go_wp2_with fail
  go_loopw [3, 10] (fun s3 s10 wr => ∃ (k : Nat) (lv : Value) (RL : List (Value × Ru)), lv = s3 ∧ s10 = .int .i64 k ∧ k ≤ R.length ∧ RL.length = k ∧ (RL.map fun x => x.2) = R.take k ∧ Owns wr w.heap.size (rlP lv RL) ∧ Below w.heap.size w wr) (fun _ s _ => R.length - (intOf s).toNat)
  case atStart => exact ⟨0, _, [], rfl, rfl, Nat.zero_le _, rfl, rfl, rl_nil _ _, HB1.out⟩
  case round =>
    obtain ⟨k, lv, RL, rfl, rfl, hk, hlen, hmap, hO, hB⟩ := hrel
    have HB : Hid (Below w.heap.size w wr) := hB
    have HO : Hid (Owns wr w.heap.size (rlP lv RL)) := hO
    have HM : Hid ((RL.map fun x => x.2) = R.take k ∧ RL.length = k) := ⟨hmap, hlen⟩
    by_cases hlt : k < R.length
    · obtain ⟨b0, o0, rc0, qa, qc, hv, _, k1, k2, hsy⟩ := (HR.out.below hB).syms hlt
      cases hv
      have hn8 := H2.out k hlt
      obtain ⟨⟨L, l⟩, hx⟩ : ∃ x, R.getD k (0, []) = x := ⟨_, rfl⟩
      rw [hx] at k1 k2 hsy hn8
      simp only at k1 k2 hsy hn8
      obtain ⟨n, hn⟩ : ∃ n, l.length = n := ⟨_, rfl⟩
      rw [hn] at k2 hsy hn8
      have HX : Hid (R.take (k + 1) = R.take k ++ [(L, l)] ∧ l.length = n) := by
        refine ⟨?_, hn⟩
        rw [List.take_succ_eq_append_getElem hlt]
        congr 2
        rw [← hx]
        simp [List.getD, hlt]
      obtain ⟨W1, hW1⟩ : ∃ W, wr.alloc (.cells #[.int .i64 L, .slice qa n qc] 39) = W := ⟨_, rfl⟩
      have hB2 : Below wr.heap.size wr W1 := by rw [← hW1]; exact (Below.refl _ _).alloc (Nat.le_refl _) _
      have HB2 : Hid (Below wr.heap.size wr W1) := hB2
      have d0 : W1.cell? ⟨wr.heap.size, 0, none⟩ = some (.int .i64 L) := by rw [← hW1]; simp [go_sem]
      have d1 : W1.cell? ⟨wr.heap.size, 1, none⟩ = some (.slice qa n qc) := by rw [← hW1]; simp [go_sem]
      have cop := st_copied (w := W1) (L := L) (lv := .slice qa n qc) (l := l) (hsy.same (same_below hB2)) (by omega)
      rw [hn] at cop
      have i0 : (0 : Int) ≤ (k : Int) := Int.natCast_nonneg _
      have i1 : (k : Int) < (R.length : Int) := by omega
      clear hB hO hmap hx hn hsy hB2 hlen
      go_wp2_with
        (first
         | (go_at_call 56; refine cop.mono ?_; rintro e w3 ⟨ga, d, rfl, hown, hB3⟩
            have hrow : RowAt (w3.alloc (.cells #[.int .i64 L, .slice ga n d] 39)) (.slice (some ⟨w3.heap.size, 0, none⟩) 1 1) 1 [.int .i64 L, .slice ga n d] := rule_row
            have hB4 : Below wr.heap.size wr (w3.alloc (.cells #[.int .i64 L, .slice ga n d] 39)) := (HB2.out.trans (hB3.mono HB2.out.size)).alloc (Nat.le_trans HB2.out.size hB3.size) _
            have own4 := own_below HO.out.rlOwn hB4 fun g hg => (HO.out.rlOwn.lt g hg).2
            have hb4 : w.heap.size ≤ (w3.alloc (.cells #[.int .i64 L, .slice ga n d] 39)).heap.size := Nat.le_trans HB.out.size hB4.size
            have hlen4 : RL.length + 1 ≤ 100000 := by rw [HM.out.2]; omega
            clear cop)
         | (at_builtin
            refine wpList_append_ccR rfl _ _ rfl rfl rfl rfl own4 hrow hb4 hlen4 ?_
            intro a' d' w6 hown6 hgrow hat))
      go_roundw
      case rel =>
        refine ⟨k + 1, _, RL ++ [(.slice ga n d, (L, l))], rfl, by go_num, by omega, by rw [List.length_append, HM.out.2]; rfl, by rw [List.map_append, HM.out.1, HX.out.1]; rfl, ?_, ?_⟩
        · refine HO.out.rlPush (w5 := w3.alloc (.cells #[.int .i64 L, .slice ga n d] 39)) HB.out.size hB4 ?_ hgrow ?_ (fun g hg => (hat g hg).imp id fun e => by omega)
          · rw [HX.out.2]
            exact own_mono (hown.alloc _) HB2.out.size
          · rw [flatR_push]
            exact hown6
        · exact (HB.out.trans (hB4.mono HB.out.size)).grown hgrow hb4 fun g hg => (own4.lt g hg).1
      case measure => simp [intOf]; omega
    · have hkk : k = R.length := by omega
      clear hB hO hmap hlen
      go_wp2_with fail
      go_ret
      exact ⟨_, RL, rfl, HO.out, by rw [HM.out.1, hkk, List.take_length], HB.out⟩

end Go.Proofs.Ytlalmfheiippiaa
