import Derived.Test.YtikjekfpgklbdaaTrIbAndTrOn
import Derived.Test.YtikjekfpgklbdaaStCopiesAndStCx
import Derived.Test.YtikjekfpgklbdaaStepAt2AndStOfE
/- The contract of package step's (left).outcome. -/
namespace Go.Proofs.Ytikjekfpgklbdaa
open Go.RowKit

theorem sy_field1 {t : Bool} {v : Int} (w : World) : Sem.run Try.prog (Instr.field 52 (.agg #[.bool t, .int .i64 v]) 1) w = .ok (.int .i64 v) w := by
  unfold Instr.field asAgg
  go_simp

/-- What SLeft makes of a rule. -/
def leOne (N : Int) (a : Int) (r : Ru) : Ru := if r.1 = a then (if ownR r then (N, r.2.drop 1 ++ [(false, N)]) else (r.1, r.2 ++ [(false, N)])) else r

theorem walk_set {f : Ru → Ru} {R : List Ru} {k : Nat} (hk : k < R.length) : ((R.take k).map f ++ R.drop k).set k (f R[k]) = (R.take (k + 1)).map f ++ R.drop (k + 1) := by
  have h1 : ((R.take k).map f).length = k := by rw [List.length_map, List.length_take]; omega
  rw [List.set_append_right _ _ (by omega), h1, Nat.sub_self, List.drop_eq_getElem_cons hk, List.set_cons_zero, List.take_succ_eq_append_getElem hk, List.map_append]
  simp
theorem walk_same {f : Ru → Ru} {R : List Ru} {k : Nat} (hk : k < R.length) (h : f R[k] = R[k]) : (R.take k).map f ++ R.drop k = (R.take (k + 1)).map f ++ R.drop (k + 1) := by
  rw [← walk_set hk, h]
  have h1 : ((R.take k).map f).length = k := by rw [List.length_map, List.length_take]; omega
  rw [List.set_append_right _ _ (by omega), h1, Nat.sub_self, List.drop_eq_getElem_cons hk, List.set_cons_zero]

section
variable {w : World} {B g cap k : Nat} {v : Value} {RL : List (Value × Ru)} {l : List Sy}
/-- A rule's Right turns: symbols that lie elsewhere. -/
theorem RlIn.setS (h : RlIn w B (.slice (some ⟨g, 0, none⟩) RL.length cap) RL) (hk : k < RL.length) (hs : SyHas w (fun b => B ≤ b ∧ b ≠ g) v l) : RlIn (w.setCell ⟨g, k * 2 + 1, none⟩ v) B (.slice (some ⟨g, 0, none⟩) RL.length cap) (RL.set k (v, (RL[k].2.1, l))) := by
  refine ⟨?_, fun x hx => ?_⟩
  · have := (h.own.stored (k * 2 + 1) v).1
    rw [flatR_setR hk v l] at this
    rw [List.length_set]
    exact this
  · rcases mem_set_or hx with rfl | hx
    · refine hs.kept (by simp) fun b hA _ => ⟨Below.heap_setCell _ _ _ _ hA.2, hA.1, fun e => ?_⟩
      simp only [Value.ownBlock, Option.some.injEq] at e
      exact hA.2 e.symm
    · refine (h.sym x hx).kept (by simp) fun b hA hlt => ⟨?_, hA⟩
      rw [Below.heap_setCell _ _ _ _ (fun e => hA.2 (by simp only [Value.ownBlock]; exact congrArg some e.symm))]
/-- Both turn. -/
theorem RlIn.setB (h : RlIn w B (.slice (some ⟨g, 0, none⟩) RL.length cap) RL) (hk : k < RL.length) (L : Int) (hs : SyHas w (fun b => B ≤ b ∧ b ≠ g) v l) : RlIn ((w.setCell ⟨g, k * 2, none⟩ (.int .i64 L)).setCell ⟨g, k * 2 + 1, none⟩ v) B (.slice (some ⟨g, 0, none⟩) RL.length cap) (RL.set k (v, (L, l))) := by
  have h1 := h.setL hk L
  have e : RL.length = (RL.set k (RL[k].1, (L, RL[k].2.2))).length := by rw [List.length_set]
  rw [e] at h1
  have h2 := h1.setS (k := k) (v := v) (l := l) (by rw [← e]; exact hk) (hs.kept (by simp) fun b hA _ => ⟨Below.heap_setCell _ _ _ _ hA.2, hA⟩)
  simpa [List.set_set] using h2
end

/-- What (left).outcome holds on its way. -/
structure OL (w : World) (cs : Array Value) (ra : Option Addr) (rc : Nat) (R : List Ru) (N a : Int) (g cap eb k : Nat) (RL : List (Value × Ru)) (wq : World) : Prop where
  box : CBox w cs 90 ra rc R wq
  rl : RlIn wq (w.heap.size + 2) (.slice (some ⟨g, 0, none⟩) RL.length cap) RL
  len : RL.length = R.length
  map : (RL.map fun x => x.2) = (R.take k).map (leOne N a) ++ R.drop k
  endB : wq.heap[eb]? = some (.cells #[.bool false, .int .i64 N] 52 (0, 0))
  ne : eb ≠ g
  glo : w.heap.size + 2 ≤ g

section
variable {w wq w' : World} {cs : Array Value} {ra : Option Addr} {rc : Nat} {R : List Ru} {N a : Int} {g cap eb k : Nat} {RL : List (Value × Ru)}
theorem OL.next (h : OL w cs ra rc R N a g cap eb k RL wq) (hb : Below wq.heap.size wq w') : OL w cs ra rc R N a g cap eb k RL w' :=
  ⟨h.box.next hb, h.rl.below hb, h.len, h.map, (hb.block _ (Array.getElem?_eq_some_iff.1 h.endB).1).trans h.endB, h.ne, h.glo⟩
theorem OL.ends (h : OL w cs ra rc R N a g cap eb k RL wq) : SymsAt wq (.slice (some ⟨eb, 0, none⟩) 1 1) [(false, N)] := by
  refine ⟨⟨_, _, rfl, Nat.le_refl _⟩, fun j hj => ?_⟩
  have : j = 0 := by simp at hj; omega
  subst this
  exact ⟨eb, 0, 1, rfl, cell_of_blk (i := 0) h.endB rfl, cell_of_blk (i := 1) h.endB rfl⟩
theorem OL.here (h : OL w cs ra rc R N a g cap eb k RL wq) (hk : k < R.length) (hk' : k < RL.length) : RL[k].2 = R[k] := by
  have h1 : ((RL.map fun x => x.2)[k]'(by rw [List.length_map]; exact hk')) = R[k] := by
    simp only [h.map]
    have hl : ((R.take k).map (leOne N a)).length = k := by rw [List.length_map, List.length_take]; omega
    rw [List.getElem_append_right (by omega)]
    simp only [hl, Nat.sub_self, List.getElem_drop, Nat.add_zero]
  simpa using h1
theorem OL.mapSet (h : OL w cs ra rc R N a g cap eb k RL wq) (hk : k < R.length) {v : Value} {L : Int} {l : List Sy} (hf : leOne N a R[k] = (L, l)) : ((RL.set k (v, (L, l))).map fun x => x.2) = (R.take (k + 1)).map (leOne N a) ++ R.drop (k + 1) := by
  rw [List.map_set, h.map, ← walk_set hk, hf]
/-- A cell of the rules is written. -/
theorem OL.set (h : OL w cs ra rc R N a g cap eb k RL wq) {RK : List (Value × Ru)} {w5 : World} (hB : Below wq.heap.size wq w5) {wz : World} (hz : ∀ b, b ≠ g → wz.heap[b]? = w5.heap[b]?) (hs : w5.heap.size = wz.heap.size) (ho : wz.os = w5.os) (ht : wz.tape = w5.tape) (hou : wz.output = w5.output) (hr : RlIn wz (w.heap.size + 2) (.slice (some ⟨g, 0, none⟩) RL.length cap) RK) (hl : RK.length = RL.length) (hm : (RK.map fun x => x.2) = (R.take (k + 1)).map (leOne N a) ++ R.drop (k + 1)) : OL w cs ra rc R N a g cap eb (k + 1) RK wz := by
  have h5 := h.next hB
  have hg := h.glo
  have hbz : Below (w.heap.size + 2) w5 wz := ⟨ho, ht, hou, by omega, fun b hb => hz b (by omega)⟩
  exact ⟨h5.box.later hbz, by rw [hl]; exact hr, hl.trans h.len, hm, (hz eb h.ne).trans h5.endB, h.ne, h.glo⟩
end

end Go.Proofs.Ytikjekfpgklbdaa

/- The contracts of package step's swapIn and of (swap).outcome's closure. -/
namespace Go.Proofs.Ytikjekfpgklbdaa
open Go.RowKit

set_option maxRecDepth 100000 in
set_option maxHeartbeats 1600000 in
theorem st_other {w : World} {xb : Nat} {n a b : Int} (x4 : w.cell? ⟨xb, 4, none⟩ = some (.int .i64 a)) (x5 : w.cell? ⟨xb, 5, none⟩ = some (.int .i64 b)) :
    Calls Try.prog 75 #[.int .i64 n, .pointer (some ⟨xb, 0, none⟩)] w fun e w' => e = .returned (.int .i64 (swapN a b n)) ∧ w' = w := by
  unfold swapN
  by_cases h1 : n = a
  · have e1 : (n == a) = true := by simpa using h1
    rw [if_pos h1]
    clear h1
    go_enter Try.func75, Try.ntmps75
    go_wp2_with fail
    go_ret
    exact ⟨rfl, rfl⟩
  · have e1 : (n == a) = false := by simpa using h1
    rw [if_neg h1]
    by_cases h2 : n = b
    · have e2 : (n == b) = true := by simpa using h2
      rw [if_pos h2]
      clear h1 h2
      go_enter Try.func75, Try.ntmps75
      go_wp2_with fail
      go_ret
      exact ⟨rfl, rfl⟩
    · have e2 : (n == b) = false := by simpa using h2
      rw [if_neg h2]
      clear h1 h2
      go_enter Try.func75, Try.ntmps75
      go_wp2_with fail
      go_ret
      exact ⟨rfl, rfl⟩

theorem walk_setY {f : Sy → Sy} {R : List Sy} {k : Nat} (hk : k < R.length) : ((R.take k).map f ++ R.drop k).set k (f R[k]) = (R.take (k + 1)).map f ++ R.drop (k + 1) := by
  have h1 : ((R.take k).map f).length = k := by rw [List.length_map, List.length_take]; omega
  rw [List.set_append_right _ _ (by omega), h1, Nat.sub_self, List.drop_eq_getElem_cons hk, List.set_cons_zero, List.take_succ_eq_append_getElem hk, List.map_append]
  simp
theorem walk_sameY {f : Sy → Sy} {R : List Sy} {k : Nat} (hk : k < R.length) (h : f R[k] = R[k]) : (R.take k).map f ++ R.drop k = (R.take (k + 1)).map f ++ R.drop (k + 1) := by
  rw [← walk_setY hk, h]
  have h1 : ((R.take k).map f).length = k := by rw [List.length_map, List.length_take]; omega
  rw [List.set_append_right _ _ (by omega), h1, Nat.sub_self, List.drop_eq_getElem_cons hk, List.set_cons_zero]
theorem walk_getY {f : Sy → Sy} {R : List Sy} {k : Nat} (hk : k < R.length) : ((R.take k).map f ++ R.drop k).getD k (false, 0) = R[k] := by
  have hl : ((R.take k).map f).length = k := by rw [List.length_map, List.length_take]; omega
  rw [List.getD_eq_getElem?_getD, List.getElem?_append_right (by omega), hl, Nat.sub_self, List.getElem?_drop, Nat.add_zero, List.getElem?_eq_getElem hk]
  rfl

set_option maxRecDepth 100000 in
set_option maxHeartbeats 3200000 in
theorem st_swapIn {w : World} {B xb : Nat} {a b : Int} {v : Value} {l : List Sy} (ho : w.ownsRow B 52 2 v l.length (flatY l)) (hl : l.length ≤ 1000) (x4 : w.cell? ⟨xb, 4, none⟩ = some (.int .i64 a)) (x5 : w.cell? ⟨xb, 5, none⟩ = some (.int .i64 b)) (hxB : xb < B) :
    Calls Try.prog 77 #[v, .func (.func 75) #[] #[.pointer (some ⟨xb, 0, none⟩)]] w fun e w' => e = .returned (.tuple #[]) ∧ w'.ownsRow B 52 2 v l.length (flatY (l.map (swapS a b))) ∧ Kept (fun k => v.ownBlock = some k) w w' := by
  obtain ⟨va, vc, hv⟩ := own_form ho
  have HO : Hid (w.ownsRow B 52 2 v l.length (flatY l)) := ho
  have HX : Hid (w.cell? ⟨xb, 4, none⟩ = some (.int .i64 a) ∧ w.cell? ⟨xb, 5, none⟩ = some (.int .i64 b)) := ⟨x4, x5⟩
  have HV : Hid (v = .slice va l.length vc) := hv
  rw [hv]
  clear ho x4 x5 hv
  go_enter Try.func77, Try.ntmps77
  go_wp2_with fail
  go_loopw [8] (fun s8 wr => ∃ k : Nat, s8 = .int .i64 k ∧ k ≤ l.length ∧ wr.ownsRow B 52 2 v l.length (flatY ((l.take k).map (swapS a b) ++ l.drop k)) ∧ Kept (fun k => v.ownBlock = some k) w wr) (fun s _ => l.length - (intOf s).toNat)
  case atStart => exact ⟨0, rfl, Nat.zero_le _, by simpa using HO.out, Kept.refl _ _⟩
  case round =>
    obtain ⟨k, rfl, hk, hO, hK⟩ := hrel
    have HK : Hid (Kept (fun k => v.ownBlock = some k) w wr) := hK
    have HOk : Hid (wr.ownsRow B 52 2 v l.length (flatY ((l.take k).map (swapS a b) ++ l.drop k))) := hO
    by_cases hlt : k < l.length
    · obtain ⟨g, cap, hvg, hgB, hgs⟩ := hO.form (by omega)
      have hva : va = some ⟨g, 0, none⟩ ∧ vc = cap := by
        have := HV.out
        rw [hvg] at this
        injection this with e1 e2 e3
        exact ⟨e1.symm, e3.symm⟩
      obtain ⟨rfl, rfl⟩ := hva
      have hO2 := hO
      rw [hvg] at hO2
      have hlen : ((l.take k).map (swapS a b) ++ l.drop k).length = l.length := by
        rw [List.length_append, List.length_map, List.length_take, List.length_drop]; omega
      have c1 := (hO2.cellAt (k * 2) (by omega)).trans (flatY_get (j := 0) (by rw [hlen]; exact hlt) (by omega))
      have c2 := (hO2.cellAt (k * 2 + 1) (by omega)).trans (flatY_get (j := 1) (by rw [hlen]; exact hlt) (by omega))
      rw [walk_getY hlt] at c1 c2
      obtain ⟨⟨t, n⟩, hx⟩ : ∃ x, l[k] = x := ⟨_, rfl⟩
      rw [hx] at c1 c2
      simp only [syV, List.getElem?_cons_zero, List.getElem?_cons_succ] at c1 c2
      have f2 := hO2.frozenAt (k * 2 + 1)
      have hxg : ¬ v.ownBlock = some xb := fun e => by
        rw [hvg] at e
        simp only [Value.ownBlock, Option.some.injEq] at e
        omega
      have HXr : Hid (∀ wq, Below wr.heap.size wr wq → wq.cell? ⟨xb, 4, none⟩ = some (.int .i64 a) ∧ wq.cell? ⟨xb, 5, none⟩ = some (.int .i64 b)) := fun wq hq => by
        have h4 := HK.out.cell (p := ⟨xb, 4, none⟩) hxg HX.out.1
        have h5 := HK.out.cell (p := ⟨xb, 5, none⟩) hxg HX.out.2
        exact ⟨(hq.cell (World.block_lt_of_cell? _ _ h4)).trans h4, (hq.cell (World.block_lt_of_cell? _ _ h5)).trans h5⟩
      have HHx : Hid (l[k] = (t, n) ∧ v = .slice (some ⟨g, 0, none⟩) l.length vc ∧ g < wr.heap.size) := ⟨hx, hvg, hgs⟩
      obtain ⟨W1, hW1⟩ : ∃ W, wr.alloc (.cells #[.bool t, .int .i64 n] 52) = W := ⟨_, rfl⟩
      have hB1 : Below wr.heap.size wr W1 := by rw [← hW1]; exact (Below.refl _ _).alloc (Nat.le_refl _) _
      have HB1 : Hid (Below wr.heap.size wr W1) := hB1
      have d0 : W1.cell? ⟨wr.heap.size, 0, none⟩ = some (.bool t) := by rw [← hW1]; exact cell_of_blk (heap_alloc_new _ _) rfl
      have d1 : W1.cell? ⟨wr.heap.size, 1, none⟩ = some (.int .i64 n) := by rw [← hW1]; exact cell_of_blk (heap_alloc_new _ _) rfl
      have e2 := (hB1.cell (World.block_lt_of_cell? _ _ c2)).trans c2
      have ef2 : W1.frozen? ⟨g, k * 2 + 1, none⟩ = false := (hB1.frozen (show g < _ from hgs)).trans f2
      have ot := st_other (n := n) (HXr.out W1 hB1).1 (HXr.out W1 hB1).2
      have i0 : (0 : Int) ≤ (k : Int) := Int.natCast_nonneg _
      have i1 : (k : Int) < (l.length : Int) := by omega
      clear hK hO hO2 hx hB1 hvg hlen
      cases t with
      | true =>
        go_wp2_with fail
        go_roundw
        case rel =>
          refine ⟨k + 1, by go_num, by omega, ?_, HK.out.trans (Kept.ofBelow HB1.out)⟩
          rw [← walk_sameY hlt (by rw [HHx.out.1]; rfl)]
          exact own_below HOk.out HB1.out fun g hg => (HOk.out.lt g hg).2
        case measure => simp [intOf]; omega
      | false =>
        go_wp2_with (go_at_call 75; refine ot.mono ?_; rintro e w2 ⟨rfl, rfl⟩; clear ot)
        go_roundw
        case rel =>
          have hvb : v.ownBlock = some g := by rw [HHx.out.2.1]; rfl
          have o1 := own_below HOk.out HB1.out fun g hg => (HOk.out.lt g hg).2
          rw [HHx.out.2.1] at o1
          have o2 := (o1.stored (k * 2 + 1) (.int .i64 (swapN a b n))).1
          rw [flatY_set (by rw [List.length_append, List.length_map, List.length_take, List.length_drop]; omega), walk_getY hlt, HHx.out.1] at o2
          refine ⟨k + 1, by go_num, by omega, ?_, (HK.out.trans (Kept.ofBelow HB1.out)).setCell hvb _⟩
          rw [HHx.out.2.1, ← walk_setY hlt, HHx.out.1]
          exact o2
        case measure => simp [intOf]; omega
    · have hkk : k = l.length := by omega
      clear hK hO
      go_wp2_with fail
      go_end0
      refine ⟨rfl, ?_, by rw [← HV.out]; exact HK.out⟩
      have := HOk.out
      rw [hkk, List.take_length, List.drop_length, List.append_nil] at this
      rw [← HV.out]
      exact this

end Go.Proofs.Ytikjekfpgklbdaa

/- The contract of package step's (swap).outcome. -/
namespace Go.Proofs.Ytikjekfpgklbdaa
open Go.RowKit

/-- What SSwap makes of a rule. -/
def swOne (a b : Int) (r : Ru) : Ru := (swapN a b r.1, r.2.map (swapS a b))

theorem flatR_setL2 {RL : List (Value × Ru)} {k : Nat} (hk : k < RL.length) (L : Int) (l : List Sy) : (flatR RL).set (k * 2) (.int .i64 L) = flatR (RL.set k (RL[k].1, (L, l))) := by
  unfold flatR
  induction RL generalizing k with
  | nil => simp at hk
  | cons a RL ih =>
    cases k with
    | zero => simp [ruV]
    | succ k =>
      have := ih (k := k) (by simpa using hk)
      rw [List.flatMap_cons, List.set_cons_succ, List.flatMap_cons, List.set_append_right _ _ (by simp [ruV]; omega)]
      simp only [ruV, List.length_cons, List.length_nil, List.getElem_cons_succ] at this ⊢
      rw [show (k + 1) * 2 - (0 + 1 + 1) = k * 2 by omega, this]

/-- A rule's Left turns, and its symbols, where they lie. -/
theorem Owns.rlTurn {w w1 : World} {B g cap k : Nat} {RL : List (Value × Ru)} (h : Owns w B (rlP (.slice (some ⟨g, 0, none⟩) RL.length cap) RL)) (hk : k < RL.length) (L : Int) (l : List Sy) (hl : l.length = RL[k].2.2.length)
    (ho : w1.ownsRow B 52 2 RL[k].1 l.length (flatY l)) (hK : Kept (fun b => RL[k].1.ownBlock = some b) (w.setCell ⟨g, k * 2, none⟩ (.int .i64 L)) w1) : Owns w1 B (rlP (.slice (some ⟨g, 0, none⟩) RL.length cap) (RL.set k (RL[k].1, (L, l)))) := by
  have h1 := h.store (i := none) (g := g) (n := RL.length) (cap := cap) (e := 44) (size := 2) (xs := flatR RL) rfl (k * 2) (.int .i64 L)
  have hn : ∀ j a, upd (rlP (.slice (some ⟨g, 0, none⟩) RL.length cap) RL) none ⟨.slice (some ⟨g, 0, none⟩) RL.length cap, 44, 2, RL.length, (flatR RL).set (k * 2) (.int .i64 L)⟩ j = some a → j ≠ some k → w1.ownsRow B a.e a.size a.v a.n a.xs := fun j a ha hj => by
    have o := h1.own j a ha
    obtain ⟨z1, z2 | ⟨g', c', cur, e, z2, z3, z4⟩⟩ := o
    · exact ⟨z1, .inl z2⟩
    · refine ⟨z1, .inr ⟨g', c', cur, e, z2, ?_, z4⟩⟩
      have hlt := (Array.getElem?_eq_some_iff.1 z3).1
      rw [hK.block g' hlt fun e' => ?_]
      · exact z3
      · have hb : a.v.ownBlock = some g' := by rw [e]; rfl
        exact h1.apart j (some k) a _ hj ha (by rw [upd_other _ (by simp)]; exact rlP_at hk) g' hb e'
  have h2 : Owns w1 B (upd (upd (rlP (.slice (some ⟨g, 0, none⟩) RL.length cap) RL) none ⟨.slice (some ⟨g, 0, none⟩) RL.length cap, 44, 2, RL.length, (flatR RL).set (k * 2) (.int .i64 L)⟩) (some k) ⟨RL[k].1, 52, 2, l.length, flatY l⟩) := by
    refine h1.put ho (fun j a hj ha => hn j a ha hj) fun j a hj ha g' e1 e2 => ?_
    exact h1.apart j (some k) a ⟨RL[k].1, 52, 2, RL[k].2.2.length, flatY RL[k].2.2⟩ hj ha (by rw [upd_other _ (by simp)]; exact rlP_at hk) g' e1 e2
  have e : upd (upd (rlP (.slice (some ⟨g, 0, none⟩) RL.length cap) RL) none ⟨.slice (some ⟨g, 0, none⟩) RL.length cap, 44, 2, RL.length, (flatR RL).set (k * 2) (.int .i64 L)⟩) (some k) ⟨RL[k].1, 52, 2, l.length, flatY l⟩ = rlP (.slice (some ⟨g, 0, none⟩) RL.length cap) (RL.set k (RL[k].1, (L, l))) := by
    funext j
    cases j with
    | none =>
      rw [upd_other _ (by simp), upd_same, flatR_setL2 hk L l]
      show _ = some _
      rw [List.length_set]
    | some j =>
      by_cases hj : j = k
      · subst hj
        rw [upd_same, rlP_at (by rw [List.length_set]; exact hk)]
        simp
      · rw [upd_other _ (by simpa using hj), upd_other _ (by simp)]
        show (RL[j]?).map _ = ((RL.set k _)[j]?).map _
        rw [List.getElem?_set_ne (fun e => hj e.symm)]
  rw [e] at h2
  exact h2

set_option maxRecDepth 100000 in
set_option maxHeartbeats 12800000 in
theorem st_outS {w : World} {T : Int} {N : Int} {ra : Option Addr} {rc : Nat} {op a b c : Int} {R : List Ru} (hr : RulesAt w w.heap.size (.slice ra R.length rc) R) (hl : R.length ≤ 1000) (hl2 : ∀ q, q < R.length → (R.getD q (0, [])).2.length ≤ 1000) :
    Calls Try.prog 74 #[.agg #[.int .i64 T, .int .i64 N, .slice ra R.length rc, .int .i64 op, .int .i64 a, .int .i64 b, .int .i64 c]] w fun e w' => ∃ lv RL, e = .returned (.agg #[.int .i64 T, .int .i64 N, lv]) ∧ RlIn w' w.heap.size lv RL ∧ (RL.map fun x => x.2) = R.map (swOne a b) ∧ Below w.heap.size w w' := by
  obtain ⟨cs, hcs⟩ : ∃ cs : Array Value, #[.int .i64 T, .int .i64 N, .slice ra R.length rc, .int .i64 op, .int .i64 a, .int .i64 b, .int .i64 c] = cs := ⟨_, rfl⟩
  have hC0 : CBox w cs 83 ra rc R ((w.alloc (.cells cs 83)).alloc (.cells #[.int .i64 0, .int .i64 0, .slice none 0 0] 24)) := cbox_start hr
  rw [← hcs] at hC0
  obtain ⟨W0, hW0⟩ : ∃ W, (w.alloc (.cells #[.int .i64 T, .int .i64 N, .slice ra R.length rc, .int .i64 op, .int .i64 a, .int .i64 b, .int .i64 c] 83)).alloc (.cells #[.int .i64 0, .int .i64 0, .slice none 0 0] 24) = W := ⟨_, rfl⟩
  rw [hW0, hcs] at hC0
  have HCS : Hid (#[.int .i64 T, .int .i64 N, .slice ra R.length rc, .int .i64 op, .int .i64 a, .int .i64 b, .int .i64 c] = cs) := hcs
  have HCell : Hid (∀ wq, CBox w cs 83 ra rc R wq → wq.cell? ⟨w.heap.size, 0, none⟩ = some (.int .i64 T) ∧ wq.cell? ⟨w.heap.size, 1, none⟩ = some (.int .i64 N) ∧ wq.cell? ⟨w.heap.size, 2, none⟩ = some (.slice ra R.length rc) ∧ wq.cell? ⟨w.heap.size, 3, none⟩ = some (.int .i64 op) ∧ wq.cell? ⟨w.heap.size, 4, none⟩ = some (.int .i64 a) ∧ wq.cell? ⟨w.heap.size, 5, none⟩ = some (.int .i64 b) ∧ wq.cell? ⟨w.heap.size, 6, none⟩ = some (.int .i64 c)) := fun wq hq => by
    refine ⟨hq.cell ?_, hq.cell ?_, hq.cell ?_, hq.cell ?_, hq.cell ?_, hq.cell ?_, hq.cell ?_⟩ <;> (rw [← HCS.out]; rfl)
  obtain ⟨x0, x1, x2, x3, x4, x5, x6⟩ := HCell.out W0 hC0
  have cop := st_copies (w := W0) (T := T) (N := N) (op := op) (a := a) (b := b) (c := c) (hC0.rules.mono (Nat.le_trans (by omega) hC0.size)) hl hl2
  have HC0 : Hid (CBox w cs 83 ra rc R W0) := hC0
  have H2 : Hid (∀ q (hq : q < R.length), R[q].2.length ≤ 1000) := fun q hq => by
    have := hl2 q hq
    simpa [List.getD, hq] using this
  clear hr hl2 hC0 hcs
  go_enter Try.func74, Try.ntmps74
  go_upto_region 3 with (go_at_call 76; refine cop.mono ?_; rintro e wq ⟨lv, RL, rfl, hO, hmap, hBq⟩; clear cop)
  have hlen : RL.length = R.length := by rw [← hmap, List.length_map]
  obtain ⟨la, lc, hlv⟩ := own_form hO.rlOwn
  subst hlv
  have HBq : Hid (Below W0.heap.size W0 wq) := hBq
  have HO : Hid (Owns wq W0.heap.size (rlP (.slice la R.length lc) RL) ∧ (RL.map fun x => x.2) = R ∧ RL.length = R.length) := ⟨by rw [← hlen]; exact hO, hmap, hlen⟩
  rw [hlen]
  clear hO hmap hlen hBq x0 x1 x2 x3 x4 x5 x6 hW0
  go_wp2_with fail
  go_loopw [13] (fun s13 wr => ∃ (k : Nat) (RK : List (Value × Ru)), s13 = .int .i64 k ∧ k ≤ R.length ∧ RK.length = R.length ∧ Owns wr W0.heap.size (rlP (.slice la R.length lc) RK) ∧ (RK.map fun x => x.2) = (R.take k).map (swOne a b) ++ R.drop k ∧ Below W0.heap.size W0 wr) (fun s _ => R.length - (intOf s).toNat)
  case atStart => exact ⟨0, RL, rfl, Nat.zero_le _, HO.out.2.2, HO.out.1, by rw [HO.out.2.1]; simp, HBq.out⟩
  case round =>
    obtain ⟨k, RK, rfl, hk, hlen, hO, hmap, hB⟩ := hrel
    clear HO HBq
    have HO : Hid (Owns wr W0.heap.size (rlP (.slice la R.length lc) RK)) := hO
    have HM : Hid ((RK.map fun x => x.2) = (R.take k).map (swOne a b) ++ R.drop k ∧ RK.length = R.length) := ⟨hmap, hlen⟩
    have HB : Hid (Below W0.heap.size W0 wr) := hB
    by_cases hlt : k < R.length
    · have hkk : k < RK.length := by omega
      have hat : RK[k].2 = R[k] := by
        have h1 : ((RK.map fun x => x.2)[k]'(by rw [List.length_map]; exact hkk)) = R[k] := by
          simp only [hmap]
          have hl : ((R.take k).map (swOne a b)).length = k := by rw [List.length_map, List.length_take]; omega
          rw [List.getElem_append_right (by omega)]
          simp only [hl, Nat.sub_self, List.getElem_drop, Nat.add_zero]
        simpa using h1
      have hsk := hO.rlSym hkk
      have hrow := hO.rlOwn
      rw [hlen] at hrow
      obtain ⟨g, cap, hvg, hg0, hg1⟩ := hrow.form (by omega)
      injection hvg with e1 _ e3
      subst e1 e3
      have c1 := (hrow.cellAt (k * 2) (by omega)).trans (flatR_get (j := 0) hkk (by omega))
      have c2 := (hrow.cellAt (k * 2 + 1) (by omega)).trans (flatR_get (j := 1) hkk (by omega))
      have hgd : RK.getD k (.slice none 0 0, (0, [])) = RK[k] := by simp [List.getD, hkk]
      rw [hgd] at c1 c2
      obtain ⟨⟨v, ⟨L, l⟩⟩, hx⟩ : ∃ x, RK[k] = x := ⟨_, rfl⟩
      rw [hx] at c1 c2 hat hsk
      simp only [ruV, List.getElem?_cons_zero, List.getElem?_cons_succ] at c1 c2 hat hsk
      have hl8 := H2.out k hlt
      rw [← hat] at hl8
      simp only at hl8
      obtain ⟨va, vc, hv⟩ := own_form hsk
      subst hv
      have HX : Hid (RK[k] = (.slice va l.length vc, (L, l)) ∧ R[k] = (L, l)) := ⟨hx, hat.symm⟩
      have f1 := hrow.frozenAt (k * 2)
      obtain ⟨W1, hW1⟩ : ∃ W, wr.alloc (.cells #[.int .i64 L, .slice va l.length vc] 44) = W := ⟨_, rfl⟩
      have hB1 : Below wr.heap.size wr W1 := by rw [← hW1]; exact (Below.refl _ _).alloc (Nat.le_refl _) _
      have HB1 : Hid (Below wr.heap.size wr W1) := hB1
      have d0 : W1.cell? ⟨wr.heap.size, 0, none⟩ = some (.int .i64 L) := by rw [← hW1]; exact cell_of_blk (heap_alloc_new _ _) rfl
      have d1 : W1.cell? ⟨wr.heap.size, 1, none⟩ = some (.slice va l.length vc) := by rw [← hW1]; exact cell_of_blk (heap_alloc_new _ _) rfl
      have e1 := (hB1.cell (World.block_lt_of_cell? _ _ c1)).trans c1
      have ef1 : W1.frozen? ⟨g, k * 2, none⟩ = false := (hB1.frozen (show g < _ from hg1)).trans f1
      have hC1 := HC0.out.next (HB.out.trans (hB1.mono HB.out.size))
      have ot := st_other (n := L) (HCell.out W1 hC1).2.2.2.2.1 (HCell.out W1 hC1).2.2.2.2.2.1
      have hO1 : Owns W1 W0.heap.size (rlP (.slice (some ⟨g, 0, none⟩) R.length lc) RK) := hO.below hB1 (Nat.le_refl _)
      have hgs : w.heap.size + 2 ≤ g := Nat.le_trans HC0.out.size hg0
      have d1' : (W1.setCell ⟨g, k * 2, none⟩ (.int .i64 (swapN a b L))).cell? ⟨wr.heap.size, 1, none⟩ = some (.slice va l.length vc) := by
        rw [cell_set_other (.inl (by simp only; omega))]; exact d1
      have hC2 : CBox w cs 83 ra rc R (W1.setCell ⟨g, k * 2, none⟩ (.int .i64 (swapN a b L))) := hC1.later ((Below.refl _ _).setCell (by simp only; omega) _)
      have hne : ∀ b', (Value.slice va l.length vc).ownBlock = some b' → b' ≠ g := fun b' hb' e => by
        subst e
        have hap := hO.apart (some k) none _ _ (by simp) (rlP_at hkk) rfl b'
        rw [hx] at hap
        exact hap hb' rfl
      have hs2 : (W1.setCell ⟨g, k * 2, none⟩ (.int .i64 (swapN a b L))).ownsRow W0.heap.size 52 2 (.slice va l.length vc) l.length (flatY l) := by
        have o := own_below hsk hB1 fun g hg => (hsk.lt g hg).2
        obtain ⟨z1, z2 | ⟨g', c', cur, e, z2, z3, z4⟩⟩ := o
        · exact ⟨z1, .inl z2⟩
        · exact ⟨z1, .inr ⟨g', c', cur, e, z2, by rw [Below.heap_setCell _ _ _ _ (hne g' (by rw [e]; rfl))]; exact z3, z4⟩⟩
      have sw := st_swapIn (xb := w.heap.size) hs2 hl8 (HCell.out _ hC2).2.2.2.2.1 (HCell.out _ hC2).2.2.2.2.2.1 (by have := HC0.out.size; omega)
      have HO1 : Hid (Owns W1 W0.heap.size (rlP (.slice (some ⟨g, 0, none⟩) R.length lc) RK)) := hO1
      have HG : Hid (W0.heap.size ≤ g ∧ k < RK.length) := ⟨hg0, hkk⟩
      have i0 : (0 : Int) ≤ (k : Int) := Int.natCast_nonneg _
      have i1 : (k : Int) < (R.length : Int) := by omega
      clear hO hB hmap hlen hat hsk hrow hgd hx hB1 hC1 hO1 hC2 hs2 f1 hne hgs
      go_wp2_with
        (first
         | (go_at_call 75; refine ot.mono ?_; rintro e w2 ⟨rfl, rfl⟩; clear ot)
         | (go_at_call 77; refine sw.mono ?_; rintro e w3 ⟨rfl, ho3, hK3⟩; clear sw))
      go_roundw
      case rel =>
        have hHO := HO1.out
        rw [← HM.out.2] at hHO
        have hT := hHO.rlTurn (w1 := w3) (k := k) HG.out.2 (swapN a b L) (l.map (swapS a b)) (by rw [HX.out.1, List.length_map]) (by rw [HX.out.1, List.length_map]; exact ho3) (by rw [HX.out.1]; exact hK3)
        rw [HX.out.1, HM.out.2] at hT
        refine ⟨k + 1, _, by go_num, by omega, by rw [List.length_set]; exact HM.out.2, hT, ?_, ?_⟩
        · rw [List.map_set, HM.out.1, ← walk_set hlt, HX.out.2]
          rfl
        · have hb1 : Below W0.heap.size W0 (w2.setCell ⟨g, k * 2, none⟩ (.int .i64 (swapN a b L))) := (HB.out.trans (HB1.out.mono HB.out.size)).setCell (p := ⟨g, k * 2, none⟩) HG.out.1 _
          exact hb1.trans (hK3.below (fun b hb => (ho3.lt b hb).1) hb1.size)
      case measure => simp [intOf]; omega
    · have hC := HC0.out.next hB
      obtain ⟨x0, x1, x2, x3, x4, x5, x6⟩ := HCell.out wr hC
      have hkk : k = R.length := by omega
      have HKk : Hid (k = R.length) := hkk
      have HC : Hid (CBox w cs 83 ra rc R wr) := hC
      have wi := st_with (w := wr) (T := T) (N := N) (ra := ra) (rn := R.length) (rc := rc) (op := op) (a := a) (b := b) (c := c) (M := N) (oa := la) (on := R.length) (oc := lc)
      clear hC hO hmap hlen hB hkk
      go_wp2_with
        (go_at_call 78; refine wi.mono ?_; rintro e w7 ⟨rfl, hB7⟩
         have HC9 : Hid (CBox w cs 83 ra rc R w7) := HC.out.next hB7
         have HR9 : Hid (RlIn w7 (w.heap.size + 2) (.slice la R.length lc) RK) := (HO.out.rlIn.mono HC0.out.size).below hB7
         have z0 := HC9.out.y0
         have z1 := HC9.out.y1
         have z2 := HC9.out.y2
         have zf0 := HC9.out.yf 0
         have zf1 := HC9.out.yf 1
         have zf2 := HC9.out.yf 2
         clear wi hB7)
      have q0 := box3_0 (v0 := .int .i64 T) (v1 := .int .i64 N) (v2 := .slice la R.length lc) z0
      have q1 := box3_1 (v0 := .int .i64 T) (v1 := .int .i64 N) (v2 := .slice la R.length lc) z1
      have q2 := box3_2 (v0 := .int .i64 T) (v1 := .int .i64 N) (v2 := .slice la R.length lc) z2
      refine bodyPost_ret (v := .agg #[.int .i64 T, .int .i64 N, .slice la R.length lc]) (by simp [results, Try.results74, go_sem, q0, q1, q2]) rfl ?_
      have ho := HC9.out.out HR9.out (.int .i64 T) (.int .i64 N) (.slice la R.length lc)
      refine ⟨_, _, rfl, ho.1, ?_, ho.2⟩
      rw [HM.out.1, HKk.out]
      simp

end Go.Proofs.Ytikjekfpgklbdaa

/- Plain: what package step's outcomes make is what H1 says. No program. -/
namespace Go.Proofs.Ytikjekfpgklbdaa

section
variable {N : Nat} {R : List Ru}

theorem range_map (f : Ru → Ru) (R : List Ru) : (List.range R.length).map (fun k => f (R.getD k (0, []))) = R.map f := by
  refine List.ext_getElem (by simp) fun i h1 h2 => ?_
  have hi : i < R.length := by simpa using h2
  simp [List.getD, hi]
theorem doR_swap {a b c : Int} : R.map (swOne a b) = doR N R ⟨1, a, b, c⟩ := by
  rw [doR_one (h := fun k => swOne a b (R.getD k (0, []))) (fun k => by unfold oneR swOne; simp), range_map]
  unfold lastR
  simp
theorem doR_left {a b c : Int} : R.map (leOne N a) ++ [((N : Int), [])] = doR N R ⟨4, a, b, c⟩ := by
  rw [doR_one (h := fun k => leOne N a (R.getD k (0, []))) (fun k => by unfold oneR leOne; simp), range_map]
  unfold lastR
  simp
theorem doR_extract {ka bn cn : Nat} {L : Int} {l : List Sy} (hx : R.getD ka (0, []) = (L, l)) : R.set ka (L, l.take bn ++ (false, (N : Int)) :: l.drop cn) ++ [((N : Int), (l.take cn).drop bn)] = doR N R ⟨2, ka, bn, cn⟩ := by
  rw [doR_one (h := fun k => if (k : Int) = (ka : Int) then ((R.getD k (0, [])).1, (R.getD k (0, [])).2.take bn ++ (false, (N : Int)) :: (R.getD k (0, [])).2.drop cn) else R.getD k (0, [])) (fun k => by unfold oneR; simp)]
  have hl : lastR N R ⟨2, ka, bn, cn⟩ = [((N : Int), (l.take cn).drop bn)] := by unfold lastR; simp only [Int.toNat_natCast, hx]; simp
  rw [hl]
  congr 1
  refine List.ext_getElem (by simp) fun i h1 h2 => ?_
  have hi : i < R.length := by simpa using h2
  rw [List.getElem_set]
  simp only [List.getElem_map, List.getElem_range]
  by_cases e : ka = i
  · subst e
    rw [if_pos rfl, if_pos rfl, hx]
  · rw [if_neg e, if_neg (by omega)]
    simp [List.getD, hi]
theorem doR_prune {a b c : Int} : ((idxF (fun k => needB N R (R.getD k (0, []))) R.length).map fun (n : Nat) => (n : Int)).map (fun i => R.getD i.toNat (0, [])) = doR N R ⟨5, a, b, c⟩ := by
  have h1 : doR N R ⟨5, a, b, c⟩ = (List.range R.length).flatMap fun k => if needB N R (R.getD k (0, [])) then [R.getD k (0, [])] else [] := by
    unfold doR lastR
    simp only
    rw [if_neg (by decide), if_neg (by decide), List.append_nil]
    congr 1
  rw [h1, flatMap_pick (fun k => needB N R (R.getD k (0, []))) (fun k => R.getD k (0, []))]
  rw [List.map_map]
  rfl
theorem flat_split (P : List Ru) {ka : Nat} (hk : ka < R.length) : ((List.range R.length).flatMap fun k => if k = ka then P else [R.getD k (0, [])]) = R.take ka ++ P ++ R.drop (ka + 1) := by
  have key : ∀ n, n ≤ R.length → ((List.range n).flatMap fun k => if k = ka then P else [R.getD k (0, [])]) = if n ≤ ka then R.take n else R.take ka ++ P ++ (R.take n).drop (ka + 1) := by
    intro n
    induction n with
    | zero => intro _; simp
    | succ n ih =>
      intro hn
      have hnl : n < R.length := by omega
      have e : R.getD n (0, []) = R[n] := by simp [List.getD, hnl]
      rw [List.range_succ, List.flatMap_append, ih (by omega), List.flatMap_singleton]
      by_cases h1 : n = ka
      · subst h1
        rw [if_pos (Nat.le_refl _), if_pos rfl, if_neg (by omega)]
        rw [List.drop_eq_nil_of_le (by rw [List.length_take]; omega), List.append_nil]
      · rw [if_neg h1, e, List.take_succ_eq_append_getElem hnl]
        by_cases h2 : n ≤ ka
        · rw [if_pos h2, if_pos (by omega)]
        · rw [if_neg h2, if_neg (by omega), List.drop_append_of_le_length (by rw [List.length_take]; omega), List.append_assoc]
  have h := key R.length (Nat.le_refl _)
  rw [if_neg (by omega), List.take_length] at h
  exact h
theorem doR_inline {ka bn : Nat} {L X : Int} {l : List Sy} (hk : ka < R.length) (hx : R.getD ka (0, []) = (L, l)) (hX : l.getD bn (false, 0) = (false, X)) : R.take ka ++ ((idxF (fun k => decide ((R.getD k (0, [])).1 = X)) R.length).map fun (n : Nat) => (n : Int)).map (fun i => (L, l.take bn ++ (R.getD i.toNat (0, [])).2 ++ l.drop (bn + 1))) ++ R.drop (ka + 1) = doR N R ⟨3, ka, bn, 0⟩ := by
  have h1 : doR N R ⟨3, ka, bn, 0⟩ = (List.range R.length).flatMap fun k => if k = ka then (R.filter fun x => decide (x.1 = X)).map (inlR bn (L, l)) else [R.getD k (0, [])] := by
    unfold doR lastR
    simp only
    rw [if_neg (by decide), if_neg (by decide), List.append_nil]
    refine flatMap_on _ fun k _ => ?_
    unfold oneR
    simp only
    rw [if_neg (by decide), if_neg (by decide), if_pos trivial]
    by_cases e : k = ka
    · subst e
      rw [if_pos rfl, if_pos rfl, hx]
      simp only [Int.toNat_natCast, hX]
    · rw [if_neg e, if_neg (by omega)]
  rw [h1, flat_split _ hk, filter_idx X, List.map_map, List.map_map]
  congr 2
end

end Go.Proofs.Ytikjekfpgklbdaa
