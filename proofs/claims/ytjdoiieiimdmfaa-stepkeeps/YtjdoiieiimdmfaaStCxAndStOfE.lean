import Derived.Test.YtjdoiieiimdmfaaOne8MemAndHeldMix
import Derived.BigQuiet
import Derived.Test.YtjdoiieiimdmfaaConcYAndMay8
/- What package step's outcomes hold: the change's box, the result's; rules that are made, and turned. No walk. -/
namespace Go.Proofs.Ytjdoiieiimdmfaa
open Go.RowKit

theorem cell_of_blk {w : World} {b i : Nat} {cs : Array Value} {ty : TypeId} {f : Nat × Nat} {u : Value} (h : w.heap[b]? = some (.cells cs ty f)) (hu : cs[i]? = some u) : w.cell? ⟨b, i, none⟩ = some u := by
  unfold World.cell?
  simp [h, hu]
theorem frozen_of_blk {w : World} {b i : Nat} {cs : Array Value} {ty : TypeId} (h : w.heap[b]? = some (.cells cs ty (0, 0))) : w.frozen? ⟨b, i, none⟩ = false := by
  unfold World.frozen?
  simp [h]

/-- The change's box, of whatever cells, and the result's, of nothing yet; the grammar's rules. -/
structure CBox (w : World) (cs : Array Value) (ty : TypeId) (ra : Option Addr) (rc : Nat) (R : List Ru) (wq : World) : Prop where
  blk : wq.heap[w.heap.size]? = some (.cells cs ty (0, 0))
  res : wq.heap[w.heap.size + 1]? = some (.cells #[.int .i64 0, .int .i64 0, .slice none 0 0] 24 (0, 0))
  rules : RulesAt wq w.heap.size (.slice ra R.length rc) R
  below : Below w.heap.size w wq

section
variable {w wq w' : World} {cs : Array Value} {ty : TypeId} {ra : Option Addr} {rc : Nat} {R : List Ru}
theorem CBox.size (h : CBox w cs ty ra rc R wq) : w.heap.size + 2 ≤ wq.heap.size := by
  have := (Array.getElem?_eq_some_iff.1 h.res).1
  omega
theorem CBox.later (h : CBox w cs ty ra rc R wq) (hb : Below (w.heap.size + 2) wq w') : CBox w cs ty ra rc R w' :=
  ⟨(hb.block _ (by omega)).trans h.blk, (hb.block _ (by omega)).trans h.res, h.rules.below (hb.mono (by omega)), h.below.trans (hb.mono (by omega))⟩
theorem CBox.next (h : CBox w cs ty ra rc R wq) (hb : Below wq.heap.size wq w') : CBox w cs ty ra rc R w' := h.later (hb.mono h.size)
theorem CBox.cell (h : CBox w cs ty ra rc R wq) {i : Nat} {u : Value} (hu : cs[i]? = some u) : wq.cell? ⟨w.heap.size, i, none⟩ = some u := cell_of_blk h.blk hu
theorem cbox_start (hr : RulesAt w w.heap.size (.slice ra R.length rc) R) : CBox w cs ty ra rc R ((w.alloc (.cells cs ty)).alloc (.cells #[.int .i64 0, .int .i64 0, .slice none 0 0] 24)) := by
  have hB : Below w.heap.size w ((w.alloc (.cells cs ty)).alloc (.cells #[.int .i64 0, .int .i64 0, .slice none 0 0] 24)) := ((Below.refl _ _).alloc (Nat.le_refl _) _).alloc (by simp) _
  refine ⟨?_, ?_, hr.below hB, hB⟩
  · rw [((Below.refl (w.alloc (.cells cs ty)).heap.size _).alloc (Nat.le_refl _) _).block w.heap.size (by simp)]
    exact heap_alloc_new _ _
  · have := heap_alloc_new (w.alloc (.cells cs ty)) (.cells #[.int .i64 0, .int .i64 0, .slice none 0 0] 24)
    simpa using this
theorem CBox.y0 (h : CBox w cs ty ra rc R wq) : wq.cell? ⟨w.heap.size + 1, 0, none⟩ = some (.int .i64 0) := cell_of_blk h.res rfl
theorem CBox.y1 (h : CBox w cs ty ra rc R wq) : wq.cell? ⟨w.heap.size + 1, 1, none⟩ = some (.int .i64 0) := cell_of_blk h.res rfl
theorem CBox.y2 (h : CBox w cs ty ra rc R wq) : wq.cell? ⟨w.heap.size + 1, 2, none⟩ = some (.slice none 0 0) := cell_of_blk h.res rfl
theorem CBox.yf (h : CBox w cs ty ra rc R wq) (o : Nat) : wq.frozen? ⟨w.heap.size + 1, o, none⟩ = false := frozen_of_blk h.res
/-- The result is written. -/
theorem CBox.out (h : CBox w cs ty ra rc R wq) {lv : Value} {RL : List (Value × Ru)} (hr : RlIn wq (w.heap.size + 2) lv RL) (v0 v1 v2 : Value) : RlIn (((wq.setCell ⟨w.heap.size + 1, 0, none⟩ v0).setCell ⟨w.heap.size + 1, 1, none⟩ v1).setCell ⟨w.heap.size + 1, 2, none⟩ v2) w.heap.size lv RL ∧ Below w.heap.size w (((wq.setCell ⟨w.heap.size + 1, 0, none⟩ v0).setCell ⟨w.heap.size + 1, 1, none⟩ v1).setCell ⟨w.heap.size + 1, 2, none⟩ v2) :=
  ⟨(((hr.setLow (by simp) _).setLow (by simp) _).setLow (by simp) _).mono (by omega), ((h.below.setCell (by simp) _).setCell (by simp) _).setCell (by simp) _⟩
end

/-- x[:f] of symbols, wherever they lie. -/
theorem sy_uptoG {ad : Addr} {f sl lc : Nat} {fi : Int} (hf : fi = f) (hu : f ≤ lc) (w : World) : Sem.run Try.prog (Instr.sliceAt 39 (.slice (some ad) sl lc) none (some (.int .i64 fi)) none) w = .ok (.slice (some ad) f lc) w := by
  subst hf
  have h0 : (0 : Int) ≤ (f : Int) := Int.natCast_nonneg _
  have h1 : (f : Int) ≤ (lc : Int) := by omega
  go_simp
/-- x[f:g] of symbols. -/
theorem sy_midG {ad : Addr} {f n g sl lc : Nat} {fi gi : Int} (hf : fi = f) (hg : gi = g) (hn : g = f + n) (hu : g ≤ lc) : ∃ A, (∀ w : World, Sem.run Try.prog (Instr.sliceAt 39 (.slice (some ad) sl lc) (some (.int .i64 fi)) (some (.int .i64 gi)) none) w = .ok (.slice A n (lc - f)) w) ∧ (lc ≠ f → A = some (ad.add (f * 2))) := by
  subst hf hg
  have h0 : (0 : Int) ≤ (f : Int) := Int.natCast_nonneg _
  have h1 : (f : Int) ≤ (g : Int) := by omega
  have h2 : g - f = n := by omega
  have h3 : (0 : Int) ≤ (g : Int) := Int.natCast_nonneg _
  have h4 : (g : Int) ≤ (lc : Int) := by omega
  have h5 : f ≤ g := by omega
  clear hn
  refine ⟨if lc = f then some ad else some (ad.add (f * 2)), fun w => ?_, fun h => by rw [if_neg h]⟩
  go_simp

section
variable {w : World} {qa A : Option Addr} {d f n : Nat} {l : List Sy}
theorem SymsAt.takeG (h : SymsAt w (.slice qa l.length d) l) (hl : f ≤ l.length) : SymsAt w (.slice qa f d) (l.take f) := by
  obtain ⟨_, _, hv, hd⟩ := h.1
  cases hv
  have hlen : (l.take f).length = f := by rw [List.length_take]; omega
  refine ⟨⟨_, d, by rw [hlen], by omega⟩, fun j hj => ?_⟩
  rw [hlen] at hj
  obtain ⟨b, o, c, hv, h1, h2⟩ := h.2 j (by omega)
  cases hv
  have e : (l.take f).getD j (false, 0) = l.getD j (false, 0) := by simp [List.getD, hj]
  exact ⟨b, o, d, by rw [hlen], by rw [e]; exact h1, by rw [e]; exact h2⟩
theorem SymsAt.dropG (h : SymsAt w (.slice qa l.length d) l) (hl : l.length = f + n) (hA : d ≠ f → A = qa.map (·.add (f * 2))) : SymsAt w (.slice A n (d - f)) (l.drop f) := by
  obtain ⟨_, _, hv, hd⟩ := h.1
  cases hv
  have hlen : (l.drop f).length = n := by rw [List.length_drop]; omega
  refine ⟨⟨A, d - f, by rw [hlen], by omega⟩, fun j hj => ?_⟩
  rw [hlen] at hj
  obtain ⟨b, o, c, hv, h1, h2⟩ := h.2 (f + j) (by omega)
  cases hv
  have hA' := hA (by omega)
  simp only [Option.map_some, Addr.add_lit] at hA'
  subst hA'
  have e : (l.drop f).getD j (false, 0) = l.getD (f + j) (false, 0) := by simp [List.getD, List.getElem?_drop]
  refine ⟨b, o + f * 2, d - f, by rw [hlen], ?_, ?_⟩
  · rw [e, ← h1]; congr 2; omega
  · rw [e, ← h2]; congr 2; omega
theorem SymsAt.someG (h : SymsAt w (.slice qa l.length d) l) (hl : 0 < l.length) : ∃ ad, qa = some ad := by
  obtain ⟨b, o, c, hv, _⟩ := h.2 0 hl
  cases hv
  exact ⟨_, rfl⟩
end

theorem flatR_setR {RL : List (Value × Ru)} {k : Nat} (hk : k < RL.length) (v : Value) (l : List Sy) : (flatR RL).set (k * 2 + 1) v = flatR (RL.set k (v, (RL[k].2.1, l))) := by
  unfold flatR
  induction RL generalizing k with
  | nil => simp at hk
  | cons a RL ih =>
    cases k with
    | zero => simp [ruV]
    | succ k =>
      have := ih (k := k) (by simpa using hk)
      rw [List.flatMap_cons, List.set_cons_succ, List.flatMap_cons, List.set_append_right _ _ (by simp [ruV]; omega)]
      simp only [ruV, List.length_cons, List.length_nil, List.getElem_cons_succ] at this ⊢
      rw [show (k + 1) * 2 + 1 - (0 + 1 + 1) = k * 2 + 1 by omega, this]
theorem flatR_setL {RL : List (Value × Ru)} {k : Nat} (hk : k < RL.length) (L : Int) : (flatR RL).set (k * 2) (.int .i64 L) = flatR (RL.set k (RL[k].1, (L, RL[k].2.2))) := by
  unfold flatR
  induction RL generalizing k with
  | nil => simp at hk
  | cons a RL ih =>
    cases k with
    | zero => simp [ruV]
    | succ k =>
      have := ih (k := k) (by simpa using hk)
      rw [List.flatMap_cons, List.set_cons_succ, List.flatMap_cons, List.set_append_right _ _ (by simp [ruV]; omega)]
      simp only [ruV, List.length_cons, List.length_nil, List.getElem_cons_succ] at this ⊢
      rw [show (k + 1) * 2 - (0 + 1 + 1) = k * 2 by omega, this]

section
variable {w w5 w6 : World} {B g cap k : Nat} {lv nv v : Value} {RL : List (Value × Ru)} {L : Int} {l : List Sy}
theorem mem_set_or {α : Type} {l : List α} {k : Nat} {x y : α} (h : y ∈ l.set k x) : y = x ∨ y ∈ l := (List.mem_or_eq_of_mem_set h).symm
/-- A rule's Right turns: symbols that are new. -/
theorem RlIn.setR (h : RlIn w B (.slice (some ⟨g, 0, none⟩) RL.length cap) RL) (hb : Below w.heap.size w w5) (hk : k < RL.length) (ho : w5.ownsRow w.heap.size 43 2 v l.length (flatY l)) : RlIn (w5.setCell ⟨g, k * 2 + 1, none⟩ v) B (.slice (some ⟨g, 0, none⟩) RL.length cap) (RL.set k (v, (RL[k].2.1, l))) := by
  have hg := h.own.lt g rfl
  have hs5 := hb.size
  have own5 := own_below h.own hb fun g hg => (h.own.lt g hg).2
  refine ⟨?_, fun x hx => ?_⟩
  · have := (own5.stored (k * 2 + 1) v).1
    rw [flatR_setR hk v l] at this
    rw [List.length_set]
    exact this
  · rcases mem_set_or hx with rfl | hx
    · refine (own_syIn ho).kept (by simp) fun b hA _ => ⟨Below.heap_setCell _ _ _ _ ?_, by have := hA.2; omega, fun e => ?_⟩
      · have := hA.2; simp only; omega
      · simp only [Value.ownBlock, Option.some.injEq] at e; have := hA.2; omega
    · refine (h.sym x hx).kept (by simpa using hs5) fun b hA hlt => ⟨?_, hA⟩
      rw [Below.heap_setCell _ _ _ _ (fun e => hA.2 (by simp only [Value.ownBlock]; exact congrArg some e.symm)), hb.block b hlt]
/-- Its Left turns. -/
theorem RlIn.setL (h : RlIn w B (.slice (some ⟨g, 0, none⟩) RL.length cap) RL) (hk : k < RL.length) (L : Int) : RlIn (w.setCell ⟨g, k * 2, none⟩ (.int .i64 L)) B (.slice (some ⟨g, 0, none⟩) RL.length cap) (RL.set k (RL[k].1, (L, RL[k].2.2))) := by
  have hold : ∀ x ∈ RL, SyHas (w.setCell ⟨g, k * 2, none⟩ (.int .i64 L)) (fun b => B ≤ b ∧ (Value.slice (some ⟨g, 0, none⟩) RL.length cap).ownBlock ≠ some b) x.1 x.2.2 := fun x hx => by
    refine (h.sym x hx).kept (by simp) fun b hA hlt => ⟨?_, hA⟩
    rw [Below.heap_setCell _ _ _ _ (fun e => hA.2 (by simp only [Value.ownBlock]; exact congrArg some e.symm))]
  refine ⟨?_, fun x hx => ?_⟩
  · have := (h.own.stored (k * 2) (.int .i64 L)).1
    rw [flatR_setL hk L] at this
    rw [List.length_set]
    exact this
  · rcases mem_set_or hx with rfl | hx
    · exact hold RL[k] (List.getElem_mem hk)
    · exact hold x hx
/-- One rule more. -/
theorem RlIn.pushG (h : RlIn w B lv RL) (hB : B ≤ w.heap.size) (hb : Below w.heap.size w w5) (ho : w5.ownsRow w.heap.size 43 2 v l.length (flatY l)) (hg : w5.grownBy w6 lv.ownBlock) (hn : w6.ownsRow B 41 2 nv (RL.length + 1) (flatR (RL ++ [(v, (L, l))]))) (hat : ∀ g, nv.ownBlock = some g → lv.ownBlock = some g ∨ w5.heap.size ≤ g) : RlIn w6 B nv (RL ++ [(v, (L, l))]) := by
  have hs5 := hb.size
  have hs6 := hg.size
  have hlv : ∀ g, lv.ownBlock = some g → g < w.heap.size := fun g hg => (h.own.lt g hg).2
  refine ⟨by rw [List.length_append]; exact hn, fun x hx => ?_⟩
  rcases List.mem_append.1 hx with hx | hx
  · refine (h.sym x hx).kept (by omega) fun b hA hlt => ⟨?_, hA.1, fun e => ?_⟩
    · rw [hg.block b (by omega) (fun e => hA.2 e.symm), hb.block b hlt]
    · rcases hat b e with e | e
      · exact hA.2 e
      · omega
  · simp only [List.mem_singleton] at hx
    subst hx
    refine (own_syIn ho).kept (by omega) fun b hA hlt => ⟨?_, by have := hA.2; omega, fun e => ?_⟩
    · rw [hg.block b hlt (fun e => by have := hlv b e.symm; have := hA.2; omega)]
    · rcases hat b e with e | e
      · have := hlv b e; have := hA.2; omega
      · omega
end

end Go.Proofs.Ytjdoiieiimdmfaa

/- The contracts of package step's swapOf and extractOf. -/
namespace Go.Proofs.Ytjdoiieiimdmfaa
open Go.RowKit

set_option maxRecDepth 100000 in
theorem st_isName {w : World} {xb : Nat} {n N : Int} (x1 : w.cell? ⟨xb, 1, none⟩ = some (.int .i64 N)) :
    Calls Try.prog 20 #[.int .i64 n, .pointer (some ⟨xb, 0, none⟩)] w fun e w' => e = .returned (.bool (decide (0 < n) && decide (n < N))) ∧ w' = w := by
  by_cases h0 : 0 < n
  · have e0 : decide (0 < n) = true := decide_eq_true h0
    by_cases h1 : n < N
    · have e1 : decide (n < N) = true := decide_eq_true h1
      rw [e0, e1]
      go_enter Try.func20, Try.ntmps20
      go_wp2_with fail
      go_ret
      exact ⟨rfl, rfl⟩
    · have e1 : decide (n < N) = false := decide_eq_false h1
      rw [e0, e1]
      clear h1
      go_enter Try.func20, Try.ntmps20
      go_wp2_with fail
      go_ret
      exact ⟨rfl, rfl⟩
  · have e0 : decide (0 < n) = false := decide_eq_false h0
    rw [e0]
    clear h0
    go_enter Try.func20, Try.ntmps20
    go_wp2_with fail
    go_ret
    exact ⟨rfl, rfl⟩

set_option maxRecDepth 100000 in
set_option maxHeartbeats 6400000 in
theorem st_swapOf {w : World} {T N : Int} {ra : Option Addr} {rn rc : Nat} {op a b c : Int} :
    Calls Try.prog 13 #[.agg #[.int .i64 T, .int .i64 N, .slice ra rn rc, .int .i64 op, .int .i64 a, .int .i64 b, .int .i64 c]] w fun e w' => e = .returned (.tuple #[.iface 58 (.agg #[.int .i64 T, .int .i64 N, .slice ra rn rc, .int .i64 op, .int .i64 a, .int .i64 b, .int .i64 c]), .bool (decide (0 < a) && decide (a < N) && (decide (0 < b) && decide (b < N)) && decide (c = 0))]) ∧ Below w.heap.size w w' := by
  obtain ⟨W0, hW0⟩ : ∃ W, w.alloc (.cells #[.int .i64 T, .int .i64 N, .slice ra rn rc, .int .i64 op, .int .i64 a, .int .i64 b, .int .i64 c] 51) = W := ⟨_, rfl⟩
  have HB : Hid (Below w.heap.size w W0) := by show Below _ _ _; rw [← hW0]; exact (Below.refl _ _).alloc (Nat.le_refl _) _
  have hb := heap_alloc_new w (.cells #[.int .i64 T, .int .i64 N, .slice ra rn rc, .int .i64 op, .int .i64 a, .int .i64 b, .int .i64 c] 51)
  rw [hW0] at hb
  have x0 : W0.cell? ⟨w.heap.size, 0, none⟩ = some (.int .i64 T) := cell_of_blk hb rfl
  have x1 : W0.cell? ⟨w.heap.size, 1, none⟩ = some (.int .i64 N) := cell_of_blk hb rfl
  have x2 : W0.cell? ⟨w.heap.size, 2, none⟩ = some (.slice ra rn rc) := cell_of_blk hb rfl
  have x3 : W0.cell? ⟨w.heap.size, 3, none⟩ = some (.int .i64 op) := cell_of_blk hb rfl
  have x4 : W0.cell? ⟨w.heap.size, 4, none⟩ = some (.int .i64 a) := cell_of_blk hb rfl
  have x5 : W0.cell? ⟨w.heap.size, 5, none⟩ = some (.int .i64 b) := cell_of_blk hb rfl
  have x6 : W0.cell? ⟨w.heap.size, 6, none⟩ = some (.int .i64 c) := cell_of_blk hb rfl
  have ia := fun k => st_isName (w := W0.drewN k) (xb := w.heap.size) (n := a) (N := N) x1
  have ib := fun k => st_isName (w := W0.drewN k) (xb := w.heap.size) (n := b) (N := N) x1
  clear hb
  cases hA : (decide (0 < a) && decide (a < N)) with
  | false =>
    simp only [hA] at ia
    go_enter Try.func13, Try.ntmps13
    go_wp2_with fail
    go_big_quiet ((go_at_call 20; exact Calls.quiet_of_same (ia _)))
    go_wp2_with fail
    refine bodyPost_ret (v := .tuple #[.iface 58 (.agg #[.int .i64 T, .int .i64 N, .slice ra rn rc, .int .i64 op, .int .i64 a, .int .i64 b, .int .i64 c]), .bool false]) (by simp [results, Try.results13, go_sem]) rfl ?_
    exact ⟨by simp, below_drewN HB.out _⟩
  | true =>
    simp only [hA] at ia
    cases hB : (decide (0 < b) && decide (b < N)) with
    | false =>
      simp only [hB] at ib
      go_enter Try.func13, Try.ntmps13
      go_wp2_with fail
      go_big_quiet ((go_at_call 20; first | with_reducible exact Calls.quiet_of_same (ia _) | with_reducible exact Calls.quiet_of_same (ib _)))
      go_wp2_with fail
      refine bodyPost_ret (v := .tuple #[.iface 58 (.agg #[.int .i64 T, .int .i64 N, .slice ra rn rc, .int .i64 op, .int .i64 a, .int .i64 b, .int .i64 c]), .bool false]) (by simp [results, Try.results13, go_sem]) rfl ?_
      exact ⟨by simp, below_drewN HB.out _⟩
    | true =>
      simp only [hB] at ib
      by_cases hc : c = 0
      · have ec : (c == 0) = true := by simpa using hc
        have HCc : Hid (decide (c = 0) = true) := decide_eq_true hc
        clear hc
        go_enter Try.func13, Try.ntmps13
        go_wp2_with fail
        go_big_quiet ((go_at_call 20; first | with_reducible exact Calls.quiet_of_same (ia _) | with_reducible exact Calls.quiet_of_same (ib _)))
        go_wp2_with fail
        refine bodyPost_ret (v := .tuple #[.iface 58 (.agg #[.int .i64 T, .int .i64 N, .slice ra rn rc, .int .i64 op, .int .i64 a, .int .i64 b, .int .i64 c]), .bool true]) (by simp [results, Try.results13, go_sem]) rfl ?_
        exact ⟨by rw [HCc.out]; rfl, below_drewN HB.out _⟩
      · have ec : (c == 0) = false := by simpa using hc
        have HCc : Hid (decide (c = 0) = false) := decide_eq_false hc
        clear hc
        go_enter Try.func13, Try.ntmps13
        go_wp2_with fail
        go_big_quiet ((go_at_call 20; first | with_reducible exact Calls.quiet_of_same (ia _) | with_reducible exact Calls.quiet_of_same (ib _)))
        go_wp2_with fail
        refine bodyPost_ret (v := .tuple #[.iface 58 (.agg #[.int .i64 T, .int .i64 N, .slice ra rn rc, .int .i64 op, .int .i64 a, .int .i64 b, .int .i64 c]), .bool false]) (by simp [results, Try.results13, go_sem]) rfl ?_
        exact ⟨by rw [HCc.out]; rfl, below_drewN HB.out _⟩

end Go.Proofs.Ytjdoiieiimdmfaa

/- slices.Concat of one, two and three rows of symbols. No walk. -/
namespace Go.Proofs.Ytjdoiieiimdmfaa
open Go.RowKit

section
variable {w : World} {pb : Nat} {va vb vc : Value} {la lb lc : List Sy}

theorem cat3 (p0 : w.cell? ⟨pb, 0, none⟩ = some va) (p1 : w.cell? ⟨pb, 1, none⟩ = some vb) (p2 : w.cell? ⟨pb, 2, none⟩ = some vc) (ha : SymsAt w va la) (hb : SymsAt w vb lb) (hc : SymsAt w vc lc) (hs : la.length + lb.length + lc.length ≤ 100000) :
    Calls Try.prog 63 #[.slice (some ⟨pb, 0, none⟩) 3 3] w fun e w' => ∃ a d, e = .returned (.slice a (la.length + lb.length + lc.length) d) ∧ w'.ownsRow w.heap.size 43 2 (.slice a (la.length + lb.length + lc.length) d) (la.length + lb.length + lc.length) (flatY (la ++ lb ++ lc)) ∧ Below w.heap.size w w' := by
  have hN : totN [(va, la.length, flatY la), (vb, lb.length, flatY lb), (vc, lc.length, flatY lc)] = la.length + lb.length + lc.length := by simp [totN]; omega
  have hX : totX [(va, la.length, flatY la), (vb, lb.length, flatY lb), (vc, lc.length, flatY lc)] = flatY (la ++ lb ++ lc) := by simp [totX, flatY_append]
  have cc := concat_ccY (w := w) (pb := pb) (PL := [(va, la.length, flatY la), (vb, lb.length, flatY lb), (vc, lc.length, flatY lc)]) (fun i hi => by
    match i, hi with
    | 0, _ => exact p0
    | 1, _ => exact p1
    | 2, _ => exact p2
    | i + 3, hi => exact absurd hi (by simp)) (fun p hp => by
    simp only [List.mem_cons, List.not_mem_nil, or_false] at hp
    rcases hp with rfl | rfl | rfl
    · exact ha.row
    · exact hb.row
    · exact hc.row) (by rw [hN]; exact hs) (by simp)
  rw [hN, hX] at cc
  exact cc
theorem cat2 (p0 : w.cell? ⟨pb, 0, none⟩ = some va) (p1 : w.cell? ⟨pb, 1, none⟩ = some vb) (ha : SymsAt w va la) (hb : SymsAt w vb lb) (hs : la.length + lb.length ≤ 100000) :
    Calls Try.prog 63 #[.slice (some ⟨pb, 0, none⟩) 2 2] w fun e w' => ∃ a d, e = .returned (.slice a (la.length + lb.length) d) ∧ w'.ownsRow w.heap.size 43 2 (.slice a (la.length + lb.length) d) (la.length + lb.length) (flatY (la ++ lb)) ∧ Below w.heap.size w w' := by
  have hN : totN [(va, la.length, flatY la), (vb, lb.length, flatY lb)] = la.length + lb.length := by simp [totN]
  have hX : totX [(va, la.length, flatY la), (vb, lb.length, flatY lb)] = flatY (la ++ lb) := by simp [totX, flatY_append]
  have cc := concat_ccY (w := w) (pb := pb) (PL := [(va, la.length, flatY la), (vb, lb.length, flatY lb)]) (fun i hi => by
    match i, hi with
    | 0, _ => exact p0
    | 1, _ => exact p1
    | i + 2, hi => exact absurd hi (by simp)) (fun p hp => by
    simp only [List.mem_cons, List.not_mem_nil, or_false] at hp
    rcases hp with rfl | rfl
    · exact ha.row
    · exact hb.row) (by rw [hN]; exact hs) (by simp)
  rw [hN, hX] at cc
  exact cc
theorem cat1 (p0 : w.cell? ⟨pb, 0, none⟩ = some va) (ha : SymsAt w va la) (hs : la.length ≤ 100000) :
    Calls Try.prog 63 #[.slice (some ⟨pb, 0, none⟩) 1 1] w fun e w' => ∃ a d, e = .returned (.slice a la.length d) ∧ w'.ownsRow w.heap.size 43 2 (.slice a la.length d) la.length (flatY la) ∧ Below w.heap.size w w' := by
  have hN : totN [(va, la.length, flatY la)] = la.length := by simp [totN]
  have hX : totX [(va, la.length, flatY la)] = flatY la := by simp [totX]
  have cc := concat_ccY (w := w) (pb := pb) (PL := [(va, la.length, flatY la)]) (fun i hi => by
    match i, hi with
    | 0, _ => exact p0
    | i + 1, hi => exact absurd hi (by simp)) (fun p hp => by
    simp only [List.mem_cons, List.not_mem_nil, or_false] at hp
    rcases hp with rfl
    exact ha.row) (by rw [hN]; exact hs) (by simp)
  rw [hN, hX] at cc
  exact cc
end

/-- A new symbol, as a row of one. -/
theorem sym_row {w : World} {t : Bool} {v : Int} : SymsAt (w.alloc (.cells #[.bool t, .int .i64 v] 43)) (.slice (some ⟨w.heap.size, 0, none⟩) 1 1) [(t, v)] := by
  have hb := heap_alloc_new w (.cells #[.bool t, .int .i64 v] 43)
  refine ⟨⟨_, _, rfl, Nat.le_refl _⟩, fun j hj => ?_⟩
  have : j = 0 := by simp at hj; omega
  subst this
  exact ⟨w.heap.size, 0, 1, rfl, cell_of_blk (i := 0) hb rfl, cell_of_blk (i := 1) hb rfl⟩

end Go.Proofs.Ytjdoiieiimdmfaa

/- The contracts of package step's (left).begins and leftOf. -/
namespace Go.Proofs.Ytjdoiieiimdmfaa
open Go.RowKit

set_option maxRecDepth 100000 in
set_option maxHeartbeats 6400000 in
theorem st_begins {w : World} {T N : Int} {ra : Option Addr} {rc k : Nat} {op a b c : Int} {R : List Ru} (hr : RulesAt w w.heap.size (.slice ra R.length rc) R) (hk : k < R.length) :
    Calls Try.prog 24 #[.agg #[.int .i64 T, .int .i64 N, .slice ra R.length rc, .int .i64 op, .int .i64 a, .int .i64 b, .int .i64 c], .int .i64 k] w fun e w' => e = .returned (.bool (ownA a (R.getD k (0, [])))) ∧ Below w.heap.size w w' := by
  obtain ⟨W0, hW0⟩ : ∃ W, w.alloc (.cells #[.int .i64 T, .int .i64 N, .slice ra R.length rc, .int .i64 op, .int .i64 a, .int .i64 b, .int .i64 c] 65) = W := ⟨_, rfl⟩
  have hB0 : Below w.heap.size w W0 := by rw [← hW0]; exact (Below.refl _ _).alloc (Nat.le_refl _) _
  have x2 : W0.cell? ⟨w.heap.size, 2, none⟩ = some (.slice ra R.length rc) := by rw [← hW0]; exact cell_of_blk (heap_alloc_new _ _) rfl
  have x4 : W0.cell? ⟨w.heap.size, 4, none⟩ = some (.int .i64 a) := by rw [← hW0]; exact cell_of_blk (heap_alloc_new _ _) rfl
  obtain ⟨b0, o0, rc0, qa, qc, hv, _, k1, k2, hsy⟩ := (hr.below hB0).syms hk
  cases hv
  obtain ⟨⟨L, l⟩, hx⟩ : ∃ x, R.getD k (0, []) = x := ⟨_, rfl⟩
  rw [hx] at k1 k2 hsy ⊢
  simp only at k1 k2 hsy
  obtain ⟨W1, hW1⟩ : ∃ W, W0.alloc (.cells #[.int .i64 L, .slice qa l.length qc] 41) = W := ⟨_, rfl⟩
  have hB1 : Below W0.heap.size W0 W1 := by rw [← hW1]; exact (Below.refl _ _).alloc (Nat.le_refl _) _
  have y4 := (hB1.cell (World.block_lt_of_cell? _ _ x4)).trans x4
  have r0 : W1.cell? ⟨W0.heap.size, 0, none⟩ = some (.int .i64 L) := by rw [← hW1]; exact cell_of_blk (heap_alloc_new _ _) rfl
  have r1 : W1.cell? ⟨W0.heap.size, 1, none⟩ = some (.slice qa l.length qc) := by rw [← hW1]; exact cell_of_blk (heap_alloc_new _ _) rfl
  have HB : Hid (Below w.heap.size w W1) := hB0.trans (hB1.mono hB0.size)
  have hsy1 := hsy.same (same_below hB1)
  have i0 : (0 : Int) ≤ (k : Int) := Int.natCast_nonneg _
  have i1 : (k : Int) < (R.length : Int) := by omega
  clear hr hx hB0 hB1 hsy
  by_cases hLa : L = a
  · subst hLa
    by_cases h0 : 0 < l.length
    · obtain ⟨b1, o1, c1, h1, h2, h3⟩ := hsy1.2 0 h0
      cases h1
      simp only [Nat.zero_mul, Nat.add_zero] at h2 h3
      obtain ⟨⟨t, v⟩, hx⟩ : ∃ x, l.getD 0 (false, 0) = x := ⟨_, rfl⟩
      rw [hx] at h2 h3
      simp only at h2 h3
      have j0 : (0 : Int) < (l.length : Int) := by omega
      have hE : ownA L (L, l) = (!t && decide (v = L)) := by unfold ownA ownR; simp only [hx]; simp [h0]
      rw [hE]
      have eL : (L == L) = true := by simp
      clear hsy1 hx hE
      cases t with
      | true =>
        go_enter Try.func24, Try.ntmps24
        go_wp2_with fail
        go_big_quiet (fail)
        go_wp2_with fail
        go_ret
        exact ⟨rfl, below_drewN HB.out _⟩
      | false =>
        by_cases hv : v = L
        · subst hv
          go_enter Try.func24, Try.ntmps24
          go_wp2_with fail
          go_big_quiet (fail)
          go_wp2_with fail
          go_ret
          exact ⟨by simp, below_drewN HB.out _⟩
        · have e1 : (v == L) = false := by simpa using hv
          go_enter Try.func24, Try.ntmps24
          go_wp2_with fail
          go_big_quiet (fail)
          go_wp2_with fail
          go_ret
          exact ⟨by simp [hv], below_drewN HB.out _⟩
    · have hl0 : l.length = 0 := by omega
      have hE : ownA L (L, l) = false := by unfold ownA ownR; simp [hl0]
      rw [hE]
      rw [hl0] at r1 k2 hW1
      have eL : (L == L) = true := by simp
      clear hsy1 hE h0 hl0
      go_enter Try.func24, Try.ntmps24
      go_wp2_with fail
      go_big_quiet (fail)
      go_wp2_with fail
      go_ret
      exact ⟨rfl, below_drewN HB.out _⟩
  · have hE : ownA a (L, l) = false := by unfold ownA; simp [hLa]
    rw [hE]
    have eL : (L == a) = false := by simpa using hLa
    clear hsy1 hE hLa
    go_enter Try.func24, Try.ntmps24
    go_wp2_with fail
    go_big_quiet (fail)
    go_wp2_with fail
    go_ret
    exact ⟨rfl, below_drewN HB.out _⟩

end Go.Proofs.Ytjdoiieiimdmfaa

/- The contract of package step's extractOf. -/
namespace Go.Proofs.Ytjdoiieiimdmfaa
open Go.RowKit

/-- The carrier's box, and the rules. -/
structure KBox (w : World) (T N : Int) (ra : Option Addr) (rc : Nat) (R : List Ru) (op a b c : Int) (wq : World) : Prop where
  blk : wq.heap[w.heap.size]? = some (.cells #[.int .i64 T, .int .i64 N, .slice ra R.length rc, .int .i64 op, .int .i64 a, .int .i64 b, .int .i64 c] 51 (0, 0))
  rules : RulesAt wq w.heap.size (.slice ra R.length rc) R
  below : Below w.heap.size w wq

section
variable {w wq w' : World} {T N : Int} {ra : Option Addr} {rc : Nat} {R : List Ru} {op a b c : Int}
theorem KBox.size (h : KBox w T N ra rc R op a b c wq) : w.heap.size + 1 ≤ wq.heap.size := (Array.getElem?_eq_some_iff.1 h.blk).1
theorem KBox.next (h : KBox w T N ra rc R op a b c wq) (hb : Below wq.heap.size wq w') : KBox w T N ra rc R op a b c w' :=
  ⟨(hb.block _ h.size).trans h.blk, h.rules.below (hb.mono (Nat.le_trans (by omega) h.size)), h.below.trans (hb.mono (Nat.le_trans (by omega) h.size))⟩
theorem KBox.x0 (h : KBox w T N ra rc R op a b c wq) : wq.cell? ⟨w.heap.size, 0, none⟩ = some (.int .i64 T) := cell_of_blk h.blk rfl
theorem KBox.x1 (h : KBox w T N ra rc R op a b c wq) : wq.cell? ⟨w.heap.size, 1, none⟩ = some (.int .i64 N) := cell_of_blk h.blk rfl
theorem KBox.x2 (h : KBox w T N ra rc R op a b c wq) : wq.cell? ⟨w.heap.size, 2, none⟩ = some (.slice ra R.length rc) := cell_of_blk h.blk rfl
theorem KBox.x3 (h : KBox w T N ra rc R op a b c wq) : wq.cell? ⟨w.heap.size, 3, none⟩ = some (.int .i64 op) := cell_of_blk h.blk rfl
theorem KBox.x4 (h : KBox w T N ra rc R op a b c wq) : wq.cell? ⟨w.heap.size, 4, none⟩ = some (.int .i64 a) := cell_of_blk h.blk rfl
theorem KBox.x5 (h : KBox w T N ra rc R op a b c wq) : wq.cell? ⟨w.heap.size, 5, none⟩ = some (.int .i64 b) := cell_of_blk h.blk rfl
theorem KBox.x6 (h : KBox w T N ra rc R op a b c wq) : wq.cell? ⟨w.heap.size, 6, none⟩ = some (.int .i64 c) := cell_of_blk h.blk rfl
theorem KBox.all (h : KBox w T N ra rc R op a b c wq) : RulesAt wq wq.heap.size (.slice ra R.length rc) R := h.rules.mono (Nat.le_trans (by omega) h.size)
theorem kbox_start (hr : RulesAt w w.heap.size (.slice ra R.length rc) R) : KBox w T N ra rc R op a b c (w.alloc (.cells #[.int .i64 T, .int .i64 N, .slice ra R.length rc, .int .i64 op, .int .i64 a, .int .i64 b, .int .i64 c] 51)) := by
  have hB : Below w.heap.size w (w.alloc (.cells #[.int .i64 T, .int .i64 N, .slice ra R.length rc, .int .i64 op, .int .i64 a, .int .i64 b, .int .i64 c] 51)) := (Below.refl _ _).alloc (Nat.le_refl _) _
  exact ⟨heap_alloc_new _ _, hr.below hB, hB⟩
end

set_option maxRecDepth 100000 in
set_option maxHeartbeats 6400000 in
theorem st_extractOf_no {w : World} {T N : Int} {ra : Option Addr} {rc : Nat} {R : List Ru} {op a b c : Int} (hr : RulesAt w w.heap.size (.slice ra R.length rc) R) (hs : ¬ (0 ≤ a ∧ a < (R.length : Int) ∧ 0 ≤ b ∧ b < c ∧ c ≤ ((R.getD a.toNat (0, [])).2.length : Int))) :
    Calls Try.prog 14 #[.agg #[.int .i64 T, .int .i64 N, .slice ra R.length rc, .int .i64 op, .int .i64 a, .int .i64 b, .int .i64 c]] w fun e w' => e = .returned (.tuple #[.nilIface, .bool false]) ∧ Below w.heap.size w w' := by
  have hK := kbox_start (T := T) (N := N) (op := op) (a := a) (b := b) (c := c) hr
  obtain ⟨W0, hW0⟩ : ∃ W, w.alloc (.cells #[.int .i64 T, .int .i64 N, .slice ra R.length rc, .int .i64 op, .int .i64 a, .int .i64 b, .int .i64 c] 51) = W := ⟨_, rfl⟩
  rw [hW0] at hK
  have x2 := hK.x2
  have x4 := hK.x4
  have x5 := hK.x5
  have x6 := hK.x6
  have HB : Hid (Below w.heap.size w W0) := hK.below
  have ia := st_isBelow (w := W0) (n := a) (m := (R.length : Int))
  cases hA : (decide (0 ≤ a) && decide (a < (R.length : Int))) with
  | false =>
    rw [hA] at ia
    clear hK hr hs hA
    go_enter Try.func14, Try.ntmps14
    go_wp2_with (go_at_call 21; refine ia.mono ?_; rintro e w2 ⟨rfl, rfl⟩)
    refine bodyPost_ret (v := .tuple #[.nilIface, .bool false]) (by simp [results, Try.results14, go_sem]) rfl ?_
    exact ⟨rfl, HB.out⟩
  | true =>
    rw [hA] at ia
    simp only [Bool.and_eq_true, decide_eq_true_eq] at hA
    obtain ⟨ka, rfl⟩ : ∃ ka : Nat, a = ka := ⟨a.toNat, by omega⟩
    have hk : ka < R.length := by omega
    obtain ⟨b0, o0, rc0, qa, qc, hv, _, k1, k2, _⟩ := hK.rules.syms hk
    cases hv
    rw [Int.toNat_natCast] at hs
    obtain ⟨n, hn⟩ : ∃ n, (R.getD ka (0, [])).2.length = n := ⟨_, rfl⟩
    rw [hn] at k2 hs
    have i0 : (0 : Int) ≤ (ka : Int) := Int.natCast_nonneg _
    have i1 : (ka : Int) < (R.length : Int) := by omega
    have ib := st_isBelow (w := W0) (n := b) (m := c)
    by_cases hc : (n : Int) < c
    · clear hK hr hs hn k1 ib hA
      go_enter Try.func14, Try.ntmps14
      go_wp2_with (go_at_call 21; refine ia.mono ?_; rintro e w2 ⟨rfl, rfl⟩)
      refine bodyPost_ret (v := .tuple #[.nilIface, .bool false]) (by simp [results, Try.results14, go_sem]) rfl ?_
      exact ⟨rfl, HB.out⟩
    · have hBb : (decide (0 ≤ b) && decide (b < c)) = false := by
        cases h : (decide (0 ≤ b) && decide (b < c)) with
        | false => rfl
        | true =>
          simp only [Bool.and_eq_true, decide_eq_true_eq] at h
          exact absurd ⟨i0, i1, h.1, h.2, by omega⟩ hs
      rw [hBb] at ib
      have ec : decide ((n : Int) < c) = false := decide_eq_false hc
      clear hK hr hs hn k1 hBb hA hc
      go_enter Try.func14, Try.ntmps14
      go_wp2_with
        (first
         | (go_at_call 21; refine ia.mono ?_; rintro e w2 ⟨rfl, rfl⟩; clear ia)
         | (go_at_call 21; refine ib.mono ?_; rintro e w2 ⟨rfl, rfl⟩))
      refine bodyPost_ret (v := .tuple #[.nilIface, .bool false]) (by simp [results, Try.results14, go_sem]) rfl ?_
      exact ⟨rfl, HB.out⟩

set_option maxRecDepth 100000 in
set_option maxHeartbeats 6400000 in
theorem st_extractOf_yes {w : World} {T N : Int} {ra : Option Addr} {rc : Nat} {R : List Ru} {op : Int} {ka bn cn m : Nat} {L : Int} {l : List Sy} (hr : RulesAt w w.heap.size (.slice ra R.length rc) R) (hk : ka < R.length) (hx : R.getD ka (0, []) = (L, l)) (hbc : bn < cn) (hcl : l.length = cn + m) (hl8 : l.length ≤ 1000) :
    Calls Try.prog 14 #[.agg #[.int .i64 T, .int .i64 N, .slice ra R.length rc, .int .i64 op, .int .i64 ka, .int .i64 bn, .int .i64 cn]] w fun e w' => e = .returned (.tuple #[.iface 61 (.agg #[.int .i64 T, .int .i64 N, .slice ra R.length rc, .int .i64 op, .int .i64 ka, .int .i64 bn, .int .i64 cn, .int .i64 (namesS (l.take bn)).length, .int .i64 (namesS (l.take cn)).length]), .bool true]) ∧ Below w.heap.size w w' := by
  have hK := kbox_start (T := T) (N := N) (op := op) (a := ka) (b := bn) (c := cn) hr
  obtain ⟨W0, hW0⟩ : ∃ W, w.alloc (.cells #[.int .i64 T, .int .i64 N, .slice ra R.length rc, .int .i64 op, .int .i64 ka, .int .i64 bn, .int .i64 cn] 51) = W := ⟨_, rfl⟩
  rw [hW0] at hK
  have x2 := hK.x2
  have x4 := hK.x4
  have x5 := hK.x5
  have x6 := hK.x6
  have ia := st_isBelow (w := W0) (n := ka) (m := (R.length : Int))
  have ib := st_isBelow (w := W0) (n := bn) (m := cn)
  obtain ⟨b0, o0, rc0, qa, qc, hv, _, k1, k2, hsy⟩ := hK.rules.syms hk
  cases hv
  rw [hx] at k1 k2 hsy
  simp only at k1 k2 hsy
  have hqc : l.length ≤ qc := by obtain ⟨_, _, hv, hle⟩ := hsy.1; cases hv; exact hle
  obtain ⟨ad, rfl⟩ := hsy.someG (by omega)
  rw [hcl] at k2 hqc
  have i0 : (0 : Int) ≤ (ka : Int) := Int.natCast_nonneg _
  have i1 : (ka : Int) < (R.length : Int) := by omega
  have j0 : (0 : Int) ≤ (bn : Int) := Int.natCast_nonneg _
  have j1 : (bn : Int) < (cn : Int) := by omega
  rw [decide_eq_true i0, decide_eq_true i1] at ia
  rw [decide_eq_true j0, decide_eq_true j1] at ib
  have ec : decide (((cn + m : Nat) : Int) < (cn : Int)) = false := decide_eq_false (by omega)
  have HK : Hid (KBox w T N (some ⟨b0, o0, none⟩) rc R op ka bn cn W0) := hK
  have HSy : Hid (∀ wq, Below W0.heap.size W0 wq → SymsAt wq (.slice (some ad) l.length qc) l) := fun wq hq => hsy.same (same_below hq)
  have HX : Hid (l.length = cn + m) := hcl
  have hup1 := fun w => sy_uptoG (ad := ad) (f := bn) (sl := cn + m) (lc := qc) (fi := (bn : Int)) rfl (by omega) w
  have hup2 := fun w => sy_uptoG (ad := ad) (f := cn) (sl := cn + m) (lc := qc) (fi := (cn : Int)) rfl (by omega) w
  clear hK hr hx hcl hsy k1
  go_enter Try.func14, Try.ntmps14
  go_upto_region 6 with
    (first
     | (go_at_call 21; with_reducible refine ia.mono ?_; rintro e w2 ⟨rfl, h2⟩; obtain rfl : W0 = w2 := h2.symm; clear ia)
     | (go_at_call 21; with_reducible refine ib.mono ?_; rintro e w2 ⟨rfl, h2⟩; obtain rfl : W0 = w2 := h2.symm; clear ib))
  obtain ⟨Wd, hWd⟩ : ∃ W, W0.drew = W := ⟨_, rfl⟩
  have hBd : Below W0.heap.size W0 Wd := by rw [← hWd]; exact (Below.refl _ _).drew
  have HKd : Hid (∀ wq, Below Wd.heap.size Wd wq → KBox w T N (some ⟨b0, o0, none⟩) rc R op ka bn cn wq ∧ SymsAt wq (.slice (some ad) l.length qc) l) := fun wq hq => by
    have h1 : Below W0.heap.size W0 wq := hBd.trans (hq.mono hBd.size)
    exact ⟨HK.out.next h1, HSy.out wq h1⟩
  have HSS : Hid (∀ wq, Below Wd.heap.size Wd wq → wq.cell? ⟨w.heap.size, 0, none⟩ = some (.int .i64 T) ∧ wq.cell? ⟨w.heap.size, 1, none⟩ = some (.int .i64 N) ∧ wq.cell? ⟨w.heap.size, 2, none⟩ = some (.slice (some ⟨b0, o0, none⟩) R.length rc) ∧ wq.cell? ⟨w.heap.size, 3, none⟩ = some (.int .i64 op) ∧ wq.cell? ⟨w.heap.size, 4, none⟩ = some (.int .i64 ka) ∧ wq.cell? ⟨w.heap.size, 5, none⟩ = some (.int .i64 bn) ∧ wq.cell? ⟨w.heap.size, 6, none⟩ = some (.int .i64 cn)) := fun wq hq =>
    let h := (HKd.out wq hq).1
    ⟨h.x0, h.x1, h.x2, h.x3, h.x4, h.x5, h.x6⟩
  have S0 := HSS.out Wd (Below.refl _ _)
  clear hBd x2 x4 x5 x6 k2 hW0
  refine wp_region_mix [0, 1, 2, 3, 4, 5, 7, 8, 9, 10, 11] 6 16 (fun wq => wq.cell? ⟨w.heap.size, 0, none⟩ = some (.int .i64 T) ∧ wq.cell? ⟨w.heap.size, 1, none⟩ = some (.int .i64 N) ∧ wq.cell? ⟨w.heap.size, 2, none⟩ = some (.slice (some ⟨b0, o0, none⟩) R.length rc) ∧ wq.cell? ⟨w.heap.size, 3, none⟩ = some (.int .i64 op) ∧ wq.cell? ⟨w.heap.size, 4, none⟩ = some (.int .i64 ka) ∧ wq.cell? ⟨w.heap.size, 5, none⟩ = some (.int .i64 bn) ∧ wq.cell? ⟨w.heap.size, 6, none⟩ = some (.int .i64 cn)) (by kernel_rfl) (by kernel_rfl) (by rw [hWd]; exact S0) ?_
  rw [hWd]
  clear hWd S0
  iterate 11
    refine StillI.con8 (v := ?_) rfl (by rfl) ?_ ?_
    rotate_left
    · intro w' hSw
      obtain ⟨z0, z1, z2, z3, z4, z5, z6⟩ := hSw
      go_simp
      try with_reducible rfl
    simp only [Act.put, List.setIfInBounds_toArray, List.set_cons_zero, List.set_cons_succ]
  rw [StillI]
  have n1 := st_namesIn (w := Wd) ((HKd.out Wd (Below.refl _ _)).2.takeG (f := bn) (by rw [HX.out]; omega)) (by rw [List.length_take]; omega)
  refine TailC.one (i := 6) (by kernel_rfl) ⟨_, rfl, fun K hK => ?_⟩
  go_simp
  refine n1.mono ?_
  rintro e w3 ⟨rfl, hB3⟩
  dsimp only
  refine hK.out _ _ (fun _ => HSS.out _ hB3) ?_
  clear hK n1
  have n2 := st_namesIn (w := w3) ((HKd.out w3 hB3).2.takeG (f := cn) (by rw [HX.out]; omega)) (by rw [List.length_take]; omega)
  refine TailC.one (i := 12) (by kernel_rfl) ⟨_, rfl, fun K hK => ?_⟩
  go_simp
  refine n2.mono ?_
  rintro e w4 ⟨rfl, hB4⟩
  dsimp only
  have hB4' : Below Wd.heap.size Wd w4 := hB3.trans (hB4.mono hB3.size)
  refine hK.out _ _ (fun _ => HSS.out _ hB4') ?_
  clear hK n2
  refine TailC.one (i := 13) (by kernel_rfl) ⟨_, rfl, fun K hK => ?_⟩
  go_simp
  refine hK.out _ _ (fun _ => HSS.out _ hB4') ?_
  clear hK
  refine TailC.one (i := 14) (by kernel_rfl) ⟨_, rfl, fun K hK => ?_⟩
  go_simp
  refine hK.out _ _ (fun _ => HSS.out _ hB4') ?_
  clear hK
  refine TailC.one (i := 15) (by kernel_rfl) ⟨_, rfl, fun K hK => ?_⟩
  go_simp
  refine hK.out _ _ (fun _ => HSS.out _ hB4') ?_
  clear hK
  refine TailC.last (i := 16) (by kernel_rfl) ⟨_, rfl, fun K hK => ?_⟩
  go_simp
  refine hK.out _ _ (fun h => absurd h (by omega)) (NoPanic.normal ?_)
  clear hK
  go_wp2_with fail
  refine bodyPost_ret (v := .tuple #[.iface 61 (.agg #[.int .i64 T, .int .i64 N, .slice (some ⟨b0, o0, none⟩) R.length rc, .int .i64 op, .int .i64 ka, .int .i64 bn, .int .i64 cn, .int .i64 (namesS (l.take bn)).length, .int .i64 (namesS (l.take cn)).length]), .bool true]) (by simp [results, Try.results14, go_sem]) rfl ?_
  exact ⟨rfl, (HKd.out w4 hB4').1.below⟩

end Go.Proofs.Ytjdoiieiimdmfaa
