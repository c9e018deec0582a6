/- parted; the boxes of left's back. -/
import Derived.Test.YtikjekfpgklbdaaTrLf
namespace Go.Proofs.Ytikjekfpgklbdaa
open Go.RowKit

set_option maxRecDepth 100000 in
set_option maxHeartbeats 3200000 in
theorem st_parted {w : World} {A : Nat → Prop} {va : Option Addr} {n vc : Nat} {L : List Tr} {x : Tr} (hL : TrIn w A (.slice va (n + 1) vc) (L ++ [x])) (hn : n ≤ 100000) :
    Calls Try.prog 100 #[.slice va (n + 1 : Nat) vc] w fun e w' => e = .returned (.tuple #[.slice va n vc, .agg #[.int .i64 (x.2.1 : Int), x.1]]) ∧ Below w.heap.size w w' := by
  have hl : (L ++ [x]).length = n + 1 := by obtain ⟨_, _, h, _⟩ := hL.form; injection h with _ h _; omega
  have hLl : L.length = n := by simpa using hl
  obtain ⟨b1, o1, c1, hv, _, t1, t2⟩ := hL.cells n (by omega)
  rw [hl] at hv
  injection hv with hv1 _ hv3
  subst hv1
  subst hv3
  have hx : (L ++ [x])[n] = x := by simp [← hLl]
  have hcap : n + 1 ≤ vc := by obtain ⟨_, _, h, h'⟩ := hL.form; injection h with _ h5 h6; omega
  obtain ⟨ka, kc, hkv, _⟩ := hL.kids x (by simp)
  rw [hx] at t1 t2
  obtain ⟨xv, xq, xk⟩ := x
  simp only at t1 t2 hkv ⊢
  obtain ⟨m, hm⟩ : ∃ m, lenF xk = m := ⟨_, rfl⟩
  rw [hm] at hkv
  subst hkv
  obtain ⟨W, hW⟩ : ∃ W, w.alloc (.cells #[.int .i64 0, .slice none 0 0] 70) = W := ⟨_, rfl⟩
  have hB : Below w.heap.size w W := by rw [← hW]; exact (Below.refl _ _).alloc (Nat.le_refl _) _
  have hres := heap_alloc_new w (.cells #[.int .i64 0, .slice none 0 0] 70)
  rw [hW] at hres
  obtain ⟨sz, hsz⟩ : ∃ x, w.heap.size = x := ⟨_, rfl⟩
  have HB : Hid (Below w.heap.size w W ∧ w.heap.size = sz) := ⟨hB, hsz⟩
  rw [hsz] at hres
  have s1 := (hB.cell (World.block_lt_of_cell? _ _ t1)).trans t1
  have s2 := (hB.cell (World.block_lt_of_cell? _ _ t2)).trans t2
  have HSd : Hid (∀ wq, Below W.heap.size W wq → wq.cell? ⟨b1, o1 + n * 2, none⟩ = some (.int .i64 (xq : Int)) ∧ wq.cell? ⟨b1, o1 + n * 2 + 1, none⟩ = some (.slice ka m kc)) := fun wq hq => ⟨(hq.cell (World.block_lt_of_cell? _ _ s1)).trans s1, (hq.cell (World.block_lt_of_cell? _ _ s2)).trans s2⟩
  obtain ⟨Wd, hWd⟩ : ∃ V, W.drew = V := ⟨_, rfl⟩
  have hBd : Below W.heap.size W Wd := by rw [← hWd]; exact (Below.refl _ _).drew
  have S0 := HSd.out Wd hBd
  have hres' := (hBd.block _ (Array.getElem?_eq_some_iff.1 hres).1).trans hres
  have y0 : Wd.cell? ⟨sz, 0, none⟩ = some (.int .i64 0) := cell_of_blk hres' rfl
  have y1 : Wd.cell? ⟨sz, 1, none⟩ = some (.slice none 0 0) := cell_of_blk hres' rfl
  have yf0 : Wd.frozen? ⟨sz, 0, none⟩ = false := frozen_of_blk hres'
  have yf1 : Wd.frozen? ⟨sz, 1, none⟩ = false := frozen_of_blk hres'
  have q0 := res_0 (v0 := .int .i64 (xq : Int)) (v1 := .slice ka m kc) hres'
  have q1 := res_1 (v0 := .int .i64 (xq : Int)) (v1 := .slice ka m kc) hres'
  have HBd : Hid (Below w.heap.size w ((Wd.setCell ⟨sz, 0, none⟩ (.int .i64 (xq : Int))).setCell ⟨sz, 1, none⟩ (.slice ka m kc))) := ((hB.trans (hBd.mono hB.size)).setCell (by simp only; omega) _).setCell (by simp only; omega) _
  have hup := fun w => tr_upto (la := some ⟨b1, o1, none⟩) (f := n) (sl := n + 1) (lc := vc) (fi := (n : Int)) rfl (by omega) w
  have i0 : (0 : Int) ≤ (n : Int) := Int.natCast_nonneg _
  have i1 : (n : Int) < ((n + 1 : Nat) : Int) := by omega
  have hwr : IntKind.i64.wrap (((n + 1 : Nat) : Int) - 1) = (n : Int) := by rw [IntWalk.i64_in _ (by omega)]; omega
  have HW : Hid (w.alloc (.cells #[.int .i64 0, .slice none 0 0] 70) = W) := hW
  obtain ⟨n1, hn1⟩ : ∃ n1, n + 1 = n1 := ⟨_, rfl⟩
  rw [hn1] at hup i1 hwr ⊢
  clear hL hl hLl t1 t2 hx hcap hm hB hres hres' hBd s1 s2 hn1 hW
  go_enter Try.func100, Try.ntmps100
  go_upto_region 2 with fail
  rw [HW.out]
  clear hsz HB HW
  refine wp_region_mix [0, 1, 2, 3, 4, 5, 6, 7] 1 8 (fun wq => wq.cell? ⟨b1, o1 + n * 2, none⟩ = some (.int .i64 (xq : Int)) ∧ wq.cell? ⟨b1, o1 + n * 2 + 1, none⟩ = some (.slice ka m kc)) (by kernel_rfl) (by kernel_rfl) (by rw [hWd]; exact S0) ?_
  rw [hWd]
  clear hWd S0 HSd
  iterate 8
    refine StillI.con8 (v := ?_) rfl (by rfl) ?_ ?_
    rotate_left
    · intro w' hSw
      obtain ⟨z0, z1⟩ := hSw
      go_simp
      try with_reducible rfl
    simp only [Act.put, List.setIfInBounds_toArray, List.set_cons_zero, List.set_cons_succ]
  rw [StillI]
  refine TailC.last (i := 8) (by kernel_rfl) ⟨_, rfl, fun K hK => ?_⟩
  go_simp
  refine hK.out _ _ (fun h => absurd h (by omega)) (NoPanic.normal ?_)
  clear hK
  go_wp2_with fail
  refine bodyPost_ret (v := .tuple #[.slice (some ⟨b1, o1, none⟩) n vc, .agg #[.int .i64 (xq : Int), .slice ka m kc]]) (by simp [results, Try.results100, go_sem, q0, q1]) rfl ?_
  exact ⟨rfl, HBd.out⟩

/-- The boxes of left's back: of the change, of the tree, of the result, of what is behind, and of what comes. -/
structure LbM (w : World) (cx : Array Value) (p6 p7 : Nat) (A : Nat → Prop) (q : Nat) (kv : Value) (cq : Nat) (cv : Value) (oq : Nat) (ov : Value) (ok : Fo) (wr : World) : Prop where
  below : Below w.heap.size w wr
  lo : w.heap.size + 3 ≤ p6
  lt : p6 < p7
  chg : wr.heap[w.heap.size]? = some (.cells cx 90 (0, 0))
  tre : wr.heap[w.heap.size + 1]? = some (.cells #[.int .i64 (q : Int), kv] 70 (0, 0))
  res : wr.heap[w.heap.size + 1 + 1]? = some (.cells #[.int .i64 0, .slice none 0 0] 70 (0, 0))
  beh : wr.heap[p6]? = some (.cells #[.int .i64 (cq : Int), cv] 70 (0, 0))
  out : wr.heap[p7]? = some (.cells #[.int .i64 (oq : Int), ov] 70 (0, 0))
  oin : FoIn wr (fun b => A b ∨ (p6 < b ∧ b ≠ p7)) ov ok
section
variable {w wr w' : World} {cx : Array Value} {p6 p7 : Nat} {A : Nat → Prop} {q : Nat} {kv : Value} {cq : Nat} {cv : Value} {oq : Nat} {ov : Value} {ok : Fo}
theorem LbM.hi (h : LbM w cx p6 p7 A q kv cq cv oq ov ok wr) : p7 < wr.heap.size := (Array.getElem?_eq_some_iff.1 h.out).1
theorem LbM.next (h : LbM w cx p6 p7 A q kv cq cv oq ov ok wr) (hb : Below wr.heap.size wr w') : LbM w cx p6 p7 A q kv cq cv oq ov ok w' := by
  have h1 := h.hi
  have h2 := h.lo
  have h3 := h.lt
  exact ⟨h.below.trans (hb.mono h.below.size), h.lo, h.lt, (hb.block _ (by omega)).trans h.chg, (hb.block _ (by omega)).trans h.tre, (hb.block _ (by omega)).trans h.res, (hb.block _ (by omega)).trans h.beh, (hb.block _ h1).trans h.out, h.oin.below hb⟩
/-- What comes is laid anew. -/
theorem LbM.setO (h : LbM w cx p6 p7 A q kv cq cv oq ov ok wr) (hA : ∀ b, A b → b < w.heap.size) {nq : Nat} {nv : Value} {nk : Fo} (hk : FoIn wr (fun b => A b ∨ (p6 < b ∧ b ≠ p7)) nv nk) : LbM w cx p6 p7 A q kv cq cv nq nv nk ((wr.setCell ⟨p7, 0, none⟩ (.int .i64 (nq : Int))).setCell ⟨p7, 1, none⟩ nv) := by
  have h1 := h.hi
  have h2 := h.lo
  have h3 := h.lt
  refine ⟨(h.below.setCell (by simp only; omega) _).setCell (by simp only; omega) _, h.lo, h.lt, (tree_far (by omega) _ _).trans h.chg, (tree_far (by omega) _ _).trans h.tre, (tree_far (by omega) _ _).trans h.res, (tree_far (by omega) _ _).trans h.beh, tree_set h.out, ?_⟩
  refine hk.laid (fun h => ?_) _ _ fun b hb => hb
  rcases h with h | h
  · have := hA _ h; omega
  · exact h.2 rfl
/-- What is behind is laid anew. -/
theorem LbM.setC (h : LbM w cx p6 p7 A q kv cq cv oq ov ok wr) (hA : ∀ b, A b → b < w.heap.size) {nq : Nat} {nv : Value} : LbM w cx p6 p7 A q kv nq nv oq ov ok ((wr.setCell ⟨p6, 0, none⟩ (.int .i64 (nq : Int))).setCell ⟨p6, 1, none⟩ nv) := by
  have h1 := h.hi
  have h2 := h.lo
  have h3 := h.lt
  refine ⟨(h.below.setCell (by simp only; omega) _).setCell (by simp only; omega) _, h.lo, h.lt, (tree_far (by omega) _ _).trans h.chg, (tree_far (by omega) _ _).trans h.tre, (tree_far (by omega) _ _).trans h.res, tree_set h.beh, (tree_far (by omega) _ _).trans h.out, ?_⟩
  refine h.oin.laid (fun h => ?_) _ _ fun b hb => hb
  rcases h with h | h
  · have := hA _ h; omega
  · omega
end
theorem LbM.cells {w wr : World} {T N o a b c : Int} {ra : Option Addr} {rl rc p6 p7 : Nat} {A : Nat → Prop} {q : Nat} {kv : Value} {cq : Nat} {cv : Value} {oq : Nat} {ov : Value} {ok : Fo} (h : LbM w #[.int .i64 T, .int .i64 N, .slice ra rl rc, .int .i64 o, .int .i64 a, .int .i64 b, .int .i64 c] p6 p7 A q kv cq cv oq ov ok wr) : LefS w.heap.size T N o a b c ra rl rc q kv wr ∧ wr.cell? ⟨p6, 0, none⟩ = some (.int .i64 (cq : Int)) ∧ wr.cell? ⟨p6, 1, none⟩ = some cv ∧ wr.cell? ⟨p7, 0, none⟩ = some (.int .i64 (oq : Int)) ∧ wr.cell? ⟨p7, 1, none⟩ = some ov :=
  ⟨⟨cell_of_blk h.chg rfl, cell_of_blk h.chg rfl, cell_of_blk h.chg rfl, cell_of_blk h.chg rfl, cell_of_blk h.chg rfl, cell_of_blk h.chg rfl, cell_of_blk h.chg rfl, cell_of_blk h.tre rfl, cell_of_blk h.tre rfl⟩, cell_of_blk h.beh rfl, cell_of_blk h.beh rfl, cell_of_blk h.out rfl, cell_of_blk h.out rfl⟩
/-- The box of what comes is there, too. -/
theorem LfM.out {w wz : World} {cx : Array Value} {p6 p7 : Nat} {A : Nat → Prop} {q : Nat} {kv : Value} {cq : Nat} {cv : Value} {ck : Fo} (h : LfM w cx p6 A q kv cq cv ck wz) (hA : ∀ b, A b → b < w.heap.size) (hp : p6 < p7) (hz : wz.heap[p7]? = some (.cells #[.int .i64 0, .slice none 0 0] 70 (0, 0))) {oq : Nat} {ov : Value} {ok : Fo} (hk : FoIn wz (fun b => A b ∨ (p6 < b ∧ b ≠ p7)) ov ok) : LbM w cx p6 p7 A q kv cq cv oq ov ok ((wz.setCell ⟨p7, 0, none⟩ (.int .i64 (oq : Int))).setCell ⟨p7, 1, none⟩ ov) := by
  have h2 := h.lo
  refine ⟨(h.below.setCell (by simp only; omega) _).setCell (by simp only; omega) _, h.lo, hp, (tree_far (by omega) _ _).trans h.chg, (tree_far (by omega) _ _).trans h.tre, (tree_far (by omega) _ _).trans h.res, (tree_far (by omega) _ _).trans h.beh, tree_set hz, ?_⟩
  refine hk.laid (fun h => ?_) _ _ fun b hb => hb
  rcases h with h | h
  · have := hA _ h; omega
  · exact h.2 rfl

end Go.Proofs.Ytikjekfpgklbdaa
