import Derived.Test.YtlalmfheiippiaaMathAndHeldTail
import Derived.Laws.AppendOwnNone
import Derived.Lib.AppendZeros
/- HeldTail, where what only reads does not stand ahead of all else in the text: the numbers of the operations that are taken first, and of those that follow, are given as lists. No program. -/
namespace Go.Proofs.Ytlalmfheiippiaa

section
variable {P : Program} {ops : Array Oper} {Q : Exit → Act → World → Prop} {md : Region.Mode} {S : World → Prop}

/-- Those that are taken first. -/
def StillI (P : Program) (ops : Array Oper) (S : World → Prop) (K : Act → Prop) : List Nat → Act → Prop
  | [], a => K a
  | i :: l, a => ∃ o v, ops[i]? = some o ∧ YieldsIf P ops S o v a ∧ StillI P ops S K l (a.put o.dst v)
theorem StillI.cons {K : Act → Prop} {i : Nat} {o : Oper} {l : List Nat} {a : Act} {v : Value} (ho : ops[i]? = some o) (hw : Region.wanted o (yielded ops a.tmps) = true) (hy : ∀ w, S w → (execOp a.eval o).run P w = .ok (.value v) w) (h : StillI P ops S K l (a.put o.dst v)) : StillI P ops S K (i :: l) a :=
  ⟨o, v, ho, .inl ⟨hw, hy⟩, h⟩

/-- Those that follow. -/
def TailI (P : Program) (ops : Array Oper) (Q : Exit → Act → World → Prop) (S : World → Prop) (n : Nat) : List Nat → Act → World → Prop
  | [], a, w => Q .normal a w
  | k :: l, a, w => ∃ o, ops[k]? = some o ∧ ∀ K : Act → World → Prop, Shut (∀ a w, (k < n → S w) → TailI P ops Q S n l a w → K a w) → if Region.wanted o (yielded ops a.tmps) = true then Oper.wp P o a w K Q else K (a.put o.dst undef) w
theorem TailI.cons {n k : Nat} {o : Oper} {l : List Nat} {a : Act} {w : World} (ho : ops[k]? = some o) (h : ∀ K : Act → World → Prop, Shut (∀ a w, (k < n → S w) → TailI P ops Q S n l a w → K a w) → if Region.wanted o (yielded ops a.tmps) = true then Oper.wp P o a w K Q else K (a.put o.dst undef) w) : TailI P ops Q S n (k :: l) a w := ⟨o, ho, h⟩

end

end Go.Proofs.Ytlalmfheiippiaa

/- How symbols and rules that a step makes lie in memory; the contracts of pollardingref8's copied, own, swapped. -/
namespace Go.Proofs.Ytlalmfheiippiaa
open Go.RowKit

theorem StillI.con8 {P : Program} {ops : Array Oper} {S : World → Prop} {K : Act → Prop} {i : Nat} {o : Oper} {l : List Nat} {a : Act} {v : Value} (ho : ops.toList[i]? = some o) (hw : Region.wanted o (yielded ops a.tmps) = true) (hy : ∀ w, S w → (execOp a.eval o).run P w = .ok (.value v) w) (h : StillI P ops S K l (a.put o.dst v)) : StillI P ops S K (i :: l) a :=
  StillI.cons (by simpa using ho) hw hy h
theorem TailI.con8 {P : Program} {ops : Array Oper} {Q : Exit → Act → World → Prop} {S : World → Prop} {n k : Nat} {o : Oper} {l : List Nat} {a : Act} {w : World} (ho : ops.toList[k]? = some o) (h : ∀ K : Act → World → Prop, Shut (∀ a w, (k < n → S w) → TailI P ops Q S n l a w → K a w) → if Region.wanted o (yielded ops a.tmps) = true then Oper.wp P o a w K Q else K (a.put o.dst undef) w) : TailI P ops Q S n (k :: l) a w :=
  TailI.cons (by simpa using ho) h

def syV (s : Sy) : List Value := [.bool s.1, .int .i64 s.2]
def flatY (l : List Sy) : List Value := l.flatMap syV

section
variable {l m : List Sy}
theorem flatY_len (l : List Sy) : (flatY l).length = l.length * 2 := by
  unfold flatY
  induction l with
  | nil => rfl
  | cons a L ih => rw [List.flatMap_cons, List.length_append, ih]; simp [syV]; omega
theorem flatY_get {i j : Nat} (hi : i < l.length) (hj : j < 2) : (flatY l)[i * 2 + j]? = (syV (l.getD i (false, 0)))[j]? := by
  unfold flatY
  induction l generalizing i with
  | nil => simp at hi
  | cons a L ih =>
    rw [List.flatMap_cons]
    cases i with
    | zero => rw [List.getElem?_append_left (by simp [syV]; omega)]; simp
    | succ i =>
      rw [List.getElem?_append_right (by simp [syV]; omega)]
      simp only [syV, List.length_cons, List.length_nil]
      rw [show (i + 1) * 2 + j - (0 + 1 + 1) = i * 2 + j by omega]
      have := ih (i := i) (by simpa using hi)
      simpa [List.getD, syV] using this
theorem flatY_append (l m : List Sy) : flatY (l ++ m) = flatY l ++ flatY m := by simp [flatY]
theorem flatY_one (l : List Sy) : ∀ u ∈ flatY l, u.oneCell' = true := fun u hu => by
  unfold flatY at hu
  obtain ⟨x, _, hu⟩ := List.mem_flatMap.1 hu
  simp only [syV, List.mem_cons, List.not_mem_nil, or_false] at hu
  rcases hu with rfl | rfl <;> rfl
theorem flatY_set {i : Nat} {v : Int} (hi : i < l.length) : (flatY l).set (i * 2 + 1) (.int .i64 v) = flatY (l.set i ((l.getD i (false, 0)).1, v)) := by
  unfold flatY
  induction l generalizing i with
  | nil => simp at hi
  | cons a L ih =>
    cases i with
    | zero => simp [syV]
    | succ i =>
      have := ih (i := i) (by simpa using hi)
      rw [List.flatMap_cons, List.set_cons_succ, List.flatMap_cons, List.set_append_right _ _ (by simp [syV]; omega)]
      simp only [syV, List.length_cons, List.length_nil] at this ⊢
      rw [show (i + 1) * 2 + 1 - (0 + 1 + 1) = i * 2 + 1 by omega, this]
      simp [List.getD]
end

/-- Symbols that lie at a slice value, in a block of A. -/
def SyHas (w : World) (A : Nat → Prop) (v : Value) (l : List Sy) : Prop :=
  (∃ a c, v = .slice a l.length c ∧ l.length ≤ c) ∧ ∀ j, j < l.length → ∃ b o c, v = .slice (some ⟨b, o, none⟩) l.length c ∧ A b ∧ b < w.heap.size ∧ w.cell? ⟨b, o + j * 2, none⟩ = some (.bool (l.getD j (false, 0)).1) ∧ w.cell? ⟨b, o + j * 2 + 1, none⟩ = some (.int .i64 (l.getD j (false, 0)).2)

section
variable {w w' : World} {A A' : Nat → Prop} {v : Value} {l : List Sy}
theorem SyHas.kept (h : SyHas w A v l) (hs : w.heap.size ≤ w'.heap.size) (hb : ∀ b, A b → b < w.heap.size → w'.heap[b]? = w.heap[b]? ∧ A' b) : SyHas w' A' v l :=
  ⟨h.1, fun j hj => let ⟨b, o, c, h1, h2, h3, h4, h5⟩ := h.2 j hj
    ⟨b, o, c, h1, (hb b h2 h3).2, by omega, (World.cell?_of_block (w := w) (hb b h2 h3).1).trans h4, (World.cell?_of_block (w := w) (hb b h2 h3).1).trans h5⟩⟩
theorem SyHas.below (h : SyHas w A v l) (hb : Below w.heap.size w w') : SyHas w' A v l := h.kept hb.size fun b hA hlt => ⟨hb.block b hlt, hA⟩
theorem SyHas.syms (h : SyHas w A v l) : SymsAt w v l := ⟨h.1, fun j hj => let ⟨b, o, c, h1, _, _, h4, h5⟩ := h.2 j hj; ⟨b, o, c, h1, h4, h5⟩⟩
theorem own_syIn {base : Nat} (h : w.ownsRow base 42 2 v l.length (flatY l)) : SyHas w (fun b => v.ownBlock = some b ∧ base ≤ b) v l := by
  have hh := h
  obtain ⟨_, ⟨hv, h0⟩ | ⟨g, cap, cur, e, hb, _, hle, _⟩⟩ := hh
  · exact ⟨⟨none, 0, by rw [hv, h0], by omega⟩, fun j hj => by omega⟩
  · subst e
    refine ⟨⟨_, _, rfl, hle⟩, fun j hj => ⟨g, 0, cap, rfl, ⟨rfl, hb⟩, (h.lt g rfl).2, ?_, ?_⟩⟩
    · rw [Nat.zero_add, h.cellAt (j * 2) (by omega)]
      exact flatY_get (j := 0) hj (by omega)
    · rw [Nat.zero_add, h.cellAt (j * 2 + 1) (by omega)]
      exact flatY_get (j := 1) hj (by omega)
/-- The cells of symbols, one by one. -/
theorem SymsAt.news (h : SymsAt w v l) (hl : 0 < l.length) : ∃ ad c, v = .slice (some ad) l.length c ∧ ∀ j u, (flatY l)[j]? = some u → w.cell? (ad.add j) = some u := by
  obtain ⟨b, o, c, h1, _, _⟩ := h.2 0 hl
  refine ⟨⟨b, o, none⟩, c, h1, fun j u hu => ?_⟩
  have hj := (List.getElem?_eq_some_iff.1 hu).1
  rw [flatY_len] at hj
  obtain ⟨b', o', c', h2, h3, h4⟩ := h.2 (j / 2) (by omega)
  rw [h1] at h2
  cases h2
  rw [Addr.add_lit]
  rcases Nat.mod_two_eq_zero_or_one j with h5 | h5
  · have e : j = j / 2 * 2 + 0 := by omega
    rw [e, flatY_get (by omega) (by omega)] at hu
    simp only [syV, List.getElem?_cons_zero, Option.some.injEq] at hu
    rw [← hu, ← h3, e]
    congr 3
    omega
  · have e : j = j / 2 * 2 + 1 := by omega
    rw [e, flatY_get (by omega) (by omega)] at hu
    simp only [syV, List.getElem?_cons_succ, List.getElem?_cons_zero, Option.some.injEq] at hu
    rw [← hu, ← h4]
    congr 2
    omega
end

/-- x[f:] of symbols. -/
theorem sy_from {la : Option Addr} {f n sl lc : Nat} {fi : Int} (hf : fi = f) (hs : sl = f + n) : ∃ A, (∀ w : World, Sem.run Try.prog (Instr.sliceAt 37 (.slice la sl lc) (some (.int .i64 fi)) none none) w = .ok (.slice A n (lc - f)) w) ∧ (lc ≠ f → A = la.map (·.add (f * 2))) := by
  subst hf
  have h0 : (0 : Int) ≤ (f : Int) := Int.natCast_nonneg _
  have h1 : (f : Int) ≤ (sl : Int) := by omega
  have h2 : sl - f = n := by omega
  refine ⟨if lc = f then la else la.map (·.add (f * 2)), fun w => ?_, fun h => by rw [if_neg h]⟩
  go_simp
  intro h
  omega
end Go.Proofs.Ytlalmfheiippiaa

/- Rows of two cells an element, as they can be read; parts that are put together. No walk. -/
namespace Go.Proofs.Ytlalmfheiippiaa
open Go.RowKit

/-- The cells ys lie at a slice value: m elements, two cells each. -/
def RowAt (w : World) (v : Value) (m : Nat) (ys : List Value) : Prop :=
  (∃ a c, v = .slice a m c ∧ m ≤ c) ∧ ys.length = m * 2 ∧ (∀ u ∈ ys, u.oneCell' = true) ∧ (0 < m → ∃ ad c, v = .slice (some ad) m c ∧ ∀ j u, ys[j]? = some u → w.cell? (ad.add j) = some u)

section
variable {w w' : World} {v : Value} {m : Nat} {ys : List Value}
theorem RowAt.below (h : RowAt w v m ys) {B : Nat} (hB : w.heap.size ≤ B) (hb : Below B w w') : RowAt w' v m ys := by
  refine ⟨h.1, h.2.1, h.2.2.1, fun hm => ?_⟩
  obtain ⟨ad, c, e, hc⟩ := h.2.2.2 hm
  refine ⟨ad, c, e, fun j u hu => ?_⟩
  have h1 := hc j u hu
  have h2 := World.block_lt_of_cell? _ _ h1
  exact (hb.cell (by omega)).trans h1
theorem SymsAt.row {l : List Sy} (h : SymsAt w v l) : RowAt w v l.length (flatY l) := ⟨h.1, flatY_len l, flatY_one l, fun hm => h.news hm⟩
end

/-- A part: where it lies, how long it is, its cells. -/
abbrev Part := Value × Nat × List Value
def totN (PL : List Part) : Nat := (PL.map fun p => p.2.1).sum
def totX (PL : List Part) : List Value := PL.flatMap fun p => p.2.2
theorem totN_take {PL : List Part} {k : Nat} (hk : k < PL.length) : totN (PL.take (k + 1)) = totN (PL.take k) + PL[k].2.1 := by
  unfold totN
  rw [List.take_succ_eq_append_getElem hk, List.map_append, List.sum_append]
  simp
theorem totX_take {PL : List Part} {k : Nat} (hk : k < PL.length) : totX (PL.take (k + 1)) = totX (PL.take k) ++ PL[k].2.2 := by
  unfold totX
  rw [List.take_succ_eq_append_getElem hk, List.flatMap_append]
  simp
theorem totN_le (PL : List Part) (k : Nat) : totN (PL.take k) ≤ totN PL := by
  have e : totN PL = totN (PL.take k) + totN (PL.drop k) := by
    unfold totN
    rw [← List.sum_append, ← List.map_append, List.take_append_drop]
  omega

end Go.Proofs.Ytlalmfheiippiaa

/- The contracts of slices.Grow and slices.Concat, of api.Rule. -/
namespace Go.Proofs.Ytlalmfheiippiaa
open Go.RowKit

theorem Try.infoCcR : (Try.prog.info? 39).map (fun i => (i.zero, i.size, i.bytes)) = some (some (.agg #[.int .i64 0, .slice none 0 0]), 2, 32) := by kernel_rfl

theorem append_ccR0 {w : World} {oa sa : Option Addr} {n d c : Nat} (hn : n ≤ d) (h0 : oa = none → n = 0 ∧ d = 0) : (Builtin.append_ #[ 22, 22 ] 22 #[.slice oa n d, .slice sa 0 c]).run Try.prog w = .ok (.slice oa n d) w := by
  cases oa with
  | none =>
    obtain ⟨rfl, rfl⟩ := h0 rfl
    cases sa <;> go_simp
  | some o => cases sa <;> go_simp

/-- append(x, l...), x being the call's own, or none. -/
theorem append_ccR {w : World} {B : Nat} {ov lv : Value} {n m : Nat} {xs ys : List Value} (ho : w.ownsRow B 39 2 ov n xs) (hl : RowAt w lv m ys) (hb : B ≤ w.heap.size) (hs : n + m ≤ 100000) :
    ∃ a d w', (Builtin.append_ #[ 22, 22 ] 22 #[ov, lv]).run Try.prog w = .ok (.slice a (n + m) d) w' ∧ w'.ownsRow B 39 2 (.slice a (n + m) d) (n + m) (xs ++ ys) ∧ w.grownBy w' ov.ownBlock ∧ ∀ g, (Value.slice a (n + m) d).ownBlock = some g → ov.ownBlock = some g ∨ g = w.heap.size := by
  obtain ⟨oa, od, hov⟩ := own_form ho
  obtain ⟨⟨la, lc, hlv, _⟩, hlen, hone, hcell⟩ := hl
  rcases Nat.eq_zero_or_pos m with h0 | h0
  · subst h0
    have he : ys = [] := List.eq_nil_of_length_eq_zero (by omega)
    subst he
    rw [hov, hlv]
    have hnd : n ≤ od ∧ (oa = none → n = 0 ∧ od = 0) := by
      obtain ⟨_, ⟨hx, hz⟩ | ⟨_, _, _, hx, _, _, h5, _⟩⟩ := ho
      · rw [hov] at hx
        injection hx with x1 x2 x3
        exact ⟨by omega, fun _ => ⟨by omega, by omega⟩⟩
      · rw [hov] at hx
        injection hx with x1 x2 x3
        exact ⟨by omega, fun e => by rw [e] at x1; cases x1⟩
    refine ⟨oa, od, w, append_ccR0 hnd.1 hnd.2, ?_, ⟨rfl, rfl, rfl, Nat.le_refl _, fun _ _ _ => rfl⟩, fun g hg => .inl hg⟩
    rw [hov] at ho
    simpa using ho
  · obtain ⟨ad, c, he, hnews⟩ := hcell h0
    obtain ⟨i1, hi1, hy0, hy1, hy2⟩ := info_parts Try.infoCcR
    obtain ⟨g', cap', w', hr, h2, h3, h4, _⟩ := run_append_lies (P := Try.prog) w 22 22 B 39 i1 _ 2 32 Try.underlying22 hi1 hy0 hy1 hy2 rfl (by omega) ov n xs ho ad m c ys hlen hnews hone h0 (by simp only [maxLen]; omega) (by omega) hb w.heap.size rfl
    rw [he]
    refine ⟨_, _, w', hr, h2, h3, fun q hq => ?_⟩
    simp only [Value.ownBlock, Option.some.injEq] at hq
    subst hq
    exact h4

theorem wpList_append_ccR {w : World} {ops : Array Oper} {rest : List Oper} {o : Oper} {a : Act} {Q : Exit → Act → World → Prop} (hgd : o.guard = none) (s x : Operand) (ho' : o.op = .call { callee := .builtin .append, args := #[s, x], argTypes := #[ 22, 22 ] }) (hty : o.type = 22)
    {B n m : Nat} {xs ys : List Value} {ov lv : Value} (hsv : a.eval s = ov) (hxv : a.eval x = lv) (ho : w.ownsRow B 39 2 ov n xs) (hl : RowAt w lv m ys) (hb : B ≤ w.heap.size) (hs : n + m ≤ 100000)
    (h : ∀ a' d' w', w'.ownsRow B 39 2 (.slice a' (n + m) d') (n + m) (xs ++ ys) → w.grownBy w' ov.ownBlock → (∀ g, (Value.slice a' (n + m) d').ownBlock = some g → ov.ownBlock = some g ∨ g = w.heap.size) → wpList Try.prog ops Q rest (a.put o.dst (.slice a' (n + m) d')) w') : wpList Try.prog ops Q (o :: rest) a w := by
  obtain ⟨a', d', w', hr, h1, h2, h3⟩ := append_ccR ho hl hb hs
  refine wpList_plain hgd fun K hK => ?_
  unfold Oper.wp execOp
  simp only [ho', hty, resolve, invoke, builtin, Sem.run_bind, Sem.run_pure, Result.andThen_ok, List.map_toArray, List.map_cons, List.map_nil, hsv, hxv, hr]
  exact hK _ _ (h a' d' w' h1 h2 h3)

theorem step_append_ccR {w : World} {ops : Array Oper} {o : Oper} {a : Act} {K : Act → World → Prop} {Q : Exit → Act → World → Prop} {E : Prop} (hgd : o.guard = none) (s x : Operand) (ho' : o.op = .call { callee := .builtin .append, args := #[s, x], argTypes := #[ 22, 22 ] }) (hty : o.type = 22)
    {B n m : Nat} {xs ys : List Value} {ov lv : Value} (hsv : a.eval s = ov) (hxv : a.eval x = lv) (ho : w.ownsRow B 39 2 ov n xs) (hl : RowAt w lv m ys) (hb : B ≤ w.heap.size) (hs : n + m ≤ 100000)
    (h : ∀ a' d' w', w'.ownsRow B 39 2 (.slice a' (n + m) d') (n + m) (xs ++ ys) → w.grownBy w' ov.ownBlock → (∀ g, (Value.slice a' (n + m) d').ownBlock = some g → ov.ownBlock = some g ∨ g = w.heap.size) → K (a.put o.dst (.slice a' (n + m) d')) w') : if Region.wanted o (yielded ops a.tmps) = true then Oper.wp Try.prog o a w K Q else E := by
  obtain ⟨a', d', w', hr, h1, h2, h3⟩ := append_ccR ho hl hb hs
  have hw : Region.wanted o (yielded ops a.tmps) = true := by simp [Region.wanted, hgd]
  rw [if_pos hw]
  unfold Oper.wp execOp
  simp only [ho', hty, resolve, invoke, builtin, Sem.run_bind, Sem.run_pure, Result.andThen_ok, List.map_toArray, List.map_cons, List.map_nil, hsv, hxv, hr]
  exact h a' d' w' h1 h2 h3

set_option maxRecDepth 100000 in
set_option maxHeartbeats 3200000 in
theorem grow_ccR {w : World} {n : Nat} (hn : n ≤ 100000) :
    Calls Try.prog 67 #[.slice none 0 0, .int .i64 n] w fun e w' => ∃ v, e = .returned v ∧ w'.ownsRow w.heap.size 39 2 v 0 [] ∧ Below w.heap.size w w' := by
  have i0 : (0 : Int) ≤ (n : Int) := Int.natCast_nonneg _
  rcases Nat.eq_zero_or_pos n with h0 | h0
  · subst h0
    go_enter Try.func67, Try.ntmps67
    go_wp2_with fail
    go_ret
    exact ⟨_, rfl, World.ownsRow_nil _ _ _ _, Below.refl _ _⟩
  · obtain ⟨i1, hi1, hy0, hy1, hy2⟩ := info_parts Try.infoCcR
    have hi : (0 : Int) < (n : Int) := by omega
    have hr := Lib.run_append_nil_zeros (P := Try.prog) w 22 3 22 39 i1 (.agg #[.int .i64 0, .slice none 0 0]) .i64 .i64 Try.underlying22 Try.underlying3 hi1 hy0 n h0 (by rw [hy1]; omega) (by omega) (by rw [hy2]; omega)
    have hge := grownCap_ge w n 0 39
    have hle := grownCap_le_maxLen w n 0 39 (by unfold maxLen; omega)
    obtain ⟨C, hC⟩ : ∃ C, grownCap w n 0 39 = C := ⟨_, rfl⟩
    rw [hC] at hr hge hle
    clear hC
    obtain ⟨cur, hcur⟩ : ∃ cur, Builtin.zeroCells (.agg #[.int .i64 0, .slice none 0 0] : Value).cells n ++ Builtin.zeroCells (.agg #[.int .i64 0, .slice none 0 0] : Value).cells (C - n) = cur := ⟨_, rfl⟩
    have hcs : cur.size = C * 2 := by
      rw [← hcur, Array.size_append, size_zeroCells, size_zeroCells]
      have : (.agg #[.int .i64 0, .slice none 0 0] : Value).cells.size = 2 := rfl
      rw [this]
      omega
    rw [hcur] at hr
    clear hcur
    have hup : ∀ w0 w, Sem.run Try.prog (Instr.sliceAt 22 (.slice (some ⟨w0, 0, none⟩) n C) none (some (.int .i64 0)) none) w = .ok (.slice (some ⟨w0, 0, none⟩) 0 C) w := fun w0 w => by go_simp
    go_enter Try.func67, Try.ntmps67
    go_wp2_with (at_builtin; refine Lib.wpList_append_run _ rfl _ _ _ _ rfl _ _ rfl rfl _ _ hr ?_)
    go_ret
    exact ⟨_, rfl, ⟨rfl, .inr ⟨w.heap.size, C, cur, rfl, Nat.le_refl _, heap_alloc_new _ _, Nat.zero_le _, hle, hcs, rfl⟩⟩, (Below.refl _ _).drew.alloc (Nat.le_refl _) _⟩

set_option maxRecDepth 100000 in
set_option maxHeartbeats 6400000 in
theorem concat_ccR {w : World} {pb : Nat} {PL : List Part} (hp : ∀ i (hi : i < PL.length), w.cell? ⟨pb, i, none⟩ = some PL[i].1) (hr : ∀ p ∈ PL, RowAt w p.1 p.2.1 p.2.2) (hs : totN PL ≤ 100000) (hl : PL.length ≤ 1000) :
    Calls Try.prog 66 #[.slice (some ⟨pb, 0, none⟩) PL.length PL.length] w fun e w' => ∃ a d, e = .returned (.slice a (totN PL) d) ∧ w'.ownsRow w.heap.size 39 2 (.slice a (totN PL) d) (totN PL) (totX PL) ∧ Below w.heap.size w w' := by
  have HP : Hid (∀ i (hi : i < PL.length), w.cell? ⟨pb, i, none⟩ = some PL[i].1) := hp
  have HR : Hid (∀ p ∈ PL, RowAt w p.1 p.2.1 p.2.2) := hr
  have HS : Hid (totN PL ≤ 100000) := hs
  clear hp hr
  go_enter Try.func66, Try.ntmps66
  go_wp2_with fail
  go_loop [3, 11] (fun s3 s11 => ∃ k : Nat, s3 = .int .i64 (totN (PL.take k)) ∧ s11 = .int .i64 k ∧ k ≤ PL.length) (fun _ s => PL.length - (intOf s).toNat)
  case atStart => exact ⟨0, rfl, rfl, Nat.zero_le _⟩
  case round =>
    obtain ⟨k, rfl, rfl, hk⟩ := hrel
    by_cases hlt : k < PL.length
    · have c1 := HP.out k hlt
      obtain ⟨⟨a, c, hv, _⟩, _⟩ := HR.out PL[k] (List.getElem_mem hlt)
      have ht := totN_take hlt
      have hle := totN_le PL (k + 1)
      obtain ⟨m, hm⟩ : ∃ m, PL[k].2.1 = m := ⟨_, rfl⟩
      rw [hm] at hv ht
      rw [hv] at c1
      obtain ⟨t, h0⟩ : ∃ t, totN (PL.take k) = t := ⟨_, rfl⟩
      rw [h0] at ht ⊢
      have HT : Hid (totN (PL.take (k + 1)) = t + m) := ht
      have i0 : (0 : Int) ≤ (k : Int) := Int.natCast_nonneg _
      have i1 : (k : Int) < (PL.length : Int) := by omega
      have i2 : IntKind.i64.wrap ((t : Int) + (m : Int)) = (t : Int) + (m : Int) := IntWalk.i64_in _ (by omega)
      have i3 : decide ((t : Int) + (m : Int) < 0) = false := decide_eq_false (by omega)
      clear hm hv ht h0 hle
      go_wp2_with fail
      go_round
      case rel => exact ⟨k + 1, by rw [HT.out]; push_cast; rfl, by go_num, by omega⟩
      case measure => simp [intOf]; omega
    · have hkk : k = PL.length := by omega
      subst hkk
      rw [List.take_length]
      obtain ⟨t, h0⟩ : ∃ t, totN PL = t := ⟨_, rfl⟩
      have gr := grow_ccR (w := w) (n := t) (by omega)
      rw [h0]
      have HT : Hid (totN PL = t) := h0
      clear h0 hs
      go_wp2_with (go_at_call 67; refine gr.mono ?_; rintro e w1 ⟨v, rfl, hown, hB⟩; clear gr)
      go_loopw [6, 27] (fun s6 s27 wr => ∃ (k : Nat) (ov : Value), ov = s6 ∧ s27 = .int .i64 k ∧ k ≤ PL.length ∧ wr.ownsRow w.heap.size 39 2 ov (totN (PL.take k)) (totX (PL.take k)) ∧ Below w.heap.size w wr) (fun _ s _ => PL.length - (intOf s).toNat)
      case atStart => exact ⟨0, _, rfl, rfl, Nat.zero_le _, hown, hB⟩
      case round =>
        obtain ⟨k, ov, rfl, rfl, hk, hO, hB1⟩ := hrel
        clear hown hB
        have HB : Hid (Below w.heap.size w wr) := hB1
        by_cases hlt : k < PL.length
        · have hrow := (HR.out PL[k] (List.getElem_mem hlt)).below (Nat.le_refl _) hB1
          have c1 := (hB1.cell (World.block_lt_of_cell? _ _ (HP.out k hlt))).trans (HP.out k hlt)
          have ht := totN_take hlt
          have hx := totX_take hlt
          have hle := totN_le PL (k + 1)
          rw [HT.out] at hle
          have hT := HS.out
          rw [HT.out] at hT
          obtain ⟨⟨pv, m, ys⟩, hm⟩ : ∃ p, PL[k] = p := ⟨_, rfl⟩
          rw [hm] at hrow c1 ht hx
          simp only at hrow c1 ht hx
          obtain ⟨a, c, hv, _⟩ := hrow.1
          subst hv
          obtain ⟨q, h0⟩ : ∃ q, totN (PL.take k) = q := ⟨_, rfl⟩
          obtain ⟨xs, h1⟩ : ∃ xs, totX (PL.take k) = xs := ⟨_, rfl⟩
          rw [h0, h1] at hO
          rw [h0] at ht
          rw [h1] at hx
          have HX : Hid (totN (PL.take (k + 1)) = q + m ∧ totX (PL.take (k + 1)) = xs ++ ys) := ⟨ht, hx⟩
          have hqm : q + m ≤ 100000 := by omega
          have hbs := hB1.size
          have i0 : (0 : Int) ≤ (k : Int) := Int.natCast_nonneg _
          have i1 : (k : Int) < (PL.length : Int) := by omega
          clear hm ht hx hle hT h0 h1 hB1
          go_wp2_with
            (at_builtin
             refine wpList_append_ccR rfl _ _ rfl rfl rfl rfl hO hrow hbs hqm ?_
             intro a' d' w' hown' hgrow hat)
          go_roundw
          case rel => exact ⟨k + 1, _, rfl, by go_num, by omega, by rw [HX.out.1, HX.out.2]; exact hown', HB.out.grown hgrow HB.out.size fun g hg => ((hO.lt g hg).1)⟩
          case measure => simp [intOf]; omega
        · have hkk : k = PL.length := by omega
          subst hkk
          rw [List.take_length, HT.out] at hO
          obtain ⟨a, c, hv⟩ := own_form hO
          subst hv
          go_wp2_with fail
          go_ret
          rw [HT.out]
          exact ⟨a, c, rfl, hO, HB.out⟩

end Go.Proofs.Ytlalmfheiippiaa

/- The contracts of slices.Grow and slices.Concat, of api.Sym. -/
namespace Go.Proofs.Ytlalmfheiippiaa
open Go.RowKit

theorem Try.infoCcY : (Try.prog.info? 42).map (fun i => (i.zero, i.size, i.bytes)) = some (some (.agg #[.bool false, .int .i64 0]), 2, 16) := by kernel_rfl

theorem append_ccY0 {w : World} {oa sa : Option Addr} {n d c : Nat} (hn : n ≤ d) (h0 : oa = none → n = 0 ∧ d = 0) : (Builtin.append_ #[ 37, 37 ] 37 #[.slice oa n d, .slice sa 0 c]).run Try.prog w = .ok (.slice oa n d) w := by
  cases oa with
  | none =>
    obtain ⟨rfl, rfl⟩ := h0 rfl
    cases sa <;> go_simp
  | some o => cases sa <;> go_simp

/-- append(x, l...), x being the call's own, or none. -/
theorem append_ccY {w : World} {B : Nat} {ov lv : Value} {n m : Nat} {xs ys : List Value} (ho : w.ownsRow B 42 2 ov n xs) (hl : RowAt w lv m ys) (hb : B ≤ w.heap.size) (hs : n + m ≤ 100000) :
    ∃ a d w', (Builtin.append_ #[ 37, 37 ] 37 #[ov, lv]).run Try.prog w = .ok (.slice a (n + m) d) w' ∧ w'.ownsRow B 42 2 (.slice a (n + m) d) (n + m) (xs ++ ys) ∧ w.grownBy w' ov.ownBlock ∧ ∀ g, (Value.slice a (n + m) d).ownBlock = some g → ov.ownBlock = some g ∨ g = w.heap.size := by
  obtain ⟨oa, od, hov⟩ := own_form ho
  obtain ⟨⟨la, lc, hlv, _⟩, hlen, hone, hcell⟩ := hl
  rcases Nat.eq_zero_or_pos m with h0 | h0
  · subst h0
    have he : ys = [] := List.eq_nil_of_length_eq_zero (by omega)
    subst he
    rw [hov, hlv]
    have hnd : n ≤ od ∧ (oa = none → n = 0 ∧ od = 0) := by
      obtain ⟨_, ⟨hx, hz⟩ | ⟨_, _, _, hx, _, _, h5, _⟩⟩ := ho
      · rw [hov] at hx
        injection hx with x1 x2 x3
        exact ⟨by omega, fun _ => ⟨by omega, by omega⟩⟩
      · rw [hov] at hx
        injection hx with x1 x2 x3
        exact ⟨by omega, fun e => by rw [e] at x1; cases x1⟩
    refine ⟨oa, od, w, append_ccY0 hnd.1 hnd.2, ?_, ⟨rfl, rfl, rfl, Nat.le_refl _, fun _ _ _ => rfl⟩, fun g hg => .inl hg⟩
    rw [hov] at ho
    simpa using ho
  · obtain ⟨ad, c, he, hnews⟩ := hcell h0
    obtain ⟨i1, hi1, hy0, hy1, hy2⟩ := info_parts Try.infoCcY
    obtain ⟨g', cap', w', hr, h2, h3, h4, _⟩ := run_append_lies (P := Try.prog) w 37 37 B 42 i1 _ 2 16 Try.underlying37 hi1 hy0 hy1 hy2 rfl (by omega) ov n xs ho ad m c ys hlen hnews hone h0 (by simp only [maxLen]; omega) (by omega) hb w.heap.size rfl
    rw [he]
    refine ⟨_, _, w', hr, h2, h3, fun q hq => ?_⟩
    simp only [Value.ownBlock, Option.some.injEq] at hq
    subst hq
    exact h4

theorem wpList_append_ccY {w : World} {ops : Array Oper} {rest : List Oper} {o : Oper} {a : Act} {Q : Exit → Act → World → Prop} (hgd : o.guard = none) (s x : Operand) (ho' : o.op = .call { callee := .builtin .append, args := #[s, x], argTypes := #[ 37, 37 ] }) (hty : o.type = 37)
    {B n m : Nat} {xs ys : List Value} {ov lv : Value} (hsv : a.eval s = ov) (hxv : a.eval x = lv) (ho : w.ownsRow B 42 2 ov n xs) (hl : RowAt w lv m ys) (hb : B ≤ w.heap.size) (hs : n + m ≤ 100000)
    (h : ∀ a' d' w', w'.ownsRow B 42 2 (.slice a' (n + m) d') (n + m) (xs ++ ys) → w.grownBy w' ov.ownBlock → (∀ g, (Value.slice a' (n + m) d').ownBlock = some g → ov.ownBlock = some g ∨ g = w.heap.size) → wpList Try.prog ops Q rest (a.put o.dst (.slice a' (n + m) d')) w') : wpList Try.prog ops Q (o :: rest) a w := by
  obtain ⟨a', d', w', hr, h1, h2, h3⟩ := append_ccY ho hl hb hs
  refine wpList_plain hgd fun K hK => ?_
  unfold Oper.wp execOp
  simp only [ho', hty, resolve, invoke, builtin, Sem.run_bind, Sem.run_pure, Result.andThen_ok, List.map_toArray, List.map_cons, List.map_nil, hsv, hxv, hr]
  exact hK _ _ (h a' d' w' h1 h2 h3)

theorem step_append_ccY {w : World} {ops : Array Oper} {o : Oper} {a : Act} {K : Act → World → Prop} {Q : Exit → Act → World → Prop} {E : Prop} (hgd : o.guard = none) (s x : Operand) (ho' : o.op = .call { callee := .builtin .append, args := #[s, x], argTypes := #[ 37, 37 ] }) (hty : o.type = 37)
    {B n m : Nat} {xs ys : List Value} {ov lv : Value} (hsv : a.eval s = ov) (hxv : a.eval x = lv) (ho : w.ownsRow B 42 2 ov n xs) (hl : RowAt w lv m ys) (hb : B ≤ w.heap.size) (hs : n + m ≤ 100000)
    (h : ∀ a' d' w', w'.ownsRow B 42 2 (.slice a' (n + m) d') (n + m) (xs ++ ys) → w.grownBy w' ov.ownBlock → (∀ g, (Value.slice a' (n + m) d').ownBlock = some g → ov.ownBlock = some g ∨ g = w.heap.size) → K (a.put o.dst (.slice a' (n + m) d')) w') : if Region.wanted o (yielded ops a.tmps) = true then Oper.wp Try.prog o a w K Q else E := by
  obtain ⟨a', d', w', hr, h1, h2, h3⟩ := append_ccY ho hl hb hs
  have hw : Region.wanted o (yielded ops a.tmps) = true := by simp [Region.wanted, hgd]
  rw [if_pos hw]
  unfold Oper.wp execOp
  simp only [ho', hty, resolve, invoke, builtin, Sem.run_bind, Sem.run_pure, Result.andThen_ok, List.map_toArray, List.map_cons, List.map_nil, hsv, hxv, hr]
  exact h a' d' w' h1 h2 h3

set_option maxRecDepth 100000 in
set_option maxHeartbeats 3200000 in
theorem grow_ccY {w : World} {n : Nat} (hn : n ≤ 100000) :
    Calls Try.prog 62 #[.slice none 0 0, .int .i64 n] w fun e w' => ∃ v, e = .returned v ∧ w'.ownsRow w.heap.size 42 2 v 0 [] ∧ Below w.heap.size w w' := by
  have i0 : (0 : Int) ≤ (n : Int) := Int.natCast_nonneg _
  rcases Nat.eq_zero_or_pos n with h0 | h0
  · subst h0
    go_enter Try.func62, Try.ntmps62
    go_wp2_with fail
    go_ret
    exact ⟨_, rfl, World.ownsRow_nil _ _ _ _, Below.refl _ _⟩
  · obtain ⟨i1, hi1, hy0, hy1, hy2⟩ := info_parts Try.infoCcY
    have hi : (0 : Int) < (n : Int) := by omega
    have hr := Lib.run_append_nil_zeros (P := Try.prog) w 37 3 37 42 i1 (.agg #[.bool false, .int .i64 0]) .i64 .i64 Try.underlying37 Try.underlying3 hi1 hy0 n h0 (by rw [hy1]; omega) (by omega) (by rw [hy2]; omega)
    have hge := grownCap_ge w n 0 42
    have hle := grownCap_le_maxLen w n 0 42 (by unfold maxLen; omega)
    obtain ⟨C, hC⟩ : ∃ C, grownCap w n 0 42 = C := ⟨_, rfl⟩
    rw [hC] at hr hge hle
    clear hC
    obtain ⟨cur, hcur⟩ : ∃ cur, Builtin.zeroCells (.agg #[.bool false, .int .i64 0] : Value).cells n ++ Builtin.zeroCells (.agg #[.bool false, .int .i64 0] : Value).cells (C - n) = cur := ⟨_, rfl⟩
    have hcs : cur.size = C * 2 := by
      rw [← hcur, Array.size_append, size_zeroCells, size_zeroCells]
      have : (.agg #[.bool false, .int .i64 0] : Value).cells.size = 2 := rfl
      rw [this]
      omega
    rw [hcur] at hr
    clear hcur
    have hup : ∀ w0 w, Sem.run Try.prog (Instr.sliceAt 37 (.slice (some ⟨w0, 0, none⟩) n C) none (some (.int .i64 0)) none) w = .ok (.slice (some ⟨w0, 0, none⟩) 0 C) w := fun w0 w => by go_simp
    go_enter Try.func62, Try.ntmps62
    go_wp2_with (at_builtin; refine Lib.wpList_append_run _ rfl _ _ _ _ rfl _ _ rfl rfl _ _ hr ?_)
    go_ret
    exact ⟨_, rfl, ⟨rfl, .inr ⟨w.heap.size, C, cur, rfl, Nat.le_refl _, heap_alloc_new _ _, Nat.zero_le _, hle, hcs, rfl⟩⟩, (Below.refl _ _).drew.alloc (Nat.le_refl _) _⟩

set_option maxRecDepth 100000 in
set_option maxHeartbeats 6400000 in
theorem concat_ccY {w : World} {pb : Nat} {PL : List Part} (hp : ∀ i (hi : i < PL.length), w.cell? ⟨pb, i, none⟩ = some PL[i].1) (hr : ∀ p ∈ PL, RowAt w p.1 p.2.1 p.2.2) (hs : totN PL ≤ 100000) (hl : PL.length ≤ 1000) :
    Calls Try.prog 60 #[.slice (some ⟨pb, 0, none⟩) PL.length PL.length] w fun e w' => ∃ a d, e = .returned (.slice a (totN PL) d) ∧ w'.ownsRow w.heap.size 42 2 (.slice a (totN PL) d) (totN PL) (totX PL) ∧ Below w.heap.size w w' := by
  have HP : Hid (∀ i (hi : i < PL.length), w.cell? ⟨pb, i, none⟩ = some PL[i].1) := hp
  have HR : Hid (∀ p ∈ PL, RowAt w p.1 p.2.1 p.2.2) := hr
  have HS : Hid (totN PL ≤ 100000) := hs
  clear hp hr
  go_enter Try.func60, Try.ntmps60
  go_wp2_with fail
  go_loop [3, 11] (fun s3 s11 => ∃ k : Nat, s3 = .int .i64 (totN (PL.take k)) ∧ s11 = .int .i64 k ∧ k ≤ PL.length) (fun _ s => PL.length - (intOf s).toNat)
  case atStart => exact ⟨0, rfl, rfl, Nat.zero_le _⟩
  case round =>
    obtain ⟨k, rfl, rfl, hk⟩ := hrel
    by_cases hlt : k < PL.length
    · have c1 := HP.out k hlt
      obtain ⟨⟨a, c, hv, _⟩, _⟩ := HR.out PL[k] (List.getElem_mem hlt)
      have ht := totN_take hlt
      have hle := totN_le PL (k + 1)
      obtain ⟨m, hm⟩ : ∃ m, PL[k].2.1 = m := ⟨_, rfl⟩
      rw [hm] at hv ht
      rw [hv] at c1
      obtain ⟨t, h0⟩ : ∃ t, totN (PL.take k) = t := ⟨_, rfl⟩
      rw [h0] at ht ⊢
      have HT : Hid (totN (PL.take (k + 1)) = t + m) := ht
      have i0 : (0 : Int) ≤ (k : Int) := Int.natCast_nonneg _
      have i1 : (k : Int) < (PL.length : Int) := by omega
      have i2 : IntKind.i64.wrap ((t : Int) + (m : Int)) = (t : Int) + (m : Int) := IntWalk.i64_in _ (by omega)
      have i3 : decide ((t : Int) + (m : Int) < 0) = false := decide_eq_false (by omega)
      clear hm hv ht h0 hle
      go_wp2_with fail
      go_round
      case rel => exact ⟨k + 1, by rw [HT.out]; push_cast; rfl, by go_num, by omega⟩
      case measure => simp [intOf]; omega
    · have hkk : k = PL.length := by omega
      subst hkk
      rw [List.take_length]
      obtain ⟨t, h0⟩ : ∃ t, totN PL = t := ⟨_, rfl⟩
      have gr := grow_ccY (w := w) (n := t) (by omega)
      rw [h0]
      have HT : Hid (totN PL = t) := h0
      clear h0 hs
      go_wp2_with (go_at_call 62; refine gr.mono ?_; rintro e w1 ⟨v, rfl, hown, hB⟩; clear gr)
      go_loopw [6, 27] (fun s6 s27 wr => ∃ (k : Nat) (ov : Value), ov = s6 ∧ s27 = .int .i64 k ∧ k ≤ PL.length ∧ wr.ownsRow w.heap.size 42 2 ov (totN (PL.take k)) (totX (PL.take k)) ∧ Below w.heap.size w wr) (fun _ s _ => PL.length - (intOf s).toNat)
      case atStart => exact ⟨0, _, rfl, rfl, Nat.zero_le _, hown, hB⟩
      case round =>
        obtain ⟨k, ov, rfl, rfl, hk, hO, hB1⟩ := hrel
        clear hown hB
        have HB : Hid (Below w.heap.size w wr) := hB1
        by_cases hlt : k < PL.length
        · have hrow := (HR.out PL[k] (List.getElem_mem hlt)).below (Nat.le_refl _) hB1
          have c1 := (hB1.cell (World.block_lt_of_cell? _ _ (HP.out k hlt))).trans (HP.out k hlt)
          have ht := totN_take hlt
          have hx := totX_take hlt
          have hle := totN_le PL (k + 1)
          rw [HT.out] at hle
          have hT := HS.out
          rw [HT.out] at hT
          obtain ⟨⟨pv, m, ys⟩, hm⟩ : ∃ p, PL[k] = p := ⟨_, rfl⟩
          rw [hm] at hrow c1 ht hx
          simp only at hrow c1 ht hx
          obtain ⟨a, c, hv, _⟩ := hrow.1
          subst hv
          obtain ⟨q, h0⟩ : ∃ q, totN (PL.take k) = q := ⟨_, rfl⟩
          obtain ⟨xs, h1⟩ : ∃ xs, totX (PL.take k) = xs := ⟨_, rfl⟩
          rw [h0, h1] at hO
          rw [h0] at ht
          rw [h1] at hx
          have HX : Hid (totN (PL.take (k + 1)) = q + m ∧ totX (PL.take (k + 1)) = xs ++ ys) := ⟨ht, hx⟩
          have hqm : q + m ≤ 100000 := by omega
          have hbs := hB1.size
          have i0 : (0 : Int) ≤ (k : Int) := Int.natCast_nonneg _
          have i1 : (k : Int) < (PL.length : Int) := by omega
          clear hm ht hx hle hT h0 h1 hB1
          go_wp2_with
            (at_builtin
             refine wpList_append_ccY rfl _ _ rfl rfl rfl rfl hO hrow hbs hqm ?_
             intro a' d' w' hown' hgrow hat)
          go_roundw
          case rel => exact ⟨k + 1, _, rfl, by go_num, by omega, by rw [HX.out.1, HX.out.2]; exact hown', HB.out.grown hgrow HB.out.size fun g hg => ((hO.lt g hg).1)⟩
          case measure => simp [intOf]; omega
        · have hkk : k = PL.length := by omega
          subst hkk
          rw [List.take_length, HT.out] at hO
          obtain ⟨a, c, hv⟩ := own_form hO
          subst hv
          go_wp2_with fail
          go_ret
          rw [HT.out]
          exact ⟨a, c, rfl, hO, HB.out⟩

end Go.Proofs.Ytlalmfheiippiaa

/- Plain: what a name derives, as lists of tokens; what derivations yield is derived; how parts of tokens are put together. No program. -/
namespace Go.Proofs.Ytlalmfheiippiaa

/-- Symbols become tokens, where names become what A says. -/
def SeqD (A : Int → List Int → Prop) : List Sy → List Int → Prop
  | [], Z => Z = []
  | (true, v) :: l, Z => ∃ Z', Z = v :: Z' ∧ SeqD A l Z'
  | (false, n) :: l, Z => ∃ Z1 Z2, Z = Z1 ++ Z2 ∧ A n Z1 ∧ SeqD A l Z2
def DerF (R : List Ru) (A : Int → List Int → Prop) (n : Int) (Z : List Int) : Prop := ∃ r ∈ R, r.1 = n ∧ SeqD A r.2 Z
theorem SeqD.mono {A B : Int → List Int → Prop} (h : ∀ n Z, A n Z → B n Z) : ∀ {l : List Sy} {Z : List Int}, SeqD A l Z → SeqD B l Z := by
  intro l
  induction l with
  | nil => intro Z hZ; exact hZ
  | cons s l ih =>
    intro Z hZ
    obtain ⟨b, n⟩ := s
    cases b with
    | true => obtain ⟨Z', h1, h2⟩ := hZ; exact ⟨Z', h1, ih h2⟩
    | false => obtain ⟨Z1, Z2, h1, h2, h3⟩ := hZ; exact ⟨Z1, Z2, h1, h _ _ h2, ih h3⟩

theorem DerF.mono {R : List Ru} {A B : Int → List Int → Prop} (h : ∀ n Z, A n Z → B n Z) {n : Int} {Z : List Int} (hZ : DerF R A n Z) : DerF R B n Z := by
  obtain ⟨r, h1, h2, h3⟩ := hZ
  exact ⟨r, h1, h2, h3.mono h⟩

/-! ### What a derivation yields is derived -/

section
variable {R : List Ru}

end

/-! ### Parts of the tokens -/

/-- The tokens from i to below j. -/
def part (tok : List Int) (i j : Nat) : List Int := (tok.drop i).take (j - i)

section
variable {K : Nat → Nat → Nat → Bool} {tok : List Int} {upto : Nat}

end

end Go.Proofs.Ytlalmfheiippiaa

/- Plain: derivations as lists of rules' numbers, with what they yield: just the lists that the reader of package gram takes. No program. -/
namespace Go.Proofs.Ytlalmfheiippiaa

/-- Symbols become tokens, by lists of rules' numbers, where names do so as A says. -/
def SeqDD (A : Int → List Int → List Int → Prop) : List Sy → List Int → List Int → Prop
  | [], d, Z => d = [] ∧ Z = []
  | (true, v) :: l, d, Z => ∃ Z', Z = v :: Z' ∧ SeqDD A l d Z'
  | (false, n) :: l, d, Z => ∃ d1 d2 Z1 Z2, d = d1 ++ d2 ∧ Z = Z1 ++ Z2 ∧ A n d1 Z1 ∧ SeqDD A l d2 Z2
theorem SeqDD.mono {A B : Int → List Int → List Int → Prop} (h : ∀ n d Z, A n d Z → B n d Z) : ∀ {l : List Sy} {d Z : List Int}, SeqDD A l d Z → SeqDD B l d Z := by
  intro l
  induction l with
  | nil => intro d Z hZ; exact hZ
  | cons s l ih =>
    intro d Z hZ
    obtain ⟨b, n⟩ := s
    cases b with
    | true => obtain ⟨Z', h1, h2⟩ := hZ; exact ⟨Z', h1, ih h2⟩
    | false => obtain ⟨d1, d2, Z1, Z2, h1, h2, h3, h4⟩ := hZ; exact ⟨d1, d2, Z1, Z2, h1, h2, h _ _ _ h3, ih h4⟩

/-! ### A list with a yield is a yield -/

/-! ### What the reader takes -/

section
variable {R : List Ru} {D : List Int}

end

end Go.Proofs.Ytlalmfheiippiaa

/- Plain: derivations as trees, in rows. No program. -/
namespace Go.Proofs.Ytlalmfheiippiaa

/-- Trees in a row: the first one's rule, what stands for the names of its Right, the others. -/
inductive Fo where
  | no : Fo
  | nd : Nat → Fo → Fo → Fo

/-- The names among symbols. -/
def namesS : List Sy → List Int
  | [] => []
  | (true, _) :: l => namesS l
  | (false, n) :: l => n :: namesS l
section
variable {R : List Ru}

end

theorem names_app : ∀ (l m : List Sy), namesS (l ++ m) = namesS l ++ namesS m
  | [], m => rfl
  | (true, _) :: l, m => names_app l m
  | (false, n) :: l, m => by rw [List.cons_append, namesS, namesS, names_app l m, List.cons_append]
end Go.Proofs.Ytlalmfheiippiaa
