import Derived.Test.YtobegekmgoiopaaMathAndBits
import Derived.Test.YtobegekmgoiopaaTab6AndTkMath
import Derived.Test.YtobegekmgoiopaaTkCellsAndHeldSeq
import Derived.BigQuiet
import Derived.Deep.DeepCutAuto
/- How the program's runner of a table (package parse) lies in memory. No walk. -/
namespace Go.Proofs.Ytobegekmgoiopaa
open Go.RowKit

/-- A place on the stack: its state, where its derivation lies, the derivation. -/
abbrev Pl := Nat × Value × List Int
def plV (x : Pl) : List Value := [.int .i64 x.1, x.2.1]
def flatPl (PL : List Pl) : List Value := PL.flatMap plV
/-- A place of a term. -/
abbrev noPl : Pl := (0, .slice none 0 0, [])

section
variable {PL : List Pl}
theorem flatPl_len (PL : List Pl) : (flatPl PL).length = PL.length * 2 := by
  unfold flatPl
  induction PL with
  | nil => rfl
  | cons a L ih => rw [List.flatMap_cons, List.length_append, ih]; simp [plV]; omega
theorem flatPl_get {i j : Nat} (hi : i < PL.length) (hj : j < 2) : (flatPl PL)[i * 2 + j]? = (plV (PL.getD i noPl))[j]? := by
  unfold flatPl
  induction PL generalizing i with
  | nil => simp at hi
  | cons a L ih =>
    rw [List.flatMap_cons]
    cases i with
    | zero => rw [List.getElem?_append_left (by simp [plV]; omega)]; simp
    | succ i =>
      rw [List.getElem?_append_right (by simp [plV]; omega)]
      simp only [plV, List.length_cons, List.length_nil]
      rw [show (i + 1) * 2 + j - (0 + 1 + 1) = i * 2 + j by omega]
      have := ih (i := i) (by simpa using hi)
      simpa [List.getD, plV] using this
theorem flatPl_append (A C : List Pl) : flatPl (A ++ C) = flatPl A ++ flatPl C := by simp [flatPl]
theorem flatPl_take {n : Nat} (h : n ≤ PL.length) : flatPl (PL.take n) = (flatPl PL).take (n * 2) := by
  have e : flatPl PL = flatPl (PL.take n) ++ flatPl (PL.drop n) := by rw [← flatPl_append, List.take_append_drop]
  have hl : (flatPl (PL.take n)).length = n * 2 := by rw [flatPl_len, List.length_take, Nat.min_eq_left h]
  rw [e, ← hl, List.take_left]
end

/-- Numbers that lie in a block of their own, from its beginning on: one of A. -/
def DvAt (w : World) (A : Nat → Prop) (v : Value) (D : List Int) : Prop :=
  (D = [] ∧ v = .slice none 0 0) ∨ (0 < D.length ∧ ∃ b c, v = .slice (some ⟨b, 0, none⟩) D.length c ∧ A b ∧ b < w.heap.size ∧ D.length ≤ c ∧ ∀ p, p < D.length → w.cell? ⟨b, p, none⟩ = some (.int .i64 (D.getD p 0)))

theorem DvAt.kept {w w' : World} {A A' : Nat → Prop} {v : Value} {D : List Int} (h : DvAt w A v D) (hs : w.heap.size ≤ w'.heap.size) (hb : ∀ b, A b → b < w.heap.size → w'.heap[b]? = w.heap[b]? ∧ A' b) : DvAt w' A' v D := by
  rcases h with h | ⟨h0, b, c, h1, h2, h3, h5, h4⟩
  · exact .inl h
  · exact .inr ⟨h0, b, c, h1, (hb b h2 h3).2, by omega, h5, fun p hp => (World.cell?_of_block (w := w) (hb b h2 h3).1).trans (h4 p hp)⟩
theorem DvAt.list {w : World} {A : Nat → Prop} {v : Value} {D : List Int} (h : DvAt w A v D) : ListAt w w.heap.size v D := by
  rcases h with ⟨rfl, rfl⟩ | ⟨h0, b, c, rfl, h2, h3, _, h4⟩
  · exact ⟨⟨_, _, rfl⟩, fun p hp => absurd hp (Nat.not_lt_zero _)⟩
  · exact ⟨⟨_, _, rfl⟩, fun p hp => ⟨b, 0, c, rfl, h3, by rw [Nat.zero_add]; exact h4 p hp⟩⟩

/-- A list, with its capacity. -/
def ListC (w : World) (v : Value) (D : List Int) : Prop := ListAt w w.heap.size v D ∧ ∃ a n c, v = .slice a n c ∧ n ≤ c
theorem DvAt.listC {w : World} {A : Nat → Prop} {v : Value} {D : List Int} (h : DvAt w A v D) : ListC w v D := by
  refine ⟨h.list, ?_⟩
  rcases h with ⟨rfl, rfl⟩ | ⟨h0, b, c, rfl, h2, h3, h5, h4⟩
  · exact ⟨_, _, _, rfl, Nat.le_refl _⟩
  · exact ⟨_, _, _, rfl, h5⟩

/-- Where a runner lies; what does not turn. -/
structure RnA where
  ra : Nat
  T : Nat
  N : Nat
  rv : Value
  cv : Value
  gv : Value
  tv : Value

inductive RnI where
  | ru
  | st
  deriving DecidableEq

def RnP (d : RnA) (sv : Value) (PL : List Pl) (p q : Nat) : RnI → Option Row
  | .ru => some ⟨.slice (some ⟨d.ra, 0, none⟩) 1 1, 49, 9, 1, [.int .i64 d.T, .int .i64 d.N, d.rv, d.cv, d.gv, d.tv, .int .i64 p, .int .i64 q, sv]⟩
  | .st => some ⟨sv, 46, 2, PL.length, flatPl PL⟩
/-- Other blocks. -/
def RnO (d : RnA) (sv : Value) (b : Nat) : Prop := b ≠ d.ra ∧ sv.ownBlock ≠ some b

/-- The runner: p tokens are read, q rules reduced. -/
structure RnM (w0 : World) (d : RnA) (sv : Value) (PL : List Pl) (p q : Nat) (w : World) : Prop where
  own : Owns w w0.heap.size (RnP d sv PL p q)
  der : ∀ x ∈ PL, DvAt w (RnO d sv) x.2.1 x.2.2
  since : Below w0.heap.size w0 w

/-- What was there before. -/
structure RnE (w0 : World) (d : RnA) (R : List Ru) (tok : List Int) (C : List (List Ce)) (G : List (List Int)) : Prop where
  rules : RulesAt w0 w0.heap.size d.rv R
  toks : ListAt w0 w0.heap.size d.tv tok
  tab : TabAt w0 d.cv d.gv C G

section
variable {w0 w w' : World} {d : RnA} {sv sv' : Value} {PL PL' : List Pl} {p q : Nat}

theorem RnM.le (h : RnM w0 d sv PL p q w) : w0.heap.size ≤ w.heap.size := h.since.size
theorem RnM.below (h : RnM w0 d sv PL p q w) (hb : Below w.heap.size w w') : RnM w0 d sv PL p q w' :=
  ⟨h.own.below hb (Nat.le_refl _), fun x hx => (h.der x hx).kept hb.size fun b hA hlt => ⟨hb.block b hlt, hA⟩, h.since.trans (hb.mono h.le)⟩
theorem RnM.alloc (h : RnM w0 d sv PL p q w) (o : Obj) : RnM w0 d sv PL p q (w.alloc o) := h.below ((Below.refl _ _).alloc (Nat.le_refl _) o)
theorem RnM.drew (h : RnM w0 d sv PL p q w) : RnM w0 d sv PL p q w.drew := h.below ((Below.refl _ _).drew)
theorem RnM.lt (h : RnM w0 d sv PL p q w) : d.ra < w.heap.size ∧ w0.heap.size ≤ d.ra := by
  have := h.own.lt (i := .ru) rfl (g := d.ra) rfl
  omega
theorem RnM.cell (h : RnM w0 d sv PL p q w) {i : Nat} {u : Value} (hu : [Value.int .i64 d.T, .int .i64 d.N, d.rv, d.cv, d.gv, d.tv, .int .i64 p, .int .i64 q, sv][i]? = some u) : w.cell? ⟨d.ra, i, none⟩ = some u ∧ w.frozen? ⟨d.ra, i, none⟩ = false := by
  have hi : i < 9 := by have := (List.getElem?_eq_some_iff.1 hu).1; simpa using this
  have := h.own.cell (i := .ru) rfl i (by omega)
  exact ⟨this.1.trans hu, this.2⟩
theorem RnM.stack (h : RnM w0 d sv PL p q w) : w.ownsRow w0.heap.size 46 2 sv PL.length (flatPl PL) := h.own.own .st _ rfl
theorem RnM.apart (h : RnM w0 d sv PL p q w) : sv.ownBlock ≠ some d.ra := fun e => h.own.apart .ru .st _ _ (by simp) rfl rfl d.ra rfl e
theorem RnM.form (h : RnM w0 d sv PL p q w) (hn : 0 < PL.length) : ∃ g cap, sv = .slice (some ⟨g, 0, none⟩) PL.length cap ∧ g < w.heap.size ∧ PL.length ≤ cap := by
  obtain ⟨_, ⟨_, h0⟩ | ⟨g, cap, cur, e, _, hc, hle, _⟩⟩ := h.stack
  · omega
  · exact ⟨g, cap, e, (h.stack.lt g (by rw [e]; rfl)).2, hle⟩
theorem RnM.place (h : RnM w0 d sv PL p q w) {g cap i : Nat} (hv : sv = .slice (some ⟨g, 0, none⟩) PL.length cap) (hi : i < PL.length) : w.cell? ⟨g, i * 2, none⟩ = some (.int .i64 (PL.getD i noPl).1) ∧ w.cell? ⟨g, i * 2 + 1, none⟩ = some (PL.getD i noPl).2.1 := by
  have ho := h.stack
  rw [hv] at ho
  exact ⟨(ho.cellAt (i * 2) (by omega)).trans (flatPl_get (j := 0) hi (by omega)), (ho.cellAt (i * 2 + 1) (by omega)).trans (flatPl_get (j := 1) hi (by omega))⟩
theorem RnM.derAt (h : RnM w0 d sv PL p q w) {i : Nat} (hi : i < PL.length) : DvAt w (RnO d sv) (PL.getD i noPl).2.1 (PL.getD i noPl).2.2 := h.der _ (by simp [List.getD, hi])

theorem RnM.setRead (h : RnM w0 d sv PL p q w) (p' : Nat) : RnM w0 d sv PL p' q (w.setCell ⟨d.ra, 6, none⟩ (.int .i64 p')) := by
  have h1 := h.own.store (i := .ru) rfl 6 (.int .i64 p')
  have e : upd (RnP d sv PL p q) .ru ⟨.slice (some ⟨d.ra, 0, none⟩) 1 1, 49, 9, 1, [Value.int .i64 d.T, .int .i64 d.N, d.rv, d.cv, d.gv, d.tv, .int .i64 p, .int .i64 q, sv].set 6 (.int .i64 p')⟩ = RnP d sv PL p' q := by
    funext i
    cases i <;> simp [upd, RnP]
  rw [e] at h1
  refine ⟨h1, fun x hx => (h.der x hx).kept (by simp) fun b hA hlt => ⟨Below.heap_setCell _ _ _ _ (fun e => hA.1 e), hA⟩, h.since.setCell h.lt.2 _⟩
theorem RnM.setRed (h : RnM w0 d sv PL p q w) (q' : Nat) : RnM w0 d sv PL p q' (w.setCell ⟨d.ra, 7, none⟩ (.int .i64 q')) := by
  have h1 := h.own.store (i := .ru) rfl 7 (.int .i64 q')
  have e : upd (RnP d sv PL p q) .ru ⟨.slice (some ⟨d.ra, 0, none⟩) 1 1, 49, 9, 1, [Value.int .i64 d.T, .int .i64 d.N, d.rv, d.cv, d.gv, d.tv, .int .i64 p, .int .i64 q, sv].set 7 (.int .i64 q')⟩ = RnP d sv PL p q' := by
    funext i
    cases i <;> simp [upd, RnP]
  rw [e] at h1
  refine ⟨h1, fun x hx => (h.der x hx).kept (by simp) fun b hA hlt => ⟨Below.heap_setCell _ _ _ _ (fun e => hA.1 e), hA⟩, h.since.setCell h.lt.2 _⟩

/-- The stack turns, and is stored. -/
theorem RnM.turn (h : RnM w0 d sv PL p q w) (hg : w.grownBy w' sv.ownBlock) (ho : w'.ownsRow w0.heap.size 46 2 sv' PL'.length (flatPl PL')) (hat : ∀ g, sv'.ownBlock = some g → sv.ownBlock = some g ∨ g = w.heap.size) (hd : ∀ x ∈ PL', DvAt w (RnO d sv) x.2.1 x.2.2) : RnM w0 d sv' PL' p q (w'.setCell ⟨d.ra, 8, none⟩ sv') := by
  have h1 := h.own.turn (i := .st) (r' := ⟨sv', 46, 2, PL'.length, flatPl PL'⟩) rfl hg ho hat
  have hru : upd (RnP d sv PL p q) .st ⟨sv', 46, 2, PL'.length, flatPl PL'⟩ .ru = some ⟨.slice (some ⟨d.ra, 0, none⟩) 1 1, 49, 9, 1, [.int .i64 d.T, .int .i64 d.N, d.rv, d.cv, d.gv, d.tv, .int .i64 p, .int .i64 q, sv]⟩ := rfl
  have h2 := h1.store (i := .ru) hru 8 sv'
  have e : upd (upd (RnP d sv PL p q) .st ⟨sv', 46, 2, PL'.length, flatPl PL'⟩) .ru ⟨.slice (some ⟨d.ra, 0, none⟩) 1 1, 49, 9, 1, [Value.int .i64 d.T, .int .i64 d.N, d.rv, d.cv, d.gv, d.tv, .int .i64 p, .int .i64 q, sv].set 8 sv'⟩ = RnP d sv' PL' p q := by
    funext i
    cases i <;> simp [upd, RnP]
  rw [e] at h2
  have hl := h.lt
  refine ⟨h2, fun x hx => (hd x hx).kept (by simpa using hg.size) fun b hA hlt => ⟨?_, hA.1, fun e => ?_⟩, (h.since.grown hg h.le fun k hk => (h.stack.lt k hk).1).setCell h.lt.2 _⟩
  · rw [Below.heap_setCell _ _ _ _ (fun e => hA.1 e)]
    exact hg.block b hlt fun e => hA.2 e.symm
  · rcases hat b e with e' | e'
    · exact hA.2 e'
    · omega

/-- Some places are taken. -/
theorem RnM.cut (h : RnM w0 d sv PL p q w) {g cap n : Nat} (hv : sv = .slice (some ⟨g, 0, none⟩) PL.length cap) (hn : n ≤ PL.length) : RnM w0 d (.slice (some ⟨g, 0, none⟩) n cap) (PL.take n) p q (w.setCell ⟨d.ra, 8, none⟩ (.slice (some ⟨g, 0, none⟩) n cap)) := by
  refine h.turn ⟨rfl, rfl, rfl, Nat.le_refl _, fun _ _ _ => rfl⟩ ?_ (fun g' hg' => .inl (by rw [hv]; exact hg')) fun x hx => h.der x (List.mem_of_mem_take hx)
  have ho := h.stack
  rw [hv] at ho
  obtain ⟨h1, ⟨hx, _⟩ | ⟨g', cap', cur, e, h2, h3, h4, h5, h6, h7⟩⟩ := ho
  · cases hx
  · injection e with e1 _ e3
    injection e1 with e1
    injection e1 with e1
    subst e1
    subst e3
    have hl : (PL.take n).length = n := by rw [List.length_take, Nat.min_eq_left hn]
    refine ⟨flatPl_len _, .inr ⟨g, cap, cur, by rw [hl], h2, h3, by rw [hl]; omega, h5, h6, ?_⟩⟩
    rw [hl, flatPl_take hn, ← h7, List.take_take, Nat.min_eq_left (by omega)]
end

theorem Try.infoPl : (Try.prog.info? 46).map (fun i => (i.zero, i.size, i.bytes)) = some (some (.agg #[.int .i64 0, .slice none 0 0]), 2, 32) := by kernel_rfl

end Go.Proofs.Ytobegekmgoiopaa

/- The contracts of package parse's last and shift. -/
namespace Go.Proofs.Ytobegekmgoiopaa
open Go.RowKit

theorem StillI.conL {P : Program} {ops : Array Oper} {S : World → Prop} {K : Act → Prop} {i : Nat} {o : Oper} {l : List Nat} {a : Act} {v : Value} (ho : ops.toList[i]? = some o) (hw : Region.wanted o (yielded ops a.tmps) = true) (hy : ∀ w, S w → (execOp a.eval o).run P w = .ok (.value v) w) (h : StillI P ops S K l (a.put o.dst v)) : StillI P ops S K (i :: l) a :=
  StillI.cons (by simpa using ho) hw hy h
theorem TailI.conL {P : Program} {ops : Array Oper} {Q : Exit → Act → World → Prop} {S : World → Prop} {n k : Nat} {o : Oper} {l : List Nat} {a : Act} {w : World} (ho : ops.toList[k]? = some o) (h : ∀ K : Act → World → Prop, Shut (∀ a w, (k < n → S w) → TailI P ops Q S n l a w → K a w) → if Region.wanted o (yielded ops a.tmps) = true then Oper.wp P o a w K Q else K (a.put o.dst undef) w) : TailI P ops Q S n (k :: l) a w :=
  TailI.cons (by simpa using ho) h

theorem DvAt.slice {w : World} {A : Nat → Prop} {v : Value} {D : List Int} (h : DvAt w A v D) : ∃ a c, v = .slice a D.length c := h.list.1

set_option maxRecDepth 100000 in
set_option maxHeartbeats 1600000 in
theorem rn_last {w0 w : World} {d : RnA} {sv : Value} {PL : List Pl} {p q k : Nat} (h : RnM w0 d sv PL p q w) (hk : PL.length = k + 1) (hl : k ≤ 10000) {s : Nat} {dv : Value} (hs : (PL.getD k noPl).1 = s) (hd : (PL.getD k noPl).2.1 = dv) :
    Calls Try.prog 20 #[.pointer (some ⟨d.ra, 0, none⟩)] w fun e w' => e = .returned (.agg #[.int .i64 s, dv]) ∧ Below w.heap.size w w' := by
  obtain ⟨g, cap, hsv, hg, _⟩ := h.form (by omega)
  obtain ⟨c0, c1⟩ := h.place hsv (i := k) (by omega)
  have hdv := (h.derAt (i := k) (by omega)).slice
  rw [hd] at hdv c1
  obtain ⟨dn, hdn⟩ : ∃ n, (PL.getD k noPl).2.2.length = n := ⟨_, rfl⟩
  rw [hdn] at hdv
  obtain ⟨da, dc, rfl⟩ := hdv
  rw [hs] at c0
  have c8 := (h.cell (i := 8) rfl).1
  rw [hsv, hk] at c8
  have hra := h.lt.1
  have a8 : (w.alloc (.cells #[.int .i64 0, .slice none 0 0] 46)).cell? ⟨d.ra, 8, none⟩ = _ := (World.cell?_alloc_past _ _ _ hra).trans c8
  have a0 : (w.alloc (.cells #[.int .i64 0, .slice none 0 0] 46)).cell? ⟨g, k * 2, none⟩ = _ := (World.cell?_alloc_past _ _ _ hg).trans c0
  have a1 : (w.alloc (.cells #[.int .i64 0, .slice none 0 0] 46)).cell? ⟨g, k * 2 + 1, none⟩ = _ := (World.cell?_alloc_past _ _ _ hg).trans c1
  have i0 : (0 : Int) ≤ (k : Int) := Int.natCast_nonneg _
  have i1 : (k : Int) < (k : Int) + 1 := by omega
  have hwk : IntKind.i64.wrap (k : Int) = (k : Int) := IntWalk.i64_in _ (by omega)
  obtain ⟨rb, hrb⟩ : ∃ rb, d.ra = rb := ⟨_, rfl⟩
  rw [hrb] at a8 ⊢
  clear h hk hs hd hsv c0 c1 c8 hra hdn hg hrb
  go_enter Try.func20, Try.ntmps20
  go_wp2_with fail
  refine wp_region_tail 12 (by kernel_rfl) (by kernel_rfl) ?_
  simp only [List.take_succ_cons, List.take_zero, List.drop_succ_cons, List.drop_zero]
  repeat still_step
  refine wpStill_nil ?_
  go_wp2_with fail
  refine bodyPost_ret (v := .agg #[.int .i64 s, .slice da dn dc]) (by simp [results, Try.results20, go_sem]) rfl ⟨rfl, ?_⟩
  exact ((Below.refl _ _).alloc (Nat.le_refl _) _).drew

set_option maxRecDepth 100000 in
set_option maxHeartbeats 1600000 in
theorem rn_shift {w0 w : World} {d : RnA} {sv : Value} {PL : List Pl} {p q : Nat} (h : RnM w0 d sv PL p q w) (hn : 0 < PL.length) (hl : PL.length ≤ 10000) (hp : p ≤ 10000) (s : Nat) :
    Calls Try.prog 21 #[.pointer (some ⟨d.ra, 0, none⟩), .int .i64 s] w fun e w' => e = .returned (.tuple #[]) ∧ ∃ sv', RnM w0 d sv' (PL ++ [(s, .slice none 0 0, [])]) (p + 1) q w' := by
  obtain ⟨g, cap, hsv, hg, _⟩ := h.form hn
  subst hsv
  obtain ⟨n, hn'⟩ : ∃ n, PL.length = n := ⟨_, rfl⟩
  rw [hn'] at h hl hn
  have h4 := h.alloc (.cells #[.int .i64 s, .slice none 0 0] 46)
  have own4 := h4.stack
  rw [hn'] at own4
  have c8 := (h.cell (i := 8) rfl).1
  have c8f := (h4.cell (i := 8) rfl).2
  have c8' := (h4.cell (i := 8) rfl).1
  have c6' := (h4.cell (i := 6) rfl).1
  have c6f := (h4.cell (i := 6) rfl).2
  have hra := h4.lt.1
  have hne : some d.ra ≠ (Value.slice (some ⟨g, 0, none⟩) n cap).ownBlock := fun e => h4.apart e.symm
  have hn1 : n + 1 ≤ maxLen := by unfold maxLen; omega
  have hn2 : (n + 1) * 32 ≤ 140737488355328 := by omega
  have hB4 : w0.heap.size ≤ (w.alloc (.cells #[.int .i64 s, .slice none 0 0] 46)).heap.size := h4.le
  obtain ⟨i0, hi0, hz0, hz1, hz2⟩ := info_parts Try.infoPl
  have H4 : Hid (RnM w0 d (.slice (some ⟨g, 0, none⟩) n cap) PL p q (w.alloc (.cells #[.int .i64 s, .slice none 0 0] 46))) := h4
  have HN : Hid (PL.length = n) := hn'
  clear h h4 hn'
  go_enter Try.func21, Try.ntmps21
  go_wp2_with
    (at_builtin
     refine wpList_append_lies _ rfl _ _ _ rfl w0.heap.size 46 i0 _ 2 32 Try.underlying47 hi0 hz0 hz1 hz2 rfl (by omega) (.slice (some ⟨g, 0, none⟩) n cap) n (flatPl PL) rfl own4 ⟨w.heap.size, 0, none⟩ 1 1 [.int .i64 s, .slice none 0 0] rfl rfl (World.news_of_block (cs := #[.int .i64 s, .slice none 0 0]) (t := 46) (fr := (0, 0)) (heap_alloc_new w _)) (by simp [Value.oneCell']) (by omega) hn1 hn2 hB4 (w.heap.size + 1) (by simp) ?_
     intro g6 cap6 w6 hown6 hgrow6 hat6 hlt6
     have d8 := (hgrow6.cell_far ⟨d.ra, 8, none⟩ hra hne).trans c8'
     have d8f := (hgrow6.frozen_far ⟨d.ra, 8, none⟩ hra hne).trans c8f
     have d6 := (hgrow6.cell_far ⟨d.ra, 6, none⟩ hra hne).trans c6'
     have d6f := (hgrow6.frozen_far ⟨d.ra, 6, none⟩ hra hne).trans c6f)
  go_end0
  refine ⟨rfl, .slice (some ⟨g6, 0, none⟩) (n + 1) cap6, ?_⟩
  have r := H4.out.turn (sv' := .slice (some ⟨g6, 0, none⟩) (n + 1) cap6) (PL' := PL ++ [(s, .slice none 0 0, [])]) hgrow6 (by simpa [HN.out, flatPl, plV] using hown6) (fun g' hg' => by
      obtain rfl : g6 = g' := by simpa [Value.ownBlock] using hg'
      rcases hat6 with h5 | h5
      · exact .inl h5
      · exact .inr (by simpa using h5)) (fun x hx => by
      rcases List.mem_append.1 hx with hx | hx
      · exact H4.out.der x hx
      · simp only [List.mem_singleton] at hx
        subst hx
        exact .inl ⟨rfl, rfl⟩)
  exact r.setRead (p + 1)

end Go.Proofs.Ytobegekmgoiopaa

/- The contract of package parse's cell. -/
namespace Go.Proofs.Ytobegekmgoiopaa
open Go.RowKit

set_option maxRecDepth 100000 in
set_option maxHeartbeats 3200000 in
theorem rn_cell {w0 w : World} {d : RnA} {sv : Value} {PL : List Pl} {p q k tp nt : Nat} {R : List Ru} {tok : List Int} {C : List (List Ce)} {G : List (List Int)} (h : RnM w0 d sv PL p q w) (E : RnE w0 d R tok C G) (hk : PL.length = k + 1) (hl : k ≤ 10000) (hs : (PL.getD k noPl).1 = tp) (htp : tp < C.length) (hnt : nt < (C.getD tp []).length)
    (hlt : p < tok.length → tok.getD p 0 = (nt : Int)) (hge : ¬ p < tok.length → d.T = nt) {sh : Int} {Ru' : List Int} {en : Bool} (hce : (C.getD tp []).getD nt (0, [], false) = (sh, Ru', en)) :
    Calls Try.prog 19 #[.pointer (some ⟨d.ra, 0, none⟩)] w fun e w' => ∃ rl, e = .returned (.agg #[.int .i64 sh, rl, .bool en]) ∧ ListAt w' w'.heap.size rl Ru' ∧ Below w.heap.size w w' := by
  have hR := h.alloc (.cells #[.int .i64 0, .slice none 0 0, .bool false] 65)
  obtain ⟨W1, hW1⟩ : ∃ W, w.alloc (.cells #[.int .i64 0, .slice none 0 0, .bool false] 65) = W := ⟨_, rfl⟩
  have hB1 : Below w.heap.size w W1 := by rw [← hW1]; exact (Below.refl _ _).alloc (Nat.le_refl _) _
  have r0 : W1.cell? ⟨w.heap.size, 0, none⟩ = some (.int .i64 0) := by rw [← hW1]; simp [go_sem]
  have r1 : W1.cell? ⟨w.heap.size, 1, none⟩ = some (.slice none 0 0) := by rw [← hW1]; simp [go_sem]
  have r2 : W1.cell? ⟨w.heap.size, 2, none⟩ = some (.bool false) := by rw [← hW1]; simp [go_sem]
  have rf : ∀ o, W1.frozen? ⟨w.heap.size, o, none⟩ = false := fun o => by rw [← hW1]; simp [go_sem]
  have hs1 : W1.heap.size = w.heap.size + 1 := by rw [← hW1]; simp
  rw [hW1] at hR
  have HB1 : Hid (Below w.heap.size w W1) := hB1
  have HZ : Hid (Below w0.heap.size w0 w) := h.since
  have HM : Hid (RnM w0 d sv PL p q W1) := hR
  have HE : Hid (RnE w0 d R tok C G) := E
  obtain ⟨ta, tc, htv⟩ := E.toks.1
  obtain ⟨ca, cc, hcv⟩ := E.tab.cells.1
  have c0 := (hR.cell (i := 0) rfl).1
  have c3 := (hR.cell (i := 3) rfl).1
  have c5 := (hR.cell (i := 5) rfl).1
  have c6 := (hR.cell (i := 6) rfl).1
  rw [htv] at c5
  rw [hcv] at c3
  have HTv : Hid (d.tv = .slice ta tok.length tc) := htv
  have HCv : Hid (d.cv = .slice ca C.length cc) := hcv
  have HNt : Hid (nt < (C.getD tp []).length) := hnt
  have HCe : Hid ((C.getD tp []).getD nt (0, [], false) = (sh, Ru', en)) := hce
  have HLt : Hid (p < tok.length → tok.getD p 0 = (nt : Int)) := hlt
  obtain ⟨x3, hx3⟩ : ∃ x, (PL.getD k noPl).2.1 = x := ⟨_, rfl⟩
  have HLast : Hid (∀ wq, Below W1.heap.size W1 wq → Calls Try.prog 20 #[.pointer (some ⟨d.ra, 0, none⟩)] wq fun e w' => e = .returned (.agg #[.int .i64 tp, x3]) ∧ Below wq.heap.size wq w') := fun wq hq => rn_last (hR.below hq) hk hl hs hx3
  have HX3 : Hid (∃ a n c, x3 = .slice a n c) := by
    obtain ⟨a, c, e⟩ := (hR.derAt (i := k) (by omega)).slice
    exact ⟨a, _, c, by rw [← hx3, e]⟩
  clear h E hk hs hR htv hcv hnt hce hlt hx3 hB1
  obtain ⟨rb, hrb⟩ : ∃ rb, d.ra = rb := ⟨_, rfl⟩
  rw [hrb] at c0 c3 c5 c6 HLast ⊢
  obtain ⟨dT, hdT⟩ : ∃ x, d.T = x := ⟨_, rfl⟩
  rw [hdT] at c0 hge
  clear hrb hdT
  go_enter Try.func19, Try.ntmps19
  go_upto_region 2 with fail
  clear hW1
  have p0 : (0 : Int) ≤ (p : Int) := Int.natCast_nonneg _
  by_cases hpt : p < tok.length
  case' pos =>
    obtain ⟨tb', to', tc', hte, _, x1⟩ := (HE.out.toks.below HM.out.since).2 p hpt
    rw [HTv.out] at hte
    injection hte with h5 _ h6
    subst h5
    subst h6
    rw [HLt.out hpt] at x1
    have p1 : (p : Int) < (tok.length : Int) := by omega
    go_big_quiet (fail)
    generalize nq = q1
    go_wp2_with fail
    go_big_quiet (fail)
    go_wp2_with fail
    obtain ⟨W2, hW2⟩ : ∃ W, (W1.drewN q1).drewN nq = W := ⟨_, rfl⟩
    have hB2 : Below W1.heap.size W1 W2.drew := by rw [← hW2]; exact (below_drewN (below_drewN (Below.refl _ _) _) _).drew
    rw [hW2]
    clear x1 p1
  case' neg =>
    have p1 : decide ((p : Int) < (tok.length : Int)) = false := decide_eq_false (by omega)
    have hTn := (hge hpt).symm
    subst hTn
    go_big_quiet (fail)
    go_wp2_with fail
    obtain ⟨W2, hW2⟩ : ∃ W, W1.drewN nq = W := ⟨_, rfl⟩
    have hB2 : Below W1.heap.size W1 W2.drew := by rw [← hW2]; exact (below_drewN (Below.refl _ _) _).drew
    rw [hW2]
    clear p1
  all_goals
    clear hW2
    obtain ⟨cb, co, cc', rk, hcv, k1, hrow⟩ := HE.out.tab.cells.2 tp htp
    rw [HCv.out] at hcv
    injection hcv with hca _ hcc
    subst hca
    subst hcc
    obtain ⟨rb2, ro2, rc2, rl, hrk, k2, k3, k4, k5⟩ := hrow.2 nt HNt.out
    rw [HCe.out] at k2 k4 k5
    simp only at k2 k4 k5
    obtain ⟨ua, uc, hrl⟩ := k4.1
    have hn1 := HNt.out
    obtain ⟨m2, hm2⟩ : ∃ m2, Ru'.length = m2 := ⟨_, rfl⟩
    obtain ⟨rn, hrn⟩ : ∃ x, (C.getD tp []).length = x := ⟨_, rfl⟩
    rw [hm2] at hrl
    rw [hrn] at hrk hn1
    subst hrl
    subst hrk
    obtain ⟨xa, xn, xc, rfl⟩ := HX3.out
    have HK4 : Hid (ListAt w0 w0.heap.size (.slice ua m2 uc) Ru') := k4
    have HB2 : Hid (Below W1.heap.size W1 W2.drew) := hB2
    have la := HLast.out W2.drew hB2
    have c3' : W2.drew.cell? ⟨rb, 3, none⟩ = some (.slice (some ⟨cb, co, none⟩) C.length cc) := (hB2.cell (World.block_lt_of_cell? _ _ c3)).trans c3
    have HRest : Hid (∀ wq, Below W2.drew.heap.size W2.drew wq → wq.cell? ⟨rb, 3, none⟩ = some (.slice (some ⟨cb, co, none⟩) C.length cc) ∧ wq.cell? ⟨cb, co + tp, none⟩ = some (.slice (some ⟨rb2, ro2, none⟩) rn rc2) ∧ wq.cell? ⟨rb2, ro2 + nt * 3, none⟩ = some (.int .i64 sh) ∧ wq.cell? ⟨rb2, ro2 + nt * 3 + 1, none⟩ = some (.slice ua m2 uc) ∧ wq.cell? ⟨rb2, ro2 + nt * 3 + 2, none⟩ = some (.bool en) ∧
        wq.cell? ⟨w.heap.size, 0, none⟩ = some (.int .i64 0) ∧ wq.cell? ⟨w.heap.size, 1, none⟩ = some (.slice none 0 0) ∧ wq.cell? ⟨w.heap.size, 2, none⟩ = some (.bool false) ∧ (∀ o, wq.frozen? ⟨w.heap.size, o, none⟩ = false) ∧ w.heap.size < wq.heap.size) := fun wq hq => by
      have hb : Below W1.heap.size W1 wq := HB2.out.trans (hq.mono HB2.out.size)
      have hz : Below w0.heap.size w0 wq := HM.out.since.trans (hb.mono HM.out.le)
      exact ⟨(hq.cell (World.block_lt_of_cell? _ _ c3')).trans c3', (hz.cell (World.block_lt_of_cell? _ _ k1)).trans k1, (hz.cell (World.block_lt_of_cell? _ _ k2)).trans k2, (hz.cell (World.block_lt_of_cell? _ _ k3)).trans k3, (hz.cell (World.block_lt_of_cell? _ _ k5)).trans k5,
        (hb.cell (by simp only; omega)).trans r0, (hb.cell (by simp only; omega)).trans r1, (hb.cell (by simp only; omega)).trans r2, fun o => (hb.frozen (by simp only; omega)).trans (rf o), by have := hb.size; omega⟩
    have j0 : (0 : Int) ≤ (tp : Int) := Int.natCast_nonneg _
    have j1 : (tp : Int) < (C.length : Int) := by omega
    have l0 : (0 : Int) ≤ (nt : Int) := Int.natCast_nonneg _
    have l1 : (nt : Int) < (rn : Int) := by omega
    clear hB2 k1 k2 k3 k4 k5 hrow hm2 hrn hn1 c0 c3 c5 c6 r0 r1 r2 rf
    refine wp_region_held_seq [0, 1, 2, 3, 4, 5, 10] [6, 7, 8, 9, 11, 12, 13] 13 (fun w' => w'.cell? ⟨rb, 3, none⟩ = some (.slice (some ⟨cb, co, none⟩) C.length cc)) (by kernel_rfl) (by kernel_rfl) c3' ?_
    iterate 7
      refine StillI.conL (v := ?_) rfl (by rfl) ?_ ?_
      rotate_left
      · intro w' hSw
        go_simp
        try with_reducible rfl
      simp only [Act.put, List.setIfInBounds_toArray, List.set_cons_zero, List.set_cons_succ]
    rw [StillI]
    refine TailI.conL rfl (fun K hK => ?_)
    go_simp
    refine la.mono ?_
    rintro e w5 ⟨rfl, hB5⟩
    dsimp only
    have HB5 : Hid (Below W2.drew.heap.size W2.drew w5) := hB5
    obtain ⟨m3, m4, m5, m6, m7, m8, m9, m10, m11, m12⟩ := HRest.out w5 hB5
    have f0 := m11 0
    have f1 := m11 1
    have f2 := m11 2
    refine hK.out _ _ (fun _ => m3) ?_
    clear hK la hB5 c3' m11
    refine TailI.conL rfl (fun K hK => ?_)
    go_simp
    refine hK.out _ _ (fun _ => m3) ?_
    clear hK
    refine TailI.conL rfl (fun K hK => ?_)
    go_simp
    refine hK.out _ _ (fun _ => m3) ?_
    clear hK
    refine TailI.conL rfl (fun K hK => ?_)
    go_simp
    refine hK.out _ _ (fun _ => m3) ?_
    clear hK
    refine TailI.conL rfl (fun K hK => ?_)
    go_simp
    refine hK.out _ _ (fun _ => m3) ?_
    clear hK
    refine TailI.conL rfl (fun K hK => ?_)
    go_simp
    refine hK.out _ _ (fun _ => m3) ?_
    clear hK
    refine TailI.conL rfl (fun K hK => ?_)
    go_simp
    refine hK.out _ _ (fun h => absurd h (by omega)) ?_
    clear hK
    rw [TailI]
    refine NoPanic.normal ?_
    have HBf : Hid (Below w.heap.size w (((w5.setCell ⟨w.heap.size, 0, none⟩ (.int .i64 sh)).setCell ⟨w.heap.size, 1, none⟩ (.slice ua m2 uc)).setCell ⟨w.heap.size, 2, none⟩ (.bool en))) :=
      ((((HB1.out.trans (HB2.out.mono (by omega))).trans (HB5.out.mono (by have := HB2.out.size; omega))).setCell (by simp) _).setCell (by simp) _).setCell (by simp) _
    go_wp2_with fail
    refine bodyPost_ret (v := .agg #[.int .i64 sh, .slice ua m2 uc, .bool en]) (by simp [results, Try.results19, go_sem, m8, m9, m10]) rfl ⟨_, rfl, ?_, HBf.out⟩
    have hz := HZ.out.trans (HBf.out.mono HZ.out.size)
    exact (HK4.out.below hz).mono hz.size

end Go.Proofs.Ytobegekmgoiopaa
