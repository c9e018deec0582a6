import Derived.Test.YtgcpllnjdnahjaaClMathAndGotoMath
import Derived.Test.YtgcpllnjdnahjaaTab6AndMapMem
import Derived.Test.YtgcpllnjdnahjaaHeldSeq
import Derived.BigQuiet
import Derived.Deep.DeepCutAuto
import Derived.Test.YtgcpllnjdnahjaaRowI
import Derived.Laws.AppendOwnNone
import Derived.Test.YtgcpllnjdnahjaaDerMathAndParseDef
import Derived.Test.YtgcpllnjdnahjaaPrTabAndPrFor
/- How the program's runner of a table (package parse) lies in memory. No walk. -/
namespace Go.Proofs.Ytgcpllnjdnahjaa
open Go.RowKit

/-- A place on the stack: its state, where its derivation lies, the derivation. -/
abbrev Pl := Nat × Value × List Int
def plV (x : Pl) : List Value := [.int .i64 x.1, x.2.1]
def flatPl (PL : List Pl) : List Value := PL.flatMap plV
/-- A place of a term. -/
abbrev noPl : Pl := (0, .slice none 0 0, [])

section
variable {PL : List Pl}
theorem flatPl_len (PL : List Pl) : (flatPl PL).length = PL.length * 2 := by
  unfold flatPl
  induction PL with
  | nil => rfl
  | cons a L ih => rw [List.flatMap_cons, List.length_append, ih]; simp [plV]; omega
theorem flatPl_get {i j : Nat} (hi : i < PL.length) (hj : j < 2) : (flatPl PL)[i * 2 + j]? = (plV (PL.getD i noPl))[j]? := by
  unfold flatPl
  induction PL generalizing i with
  | nil => simp at hi
  | cons a L ih =>
    rw [List.flatMap_cons]
    cases i with
    | zero => rw [List.getElem?_append_left (by simp [plV]; omega)]; simp
    | succ i =>
      rw [List.getElem?_append_right (by simp [plV]; omega)]
      simp only [plV, List.length_cons, List.length_nil]
      rw [show (i + 1) * 2 + j - (0 + 1 + 1) = i * 2 + j by omega]
      have := ih (i := i) (by simpa using hi)
      simpa [List.getD, plV] using this
theorem flatPl_append (A C : List Pl) : flatPl (A ++ C) = flatPl A ++ flatPl C := by simp [flatPl]
theorem flatPl_take {n : Nat} (h : n ≤ PL.length) : flatPl (PL.take n) = (flatPl PL).take (n * 2) := by
  have e : flatPl PL = flatPl (PL.take n) ++ flatPl (PL.drop n) := by rw [← flatPl_append, List.take_append_drop]
  have hl : (flatPl (PL.take n)).length = n * 2 := by rw [flatPl_len, List.length_take, Nat.min_eq_left h]
  rw [e, ← hl, List.take_left]
end

/-- Numbers that lie in a block of their own, from its beginning on: one of A. -/
def DvAt (w : World) (A : Nat → Prop) (v : Value) (D : List Int) : Prop :=
  (D = [] ∧ v = .slice none 0 0) ∨ (0 < D.length ∧ ∃ b c, v = .slice (some ⟨b, 0, none⟩) D.length c ∧ A b ∧ b < w.heap.size ∧ ∀ p, p < D.length → w.cell? ⟨b, p, none⟩ = some (.int .i64 (D.getD p 0)))

theorem DvAt.kept {w w' : World} {A A' : Nat → Prop} {v : Value} {D : List Int} (h : DvAt w A v D) (hs : w.heap.size ≤ w'.heap.size) (hb : ∀ b, A b → b < w.heap.size → w'.heap[b]? = w.heap[b]? ∧ A' b) : DvAt w' A' v D := by
  rcases h with h | ⟨h0, b, c, h1, h2, h3, h4⟩
  · exact .inl h
  · exact .inr ⟨h0, b, c, h1, (hb b h2 h3).2, by omega, fun p hp => (World.cell?_of_block (w := w) (hb b h2 h3).1).trans (h4 p hp)⟩
theorem DvAt.list {w : World} {A : Nat → Prop} {v : Value} {D : List Int} (h : DvAt w A v D) : ListAt w w.heap.size v D := by
  rcases h with ⟨rfl, rfl⟩ | ⟨h0, b, c, rfl, h2, h3, h4⟩
  · exact ⟨⟨_, _, rfl⟩, fun p hp => absurd hp (Nat.not_lt_zero _)⟩
  · exact ⟨⟨_, _, rfl⟩, fun p hp => ⟨b, 0, c, rfl, h3, by rw [Nat.zero_add]; exact h4 p hp⟩⟩

/-- Where a runner lies; what does not turn. -/
structure RnA where
  ra : Nat
  T : Nat
  N : Nat
  rv : Value
  cv : Value
  gv : Value
  tv : Value

inductive RnI where
  | ru
  | st
  deriving DecidableEq

def RnP (d : RnA) (sv : Value) (PL : List Pl) (p q : Nat) : RnI → Option Row
  | .ru => some ⟨.slice (some ⟨d.ra, 0, none⟩) 1 1, 42, 9, 1, [.int .i64 d.T, .int .i64 d.N, d.rv, d.cv, d.gv, d.tv, .int .i64 p, .int .i64 q, sv]⟩
  | .st => some ⟨sv, 39, 2, PL.length, flatPl PL⟩
/-- Other blocks. -/
def RnO (d : RnA) (sv : Value) (b : Nat) : Prop := b ≠ d.ra ∧ sv.ownBlock ≠ some b

/-- The runner: p tokens are read, q rules reduced. -/
structure RnM (w0 : World) (d : RnA) (sv : Value) (PL : List Pl) (p q : Nat) (w : World) : Prop where
  own : Owns w w0.heap.size (RnP d sv PL p q)
  der : ∀ x ∈ PL, DvAt w (RnO d sv) x.2.1 x.2.2
  since : Below w0.heap.size w0 w

/-- What was there before. -/
structure RnE (w0 : World) (d : RnA) (R : List Ru) (tok : List Int) (C : List (List Ce)) (G : List (List Int)) : Prop where
  rules : RulesAt w0 w0.heap.size d.rv R
  toks : ListAt w0 w0.heap.size d.tv tok
  tab : TabAt w0 d.cv d.gv C G

section
variable {w0 w w' : World} {d : RnA} {sv sv' : Value} {PL PL' : List Pl} {p q : Nat}

theorem RnM.le (h : RnM w0 d sv PL p q w) : w0.heap.size ≤ w.heap.size := h.since.size
theorem RnM.below (h : RnM w0 d sv PL p q w) (hb : Below w.heap.size w w') : RnM w0 d sv PL p q w' :=
  ⟨h.own.below hb (Nat.le_refl _), fun x hx => (h.der x hx).kept hb.size fun b hA hlt => ⟨hb.block b hlt, hA⟩, h.since.trans (hb.mono h.le)⟩
theorem RnM.alloc (h : RnM w0 d sv PL p q w) (o : Obj) : RnM w0 d sv PL p q (w.alloc o) := h.below ((Below.refl _ _).alloc (Nat.le_refl _) o)
theorem RnM.drew (h : RnM w0 d sv PL p q w) : RnM w0 d sv PL p q w.drew := h.below ((Below.refl _ _).drew)
theorem RnM.lt (h : RnM w0 d sv PL p q w) : d.ra < w.heap.size ∧ w0.heap.size ≤ d.ra := by
  have := h.own.lt (i := .ru) rfl (g := d.ra) rfl
  omega
theorem RnM.cell (h : RnM w0 d sv PL p q w) {i : Nat} {u : Value} (hu : [Value.int .i64 d.T, .int .i64 d.N, d.rv, d.cv, d.gv, d.tv, .int .i64 p, .int .i64 q, sv][i]? = some u) : w.cell? ⟨d.ra, i, none⟩ = some u ∧ w.frozen? ⟨d.ra, i, none⟩ = false := by
  have hi : i < 9 := by have := (List.getElem?_eq_some_iff.1 hu).1; simpa using this
  have := h.own.cell (i := .ru) rfl i (by omega)
  exact ⟨this.1.trans hu, this.2⟩
theorem RnM.stack (h : RnM w0 d sv PL p q w) : w.ownsRow w0.heap.size 39 2 sv PL.length (flatPl PL) := h.own.own .st _ rfl
theorem RnM.apart (h : RnM w0 d sv PL p q w) : sv.ownBlock ≠ some d.ra := fun e => h.own.apart .ru .st _ _ (by simp) rfl rfl d.ra rfl e
theorem RnM.form (h : RnM w0 d sv PL p q w) (hn : 0 < PL.length) : ∃ g cap, sv = .slice (some ⟨g, 0, none⟩) PL.length cap ∧ g < w.heap.size ∧ PL.length ≤ cap := by
  obtain ⟨_, ⟨_, h0⟩ | ⟨g, cap, cur, e, _, hc, hle, _⟩⟩ := h.stack
  · omega
  · exact ⟨g, cap, e, (h.stack.lt g (by rw [e]; rfl)).2, hle⟩
theorem RnM.place (h : RnM w0 d sv PL p q w) {g cap i : Nat} (hv : sv = .slice (some ⟨g, 0, none⟩) PL.length cap) (hi : i < PL.length) : w.cell? ⟨g, i * 2, none⟩ = some (.int .i64 (PL.getD i noPl).1) ∧ w.cell? ⟨g, i * 2 + 1, none⟩ = some (PL.getD i noPl).2.1 := by
  have ho := h.stack
  rw [hv] at ho
  exact ⟨(ho.cellAt (i * 2) (by omega)).trans (flatPl_get (j := 0) hi (by omega)), (ho.cellAt (i * 2 + 1) (by omega)).trans (flatPl_get (j := 1) hi (by omega))⟩
theorem RnM.derAt (h : RnM w0 d sv PL p q w) {i : Nat} (hi : i < PL.length) : DvAt w (RnO d sv) (PL.getD i noPl).2.1 (PL.getD i noPl).2.2 := h.der _ (by simp [List.getD, hi])

theorem RnM.setRead (h : RnM w0 d sv PL p q w) (p' : Nat) : RnM w0 d sv PL p' q (w.setCell ⟨d.ra, 6, none⟩ (.int .i64 p')) := by
  have h1 := h.own.store (i := .ru) rfl 6 (.int .i64 p')
  have e : upd (RnP d sv PL p q) .ru ⟨.slice (some ⟨d.ra, 0, none⟩) 1 1, 42, 9, 1, [Value.int .i64 d.T, .int .i64 d.N, d.rv, d.cv, d.gv, d.tv, .int .i64 p, .int .i64 q, sv].set 6 (.int .i64 p')⟩ = RnP d sv PL p' q := by
    funext i
    cases i <;> simp [upd, RnP]
  rw [e] at h1
  refine ⟨h1, fun x hx => (h.der x hx).kept (by simp) fun b hA hlt => ⟨Below.heap_setCell _ _ _ _ (fun e => hA.1 e), hA⟩, h.since.setCell h.lt.2 _⟩
theorem RnM.setRed (h : RnM w0 d sv PL p q w) (q' : Nat) : RnM w0 d sv PL p q' (w.setCell ⟨d.ra, 7, none⟩ (.int .i64 q')) := by
  have h1 := h.own.store (i := .ru) rfl 7 (.int .i64 q')
  have e : upd (RnP d sv PL p q) .ru ⟨.slice (some ⟨d.ra, 0, none⟩) 1 1, 42, 9, 1, [Value.int .i64 d.T, .int .i64 d.N, d.rv, d.cv, d.gv, d.tv, .int .i64 p, .int .i64 q, sv].set 7 (.int .i64 q')⟩ = RnP d sv PL p q' := by
    funext i
    cases i <;> simp [upd, RnP]
  rw [e] at h1
  refine ⟨h1, fun x hx => (h.der x hx).kept (by simp) fun b hA hlt => ⟨Below.heap_setCell _ _ _ _ (fun e => hA.1 e), hA⟩, h.since.setCell h.lt.2 _⟩

/-- The stack turns, and is stored. -/
theorem RnM.turn (h : RnM w0 d sv PL p q w) (hg : w.grownBy w' sv.ownBlock) (ho : w'.ownsRow w0.heap.size 39 2 sv' PL'.length (flatPl PL')) (hat : ∀ g, sv'.ownBlock = some g → sv.ownBlock = some g ∨ g = w.heap.size) (hd : ∀ x ∈ PL', DvAt w (RnO d sv) x.2.1 x.2.2) : RnM w0 d sv' PL' p q (w'.setCell ⟨d.ra, 8, none⟩ sv') := by
  have h1 := h.own.turn (i := .st) (r' := ⟨sv', 39, 2, PL'.length, flatPl PL'⟩) rfl hg ho hat
  have hru : upd (RnP d sv PL p q) .st ⟨sv', 39, 2, PL'.length, flatPl PL'⟩ .ru = some ⟨.slice (some ⟨d.ra, 0, none⟩) 1 1, 42, 9, 1, [.int .i64 d.T, .int .i64 d.N, d.rv, d.cv, d.gv, d.tv, .int .i64 p, .int .i64 q, sv]⟩ := rfl
  have h2 := h1.store (i := .ru) hru 8 sv'
  have e : upd (upd (RnP d sv PL p q) .st ⟨sv', 39, 2, PL'.length, flatPl PL'⟩) .ru ⟨.slice (some ⟨d.ra, 0, none⟩) 1 1, 42, 9, 1, [Value.int .i64 d.T, .int .i64 d.N, d.rv, d.cv, d.gv, d.tv, .int .i64 p, .int .i64 q, sv].set 8 sv'⟩ = RnP d sv' PL' p q := by
    funext i
    cases i <;> simp [upd, RnP]
  rw [e] at h2
  have hl := h.lt
  refine ⟨h2, fun x hx => (hd x hx).kept (by simpa using hg.size) fun b hA hlt => ⟨?_, hA.1, fun e => ?_⟩, (h.since.grown hg h.le fun k hk => (h.stack.lt k hk).1).setCell h.lt.2 _⟩
  · rw [Below.heap_setCell _ _ _ _ (fun e => hA.1 e)]
    exact hg.block b hlt fun e => hA.2 e.symm
  · rcases hat b e with e' | e'
    · exact hA.2 e'
    · omega

/-- Some places are taken. -/
theorem RnM.cut (h : RnM w0 d sv PL p q w) {g cap n : Nat} (hv : sv = .slice (some ⟨g, 0, none⟩) PL.length cap) (hn : n ≤ PL.length) : RnM w0 d (.slice (some ⟨g, 0, none⟩) n cap) (PL.take n) p q (w.setCell ⟨d.ra, 8, none⟩ (.slice (some ⟨g, 0, none⟩) n cap)) := by
  refine h.turn ⟨rfl, rfl, rfl, Nat.le_refl _, fun _ _ _ => rfl⟩ ?_ (fun g' hg' => .inl (by rw [hv]; exact hg')) fun x hx => h.der x (List.mem_of_mem_take hx)
  have ho := h.stack
  rw [hv] at ho
  obtain ⟨h1, ⟨hx, _⟩ | ⟨g', cap', cur, e, h2, h3, h4, h5, h6, h7⟩⟩ := ho
  · cases hx
  · injection e with e1 _ e3
    injection e1 with e1
    injection e1 with e1
    subst e1
    subst e3
    have hl : (PL.take n).length = n := by rw [List.length_take, Nat.min_eq_left hn]
    refine ⟨flatPl_len _, .inr ⟨g, cap, cur, by rw [hl], h2, h3, by rw [hl]; omega, h5, h6, ?_⟩⟩
    rw [hl, flatPl_take hn, ← h7, List.take_take, Nat.min_eq_left (by omega)]
end

theorem Try.infoPl : (Try.prog.info? 39).map (fun i => (i.zero, i.size, i.bytes)) = some (some (.agg #[.int .i64 0, .slice none 0 0]), 2, 32) := by kernel_rfl

end Go.Proofs.Ytgcpllnjdnahjaa

/- The contracts of package parse's last and shift. -/
namespace Go.Proofs.Ytgcpllnjdnahjaa
open Go.RowKit

theorem StillI.conL {P : Program} {ops : Array Oper} {S : World → Prop} {K : Act → Prop} {i : Nat} {o : Oper} {l : List Nat} {a : Act} {v : Value} (ho : ops.toList[i]? = some o) (hw : Region.wanted o (yielded ops a.tmps) = true) (hy : ∀ w, S w → (execOp a.eval o).run P w = .ok (.value v) w) (h : StillI P ops S K l (a.put o.dst v)) : StillI P ops S K (i :: l) a :=
  StillI.cons (by simpa using ho) hw hy h
theorem TailI.conL {P : Program} {ops : Array Oper} {Q : Exit → Act → World → Prop} {S : World → Prop} {n k : Nat} {o : Oper} {l : List Nat} {a : Act} {w : World} (ho : ops.toList[k]? = some o) (h : ∀ K : Act → World → Prop, Shut (∀ a w, (k < n → S w) → TailI P ops Q S n l a w → K a w) → if Region.wanted o (yielded ops a.tmps) = true then Oper.wp P o a w K Q else K (a.put o.dst undef) w) : TailI P ops Q S n (k :: l) a w :=
  TailI.cons (by simpa using ho) h

theorem DvAt.slice {w : World} {A : Nat → Prop} {v : Value} {D : List Int} (h : DvAt w A v D) : ∃ a c, v = .slice a D.length c := h.list.1

set_option maxRecDepth 100000 in
set_option maxHeartbeats 1600000 in
theorem rn_last {w0 w : World} {d : RnA} {sv : Value} {PL : List Pl} {p q k : Nat} (h : RnM w0 d sv PL p q w) (hk : PL.length = k + 1) (hl : k ≤ 10000) {s : Nat} {dv : Value} (hs : (PL.getD k noPl).1 = s) (hd : (PL.getD k noPl).2.1 = dv) :
    Calls Try.prog 19 #[.pointer (some ⟨d.ra, 0, none⟩)] w fun e w' => e = .returned (.agg #[.int .i64 s, dv]) ∧ Below w.heap.size w w' := by
  obtain ⟨g, cap, hsv, hg, _⟩ := h.form (by omega)
  obtain ⟨c0, c1⟩ := h.place hsv (i := k) (by omega)
  have hdv := (h.derAt (i := k) (by omega)).slice
  rw [hd] at hdv c1
  obtain ⟨dn, hdn⟩ : ∃ n, (PL.getD k noPl).2.2.length = n := ⟨_, rfl⟩
  rw [hdn] at hdv
  obtain ⟨da, dc, rfl⟩ := hdv
  rw [hs] at c0
  have c8 := (h.cell (i := 8) rfl).1
  rw [hsv, hk] at c8
  have hra := h.lt.1
  have a8 : (w.alloc (.cells #[.int .i64 0, .slice none 0 0] 39)).cell? ⟨d.ra, 8, none⟩ = _ := (World.cell?_alloc_past _ _ _ hra).trans c8
  have a0 : (w.alloc (.cells #[.int .i64 0, .slice none 0 0] 39)).cell? ⟨g, k * 2, none⟩ = _ := (World.cell?_alloc_past _ _ _ hg).trans c0
  have a1 : (w.alloc (.cells #[.int .i64 0, .slice none 0 0] 39)).cell? ⟨g, k * 2 + 1, none⟩ = _ := (World.cell?_alloc_past _ _ _ hg).trans c1
  have i0 : (0 : Int) ≤ (k : Int) := Int.natCast_nonneg _
  have i1 : (k : Int) < (k : Int) + 1 := by omega
  have hwk : IntKind.i64.wrap (k : Int) = (k : Int) := IntWalk.i64_in _ (by omega)
  obtain ⟨rb, hrb⟩ : ∃ rb, d.ra = rb := ⟨_, rfl⟩
  rw [hrb] at a8 ⊢
  clear h hk hs hd hsv c0 c1 c8 hra hdn hg hrb
  go_enter Try.func19, Try.ntmps19
  go_wp2_with fail
  refine wp_region_tail 12 (by kernel_rfl) (by kernel_rfl) ?_
  simp only [List.take_succ_cons, List.take_zero, List.drop_succ_cons, List.drop_zero]
  repeat still_step
  refine wpStill_nil ?_
  go_wp2_with fail
  refine bodyPost_ret (v := .agg #[.int .i64 s, .slice da dn dc]) (by simp [results, Try.results19, go_sem]) rfl ⟨rfl, ?_⟩
  exact ((Below.refl _ _).alloc (Nat.le_refl _) _).drew

set_option maxRecDepth 100000 in
set_option maxHeartbeats 1600000 in
theorem rn_shift {w0 w : World} {d : RnA} {sv : Value} {PL : List Pl} {p q : Nat} (h : RnM w0 d sv PL p q w) (hn : 0 < PL.length) (hl : PL.length ≤ 10000) (hp : p ≤ 10000) (s : Nat) :
    Calls Try.prog 20 #[.pointer (some ⟨d.ra, 0, none⟩), .int .i64 s] w fun e w' => e = .returned (.tuple #[]) ∧ ∃ sv', RnM w0 d sv' (PL ++ [(s, .slice none 0 0, [])]) (p + 1) q w' := by
  obtain ⟨g, cap, hsv, hg, _⟩ := h.form hn
  subst hsv
  obtain ⟨n, hn'⟩ : ∃ n, PL.length = n := ⟨_, rfl⟩
  rw [hn'] at h hl hn
  have h4 := h.alloc (.cells #[.int .i64 s, .slice none 0 0] 39)
  have own4 := h4.stack
  rw [hn'] at own4
  have c8 := (h.cell (i := 8) rfl).1
  have c8f := (h4.cell (i := 8) rfl).2
  have c8' := (h4.cell (i := 8) rfl).1
  have c6' := (h4.cell (i := 6) rfl).1
  have c6f := (h4.cell (i := 6) rfl).2
  have hra := h4.lt.1
  have hne : some d.ra ≠ (Value.slice (some ⟨g, 0, none⟩) n cap).ownBlock := fun e => h4.apart e.symm
  have hn1 : n + 1 ≤ maxLen := by unfold maxLen; omega
  have hn2 : (n + 1) * 32 ≤ 140737488355328 := by omega
  have hB4 : w0.heap.size ≤ (w.alloc (.cells #[.int .i64 s, .slice none 0 0] 39)).heap.size := h4.le
  obtain ⟨i0, hi0, hz0, hz1, hz2⟩ := info_parts Try.infoPl
  have H4 : Hid (RnM w0 d (.slice (some ⟨g, 0, none⟩) n cap) PL p q (w.alloc (.cells #[.int .i64 s, .slice none 0 0] 39))) := h4
  have HN : Hid (PL.length = n) := hn'
  clear h h4 hn'
  go_enter Try.func20, Try.ntmps20
  go_wp2_with
    (at_builtin
     refine wpList_append_lies _ rfl _ _ _ rfl w0.heap.size 39 i0 _ 2 32 Try.underlying40 hi0 hz0 hz1 hz2 rfl (by omega) (.slice (some ⟨g, 0, none⟩) n cap) n (flatPl PL) rfl own4 ⟨w.heap.size, 0, none⟩ 1 1 [.int .i64 s, .slice none 0 0] rfl rfl (World.news_of_block (cs := #[.int .i64 s, .slice none 0 0]) (t := 39) (fr := (0, 0)) (heap_alloc_new w _)) (by simp [Value.oneCell']) (by omega) hn1 hn2 hB4 (w.heap.size + 1) (by simp) ?_
     intro g6 cap6 w6 hown6 hgrow6 hat6 hlt6
     have d8 := (hgrow6.cell_far ⟨d.ra, 8, none⟩ hra hne).trans c8'
     have d8f := (hgrow6.frozen_far ⟨d.ra, 8, none⟩ hra hne).trans c8f
     have d6 := (hgrow6.cell_far ⟨d.ra, 6, none⟩ hra hne).trans c6'
     have d6f := (hgrow6.frozen_far ⟨d.ra, 6, none⟩ hra hne).trans c6f)
  go_end0
  refine ⟨rfl, .slice (some ⟨g6, 0, none⟩) (n + 1) cap6, ?_⟩
  have r := H4.out.turn (sv' := .slice (some ⟨g6, 0, none⟩) (n + 1) cap6) (PL' := PL ++ [(s, .slice none 0 0, [])]) hgrow6 (by simpa [HN.out, flatPl, plV] using hown6) (fun g' hg' => by
      obtain rfl : g6 = g' := by simpa [Value.ownBlock] using hg'
      rcases hat6 with h5 | h5
      · exact .inl h5
      · exact .inr (by simpa using h5)) (fun x hx => by
      rcases List.mem_append.1 hx with hx | hx
      · exact H4.out.der x hx
      · simp only [List.mem_singleton] at hx
        subst hx
        exact .inl ⟨rfl, rfl⟩)
  exact r.setRead (p + 1)

end Go.Proofs.Ytgcpllnjdnahjaa

/- The contract of package parse's cell. -/
namespace Go.Proofs.Ytgcpllnjdnahjaa
open Go.RowKit

set_option maxRecDepth 100000 in
set_option maxHeartbeats 3200000 in
theorem rn_cell {w0 w : World} {d : RnA} {sv : Value} {PL : List Pl} {p q k tp nt : Nat} {R : List Ru} {tok : List Int} {C : List (List Ce)} {G : List (List Int)} (h : RnM w0 d sv PL p q w) (E : RnE w0 d R tok C G) (hk : PL.length = k + 1) (hl : k ≤ 10000) (hs : (PL.getD k noPl).1 = tp) (htp : tp < C.length) (hnt : nt < (C.getD tp []).length)
    (hlt : p < tok.length → tok.getD p 0 = (nt : Int)) (hge : ¬ p < tok.length → d.T = nt) {sh : Int} {Ru' : List Int} {en : Bool} (hce : (C.getD tp []).getD nt (0, [], false) = (sh, Ru', en)) :
    Calls Try.prog 18 #[.pointer (some ⟨d.ra, 0, none⟩)] w fun e w' => ∃ rl, e = .returned (.agg #[.int .i64 sh, rl, .bool en]) ∧ ListAt w' w'.heap.size rl Ru' ∧ Below w.heap.size w w' := by
  have hR := h.alloc (.cells #[.int .i64 0, .slice none 0 0, .bool false] 50)
  obtain ⟨W1, hW1⟩ : ∃ W, w.alloc (.cells #[.int .i64 0, .slice none 0 0, .bool false] 50) = W := ⟨_, rfl⟩
  have hB1 : Below w.heap.size w W1 := by rw [← hW1]; exact (Below.refl _ _).alloc (Nat.le_refl _) _
  have r0 : W1.cell? ⟨w.heap.size, 0, none⟩ = some (.int .i64 0) := by rw [← hW1]; simp [go_sem]
  have r1 : W1.cell? ⟨w.heap.size, 1, none⟩ = some (.slice none 0 0) := by rw [← hW1]; simp [go_sem]
  have r2 : W1.cell? ⟨w.heap.size, 2, none⟩ = some (.bool false) := by rw [← hW1]; simp [go_sem]
  have rf : ∀ o, W1.frozen? ⟨w.heap.size, o, none⟩ = false := fun o => by rw [← hW1]; simp [go_sem]
  have hs1 : W1.heap.size = w.heap.size + 1 := by rw [← hW1]; simp
  rw [hW1] at hR
  have HB1 : Hid (Below w.heap.size w W1) := hB1
  have HZ : Hid (Below w0.heap.size w0 w) := h.since
  have HM : Hid (RnM w0 d sv PL p q W1) := hR
  have HE : Hid (RnE w0 d R tok C G) := E
  obtain ⟨ta, tc, htv⟩ := E.toks.1
  obtain ⟨ca, cc, hcv⟩ := E.tab.cells.1
  have c0 := (hR.cell (i := 0) rfl).1
  have c3 := (hR.cell (i := 3) rfl).1
  have c5 := (hR.cell (i := 5) rfl).1
  have c6 := (hR.cell (i := 6) rfl).1
  rw [htv] at c5
  rw [hcv] at c3
  have HTv : Hid (d.tv = .slice ta tok.length tc) := htv
  have HCv : Hid (d.cv = .slice ca C.length cc) := hcv
  have HNt : Hid (nt < (C.getD tp []).length) := hnt
  have HCe : Hid ((C.getD tp []).getD nt (0, [], false) = (sh, Ru', en)) := hce
  have HLt : Hid (p < tok.length → tok.getD p 0 = (nt : Int)) := hlt
  obtain ⟨x3, hx3⟩ : ∃ x, (PL.getD k noPl).2.1 = x := ⟨_, rfl⟩
  have HLast : Hid (∀ wq, Below W1.heap.size W1 wq → Calls Try.prog 19 #[.pointer (some ⟨d.ra, 0, none⟩)] wq fun e w' => e = .returned (.agg #[.int .i64 tp, x3]) ∧ Below wq.heap.size wq w') := fun wq hq => rn_last (hR.below hq) hk hl hs hx3
  have HX3 : Hid (∃ a n c, x3 = .slice a n c) := by
    obtain ⟨a, c, e⟩ := (hR.derAt (i := k) (by omega)).slice
    exact ⟨a, _, c, by rw [← hx3, e]⟩
  clear h E hk hs hR htv hcv hnt hce hlt hx3 hB1
  obtain ⟨rb, hrb⟩ : ∃ rb, d.ra = rb := ⟨_, rfl⟩
  rw [hrb] at c0 c3 c5 c6 HLast ⊢
  obtain ⟨dT, hdT⟩ : ∃ x, d.T = x := ⟨_, rfl⟩
  rw [hdT] at c0 hge
  clear hrb hdT
  go_enter Try.func18, Try.ntmps18
  go_upto_region 2 with fail
  clear hW1
  have p0 : (0 : Int) ≤ (p : Int) := Int.natCast_nonneg _
  by_cases hpt : p < tok.length
  case' pos =>
    obtain ⟨tb', to', tc', hte, _, x1⟩ := (HE.out.toks.below HM.out.since).2 p hpt
    rw [HTv.out] at hte
    injection hte with h5 _ h6
    subst h5
    subst h6
    rw [HLt.out hpt] at x1
    have p1 : (p : Int) < (tok.length : Int) := by omega
    go_big_quiet (fail)
    generalize nq = q1
    go_wp2_with fail
    go_big_quiet (fail)
    go_wp2_with fail
    obtain ⟨W2, hW2⟩ : ∃ W, (W1.drewN q1).drewN nq = W := ⟨_, rfl⟩
    have hB2 : Below W1.heap.size W1 W2.drew := by rw [← hW2]; exact (below_drewN (below_drewN (Below.refl _ _) _) _).drew
    rw [hW2]
    clear x1 p1
  case' neg =>
    have p1 : decide ((p : Int) < (tok.length : Int)) = false := decide_eq_false (by omega)
    have hTn := (hge hpt).symm
    subst hTn
    go_big_quiet (fail)
    go_wp2_with fail
    obtain ⟨W2, hW2⟩ : ∃ W, W1.drewN nq = W := ⟨_, rfl⟩
    have hB2 : Below W1.heap.size W1 W2.drew := by rw [← hW2]; exact (below_drewN (Below.refl _ _) _).drew
    rw [hW2]
    clear p1
  all_goals
    clear hW2
    obtain ⟨cb, co, cc', rk, hcv, k1, hrow⟩ := HE.out.tab.cells.2 tp htp
    rw [HCv.out] at hcv
    injection hcv with hca _ hcc
    subst hca
    subst hcc
    obtain ⟨rb2, ro2, rc2, rl, hrk, k2, k3, k4, k5⟩ := hrow.2 nt HNt.out
    rw [HCe.out] at k2 k4 k5
    simp only at k2 k4 k5
    obtain ⟨ua, uc, hrl⟩ := k4.1
    have hn1 := HNt.out
    obtain ⟨m2, hm2⟩ : ∃ m2, Ru'.length = m2 := ⟨_, rfl⟩
    obtain ⟨rn, hrn⟩ : ∃ x, (C.getD tp []).length = x := ⟨_, rfl⟩
    rw [hm2] at hrl
    rw [hrn] at hrk hn1
    subst hrl
    subst hrk
    obtain ⟨xa, xn, xc, rfl⟩ := HX3.out
    have HK4 : Hid (ListAt w0 w0.heap.size (.slice ua m2 uc) Ru') := k4
    have HB2 : Hid (Below W1.heap.size W1 W2.drew) := hB2
    have la := HLast.out W2.drew hB2
    have c3' : W2.drew.cell? ⟨rb, 3, none⟩ = some (.slice (some ⟨cb, co, none⟩) C.length cc) := (hB2.cell (World.block_lt_of_cell? _ _ c3)).trans c3
    have HRest : Hid (∀ wq, Below W2.drew.heap.size W2.drew wq → wq.cell? ⟨rb, 3, none⟩ = some (.slice (some ⟨cb, co, none⟩) C.length cc) ∧ wq.cell? ⟨cb, co + tp, none⟩ = some (.slice (some ⟨rb2, ro2, none⟩) rn rc2) ∧ wq.cell? ⟨rb2, ro2 + nt * 3, none⟩ = some (.int .i64 sh) ∧ wq.cell? ⟨rb2, ro2 + nt * 3 + 1, none⟩ = some (.slice ua m2 uc) ∧ wq.cell? ⟨rb2, ro2 + nt * 3 + 2, none⟩ = some (.bool en) ∧
        wq.cell? ⟨w.heap.size, 0, none⟩ = some (.int .i64 0) ∧ wq.cell? ⟨w.heap.size, 1, none⟩ = some (.slice none 0 0) ∧ wq.cell? ⟨w.heap.size, 2, none⟩ = some (.bool false) ∧ (∀ o, wq.frozen? ⟨w.heap.size, o, none⟩ = false) ∧ w.heap.size < wq.heap.size) := fun wq hq => by
      have hb : Below W1.heap.size W1 wq := HB2.out.trans (hq.mono HB2.out.size)
      have hz : Below w0.heap.size w0 wq := HM.out.since.trans (hb.mono HM.out.le)
      exact ⟨(hq.cell (World.block_lt_of_cell? _ _ c3')).trans c3', (hz.cell (World.block_lt_of_cell? _ _ k1)).trans k1, (hz.cell (World.block_lt_of_cell? _ _ k2)).trans k2, (hz.cell (World.block_lt_of_cell? _ _ k3)).trans k3, (hz.cell (World.block_lt_of_cell? _ _ k5)).trans k5,
        (hb.cell (by simp only; omega)).trans r0, (hb.cell (by simp only; omega)).trans r1, (hb.cell (by simp only; omega)).trans r2, fun o => (hb.frozen (by simp only; omega)).trans (rf o), by have := hb.size; omega⟩
    have j0 : (0 : Int) ≤ (tp : Int) := Int.natCast_nonneg _
    have j1 : (tp : Int) < (C.length : Int) := by omega
    have l0 : (0 : Int) ≤ (nt : Int) := Int.natCast_nonneg _
    have l1 : (nt : Int) < (rn : Int) := by omega
    clear hB2 k1 k2 k3 k4 k5 hrow hm2 hrn hn1 c0 c3 c5 c6 r0 r1 r2 rf
    refine wp_region_held_seq [0, 1, 2, 3, 4, 5, 10] [6, 7, 8, 9, 11, 12, 13] 13 (fun w' => w'.cell? ⟨rb, 3, none⟩ = some (.slice (some ⟨cb, co, none⟩) C.length cc)) (by kernel_rfl) (by kernel_rfl) c3' ?_
    iterate 7
      refine StillI.conL (v := ?_) rfl (by rfl) ?_ ?_
      rotate_left
      · intro w' hSw
        go_simp
        try with_reducible rfl
      simp only [Act.put, List.setIfInBounds_toArray, List.set_cons_zero, List.set_cons_succ]
    rw [StillI]
    refine TailI.conL rfl (fun K hK => ?_)
    go_simp
    refine la.mono ?_
    rintro e w5 ⟨rfl, hB5⟩
    dsimp only
    have HB5 : Hid (Below W2.drew.heap.size W2.drew w5) := hB5
    obtain ⟨m3, m4, m5, m6, m7, m8, m9, m10, m11, m12⟩ := HRest.out w5 hB5
    have f0 := m11 0
    have f1 := m11 1
    have f2 := m11 2
    refine hK.out _ _ (fun _ => m3) ?_
    clear hK la hB5 c3' m11
    refine TailI.conL rfl (fun K hK => ?_)
    go_simp
    refine hK.out _ _ (fun _ => m3) ?_
    clear hK
    refine TailI.conL rfl (fun K hK => ?_)
    go_simp
    refine hK.out _ _ (fun _ => m3) ?_
    clear hK
    refine TailI.conL rfl (fun K hK => ?_)
    go_simp
    refine hK.out _ _ (fun _ => m3) ?_
    clear hK
    refine TailI.conL rfl (fun K hK => ?_)
    go_simp
    refine hK.out _ _ (fun _ => m3) ?_
    clear hK
    refine TailI.conL rfl (fun K hK => ?_)
    go_simp
    refine hK.out _ _ (fun _ => m3) ?_
    clear hK
    refine TailI.conL rfl (fun K hK => ?_)
    go_simp
    refine hK.out _ _ (fun h => absurd h (by omega)) ?_
    clear hK
    rw [TailI]
    refine NoPanic.normal ?_
    have HBf : Hid (Below w.heap.size w (((w5.setCell ⟨w.heap.size, 0, none⟩ (.int .i64 sh)).setCell ⟨w.heap.size, 1, none⟩ (.slice ua m2 uc)).setCell ⟨w.heap.size, 2, none⟩ (.bool en))) :=
      ((((HB1.out.trans (HB2.out.mono (by omega))).trans (HB5.out.mono (by have := HB2.out.size; omega))).setCell (by simp) _).setCell (by simp) _).setCell (by simp) _
    go_wp2_with fail
    refine bodyPost_ret (v := .agg #[.int .i64 sh, .slice ua m2 uc, .bool en]) (by simp [results, Try.results18, go_sem, m8, m9, m10]) rfl ⟨_, rfl, ?_, HBf.out⟩
    have hz := HZ.out.trans (HBf.out.mono HZ.out.size)
    exact (HK4.out.below hz).mono hz.size

end Go.Proofs.Ytgcpllnjdnahjaa

/- The contract of package parse's reduce. -/
namespace Go.Proofs.Ytgcpllnjdnahjaa
open Go.RowKit

/-- x[f:] of places. -/
theorem pl_from {la : Option Addr} {f n sl lc : Nat} (hs : sl = f + n) : ∃ A, (∀ w : World, Sem.run Try.prog (Instr.sliceAt 40 (.slice la sl lc) (some (.int .i64 f)) none none) w = .ok (.slice A n (lc - f)) w) ∧ (lc ≠ f → A = la.map (·.add (f * 2))) := by
  have h0 : (0 : Int) ≤ (f : Int) := Int.natCast_nonneg _
  have h1 : (f : Int) ≤ (sl : Int) := by omega
  have h2 : sl - f = n := by omega
  refine ⟨if lc = f then la else la.map (·.add (f * 2)), fun w => ?_, fun h => by rw [if_neg h]⟩
  go_simp
  intro h
  omega

/-- x[:f] of places. -/
theorem pl_upto {g f sl lc : Nat} (hu : f ≤ lc) (w : World) : Sem.run Try.prog (Instr.sliceAt 40 (.slice (some ⟨g, 0, none⟩) sl lc) none (some (.int .i64 f)) none) w = .ok (.slice (some ⟨g, 0, none⟩) f lc) w := by
  have h0 : (0 : Int) ≤ (f : Int) := Int.natCast_nonneg _
  have h1 : (f : Int) ≤ (lc : Int) := by omega
  go_simp

/-- What is put behind the rule so far. -/
def derP (m : Int) (PL : List Pl) (f i : Nat) : List Int := m :: (((PL.drop f).take i).map fun x => x.2.2).flatten
theorem derP_succ {m : Int} {PL : List Pl} {f i : Nat} (h : f + i < PL.length) : derP m PL f (i + 1) = derP m PL f i ++ (PL.getD (f + i) noPl).2.2 := by
  unfold derP
  have hi : i < (PL.drop f).length := by rw [List.length_drop]; omega
  rw [List.take_succ_eq_append_getElem hi, List.map_append, List.flatten_append]
  have e : (PL.drop f)[i] = PL.getD (f + i) noPl := by simp [List.getD, h]
  rw [e]
  simp
theorem derP_le {m : Int} {PL : List Pl} {f i : Nat} {c : Nat} (h : ((PL.map fun x => x.2.2).map List.length).sum ≤ c) : (derP m PL f i).length ≤ c + 1 := by
  unfold derP
  rw [List.length_cons, List.length_flatten]
  have e : ((((PL.drop f).take i).map fun x => x.2.2).map List.length).sum ≤ ((PL.map fun x => x.2.2).map List.length).sum := by
    have h1 : ((PL.map fun x => x.2.2).map List.length).sum = (((PL.take f).map fun x => x.2.2).map List.length).sum + (((PL.drop f).map fun x => x.2.2).map List.length).sum := by
      rw [← List.sum_append, ← List.map_append, ← List.map_append, List.take_append_drop]
    have h2 : (((PL.drop f).map fun x => x.2.2).map List.length).sum = ((((PL.drop f).take i).map fun x => x.2.2).map List.length).sum + ((((PL.drop f).drop i).map fun x => x.2.2).map List.length).sum := by
      rw [← List.sum_append, ← List.map_append, ← List.map_append, List.take_append_drop]
    omega
  omega

set_option maxRecDepth 100000 in
set_option maxHeartbeats 6400000 in
theorem rn_reduce {w0 w : World} {d : RnA} {sv : Value} {PL : List Pl} {p q : Nat} {R : List Ru} {tok : List Int} {C : List (List Ce)} {G : List (List Int)} (h : RnM w0 d sv PL p q w) (E : RnE w0 d R tok C G) {m kp rl Lf qs gg : Nat} (hm : m < R.length) (hL : (R.getD m (0, [])).1 = (Lf : Int)) (hrl : (R.getD m (0, [])).2.length = rl) (hPL : PL.length = kp + 1 + rl) (hl : PL.length ≤ 10000) (hq : q ≤ 10000) (hsum : ((PL.map fun x => x.2.2).map List.length).sum ≤ 10000)
    (hqs : (PL.getD kp noPl).1 = qs) (hqG : qs < G.length) (hLG : Lf < (G.getD qs []).length) (hgg : (G.getD qs []).getD Lf 0 = (gg : Int)) :
    Calls Try.prog 21 #[.pointer (some ⟨d.ra, 0, none⟩), .int .i64 m] w fun e w' => e = .returned (.tuple #[]) ∧ ∃ sv' dv, RnM w0 d sv' (PL.take (kp + 1) ++ [(gg, dv, (m : Int) :: ((PL.drop (kp + 1)).map fun x => x.2.2).flatten)]) p (q + 1) w' := by
  obtain ⟨g, cap, hsv, hg, hcap⟩ := h.form (by omega)
  obtain ⟨sl, hsl⟩ : ∃ n, PL.length = n := ⟨_, rfl⟩
  rw [hsl] at hsv hcap hl
  subst hsv
  obtain ⟨f, hf⟩ : ∃ f, kp + 1 = f := ⟨_, rfl⟩
  have hslf : sl = f + rl := by omega
  obtain ⟨rb, ro, rc, qa, qc, hrv, hrb, z1, z2, hqc, _⟩ := (E.rules.below h.since).2 m hm
  obtain ⟨ru, hrue⟩ : ∃ x, R.getD m (0, []) = x := ⟨_, rfl⟩
  rw [hL] at z1
  rw [hrl] at z2
  rw [← Nat.add_assoc] at z2
  have c2 := (h.cell (i := 2) rfl).1
  rw [hrv] at c2
  have v0 : (0 : Int) ≤ (m : Int) := Int.natCast_nonneg _
  have v1 : (m : Int) < (R.length : Int) := by omega
  have hfr : IntKind.i64.wrap ((sl : Int) - (rl : Int)) = (f : Int) := by rw [IntWalk.i64_in _ (by omega)]; omega
  have HM : Hid (RnM w0 d (.slice (some ⟨g, 0, none⟩) sl cap) PL p q w) := h
  have HE : Hid (RnE w0 d R tok C G) := E
  have HRv : Hid (d.rv = .slice (some ⟨rb, ro, none⟩) R.length rc) := hrv
  have HSl : Hid (PL.length = sl) := hsl
  have HF : Hid (kp + 1 = f) := hf
  have HSum : Hid (((PL.map fun x => x.2.2).map List.length).sum ≤ 10000) := hsum
  have HQs : Hid ((PL.getD kp noPl).1 = qs) := hqs
  have HGG : Hid (qs < G.length ∧ Lf < (G.getD qs []).length ∧ (G.getD qs []).getD Lf 0 = (gg : Int)) := ⟨hqG, hLG, hgg⟩
  have HSF : Hid (sl = f + rl) := hslf
  have hrl10 : rl ≤ 10000 := by omega
  have c8 := (h.cell (i := 8) rfl).1
  have hra := h.lt.1
  have hB0 : w.heap.size ≤ w.heap.size := Nat.le_refl _
  obtain ⟨rnb, hrnb⟩ : ∃ x, d.ra = x := ⟨_, rfl⟩
  have HRa : Hid (d.ra = rnb) := hrnb
  rw [hrnb] at c2 c8 hra ⊢
  clear h E hrv hsl hf hsum hqs hqG hLG hgg hslf hrue hL hrl hPL hrnb hm hrb hqc
  go_enter Try.func21, Try.ntmps21
  go_upto_region 1 with fail
  obtain ⟨W1, hW1⟩ : ∃ W, w.alloc (.cells #[.int .i64 Lf, .slice qa rl qc] 57) = W := ⟨_, rfl⟩
  have hM1 := HM.out.alloc (.cells #[.int .i64 Lf, .slice qa rl qc] 57)
  have b0 : W1.cell? ⟨w.heap.size, 0, none⟩ = some (.int .i64 Lf) := by rw [← hW1]; simp [go_sem]
  have b1 : W1.cell? ⟨w.heap.size, 1, none⟩ = some (.slice qa rl qc) := by rw [← hW1]; simp [go_sem]
  rw [hW1] at hM1 ⊢
  have c8' := (hM1.cell (i := 8) rfl).1
  rw [HRa.out] at c8'
  have HM1 : Hid (RnM w0 d (.slice (some ⟨g, 0, none⟩) sl cap) PL p q W1) := hM1
  clear hW1 hM1 c2 c8 z1 z2 v0 v1
  go_big_quiet (fail)
  obtain ⟨W2, hW2⟩ : ∃ W, W1.drewN nq = W := ⟨_, rfl⟩
  have hB2 : Below W1.heap.size W1 W2 := by rw [← hW2]; exact below_drewN (Below.refl _ _) _
  rw [hW2]
  have HM2 : Hid (RnM w0 d (.slice (some ⟨g, 0, none⟩) sl cap) PL p q W2) := HM1.out.below hB2
  have e0 := (hB2.cell (World.block_lt_of_cell? _ _ b0)).trans b0
  have HE0 : Hid (W2.cell? ⟨w.heap.size, 0, none⟩ = some (.int .i64 Lf)) := e0
  have c8 : (W2.alloc (.cells #[.int .i64 m] 3)).cell? ⟨rnb, 8, none⟩ = some (.slice (some ⟨g, 0, none⟩) sl cap) := by
    have := ((HM2.out.alloc (.cells #[.int .i64 m] 3)).cell (i := 8) rfl).1
    rw [HRa.out] at this
    exact this
  obtain ⟨A, hA, hA'⟩ := pl_from (la := some ⟨g, 0, none⟩) (lc := cap) HSF.out
  have HA' : Hid (cap ≠ f → A = (some (⟨g, 0, none⟩ : Addr)).map (·.add (f * 2))) := hA'
  have HO0 : Hid ((W2.alloc (.cells #[.int .i64 m] 3)).ownsRow W2.heap.size 3 1 (.slice (some ⟨W2.heap.size, 0, none⟩) 1 1) 1 [.int .i64 m]) := by
    have := World.ownsRow_lit (base := W2.heap.size) (e := 3) (size := 1) W2 #[.int .i64 m] 1 (Nat.le_refl _) (by unfold maxLen; omega) rfl
    exact this
  clear hW2 hB2 b0 b1 c8' hA' e0 HM1
  go_wp2_with fail
  clear c8 hA hfr
  go_loopw [6, 36] (fun s6 s36 wr => ∃ (i gd cd : Nat), s6 = .slice (some ⟨gd, 0, none⟩) (derP m PL f i).length cd ∧ s36 = .int .i64 i ∧ i ≤ rl ∧ wr.ownsRow W2.heap.size 3 1 (.slice (some ⟨gd, 0, none⟩) (derP m PL f i).length cd) (derP m PL f i).length ((derP m PL f i).map (Value.int .i64)) ∧ Below W2.heap.size W2 wr) (fun _ s _ => rl - (intOf s).toNat)
  case atStart => exact ⟨0, W2.heap.size, 1, rfl, rfl, Nat.zero_le _, HO0.out, (Below.refl _ _).alloc (Nat.le_refl _) _⟩
  case round =>
    clear HO0
    obtain ⟨i, gd, cd, rfl, rfl, hi, hown, hB⟩ := hrel
    have HB : Hid (Below W2.heap.size W2 wr) := hB
    obtain ⟨dl, hdl⟩ : ∃ n, (derP m PL f i).length = n := ⟨_, rfl⟩
    rw [hdl] at hown ⊢
    have hdl1 : dl ≤ 10001 := by rw [← hdl]; exact derP_le HSum.out
    have HDl : Hid ((derP m PL f i).length = dl) := hdl
    have HOw : Hid (wr.ownsRow W2.heap.size 3 1 (.slice (some ⟨gd, 0, none⟩) dl cd) dl ((derP m PL f i).map (Value.int .i64))) := hown
    have hMr := HM2.out.below hB
    have HMr : Hid (RnM w0 d (.slice (some ⟨g, 0, none⟩) sl cap) PL p q wr) := hMr
    clear hB hown hdl
    by_cases hlt : i < rl
    · have hcf : cap ≠ f := by have := HSF.out; omega
      have hAe := HA'.out hcf
      simp only [Option.map_some, Addr.add_lit, Nat.zero_add] at hAe
      subst hAe
      have hfi : f + i < PL.length := by rw [HSl.out, HSF.out]; omega
      obtain ⟨c0, c1⟩ := hMr.place (by rw [HSl.out]) (i := f + i) hfi
      have hdv := hMr.derAt (i := f + i) hfi
      have hsu := derP_succ (m := (m : Int)) hfi
      have hle := derP_le (m := (m : Int)) (f := f) (i := i + 1) HSum.out
      obtain ⟨⟨s, dv, D⟩, hpl⟩ : ∃ x, PL.getD (f + i) noPl = x := ⟨_, rfl⟩
      rw [hpl] at c0 c1 hdv hsu
      simp only at c0 c1 hdv hsu
      rw [Nat.add_mul] at c0 c1
      have HSu : Hid (derP m PL f (i + 1) = derP m PL f i ++ D) := hsu
      have hDl : dl + D.length ≤ 10001 := by rw [hsu, List.length_append, HDl.out] at hle; exact hle
      have i0 : (0 : Int) ≤ (i : Int) := Int.natCast_nonneg _
      have i1 : (i : Int) < (rl : Int) := by omega
      obtain ⟨i0', hi0, hz0, hz1, hz2⟩ := info_parts Try.infoInt
      clear hMr hpl hsu hle
      rcases hdv with ⟨rfl, rfl⟩ | ⟨hD0, b, c, rfl, _, hbl, hcl⟩
      · have own5 := HOw.out.alloc (.cells #[.int .i64 s, .slice none 0 0] 39)
        have HB5 : Hid (Below W2.heap.size W2 (wr.alloc (.cells #[.int .i64 s, .slice none 0 0] 39))) := HB.out.alloc HB.out.size _
        go_wp2_with
          (at_builtin
           refine wpList_append_own_none rfl _ _ _ rfl W2.heap.size 3 i0' 1 Try.underlying25 hi0 (.slice (some ⟨gd, 0, none⟩) dl cd) dl ((derP m PL f i).map (Value.int .i64)) rfl own5 rfl ?_)
        go_roundw
        case rel =>
          have e := HSu.out
          rw [List.append_nil] at e
          exact ⟨i + 1, gd, cd, by rw [e, HDl.out], by go_num, by omega, by rw [e, HDl.out]; exact own5, HB5.out⟩
        case measure => simp [intOf]; omega
      · have own5 := HOw.out.alloc (.cells #[.int .i64 s, .slice (some ⟨b, 0, none⟩) D.length c] 39)
        have hB5 : Below W2.heap.size W2 (wr.alloc (.cells #[.int .i64 s, .slice (some ⟨b, 0, none⟩) D.length c] 39)) := HB.out.alloc HB.out.size _
        have HB5 : Hid (Below W2.heap.size W2 (wr.alloc (.cells #[.int .i64 s, .slice (some ⟨b, 0, none⟩) D.length c] 39))) := hB5
        have hsz5 := hB5.size
        have hnw : ∀ j u, (D.map (Value.int .i64))[j]? = some u → (wr.alloc (.cells #[.int .i64 s, .slice (some ⟨b, 0, none⟩) D.length c] 39)).cell? ((⟨b, 0, none⟩ : Addr).add j) = some u := fun j u hj => by
          have hjl := (List.getElem?_eq_some_iff.1 hj).1
          simp only [List.length_map] at hjl
          rw [Addr.add_lit, Nat.zero_add, World.cell?_alloc_past _ _ _ hbl, hcl j hjl, ← hj]
          simp [List.getD, hjl]
        have hone : ∀ u ∈ D.map (Value.int .i64), u.oneCell' = true := fun u hu => by
          obtain ⟨n, _, rfl⟩ := List.mem_map.1 hu
          rfl
        have n1 : dl + D.length ≤ maxLen := by unfold maxLen; omega
        have n2 : (dl + D.length) * 8 ≤ 140737488355328 := by omega
        have nl : (D.map (Value.int .i64)).length = D.length * 1 := by simp
        clear hB5 hcl
        go_wp2_with
          (at_builtin
           refine wpList_append_lies _ rfl _ _ _ rfl W2.heap.size 3 i0' _ 1 8 Try.underlying25 hi0 hz0 hz1 hz2 rfl (by omega) (.slice (some ⟨gd, 0, none⟩) dl cd) dl ((derP m PL f i).map (Value.int .i64)) rfl own5 ⟨b, 0, none⟩ D.length c (D.map (Value.int .i64)) rfl nl hnw hone hD0 n1 n2 hsz5 (wr.heap.size + 1) (by simp) ?_
           intro g6 cap6 w6 hown6 hgrow6 hat6 hlt6)
        go_roundw
        case rel =>
          refine ⟨i + 1, g6, cap6, by rw [HSu.out, List.length_append, HDl.out], by go_num, by omega, by rw [HSu.out, List.length_append, HDl.out, List.map_append]; exact hown6, HB5.out.grown hgrow6 HB5.out.size fun k hk => (own5.lt k hk).1⟩
        case measure => simp [intOf]; omega
    · obtain rfl : i = rl := by omega
      have HDe : Hid (derP m PL f i = (m : Int) :: ((PL.drop f).map fun x => x.2.2).flatten) := by
        show derP m PL f i = _
        unfold derP
        rw [List.take_of_length_le (by rw [List.length_drop, HSl.out, HSF.out]; omega)]
      have hul : f ≤ cap := by have := HSF.out; omega
      have c8 := (hMr.cell (i := 8) rfl).1
      have c8f := (hMr.cell (i := 8) rfl).2
      rw [HRa.out] at c8 c8f
      have hup := fun w => pl_upto (g := g) (sl := sl) hul w
      have hMc := hMr.cut (g := g) (cap := cap) (n := f) (by rw [HSl.out]) (by rw [HSl.out, HSF.out]; omega)
      rw [HRa.out] at hMc
      have HMc : Hid (RnM w0 d (.slice (some ⟨g, 0, none⟩) f cap) (PL.take f) p q (wr.setCell ⟨rnb, 8, none⟩ (.slice (some ⟨g, 0, none⟩) f cap))) := hMc
      clear hMr hMc
      go_upto_region 9 with fail
      obtain ⟨W4, hW4⟩ : ∃ W, wr.setCell ⟨rnb, 8, none⟩ (.slice (some ⟨g, 0, none⟩) f cap) = W := ⟨_, rfl⟩
      have hsz4 : wr.heap.size = W4.heap.size := by rw [← hW4]; simp
      have hne8 : ∀ b, b ≠ rnb → W4.heap[b]? = wr.heap[b]? := fun b hb => by rw [← hW4]; exact Below.heap_setCell _ _ _ _ hb
      have HDv : Hid (DvAt W4 (fun b => W2.heap.size ≤ b) (.slice (some ⟨gd, 0, none⟩) dl cd) (derP m PL f i)) := by
        refine .inr ⟨by rw [HDe.out]; simp, gd, cd, by rw [HDl.out], (HOw.out.lt gd rfl).1, by rw [← hsz4]; exact (HOw.out.lt gd rfl).2, fun j hj => ?_⟩
        have hgr : gd ≠ rnb := fun e => by
          have h1 := (HOw.out.lt gd rfl).1
          have h2 := HM2.out.lt.1
          rw [HRa.out] at h2
          omega
        rw [World.cell?_of_block (w := wr) (a := ⟨gd, j, none⟩) (hne8 gd hgr), HOw.out.cellAt j (by rw [← HDl.out]; omega)]
        simp [List.getD, hj]
      rw [hW4] at HMc ⊢
      have HM4 : Hid (RnM w0 d (.slice (some ⟨g, 0, none⟩) f cap) (PL.take f) p q W4.drew) := HMc.out.drew
      have hbx : W4.drew.cell? ⟨w.heap.size, 0, none⟩ = some (.int .i64 Lf) := by
        have h1 := (HB.out.cell (World.block_lt_of_cell? _ _ HE0.out)).trans HE0.out
        have hgr : w.heap.size ≠ rnb := by omega
        exact (World.cell?_of_block (w := wr) (a := ⟨w.heap.size, 0, none⟩) (hne8 _ hgr)).trans h1
      have hl4 : (PL.take f).length = kp + 1 := by rw [List.length_take, HSl.out, HSF.out, ← HF.out]; omega
      have hq4 : ((PL.take f).getD kp noPl).1 = qs := by rw [← HQs.out]; simp [List.getD, ← HF.out]
      obtain ⟨xv, hxv⟩ : ∃ x, ((PL.take f).getD kp noPl).2.1 = x := ⟨_, rfl⟩
      have la := rn_last HM4.out hl4 (by have := HSF.out; have := HF.out; omega) hq4 hxv
      obtain ⟨xa, xn, xc, hxv'⟩ : ∃ a n c, xv = .slice a n c := by
        obtain ⟨a, c, e⟩ := (HM4.out.derAt (i := kp) (by rw [hl4]; omega)).slice
        exact ⟨a, _, c, by rw [← hxv, e]⟩
      subst hxv'
      rw [HRa.out] at la
      have c4 := (HM4.out.cell (i := 4) rfl).1
      rw [HRa.out] at c4
      obtain ⟨yb, yo, yc, rk, hyv, k1, hrow⟩ := HE.out.tab.goto.2 qs HGG.out.1
      obtain ⟨ub, uo, uc, hrk, _, k2⟩ := hrow.2 Lf HGG.out.2.1
      rw [HGG.out.2.2] at k2
      rw [hyv] at c4
      subst hrk
      obtain ⟨rn, hrn⟩ : ∃ x, (G.getD qs []).length = x := ⟨_, rfl⟩
      rw [hrn] at k1
      have HRest : Hid (∀ wq, Below W4.drew.heap.size W4.drew wq → (wq.cell? ⟨rnb, 4, none⟩ = some (.slice (some ⟨yb, yo, none⟩) G.length yc) ∧ wq.cell? ⟨w.heap.size, 0, none⟩ = some (.int .i64 Lf)) ∧ wq.cell? ⟨yb, yo + qs, none⟩ = some (.slice (some ⟨ub, uo, none⟩) rn uc) ∧ wq.cell? ⟨ub, uo + Lf, none⟩ = some (.int .i64 gg)) := fun wq hq => by
        have hz : Below w0.heap.size w0 wq := HM4.out.since.trans (hq.mono HM4.out.le)
        exact ⟨⟨(hq.cell (World.block_lt_of_cell? _ _ c4)).trans c4, (hq.cell (World.block_lt_of_cell? _ _ hbx)).trans hbx⟩, (hz.cell (World.block_lt_of_cell? _ _ k1)).trans k1, (hz.cell (World.block_lt_of_cell? _ _ k2)).trans k2⟩
      have j0 : (0 : Int) ≤ (qs : Int) := Int.natCast_nonneg _
      have j1 : (qs : Int) < (G.length : Int) := by have := HGG.out.1; omega
      have l0 : (0 : Int) ≤ (Lf : Int) := Int.natCast_nonneg _
      have l1 : (Lf : Int) < (rn : Int) := by have := HGG.out.2.1; rw [hrn] at this; omega
      clear hW4 c8 c8f hup k1 k2 hrow hyv hrn hxv hq4
      refine wp_region_held_seq [0, 1, 2, 3, 4, 5, 10, 11] [6, 7, 8, 9, 12, 13, 14] 14 (fun w' => w'.cell? ⟨rnb, 4, none⟩ = some (.slice (some ⟨yb, yo, none⟩) G.length yc) ∧ w'.cell? ⟨w.heap.size, 0, none⟩ = some (.int .i64 Lf)) (by kernel_rfl) (by kernel_rfl) ⟨c4, hbx⟩ ?_
      iterate 8
        refine StillI.conL (v := ?_) rfl (by rfl) ?_ ?_
        rotate_left
        · intro w' hSw
          obtain ⟨hSw1, hSw2⟩ := hSw
          go_simp
          try with_reducible rfl
        simp only [Act.put, List.setIfInBounds_toArray, List.set_cons_zero, List.set_cons_succ]
      rw [StillI]
      refine TailI.conL rfl (fun K hK => ?_)
      go_simp
      refine la.mono ?_
      rintro e w5 ⟨rfl, hB5⟩
      dsimp only
      have HB5 : Hid (Below W4.drew.heap.size W4.drew w5) := hB5
      obtain ⟨⟨m3, m4⟩, m5, m6⟩ := HRest.out w5 hB5
      refine hK.out _ _ (fun _ => ⟨m3, m4⟩) ?_
      clear hK la hB5 c4 hbx
      iterate 6
        refine TailI.conL rfl (fun K hK => ?_)
        go_simp
        refine hK.out _ _ (fun _ => ⟨m3, m4⟩) ?_
        clear hK
      rw [TailI]
      refine NoPanic.normal ?_
      clear m3 m4 m5 m6
      have hlf : (PL.take f).length = f := hl4.trans HF.out
      have h5 := HM4.out.below HB5.out
      have h6 := h5.alloc (.cells #[.int .i64 gg, .slice (some ⟨gd, 0, none⟩) dl cd] 39)
      have own6 := h6.stack
      rw [hlf] at own6
      have c8 := (h5.cell (i := 8) rfl).1
      have d8 := (h6.cell (i := 8) rfl).1
      have d8f := (h6.cell (i := 8) rfl).2
      have d7 := (h6.cell (i := 7) rfl).1
      have d7f := (h6.cell (i := 7) rfl).2
      have hra6 := h6.lt.1
      have hne : some d.ra ≠ (Value.slice (some ⟨g, 0, none⟩) f cap).ownBlock := fun e => h6.apart e.symm
      rw [HRa.out] at c8 d8 d8f d7 d7f hra6 hne
      have hf10 : f ≤ 10000 := by have := HSF.out; omega
      have hn1 : f + 1 ≤ maxLen := by unfold maxLen; omega
      have hn2 : (f + 1) * 32 ≤ 140737488355328 := by omega
      have hB6 : w0.heap.size ≤ (w5.alloc (.cells #[.int .i64 gg, .slice (some ⟨gd, 0, none⟩) dl cd] 39)).heap.size := h6.le
      obtain ⟨i0, hi0, hz0, hz1, hz2⟩ := info_parts Try.infoPl
      have H6 : Hid (RnM w0 d (.slice (some ⟨g, 0, none⟩) f cap) (PL.take f) p q (w5.alloc (.cells #[.int .i64 gg, .slice (some ⟨gd, 0, none⟩) dl cd] 39))) := h6
      have HLf : Hid ((PL.take f).length = f) := hlf
      clear h5 h6 hl4 hlf
      go_wp2_with
        (at_builtin
         refine wpList_append_lies _ rfl _ _ _ rfl w0.heap.size 39 i0 _ 2 32 Try.underlying40 hi0 hz0 hz1 hz2 rfl (by omega) (.slice (some ⟨g, 0, none⟩) f cap) f (flatPl (PL.take f)) rfl own6 ⟨w5.heap.size, 0, none⟩ 1 1 [.int .i64 gg, .slice (some ⟨gd, 0, none⟩) dl cd] rfl rfl (World.news_of_block (cs := #[.int .i64 gg, .slice (some ⟨gd, 0, none⟩) dl cd]) (t := 39) (fr := (0, 0)) (heap_alloc_new w5 _)) (by simp [Value.oneCell']) (by omega) hn1 hn2 hB6 (w5.heap.size + 1) (by simp) ?_
         intro g7 cap7 w7 hown7 hgrow7 hat7 hlt7
         have x8 := (hgrow7.cell_far ⟨rnb, 8, none⟩ hra6 hne).trans d8
         have x8f := (hgrow7.frozen_far ⟨rnb, 8, none⟩ hra6 hne).trans d8f
         have x7 := (hgrow7.cell_far ⟨rnb, 7, none⟩ hra6 hne).trans d7
         have x7f := (hgrow7.frozen_far ⟨rnb, 7, none⟩ hra6 hne).trans d7f)
      go_end0
      refine ⟨rfl, .slice (some ⟨g7, 0, none⟩) (f + 1) cap7, .slice (some ⟨gd, 0, none⟩) dl cd, ?_⟩
      rw [HF.out, ← HDe.out]
      have hkeep : ∀ b, W2.heap.size ≤ b → b < W4.heap.size → (w5.alloc (.cells #[.int .i64 gg, .slice (some ⟨gd, 0, none⟩) dl cd] 39)).heap[b]? = W4.heap[b]? ∧ RnO d (.slice (some ⟨g, 0, none⟩) f cap) b := fun b hb1 hb2 => by
        have hs5 : W4.heap.size ≤ w5.heap.size := HB5.out.size
        refine ⟨((heap_alloc_old w5 _ (show b < w5.heap.size by omega))).trans (HB5.out.block b hb2), fun e => ?_, fun e => ?_⟩
        · have := HM2.out.lt.1; omega
        · have := (HM2.out.stack.lt g rfl).2
          simp only [Value.ownBlock, Option.some.injEq] at e
          omega
      have hsz : W4.heap.size ≤ (w5.alloc (.cells #[.int .i64 gg, .slice (some ⟨gd, 0, none⟩) dl cd] 39)).heap.size := by
        have : W4.heap.size ≤ w5.heap.size := HB5.out.size
        simp
        omega
      have r := H6.out.turn (sv' := .slice (some ⟨g7, 0, none⟩) (f + 1) cap7) (PL' := PL.take f ++ [(gg, .slice (some ⟨gd, 0, none⟩) dl cd, derP m PL f i)]) hgrow7 (by
          have := hown7
          rw [List.length_append, HLf.out, flatPl_append]
          exact this) (fun g' hg' => by
          obtain rfl : g7 = g' := by simpa [Value.ownBlock] using hg'
          rcases hat7 with h5 | h5
          · exact .inl h5
          · exact .inr (by simpa using h5)) (fun x hx => by
          rcases List.mem_append.1 hx with hx | hx
          · exact H6.out.der x hx
          · simp only [List.mem_singleton] at hx
            subst hx
            exact HDv.out.kept hsz hkeep)
      rw [HRa.out] at r
      have r2 := r.setRed (q + 1)
      rw [HRa.out] at r2
      exact r2

end Go.Proofs.Ytgcpllnjdnahjaa

/- The contract of package parse's run. -/
namespace Go.Proofs.Ytgcpllnjdnahjaa
open Go.RowKit

theorem pl_field1 {s : Int} {a : Option Addr} {n c : Nat} (w : World) : Sem.run Try.prog (Instr.field 39 (.agg #[.int .i64 s, .slice a n c]) 1) w = .ok (.slice a n c) w := by
  unfold Instr.field asAgg
  go_simp

/-- What the places say. -/
def pcOf (PL : List Pl) (p q : Nat) : PC := ⟨PL.map fun x => x.1, (PL.drop 1).map fun x => x.2.2, p, q⟩

section
variable {PL : List Pl} {p q : Nat}
theorem pc_shift (h : 0 < PL.length) (s : Nat) : pcOf (PL ++ [(s, .slice none 0 0, [])]) (p + 1) q = ⟨(pcOf PL p q).S ++ [s], (pcOf PL p q).F ++ [[]], p + 1, q⟩ := by
  unfold pcOf
  rw [List.drop_append_of_le_length (by omega)]
  simp
theorem pc_red {kp rl gg : Nat} (h : PL.length = kp + 1 + rl) (dv : Value) (m : Int) :
    pcOf (PL.take (kp + 1) ++ [(gg, dv, m :: ((PL.drop (kp + 1)).map fun x => x.2.2).flatten)]) p (q + 1) = ⟨(pcOf PL p q).S.take (kp + 1) ++ [gg], (pcOf PL p q).F.take kp ++ [m :: ((pcOf PL p q).F.drop kp).flatten], p, q + 1⟩ := by
  unfold pcOf
  have hl : (PL.take (kp + 1)).length = kp + 1 := by rw [List.length_take, h]; omega
  rw [List.drop_append_of_le_length (by omega)]
  simp only [List.map_append, List.map_take, List.map_cons, List.map_nil, List.map_drop, List.drop_drop, PC.mk.injEq, true_and, List.drop_take]
  refine ⟨?_, trivial⟩
  rw [Nat.add_comm 1 kp]
  simp
end

/-- Whenever the loop begins anew; n is what is left to be done, at most. -/
structure RRd (T N : Nat) (R : List Ru) (tok : List Int) (K : Nat) (w0 : World) (d : RnA) (sv : Value) (PL : List Pl) (p q n : Nat) (w : World) : Prop where
  m : RnM w0 d sv PL p q w
  inv : PInv T N R (allN T N R K).1 (allN T N R K).2 tok (pcOf PL p q)
  sum : Sum (pcOf PL p q)
  fst : (PL.getD 0 noPl).2.2 = []
  num : n = (tok.length - p) + (401 - q)
  few : q ≤ 400
  run : runP T R (cellP T N R (allN T N R K).1 (allN T N R K).2) (goP T (allN T N R K).1) tok (n + 1) (pcOf PL p q) = parseN T N R (allN T N R K).1 (allN T N R K).2 tok
  small : 0 < PL.length ∧ PL.length + n ≤ 1000

/-- A step that goes on: what is left is less by one. -/
theorem RRd.next {T N : Nat} {R : List Ru} {tok : List Int} {K : Nat} {w0 : World} {d : RnA} {sv sv' : Value} {PL PL' : List Pl} {p q n p' q' : Nat} {w w' : World} (h : RRd T N R tok K w0 d sv PL p q n w) (lr : LRok T N R (allN T N R K).1 (allN T N R K).2) (htok : ∀ t ∈ tok, 0 ≤ t ∧ t < (T : Int))
    (hst : stepP T R (cellP T N R (allN T N R K).1 (allN T N R K).2) (goP T (allN T N R K).1) tok (pcOf PL p q) = .go (pcOf PL' p' q')) (hq : q' ≤ 400) (hM : RnM w0 d sv' PL' p' q' w') (h0 : (PL'.getD 0 noPl).2.2 = []) (hS : 0 < PL'.length ∧ PL'.length ≤ PL.length + 1) : n - 1 < n ∧ RRd T N R tok K w0 d sv' PL' p' q' (n - 1) w' := by
  have hi := h.inv.go lr htok hst
  have hs := step_sum hst
  have hp : p' ≤ tok.length := hi.pos
  have hp0 : p ≤ tok.length := h.inv.pos
  have hn := h.num
  have hsm := h.small
  have hfew := h.few
  have hs1 : p' + q' = p + q + 1 ∧ q ≤ q' ∧ p ≤ p' := hs
  refine ⟨by omega, hM, hi, sum_step hst h.sum, h0, by omega, hq, ?_, by omega⟩
  have hr := h.run
  rw [run_step hst hfew] at hr
  rw [show n - 1 + 1 = n by omega]
  exact hr

theorem RRd.total {T N : Nat} {R : List Ru} {tok : List Int} {K : Nat} {w0 : World} {d : RnA} {sv : Value} {PL : List Pl} {p q n : Nat} {w : World} (h : RRd T N R tok K w0 d sv PL p q n w) : ((PL.map fun x => x.2.2).map List.length).sum ≤ 10000 := by
  have h1 := h.sum
  have h2 := h.small.1
  have h3 := h.fst
  have h4 := h.few
  unfold Sum pcOf at h1
  simp only at h1
  cases PL with
  | nil => simp at h2
  | cons x L =>
    simp only [List.drop_succ_cons, List.drop_zero] at h1
    have h5 : x.2.2 = [] := h3
    rw [List.map_cons, List.map_cons, List.sum_cons, h5, h1]
    simp
    omega

set_option maxRecDepth 100000 in
set_option maxHeartbeats 6400000 in
theorem rn_run {w0 w : World} {d : RnA} {sv : Value} {R : List Ru} {tok : List Int} {N K : Nat} (h : RnM w0 d sv [noPl] 0 0 w) (E : RnE w0 d R tok (tabC d.T N R K) (tabG d.T N R K)) (hf : Fine d.T N R) (hW : Whole d.T N R K) (hN : 0 < N) (hcl : clashN (tabC d.T N R K) = 0) (htok : ∀ t ∈ tok, 0 ≤ t ∧ t < (d.T : Int)) (h30 : tok.length ≤ 30) :
    Calls Try.prog 8 #[.pointer (some ⟨d.ra, 0, none⟩)] w fun e w' => ∃ dv D a x, e = .returned (.tuple #[dv, .int .i64 a, .int .i64 x]) ∧ ListAt w' w'.heap.size dv D ∧ (D, a, x) = ansP (parseN d.T N R (allN d.T N R K).1 (allN d.T N R K).2 tok) ∧ Below w0.heap.size w0 w' := by
  obtain ⟨T, hT⟩ : ∃ T, d.T = T := ⟨_, rfl⟩
  rw [hT] at E hf hW hcl htok ⊢
  have hlr := lr_of hf hW (whole_pos hW)
  have HLR : Hid (LRok T N R (allN T N R K).1 (allN T N R K).2) := hlr
  have HOne : Hid (∀ k, k < K → ∀ t, t ≤ T → oneB (cellP T N R (allN T N R K).1 (allN T N R K).2 k t) = true) := clash_one hcl
  have HTok : Hid (∀ t ∈ tok, 0 ≤ t ∧ t < (T : Int)) := htok
  have HWh : Hid (Whole T N R K) := hW
  have HF : Hid (Fine T N R) := hf
  have HE : Hid (RnE w0 d R tok (tabC T N R K) (tabG T N R K)) := E
  have HR0 : Hid (RRd T N R tok K w0 d sv [noPl] 0 0 (tok.length + 401) w) := by
    refine ⟨h, pinv_start, rfl, rfl, by omega, by omega, rfl, by simp; omega⟩
  have HT : Hid (d.T = T) := hT
  obtain ⟨rb, hrb⟩ : ∃ x, d.ra = x := ⟨_, rfl⟩
  have HRa : Hid (d.ra = rb) := hrb
  rw [hrb]
  clear h E hf hW hcl htok hlr hT hrb
  go_enter Try.func8, Try.ntmps8
  go_wp2_with fail
  go_loopg [2] (tok.length + 401) (fun n s2 wr => s2 = .slice none 0 0 ∧ ∃ (sv : Value) (PL : List Pl) (p q : Nat), RRd T N R tok K w0 d sv PL p q n wr)
  case atStart => exact ⟨rfl, _, _, _, _, HR0.out⟩
  case round =>
    clear HR0
    obtain ⟨rfl, sv1, PL, p, q, hRd⟩ := hrel
    have HRd : Hid (RRd T N R tok K w0 d sv1 PL p q gk wr) := hRd
    have hfew := hRd.few
    have hsm := hRd.small
    have hnum := hRd.num
    obtain ⟨sh1, sh2, sh3⟩ := hRd.inv.shape HLR.out
    have hKl : (allN T N R K).2.length = K := HWh.out
    rw [hKl] at sh2 sh3
    obtain ⟨k, hk⟩ : ∃ k, PL.length = k + 1 := ⟨PL.length - 1, by omega⟩
    have htop : topS (pcOf PL p q) = (PL.getD k noPl).1 := by
      unfold topS pcOf
      simp [List.getD, hk]
    obtain ⟨tp, htp⟩ : ∃ tp, (PL.getD k noPl).1 = tp := ⟨_, rfl⟩
    rw [htop, htp] at sh2
    have hpl : p ≤ tok.length := hRd.inv.pos
    have hntl := nextT_le HTok.out p
    obtain ⟨nt, hnt⟩ : ∃ nt, nextT T tok p = nt := ⟨_, rfl⟩
    rw [hnt] at hntl
    obtain ⟨⟨sh, Ru', en⟩, hce⟩ : ∃ x, cellP T N R (allN T N R K).1 (allN T N R K).2 tp nt = x := ⟨_, rfl⟩
    have cel := rn_cell (tp := tp) (nt := nt) (sh := sh) (Ru' := Ru') (en := en) hRd.m HE.out hk (by omega) htp (by rw [tabC_len]; exact sh2) (by rw [tabC_row sh2, rowP_len]; omega) (fun hpt => by
        rw [← hnt]
        unfold nextT
        rw [if_pos hpt]
        have e1 : tok.getD p 0 = tok[p] := by simp [List.getD, hpt]
        have := HTok.out tok[p] (List.getElem_mem hpt)
        rw [e1]
        omega) (fun hpt => by
        rw [← hnt, HT.out]
        unfold nextT
        rw [if_neg hpt]) (by rw [tabC_row sh2, rowP_at hntl, hce])
    have hstep : stepP T R (cellP T N R (allN T N R K).1 (allN T N R K).2) (goP T (allN T N R K).1) tok (pcOf PL p q) = stepC R (goP T (allN T N R K).1) (pcOf PL p q) (sh, Ru', en) := by
      unfold stepP
      rw [htop, htp]
      show stepC R _ _ (cellP T N R _ _ tp (nextT T tok p)) = _
      rw [hnt, hce]
    have HSt : Hid (stepP T R (cellP T N R (allN T N R K).1 (allN T N R K).2) (goP T (allN T N R K).1) tok (pcOf PL p q) = stepC R (goP T (allN T N R K).1) (pcOf PL p q) (sh, Ru', en)) := hstep
    have HCe : Hid (cellP T N R (allN T N R K).1 (allN T N R K).2 tp nt = (sh, Ru', en)) := hce
    have HTop : Hid (topS (pcOf PL p q) = tp) := htop.trans htp
    have HK1 : Hid (PL.length = k + 1) := hk
    have HS3 : Hid (∀ s ∈ (pcOf PL p q).S, s < K) := sh3
    rw [HRa.out] at cel
    clear hstep hce htop htp hnt sh3 sh1 hRd hk
    obtain ⟨m2, hm2⟩ : ∃ m2, Ru'.length = m2 := ⟨_, rfl⟩
    have HM2 : Hid (Ru'.length = m2) := hm2
    have cel2 := cel.mono (R' := fun e w' => ∃ ua uc, e = .returned (.agg #[.int .i64 sh, .slice ua m2 uc, .bool en]) ∧ ListAt w' w'.heap.size (.slice ua m2 uc) Ru' ∧ Below wr.heap.size wr w') fun e w' ⟨rl, h1, h2, h3⟩ => by
      obtain ⟨a, c, hrl⟩ := h2.1
      rw [hm2] at hrl
      subst hrl
      exact ⟨a, c, h1, h2, h3⟩
    clear cel hm2
    have HBx : Hid (∀ w5 (o : Obj), Below wr.heap.size wr w5 → RnM w0 d sv1 PL p q (w5.alloc o)) := fun w5 o hb => (HRd.out.m.below hb).alloc o
    cases en with
    | true =>
      have hfin := HRd.out.inv.fin HLR.out HTok.out (d := (pcOf PL p q).F.getD 0 []) (by rw [HSt.out]; rfl)
      obtain ⟨dd, hdd⟩ : ∃ dd, (pcOf PL p q).F.getD 0 [] = dd := ⟨_, rfl⟩
      rw [hdd] at hfin
      have hdone : parseN T N R (allN T N R K).1 (allN T N R K).2 tok = .done dd := by
        rw [← HRd.out.run, runP, if_pos (by exact hfew)]
        simp only [HSt.out, stepC, if_true]
        rw [hdd]
      have HDn : Hid (parseN T N R (allN T N R K).1 (allN T N R K).2 tok = .done dd) := hdone
      have hk1 : k = 1 := by
        have := congrArg List.length hfin.2
        simp only [pcOf, List.length_map, List.length_drop, HK1.out, List.length_singleton] at this
        omega
      subst hk1
      have HD2 : Hid ((PL.getD 1 noPl).2.2 = dd) := by
        show (PL.getD 1 noPl).2.2 = dd
        have h2 := HK1.out
        match PL, h2 with
        | [a, b], _ =>
          have h3 := hfin.2
          simp only [pcOf, List.drop_succ_cons, List.drop_zero, List.map_cons, List.map_nil, List.cons.injEq, and_true] at h3
          exact h3
      obtain ⟨x1, hx1⟩ : ∃ x, (PL.getD 1 noPl).2.1 = x := ⟨_, rfl⟩
      have HX1 : Hid ((PL.getD 1 noPl).2.1 = x1) := hx1
      obtain ⟨s1, hs1⟩ : ∃ x, (PL.getD 1 noPl).1 = x := ⟨_, rfl⟩
      have HS1 : Hid ((PL.getD 1 noPl).1 = s1) := hs1
      obtain ⟨da, dn, dc, hxs⟩ : ∃ a n c, x1 = .slice a n c := by
        obtain ⟨a, c, e⟩ := (HRd.out.m.derAt (i := 1) (by rw [HK1.out]; omega)).slice
        exact ⟨a, _, c, by rw [← hx1, e]⟩
      subst hxs
      have hfd := fun w => pl_field1 (s := (s1 : Int)) (a := da) (n := dn) (c := dc) w
      clear hfin hdd hdone hx1 hs1
      go_wp2_with
        (first
         | (go_at_call 18; refine cel2.mono ?_; rintro e w5 ⟨ua, uc, rfl, hL5, hB5⟩
            have hM5 := HBx.out w5 (.cells #[.int .i64 sh, .slice ua m2 uc, .bool true] 50) hB5
            have HM5 : Hid (RnM w0 d sv1 PL p q (w5.alloc (.cells #[.int .i64 sh, .slice ua m2 uc, .bool true] 50))) := hM5
            have la := rn_last hM5 HK1.out (by omega) HS1.out HX1.out
            rw [HRa.out] at la
            clear hM5 hL5 hB5 cel2)
         | (go_at_call 19; refine la.mono ?_; rintro e w6 ⟨rfl, hB6⟩
            have HM6 : Hid (RnM w0 d sv1 PL p q w6) := HM5.out.below hB6
            clear la hB6))
      refine bodyPost_ret (v := .tuple #[.slice da dn dc, .int .i64 (-1), .int .i64 0]) (by simp [results, Try.results8, go_sem]) rfl ?_
      have hdv := (HM6.out.derAt (i := 1) (by rw [HK1.out]; omega)).list
      rw [HX1.out, HD2.out] at hdv
      exact ⟨_, dd, -1, 0, rfl, hdv, by rw [HDn.out]; rfl, HM6.out.since⟩
    | false =>
      by_cases hsh : 0 ≤ sh
      · obtain ⟨sn, rfl⟩ : ∃ sn : Nat, sh = sn := ⟨sh.toNat, by omega⟩
        have hgo : stepP T R (cellP T N R (allN T N R K).1 (allN T N R K).2) (goP T (allN T N R K).1) tok (pcOf PL p q) = .go (pcOf (PL ++ [(sn, .slice none 0 0, [])]) (p + 1) q) := by
          rw [HSt.out, pc_shift hsm.1]
          unfold stepC
          simp only [Bool.false_eq_true, if_false, hsh, if_true, Int.toNat_natCast]
          rfl
        have HGo : Hid (stepP T R (cellP T N R (allN T N R K).1 (allN T N R K).2) (goP T (allN T N R K).1) tok (pcOf PL p q) = .go (pcOf (PL ++ [(sn, .slice none 0 0, [])]) (p + 1) q)) := hgo
        clear hgo
        go_wp2_with
          (first
           | (go_at_call 18; refine cel2.mono ?_; rintro e w5 ⟨ua, uc, rfl, hL5, hB5⟩
              have sft := rn_shift (HBx.out w5 (.cells #[.int .i64 sn, .slice ua m2 uc, .bool false] 50) hB5) hsm.1 (by omega) (by omega) sn
              rw [HRa.out] at sft
              clear hL5 hB5 cel2)
           | (go_at_call 20; refine sft.mono ?_; rintro e w6 ⟨rfl, sv6, hM6⟩
              have HM6 : Hid (RnM w0 d sv6 (PL ++ [(sn, .slice none 0 0, [])]) (p + 1) q w6) := hM6
              clear sft hM6))
        have hnx := HRd.out.next HLR.out HTok.out HGo.out hfew HM6.out (by
          have := HRd.out.fst
          rw [List.getD, List.getElem?_append_left hsm.1]
          exact this) (by simp)
        go_roundg (gk - 1)
        case measure => exact hnx.1
        case rel => exact ⟨rfl, _, _, _, _, hnx.2⟩
      · have hshd : decide (0 ≤ sh) = false := decide_eq_false hsh
        cases hRu : Ru' with
        | nil =>
          have hm20 : m2 = 0 := by rw [← HM2.out, hRu]; rfl
          subst hm20
          have hno : parseN T N R (allN T N R K).1 (allN T N R K).2 tok = .none p := by
            rw [← HRd.out.run, runP, if_pos (by exact hfew)]
            simp only [HSt.out, stepC, hRu, if_neg hsh]
            simp [pcOf]
          have HDn : Hid (parseN T N R (allN T N R K).1 (allN T N R K).2 tok = .none p) := hno
          clear hno hRu
          go_wp2_with
            (go_at_call 18; refine cel2.mono ?_; rintro e w5 ⟨ua, uc, rfl, hL5, hB5⟩
             have hM5 := HBx.out w5 (.cells #[.int .i64 sh, .slice ua 0 uc, .bool false] 50) hB5
             have c6 := (hM5.cell (i := 6) rfl).1
             rw [HRa.out] at c6
             have HS5 : Hid (Below w0.heap.size w0 (w5.alloc (.cells #[.int .i64 sh, .slice ua 0 uc, .bool false] 50))) := hM5.since
             clear hM5 hL5 hB5 cel2)
          go_big_quiet (fail)
          go_wp2_with fail
          refine bodyPost_ret (v := .tuple #[.slice none 0 0, .int .i64 p, .int .i64 0]) (by simp [results, Try.results8, go_sem]) rfl ?_
          exact ⟨_, [], p, 0, rfl, ⟨⟨_, _, rfl⟩, fun p hp => by simp at hp⟩, by rw [HDn.out]; rfl, below_drewN HS5.out _⟩
        | cons q1 rest =>
          obtain ⟨m, rfl, hmR, hdn⟩ := rules_done (T := T) (N := N) (R := R) (NL := (allN T N R K).1) (Ls := (allN T N R K).2) (k := tp) (t := nt) (q := q1) (by rw [HCe.out, hRu]; simp)
          obtain ⟨_, hr1, hr2, gg, hr3⟩ := HRd.out.inv.red HLR.out (t := nt) (m := m) (by rw [HTop.out, HCe.out, hRu]; simp)
          rw [show (allN T N R K).2.length = K from HWh.out] at hr2
          have hFl : (pcOf PL p q).F.length = k := by simp [pcOf, HK1.out]
          rw [hFl] at hr1 hr2 hr3
          obtain ⟨rl, hrl⟩ : ∃ x, (R.getD m (0, [])).2.length = x := ⟨_, rfl⟩
          have hLb := HF.out.left (R.getD m (0, [])) (by simp [List.getD, hmR])
          obtain ⟨Lf, hLf⟩ : ∃ Lf : Nat, (R.getD m (0, [])).1 = (Lf : Int) := ⟨(R.getD m (0, [])).1.toNat, by omega⟩
          rw [hrl] at hr1 hr2 hr3
          rw [hLf] at hr3 hLb
          rw [Int.toNat_natCast] at hr3
          obtain ⟨kp, hkp⟩ : ∃ kp, k = kp + rl := ⟨k - rl, by omega⟩
          rw [hkp, show kp + rl - rl = kp by omega] at hr2 hr3
          have hSg : (pcOf PL p q).S.getD kp 0 = (PL.getD kp noPl).1 := by
            have : kp < PL.length := by rw [HK1.out]; omega
            simp [pcOf, List.getD, this]
          rw [hSg] at hr2 hr3
          obtain ⟨qs, hqs⟩ : ∃ x, (PL.getD kp noPl).1 = x := ⟨_, rfl⟩
          rw [hqs] at hr2 hr3
          have hPLk : PL.length = kp + 1 + rl := by rw [HK1.out]; omega
          have hgo : ∀ dv, stepP T R (cellP T N R (allN T N R K).1 (allN T N R K).2) (goP T (allN T N R K).1) tok (pcOf PL p q) = .go (pcOf (PL.take (kp + 1) ++ [(gg, dv, (m : Int) :: ((PL.drop (kp + 1)).map fun x => x.2.2).flatten)]) p (q + 1)) := fun dv => by
            rw [HSt.out, hRu, pc_red hPLk]
            unfold stepC
            simp only [Bool.false_eq_true, if_false, if_neg hsh]
            unfold redP
            simp only [Int.toNat_natCast, hFl, hrl, hkp]
            rw [show kp + rl - rl = kp by omega, hSg, hqs, hLf, Int.toNat_natCast, hr3, Int.toNat_natCast]
            rfl
          have HGo : Hid (∀ dv, stepP T R (cellP T N R (allN T N R K).1 (allN T N R K).2) (goP T (allN T N R K).1) tok (pcOf PL p q) = .go (pcOf (PL.take (kp + 1) ++ [(gg, dv, (m : Int) :: ((PL.drop (kp + 1)).map fun x => x.2.2).flatten)]) p (q + 1))) := hgo
          have hm2e : m2 = rest.length + 1 := by rw [← HM2.out, hRu]; rfl
          have hm2n : ((m2 : Int) == 0) = false := by simp; omega
          have HRu : Hid (Ru' = (m : Int) :: rest) := hRu
          have HRed : Hid (∀ w6, RnM w0 d sv1 PL p q w6 → Calls Try.prog 21 #[.pointer (some ⟨rb, 0, none⟩), .int .i64 m] w6 fun e w' => e = .returned (.tuple #[]) ∧ ∃ sv' dv, RnM w0 d sv' (PL.take (kp + 1) ++ [(gg, dv, (m : Int) :: ((PL.drop (kp + 1)).map fun x => x.2.2).flatten)]) p (q + 1) w') := fun w6 h6 => by
            have := rn_reduce h6 HE.out (m := m) (kp := kp) (rl := rl) (Lf := Lf) (qs := qs) (gg := gg) hmR hLf hrl hPLk (by omega) (by omega) HRd.out.total hqs (by rw [tabG_len]; exact hr2) (by rw [goto_row HWh.out hr2 hN]; omega) (by rw [tabG_at hr2]; exact hr3)
            rw [HRa.out] at this
            exact this
          have HKp : Hid (PL.length = kp + 1 + rl) := hPLk
          clear hgo hRu hm2e hr3 hdn hLf hrl hqs hSg hFl hPLk hLb hr1 hkp
          by_cases hq4 : q = 400
          · subst hq4
            have hno : parseN T N R (allN T N R K).1 (allN T N R K).2 tok = .size := by
              rw [← HRd.out.run, run_step (HGo.out (.slice none 0 0)) (by exact hfew)]
              cases gk with
              | zero => rfl
              | succ n => rw [runP, if_neg (by simp [pcOf])]
            have HDn : Hid (parseN T N R (allN T N R K).1 (allN T N R K).2 tok = .size) := hno
            clear hno
            go_wp2_with
              (go_at_call 18; refine cel2.mono ?_; rintro e w5 ⟨ua, uc, rfl, hL5, hB5⟩
               have hM5 := HBx.out w5 (.cells #[.int .i64 sh, .slice ua m2 uc, .bool false] 50) hB5
               have c7 := (hM5.cell (i := 7) rfl).1
               rw [HRa.out] at c7
               have HS5 : Hid (Below w0.heap.size w0 (w5.alloc (.cells #[.int .i64 sh, .slice ua m2 uc, .bool false] 50))) := hM5.since
               clear hM5 hL5 hB5 cel2)
            refine bodyPost_ret (v := .tuple #[.slice none 0 0, .int .i64 0, .int .i64 1]) (by simp [results, Try.results8, go_sem]) rfl ?_
            exact ⟨_, [], 0, 1, rfl, ⟨⟨_, _, rfl⟩, fun p hp => by simp at hp⟩, by rw [HDn.out]; rfl, HS5.out⟩
          · have hq5 : ((q : Int) == 400) = false := by simp; omega
            go_wp2_with
              (first
               | (go_at_call 18; refine cel2.mono ?_; rintro e w5 ⟨ua, uc, rfl, hL5, hB5⟩
                  have hM5 := HBx.out w5 (.cells #[.int .i64 sh, .slice ua m2 uc, .bool false] 50) hB5
                  have c7 := (hM5.cell (i := 7) rfl).1
                  rw [HRa.out] at c7
                  obtain ⟨lb, lo, lc, hlv, hlb, x0⟩ := hL5.2 0 (by rw [HRu.out]; simp)
                  rw [HM2.out] at hlv
                  injection hlv with hl1 _ hl3
                  subst hl1
                  subst hl3
                  rw [HRu.out] at x0
                  have y0 : (w5.alloc (.cells #[.int .i64 sh, .slice (some ⟨lb, lo, none⟩) m2 uc, .bool false] 50)).cell? ⟨lb, lo, none⟩ = some (.int .i64 m) := (World.cell?_alloc_past _ _ _ hlb).trans x0
                  have hmm2 : (0 : Int) < (m2 : Int) := by have := HM2.out; rw [HRu.out] at this; simp at this; omega
                  have red := HRed.out _ hM5
                  clear hM5 hL5 hB5 cel2 x0)
               | (go_at_call 21; refine red.mono ?_; rintro e w6 ⟨rfl, sv6, dv6, hM6⟩
                  have HM6 : Hid (RnM w0 d sv6 (PL.take (kp + 1) ++ [(gg, dv6, (m : Int) :: ((PL.drop (kp + 1)).map fun x => x.2.2).flatten)]) p (q + 1) w6) := hM6
                  clear red hM6))
            have hnx := HRd.out.next HLR.out HTok.out (HGo.out dv6) (by omega) HM6.out (by
              have h1 := HRd.out.fst
              have h2 : 0 < (PL.take (kp + 1)).length := by rw [List.length_take, HKp.out]; omega
              rw [List.getD, List.getElem?_append_left h2, List.getElem?_take, if_pos (by omega)]
              exact h1) (by
              have := HKp.out
              simp
              omega)
            go_roundg (gk - 1)
            case measure => exact hnx.1
            case rel => exact ⟨rfl, _, _, _, _, hnx.2⟩

end Go.Proofs.Ytgcpllnjdnahjaa

/- The contract of the program's parse.Parse: what is wrong, or what the parser answers in plain words. -/
namespace Go.Proofs.Ytgcpllnjdnahjaa
open Go.RowKit

set_option maxRecDepth 100000 in
set_option maxHeartbeats 1600000 in
theorem pr_err {w : World} {T N x : Int} {rv tv : Value} {R : List Ru} {tok : List Int} (hr : RulesAt w w.heap.size rv R) (ht : ListAt w w.heap.size tv tok) (hx : x ≠ 0)
    (tf : Calls Try.prog 7 #[.agg #[.int .i64 T, .int .i64 N, rv], tv] (w.alloc (.cells #[.int .i64 T, .int .i64 N, rv] 24)) fun e w' => e = .returned (errT x) ∧ Below (w.alloc (.cells #[.int .i64 T, .int .i64 N, rv] 24)).heap.size (w.alloc (.cells #[.int .i64 T, .int .i64 N, rv] 24)) w') :
    Calls Try.prog 4 #[.agg #[.int .i64 T, .int .i64 N, rv], tv] w fun e w' => e = .returned (.tuple #[.slice none 0 0, .int .i64 0, .int .i64 x]) ∧ Below w.heap.size w w' := by
  obtain ⟨ra, rc, hrv⟩ := hr.1
  obtain ⟨ta, tc, htv⟩ := ht.1
  subst hrv
  subst htv
  have HB0 : Hid (Below w.heap.size w (w.alloc (.cells #[.int .i64 T, .int .i64 N, .slice ra R.length rc] 24))) := (Below.refl _ _).alloc (Nat.le_refl _) _
  have hxn : (x != 0) = true := by simpa using hx
  clear hr ht
  go_enter Try.func4, Try.ntmps4
  go_wp2_with
    (go_at_call 7; refine tf.mono ?_; rintro e w1 ⟨rfl, hB1⟩
     have HB1 : Hid (Below w.heap.size w (w1.alloc (.cells #[.slice none 0 0, .slice none 0 0] 34))) := (HB0.out.trans (hB1.mono (by simp))).alloc (by have := hB1.size; simp at this; omega) _
     clear hB1)
  refine bodyPost_ret (v := .tuple #[.slice none 0 0, .int .i64 0, .int .i64 x]) (by simp [results, Try.results4, go_sem]) rfl ⟨rfl, HB1.out⟩

set_option maxRecDepth 100000 in
set_option maxHeartbeats 3200000 in
theorem pr_runs {w : World} {T N K : Nat} {rv tv : Value} {R : List Ru} {tok : List Int} (hr : RulesAt w w.heap.size rv R) (ht : ListAt w w.heap.size tv tok) (hf : Fine T N R) (hN : 0 < N) (hW : Whole T N R K) (hcl : clashN (tabC T N R K) = 0) (hin : inB T tok = true) (h30 : tok.length ≤ 30)
    (tf : Calls Try.prog 7 #[.agg #[.int .i64 T, .int .i64 N, rv], tv] (w.alloc (.cells #[.int .i64 T, .int .i64 N, rv] 24)) fun e w' => Below (w.alloc (.cells #[.int .i64 T, .int .i64 N, rv] 24)).heap.size (w.alloc (.cells #[.int .i64 T, .int .i64 N, rv] 24)) w' ∧
      ∃ ca cc ga gc, e = .returned (.tuple #[.agg #[.slice ca K cc, .slice ga K gc], .int .i64 0]) ∧ TabAt w' (.slice ca K cc) (.slice ga K gc) (tabC T N R K) (tabG T N R K)) :
    Calls Try.prog 4 #[.agg #[.int .i64 T, .int .i64 N, rv], tv] w fun e w' => ∃ dv D a x, e = .returned (.tuple #[dv, .int .i64 a, .int .i64 x]) ∧ ListAt w' w'.heap.size dv D ∧ (D, a, x) = ansP (parseN T N R (allN T N R K).1 (allN T N R K).2 tok) ∧ Below w.heap.size w w' := by
  obtain ⟨ra, rc, hrv⟩ := hr.1
  obtain ⟨ta, tc, htv⟩ := ht.1
  subst hrv
  subst htv
  have HB0 : Hid (Below w.heap.size w (w.alloc (.cells #[.int .i64 T, .int .i64 N, .slice ra R.length rc] 24))) := (Below.refl _ _).alloc (Nat.le_refl _) _
  have HR : Hid (RulesAt w w.heap.size (.slice ra R.length rc) R) := hr
  have HT : Hid (ListAt w w.heap.size (.slice ta tok.length tc) tok) := ht
  have HTok : Hid (∀ t ∈ tok, 0 ≤ t ∧ t < (T : Int)) := by
    intro t ht
    unfold inB at hin
    have := List.all_eq_true.1 hin t ht
    simpa using this
  have HF : Hid (Fine T N R) := hf
  have HW : Hid (Whole T N R K ∧ clashN (tabC T N R K) = 0) := ⟨hW, hcl⟩
  clear hr ht hf hW hcl hin
  go_enter Try.func4, Try.ntmps4
  go_upto_region 4 with
    (go_at_call 7
     go_loud
       (refine tf.mono ?_
        rintro e w1 ⟨hB1, ca, cc, ga, gc, rfl, hTb⟩
        rw [World.size_alloc] at hB1
        have HB1 : Hid (Below (w.heap.size + 1) (w.alloc (.cells #[.int .i64 T, .int .i64 N, .slice ra R.length rc] 24)) w1) := hB1
        have HTb : Hid (TabAt w1 (.slice ca K cc) (.slice ga K gc) (tabC T N R K) (tabG T N R K)) := hTb
        clear hB1 hTb))
  have hs1 : w.heap.size + 1 ≤ w1.heap.size := by have := HB1.out.size; simpa using this
  obtain ⟨W2, hW2⟩ : ∃ W, w1.alloc (.cells #[.slice ca K cc, .slice ga K gc] 34) = W := ⟨_, rfl⟩
  have hB2 : Below w1.heap.size w1 W2 := by rw [← hW2]; exact (Below.refl _ _).alloc (Nat.le_refl _) _
  have hBw : Below w.heap.size w W2 := (HB0.out.trans (HB1.out.mono (by omega))).trans (hB2.mono (by omega))
  have b0 : W2.cell? ⟨w.heap.size, 0, none⟩ = some (.int .i64 T) := (hB2.cell (by simp only; omega)).trans ((HB1.out.cell (by simp)).trans (by simp [go_sem]))
  have b1 : W2.cell? ⟨w.heap.size, 1, none⟩ = some (.int .i64 N) := (hB2.cell (by simp only; omega)).trans ((HB1.out.cell (by simp)).trans (by simp [go_sem]))
  have b2 : W2.cell? ⟨w.heap.size, 2, none⟩ = some (.slice ra R.length rc) := (hB2.cell (by simp only; omega)).trans ((HB1.out.cell (by simp)).trans (by simp [go_sem]))
  have t0 : W2.cell? ⟨w1.heap.size, 0, none⟩ = some (.slice ca K cc) := by rw [← hW2]; simp [go_sem]
  have t1 : W2.cell? ⟨w1.heap.size, 1, none⟩ = some (.slice ga K gc) := by rw [← hW2]; simp [go_sem]
  rw [hW2]
  clear hW2
  have E : RnE W2 ⟨W2.heap.size + 1, T, N, .slice ra R.length rc, .slice ca K cc, .slice ga K gc, .slice ta tok.length tc⟩ R tok (tabC T N R K) (tabG T N R K) :=
    ⟨(HR.out.below hBw).mono hBw.size, (HT.out.below hBw).mono hBw.size, HTb.out.below hB2⟩
  have M0 : RnM W2 ⟨W2.heap.size + 1, T, N, .slice ra R.length rc, .slice ca K cc, .slice ga K gc, .slice ta tok.length tc⟩ (.slice (some ⟨W2.heap.size, 0, none⟩) 1 1) [noPl] 0 0
      ((W2.alloc (.cells #[.int .i64 0, .slice none 0 0] 39)).alloc (.cells #[.int .i64 T, .int .i64 N, .slice ra R.length rc, .slice ca K cc, .slice ga K gc, .slice ta tok.length tc, .int .i64 0, .int .i64 0, .slice (some ⟨W2.heap.size, 0, none⟩) 1 1] 42)) := by
    refine ⟨⟨fun i r hr => ?_, fun i j x y hij hx hy g h1 h2 => ?_⟩, fun x hx => ?_, ((Below.refl _ _).alloc (Nat.le_refl _) _).alloc (by simp) _⟩
    · cases i with
      | ru =>
        simp only [RnP, Option.some.injEq] at hr
        subst hr
        have := World.ownsRow_lit (base := W2.heap.size) (e := 42) (size := 9) (W2.alloc (.cells #[.int .i64 0, .slice none 0 0] 39)) #[.int .i64 T, .int .i64 N, .slice ra R.length rc, .slice ca K cc, .slice ga K gc, .slice ta tok.length tc, .int .i64 0, .int .i64 0, .slice (some ⟨W2.heap.size, 0, none⟩) 1 1] 1 (by simp) (by unfold maxLen; omega) rfl
        simp only [World.size_alloc] at this
        exact this
      | st =>
        simp only [RnP, Option.some.injEq] at hr
        subst hr
        have := World.ownsRow_lit (base := W2.heap.size) (e := 39) (size := 2) W2 #[.int .i64 0, .slice none 0 0] 1 (Nat.le_refl _) (by unfold maxLen; omega) rfl
        exact this.alloc _
    · cases i <;> cases j <;> simp only [RnP, Option.some.injEq] at hx hy <;> subst hx <;> subst hy
      · exact hij rfl
      · simp only [Value.ownBlock, Option.some.injEq] at h1 h2; omega
      · simp only [Value.ownBlock, Option.some.injEq] at h1 h2; omega
      · exact hij rfl
    · simp only [List.mem_singleton] at hx
      subst hx
      exact .inl ⟨rfl, rfl⟩
  have rr := rn_run M0 E HF.out HW.out.1 hN HW.out.2 HTok.out h30
  have HBw : Hid (Below w.heap.size w W2) := hBw
  clear E M0 hB2 hBw
  go_wp2_with
    (go_at_call 8; refine rr.mono ?_; rintro e w3 ⟨dv, D, a, x, rfl, hL, hA, hB⟩
     obtain ⟨da, dc, hdv⟩ := hL.1
     obtain ⟨dn, hdn⟩ : ∃ n, D.length = n := ⟨_, rfl⟩
     rw [hdn] at hdv
     subst hdv
     have HRes : Hid (ListAt w3 w3.heap.size (.slice da dn dc) D ∧ (D, a, x) = ansP (parseN T N R (allN T N R K).1 (allN T N R K).2 tok) ∧ Below W2.heap.size W2 w3) := ⟨hL, hA, hB⟩
     clear hL hA hB hdn rr)
  refine bodyPost_ret (v := .tuple #[.slice da dn dc, .int .i64 a, .int .i64 x]) (by simp [results, Try.results4, go_sem]) rfl ?_
  exact ⟨_, D, a, x, rfl, HRes.out.1, HRes.out.2.1, HBw.out.trans (HRes.out.2.2.mono HBw.out.size)⟩

theorem list_nil (w : World) : ListAt w w.heap.size (.slice none 0 0) [] := ⟨⟨_, _, rfl⟩, fun _ hp => absurd hp (Nat.not_lt_zero _)⟩

theorem parse_form {w : World} {T N : Int} {rv tv : Value} {R : List Ru} {tok : List Int} (hr : RulesAt w w.heap.size rv R) (ht : ListAt w w.heap.size tv tok) (hm : mayB T N R = false) :
    Calls Try.prog 4 #[.agg #[.int .i64 T, .int .i64 N, rv], tv] w fun e w' => e = .returned (.tuple #[.slice none 0 0, .int .i64 0, .int .i64 2]) ∧ Below w.heap.size w w' :=
  pr_err hr ht (by decide) (tf_form (hr.boxed _) (ht.boxed _) hm)

theorem parse_any {w : World} {T N : Nat} {rv tv : Value} {R : List Ru} {tok : List Int} (hr : RulesAt w w.heap.size rv R) (ht : ListAt w w.heap.size tv tok) (hm : mayB T N R = true) :
    Calls Try.prog 4 #[.agg #[.int .i64 T, .int .i64 N, rv], tv] w fun e w' => ∃ dv D a x, e = .returned (.tuple #[dv, .int .i64 a, .int .i64 x]) ∧ ListAt w' w'.heap.size dv D ∧ ParseIs T N R tok (D, a, x) ∧ Below w.heap.size w w' := by
  have hr1 := hr.boxed (.cells #[.int .i64 T, .int .i64 N, rv] 24)
  have ht1 := ht.boxed (.cells #[.int .i64 T, .int .i64 N, rv] 24)
  by_cases h30 : 30 < tok.length
  · refine (pr_err hr ht (by decide) (tf_long hr1 ht1 hm h30)).mono fun e w' ⟨h1, h2⟩ => ⟨_, [], 0, 1, h1, list_nil _, ?_, h2⟩
    by_cases hmo : More T N R 150
    · exact .inl ⟨hmo, rfl⟩
    · obtain ⟨K, hW, hK⟩ := not_more (by omega) hmo
      have e : wrongE T N R tok = 1 := by simp [wrongE, hm, h30]
      exact .inr ⟨K, hW, hK, .inl ⟨by rw [e]; decide, by rw [e]⟩⟩
  · by_cases hmo : More T N R 150
    · exact (pr_err hr ht (by decide) (tf_more hr1 ht1 hm (by omega) hmo)).mono fun e w' ⟨h1, h2⟩ => ⟨_, [], 0, 1, h1, list_nil _, .inl ⟨hmo, rfl⟩, h2⟩
    · obtain ⟨K, hW, hK⟩ := not_more (by omega) hmo
      have tf := tf_whole hr1 ht1 hm (by omega) hmo
      cases hin : inB T tok with
      | false =>
        have e_ne : wrongE T N R tok = 3 := by simp [wrongE, hm, h30, hin]
        refine (pr_err (x := 3) hr ht (by decide) (tf.mono fun e w' ⟨K', k1, k2, k3, k4⟩ => ?_)).mono fun e w' ⟨h1, h2⟩ => ⟨_, [], 0, 3, h1, list_nil _, .inr ⟨K, hW, hK, .inl ⟨by rw [e_ne]; decide, by rw [e_ne]⟩⟩, h2⟩
        · rcases k4 with ⟨_, k5⟩ | ⟨k5, _⟩ | ⟨k5, _⟩
          · exact ⟨k5, k3⟩
          · rw [hin] at k5; cases k5
          · rw [hin] at k5; cases k5
      | true =>
        have e0 : wrongE T N R tok = 0 := by simp [wrongE, hm, h30, hin]
        by_cases hcl : clashN (tabC T N R K) = 0
        · obtain ⟨_, hN1, _, _, _⟩ := may_fine hm
          refine (pr_runs hr ht (may_FineR hm) hN1 hW hcl hin (by omega) (tf.mono fun e w' ⟨K', k1, k2, k3, k4⟩ => ?_)).mono fun e w' ⟨dv, D, a, x, h1, h2, h3, h4⟩ => ⟨dv, D, a, x, h1, h2, .inr ⟨K, hW, hK, .inr (.inr ⟨e0, hcl, h3⟩)⟩, h4⟩
          have := whole_one k1 hW
          subst this
          rcases k4 with ⟨k5, _⟩ | ⟨_, k5, _⟩ | ⟨_, _, k5⟩
          · rw [hin] at k5; cases k5
          · omega
          · exact ⟨k3, k5⟩
        · refine (pr_err (x := 4) hr ht (by decide) (tf.mono fun e w' ⟨K', k1, k2, k3, k4⟩ => ?_)).mono fun e w' ⟨h1, h2⟩ => ⟨_, [], 0, 4, h1, list_nil _, .inr ⟨K, hW, hK, .inr (.inl ⟨e0, by omega, rfl⟩)⟩, h2⟩
          have := whole_one k1 hW
          subst this
          rcases k4 with ⟨k5, _⟩ | ⟨_, _, k5⟩ | ⟨_, k5, _⟩
          · rw [hin] at k5; cases k5
          · exact ⟨k5, k3⟩
          · exact absurd k5 hcl

end Go.Proofs.Ytgcpllnjdnahjaa
