import Derived.Test.YtobegekmgoiopaaChartMath
import Derived.Test.YtobegekmgoiopaaTab6AndTkMath
import Derived.Test.YtobegekmgoiopaaBuildMathAndMayFine
import Derived.RegionTactic
import Derived.Deep.RegionLaw
import Derived.Deep.LoopGhost
/- How package recog's chart lies in memory, and what becomes of it. No walk. -/
namespace Go.Proofs.Ytobegekmgoiopaa
open Go.RowKit
open Go.WideMaps (KeyLaw)

/-! ### Keys -/

def itV (it : Itm) : Value := .agg #[.int .i64 it.rule, .int .i64 it.read, .int .i64 it.fr, .int .i64 it.upto]
def spV (s : Spt) : Value := .agg #[.int .i64 s.1, .int .i64 s.2]
def itC (it : Itm) : List Value := [.int .i64 it.rule, .int .i64 it.read, .int .i64 it.fr, .int .i64 it.upto]

theorem itV_inj (a b : Itm) (h : itV a = itV b) : a = b := by
  obtain ⟨a1, a2, a3, a4⟩ := a
  obtain ⟨b1, b2, b3, b4⟩ := b
  simp [itV] at h
  simp
  omega
theorem spV_inj (a b : Spt) (h : spV a = spV b) : a = b := by
  obtain ⟨a1, a2⟩ := a
  obtain ⟨b1, b2⟩ := b
  simp [spV] at h
  simp
  omega

theorem chartLaidOut : laidOutB Try.prog = true := by kernel_rfl
theorem itWide : (match Try.prog.underlying 80 with | some (.array _ _) | some (.struct _) => true | _ => false) = true := by rw [Try.underlying80 ]
theorem spWide : (match Try.prog.underlying 78 with | some (.array _ _) | some (.struct _) => true | _ => false) = true := by rw [Try.underlying78 ]
set_option maxRecDepth 100000 in
theorem itLaw : KeyLaw Try.prog 80 := deep_law_laid chartLaidOut (m := 3) (by omega) (of_decide_eq_true (by kernel_rfl)) (by kernel_rfl) itWide
set_option maxRecDepth 100000 in
theorem spLaw : KeyLaw Try.prog 78 := deep_law_laid chartLaidOut (m := 3) (by omega) (of_decide_eq_true (by kernel_rfl)) (by kernel_rfl) spWide
theorem itType : Try.prog.keyType 80 = true := by kernel_rfl
theorem spType : Try.prog.keyType 78 = true := by kernel_rfl
theorem itCells : Try.prog.cellsOf 80 = 4 := by kernel_rfl
theorem spCells : Try.prog.cellsOf 78 = 2 := by kernel_rfl
theorem intCells : Try.prog.cellsOf 3 = 1 := by kernel_rfl
theorem typesSize : ∃ m, Try.prog.types.size = m + 1 := ⟨Try.prog.types.size - 1, by kernel_rfl⟩

theorem wf_i64 {a : Int} (h0 : 0 ≤ a) (h : a ≤ 1000000) : (Lit.int .i64 a).wf = true := by
  have h1 : IntKind.i64.min ≤ a := Int.le_trans (by decide) h0
  have h2 : a ≤ IntKind.i64.max := Int.le_trans h (by decide)
  simp only [Lit.wf, decide_eq_true h1, decide_eq_true h2, Bool.and_self]

theorem key_it {it : Itm} (h1 : it.rule ≤ 1000) (h2 : it.read ≤ 1000) (h3 : it.fr ≤ 1000) (h4 : it.upto ≤ 1000) : ∃ l, keyOf Try.prog 80 (itV it) = some l := by
  obtain ⟨m, hm⟩ := typesSize
  have w1 := wf_i64 (a := it.rule) (by omega) (by omega)
  have w2 := wf_i64 (a := it.read) (by omega) (by omega)
  have w3 := wf_i64 (a := it.fr) (by omega) (by omega)
  have w4 := wf_i64 (a := it.upto) (by omega) (by omega)
  rw [← Option.isSome_iff_exists]
  unfold keyOf itV
  simp only [Try.underlying80 ]
  rw [if_pos (by simp [itType, Value.formed, Try.underlying80, itCells]), hm]
  simp [Program.keyLits, Try.underlying80, Try.underlying3, itCells, intCells, Value.cells, w1, w2, w3, w4]

theorem key_sp {s : Spt} (h0 : 0 ≤ s.1) (h1 : s.1 ≤ 1000) (h2 : s.2 ≤ 1000) : ∃ l, keyOf Try.prog 78 (spV s) = some l := by
  obtain ⟨m, hm⟩ := typesSize
  have w1 := wf_i64 (a := s.1) (by omega) (by omega)
  have w2 := wf_i64 (a := s.2) (by omega) (by omega)
  rw [← Option.isSome_iff_exists]
  unfold keyOf spV
  simp only [Try.underlying78 ]
  rw [if_pos (by simp [spType, Value.formed, Try.underlying78, spCells]), hm]
  simp [Program.keyLits, Try.underlying78, Try.underlying3, spCells, intCells, Value.cells, w1, w2]

theorem zero_none (w : World) : (zeroValue 136).run Try.prog w = .ok (.agg #[]) w := by kernel_rfl
theorem zero_items (w : World) : (zeroValue 73).run Try.prog w = .ok (.slice none 0 0) w := by kernel_rfl
theorem zero_ints (w : World) : (zeroValue 25).run Try.prog w = .ok (.slice none 0 0) w := by kernel_rfl
theorem Try.infoItm : (Try.prog.info? 80).map (fun i => (i.zero, i.size, i.bytes)) = some (some (.agg #[.int .i64 0, .int .i64 0, .int .i64 0, .int .i64 0]), 4, 32) := by kernel_rfl

/-! ### The chart -/

/-- Where it lies, and what it is of. -/
structure Ad where
  ca : Nat
  mi : Nat
  mw : Nat
  me : Nat
  T : Nat
  N : Nat
  rv : Value
  tv : Value
/-- The slices that it holds. -/
structure CM where
  ov : Value
  VW : Spt → Value
  VE : Spt → Value

inductive ChIx where
  | ch
  | op
  | wt (s : Spt)
  | en (s : Spt)
  deriving DecidableEq

def chC (d : Ad) (ov : Value) : List Value := [.int .i64 d.T, .int .i64 d.N, d.rv, d.tv, .map (some d.mi), ov, .map (some d.mw), .map (some d.me)]

def Pc (d : Ad) (v : CM) (st : ChS) : ChIx → Option Row
  | .ch => some ⟨.slice (some ⟨d.ca, 0, none⟩) 1 1, 75, 8, 1, chC d v.ov⟩
  | .op => some ⟨v.ov, 80, 4, st.O.length, st.O.flatMap itC⟩
  | .wt s => some ⟨v.VW s, 80, 4, (st.W s).length, (st.W s).flatMap itC⟩
  | .en s => some ⟨v.VE s, 3, 1, (st.E s).length, (st.E s).map fun j : Nat => Value.int .i64 j⟩

def inI (I : List Itm) (it : Itm) : Option Value := if it ∈ I then some (.agg #[]) else none
def inV {α : Type} (L : Spt → List α) (V : Spt → Value) (s : Spt) : Option Value := if (L s).length = 0 then none else some (V s)

structure ChM (w : World) (B : Nat) (d : Ad) (v : CM) (st : ChS) (nm : Nat) : Prop where
  own : Owns w B (Pc d v st)
  mapI : MapAt Try.prog 80 itV w d.mi st.I.length (inI st.I)
  mapW : MapAt Try.prog 78 spV w d.mw nm (inV st.W v.VW)
  mapE : MapAt Try.prog 78 spV w d.me nm (inV st.E v.VE)
  nilW : ∀ s, (st.W s).length = 0 → v.VW s = .slice none 0 0
  nilE : ∀ s, (st.E s).length = 0 → v.VE s = .slice none 0 0
  ne1 : d.mi ≠ d.mw
  ne2 : d.mi ≠ d.me
  ne3 : d.mw ≠ d.me
  ge : B ≤ d.mi ∧ B ≤ d.mw ∧ B ≤ d.me

/-- The chart's own blocks. -/
def Kc (d : Ad) (v : CM) (b : Nat) : Prop := b = d.mi ∨ b = d.mw ∨ b = d.me ∨ b = d.ca ∨ v.ov.ownBlock = some b ∨ (∃ s, (v.VW s).ownBlock = some b) ∨ ∃ s, (v.VE s).ownBlock = some b

/-- No other block has turned, and none that was there has become the chart's. -/
structure Goes (d : Ad) (v v' : CM) (w w' : World) : Prop where
  kept : Kept (Kc d v) w w'
  old : ∀ b, b < w.heap.size → Kc d v' b → Kc d v b

section
variable {d : Ad} {v v' v'' : CM} {w w' w'' : World} {B nm : Nat} {st : ChS}

theorem Goes.refl (d : Ad) (v : CM) (w : World) : Goes d v v w w := ⟨Kept.refl _ _, fun _ _ h => h⟩
theorem Goes.trans (h : Goes d v v' w w') (k : Goes d v' v'' w' w'') : Goes d v v'' w w'' :=
  ⟨⟨k.kept.os.trans h.kept.os, k.kept.tape.trans h.kept.tape, k.kept.output.trans h.kept.output, Nat.le_trans h.kept.size k.kept.size,
      fun b hb hK => (k.kept.block b (Nat.lt_of_lt_of_le hb h.kept.size) (fun e => hK (h.old b hb e))).trans (h.kept.block b hb hK)⟩,
    fun b hb hK => h.old b hb (k.old b (Nat.lt_of_lt_of_le hb h.kept.size) hK)⟩
theorem Goes.ofBelow (hb : Below w.heap.size w w') : Goes d v v w w' := ⟨Kept.ofBelow hb, fun _ _ h => h⟩
theorem Goes.alloc (h : Goes d v v' w w') (o : Obj) : Goes d v v' w (w'.alloc o) := h.trans (Goes.ofBelow ((Below.refl _ _).alloc (Nat.le_refl _) o))
theorem Goes.drew (h : Goes d v v' w w') : Goes d v v' w w'.drew := h.trans (Goes.ofBelow ((Below.refl _ _).drew))
/-- A block that is none of the chart's stays as it is, and is none of the chart's. -/
theorem Goes.far (h : Goes d v v' w w') {b : Nat} (hb : b < w.heap.size) (hn : ¬ Kc d v b) : w'.heap[b]? = w.heap[b]? ∧ ¬ Kc d v' b ∧ b < w'.heap.size :=
  ⟨h.kept.block b hb hn, fun e => hn (h.old b hb e), Nat.lt_of_lt_of_le hb h.kept.size⟩

theorem ChM.off (h : ChM w B d v st nm) {b : Nat} (hb : b = d.mi ∨ b = d.mw ∨ b = d.me) {i : ChIx} {r : Row} (hr : Pc d v st i = some r) : r.v.ownBlock ≠ some b := by
  obtain ⟨e1, c1, h1⟩ := h.mapI.isMap
  obtain ⟨e2, c2, h2⟩ := h.mapW.isMap
  obtain ⟨e3, c3, h3⟩ := h.mapE.isMap
  rcases hb with rfl | rfl | rfl
  · exact own_no_map (h.own.own i r hr) h1
  · exact own_no_map (h.own.own i r hr) h2
  · exact own_no_map (h.own.own i r hr) h3

theorem ChM.kc (h : ChM w B d v st nm) {b : Nat} (hb : Kc d v b) : B ≤ b ∧ b < w.heap.size := by
  rcases hb with rfl | rfl | rfl | rfl | hb | ⟨s, hb⟩ | ⟨s, hb⟩
  · exact ⟨h.ge.1, h.mapI.lt⟩
  · exact ⟨h.ge.2.1, h.mapW.lt⟩
  · exact ⟨h.ge.2.2, h.mapE.lt⟩
  · exact h.own.lt (i := .ch) rfl rfl
  · exact h.own.lt (i := .op) rfl hb
  · exact h.own.lt (i := .wt s) rfl hb
  · exact h.own.lt (i := .en s) rfl hb

theorem kc_row {i : ChIx} {r : Row} {g : Nat} (hr : Pc d v st i = some r) (hg : r.v.ownBlock = some g) : Kc d v g := by
  cases i <;> simp only [Pc, Option.some.injEq] at hr <;> subst hr
  · simp only [Value.ownBlock, Option.some.injEq] at hg
    exact .inr (.inr (.inr (.inl hg.symm)))
  · exact .inr (.inr (.inr (.inr (.inl hg))))
  · exact .inr (.inr (.inr (.inr (.inr (.inl ⟨_, hg⟩)))))
  · exact .inr (.inr (.inr (.inr (.inr (.inr ⟨_, hg⟩)))))

/-- The chart's own blocks are as they were: so is the chart. -/
theorem ChM.far (h : ChM w B d v st nm) (hh : ∀ b, b < w.heap.size → Kc d v b → w'.heap[b]? = w.heap[b]?) : ChM w' B d v st nm := by
  have k : ∀ b, Kc d v b → w'.heap[b]? = w.heap[b]? := fun b hb => hh b (h.kc hb).2 hb
  exact ⟨h.own.heap fun i r g hr hg => k g (kc_row hr hg), h.mapI.kept (k _ (.inl rfl)), h.mapW.kept (k _ (.inr (.inl rfl))), h.mapE.kept (k _ (.inr (.inr (.inl rfl)))), h.nilW, h.nilE, h.ne1, h.ne2, h.ne3, h.ge⟩
theorem ChM.below (h : ChM w B d v st nm) (hb : Below w.heap.size w w') : ChM w' B d v st nm := h.far fun b hlt _ => hb.block b hlt
theorem ChM.alloc (h : ChM w B d v st nm) (o : Obj) : ChM (w.alloc o) B d v st nm := h.below ((Below.refl _ _).alloc (Nat.le_refl _) o)
theorem ChM.drew (h : ChM w B d v st nm) : ChM w.drew B d v st nm := h.below ((Below.refl _ _).drew)
theorem ChM.goes_below (h : ChM w B d v st nm) (g : Goes d v v' w w') : Below B w w' :=
  g.kept.below (fun b hb => (h.kc hb).1) (by have := h.ge.1; have := h.mapI.lt; omega)

/-! ### What can be read -/

theorem ChM.cell (h : ChM w B d v st nm) {i : Nat} {x : Value} (hx : (chC d v.ov)[i]? = some x) (hi : i < 8) : w.cell? ⟨d.ca, i, none⟩ = some x ∧ w.frozen? ⟨d.ca, i, none⟩ = false := by
  have := h.own.cell (i := .ch) (g := d.ca) (n := 1) (cap := 1) (e := 75) (size := 8) (xs := chC d v.ov) rfl i (by omega)
  exact ⟨this.1.trans hx, this.2⟩

theorem flat_get4 {L : List Itm} {i k : Nat} (hi : i < L.length) (hk : k < 4) : (L.flatMap itC)[i * 4 + k]? = (itC (L.getD i ⟨0, 0, 0, 0⟩))[k]? := by
  induction L generalizing i with
  | nil => simp at hi
  | cons a L ih =>
    rw [List.flatMap_cons]
    have hl : (itC a).length = 4 := rfl
    cases i with
    | zero => rw [List.getElem?_append_left (by omega)]; simp
    | succ i =>
      rw [List.getElem?_append_right (by omega), hl, show (i + 1) * 4 + k - 4 = i * 4 + k by omega]
      rw [ih (by simpa using hi)]
      simp [List.getD]

theorem flat_len4 (L : List Itm) : (L.flatMap itC).length = L.length * 4 := by
  induction L with
  | nil => rfl
  | cons a L ih => rw [List.flatMap_cons, List.length_append, ih]; simp [itC]; omega

/-- An item of a row of items can be read. -/
theorem row_item {base g cap : Nat} {L : List Itm} {x : Value} (h : w.ownsRow base 80 4 x L.length (L.flatMap itC)) (hx : x = .slice (some ⟨g, 0, none⟩) L.length cap) {i : Nat} (hi : i < L.length) {it : Itm} (hit : L.getD i ⟨0, 0, 0, 0⟩ = it) :
    w.cell? ⟨g, i * 4, none⟩ = some (.int .i64 it.rule) ∧ w.cell? ⟨g, i * 4 + 1, none⟩ = some (.int .i64 it.read) ∧ w.cell? ⟨g, i * 4 + 2, none⟩ = some (.int .i64 it.fr) ∧ w.cell? ⟨g, i * 4 + 3, none⟩ = some (.int .i64 it.upto) := by
  subst hx
  subst hit
  have c : ∀ k, k < 4 → w.cell? ⟨g, i * 4 + k, none⟩ = (itC (L.getD i ⟨0, 0, 0, 0⟩))[k]? := fun k hk => by
    rw [h.cellAt (i * 4 + k) (by omega), flat_get4 hi hk]
  exact ⟨c 0 (by omega), c 1 (by omega), c 2 (by omega), c 3 (by omega)⟩

theorem row_num {base g cap : Nat} {L : List Nat} {x : Value} (h : w.ownsRow base 3 1 x L.length (L.map fun j : Nat => Value.int .i64 j)) (hx : x = .slice (some ⟨g, 0, none⟩) L.length cap) {i : Nat} (hi : i < L.length) {j : Nat} (hj : L.getD i 0 = j) :
    w.cell? ⟨g, i, none⟩ = some (.int .i64 j) := by
  subst hx
  subst hj
  rw [h.cellAt i (by omega)]
  simp [List.getD, hi]

/-! ### What becomes of it -/

theorem ChM.addI (h : ChM w B d v st nm) {it : Itm} (hg : w.grownBy w' (some d.mi)) (hm : MapAt Try.prog 80 itV w' d.mi (st.I.length + 1) (setM (inI st.I) it (.agg #[]))) :
    ChM w' B d v { st with I := st.I ++ [it] } nm ∧ Goes d v v w w' := by
  refine ⟨⟨?_, ?_, h.mapW.kept ?_, h.mapE.kept ?_, h.nilW, h.nilE, h.ne1, h.ne2, h.ne3, h.ge⟩, ⟨hg.os, hg.tape, hg.output, hg.size, fun b hb hK => hg.block b hb fun e => hK (.inl (by simpa using e))⟩, fun _ _ hK => hK⟩
  · exact h.own.heap fun i r g hr hg' => hg.block g (h.own.lt hr hg').2 fun e => h.off (.inl rfl) hr (hg'.trans e)
  · have e : setM (inI st.I) it (.agg #[]) = inI (st.I ++ [it]) := by
      funext x
      by_cases hx : x = it
      · simp [setM, inI, hx]
      · simp [setM, inI, hx]
    have := hm.congr e
    simpa using this
  · exact hg.block _ h.mapW.lt fun e => h.ne1 (by simpa using e.symm)
  · exact hg.block _ h.mapE.lt fun e => h.ne2 (by simpa using e.symm)

theorem pc_op {ov' : Value} {O' : List Itm} : upd (upd (Pc d v st) .op ⟨ov', 80, 4, O'.length, O'.flatMap itC⟩) .ch ⟨.slice (some ⟨d.ca, 0, none⟩) 1 1, 75, 8, 1, (chC d v.ov).set 5 ov'⟩ = Pc d { v with ov := ov' } { st with O := O' } := by
  funext i
  cases i <;> simp [upd, Pc, chC]

/-- The open items are others. -/
theorem ChM.opTurn (h : ChM w B d v st nm) {ov' : Value} {O' : List Itm} (hg : w.grownBy w' v.ov.ownBlock) (ho : w'.ownsRow B 80 4 ov' O'.length (O'.flatMap itC)) (hat : ∀ g, ov'.ownBlock = some g → v.ov.ownBlock = some g ∨ g = w.heap.size) :
    ChM (w'.setCell ⟨d.ca, 5, none⟩ ov') B d { v with ov := ov' } { st with O := O' } nm ∧ Goes d v { v with ov := ov' } w (w'.setCell ⟨d.ca, 5, none⟩ ov') := by
  have h1 := h.own.turn (i := .op) (r' := ⟨ov', 80, 4, O'.length, O'.flatMap itC⟩) rfl hg ho hat
  have h2 := h1.store (i := .ch) (g := d.ca) (n := 1) (cap := 1) (e := 75) (size := 8) (xs := chC d v.ov) (by simp [upd, Pc]) 5 ov'
  rw [pc_op] at h2
  have far : ∀ b, b < w.heap.size → b ≠ d.ca → some b ≠ v.ov.ownBlock → (w'.setCell ⟨d.ca, 5, none⟩ ov').heap[b]? = w.heap[b]? := fun b hb hne hr => (Below.heap_setCell _ _ _ _ hne).trans (hg.block b hb hr)
  have m : ∀ b, (b = d.mi ∨ b = d.mw ∨ b = d.me) → b < w.heap.size → (w'.setCell ⟨d.ca, 5, none⟩ ov').heap[b]? = w.heap[b]? := fun b hb hlt =>
    far b hlt (fun e => h.off hb (i := .ch) rfl (by rw [e]; rfl)) fun e => h.off hb (i := .op) rfl e.symm
  refine ⟨⟨h2, h.mapI.kept (m _ (.inl rfl) h.mapI.lt), h.mapW.kept (m _ (.inr (.inl rfl)) h.mapW.lt), h.mapE.kept (m _ (.inr (.inr rfl)) h.mapE.lt), h.nilW, h.nilE, h.ne1, h.ne2, h.ne3, h.ge⟩,
    ⟨hg.os, hg.tape, hg.output, by have := hg.size; simpa [World.setCell] using this, fun b hb hK => far b hb (fun e => hK (.inr (.inr (.inr (.inl e))))) fun e => hK (.inr (.inr (.inr (.inr (.inl e.symm)))))⟩, fun b hb hK => ?_⟩
  rcases hK with hK | hK | hK | hK | hK | hK | hK
  · exact .inl hK
  · exact .inr (.inl hK)
  · exact .inr (.inr (.inl hK))
  · exact .inr (.inr (.inr (.inl hK)))
  · rcases hat b hK with e | e
    · exact .inr (.inr (.inr (.inr (.inl e))))
    · omega
  · exact .inr (.inr (.inr (.inr (.inr (.inl hK)))))
  · exact .inr (.inr (.inr (.inr (.inr (.inr hK)))))

/-- The last open item is taken. -/
theorem ChM.pop (h : ChM w B d v st nm) {g cap : Nat} (hv : v.ov = .slice (some ⟨g, 0, none⟩) st.O.length cap) (hO : 0 < st.O.length) :
    ChM (w.setCell ⟨d.ca, 5, none⟩ (.slice (some ⟨g, 0, none⟩) (st.O.length - 1) cap)) B d { v with ov := .slice (some ⟨g, 0, none⟩) (st.O.length - 1) cap } (popF st) nm ∧
      Goes d v { v with ov := .slice (some ⟨g, 0, none⟩) (st.O.length - 1) cap } w (w.setCell ⟨d.ca, 5, none⟩ (.slice (some ⟨g, 0, none⟩) (st.O.length - 1) cap)) := by
  have ho := h.own.own .op _ rfl
  simp only [hv] at ho
  have hl : st.O.dropLast.length = st.O.length - 1 := by simp
  have ho' : w.ownsRow B 80 4 (.slice (some ⟨g, 0, none⟩) (st.O.length - 1) cap) st.O.dropLast.length (st.O.dropLast.flatMap itC) := by
    refine ⟨flat_len4 _, ?_⟩
    rcases ho.2 with ⟨e, _⟩ | ⟨g', cap', cur, e, h2, h3, h4, h5, h6, h7⟩
    · cases e
    · injection e with e1 e2 e3
      injection e1 with e1
      injection e1 with e1
      subst e1
      subst e3
      refine .inr ⟨g, cap, cur, by rw [hl], h2, h3, by omega, h5, h6, ?_⟩
      have e8 : st.O.flatMap itC = st.O.dropLast.flatMap itC ++ itC (lastO st) := by
        conv => lhs; rw [O_last hO, List.flatMap_append]
        simp
      rw [e8] at h7
      have h9 := congrArg (List.take (st.O.dropLast.length * 4)) h7
      rw [List.take_take, Nat.min_eq_left (by omega), ← flat_len4, List.take_left] at h9
      rw [← flat_len4]
      exact h9
  have := h.opTurn (World.grownBy.refl w _) ho' (fun b hb => .inl (by rw [hv]; exact hb))
  exact ⟨⟨this.1.own, this.1.mapI, this.1.mapW, this.1.mapE, this.1.nilW, this.1.nilE, h.ne1, h.ne2, h.ne3, h.ge⟩, this.2⟩

theorem pc_wt {s : Spt} {it : Itm} {nv : Value} : upd (Pc d v st) (.wt s) ⟨nv, 80, 4, (st.W s ++ [it]).length, (st.W s ++ [it]).flatMap itC⟩ = Pc d { v with VW := setS v.VW s nv } (addW s it st) := by
  funext i
  cases i with
  | ch => simp [upd, Pc]
  | op => simp [upd, Pc, addW]
  | en t => simp [upd, Pc, addW]
  | wt t =>
    by_cases e : t = s
    · subst e; simp [upd, Pc, addW, setS]
    · simp [upd, Pc, addW, setS, e]

theorem pc_en {s : Spt} {j : Nat} {nv : Value} : upd (Pc d v st) (.en s) ⟨nv, 3, 1, (st.E s ++ [j]).length, (st.E s ++ [j]).map fun j : Nat => Value.int .i64 j⟩ = Pc d { v with VE := setS v.VE s nv } (addE s j st) := by
  funext i
  cases i with
  | ch => simp [upd, Pc]
  | op => simp [upd, Pc, addE]
  | wt t => simp [upd, Pc, addE]
  | en t =>
    by_cases e : t = s
    · subst e; simp [upd, Pc, addE, setS]
    · simp [upd, Pc, addE, setS, e]

theorem setM_inV {α : Type} {L : Spt → List α} {V : Spt → Value} {s : Spt} {x : α} {nv : Value} : setM (inV L V) s nv = inV (setS L s (L s ++ [x])) (setS V s nv) := by
  funext t
  by_cases e : t = s
  · subst e; simp [setM, inV, setS]
  · simp [setM, inV, setS, e]

/-- An item waits. -/
theorem ChM.addW (h : ChM w B d v st nm) {w1 w2 w3 : World} {s : Spt} {it : Itm} {nv : Value} (g1 : w.grownBy w1 (some d.mw)) (hs1 : w1.heap.size = w.heap.size) (g2 : w1.grownBy w2 (v.VW s).ownBlock)
    (ho : w2.ownsRow B 80 4 nv (st.W s ++ [it]).length ((st.W s ++ [it]).flatMap itC)) (hat : ∀ g, nv.ownBlock = some g → (v.VW s).ownBlock = some g ∨ g = w.heap.size)
    (g3 : w2.grownBy w3 (some d.mw)) (hm : MapAt Try.prog 78 spV w3 d.mw (nm + 1) (setM (inV st.W v.VW) s nv)) :
    ChM w3 B d { v with VW := setS v.VW s nv } (addW s it st) (nm + 1) ∧ Goes d v { v with VW := setS v.VW s nv } w w3 := by
  have hW := h.mapW.lt
  have o1 : Owns w1 B (Pc d v st) := h.own.heap fun i r g hr hg' => g1.block g (h.own.lt hr hg').2 fun e => h.off (.inr (.inl rfl)) hr (hg'.trans e)
  have o2 := o1.turn (i := .wt s) (r' := ⟨nv, 80, 4, (st.W s ++ [it]).length, (st.W s ++ [it]).flatMap itC⟩) rfl g2 ho (fun g hg => by rw [hs1]; exact hat g hg)
  have hn : nv.ownBlock ≠ some d.mw := fun e => by
    rcases hat _ e with e1 | e1
    · exact h.off (.inr (.inl rfl)) (i := .wt s) rfl e1
    · omega
  have o3 : Owns w3 B (upd (Pc d v st) (.wt s) ⟨nv, 80, 4, (st.W s ++ [it]).length, (st.W s ++ [it]).flatMap itC⟩) := o2.heap fun i r g hr hg' => g3.block g (o2.lt hr hg').2 fun e => by
    rcases upd_cases hr with ⟨_, rfl⟩ | ⟨_, hr'⟩
    · exact hn (hg'.trans e)
    · exact h.off (.inr (.inl rfl)) hr' (hg'.trans e)
  rw [pc_wt] at o3
  have far : ∀ b, b < w.heap.size → b ≠ d.mw → some b ≠ (v.VW s).ownBlock → w3.heap[b]? = w.heap[b]? := fun b hb h1 h2 =>
    ((g3.block b (by have := g2.size; omega) (fun e => h1 (by simpa using e))).trans (g2.block b (by omega) h2)).trans (g1.block b hb (fun e => h1 (by simpa using e)))
  refine ⟨⟨o3, h.mapI.kept (far _ h.mapI.lt h.ne1 fun e => h.off (.inl rfl) (i := .wt s) rfl e.symm), ?_, (h.mapE.kept (far _ h.mapE.lt h.ne3.symm fun e => h.off (.inr (.inr rfl)) (i := .wt s) rfl e.symm)).mono (Nat.le_succ _), fun t ht => ?_, h.nilE, h.ne1, h.ne2, h.ne3, h.ge⟩,
    ⟨(g3.os.trans g2.os).trans g1.os, (g3.tape.trans g2.tape).trans g1.tape, (g3.output.trans g2.output).trans g1.output, Nat.le_trans g1.size (Nat.le_trans g2.size g3.size), fun b hb hK => far b hb (fun e => hK (.inr (.inl e))) fun e => hK (.inr (.inr (.inr (.inr (.inr (.inl ⟨s, e.symm⟩))))))⟩, fun b hb hK => ?_⟩
  · rw [setM_inV (x := it)] at hm
    exact hm
  · by_cases e : t = s
    · subst e; simp [Proofs.Ytobegekmgoiopaa.addW, setS] at ht
    · simp only [Proofs.Ytobegekmgoiopaa.addW, setS, e, if_false] at ht ⊢
      exact h.nilW t ht
  · rcases hK with hK | hK | hK | hK | hK | ⟨t, hK⟩ | hK
    · exact .inl hK
    · exact .inr (.inl hK)
    · exact .inr (.inr (.inl hK))
    · exact .inr (.inr (.inr (.inl hK)))
    · exact .inr (.inr (.inr (.inr (.inl hK))))
    · refine .inr (.inr (.inr (.inr (.inr (.inl ?_)))))
      by_cases e : t = s
      · subst e
        simp only [setS_same] at hK
        rcases hat b hK with e1 | e1
        · exact ⟨_, e1⟩
        · omega
      · simp only [setS_other _ e] at hK
        exact ⟨t, hK⟩
    · exact .inr (.inr (.inr (.inr (.inr (.inr hK)))))

/-- An end is noted. -/
theorem ChM.addE (h : ChM w B d v st nm) {w1 w2 w3 : World} {s : Spt} {j : Nat} {nv : Value} (g1 : w.grownBy w1 (some d.me)) (hs1 : w1.heap.size = w.heap.size) (g2 : w1.grownBy w2 (v.VE s).ownBlock)
    (ho : w2.ownsRow B 3 1 nv (st.E s ++ [j]).length ((st.E s ++ [j]).map fun j : Nat => Value.int .i64 j)) (hat : ∀ g, nv.ownBlock = some g → (v.VE s).ownBlock = some g ∨ g = w.heap.size)
    (g3 : w2.grownBy w3 (some d.me)) (hm : MapAt Try.prog 78 spV w3 d.me (nm + 1) (setM (inV st.E v.VE) s nv)) :
    ChM w3 B d { v with VE := setS v.VE s nv } (addE s j st) (nm + 1) ∧ Goes d v { v with VE := setS v.VE s nv } w w3 := by
  have hW := h.mapE.lt
  have o1 : Owns w1 B (Pc d v st) := h.own.heap fun i r g hr hg' => g1.block g (h.own.lt hr hg').2 fun e => h.off (.inr (.inr rfl)) hr (hg'.trans e)
  have o2 := o1.turn (i := .en s) (r' := ⟨nv, 3, 1, (st.E s ++ [j]).length, (st.E s ++ [j]).map fun j : Nat => Value.int .i64 j⟩) rfl g2 ho (fun g hg => by rw [hs1]; exact hat g hg)
  have hn : nv.ownBlock ≠ some d.me := fun e => by
    rcases hat _ e with e1 | e1
    · exact h.off (.inr (.inr rfl)) (i := .en s) rfl e1
    · omega
  have o3 : Owns w3 B (upd (Pc d v st) (.en s) ⟨nv, 3, 1, (st.E s ++ [j]).length, (st.E s ++ [j]).map fun j : Nat => Value.int .i64 j⟩) := o2.heap fun i r g hr hg' => g3.block g (o2.lt hr hg').2 fun e => by
    rcases upd_cases hr with ⟨_, rfl⟩ | ⟨_, hr'⟩
    · exact hn (hg'.trans e)
    · exact h.off (.inr (.inr rfl)) hr' (hg'.trans e)
  rw [pc_en] at o3
  have far : ∀ b, b < w.heap.size → b ≠ d.me → some b ≠ (v.VE s).ownBlock → w3.heap[b]? = w.heap[b]? := fun b hb h1 h2 =>
    ((g3.block b (by have := g2.size; omega) (fun e => h1 (by simpa using e))).trans (g2.block b (by omega) h2)).trans (g1.block b hb (fun e => h1 (by simpa using e)))
  refine ⟨⟨o3, h.mapI.kept (far _ h.mapI.lt h.ne2 fun e => h.off (.inl rfl) (i := .en s) rfl e.symm), (h.mapW.kept (far _ h.mapW.lt h.ne3 fun e => h.off (.inr (.inl rfl)) (i := .en s) rfl e.symm)).mono (Nat.le_succ _), ?_, h.nilW, fun t ht => ?_, h.ne1, h.ne2, h.ne3, h.ge⟩,
    ⟨(g3.os.trans g2.os).trans g1.os, (g3.tape.trans g2.tape).trans g1.tape, (g3.output.trans g2.output).trans g1.output, Nat.le_trans g1.size (Nat.le_trans g2.size g3.size), fun b hb hK => far b hb (fun e => hK (.inr (.inr (.inl e)))) fun e => hK (.inr (.inr (.inr (.inr (.inr (.inr ⟨s, e.symm⟩))))))⟩, fun b hb hK => ?_⟩
  · rw [setM_inV (x := j)] at hm
    exact hm
  · by_cases e : t = s
    · subst e; simp [Proofs.Ytobegekmgoiopaa.addE, setS] at ht
    · simp only [Proofs.Ytobegekmgoiopaa.addE, setS, e, if_false] at ht ⊢
      exact h.nilE t ht
  · rcases hK with hK | hK | hK | hK | hK | hK | ⟨t, hK⟩
    · exact .inl hK
    · exact .inr (.inl hK)
    · exact .inr (.inr (.inl hK))
    · exact .inr (.inr (.inr (.inl hK)))
    · exact .inr (.inr (.inr (.inr (.inl hK))))
    · exact .inr (.inr (.inr (.inr (.inr (.inl hK)))))
    · refine .inr (.inr (.inr (.inr (.inr (.inr ?_)))))
      by_cases e : t = s
      · subst e
        simp only [setS_same] at hK
        rcases hat b hK with e1 | e1
        · exact ⟨_, e1⟩
        · omega
      · simp only [setS_other _ e] at hK
        exact ⟨t, hK⟩
end

end Go.Proofs.Ytobegekmgoiopaa

/- The contracts of recog's put and readOn. -/
namespace Go.Proofs.Ytobegekmgoiopaa
open Go.RowKit

/-- Numbers of an item that a key may bear. -/
structure Small (it : Itm) : Prop where
  a : it.rule ≤ 1000
  b : it.read ≤ 1000
  c : it.fr ≤ 1000
  e : it.upto ≤ 1000

theorem look_I {w : World} {B nm : Nat} {d : Ad} {v : CM} {st : ChS} (h : ChM w B d v st nm) {it : Itm} (hs : Small it) (hI : st.I.length ≤ 1000000) :
    (Instr.lookup 70 (.map (some d.mi)) (itV it) true).run Try.prog w = .ok (.tuple #[.agg #[], .bool (decide (it ∈ st.I))]) w := by
  obtain ⟨l, hl⟩ := key_it hs.a hs.b hs.c hs.e
  have := mapAt_look h.mapI true (by unfold maxLen; omega) itLaw Try.underlying70 (zero_none w) itV_inj hl
  rw [this]
  by_cases hi : it ∈ st.I <;> simp [inI, hi]

theorem put_I {w : World} {B nm : Nat} {d : Ad} {v : CM} {st : ChS} (h : ChM w B d v st nm) {it : Itm} (hs : Small it) :
    ∃ w', (Instr.mapUpdate 70 (.map (some d.mi)) (itV it) (.agg #[])).run Try.prog w = .ok () w' ∧ ChM w' B d v { st with I := st.I ++ [it] } nm ∧ Goes d v v w w' := by
  obtain ⟨l, hl⟩ := key_it hs.a hs.b hs.c hs.e
  obtain ⟨w', h1, h2, h3, _⟩ := mapAt_update h.mapI itLaw Try.underlying70 itV_inj hl (.agg #[])
  obtain ⟨h4, h5⟩ := h.addI h3 h2
  exact ⟨w', h1, h4, h5⟩

set_option maxRecDepth 100000 in
set_option maxHeartbeats 1600000 in
theorem put_old {w : World} {B nm : Nat} {d : Ad} {v : CM} {st : ChS} (h : ChM w B d v st nm) {a b c e : Nat} (hs : Small ⟨a, b, c, e⟩) (hI : st.I.length ≤ 1000000) (hin : (⟨a, b, c, e⟩ : Itm) ∈ st.I) :
    Calls Try.prog 38 #[.pointer (some ⟨d.ca, 0, none⟩), .agg #[.int .i64 a, .int .i64 b, .int .i64 c, .int .i64 e]] w fun e w' => e = .returned (.tuple #[]) ∧ ChM w' B d v st nm ∧ Goes d v v w w' := by
  have h1 := h.alloc (.cells #[.int .i64 a, .int .i64 b, .int .i64 c, .int .i64 e] 80)
  have h2 := h1.alloc (.cells #[] 136)
  have l1 := look_I h1.drew hs hI
  have l2 := look_I h2.drew hs hI
  have c4 := (h1.cell (i := 4) rfl (by omega)).1
  have d4 := (h2.cell (i := 4) rfl (by omega)).1
  rw [decide_eq_true hin] at l1 l2
  unfold itV at l1 l2
  simp only at l1 l2
  have HH : Hid (ChM w B d v st nm) := h
  clear h h1 h2 hin
  go_enter Try.func38, Try.ntmps38
  go_wp2_with fail
  go_region
  all_goals
    go_wp2_with fail
    refine bodyPost_ret (v := .tuple #[]) (results_none Try.results38 _ _ _) rfl ?_
    have hb : Below w.heap.size w ((w.alloc (.cells #[.int .i64 a, .int .i64 b, .int .i64 c, .int .i64 e] 80)).alloc (.cells #[] 136)).drew := (((Below.refl _ _).alloc (Nat.le_refl _) _).alloc (by simp) _).drew
    exact ⟨rfl, HH.out.below hb, Goes.ofBelow hb⟩

set_option maxRecDepth 100000 in
set_option maxHeartbeats 3200000 in
theorem put_new {w : World} {B nm : Nat} {d : Ad} {v : CM} {st : ChS} (h : ChM w B d v st nm) {a b c e : Nat} (hs : Small ⟨a, b, c, e⟩) (hI : st.I.length ≤ 1000000) (hO : st.O.length ≤ 1000000) (hin : (⟨a, b, c, e⟩ : Itm) ∉ st.I) :
    Calls Try.prog 38 #[.pointer (some ⟨d.ca, 0, none⟩), .agg #[.int .i64 a, .int .i64 b, .int .i64 c, .int .i64 e]] w fun r w' => r = .returned (.tuple #[]) ∧ ∃ ov', ChM w' B d { v with ov := ov' } { st with I := st.I ++ [⟨a, b, c, e⟩], O := st.O ++ [⟨a, b, c, e⟩] } nm ∧ Goes d v { v with ov := ov' } w w' := by
  have h1 := h.alloc (.cells #[.int .i64 a, .int .i64 b, .int .i64 c, .int .i64 e] 80)
  have h2 := h1.alloc (.cells #[] 136)
  have l1 := look_I h1.drew hs hI
  have l2 := look_I h2.drew hs hI
  have c4 := (h1.cell (i := 4) rfl (by omega)).1
  have d4 := (h2.cell (i := 4) rfl (by omega)).1
  rw [decide_eq_false hin] at l1 l2
  unfold itV at l1 l2
  simp only at l1 l2
  have hb : Below w.heap.size w ((w.alloc (.cells #[.int .i64 a, .int .i64 b, .int .i64 c, .int .i64 e] 80)).alloc (.cells #[] 136)).drew := (((Below.refl _ _).alloc (Nat.le_refl _) _).alloc (by simp) _).drew
  obtain ⟨w3, u3, h3, g3⟩ := put_I h2.drew.drew hs
  unfold itV at u3
  simp only at u3
  have lb : ¬ Kc d v w.heap.size := fun hk => by have := (h.kc hk).2; omega
  have hbox : w3.heap[w.heap.size]? = some (.cells #[.int .i64 a, .int .i64 b, .int .i64 c, .int .i64 e] 80) := by
    rw [(g3.far (b := w.heap.size) (by simp; omega) lb).1]
    show ((w.alloc _).alloc _).heap[w.heap.size]? = _
    rw [(World.grownBy_alloc _ _ none).block _ (by simp) (by simp)]
    exact heap_alloc_new _ _
  have hsz3 : w.heap.size + 2 ≤ w3.heap.size := by have := g3.kept.size; simpa using this
  have HG : Hid (Goes d v v w w3) := (Goes.ofBelow hb.drew).trans g3
  have H3 : Hid (ChM w3 B d v { st with I := st.I ++ [⟨a, b, c, e⟩] } nm) := h3
  have b0 : w3.cell? ⟨w.heap.size, 0, none⟩ = some (.int .i64 a) := by simp [World.cell?, hbox]
  have b1 : w3.cell? ⟨w.heap.size, 1, none⟩ = some (.int .i64 b) := by simp [World.cell?, hbox]
  have b2 : w3.cell? ⟨w.heap.size, 2, none⟩ = some (.int .i64 c) := by simp [World.cell?, hbox]
  have b3 : w3.cell? ⟨w.heap.size, 3, none⟩ = some (.int .i64 e) := by simp [World.cell?, hbox]
  clear h h1 h2 hin h3 g3 hb hbox
  go_enter Try.func38, Try.ntmps38
  go_wp2_with fail
  go_region
  all_goals
    go_wp2_with fail
    clear l1 l2 c4
    go_region
    go_wp2_with fail
    clear u3 d4
    have h4 := H3.out.alloc (.cells #[.int .i64 a, .int .i64 b, .int .i64 c, .int .i64 e] 80)
    obtain ⟨oa, oc, hov⟩ := h4.own.slice (i := .op) rfl
    have hov' : v.ov = .slice oa st.O.length oc := hov
    have e5 := (H3.out.cell (i := 5) rfl (by omega)).1
    have f5 := (h4.cell (i := 5) rfl (by omega)).1
    rw [hov'] at e5 f5
    have own4 : ((w3.alloc (.cells #[.int .i64 a, .int .i64 b, .int .i64 c, .int .i64 e] 80)).drew).ownsRow B 80 4 (.slice oa st.O.length oc) st.O.length (st.O.flatMap itC) := by
      have := h4.own.own .op _ rfl
      simp only [hov'] at this
      exact this
    have hca : d.ca < w3.heap.size := (H3.out.kc (.inr (.inr (.inr (.inl rfl))))).2
    have hne : some d.ca ≠ (Value.slice oa st.O.length oc).ownBlock := fun e1 => h4.own.apart .ch .op _ _ (by simp) rfl rfl d.ca rfl (by show v.ov.ownBlock = _; rw [hov']; exact e1.symm)
    have f5f := (h4.cell (i := 5) rfl (by omega)).2
    have hn1 : st.O.length + 1 ≤ maxLen := by unfold maxLen; omega
    have hn2 : (st.O.length + 1) * 32 ≤ 140737488355328 := by omega
    have hB3 : B ≤ w3.heap.size := by have := H3.out.ge.1; have := H3.out.mapI.lt; omega
    have H4 : Hid (ChM (w3.alloc (.cells #[.int .i64 a, .int .i64 b, .int .i64 c, .int .i64 e] 80)).drew B d v { st with I := st.I ++ [⟨a, b, c, e⟩] } nm) := h4.drew
    have HV : Hid (v.ov = .slice oa st.O.length oc) := hov'
    obtain ⟨i0, hi0, hz0, hz1, hz2⟩ := info_parts Try.infoItm
    clear h4 hov hov' H3
    go_region_law
      ((refine step_append_lies _ (by rfl) _ _ _ (by rfl) B 80 i0 _ 4 32 Try.underlying73 hi0 hz0 hz1 hz2 rfl (by omega) (.slice oa st.O.length oc) st.O.length (st.O.flatMap itC) (by rfl) own4
          ⟨w3.heap.size, 0, none⟩ 1 1 [.int .i64 a, .int .i64 b, .int .i64 c, .int .i64 e] (by rfl) (by rfl) (World.news_of_block (cs := #[.int .i64 a, .int .i64 b, .int .i64 c, .int .i64 e]) (t := 80) (fr := (0, 0)) (heap_alloc_new w3 _)) (by simp [Value.oneCell'])
          (by omega) hn1 hn2 (by simp; omega) (w3.heap.size + 1) (by simp) ?_; intro g cap w5 hown5 hgrow hat hlt; have c5' := (hgrow.cell_far ⟨d.ca, 5, none⟩ (by simp; omega) hne).trans f5; have f5' := (hgrow.frozen_far ⟨d.ca, 5, none⟩ (by simp; omega) hne).trans f5f))
    all_goals
      go_wp2_with fail
      go_end0
      have hat' : ∀ g', (Value.slice (some ⟨g, 0, none⟩) (st.O.length + 1) cap).ownBlock = some g' → v.ov.ownBlock = some g' ∨ g' = ((w3.alloc (.cells #[.int .i64 a, .int .i64 b, .int .i64 c, .int .i64 e] 80)).drew).heap.size := fun g' hg' => by
        obtain rfl : g = g' := by simpa [Value.ownBlock] using hg'
        rw [HV.out]
        rcases hat with h5 | h5
        · exact .inl h5
        · exact .inr (by simpa using h5)
      have r := H4.out.opTurn (O' := st.O ++ [⟨a, b, c, e⟩]) (ov' := .slice (some ⟨g, 0, none⟩) (st.O.length + 1) cap) (by rw [HV.out]; exact hgrow) (by simpa [List.flatMap_append, itC] using hown5) hat'
      exact ⟨rfl, _, r.1, (HG.out.trans (Goes.ofBelow (((Below.refl _ _).alloc (Nat.le_refl _) _).drew))).trans r.2⟩

theorem ch_put_any {w : World} {B nm : Nat} {d : Ad} {v : CM} {st : ChS} (h : ChM w B d v st nm) {a b c e : Nat} (hs : Small ⟨a, b, c, e⟩) (hI : st.I.length ≤ 1000000) (hO : st.O.length ≤ 1000000) :
    Calls Try.prog 38 #[.pointer (some ⟨d.ca, 0, none⟩), .agg #[.int .i64 a, .int .i64 b, .int .i64 c, .int .i64 e]] w fun r w' => r = .returned (.tuple #[]) ∧ ∃ ov', ChM w' B d { v with ov := ov' } (putF st ⟨a, b, c, e⟩) nm ∧ Goes d v { v with ov := ov' } w w' := by
  unfold putF
  split
  · rename_i hin
    exact (put_old h hs hI hin).mono fun r w' ⟨h1, h2, h3⟩ => ⟨h1, v.ov, h2, h3⟩
  · rename_i hin
    exact put_new h hs hI hO hin

set_option maxRecDepth 100000 in
set_option maxHeartbeats 1600000 in
theorem readOn_any {w : World} {B nm : Nat} {d : Ad} {v : CM} {st : ChS} (h : ChM w B d v st nm) {a b c e j : Nat} (hs : Small (adv ⟨a, b, c, e⟩ j)) (hI : st.I.length ≤ 1000000) (hO : st.O.length ≤ 1000000) :
    Calls Try.prog 41 #[.pointer (some ⟨d.ca, 0, none⟩), .agg #[.int .i64 a, .int .i64 b, .int .i64 c, .int .i64 e], .int .i64 j] w fun r w' => r = .returned (.tuple #[]) ∧ ∃ ov', ChM w' B d { v with ov := ov' } (putF st (adv ⟨a, b, c, e⟩ j)) nm ∧ Goes d v { v with ov := ov' } w w' := by
  have hb1 := hs.b
  have hb2 : b + 1 ≤ 1000 := hb1
  have h1 := h.alloc (.cells #[.int .i64 a, .int .i64 ((b : Int) + 1), .int .i64 c, .int .i64 j] 80)
  have put := ch_put_any h1 (a := a) (b := b + 1) (c := c) (e := j) hs hI hO
  rw [show ((b + 1 : Nat) : Int) = (b : Int) + 1 from rfl] at put
  clear h h1
  go_enter Try.func41, Try.ntmps41
  go_wp2_with (go_at_call 38; refine put.mono ?_; rintro r w1 ⟨rfl, v', h2, h3⟩)
  go_end0
  exact ⟨rfl, v', h2, (Goes.ofBelow ((Below.refl _ _).alloc (Nat.le_refl _) _)).trans h3⟩

end Go.Proofs.Ytobegekmgoiopaa

/- The contract of recog's begin. -/
namespace Go.Proofs.Ytobegekmgoiopaa
open Go.RowKit

theorem len_put (st : ChS) (it : Itm) : (putF st it).I.length ≤ st.I.length + 1 ∧ (putF st it).O.length ≤ st.O.length + 1 := by
  unfold putF
  split <;> simp
theorem len_begin (R : List Ru) (s : Spt) (st : ChS) : ∀ k, (beginF R s k st).I.length ≤ st.I.length + k ∧ (beginF R s k st).O.length ≤ st.O.length + k := by
  intro k
  induction k with
  | zero => exact ⟨Nat.le_refl _, Nat.le_refl _⟩
  | succ k ih =>
    unfold beginF
    split
    · have := len_put (beginF R s k st) ⟨k, 0, s.2, s.2⟩; omega
    · omega

/-- A local block of two numbers. -/
def Loc2 (w : World) (d : Ad) (v : CM) (b : Nat) (x y : Int) (t : TypeId) : Prop := w.heap[b]? = some (.cells #[.int .i64 x, .int .i64 y] t) ∧ ¬ Kc d v b ∧ b < w.heap.size
theorem Loc2.goes {w w' : World} {d : Ad} {v v' : CM} {b : Nat} {x y : Int} {t : TypeId} (h : Loc2 w d v b x y t) (g : Goes d v v' w w') : Loc2 w' d v' b x y t := by
  obtain ⟨h1, h2, h3⟩ := g.far h.2.2 h.2.1
  exact ⟨h1.trans h.1, h2, h3⟩
theorem Loc2.cells {w : World} {d : Ad} {v : CM} {b : Nat} {x y : Int} {t : TypeId} (h : Loc2 w d v b x y t) : w.cell? ⟨b, 0, none⟩ = some (.int .i64 x) ∧ w.cell? ⟨b, 1, none⟩ = some (.int .i64 y) := by
  constructor <;> simp [World.cell?, h.1]
theorem Loc2.mk {w : World} {B nm : Nat} {d : Ad} {v : CM} {st : ChS} (h : ChM w B d v st nm) (x y : Int) (t : TypeId) : Loc2 (w.alloc (.cells #[.int .i64 x, .int .i64 y] t)) d v w.heap.size x y t :=
  ⟨heap_alloc_new _ _, fun hk => by have := (h.kc hk).2; omega, by simp⟩

set_option maxRecDepth 100000 in
set_option maxHeartbeats 3200000 in
theorem begin_any {w : World} {B nm : Nat} {d : Ad} {v : CM} {st : ChS} {R : List Ru} (h : ChM w B d v st nm) (hr : RulesAt w B d.rv R) {n : Int} {p : Nat} (hR : R.length ≤ 40) (hp : p ≤ 1000) (hI : st.I.length + 40 ≤ 1000000) (hO : st.O.length + 40 ≤ 1000000) :
    Calls Try.prog 24 #[.pointer (some ⟨d.ca, 0, none⟩), .agg #[.int .i64 n, .int .i64 p]] w fun r w' => r = .returned (.tuple #[]) ∧ ∃ ov', ChM w' B d { v with ov := ov' } (beginF R (n, p) R.length st) nm ∧ Goes d v { v with ov := ov' } w w' := by
  obtain ⟨ra, rc, hrv⟩ := hr.1
  have h1 := h.alloc (.cells #[.int .i64 n, .int .i64 p] 78)
  have c2 := (h1.cell (i := 2) rfl (by omega)).1
  rw [hrv] at c2
  have HR : Hid (∀ wr v', Goes d v v' (w.alloc (.cells #[.int .i64 n, .int .i64 p] 78)) wr → RulesAt wr B (.slice ra R.length rc) R ∧ Loc2 wr d v' w.heap.size n p 78) := fun wr v' g => by
    refine ⟨?_, (Loc2.mk h n p 78).goes g⟩
    rw [← hrv]
    have hB := h1.goes_below g
    exact hr.below ((h.goes_below (Goes.ofBelow ((Below.refl _ _).alloc (Nat.le_refl _) _))).trans hB)
  have H1 : Hid (ChM (w.alloc (.cells #[.int .i64 n, .int .i64 p] 78)) B d v st nm) := h1
  clear h h1 hr
  go_enter Try.func24, Try.ntmps24
  go_wp2_with fail
  clear c2
  go_loopw [12] (fun s wr => ∃ (k : Nat) (ov' : Value), s = .int .i64 k ∧ k ≤ R.length ∧ ChM wr B d { v with ov := ov' } (beginF R (n, p) k st) nm ∧ Goes d v { v with ov := ov' } (w.alloc (.cells #[.int .i64 n, .int .i64 p] 78)) wr) (fun s _ => R.length - (intOf s).toNat)
  case atStart => exact ⟨0, v.ov, rfl, Nat.zero_le _, H1.out, Goes.refl _ _ _⟩
  case round =>
    obtain ⟨k, ov1, rfl, hk, hC, hG⟩ := hrel
    obtain ⟨v1, hv1⟩ : ∃ v1, ({ v with ov := ov1 } : CM) = v1 := ⟨_, rfl⟩
    rw [hv1] at hC hG
    have HV1 : Hid (({ v with ov := ov1 } : CM) = v1) := hv1
    clear hv1
    have HG : Hid (Goes d v v1 (w.alloc (.cells #[.int .i64 n, .int .i64 p] 78)) wr) := hG
    by_cases hlt : k < R.length
    · obtain ⟨hRw, hL⟩ := HR.out wr v1 hG
      obtain ⟨rb, ro, rc', qa, qc, hv, hb, k1, k2, _, _⟩ := hRw.2 k hlt
      injection hv with hva _ hvc
      subst hva
      subst hvc
      obtain ⟨⟨L, Rt⟩, hre⟩ : ∃ x, R.getD k (0, []) = x := ⟨_, rfl⟩
      rw [hre] at k1 k2
      simp only at k1 k2
      obtain ⟨rl, hrl⟩ : ∃ rl, Rt.length = rl := ⟨_, rfl⟩
      rw [hrl] at k2
      have k2' : wr.cell? ⟨rb, ro + k * 2 + 1, none⟩ = some (.slice qa rl qc) := by rw [Nat.add_assoc]; exact k2
      obtain ⟨l0, l1⟩ := hL.cells
      have m0 : (wr.alloc (.cells #[.int .i64 L, .slice qa rl qc] 28)).cell? ⟨w.heap.size, 0, none⟩ = some (.int .i64 n) := (World.cell?_alloc_past _ _ _ hL.2.2).trans l0
      have m1 : (wr.alloc (.cells #[.int .i64 L, .slice qa rl qc] 28)).cell? ⟨w.heap.size, 1, none⟩ = some (.int .i64 p) := (World.cell?_alloc_past _ _ _ hL.2.2).trans l1
      have i0 : (0 : Int) ≤ (k : Int) := Int.natCast_nonneg _
      have i1 : (k : Int) < (R.length : Int) := by omega
      have hlen := len_begin R (n, p) st k
      by_cases hLn : L = n
      · have put := ch_put_any (hC.alloc (.cells #[.int .i64 L, .slice qa rl qc] 28)) (a := k) (b := 0) (c := p) (e := p) ⟨by simp; omega, by simp, by simpa using hp, by simpa using hp⟩ (by omega) (by omega)
        have HE : Hid (beginF R (n, p) (k + 1) st = putF (beginF R (n, p) k st) ⟨k, 0, p, p⟩) := by
          show beginF R (n, p) (k + 1) st = _
          rw [beginF, hre]
          simp only [hLn, if_true]
        subst hLn
        rw [show ((0 : Nat) : Int) = 0 from rfl] at put
        have HC : Hid (Goes d v1 v1 wr (wr.alloc (.cells #[.int .i64 L, .slice qa rl qc] 28))) := (Goes.refl _ _ _).alloc _
        clear hC hG hRw hL k2 hre hrl hlen
        go_wp2_with (go_at_call 38; refine put.mono ?_; rintro r w1 ⟨rfl, v2, h2, h3⟩)
        go_roundw
        case rel => exact ⟨k + 1, v2, by go_num, by omega, by rw [HE.out]; rw [← HV1.out] at h2; exact h2, by rw [← HV1.out] at h3 HG HC; exact (HG.out.trans HC.out).trans h3⟩
        case measure => simp [intOf]; omega
      · have HE : Hid (beginF R (n, p) (k + 1) st = beginF R (n, p) k st) := by
          show beginF R (n, p) (k + 1) st = _
          rw [beginF, hre]
          simp only [hLn, if_false]
        have HC : Hid (ChM wr B d v1 (beginF R (n, p) k st) nm) := hC
        have hLn' : (L == n) = false := by simpa using hLn
        clear hC hG hRw hL k2 hre hrl hlen
        go_wp2_with fail
        go_roundw
        case rel => exact ⟨k + 1, ov1, by go_num, by omega, by rw [HE.out, HV1.out]; exact HC.out.alloc _, by rw [HV1.out]; exact HG.out.alloc _⟩
        case measure => simp [intOf]; omega
    · obtain rfl : k = R.length := by omega
      have HC : Hid (ChM wr B d v1 (beginF R (n, p) R.length st) nm) := hC
      clear hC hG
      go_wp2_with fail
      go_end0
      rw [← HV1.out] at HC HG
      exact ⟨rfl, ov1, HC.out, (Goes.ofBelow ((Below.refl _ _).alloc (Nat.le_refl _) _)).trans HG.out⟩

end Go.Proofs.Ytobegekmgoiopaa
