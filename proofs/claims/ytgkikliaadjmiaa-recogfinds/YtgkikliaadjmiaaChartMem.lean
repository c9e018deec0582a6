/- How package recog's chart lies in memory, and what becomes of it. No walk. -/
import Derived.Test.YtgkikliaadjmiaaChartMath
import Derived.Test.YtgkikliaadjmiaaMapMem
import Derived.Test.YtgkikliaadjmiaaMayFine
namespace Go.Proofs.Ytgkikliaadjmiaa
open Go.RowKit
open Go.WideMaps (KeyLaw)

/-! ### Keys -/

def itV (it : Itm) : Value := .agg #[.int .i64 it.rule, .int .i64 it.read, .int .i64 it.fr, .int .i64 it.upto]
def spV (s : Spt) : Value := .agg #[.int .i64 s.1, .int .i64 s.2]
def itC (it : Itm) : List Value := [.int .i64 it.rule, .int .i64 it.read, .int .i64 it.fr, .int .i64 it.upto]

theorem itV_inj (a b : Itm) (h : itV a = itV b) : a = b := by
  obtain ⟨a1, a2, a3, a4⟩ := a
  obtain ⟨b1, b2, b3, b4⟩ := b
  simp [itV] at h
  simp
  omega
theorem spV_inj (a b : Spt) (h : spV a = spV b) : a = b := by
  obtain ⟨a1, a2⟩ := a
  obtain ⟨b1, b2⟩ := b
  simp [spV] at h
  simp
  omega

theorem chartLaidOut : laidOutB Try.prog = true := by kernel_rfl
theorem itWide : (match Try.prog.underlying 58 with | some (.array _ _) | some (.struct _) => true | _ => false) = true := by rw [Try.underlying58 ]
theorem spWide : (match Try.prog.underlying 56 with | some (.array _ _) | some (.struct _) => true | _ => false) = true := by rw [Try.underlying56 ]
set_option maxRecDepth 100000 in
theorem itLaw : KeyLaw Try.prog 58 := deep_law_laid chartLaidOut (m := 3) (by omega) (of_decide_eq_true (by kernel_rfl)) (by kernel_rfl) itWide
set_option maxRecDepth 100000 in
theorem spLaw : KeyLaw Try.prog 56 := deep_law_laid chartLaidOut (m := 3) (by omega) (of_decide_eq_true (by kernel_rfl)) (by kernel_rfl) spWide
theorem itType : Try.prog.keyType 58 = true := by kernel_rfl
theorem spType : Try.prog.keyType 56 = true := by kernel_rfl
theorem itCells : Try.prog.cellsOf 58 = 4 := by kernel_rfl
theorem spCells : Try.prog.cellsOf 56 = 2 := by kernel_rfl
theorem intCells : Try.prog.cellsOf 3 = 1 := by kernel_rfl
theorem typesSize : ∃ m, Try.prog.types.size = m + 1 := ⟨Try.prog.types.size - 1, by kernel_rfl⟩

theorem wf_i64 {a : Int} (h0 : 0 ≤ a) (h : a ≤ 1000000) : (Lit.int .i64 a).wf = true := by
  have h1 : IntKind.i64.min ≤ a := Int.le_trans (by decide) h0
  have h2 : a ≤ IntKind.i64.max := Int.le_trans h (by decide)
  simp only [Lit.wf, decide_eq_true h1, decide_eq_true h2, Bool.and_self]

theorem key_it {it : Itm} (h1 : it.rule ≤ 1000) (h2 : it.read ≤ 1000) (h3 : it.fr ≤ 1000) (h4 : it.upto ≤ 1000) : ∃ l, keyOf Try.prog 58 (itV it) = some l := by
  obtain ⟨m, hm⟩ := typesSize
  have w1 := wf_i64 (a := it.rule) (by omega) (by omega)
  have w2 := wf_i64 (a := it.read) (by omega) (by omega)
  have w3 := wf_i64 (a := it.fr) (by omega) (by omega)
  have w4 := wf_i64 (a := it.upto) (by omega) (by omega)
  rw [← Option.isSome_iff_exists]
  unfold keyOf itV
  simp only [Try.underlying58 ]
  rw [if_pos (by simp [itType, Value.formed, Try.underlying58, itCells]), hm]
  simp [Program.keyLits, Try.underlying58, Try.underlying3, itCells, intCells, Value.cells, w1, w2, w3, w4]

theorem key_sp {s : Spt} (h0 : 0 ≤ s.1) (h1 : s.1 ≤ 1000) (h2 : s.2 ≤ 1000) : ∃ l, keyOf Try.prog 56 (spV s) = some l := by
  obtain ⟨m, hm⟩ := typesSize
  have w1 := wf_i64 (a := s.1) (by omega) (by omega)
  have w2 := wf_i64 (a := s.2) (by omega) (by omega)
  rw [← Option.isSome_iff_exists]
  unfold keyOf spV
  simp only [Try.underlying56 ]
  rw [if_pos (by simp [spType, Value.formed, Try.underlying56, spCells]), hm]
  simp [Program.keyLits, Try.underlying56, Try.underlying3, spCells, intCells, Value.cells, w1, w2]

theorem zero_none (w : World) : (zeroValue 67).run Try.prog w = .ok (.agg #[]) w := by kernel_rfl
theorem zero_items (w : World) : (zeroValue 51).run Try.prog w = .ok (.slice none 0 0) w := by kernel_rfl
theorem zero_ints (w : World) : (zeroValue 25).run Try.prog w = .ok (.slice none 0 0) w := by kernel_rfl
theorem Try.infoItm : (Try.prog.info? 58).map (fun i => (i.zero, i.size, i.bytes)) = some (some (.agg #[.int .i64 0, .int .i64 0, .int .i64 0, .int .i64 0]), 4, 32) := by kernel_rfl

/-! ### The chart -/

/-- Where it lies, and what it is of. -/
structure Ad where
  ca : Nat
  mi : Nat
  mw : Nat
  me : Nat
  T : Nat
  N : Nat
  rv : Value
  tv : Value
/-- The slices that it holds. -/
structure CM where
  ov : Value
  VW : Spt → Value
  VE : Spt → Value

inductive ChIx where
  | ch
  | op
  | wt (s : Spt)
  | en (s : Spt)
  deriving DecidableEq

def chC (d : Ad) (ov : Value) : List Value := [.int .i64 d.T, .int .i64 d.N, d.rv, d.tv, .map (some d.mi), ov, .map (some d.mw), .map (some d.me)]

def Pc (d : Ad) (v : CM) (st : ChS) : ChIx → Option Row
  | .ch => some ⟨.slice (some ⟨d.ca, 0, none⟩) 1 1, 53, 8, 1, chC d v.ov⟩
  | .op => some ⟨v.ov, 58, 4, st.O.length, st.O.flatMap itC⟩
  | .wt s => some ⟨v.VW s, 58, 4, (st.W s).length, (st.W s).flatMap itC⟩
  | .en s => some ⟨v.VE s, 3, 1, (st.E s).length, (st.E s).map fun j : Nat => Value.int .i64 j⟩

def inI (I : List Itm) (it : Itm) : Option Value := if it ∈ I then some (.agg #[]) else none
def inV {α : Type} (L : Spt → List α) (V : Spt → Value) (s : Spt) : Option Value := if (L s).length = 0 then none else some (V s)

structure ChM (w : World) (B : Nat) (d : Ad) (v : CM) (st : ChS) (nm : Nat) : Prop where
  own : Owns w B (Pc d v st)
  mapI : MapAt Try.prog 58 itV w d.mi st.I.length (inI st.I)
  mapW : MapAt Try.prog 56 spV w d.mw nm (inV st.W v.VW)
  mapE : MapAt Try.prog 56 spV w d.me nm (inV st.E v.VE)
  nilW : ∀ s, (st.W s).length = 0 → v.VW s = .slice none 0 0
  nilE : ∀ s, (st.E s).length = 0 → v.VE s = .slice none 0 0
  ne1 : d.mi ≠ d.mw
  ne2 : d.mi ≠ d.me
  ne3 : d.mw ≠ d.me
  ge : B ≤ d.mi ∧ B ≤ d.mw ∧ B ≤ d.me

/-- The chart's own blocks. -/
def Kc (d : Ad) (v : CM) (b : Nat) : Prop := b = d.mi ∨ b = d.mw ∨ b = d.me ∨ b = d.ca ∨ v.ov.ownBlock = some b ∨ (∃ s, (v.VW s).ownBlock = some b) ∨ ∃ s, (v.VE s).ownBlock = some b

/-- No other block has turned, and none that was there has become the chart's. -/
structure Goes (d : Ad) (v v' : CM) (w w' : World) : Prop where
  kept : Kept (Kc d v) w w'
  old : ∀ b, b < w.heap.size → Kc d v' b → Kc d v b

section
variable {d : Ad} {v v' v'' : CM} {w w' w'' : World} {B nm : Nat} {st : ChS}

theorem Goes.refl (d : Ad) (v : CM) (w : World) : Goes d v v w w := ⟨Kept.refl _ _, fun _ _ h => h⟩
theorem Goes.trans (h : Goes d v v' w w') (k : Goes d v' v'' w' w'') : Goes d v v'' w w'' :=
  ⟨⟨k.kept.os.trans h.kept.os, k.kept.tape.trans h.kept.tape, k.kept.output.trans h.kept.output, Nat.le_trans h.kept.size k.kept.size,
      fun b hb hK => (k.kept.block b (Nat.lt_of_lt_of_le hb h.kept.size) (fun e => hK (h.old b hb e))).trans (h.kept.block b hb hK)⟩,
    fun b hb hK => h.old b hb (k.old b (Nat.lt_of_lt_of_le hb h.kept.size) hK)⟩
theorem Goes.ofBelow (hb : Below w.heap.size w w') : Goes d v v w w' := ⟨Kept.ofBelow hb, fun _ _ h => h⟩
theorem Goes.alloc (h : Goes d v v' w w') (o : Obj) : Goes d v v' w (w'.alloc o) := h.trans (Goes.ofBelow ((Below.refl _ _).alloc (Nat.le_refl _) o))
theorem Goes.drew (h : Goes d v v' w w') : Goes d v v' w w'.drew := h.trans (Goes.ofBelow ((Below.refl _ _).drew))
/-- A block that is none of the chart's stays as it is, and is none of the chart's. -/
theorem Goes.far (h : Goes d v v' w w') {b : Nat} (hb : b < w.heap.size) (hn : ¬ Kc d v b) : w'.heap[b]? = w.heap[b]? ∧ ¬ Kc d v' b ∧ b < w'.heap.size :=
  ⟨h.kept.block b hb hn, fun e => hn (h.old b hb e), Nat.lt_of_lt_of_le hb h.kept.size⟩

theorem ChM.off (h : ChM w B d v st nm) {b : Nat} (hb : b = d.mi ∨ b = d.mw ∨ b = d.me) {i : ChIx} {r : Row} (hr : Pc d v st i = some r) : r.v.ownBlock ≠ some b := by
  obtain ⟨e1, c1, h1⟩ := h.mapI.isMap
  obtain ⟨e2, c2, h2⟩ := h.mapW.isMap
  obtain ⟨e3, c3, h3⟩ := h.mapE.isMap
  rcases hb with rfl | rfl | rfl
  · exact own_no_map (h.own.own i r hr) h1
  · exact own_no_map (h.own.own i r hr) h2
  · exact own_no_map (h.own.own i r hr) h3

theorem ChM.kc (h : ChM w B d v st nm) {b : Nat} (hb : Kc d v b) : B ≤ b ∧ b < w.heap.size := by
  rcases hb with rfl | rfl | rfl | rfl | hb | ⟨s, hb⟩ | ⟨s, hb⟩
  · exact ⟨h.ge.1, h.mapI.lt⟩
  · exact ⟨h.ge.2.1, h.mapW.lt⟩
  · exact ⟨h.ge.2.2, h.mapE.lt⟩
  · exact h.own.lt (i := .ch) rfl rfl
  · exact h.own.lt (i := .op) rfl hb
  · exact h.own.lt (i := .wt s) rfl hb
  · exact h.own.lt (i := .en s) rfl hb

theorem kc_row {i : ChIx} {r : Row} {g : Nat} (hr : Pc d v st i = some r) (hg : r.v.ownBlock = some g) : Kc d v g := by
  cases i <;> simp only [Pc, Option.some.injEq] at hr <;> subst hr
  · simp only [Value.ownBlock, Option.some.injEq] at hg
    exact .inr (.inr (.inr (.inl hg.symm)))
  · exact .inr (.inr (.inr (.inr (.inl hg))))
  · exact .inr (.inr (.inr (.inr (.inr (.inl ⟨_, hg⟩)))))
  · exact .inr (.inr (.inr (.inr (.inr (.inr ⟨_, hg⟩)))))

/-- The chart's own blocks are as they were: so is the chart. -/
theorem ChM.far (h : ChM w B d v st nm) (hh : ∀ b, b < w.heap.size → Kc d v b → w'.heap[b]? = w.heap[b]?) : ChM w' B d v st nm := by
  have k : ∀ b, Kc d v b → w'.heap[b]? = w.heap[b]? := fun b hb => hh b (h.kc hb).2 hb
  exact ⟨h.own.heap fun i r g hr hg => k g (kc_row hr hg), h.mapI.kept (k _ (.inl rfl)), h.mapW.kept (k _ (.inr (.inl rfl))), h.mapE.kept (k _ (.inr (.inr (.inl rfl)))), h.nilW, h.nilE, h.ne1, h.ne2, h.ne3, h.ge⟩
theorem ChM.below (h : ChM w B d v st nm) (hb : Below w.heap.size w w') : ChM w' B d v st nm := h.far fun b hlt _ => hb.block b hlt
theorem ChM.alloc (h : ChM w B d v st nm) (o : Obj) : ChM (w.alloc o) B d v st nm := h.below ((Below.refl _ _).alloc (Nat.le_refl _) o)
theorem ChM.drew (h : ChM w B d v st nm) : ChM w.drew B d v st nm := h.below ((Below.refl _ _).drew)
theorem ChM.goes_below (h : ChM w B d v st nm) (g : Goes d v v' w w') : Below B w w' :=
  g.kept.below (fun b hb => (h.kc hb).1) (by have := h.ge.1; have := h.mapI.lt; omega)

/-! ### What can be read -/

theorem ChM.cell (h : ChM w B d v st nm) {i : Nat} {x : Value} (hx : (chC d v.ov)[i]? = some x) (hi : i < 8) : w.cell? ⟨d.ca, i, none⟩ = some x ∧ w.frozen? ⟨d.ca, i, none⟩ = false := by
  have := h.own.cell (i := .ch) (g := d.ca) (n := 1) (cap := 1) (e := 53) (size := 8) (xs := chC d v.ov) rfl i (by omega)
  exact ⟨this.1.trans hx, this.2⟩

theorem flat_get4 {L : List Itm} {i k : Nat} (hi : i < L.length) (hk : k < 4) : (L.flatMap itC)[i * 4 + k]? = (itC (L.getD i ⟨0, 0, 0, 0⟩))[k]? := by
  induction L generalizing i with
  | nil => simp at hi
  | cons a L ih =>
    rw [List.flatMap_cons]
    have hl : (itC a).length = 4 := rfl
    cases i with
    | zero => rw [List.getElem?_append_left (by omega)]; simp
    | succ i =>
      rw [List.getElem?_append_right (by omega), hl, show (i + 1) * 4 + k - 4 = i * 4 + k by omega]
      rw [ih (by simpa using hi)]
      simp [List.getD]

theorem flat_len4 (L : List Itm) : (L.flatMap itC).length = L.length * 4 := by
  induction L with
  | nil => rfl
  | cons a L ih => rw [List.flatMap_cons, List.length_append, ih]; simp [itC]; omega

/-- An item of a row of items can be read. -/
theorem row_item {base g cap : Nat} {L : List Itm} {x : Value} (h : w.ownsRow base 58 4 x L.length (L.flatMap itC)) (hx : x = .slice (some ⟨g, 0, none⟩) L.length cap) {i : Nat} (hi : i < L.length) {it : Itm} (hit : L.getD i ⟨0, 0, 0, 0⟩ = it) :
    w.cell? ⟨g, i * 4, none⟩ = some (.int .i64 it.rule) ∧ w.cell? ⟨g, i * 4 + 1, none⟩ = some (.int .i64 it.read) ∧ w.cell? ⟨g, i * 4 + 2, none⟩ = some (.int .i64 it.fr) ∧ w.cell? ⟨g, i * 4 + 3, none⟩ = some (.int .i64 it.upto) := by
  subst hx
  subst hit
  have c : ∀ k, k < 4 → w.cell? ⟨g, i * 4 + k, none⟩ = (itC (L.getD i ⟨0, 0, 0, 0⟩))[k]? := fun k hk => by
    rw [h.cellAt (i * 4 + k) (by omega), flat_get4 hi hk]
  exact ⟨c 0 (by omega), c 1 (by omega), c 2 (by omega), c 3 (by omega)⟩

theorem row_num {base g cap : Nat} {L : List Nat} {x : Value} (h : w.ownsRow base 3 1 x L.length (L.map fun j : Nat => Value.int .i64 j)) (hx : x = .slice (some ⟨g, 0, none⟩) L.length cap) {i : Nat} (hi : i < L.length) {j : Nat} (hj : L.getD i 0 = j) :
    w.cell? ⟨g, i, none⟩ = some (.int .i64 j) := by
  subst hx
  subst hj
  rw [h.cellAt i (by omega)]
  simp [List.getD, hi]

/-! ### What becomes of it -/

theorem ChM.addI (h : ChM w B d v st nm) {it : Itm} (hg : w.grownBy w' (some d.mi)) (hm : MapAt Try.prog 58 itV w' d.mi (st.I.length + 1) (setM (inI st.I) it (.agg #[]))) :
    ChM w' B d v { st with I := st.I ++ [it] } nm ∧ Goes d v v w w' := by
  refine ⟨⟨?_, ?_, h.mapW.kept ?_, h.mapE.kept ?_, h.nilW, h.nilE, h.ne1, h.ne2, h.ne3, h.ge⟩, ⟨hg.os, hg.tape, hg.output, hg.size, fun b hb hK => hg.block b hb fun e => hK (.inl (by simpa using e))⟩, fun _ _ hK => hK⟩
  · exact h.own.heap fun i r g hr hg' => hg.block g (h.own.lt hr hg').2 fun e => h.off (.inl rfl) hr (hg'.trans e)
  · have e : setM (inI st.I) it (.agg #[]) = inI (st.I ++ [it]) := by
      funext x
      by_cases hx : x = it
      · simp [setM, inI, hx]
      · simp [setM, inI, hx]
    have := hm.congr e
    simpa using this
  · exact hg.block _ h.mapW.lt fun e => h.ne1 (by simpa using e.symm)
  · exact hg.block _ h.mapE.lt fun e => h.ne2 (by simpa using e.symm)

theorem pc_op {ov' : Value} {O' : List Itm} : upd (upd (Pc d v st) .op ⟨ov', 58, 4, O'.length, O'.flatMap itC⟩) .ch ⟨.slice (some ⟨d.ca, 0, none⟩) 1 1, 53, 8, 1, (chC d v.ov).set 5 ov'⟩ = Pc d { v with ov := ov' } { st with O := O' } := by
  funext i
  cases i <;> simp [upd, Pc, chC]

/-- The open items are others. -/
theorem ChM.opTurn (h : ChM w B d v st nm) {ov' : Value} {O' : List Itm} (hg : w.grownBy w' v.ov.ownBlock) (ho : w'.ownsRow B 58 4 ov' O'.length (O'.flatMap itC)) (hat : ∀ g, ov'.ownBlock = some g → v.ov.ownBlock = some g ∨ g = w.heap.size) :
    ChM (w'.setCell ⟨d.ca, 5, none⟩ ov') B d { v with ov := ov' } { st with O := O' } nm ∧ Goes d v { v with ov := ov' } w (w'.setCell ⟨d.ca, 5, none⟩ ov') := by
  have h1 := h.own.turn (i := .op) (r' := ⟨ov', 58, 4, O'.length, O'.flatMap itC⟩) rfl hg ho hat
  have h2 := h1.store (i := .ch) (g := d.ca) (n := 1) (cap := 1) (e := 53) (size := 8) (xs := chC d v.ov) (by simp [upd, Pc]) 5 ov'
  rw [pc_op] at h2
  have far : ∀ b, b < w.heap.size → b ≠ d.ca → some b ≠ v.ov.ownBlock → (w'.setCell ⟨d.ca, 5, none⟩ ov').heap[b]? = w.heap[b]? := fun b hb hne hr => (Below.heap_setCell _ _ _ _ hne).trans (hg.block b hb hr)
  have m : ∀ b, (b = d.mi ∨ b = d.mw ∨ b = d.me) → b < w.heap.size → (w'.setCell ⟨d.ca, 5, none⟩ ov').heap[b]? = w.heap[b]? := fun b hb hlt =>
    far b hlt (fun e => h.off hb (i := .ch) rfl (by rw [e]; rfl)) fun e => h.off hb (i := .op) rfl e.symm
  refine ⟨⟨h2, h.mapI.kept (m _ (.inl rfl) h.mapI.lt), h.mapW.kept (m _ (.inr (.inl rfl)) h.mapW.lt), h.mapE.kept (m _ (.inr (.inr rfl)) h.mapE.lt), h.nilW, h.nilE, h.ne1, h.ne2, h.ne3, h.ge⟩,
    ⟨hg.os, hg.tape, hg.output, by have := hg.size; simpa [World.setCell] using this, fun b hb hK => far b hb (fun e => hK (.inr (.inr (.inr (.inl e))))) fun e => hK (.inr (.inr (.inr (.inr (.inl e.symm)))))⟩, fun b hb hK => ?_⟩
  rcases hK with hK | hK | hK | hK | hK | hK | hK
  · exact .inl hK
  · exact .inr (.inl hK)
  · exact .inr (.inr (.inl hK))
  · exact .inr (.inr (.inr (.inl hK)))
  · rcases hat b hK with e | e
    · exact .inr (.inr (.inr (.inr (.inl e))))
    · omega
  · exact .inr (.inr (.inr (.inr (.inr (.inl hK)))))
  · exact .inr (.inr (.inr (.inr (.inr (.inr hK)))))

/-- The last open item is taken. -/
theorem ChM.pop (h : ChM w B d v st nm) {g cap : Nat} (hv : v.ov = .slice (some ⟨g, 0, none⟩) st.O.length cap) (hO : 0 < st.O.length) :
    ChM (w.setCell ⟨d.ca, 5, none⟩ (.slice (some ⟨g, 0, none⟩) (st.O.length - 1) cap)) B d { v with ov := .slice (some ⟨g, 0, none⟩) (st.O.length - 1) cap } (popF st) nm ∧
      Goes d v { v with ov := .slice (some ⟨g, 0, none⟩) (st.O.length - 1) cap } w (w.setCell ⟨d.ca, 5, none⟩ (.slice (some ⟨g, 0, none⟩) (st.O.length - 1) cap)) := by
  have ho := h.own.own .op _ rfl
  simp only [hv] at ho
  have hl : st.O.dropLast.length = st.O.length - 1 := by simp
  have ho' : w.ownsRow B 58 4 (.slice (some ⟨g, 0, none⟩) (st.O.length - 1) cap) st.O.dropLast.length (st.O.dropLast.flatMap itC) := by
    refine ⟨flat_len4 _, ?_⟩
    rcases ho.2 with ⟨e, _⟩ | ⟨g', cap', cur, e, h2, h3, h4, h5, h6, h7⟩
    · cases e
    · injection e with e1 e2 e3
      injection e1 with e1
      injection e1 with e1
      subst e1
      subst e3
      refine .inr ⟨g, cap, cur, by rw [hl], h2, h3, by omega, h5, h6, ?_⟩
      have e8 : st.O.flatMap itC = st.O.dropLast.flatMap itC ++ itC (lastO st) := by
        conv => lhs; rw [O_last hO, List.flatMap_append]
        simp
      rw [e8] at h7
      have h9 := congrArg (List.take (st.O.dropLast.length * 4)) h7
      rw [List.take_take, Nat.min_eq_left (by omega), ← flat_len4, List.take_left] at h9
      rw [← flat_len4]
      exact h9
  have := h.opTurn (World.grownBy.refl w _) ho' (fun b hb => .inl (by rw [hv]; exact hb))
  exact ⟨⟨this.1.own, this.1.mapI, this.1.mapW, this.1.mapE, this.1.nilW, this.1.nilE, h.ne1, h.ne2, h.ne3, h.ge⟩, this.2⟩

theorem pc_wt {s : Spt} {it : Itm} {nv : Value} : upd (Pc d v st) (.wt s) ⟨nv, 58, 4, (st.W s ++ [it]).length, (st.W s ++ [it]).flatMap itC⟩ = Pc d { v with VW := setS v.VW s nv } (addW s it st) := by
  funext i
  cases i with
  | ch => simp [upd, Pc]
  | op => simp [upd, Pc, addW]
  | en t => simp [upd, Pc, addW]
  | wt t =>
    by_cases e : t = s
    · subst e; simp [upd, Pc, addW, setS]
    · simp [upd, Pc, addW, setS, e]

theorem pc_en {s : Spt} {j : Nat} {nv : Value} : upd (Pc d v st) (.en s) ⟨nv, 3, 1, (st.E s ++ [j]).length, (st.E s ++ [j]).map fun j : Nat => Value.int .i64 j⟩ = Pc d { v with VE := setS v.VE s nv } (addE s j st) := by
  funext i
  cases i with
  | ch => simp [upd, Pc]
  | op => simp [upd, Pc, addE]
  | wt t => simp [upd, Pc, addE]
  | en t =>
    by_cases e : t = s
    · subst e; simp [upd, Pc, addE, setS]
    · simp [upd, Pc, addE, setS, e]

theorem setM_inV {α : Type} {L : Spt → List α} {V : Spt → Value} {s : Spt} {x : α} {nv : Value} : setM (inV L V) s nv = inV (setS L s (L s ++ [x])) (setS V s nv) := by
  funext t
  by_cases e : t = s
  · subst e; simp [setM, inV, setS]
  · simp [setM, inV, setS, e]

/-- An item waits. -/
theorem ChM.addW (h : ChM w B d v st nm) {w1 w2 w3 : World} {s : Spt} {it : Itm} {nv : Value} (g1 : w.grownBy w1 (some d.mw)) (hs1 : w1.heap.size = w.heap.size) (g2 : w1.grownBy w2 (v.VW s).ownBlock)
    (ho : w2.ownsRow B 58 4 nv (st.W s ++ [it]).length ((st.W s ++ [it]).flatMap itC)) (hat : ∀ g, nv.ownBlock = some g → (v.VW s).ownBlock = some g ∨ g = w.heap.size)
    (g3 : w2.grownBy w3 (some d.mw)) (hm : MapAt Try.prog 56 spV w3 d.mw (nm + 1) (setM (inV st.W v.VW) s nv)) :
    ChM w3 B d { v with VW := setS v.VW s nv } (addW s it st) (nm + 1) ∧ Goes d v { v with VW := setS v.VW s nv } w w3 := by
  have hW := h.mapW.lt
  have o1 : Owns w1 B (Pc d v st) := h.own.heap fun i r g hr hg' => g1.block g (h.own.lt hr hg').2 fun e => h.off (.inr (.inl rfl)) hr (hg'.trans e)
  have o2 := o1.turn (i := .wt s) (r' := ⟨nv, 58, 4, (st.W s ++ [it]).length, (st.W s ++ [it]).flatMap itC⟩) rfl g2 ho (fun g hg => by rw [hs1]; exact hat g hg)
  have hn : nv.ownBlock ≠ some d.mw := fun e => by
    rcases hat _ e with e1 | e1
    · exact h.off (.inr (.inl rfl)) (i := .wt s) rfl e1
    · omega
  have o3 : Owns w3 B (upd (Pc d v st) (.wt s) ⟨nv, 58, 4, (st.W s ++ [it]).length, (st.W s ++ [it]).flatMap itC⟩) := o2.heap fun i r g hr hg' => g3.block g (o2.lt hr hg').2 fun e => by
    rcases upd_cases hr with ⟨_, rfl⟩ | ⟨_, hr'⟩
    · exact hn (hg'.trans e)
    · exact h.off (.inr (.inl rfl)) hr' (hg'.trans e)
  rw [pc_wt] at o3
  have far : ∀ b, b < w.heap.size → b ≠ d.mw → some b ≠ (v.VW s).ownBlock → w3.heap[b]? = w.heap[b]? := fun b hb h1 h2 =>
    ((g3.block b (by have := g2.size; omega) (fun e => h1 (by simpa using e))).trans (g2.block b (by omega) h2)).trans (g1.block b hb (fun e => h1 (by simpa using e)))
  refine ⟨⟨o3, h.mapI.kept (far _ h.mapI.lt h.ne1 fun e => h.off (.inl rfl) (i := .wt s) rfl e.symm), ?_, (h.mapE.kept (far _ h.mapE.lt h.ne3.symm fun e => h.off (.inr (.inr rfl)) (i := .wt s) rfl e.symm)).mono (Nat.le_succ _), fun t ht => ?_, h.nilE, h.ne1, h.ne2, h.ne3, h.ge⟩,
    ⟨(g3.os.trans g2.os).trans g1.os, (g3.tape.trans g2.tape).trans g1.tape, (g3.output.trans g2.output).trans g1.output, Nat.le_trans g1.size (Nat.le_trans g2.size g3.size), fun b hb hK => far b hb (fun e => hK (.inr (.inl e))) fun e => hK (.inr (.inr (.inr (.inr (.inr (.inl ⟨s, e.symm⟩))))))⟩, fun b hb hK => ?_⟩
  · rw [setM_inV (x := it)] at hm
    exact hm
  · by_cases e : t = s
    · subst e; simp [Proofs.Ytgkikliaadjmiaa.addW, setS] at ht
    · simp only [Proofs.Ytgkikliaadjmiaa.addW, setS, e, if_false] at ht ⊢
      exact h.nilW t ht
  · rcases hK with hK | hK | hK | hK | hK | ⟨t, hK⟩ | hK
    · exact .inl hK
    · exact .inr (.inl hK)
    · exact .inr (.inr (.inl hK))
    · exact .inr (.inr (.inr (.inl hK)))
    · exact .inr (.inr (.inr (.inr (.inl hK))))
    · refine .inr (.inr (.inr (.inr (.inr (.inl ?_)))))
      by_cases e : t = s
      · subst e
        simp only [setS_same] at hK
        rcases hat b hK with e1 | e1
        · exact ⟨_, e1⟩
        · omega
      · simp only [setS_other _ e] at hK
        exact ⟨t, hK⟩
    · exact .inr (.inr (.inr (.inr (.inr (.inr hK)))))

/-- An end is noted. -/
theorem ChM.addE (h : ChM w B d v st nm) {w1 w2 w3 : World} {s : Spt} {j : Nat} {nv : Value} (g1 : w.grownBy w1 (some d.me)) (hs1 : w1.heap.size = w.heap.size) (g2 : w1.grownBy w2 (v.VE s).ownBlock)
    (ho : w2.ownsRow B 3 1 nv (st.E s ++ [j]).length ((st.E s ++ [j]).map fun j : Nat => Value.int .i64 j)) (hat : ∀ g, nv.ownBlock = some g → (v.VE s).ownBlock = some g ∨ g = w.heap.size)
    (g3 : w2.grownBy w3 (some d.me)) (hm : MapAt Try.prog 56 spV w3 d.me (nm + 1) (setM (inV st.E v.VE) s nv)) :
    ChM w3 B d { v with VE := setS v.VE s nv } (addE s j st) (nm + 1) ∧ Goes d v { v with VE := setS v.VE s nv } w w3 := by
  have hW := h.mapE.lt
  have o1 : Owns w1 B (Pc d v st) := h.own.heap fun i r g hr hg' => g1.block g (h.own.lt hr hg').2 fun e => h.off (.inr (.inr rfl)) hr (hg'.trans e)
  have o2 := o1.turn (i := .en s) (r' := ⟨nv, 3, 1, (st.E s ++ [j]).length, (st.E s ++ [j]).map fun j : Nat => Value.int .i64 j⟩) rfl g2 ho (fun g hg => by rw [hs1]; exact hat g hg)
  have hn : nv.ownBlock ≠ some d.me := fun e => by
    rcases hat _ e with e1 | e1
    · exact h.off (.inr (.inr rfl)) (i := .en s) rfl e1
    · omega
  have o3 : Owns w3 B (upd (Pc d v st) (.en s) ⟨nv, 3, 1, (st.E s ++ [j]).length, (st.E s ++ [j]).map fun j : Nat => Value.int .i64 j⟩) := o2.heap fun i r g hr hg' => g3.block g (o2.lt hr hg').2 fun e => by
    rcases upd_cases hr with ⟨_, rfl⟩ | ⟨_, hr'⟩
    · exact hn (hg'.trans e)
    · exact h.off (.inr (.inr rfl)) hr' (hg'.trans e)
  rw [pc_en] at o3
  have far : ∀ b, b < w.heap.size → b ≠ d.me → some b ≠ (v.VE s).ownBlock → w3.heap[b]? = w.heap[b]? := fun b hb h1 h2 =>
    ((g3.block b (by have := g2.size; omega) (fun e => h1 (by simpa using e))).trans (g2.block b (by omega) h2)).trans (g1.block b hb (fun e => h1 (by simpa using e)))
  refine ⟨⟨o3, h.mapI.kept (far _ h.mapI.lt h.ne2 fun e => h.off (.inl rfl) (i := .en s) rfl e.symm), (h.mapW.kept (far _ h.mapW.lt h.ne3 fun e => h.off (.inr (.inl rfl)) (i := .en s) rfl e.symm)).mono (Nat.le_succ _), ?_, h.nilW, fun t ht => ?_, h.ne1, h.ne2, h.ne3, h.ge⟩,
    ⟨(g3.os.trans g2.os).trans g1.os, (g3.tape.trans g2.tape).trans g1.tape, (g3.output.trans g2.output).trans g1.output, Nat.le_trans g1.size (Nat.le_trans g2.size g3.size), fun b hb hK => far b hb (fun e => hK (.inr (.inr (.inl e)))) fun e => hK (.inr (.inr (.inr (.inr (.inr (.inr ⟨s, e.symm⟩))))))⟩, fun b hb hK => ?_⟩
  · rw [setM_inV (x := j)] at hm
    exact hm
  · by_cases e : t = s
    · subst e; simp [Proofs.Ytgkikliaadjmiaa.addE, setS] at ht
    · simp only [Proofs.Ytgkikliaadjmiaa.addE, setS, e, if_false] at ht ⊢
      exact h.nilE t ht
  · rcases hK with hK | hK | hK | hK | hK | hK | ⟨t, hK⟩
    · exact .inl hK
    · exact .inr (.inl hK)
    · exact .inr (.inr (.inl hK))
    · exact .inr (.inr (.inr (.inl hK)))
    · exact .inr (.inr (.inr (.inr (.inl hK))))
    · exact .inr (.inr (.inr (.inr (.inr (.inl hK)))))
    · refine .inr (.inr (.inr (.inr (.inr (.inr ?_)))))
      by_cases e : t = s
      · subst e
        simp only [setS_same] at hK
        rcases hat b hK with e1 | e1
        · exact ⟨_, e1⟩
        · omega
      · simp only [setS_other _ e] at hK
        exact ⟨t, hK⟩
end

end Go.Proofs.Ytgkikliaadjmiaa
