import Derived.Test.YtobegekmgoiopaaTkLookAndRowI
import Derived.Test.YtobegekmgoiopaaRowBAndSets2Math
import Derived.Deep.QuietTactic
import Derived.BigQuiet
import Derived.Deep.CutRange
/- How package table's maker lies in memory, and what becomes of it. No walk. -/
namespace Go.Proofs.Ytobegekmgoiopaa
open Go.RowKit
open Go.WideMaps (KeyLaw)

/-! ### Keys -/

def tkI (i : It) : List Value := [.int .i64 i.1, .int .i64 i.2]
def tkS (s : Spo) : List Value := [.int .i64 s.1, .int .i64 s.2.1, .int .i64 s.2.2]
def wyV (p : Wy) : Value := .agg #[.int .i64 p.1, .bool p.2.1, .int .i64 p.2.2]
def soV (s : Spo) : Value := .agg #[.int .i64 s.1, .int .i64 s.2.1, .int .i64 s.2.2]

theorem wyV_inj (a b : Wy) (h : wyV a = wyV b) : a = b := by
  obtain ⟨a1, a2, a3⟩ := a
  obtain ⟨b1, b2, b3⟩ := b
  simp [wyV] at h
  obtain ⟨h1, h2, h3⟩ := h
  subst h2
  simp
  omega
theorem soV_inj (a b : Spo) (h : soV a = soV b) : a = b := by
  obtain ⟨a1, a2, a3⟩ := a
  obtain ⟨b1, b2, b3⟩ := b
  simp [soV] at h
  simp
  omega

theorem tkLaidOut : laidOutB Try.prog = true := by kernel_rfl
theorem wyWide : (match Try.prog.underlying 126 with | some (.array _ _) | some (.struct _) => true | _ => false) = true := by rw [Try.underlying126 ]
theorem soWide : (match Try.prog.underlying 128 with | some (.array _ _) | some (.struct _) => true | _ => false) = true := by rw [Try.underlying128 ]
set_option maxRecDepth 100000 in
theorem wyLaw : KeyLaw Try.prog 126 := deep_law_laid tkLaidOut (m := 3) (by omega) (of_decide_eq_true (by kernel_rfl)) (by kernel_rfl) wyWide
set_option maxRecDepth 100000 in
theorem soLaw : KeyLaw Try.prog 128 := deep_law_laid tkLaidOut (m := 3) (by omega) (of_decide_eq_true (by kernel_rfl)) (by kernel_rfl) soWide
theorem wyType : Try.prog.keyType 126 = true := by kernel_rfl
theorem soType : Try.prog.keyType 128 = true := by kernel_rfl
theorem wyCells : Try.prog.cellsOf 126 = 3 := by kernel_rfl
theorem soCells : Try.prog.cellsOf 128 = 3 := by kernel_rfl
theorem tkItCells : Try.prog.cellsOf 121 = 2 := by kernel_rfl
theorem tkSymCells : Try.prog.cellsOf 102 = 2 := by kernel_rfl
theorem tkIntCells : Try.prog.cellsOf 3 = 1 := by kernel_rfl
theorem tkBoolCells : Try.prog.cellsOf 4 = 1 := by kernel_rfl
theorem tkTypesSize : ∃ m, Try.prog.types.size = m + 2 := ⟨Try.prog.types.size - 2, by kernel_rfl⟩

theorem tk_wf {a : Int} (h0 : -1000000 ≤ a) (h : a ≤ 1000000) : (Lit.int .i64 a).wf = true := by
  have h1 : IntKind.i64.min ≤ a := Int.le_trans (by decide) h0
  have h2 : a ≤ IntKind.i64.max := Int.le_trans h (by decide)
  simp only [Lit.wf, decide_eq_true h1, decide_eq_true h2, Bool.and_self]

theorem key_wy {p : Wy} (h1 : p.1 ≤ 1000) (h2 : 0 ≤ p.2.2) (h3 : p.2.2 ≤ 1000) : ∃ l, keyOf Try.prog 126 (wyV p) = some l := by
  obtain ⟨m, hm⟩ := tkTypesSize
  have w1 := tk_wf (a := p.1) (by omega) (by omega)
  have w2 := tk_wf (a := p.2.2) (by omega) (by omega)
  rw [← Option.isSome_iff_exists]
  unfold keyOf wyV
  simp only [Try.underlying126 ]
  rw [if_pos (by simp [wyType, Value.formed, Try.underlying126, wyCells]), hm]
  simp [Program.keyLits, Try.underlying126, Try.underlying102, Try.underlying3, Try.underlying4, wyCells, tkSymCells, tkIntCells, tkBoolCells, Value.cells, w1, w2]
  rw [if_pos]
  · rfl
  · intro i hi
    match i, hi with
    | 0, _ => simp
    | 1, _ => simp

theorem key_so {s : Spo} (h1 : s.1 ≤ 1000) (h2 : s.2.1 ≤ 1000) (h3 : s.2.2 ≤ 1000) : ∃ l, keyOf Try.prog 128 (soV s) = some l := by
  obtain ⟨m, hm⟩ := tkTypesSize
  have w1 := tk_wf (a := s.1) (by omega) (by omega)
  have w2 := tk_wf (a := s.2.1) (by omega) (by omega)
  have w3 := tk_wf (a := s.2.2) (by omega) (by omega)
  rw [← Option.isSome_iff_exists]
  unfold keyOf soV
  simp only [Try.underlying128 ]
  rw [if_pos (by simp [soType, Value.formed, Try.underlying128, soCells]), hm]
  simp [Program.keyLits, Try.underlying128, Try.underlying121, Try.underlying3, soCells, tkItCells, tkIntCells, Value.cells, w1, w2, w3]
  rw [if_pos]
  · rfl
  · intro i hi
    match i, hi with
    | 0, _ => simp
    | 1, _ => simp

theorem zero_ahead (w : World) : (zeroValue 131).run Try.prog w = .ok (.int .u32 0) w := by kernel_rfl
theorem zero_num (w : World) : (zeroValue 3).run Try.prog w = .ok (.int .i64 0) w := by kernel_rfl
theorem Try.infoIt : (Try.prog.info? 121).map (fun i => (i.zero, i.size, i.bytes)) = some (some (.agg #[.int .i64 0, .int .i64 0]), 2, 16) := by kernel_rfl
theorem Try.infoIts : (Try.prog.info? 122).map (fun i => (i.zero, i.size, i.bytes)) = some (some (.slice none 0 0), 1, 24) := by kernel_rfl
theorem Try.infoSpo : (Try.prog.info? 128).map (fun i => (i.zero, i.size, i.bytes)) = some (some (.agg #[.int .i64 0, .int .i64 0, .int .i64 0]), 3, 24) := by kernel_rfl
theorem Try.infoSy : (Try.prog.info? 102).map (fun i => (i.zero, i.size, i.bytes)) = some (some (.agg #[.bool false, .int .i64 0]), 2, 16) := by kernel_rfl

/-! ### The maker -/

/-- Where it lies, and what it is of. -/
structure TkA where
  ma : Nat
  mg : Nat
  ml : Nat
  T : Nat
  N : Nat
  rv : Value
  nv : Value
  fv : Value
  wv : Value
/-- The slices that it holds; the states. -/
structure TkV where
  sv : Value
  IV : Nat → Value
  ov : Value
  OL : List (List It)

inductive TkIx where
  | ma
  | st
  | it (k : Nat)
  | op
  deriving DecidableEq

def maC (d : TkA) (v : TkV) : List Value := [.int .i64 d.T, .int .i64 d.N, d.rv, d.nv, d.fv, d.wv, v.sv, .map (some d.mg), .map (some d.ml), v.ov]

def TkP (d : TkA) (v : TkV) (O : List Spo) : TkIx → Option Row
  | .ma => some ⟨.slice (some ⟨d.ma, 0, none⟩) 1 1, 95, 10, 1, maC d v⟩
  | .st => some ⟨v.sv, 122, 1, v.OL.length, (List.range v.OL.length).map v.IV⟩
  | .it k => if k < v.OL.length then some ⟨v.IV k, 121, 2, (v.OL.getD k []).length, (v.OL.getD k []).flatMap tkI⟩ else none
  | .op => some ⟨v.ov, 128, 3, O.length, O.flatMap tkS⟩

def lkM (lk : Spo → Nat) (s : Spo) : Option Value := if lk s = 0 then none else some (.int .u32 (lk s))

structure TkM (w0 w : World) (d : TkA) (v : TkV) (G : Wy → Option Value) (ng : Nat) (st : LS) : Prop where
  own : Owns w w0.heap.size (TkP d v st.O)
  mapG : MapAt Try.prog 126 wyV w d.mg ng G
  mapL : MapAt Try.prog 128 soV w d.ml st.c (lkM st.lk)
  ne : d.mg ≠ d.ml
  ge : w0.heap.size ≤ d.mg ∧ w0.heap.size ≤ d.ml
  since : Below w0.heap.size w0 w

/-- What was there before the maker: the grammar, the sets. -/
structure TkE (w0 : World) (d : TkA) (R : List Ru) (Nu : List Bool) (Fi : List (List Bool)) : Prop where
  rules : RulesAt w0 w0.heap.size d.rv R
  nul : BoolsAt w0 d.nv Nu
  fir : MatAt w0 d.fv Fi
  nlen : Nu.length = d.N
  flen : Fi.length = d.N
  frow : ∀ n, n < d.N → (Fi.getD n []).length = d.T
  hT : d.T ≤ 8
  hN : 1 ≤ d.N ∧ d.N ≤ 12
  hR : R.length ≤ 40
  r8 : ∀ q, q < R.length → (R.getD q (0, [])).2.length ≤ 8
  sym : ∀ r, r ≤ R.length → ∀ s ∈ rightF R r, (s.1 = true → 0 ≤ s.2 ∧ s.2 < (d.T : Int)) ∧ (s.1 = false → 0 ≤ s.2 ∧ s.2 < (d.N : Int))

theorem TkE.right8 {w0 : World} {d : TkA} {R : List Ru} {Nu : List Bool} {Fi : List (List Bool)} (E : TkE w0 d R Nu Fi) : ∀ r, r ≤ R.length → (rightF R r).length ≤ 8 := fun r hr => by
  unfold rightF
  split
  · simp
  · exact E.r8 r (by omega)

/-- The maker's own blocks. -/
def TkK (d : TkA) (v : TkV) (b : Nat) : Prop := b = d.mg ∨ b = d.ml ∨ b = d.ma ∨ v.sv.ownBlock = some b ∨ v.ov.ownBlock = some b ∨ ∃ k, k < v.OL.length ∧ (v.IV k).ownBlock = some b

/-- No other block has turned, and none that was there has become the maker's. -/
structure TkG (d : TkA) (v v' : TkV) (w w' : World) : Prop where
  kept : Kept (TkK d v) w w'
  old : ∀ b, b < w.heap.size → TkK d v' b → TkK d v b

section
variable {d : TkA} {v v' v'' : TkV} {w0 w w' w'' : World} {G : Wy → Option Value} {ng : Nat} {st : LS}

theorem TkG.refl (d : TkA) (v : TkV) (w : World) : TkG d v v w w := ⟨Kept.refl _ _, fun _ _ h => h⟩
theorem TkG.trans (h : TkG d v v' w w') (k : TkG d v' v'' w' w'') : TkG d v v'' w w'' :=
  ⟨⟨k.kept.os.trans h.kept.os, k.kept.tape.trans h.kept.tape, k.kept.output.trans h.kept.output, Nat.le_trans h.kept.size k.kept.size,
      fun b hb hK => (k.kept.block b (Nat.lt_of_lt_of_le hb h.kept.size) (fun e => hK (h.old b hb e))).trans (h.kept.block b hb hK)⟩,
    fun b hb hK => h.old b hb (k.old b (Nat.lt_of_lt_of_le hb h.kept.size) hK)⟩
theorem TkG.ofBelow (hb : Below w.heap.size w w') : TkG d v v w w' := ⟨Kept.ofBelow hb, fun _ _ h => h⟩
theorem TkG.alloc (h : TkG d v v' w w') (o : Obj) : TkG d v v' w (w'.alloc o) := h.trans (TkG.ofBelow ((Below.refl _ _).alloc (Nat.le_refl _) o))
theorem TkG.drew (h : TkG d v v' w w') : TkG d v v' w w'.drew := h.trans (TkG.ofBelow ((Below.refl _ _).drew))
/-- A block that is none of the maker's stays as it is, and is none of the maker's. -/
theorem TkG.far (h : TkG d v v' w w') {b : Nat} (hb : b < w.heap.size) (hn : ¬ TkK d v b) : w'.heap[b]? = w.heap[b]? ∧ ¬ TkK d v' b ∧ b < w'.heap.size :=
  ⟨h.kept.block b hb hn, fun e => hn (h.old b hb e), Nat.lt_of_lt_of_le hb h.kept.size⟩

theorem TkM.off (h : TkM w0 w d v G ng st) {b : Nat} (hb : b = d.mg ∨ b = d.ml) {i : TkIx} {r : Row} (hr : TkP d v st.O i = some r) : r.v.ownBlock ≠ some b := by
  obtain ⟨e1, c1, h1⟩ := h.mapG.isMap
  obtain ⟨e2, c2, h2⟩ := h.mapL.isMap
  rcases hb with rfl | rfl
  · exact own_no_map (h.own.own i r hr) h1
  · exact own_no_map (h.own.own i r hr) h2

theorem tkP_it {k : Nat} (hk : k < v.OL.length) {O : List Spo} : TkP d v O (.it k) = some ⟨v.IV k, 121, 2, (v.OL.getD k []).length, (v.OL.getD k []).flatMap tkI⟩ := by simp [TkP, hk]

theorem TkM.kc (h : TkM w0 w d v G ng st) {b : Nat} (hb : TkK d v b) : w0.heap.size ≤ b ∧ b < w.heap.size := by
  rcases hb with rfl | rfl | rfl | hb | hb | ⟨k, hk, hb⟩
  · exact ⟨h.ge.1, h.mapG.lt⟩
  · exact ⟨h.ge.2, h.mapL.lt⟩
  · exact h.own.lt (i := .ma) rfl rfl
  · exact h.own.lt (i := .st) rfl hb
  · exact h.own.lt (i := .op) rfl hb
  · exact h.own.lt (i := .it k) (tkP_it hk) hb

theorem tkK_row {i : TkIx} {r : Row} {g : Nat} {O : List Spo} (hr : TkP d v O i = some r) (hg : r.v.ownBlock = some g) : TkK d v g := by
  cases i with
  | ma =>
    simp only [TkP, Option.some.injEq] at hr; subst hr
    simp only [Value.ownBlock, Option.some.injEq] at hg
    exact .inr (.inr (.inl hg.symm))
  | st => simp only [TkP, Option.some.injEq] at hr; subst hr; exact .inr (.inr (.inr (.inl hg)))
  | op => simp only [TkP, Option.some.injEq] at hr; subst hr; exact .inr (.inr (.inr (.inr (.inl hg))))
  | it k =>
    by_cases hk : k < v.OL.length
    · rw [tkP_it hk, Option.some.injEq] at hr; subst hr
      exact .inr (.inr (.inr (.inr (.inr ⟨k, hk, hg⟩))))
    · simp [TkP, hk] at hr

/-- The maker's own blocks are as they were: so is the maker. -/
theorem TkM.far (h : TkM w0 w d v G ng st) (hs : Below w0.heap.size w w') (hh : ∀ b, b < w.heap.size → TkK d v b → w'.heap[b]? = w.heap[b]?) : TkM w0 w' d v G ng st := by
  have k : ∀ b, TkK d v b → w'.heap[b]? = w.heap[b]? := fun b hb => hh b (h.kc hb).2 hb
  exact ⟨h.own.heap fun i r g hr hg => k g (tkK_row hr hg), h.mapG.kept (k _ (.inl rfl)), h.mapL.kept (k _ (.inr (.inl rfl))), h.ne, h.ge, h.since.trans hs⟩
theorem TkM.le (h : TkM w0 w d v G ng st) : w0.heap.size ≤ w.heap.size := h.since.size
theorem TkM.below (h : TkM w0 w d v G ng st) (hb : Below w.heap.size w w') : TkM w0 w' d v G ng st := h.far (hb.mono h.le) fun b hlt _ => hb.block b hlt
theorem TkM.alloc (h : TkM w0 w d v G ng st) (o : Obj) : TkM w0 (w.alloc o) d v G ng st := h.below ((Below.refl _ _).alloc (Nat.le_refl _) o)
theorem TkM.drew (h : TkM w0 w d v G ng st) : TkM w0 w.drew d v G ng st := h.below ((Below.refl _ _).drew)
theorem TkM.goes_below (h : TkM w0 w d v G ng st) (g : TkG d v v' w w') : Below w0.heap.size w w' := g.kept.below (fun _ hb => (h.kc hb).1) h.le

/-! ### What can be read -/

theorem TkM.cell (h : TkM w0 w d v G ng st) {i : Nat} {x : Value} (hx : (maC d v)[i]? = some x) (hi : i < 10) : w.cell? ⟨d.ma, i, none⟩ = some x ∧ w.frozen? ⟨d.ma, i, none⟩ = false := by
  have := h.own.cell (i := .ma) (g := d.ma) (n := 1) (cap := 1) (e := 95) (size := 10) (xs := maC d v) rfl i (by omega)
  exact ⟨this.1.trans hx, this.2⟩
theorem TkM.maLt (h : TkM w0 w d v G ng st) : d.ma < w.heap.size := (h.kc (.inr (.inr (.inl rfl)))).2

theorem tkI_get {L : List It} {i k : Nat} (hi : i < L.length) (hk : k < 2) : (L.flatMap tkI)[i * 2 + k]? = (tkI (L.getD i (0, 0)))[k]? := by
  induction L generalizing i with
  | nil => simp at hi
  | cons a L ih =>
    rw [List.flatMap_cons]
    have hl : (tkI a).length = 2 := rfl
    cases i with
    | zero => rw [List.getElem?_append_left (by omega)]; simp
    | succ i =>
      rw [List.getElem?_append_right (by omega), hl, show (i + 1) * 2 + k - 2 = i * 2 + k by omega]
      rw [ih (by simpa using hi)]
      simp [List.getD]
theorem tkI_len (L : List It) : (L.flatMap tkI).length = L.length * 2 := by
  induction L with
  | nil => rfl
  | cons a L ih => rw [List.flatMap_cons, List.length_append, ih]; simp [tkI]; omega
theorem tkS_get {L : List Spo} {i k : Nat} (hi : i < L.length) (hk : k < 3) : (L.flatMap tkS)[i * 3 + k]? = (tkS (L.getD i (0, 0, 0)))[k]? := by
  induction L generalizing i with
  | nil => simp at hi
  | cons a L ih =>
    rw [List.flatMap_cons]
    have hl : (tkS a).length = 3 := rfl
    cases i with
    | zero => rw [List.getElem?_append_left (by omega)]; simp
    | succ i =>
      rw [List.getElem?_append_right (by omega), hl, show (i + 1) * 3 + k - 3 = i * 3 + k by omega]
      rw [ih (by simpa using hi)]
      simp [List.getD]
theorem tkS_len (L : List Spo) : (L.flatMap tkS).length = L.length * 3 := by
  induction L with
  | nil => rfl
  | cons a L ih => rw [List.flatMap_cons, List.length_append, ih]; simp [tkS]; omega

/-- A row of items that is owned can be read. -/
theorem tk_items {base n : Nat} {x : Value} {L : List It} (h : w.ownsRow base 121 2 x n (L.flatMap tkI)) (hn : n = L.length) : ItemsAt w w.heap.size x L := by
  subst hn
  obtain ⟨a, c, hv⟩ := own_form h
  refine ⟨⟨a, c, hv⟩, fun k hk => ?_⟩
  obtain ⟨g, cap, rfl, _, hlt⟩ := h.form (by omega)
  refine ⟨g, 0, cap, rfl, hlt, ?_, ?_⟩
  · rw [Nat.zero_add, h.cellAt (k * 2) (by omega)]
    have := tkI_get (k := 0) hk (by omega)
    simpa [tkI] using this
  · rw [Nat.zero_add, h.cellAt (k * 2 + 1) (by omega)]
    have := tkI_get (k := 1) hk (by omega)
    simpa [tkI] using this

theorem TkM.items (h : TkM w0 w d v G ng st) {k : Nat} (hk : k < v.OL.length) : ItemsAt w w.heap.size (v.IV k) (v.OL.getD k []) := tk_items (h.own.own (.it k) _ (tkP_it hk)) rfl
theorem TkM.states (h : TkM w0 w d v G ng st) : ∃ a c, v.sv = .slice a v.OL.length c := h.own.slice (i := .st) rfl
theorem TkM.state (h : TkM w0 w d v G ng st) {k : Nat} (hk : k < v.OL.length) : ∃ g c, v.sv = .slice (some ⟨g, 0, none⟩) v.OL.length c ∧ g < w.heap.size ∧ w.cell? ⟨g, k, none⟩ = some (v.IV k) := by
  obtain ⟨g, c, hv, _, hlt⟩ := h.own.form (i := .st) rfl (by simp only; omega)
  simp only at hv
  refine ⟨g, c, hv, hlt, ?_⟩
  have ho := h.own.own .st _ rfl
  simp only [hv] at ho
  rw [ho.cellAt k (by omega)]
  simp [hk]

theorem TkM.rules (h : TkM w0 w d v G ng st) {R : List Ru} {Nu : List Bool} {Fi : List (List Bool)} (E : TkE w0 d R Nu Fi) : RulesAt w w0.heap.size d.rv R := E.rules.below h.since

/-! ### What becomes of it -/

theorem TkM.setG (h : TkM w0 w d v G ng st) {G' : Wy → Option Value} {n' : Nat} (hg : w.grownBy w' (some d.mg)) (hm : MapAt Try.prog 126 wyV w' d.mg n' G') : TkM w0 w' d v G' n' st ∧ TkG d v v w w' := by
  have hk : TkG d v v w w' := ⟨⟨hg.os, hg.tape, hg.output, hg.size, fun b hb hK => hg.block b hb fun e => hK (.inl (by simpa using e))⟩, fun _ _ hK => hK⟩
  refine ⟨⟨h.own.heap fun i r g hr hg' => hg.block g (h.own.lt hr hg').2 fun e => h.off (.inl rfl) hr (hg'.trans e), hm, h.mapL.kept (hg.block _ h.mapL.lt fun e => h.ne (by simpa using e.symm)), h.ne, h.ge, h.since.trans (h.goes_below hk)⟩, hk⟩

theorem TkM.setL (h : TkM w0 w d v G ng st) {lk' : Spo → Nat} {c' : Nat} (hg : w.grownBy w' (some d.ml)) (hm : MapAt Try.prog 128 soV w' d.ml c' (lkM lk')) : TkM w0 w' d v G ng ⟨lk', st.O, c'⟩ ∧ TkG d v v w w' := by
  have hk : TkG d v v w w' := ⟨⟨hg.os, hg.tape, hg.output, hg.size, fun b hb hK => hg.block b hb fun e => hK (.inr (.inl (by simpa using e)))⟩, fun _ _ hK => hK⟩
  refine ⟨⟨h.own.heap fun i r g hr hg' => hg.block g (h.own.lt hr hg').2 fun e => h.off (.inr rfl) hr (hg'.trans e), h.mapG.kept (hg.block _ h.mapG.lt fun e => h.ne (by simpa using e)), hm, h.ne, h.ge, h.since.trans (h.goes_below hk)⟩, hk⟩

theorem tkP_op {O O' : List Spo} {ov' : Value} : upd (upd (TkP d v O) .op ⟨ov', 128, 3, O'.length, O'.flatMap tkS⟩) .ma ⟨.slice (some ⟨d.ma, 0, none⟩) 1 1, 95, 10, 1, (maC d v).set 9 ov'⟩ = TkP d { v with ov := ov' } O' := by
  funext i
  cases i <;> simp [upd, TkP, maC]

/-- What is to be looked at is another list. -/
theorem TkM.opTurn (h : TkM w0 w d v G ng st) {ov' : Value} {O' : List Spo} (hg : w.grownBy w' v.ov.ownBlock) (ho : w'.ownsRow w0.heap.size 128 3 ov' O'.length (O'.flatMap tkS)) (hat : ∀ g, ov'.ownBlock = some g → v.ov.ownBlock = some g ∨ g = w.heap.size) :
    TkM w0 (w'.setCell ⟨d.ma, 9, none⟩ ov') d { v with ov := ov' } G ng { st with O := O' } ∧ TkG d v { v with ov := ov' } w (w'.setCell ⟨d.ma, 9, none⟩ ov') := by
  have h1 := h.own.turn (i := .op) (r' := ⟨ov', 128, 3, O'.length, O'.flatMap tkS⟩) rfl hg ho hat
  have h2 := h1.store (i := .ma) (g := d.ma) (n := 1) (cap := 1) (e := 95) (size := 10) (xs := maC d v) (by simp [upd, TkP]) 9 ov'
  rw [tkP_op] at h2
  have far : ∀ b, b < w.heap.size → b ≠ d.ma → some b ≠ v.ov.ownBlock → (w'.setCell ⟨d.ma, 9, none⟩ ov').heap[b]? = w.heap[b]? := fun b hb hne hr => (Below.heap_setCell _ _ _ _ hne).trans (hg.block b hb hr)
  have m : ∀ b, (b = d.mg ∨ b = d.ml) → b < w.heap.size → (w'.setCell ⟨d.ma, 9, none⟩ ov').heap[b]? = w.heap[b]? := fun b hb hlt =>
    far b hlt (fun e => h.off hb (i := .ma) rfl (by rw [e]; rfl)) fun e => h.off hb (i := .op) rfl e.symm
  have hk : TkG d v { v with ov := ov' } w (w'.setCell ⟨d.ma, 9, none⟩ ov') := by
    refine ⟨⟨hg.os, hg.tape, hg.output, by have := hg.size; simpa [World.setCell] using this, fun b hb hK => far b hb (fun e => hK (.inr (.inr (.inl e)))) fun e => hK (.inr (.inr (.inr (.inr (.inl e.symm)))))⟩, fun b hb hK => ?_⟩
    rcases hK with hK | hK | hK | hK | hK | hK
    · exact .inl hK
    · exact .inr (.inl hK)
    · exact .inr (.inr (.inl hK))
    · exact .inr (.inr (.inr (.inl hK)))
    · rcases hat b hK with e | e
      · exact .inr (.inr (.inr (.inr (.inl e))))
      · omega
    · exact .inr (.inr (.inr (.inr (.inr hK))))
  exact ⟨⟨h2, h.mapG.kept (m _ (.inl rfl) h.mapG.lt), h.mapL.kept (m _ (.inr rfl) h.mapL.lt), h.ne, h.ge, h.since.trans (h.goes_below hk)⟩, hk⟩

/-- The last one is taken. -/
theorem TkM.pop (h : TkM w0 w d v G ng st) {O : List Spo} {p : Spo} (hO : st.O = O ++ [p]) {g cap : Nat} (hv : v.ov = .slice (some ⟨g, 0, none⟩) (O.length + 1) cap) :
    TkM w0 (w.setCell ⟨d.ma, 9, none⟩ (.slice (some ⟨g, 0, none⟩) O.length cap)) d { v with ov := .slice (some ⟨g, 0, none⟩) O.length cap } G ng { st with O := O } ∧
      TkG d v { v with ov := .slice (some ⟨g, 0, none⟩) O.length cap } w (w.setCell ⟨d.ma, 9, none⟩ (.slice (some ⟨g, 0, none⟩) O.length cap)) := by
  have ho := h.own.own .op _ rfl
  simp only [hv, hO] at ho
  have ho' : w.ownsRow w0.heap.size 128 3 (.slice (some ⟨g, 0, none⟩) O.length cap) O.length (O.flatMap tkS) := by
    refine ⟨tkS_len _, ?_⟩
    rcases ho.2 with ⟨e, _⟩ | ⟨g', cap', cur, e, h2, h3, h4, h5, h6, h7⟩
    · cases e
    · injection e with e1 e2 e3
      injection e1 with e1
      injection e1 with e1
      subst e1
      subst e3
      simp only [List.length_append, List.length_cons, List.length_nil] at h4
      refine .inr ⟨g, cap, cur, rfl, h2, h3, by omega, h5, h6, ?_⟩
      rw [List.flatMap_append] at h7
      have h9 := congrArg (List.take (O.length * 3)) h7
      rw [List.take_take, List.length_append, List.length_cons, List.length_nil, Nat.min_eq_left (by omega), ← tkS_len, List.take_left] at h9
      rw [← tkS_len]
      exact h9
  exact h.opTurn (World.grownBy.refl w _) ho' (fun b hb => .inl (by rw [hv]; exact hb))

def addIV (v : TkV) (cv : Value) (k : Nat) : Value := if k = v.OL.length then cv else v.IV k

theorem tkP_st {O : List Spo} {sv' cv : Value} {C : List It} : upd (upd (upd (TkP d v O) (.it v.OL.length) ⟨cv, 121, 2, C.length, C.flatMap tkI⟩) .st ⟨sv', 122, 1, v.OL.length + 1, (List.range v.OL.length).map v.IV ++ [cv]⟩) .ma ⟨.slice (some ⟨d.ma, 0, none⟩) 1 1, 95, 10, 1, (maC d v).set 6 sv'⟩ =
    TkP d { v with sv := sv', IV := addIV v cv, OL := v.OL ++ [C] } O := by
  funext i
  cases i with
  | ma => simp [upd, TkP, maC]
  | op => simp [upd, TkP]
  | st =>
    simp only [upd, TkP]
    rw [if_neg (by simp), if_pos trivial]
    congr 2
    · simp
    · rw [List.length_append, List.length_cons, List.length_nil, List.range_succ, List.map_append]
      congr 1
      · refine List.map_congr_left fun k hk => ?_
        have := List.mem_range.1 hk
        simp [addIV, show k ≠ v.OL.length by omega]
      · simp [addIV]
  | it k =>
    simp only [upd, TkP, List.length_append, List.length_cons, List.length_nil]
    rw [if_neg (by simp), if_neg (by simp)]
    by_cases e : k = v.OL.length
    · subst e
      rw [if_pos rfl, if_pos (by omega)]
      simp [addIV, List.getD]
    · rw [if_neg (by simpa using e)]
      by_cases hk : k < v.OL.length
      · rw [if_pos hk, if_pos (by omega)]
        simp [addIV, e, List.getD, List.getElem?_append_left hk]
      · rw [if_neg hk, if_neg (by omega)]

/-- A state more: its items were made since ws. -/
theorem TkM.pushState {ws : World} (h : TkM w0 ws d v G ng st) (hb : Below ws.heap.size ws w) {cv : Value} {C : List It} (hC : w.ownsRow ws.heap.size 121 2 cv C.length (C.flatMap tkI)) {sv' : Value} (hg : w.grownBy w' v.sv.ownBlock)
    (ho : w'.ownsRow w0.heap.size 122 1 sv' (v.OL.length + 1) ((List.range v.OL.length).map v.IV ++ [cv])) (hat : ∀ g, sv'.ownBlock = some g → v.sv.ownBlock = some g ∨ g = w.heap.size) :
    TkM w0 (w'.setCell ⟨d.ma, 6, none⟩ sv') d { v with sv := sv', IV := addIV v cv, OL := v.OL ++ [C] } G ng st ∧ TkG d v { v with sv := sv', IV := addIV v cv, OL := v.OL ++ [C] } ws (w'.setCell ⟨d.ma, 6, none⟩ sv') := by
  have hM := h.below hb
  have hlt : ∀ b, TkK d v b → b < ws.heap.size := fun b hb => (h.kc hb).2
  have o1 : Owns w w0.heap.size (upd (TkP d v st.O) (.it v.OL.length) ⟨cv, 121, 2, C.length, C.flatMap tkI⟩) := hM.own.put (own_mono hC h.le) (fun j a _ ha => hM.own.own j a ha) (fun j a _ ha g h1 h2 => by
    have := hlt g (tkK_row ha h1)
    have := (hC.lt g h2).1
    omega)
  have o2 := o1.turn (i := .st) (r := ⟨v.sv, 122, 1, v.OL.length, (List.range v.OL.length).map v.IV⟩) (r' := ⟨sv', 122, 1, v.OL.length + 1, (List.range v.OL.length).map v.IV ++ [cv]⟩) (by simp [upd, TkP]) hg ho hat
  have o3 := o2.store (i := .ma) (g := d.ma) (n := 1) (cap := 1) (e := 95) (size := 10) (xs := maC d v) (by simp [upd, TkP]) 6 sv'
  rw [tkP_st] at o3
  have far : ∀ b, b < ws.heap.size → b ≠ d.ma → some b ≠ v.sv.ownBlock → (w'.setCell ⟨d.ma, 6, none⟩ sv').heap[b]? = ws.heap[b]? := fun b hbl hne hr => ((Below.heap_setCell _ _ _ _ hne).trans (hg.block b (Nat.lt_of_lt_of_le hbl hb.size) hr)).trans (hb.block b hbl)
  have m : ∀ b, (b = d.mg ∨ b = d.ml) → b < ws.heap.size → (w'.setCell ⟨d.ma, 6, none⟩ sv').heap[b]? = ws.heap[b]? := fun b hb' hlt =>
    far b hlt (fun e => h.off hb' (i := .ma) rfl (by rw [e]; rfl)) fun e => h.off hb' (i := .st) rfl e.symm
  have hk : TkG d v { v with sv := sv', IV := addIV v cv, OL := v.OL ++ [C] } ws (w'.setCell ⟨d.ma, 6, none⟩ sv') := by
    refine ⟨⟨hg.os.trans hb.os, hg.tape.trans hb.tape, hg.output.trans hb.output, by have := hg.size; have := hb.size; simp [World.setCell]; omega, fun b hbl hK => far b hbl (fun e => hK (.inr (.inr (.inl e)))) fun e => hK (.inr (.inr (.inr (.inl e.symm))))⟩, fun b hbl hK => ?_⟩
    rcases hK with hK | hK | hK | hK | hK | ⟨k, hk, hK⟩
    · exact .inl hK
    · exact .inr (.inl hK)
    · exact .inr (.inr (.inl hK))
    · rcases hat b hK with e | e
      · exact .inr (.inr (.inr (.inl e)))
      · have := hb.size; omega
    · exact .inr (.inr (.inr (.inr (.inl hK))))
    · simp only [addIV] at hK
      simp only [List.length_append, List.length_cons, List.length_nil] at hk
      split at hK
      · have := (hC.lt b hK).1; omega
      · exact .inr (.inr (.inr (.inr (.inr ⟨k, by omega, hK⟩))))
  exact ⟨⟨o3, h.mapG.kept (m _ (.inl rfl) h.mapG.lt), h.mapL.kept (m _ (.inr rfl) h.mapL.lt), h.ne, h.ge, h.since.trans (h.goes_below hk)⟩, hk⟩

/-! ### Its maps -/

theorem TkM.lookL (h : TkM w0 w d v G ng st) {s : Spo} (h1 : s.1 ≤ 1000) (h2 : s.2.1 ≤ 1000) (h3 : s.2.2 ≤ 1000) (hc : st.c ≤ 10000000) : (Instr.lookup 91 (.map (some d.ml)) (soV s) false).run Try.prog w = .ok (.int .u32 (st.lk s)) w := by
  obtain ⟨l, hl⟩ := key_so h1 h2 h3
  have := mapAt_look h.mapL false (by unfold maxLen; omega) soLaw Try.underlying91 (zero_ahead w) soV_inj hl
  rw [this]
  by_cases hi : st.lk s = 0
  · simp [lkM, hi]
  · simp [lkM, hi]

theorem TkM.lookG (h : TkM w0 w d v G ng st) {p : Wy} (h1 : p.1 ≤ 1000) (h2 : 0 ≤ p.2.2) (h3 : p.2.2 ≤ 1000) (hc : ng ≤ 10000000) (c : Bool) : (Instr.lookup 90 (.map (some d.mg)) (wyV p) c).run Try.prog w = .ok (if c then .tuple #[(G p).getD (.int .i64 0), .bool (G p).isSome] else (G p).getD (.int .i64 0)) w := by
  obtain ⟨l, hl⟩ := key_wy h1 h2 h3
  exact mapAt_look h.mapG c (by unfold maxLen; omega) wyLaw Try.underlying90 (zero_num w) wyV_inj hl

theorem TkM.putG (h : TkM w0 w d v G ng st) {p : Wy} (h1 : p.1 ≤ 1000) (h2 : 0 ≤ p.2.2) (h3 : p.2.2 ≤ 1000) (x : Value) :
    ∃ w', (Instr.mapUpdate 90 (.map (some d.mg)) (wyV p) x).run Try.prog w = .ok () w' ∧ TkM w0 w' d v (setM G p x) (ng + 1) st ∧ TkG d v v w w' ∧ w'.heap.size = w.heap.size := by
  obtain ⟨l, hl⟩ := key_wy h1 h2 h3
  obtain ⟨w', e1, e2, e3, e4⟩ := mapAt_update h.mapG wyLaw Try.underlying90 wyV_inj hl x
  obtain ⟨a, b⟩ := h.setG e3 e2
  exact ⟨w', e1, a, b, e4⟩

theorem lkM_set {lk : Spo → Nat} {s : Spo} {m : Nat} (hm : m ≠ 0) : setM (lkM lk) s (.int .u32 m) = lkM fun t => if t = s then m else lk t := by
  funext t
  by_cases e : t = s
  · subst e; simp [setM, lkM, hm]
  · simp [setM, lkM, e]

theorem TkM.putL (h : TkM w0 w d v G ng st) {s : Spo} (h1 : s.1 ≤ 1000) (h2 : s.2.1 ≤ 1000) (h3 : s.2.2 ≤ 1000) {m : Nat} (hm : m ≠ 0) :
    ∃ w', (Instr.mapUpdate 91 (.map (some d.ml)) (soV s) (.int .u32 m)).run Try.prog w = .ok () w' ∧ TkM w0 w' d v G ng ⟨fun t => if t = s then m else st.lk t, st.O, st.c + 1⟩ ∧ TkG d v v w w' ∧ w'.heap.size = w.heap.size := by
  obtain ⟨l, hl⟩ := key_so h1 h2 h3
  obtain ⟨w', e1, e2, e3, e4⟩ := mapAt_update h.mapL soLaw Try.underlying91 soV_inj hl (.int .u32 m)
  rw [lkM_set hm] at e2
  obtain ⟨a, b⟩ := h.setL e3 e2
  exact ⟨w', e1, a, b, e4⟩
end

end Go.Proofs.Ytobegekmgoiopaa

/- The contracts of package table's small functions: above, right, next, readOn, rulesOf, one, has. -/
namespace Go.Proofs.Ytobegekmgoiopaa
open Go.RowKit

theorem TkM.auto {w0 w : World} {d : TkA} {v : TkV} {G : Wy → Option Value} {ng : Nat} {st : LS} {R : List Ru} {Nu : List Bool} {Fi : List (List Bool)} (h : TkM w0 w d v G ng st) (E : TkE w0 d R Nu Fi) : AutoG w w0.heap.size d.ma d.T d.N d.rv R :=
  ⟨(h.cell (i := 0) rfl (by omega)).1, (h.cell (i := 1) rfl (by omega)).1, (h.cell (i := 2) rfl (by omega)).1, h.rules E, h.le, h.maLt⟩
theorem AutoG.boxed {w : World} {lim ab T N : Nat} {rv : Value} {R : List Ru} (h : AutoG w lim ab T N rv R) (o : Obj) : AutoG (w.alloc o) lim ab T N rv R := h.below ((Below.refl _ _).alloc (Nat.le_refl _) o) h.le h.lt
theorem AutoG.later {w w' : World} {lim ab T N : Nat} {rv : Value} {R : List Ru} (h : AutoG w lim ab T N rv R) (hb : Below w.heap.size w w') : AutoG w' lim ab T N rv R := h.below hb h.le h.lt

set_option maxRecDepth 100000 in
theorem tk_above {w : World} {lim ab T N : Nat} {rv : Value} {R : List Ru} (hA : AutoG w lim ab T N rv R) :
    Calls Try.prog 50 #[.pointer (some ⟨ab, 0, none⟩)] w fun e w' => e = .returned (.int .i64 R.length) ∧ w' = w := by
  obtain ⟨ra, rc, hrv⟩ := hA.rules.1
  subst hrv
  have a2 := hA.r
  clear hA
  go_enter Try.func50, Try.ntmps50
  go_wp2_with fail
  go_ret
  exact ⟨rfl, rfl⟩

set_option maxRecDepth 100000 in
set_option maxHeartbeats 1600000 in
theorem tk_right {w : World} {lim ab T N r : Nat} {rv : Value} {R : List Ru} (hA : AutoG w lim ab T N rv R) (hr : r ≤ R.length) :
    Calls Try.prog 77 #[.pointer (some ⟨ab, 0, none⟩), .int .i64 r] w fun e w' => ∃ la lc, e = .returned (.slice la (rightF R r).length lc) ∧ SymsAt w' (.slice la (rightF R r).length lc) (rightF R r) ∧ Below w.heap.size w w' := by
  have ab0 := tk_above hA
  obtain ⟨ra, rc, hrv⟩ := hA.rules.1
  subst hrv
  have a2 := hA.r
  by_cases he : r = R.length
  · subst he
    have e1 : ((R.length : Int) == (R.length : Int)) = true := by simp
    have HE : Hid (rightF R R.length = [(false, 0)]) := by show rightF R R.length = _; simp [rightF]
    clear hA hr
    go_enter Try.func77, Try.ntmps77
    go_wp2_with (go_at_call 50; refine ab0.mono ?_; rintro e w1 ⟨rfl, rfl⟩)
    go_ret
    rw [HE.out]
    refine ⟨some ⟨w1.heap.size, 0, none⟩, 1, rfl, ?_, (Below.refl _ _).alloc (Nat.le_refl _) _⟩
    refine ⟨⟨_, _, rfl, Nat.le_refl _⟩, fun j hj => ?_⟩
    have hj0 : j = 0 := by simpa using hj
    subst hj0
    exact ⟨w1.heap.size, 0, 1, rfl, by simp [go_sem], by simp [go_sem]⟩
  · have hlt : r < R.length := by omega
    obtain ⟨b, o, rc', qa, qc, hv, hb, k1, k2, hsy⟩ := hA.rules.syms hlt
    cases hv
    have e1 : ((r : Int) == (R.length : Int)) = false := by simpa using fun h => he (by omega)
    have i0 : (0 : Int) ≤ (r : Int) := Int.natCast_nonneg _
    have i1 : (r : Int) < (R.length : Int) := by omega
    have k2' : w.cell? ⟨b, o + r * 2 + 1, none⟩ = some (.slice qa (R.getD r (0, [])).2.length qc) := by rw [Nat.add_assoc]; exact k2
    have hre : rightF R r = (R.getD r (0, [])).2 := by rw [rightF, if_neg he]
    obtain ⟨Rt, hRt⟩ : ∃ x, (R.getD r (0, [])).2 = x := ⟨_, rfl⟩
    rw [hRt] at k2' hsy hre
    rw [hre]
    have HE : Hid (SymsAt w (.slice qa Rt.length qc) Rt) := hsy
    clear hA hr k2 hsy he hRt hre
    go_enter Try.func77, Try.ntmps77
    go_wp2_with (go_at_call 50; refine ab0.mono ?_; rintro e w1 ⟨rfl, rfl⟩)
    go_ret
    exact ⟨qa, qc, rfl, HE.out, Below.refl _ _⟩

set_option maxRecDepth 100000 in
set_option maxHeartbeats 1600000 in
theorem tk_next_some {w : World} {lim ab T N a b : Nat} {rv : Value} {R : List Ru} {s : Sy} (hA : AutoG w lim ab T N rv R) (hr : a ≤ R.length) (hs : (rightF R a)[b]? = some s) :
    Calls Try.prog 65 #[.pointer (some ⟨ab, 0, none⟩), .agg #[.int .i64 a, .int .i64 b]] w fun e w' => e = .returned (.tuple #[.agg #[.bool s.1, .int .i64 s.2], .bool true]) ∧ Below w.heap.size w w' := by
  obtain ⟨hlt, hget⟩ := List.getElem?_eq_some_iff.1 hs
  have hgd : (rightF R a).getD b (false, 0) = s := by simp [List.getD, hs]
  have rg := tk_right ((hA.boxed (.cells #[.int .i64 a, .int .i64 b] 121)).boxed (.cells #[.bool false, .int .i64 0] 102)) hr
  obtain ⟨Rt, hRt⟩ : ∃ x, rightF R a = x := ⟨_, rfl⟩
  rw [hRt] at rg hlt hgd
  have HG : Hid (Rt.getD b (false, 0) = s) := hgd
  have HL : Hid (b < Rt.length) := hlt
  clear hA hget hs hRt hgd
  obtain ⟨s1, s2⟩ := s
  go_enter Try.func65, Try.ntmps65
  go_wp2_with
    (go_at_call 77; refine rg.mono ?_; rintro e w2 ⟨la, lc, rfl, hsy, hB2⟩
     obtain ⟨g, o, c, hv, c1, c2⟩ := hsy.2 b HL.out
     cases hv
     rw [HG.out] at c1 c2
     simp only at c1 c2
     have b0 : w2.cell? ⟨w.heap.size, 0, none⟩ = some (.int .i64 a) := (hB2.cell (by simp; omega)).trans (by simp [go_sem])
     have b1 : w2.cell? ⟨w.heap.size, 1, none⟩ = some (.int .i64 b) := (hB2.cell (by simp; omega)).trans (by simp [go_sem])
     have r0 : w2.cell? ⟨w.heap.size + 1, 0, none⟩ = some (.bool false) := (hB2.cell (by simp)).trans (by simp [go_sem])
     have r1 : w2.cell? ⟨w.heap.size + 1, 1, none⟩ = some (.int .i64 0) := (hB2.cell (by simp)).trans (by simp [go_sem])
     have rf : ∀ o, w2.frozen? ⟨w.heap.size + 1, o, none⟩ = false := fun o => (hB2.frozen (by simp)).trans (by simp [go_sem])
     have e1 : ((b : Int) == (Rt.length : Int)) = false := by have := HL.out; simp; omega
     have i0 : (0 : Int) ≤ (b : Int) := Int.natCast_nonneg _
     have i1 : (b : Int) < (Rt.length : Int) := by have := HL.out; omega
     have HX : Hid (Below w.heap.size w w2) := ((((Below.refl _ _).alloc (Nat.le_refl _) _).alloc (by simp) _).trans (hB2.mono (by simp; omega)))
     clear hB2 hsy rg)
  refine bodyPost_ret (v := .tuple #[.agg #[.bool s1, .int .i64 s2], .bool true]) (by simp [results, Try.results65, go_sem, r0, r1]) rfl ⟨rfl, ?_⟩
  exact (HX.out.setCell (by simp) _).setCell (by simp) _

set_option maxRecDepth 100000 in
set_option maxHeartbeats 1600000 in
theorem tk_next_none {w : World} {lim ab T N a b : Nat} {rv : Value} {R : List Ru} (hA : AutoG w lim ab T N rv R) (hr : a ≤ R.length) (hb : b = (rightF R a).length) :
    Calls Try.prog 65 #[.pointer (some ⟨ab, 0, none⟩), .agg #[.int .i64 a, .int .i64 b]] w fun e w' => e = .returned (.tuple #[.agg #[.bool false, .int .i64 0], .bool false]) ∧ Below w.heap.size w w' := by
  have rg := tk_right ((hA.boxed (.cells #[.int .i64 a, .int .i64 b] 121)).boxed (.cells #[.bool false, .int .i64 0] 102)) hr
  rw [← hb] at rg
  clear hA hb
  go_enter Try.func65, Try.ntmps65
  go_wp2_with
    (go_at_call 77; refine rg.mono ?_; rintro e w2 ⟨la, lc, rfl, _, hB2⟩
     have b1 : w2.cell? ⟨w.heap.size, 1, none⟩ = some (.int .i64 b) := (hB2.cell (by simp; omega)).trans (by simp [go_sem])
     have r0 : w2.cell? ⟨w.heap.size + 1, 0, none⟩ = some (.bool false) := (hB2.cell (by simp)).trans (by simp [go_sem])
     have r1 : w2.cell? ⟨w.heap.size + 1, 1, none⟩ = some (.int .i64 0) := (hB2.cell (by simp)).trans (by simp [go_sem])
     have rf : ∀ o, w2.frozen? ⟨w.heap.size + 1, o, none⟩ = false := fun o => (hB2.frozen (by simp)).trans (by simp [go_sem])
     have HX : Hid (Below w.heap.size w w2) := ((((Below.refl _ _).alloc (Nat.le_refl _) _).alloc (by simp) _).trans (hB2.mono (by simp; omega)))
     clear hB2 rg)
  refine bodyPost_ret (v := .tuple #[.agg #[.bool false, .int .i64 0], .bool false]) (by simp [results, Try.results65, go_sem, r0, r1]) rfl ⟨rfl, ?_⟩
  exact (HX.out.setCell (by simp) _).setCell (by simp) _

set_option maxRecDepth 100000 in
theorem tk_readOn {w : World} {a b : Nat} (hb : b ≤ 1000) :
    Calls Try.prog 66 #[.agg #[.int .i64 a, .int .i64 b]] w fun e w' => e = .returned (.agg #[.int .i64 a, .int .i64 ((b : Int) + 1)]) ∧ Below w.heap.size w w' := by
  go_enter Try.func66, Try.ntmps66
  go_wp2_with fail
  refine bodyPost_ret (v := .agg #[.int .i64 a, .int .i64 ((b : Int) + 1)]) (by simp [results, Try.results66, go_sem]) rfl ⟨rfl, ?_⟩
  exact ((Below.refl _ _).alloc (Nat.le_refl _) _).alloc (by simp) _

end Go.Proofs.Ytobegekmgoiopaa

/- The contracts of package table's rulesOf and symbols; one, has. -/
namespace Go.Proofs.Ytobegekmgoiopaa
open Go.RowKit

/-- The rules of a name, of those below k, with nothing read. -/
def ruleI (R : List Ru) (m : Int) (k : Nat) : List It := ((List.range k).filter fun n => decide ((R.getD n (0, [])).1 = m)).map fun n => (n, 0)
theorem ruleI_yes {R : List Ru} {m : Int} {k : Nat} (h : (R.getD k (0, [])).1 = m) : ruleI R m (k + 1) = ruleI R m k ++ [(k, 0)] := by
  unfold ruleI
  rw [List.range_succ, List.filter_append, List.map_append]
  have e : ([k].filter fun n => decide ((R.getD n (0, [])).1 = m)) = [k] := by rw [List.filter_cons, if_pos (by simpa using h)]; rfl
  rw [e]; rfl
theorem ruleI_no {R : List Ru} {m : Int} {k : Nat} (h : (R.getD k (0, [])).1 ≠ m) : ruleI R m (k + 1) = ruleI R m k := by
  unfold ruleI
  rw [List.range_succ, List.filter_append, List.map_append]
  have e : ([k].filter fun n => decide ((R.getD n (0, [])).1 = m)) = [] := by rw [List.filter_cons, if_neg (by simpa using h)]; rfl
  rw [e]; simp
theorem ruleI_len (R : List Ru) (m : Int) (k : Nat) : (ruleI R m k).length ≤ k := by
  unfold ruleI
  rw [List.length_map]
  refine Nat.le_trans (List.length_filter_le _ _) ?_
  simp

set_option maxRecDepth 100000 in
set_option maxHeartbeats 3200000 in
theorem tk_rulesOf {w : World} {lim ab T N : Nat} {rv : Value} {R : List Ru} {m : Int} (hA : AutoG w lim ab T N rv R) (hR : R.length ≤ 40) :
    Calls Try.prog 68 #[.pointer (some ⟨ab, 0, none⟩), .int .i64 m] w fun e w' => ∃ ov, e = .returned ov ∧ w'.ownsRow w.heap.size 121 2 ov (ruleI R m R.length).length ((ruleI R m R.length).flatMap tkI) ∧ Below w.heap.size w w' ∧ (ruleI R m R.length = [] → ov = .slice none 0 0) := by
  obtain ⟨ra, rc, hrv⟩ := hA.rules.1
  subst hrv
  have a2 := hA.r
  have HA : Hid (AutoG w lim ab T N (.slice ra R.length rc) R) := hA
  clear hA
  go_enter Try.func68, Try.ntmps68
  go_wp2_with fail
  clear a2
  go_loopw [5, 14] (fun s5 s14 wr => ∃ (k : Nat) (ov : Value), ov = s5 ∧ s14 = .int .i64 k ∧ k ≤ R.length ∧ wr.ownsRow w.heap.size 121 2 ov (ruleI R m k).length ((ruleI R m k).flatMap tkI) ∧ Below w.heap.size w wr ∧ (ruleI R m k = [] → ov = .slice none 0 0)) (fun _ s _ => R.length - (intOf s).toNat)
  case atStart => exact ⟨0, _, rfl, rfl, Nat.zero_le _, World.ownsRow_nil w w.heap.size 121 2, Below.refl _ _, fun _ => rfl⟩
  case round =>
    obtain ⟨k, ov, rfl, rfl, hk, hO, hB, hNil⟩ := hrel
    have HNil : Hid (ruleI R m k = [] → ov = .slice none 0 0) := hNil
    clear hNil
    have HB : Hid (Below w.heap.size w wr) := hB
    have HO : Hid (wr.ownsRow w.heap.size 121 2 ov (ruleI R m k).length ((ruleI R m k).flatMap tkI)) := hO
    by_cases hlt : k < R.length
    · obtain ⟨b, o, rc', qa, qc, hv, hb, k1, k2, _⟩ := (HA.out.later hB).rules.syms hlt
      cases hv
      have hle := HA.out.le
      have hsz := hB.size
      have hll := ruleI_len R m k
      obtain ⟨l, hl⟩ : ∃ l, (R.getD k (0, [])).1 = l := ⟨_, rfl⟩
      obtain ⟨q, hq⟩ : ∃ q, (R.getD k (0, [])).2.length = q := ⟨_, rfl⟩
      rw [hl] at k1
      rw [hq] at k2
      have HL : Hid ((R.getD k (0, [])).1 = l) := hl
      have i0 : (0 : Int) ≤ (k : Int) := Int.natCast_nonneg _
      have i1 : (k : Int) < (R.length : Int) := by omega
      obtain ⟨W1, hW1⟩ : ∃ W1, wr.alloc (.cells #[.int .i64 l, .slice qa q qc] 28) = W1 := ⟨_, rfl⟩
      have HB1 : Hid (Below w.heap.size w W1) := by show Below _ _ _; rw [← hW1]; exact hB.alloc (by omega) _
      have HO1 : Hid (W1.ownsRow w.heap.size 121 2 ov (ruleI R m k).length ((ruleI R m k).flatMap tkI)) := by show World.ownsRow _ _ _ _ _ _ _; rw [← hW1]; exact hO.alloc _
      clear hB hO hl hq
      by_cases hm : l = m
      · subst hm
        have e1 : (l == l) = true := by simp
        have own5 := HO1.out.alloc (.cells #[.int .i64 k, .int .i64 0] 121)
        have hnw5 := World.news_of_block (cs := #[.int .i64 k, .int .i64 0]) (t := 121) (fr := (0, 0)) (heap_alloc_new W1 (.cells #[.int .i64 k, .int .i64 0] 121))
        have hs1 : w.heap.size ≤ W1.heap.size := HB1.out.size
        have hW1s : W1.heap.size = wr.heap.size + 1 := by rw [← hW1]; simp
        rw [hW1s] at hnw5
        obtain ⟨p, hp⟩ : ∃ p, (ruleI R l k).length = p := ⟨_, rfl⟩
        rw [hp] at own5 hll
        have n1 : p + 1 ≤ maxLen := by unfold maxLen; omega
        have n2 : (p + 1) * 16 ≤ 140737488355328 := by omega
        have HP : Hid ((ruleI R l k).length = p) := hp
        obtain ⟨i0', hi0, hz0, hz1, hz2⟩ := info_parts Try.infoIt
        clear hp
        have HW1 : Hid (wr.alloc (.cells #[.int .i64 l, .slice qa q qc] 28) = W1) := hW1
        clear hW1
        go_wp2_with
          (at_builtin
           rw [HW1.out]
           refine wpList_append_lies _ rfl _ _ _ rfl w.heap.size 121 i0' _ 2 16 Try.underlying122 hi0 hz0 hz1 hz2 rfl (by omega) ov p ((ruleI R l k).flatMap tkI) rfl own5
             ⟨wr.heap.size + 1, 0, none⟩ 1 1 [.int .i64 k, .int .i64 0] rfl rfl hnw5 (by simp [Value.oneCell']) (by omega) n1 n2 (by simp; omega) (wr.heap.size + 2) (by simp; omega) ?_
           intro g6 cap6 w6 hown6 hgrow6 hat6 hlt6)
        go_roundw
        case rel =>
          have hB6 : Below w.heap.size w w6 := (HB1.out.alloc (by omega) _).grown hgrow6 (by simp; omega) (fun j hj => (HO1.out.lt j hj).1)
          refine ⟨k + 1, _, rfl, by go_num, by omega, ?_, hB6, fun e => by rw [ruleI_yes HL.out] at e; simp at e⟩
          rw [ruleI_yes HL.out, List.flatMap_append, List.length_append, HP.out]
          exact hown6
        case measure => simp [intOf]; omega
      · have e1 : (l == m) = false := by simpa using hm
        have HN : Hid (ruleI R m (k + 1) = ruleI R m k) := ruleI_no (by rw [HL.out]; exact hm)
        have HW1 : Hid (wr.alloc (.cells #[.int .i64 l, .slice qa q qc] 28) = W1) := hW1
        clear hW1
        go_wp2_with fail
        go_roundw
        case rel => exact ⟨k + 1, ov, rfl, by go_num, by omega, by rw [HN.out, HW1.out]; exact HO1.out, by rw [HW1.out]; exact HB1.out, fun e => HNil.out (by rw [← HN.out]; exact e)⟩
        case measure => simp [intOf]; omega
    · obtain rfl : k = R.length := by omega
      clear hB hO
      go_wp2_with fail
      go_ret
      exact ⟨ov, rfl, HO.out, HB.out, HNil.out⟩

set_option maxRecDepth 100000 in
theorem tk_one {w : World} {n : Nat} (hn : n ≤ 8) : Calls Try.prog 54 #[.int .i64 n] w fun e w' => e = .returned (.int .u32 ((2 ^ n : Nat) : Int)) ∧ w' = w := by
  match n, hn with
  | 0, _ | 1, _ | 2, _ | 3, _ | 4, _ | 5, _ | 6, _ | 7, _ | 8, _ =>
    go_enter Try.func54, Try.ntmps54
    go_wp2_with fail
    go_ret
    exact ⟨rfl, rfl⟩

end Go.Proofs.Ytobegekmgoiopaa
