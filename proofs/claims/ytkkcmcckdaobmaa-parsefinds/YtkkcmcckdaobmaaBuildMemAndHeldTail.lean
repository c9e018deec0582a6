import Derived.Test.YtkkcmcckdaobmaaTkAllAndClosed6
import Derived.Test.YtkkcmcckdaobmaaBuildMathAndBehind6
import Derived.Test.YtkkcmcckdaobmaaTkLookAndRowI
import Derived.Test.YtkkcmcckdaobmaaAuto6AndBits
import Derived.Deep.RegionHeld3
/- How the states, and where each goes on, lie in memory while they are made (pollardingref6.build). No walk. -/
namespace Go.Proofs.Ytkkcmcckdaobmaa
open Go.RowKit

/-- What lies there: the states' row, the row of where they go on, a state's items, a state's row of where it goes on; what is being made: a row, a list. -/
inductive Bx
  | st | nx | it (k : Nat) | rw (k : Nat) | cur | ls
  deriving DecidableEq

/-- sv, nv: the two great rows; vi, vr: what stands in them; OL, NL: items, and where to go on; c, l: what is being made. -/
def Pb (sv nv : Value) (vi vr : Nat → Value) (OL : List (List It)) (NL : List (List Int)) (c l : Option Row) : Bx → Option Row
  | .st => some ⟨sv, 84, 1, OL.length, (List.range OL.length).map vi⟩
  | .nx => some ⟨nv, 25, 1, NL.length, (List.range NL.length).map vr⟩
  | .it k => if k < OL.length then some ⟨vi k, 87, 2, (OL.getD k []).length, flatI (OL.getD k [])⟩ else none
  | .rw k => if k < NL.length then some ⟨vr k, 3, 1, (NL.getD k []).length, (NL.getD k []).map (Value.int .i64)⟩ else none
  | .cur => c
  | .ls => l

def curRow (v : Value) (C : List Int) : Row := ⟨v, 3, 1, C.length, C.map (Value.int .i64)⟩
def lsRow (v : Value) (L : List It) : Row := ⟨v, 87, 2, L.length, flatI L⟩

section
variable {w : World} {base : Nat} {sv nv : Value} {vi vr : Nat → Value} {OL : List (List It)} {NL : List (List Int)} {c l : Option Row}

theorem own_items {v : Value} {n : Nat} {O : List It} (h : w.ownsRow base 87 2 v n (flatI O)) : ItemsAt w w.heap.size v O := by
  have hl : O.length = n := by have : (flatI O).length = n * 2 := h.1; rw [flatI_length] at this; omega
  obtain ⟨a, c, hv⟩ := own_form h
  refine ⟨⟨a, c, by rw [hv, hl]⟩, fun k hk => ?_⟩
  obtain ⟨g, cap, rfl, _, _⟩ := h.form (by omega)
  refine ⟨g, 0, cap, by rw [hl], (h.lt g rfl).2, ?_, ?_⟩
  · rw [Nat.zero_add, h.cellAt _ (by omega)]; exact (flatI_get hk).1
  · rw [Nat.zero_add, h.cellAt _ (by omega)]; exact (flatI_get hk).2

theorem Owns.itemsOf (h : Owns w base (Pb sv nv vi vr OL NL c l)) {k : Nat} (hk : k < OL.length) : ItemsAt w w.heap.size (vi k) (OL.getD k []) :=
  own_items (h.own (.it k) _ (if_pos hk))

theorem Owns.stForm (h : Owns w base (Pb sv nv vi vr OL NL c l)) (hO : 0 < OL.length) : ∃ g cap, sv = .slice (some ⟨g, 0, none⟩) OL.length cap ∧ base ≤ g ∧ g < w.heap.size := h.form (i := Bx.st) rfl hO

theorem Owns.stCell {g cap : Nat} (h : Owns w base (Pb (.slice (some ⟨g, 0, none⟩) OL.length cap) nv vi vr OL NL c l)) {k : Nat} (hk : k < OL.length) : w.cell? ⟨g, k, none⟩ = some (vi k) := by
  have := (h.cell (i := Bx.st) rfl k (by omega)).1
  rw [this]
  simp [hk]

/-- The list that is being made is given up. -/
theorem Owns.dropLs (h : Owns w base (Pb sv nv vi vr OL NL c l)) : Owns w base (Pb sv nv vi vr OL NL c none) := by
  have sub : ∀ i r, Pb sv nv vi vr OL NL c none i = some r → Pb sv nv vi vr OL NL c l i = some r := fun i r hi => by
    cases i <;> first | exact hi | cases hi
  exact ⟨fun i r hi => h.own i r (sub i r hi), fun i j a b hij ha hb => h.apart i j a b hij (sub _ _ ha) (sub _ _ hb)⟩

/-- A new list, or one in another place. -/
theorem Pb_ls (r : Row) : upd (Pb sv nv vi vr OL NL c l) .ls r = Pb sv nv vi vr OL NL c (some r) := by
  funext i
  cases i <;> simp [upd, Pb]
theorem Pb_cur (r : Row) : upd (Pb sv nv vi vr OL NL c l) .cur r = Pb sv nv vi vr OL NL (some r) l := by
  funext i
  cases i <;> simp [upd, Pb]

theorem getD_snoc {α : Type} {L : List α} {x d : α} {k : Nat} (hk : k < L.length) : (L ++ [x]).getD k d = L.getD k d := by simp [List.getD, List.getElem?_append_left hk]
theorem getD_snoc_last {α : Type} {L : List α} {x d : α} : (L ++ [x]).getD L.length d = x := by simp [List.getD]

theorem range_snoc (f : Nat → Value) (n : Nat) (v : Value) : (List.range (n + 1)).map (fun k => if k = n then v else f k) = (List.range n).map f ++ [v] := by
  rw [List.range_succ, List.map_append]
  congr 1
  · refine List.map_congr_left fun k hk => ?_
    have := List.mem_range.1 hk
    rw [if_neg (by omega)]
  · simp

/-- The list that was made is one state more: its row and the row of states have turned. -/
theorem Owns.pushSt {w' : World} {sv' v : Value} {O : List It} (h : Owns w base (Pb sv nv vi vr OL NL c (some (lsRow v O)))) (hg : w.grownBy w' sv.ownBlock)
    (hown : w'.ownsRow base 84 1 sv' (OL.length + 1) ((List.range OL.length).map vi ++ [v])) (hat : ∀ g, sv'.ownBlock = some g → sv.ownBlock = some g ∨ g = w.heap.size) :
    Owns w' base (Pb sv' nv (fun k => if k = OL.length then v else vi k) vr (OL ++ [O]) NL c none) := by
  have h1 := h.turn (i := Bx.st) (r' := ⟨sv', 84, 1, OL.length + 1, (List.range OL.length).map vi ++ [v]⟩) rfl hg hown hat
  -- each row of the new one is a row of the old one
  have sub : ∀ i r, Pb sv' nv (fun k => if k = OL.length then v else vi k) vr (OL ++ [O]) NL c none i = some r →
      ∃ j, (j = i ∨ (i = .it OL.length ∧ j = .ls)) ∧ upd (Pb sv nv vi vr OL NL c (some (lsRow v O))) .st ⟨sv', 84, 1, OL.length + 1, (List.range OL.length).map vi ++ [v]⟩ j = some r := fun i r hi => by
    cases i with
    | st =>
      refine ⟨.st, .inl rfl, ?_⟩
      rw [upd_same, ← hi]
      simp only [Pb, List.length_append, List.length_cons, List.length_nil, Nat.zero_add, range_snoc]
    | nx => exact ⟨.nx, .inl rfl, by rw [upd_other _ (by simp)]; exact hi⟩
    | rw k => exact ⟨.rw k, .inl rfl, by rw [upd_other _ (by simp)]; exact hi⟩
    | cur => exact ⟨.cur, .inl rfl, by rw [upd_other _ (by simp)]; exact hi⟩
    | ls => cases hi
    | it k =>
      simp only [Pb, List.length_append, List.length_cons, List.length_nil, Nat.zero_add] at hi
      split at hi
      · rename_i hk
        by_cases hkl : k = OL.length
        · subst hkl
          refine ⟨.ls, .inr ⟨rfl, rfl⟩, ?_⟩
          rw [upd_other _ (by simp), ← hi, if_pos rfl, getD_snoc_last]
          rfl
        · have hk' : k < OL.length := by omega
          refine ⟨.it k, .inl rfl, ?_⟩
          rw [upd_other _ (by simp), ← hi, if_neg hkl, getD_snoc hk']
          exact if_pos hk'
      · cases hi
  refine ⟨fun i r hi => ?_, fun i j a b hij ha hb g ga gb => ?_⟩
  · obtain ⟨i', _, e⟩ := sub i r hi
    exact h1.own i' r e
  · obtain ⟨i', ei, ha'⟩ := sub i a ha
    obtain ⟨j', ej, hb'⟩ := sub j b hb
    refine h1.apart i' j' a b ?_ ha' hb' g ga gb
    intro e
    rcases ei with rfl | ⟨rfl, rfl⟩
    · rcases ej with rfl | ⟨rfl, rfl⟩
      · exact hij e
      · subst e; cases ha
    · rcases ej with rfl | ⟨rfl, rfl⟩
      · subst e; cases hb
      · exact hij rfl

/-- The row that was made is one more of where states go on. -/
theorem Owns.pushNx {w' : World} {nv' v : Value} {C : List Int} (h : Owns w base (Pb sv nv vi vr OL NL (some (curRow v C)) none)) (hg : w.grownBy w' nv.ownBlock)
    (hown : w'.ownsRow base 25 1 nv' (NL.length + 1) ((List.range NL.length).map vr ++ [v])) (hat : ∀ g, nv'.ownBlock = some g → nv.ownBlock = some g ∨ g = w.heap.size) :
    Owns w' base (Pb sv nv' vi (fun k => if k = NL.length then v else vr k) OL (NL ++ [C]) none none) := by
  have h1 := h.turn (i := Bx.nx) (r' := ⟨nv', 25, 1, NL.length + 1, (List.range NL.length).map vr ++ [v]⟩) rfl hg hown hat
  have sub : ∀ i r, Pb sv nv' vi (fun k => if k = NL.length then v else vr k) OL (NL ++ [C]) none none i = some r →
      ∃ j, (j = i ∨ (i = .rw NL.length ∧ j = .cur)) ∧ upd (Pb sv nv vi vr OL NL (some (curRow v C)) none) .nx ⟨nv', 25, 1, NL.length + 1, (List.range NL.length).map vr ++ [v]⟩ j = some r := fun i r hi => by
    cases i with
    | nx =>
      refine ⟨.nx, .inl rfl, ?_⟩
      rw [upd_same, ← hi]
      simp only [Pb, List.length_append, List.length_cons, List.length_nil, Nat.zero_add, range_snoc]
    | st => exact ⟨.st, .inl rfl, by rw [upd_other _ (by simp)]; exact hi⟩
    | it k => exact ⟨.it k, .inl rfl, by rw [upd_other _ (by simp)]; exact hi⟩
    | cur => cases hi
    | ls => cases hi
    | rw k =>
      simp only [Pb, List.length_append, List.length_cons, List.length_nil, Nat.zero_add] at hi
      split at hi
      · rename_i hk
        by_cases hkl : k = NL.length
        · subst hkl
          refine ⟨.cur, .inr ⟨rfl, rfl⟩, ?_⟩
          rw [upd_other _ (by simp), ← hi, if_pos rfl, getD_snoc_last]
          rfl
        · have hk' : k < NL.length := by omega
          refine ⟨.rw k, .inl rfl, ?_⟩
          rw [upd_other _ (by simp), ← hi, if_neg hkl, getD_snoc hk']
          exact if_pos hk'
      · cases hi
  refine ⟨fun i r hi => ?_, fun i j a b hij ha hb g ga gb => ?_⟩
  · obtain ⟨i', _, e⟩ := sub i r hi
    exact h1.own i' r e
  · obtain ⟨i', ei, ha'⟩ := sub i a ha
    obtain ⟨j', ej, hb'⟩ := sub j b hb
    refine h1.apart i' j' a b ?_ ha' hb' g ga gb
    intro e
    rcases ei with rfl | ⟨rfl, rfl⟩
    · rcases ej with rfl | ⟨rfl, rfl⟩
      · exact hij e
      · subst e; cases ha
    · rcases ej with rfl | ⟨rfl, rfl⟩
      · subst e; cases hb
      · exact hij rfl

/-- A new row, in a block that was not there. -/
theorem Owns.newer {ι : Type} [DecidableEq ι] {P : ι → Option Row} (h : Owns w base P) (i : ι) {w' : World} {r : Row} (hg : w.grownBy w' none) (hown : w'.ownsRow base r.e r.size r.v r.n r.xs) (hv : ∀ g, r.v.ownBlock = some g → w.heap.size ≤ g) : Owns w' base (upd P i r) := by
  refine h.put hown (fun j a _ ha => (h.own j a ha).kept hg ?_) (fun j a _ ha g h1 h2 => ?_)
  · cases a.v.ownBlock <;> simp
  · have := (h.lt ha h1).2
    have := hv g h2
    omega

/-- A list with nothing in it. -/
theorem Owns.nilLs (h : Owns w base (Pb sv nv vi vr OL NL c l)) : Owns w base (Pb sv nv vi vr OL NL c (some (lsRow (.slice none 0 0) []))) := by
  have := h.newer (i := Bx.ls) (r := lsRow (.slice none 0 0) []) ⟨rfl, rfl, rfl, Nat.le_refl _, fun _ _ _ => rfl⟩ (World.ownsRow_nil w base 87 2) (fun g hg => by simp [lsRow, Value.ownBlock] at hg)
  rwa [Pb_ls] at this

/-- One item more. -/
theorem Owns.pushLs {w' : World} {lv : Value} {L : List It} {g cap r d : Nat} (h : Owns w base (Pb sv nv vi vr OL NL c (some (lsRow lv L)))) (hg : w.grownBy w' lv.ownBlock)
    (hown : w'.ownsRow base 87 2 (.slice (some ⟨g, 0, none⟩) (L.length + 1) cap) (L.length + 1) (flatI L ++ [.int .i64 r, .int .i64 d])) (hat : lv.ownBlock = some g ∨ g = w.heap.size) :
    Owns w' base (Pb sv nv vi vr OL NL c (some (lsRow (.slice (some ⟨g, 0, none⟩) (L.length + 1) cap) (L ++ [(r, d)])))) := by
  have e : lsRow (.slice (some ⟨g, 0, none⟩) (L.length + 1) cap) (L ++ [(r, d)]) = ⟨.slice (some ⟨g, 0, none⟩) (L.length + 1) cap, 87, 2, L.length + 1, flatI L ++ [.int .i64 r, .int .i64 d]⟩ := by
    unfold lsRow
    rw [flatI_append]
    simp [flatI]
  have := h.turn (i := Bx.ls) (r := lsRow lv L) (r' := lsRow (.slice (some ⟨g, 0, none⟩) (L.length + 1) cap) (L ++ [(r, d)])) rfl hg (by rw [e]; exact hown) (fun g' hg' => by
    rw [e] at hg'
    simp only [Value.ownBlock, Option.some.injEq] at hg'
    subst hg'
    exact hat)
  rwa [Pb_ls] at this

/-- The list is another one, in a block that was not there. -/
theorem Owns.freshLs {w' : World} {g cap : Nat} {O : List It} (h : Owns w base (Pb sv nv vi vr OL NL c l)) (hb : Below w.heap.size w w') (hO : RowIt w' w.heap.size g cap O) (hbase : base ≤ w.heap.size) :
    Owns w' base (Pb sv nv vi vr OL NL c (some (lsRow (.slice (some ⟨g, 0, none⟩) O.length cap) O))) := by
  have := h.newer (i := Bx.ls) (r := lsRow (.slice (some ⟨g, 0, none⟩) O.length cap) O) ⟨hb.os, hb.tape, hb.output, hb.size, fun k hk _ => hb.block k hk⟩ (own_mono hO hbase) (fun g' hg' => by
    simp only [lsRow, Value.ownBlock, Option.some.injEq] at hg'
    subst hg'
    exact (World.ownsRow.lt hO g rfl).1)
  rwa [Pb_ls] at this

/-- A row of numbers, made. -/
theorem Owns.newCur {M : Nat} (h : Owns w base (Pb sv nv vi vr OL NL c l)) (hM : M ≤ maxLen) (hbase : base ≤ w.heap.size) :
    Owns (w.alloc (.cells (madeCells #[.int .i64 0] M) 3)) base (Pb sv nv vi vr OL NL (some (curRow (.slice (some ⟨w.heap.size, 0, none⟩) M M) (List.replicate M 0))) l) := by
  have ho := World.ownsRow_lit (base := base) (e := 3) (size := 1) w (madeCells #[.int .i64 0] M) M hbase hM (by simp [size_madeCells])
  rw [toList_madeCells_one] at ho
  have := h.newer (i := Bx.cur) (r := curRow (.slice (some ⟨w.heap.size, 0, none⟩) M M) (List.replicate M 0)) (World.grownBy_alloc w _ none) (by simpa [curRow] using ho) (fun g hg => by
    simp only [curRow, Value.ownBlock, Option.some.injEq] at hg
    omega)
  rwa [Pb_cur] at this

theorem Owns.setCur {M cg j : Nat} {C : List Int} (h : Owns w base (Pb sv nv vi vr OL NL (some (curRow (.slice (some ⟨cg, 0, none⟩) M M) C)) l)) (hC : C.length = M) (z : Int) :
    Owns (w.setCell ⟨cg, j, none⟩ (.int .i64 z)) base (Pb sv nv vi vr OL NL (some (curRow (.slice (some ⟨cg, 0, none⟩) M M) (C.set j z))) l) := by
  subst hC
  have := h.store (i := Bx.cur) rfl j (.int .i64 z)
  rw [Pb_cur] at this
  have e : curRow (.slice (some ⟨cg, 0, none⟩) C.length C.length) (C.set j z) = ⟨.slice (some ⟨cg, 0, none⟩) C.length C.length, 3, 1, C.length, (C.map (Value.int .i64)).set j (.int .i64 z)⟩ := by
    unfold curRow
    rw [List.map_set, List.length_set]
  rw [e]
  exact this

theorem Owns.curCell {M cg j : Nat} {C : List Int} (h : Owns w base (Pb sv nv vi vr OL NL (some (curRow (.slice (some ⟨cg, 0, none⟩) M M) C)) l)) (hC : C.length = M) (hj : j < M) :
    w.cell? ⟨cg, j, none⟩ = some (.int .i64 (C.getD j 0)) ∧ w.frozen? ⟨cg, j, none⟩ = false ∧ base ≤ cg := by
  subst hC
  have := h.cell (i := Bx.cur) (e := 3) (size := 1) (xs := C.map (Value.int .i64)) rfl j (by omega)
  refine ⟨?_, this.2, (h.lt (i := Bx.cur) rfl rfl).1⟩
  rw [this.1]
  simp [List.getD, hj]

theorem owns_nothing (w : World) (base : Nat) : Owns (ι := Bx) w base (fun _ => none) := ⟨fun _ _ h => (nomatch h), fun _ _ _ _ _ h => (nomatch h)⟩

/-- The state 0 alone. -/
theorem owns_start {g cap : Nat} {O : List It} (hO : w.ownsRow base 87 2 (.slice (some ⟨g, 0, none⟩) O.length cap) O.length (flatI O)) {p : Addr} (hp : p.block < base) (u : Value) (hb : base ≤ w.heap.size) :
    Owns ((w.setCell p u).alloc (.cells #[.slice (some ⟨g, 0, none⟩) O.length cap] 84)) base (Pb (.slice (some ⟨w.heap.size, 0, none⟩) 1 1) (.slice none 0 0) (fun _ => .slice (some ⟨g, 0, none⟩) O.length cap) (fun _ => .slice none 0 0) [O] [] none none) := by
  have h1 := (owns_nothing w base).put (i := Bx.it 0) (r' := lsRow (.slice (some ⟨g, 0, none⟩) O.length cap) O) (w' := w) hO (fun _ _ _ h => (nomatch h)) (fun _ _ _ h => (nomatch h))
  have h2 := h1.setBelow (a := p) hp u
  have ho := World.ownsRow_lit (base := base) (e := 84) (size := 1) (w.setCell p u) #[.slice (some ⟨g, 0, none⟩) O.length cap] 1 (by simpa using hb) (by unfold maxLen; omega) rfl
  have h3 := h2.newer (i := Bx.st) (r := ⟨.slice (some ⟨w.heap.size, 0, none⟩) 1 1, 84, 1, 1, [.slice (some ⟨g, 0, none⟩) O.length cap]⟩) (World.grownBy_alloc _ _ none) (by simpa using ho) (fun g' hg' => by
    simp only [Value.ownBlock, Option.some.injEq] at hg'
    simp
    omega)
  have h4 := h3.newer (i := Bx.nx) (r := ⟨.slice none 0 0, 25, 1, 0, []⟩) ⟨rfl, rfl, rfl, Nat.le_refl _, fun _ _ _ => rfl⟩ (World.ownsRow_nil _ base 25 1) (fun g' hg' => by simp [Value.ownBlock] at hg')
  have e : Pb (.slice (some ⟨w.heap.size, 0, none⟩) 1 1) (.slice none 0 0) (fun _ => .slice (some ⟨g, 0, none⟩) O.length cap) (fun _ => .slice none 0 0) [O] [] none none =
      upd (upd (upd (fun _ => none) (Bx.it 0) (lsRow (.slice (some ⟨g, 0, none⟩) O.length cap) O)) .st ⟨.slice (some ⟨w.heap.size, 0, none⟩) 1 1, 84, 1, 1, [.slice (some ⟨g, 0, none⟩) O.length cap]⟩) .nx ⟨.slice none 0 0, 25, 1, 0, []⟩ := by
    funext i
    cases i with
    | it k =>
      cases k with
      | zero => simp [Pb, upd, lsRow]
      | succ k => simp [Pb, upd]
    | st => simp [Pb, upd]
    | nx => simp [Pb, upd]
    | rw k => simp [Pb, upd]
    | cur => simp [Pb, upd]
    | ls => simp [Pb, upd]
  rw [e]
  exact h4

end

/-! ### The automaton's own cells -/

/-- Cells 6 and 7 alone of the automaton's block have turned; below it nothing has. -/
structure BC (w : World) (ab lim T N : Nat) (rv : Value) (R : List Ru) (sv nv : Value) (wr : World) : Prop where
  below : Below ab w wr
  auto : AutoG wr lim ab T N rv R
  keep : ∀ o, o ≠ 6 → o ≠ 7 → wr.cell? ⟨ab, o, none⟩ = w.cell? ⟨ab, o, none⟩
  fro : ∀ o, wr.frozen? ⟨ab, o, none⟩ = false
  c6 : wr.cell? ⟨ab, 6, none⟩ = some sv
  c7 : wr.cell? ⟨ab, 7, none⟩ = some nv

section
variable {w wr : World} {ab lim T N : Nat} {rv sv nv : Value} {R : List Ru}

theorem BC.grow (h : BC w ab lim T N rv R sv nv wr) (hl : lim ≤ ab) {w' : World} {row : Option Nat} (hg : wr.grownBy w' row) (hr : ∀ b, row = some b → ab < b) : BC w ab lim T N rv R sv nv w' := by
  have hlt := h.auto.lt
  have hb : w'.heap[ab]? = wr.heap[ab]? := hg.block ab hlt (fun e => by have := hr ab e.symm; omega)
  have hc : ∀ o, w'.cell? ⟨ab, o, none⟩ = wr.cell? ⟨ab, o, none⟩ := fun o => World.cell?_of_block hb
  have hB : Below (ab + 1) wr w' := ⟨hg.os, hg.tape, hg.output, hg.size, fun k hk => hg.block k (by omega) (fun e => by have := hr k e.symm; omega)⟩
  exact ⟨h.below.trans (hB.mono (by omega)), h.auto.below hB (by omega) (by omega), fun o h6 h7 => (hc o).trans (h.keep o h6 h7), fun o => (World.frozen?_of_block hb).trans (h.fro o), (hc 6).trans h.c6, (hc 7).trans h.c7⟩

theorem BC.later (h : BC w ab lim T N rv R sv nv wr) (hl : lim ≤ ab) {w' : World} (hb : Below wr.heap.size wr w') : BC w ab lim T N rv R sv nv w' :=
  h.grow hl (row := none) ⟨hb.os, hb.tape, hb.output, hb.size, fun k hk _ => hb.block k hk⟩ (fun _ e => nomatch e)

theorem BC.drewN (h : BC w ab lim T N rv R sv nv wr) (m : Nat) : BC w ab lim T N rv R sv nv (wr.drewN m) :=
  ⟨below_drewN h.below m, ⟨h.auto.t, h.auto.n, h.auto.r, h.auto.rules, h.auto.le, h.auto.lt⟩, h.keep, h.fro, h.c6, h.c7⟩

theorem BC.set (h : BC w ab lim T N rv R sv nv wr) (hl : lim ≤ ab) {p : Addr} (hp : ab < p.block) (u : Value) : BC w ab lim T N rv R sv nv (wr.setCell p u) := by
  have hlt := h.auto.lt
  have hB : Below (ab + 1) wr (wr.setCell p u) := (Below.refl _ _).setCell (by omega) u
  have hc : ∀ o, (wr.setCell p u).cell? ⟨ab, o, none⟩ = wr.cell? ⟨ab, o, none⟩ := fun o => hB.cell (p := ⟨ab, o, none⟩) (Nat.lt_succ_self _)
  exact ⟨h.below.trans (hB.mono (by omega)), h.auto.below hB (by omega) (by omega), fun o h6 h7 => (hc o).trans (h.keep o h6 h7), fun o => (hB.frozen (p := ⟨ab, o, none⟩) (Nat.lt_succ_self _)).trans (h.fro o), (hc 6).trans h.c6, (hc 7).trans h.c7⟩

theorem BC.set6 (h : BC w ab lim T N rv R sv nv wr) (hl : lim ≤ ab) (u : Value) : BC w ab lim T N rv R u nv (wr.setCell ⟨ab, 6, none⟩ u) := by
  have hB : Below ab wr (wr.setCell ⟨ab, 6, none⟩ u) := Below.setCell (Below.refl _ _) (by simp) u
  have hc : ∀ o, o ≠ 6 → (wr.setCell ⟨ab, 6, none⟩ u).cell? ⟨ab, o, none⟩ = wr.cell? ⟨ab, o, none⟩ := fun o ho => cell_set_other (.inr ho)
  refine ⟨h.below.trans hB, ⟨(hc 0 (by omega)).trans h.auto.t, (hc 1 (by omega)).trans h.auto.n, (hc 2 (by omega)).trans h.auto.r, h.auto.rules.below (hB.mono hl), Nat.le_trans h.auto.le hB.size, Nat.lt_of_lt_of_le h.auto.lt hB.size⟩,
    fun o h6 h7 => (hc o h6).trans (h.keep o h6 h7), fun o => ?_, ?_, (hc 7 (by omega)).trans h.c7⟩
  · rw [World.frozen?_setCell]; exact h.fro o
  · exact World.cell?_setCell_same (h := h.c6) ..

theorem BC.set7 (h : BC w ab lim T N rv R sv nv wr) (hl : lim ≤ ab) (u : Value) : BC w ab lim T N rv R sv u (wr.setCell ⟨ab, 7, none⟩ u) := by
  have hB : Below ab wr (wr.setCell ⟨ab, 7, none⟩ u) := Below.setCell (Below.refl _ _) (by simp) u
  have hc : ∀ o, o ≠ 7 → (wr.setCell ⟨ab, 7, none⟩ u).cell? ⟨ab, o, none⟩ = wr.cell? ⟨ab, o, none⟩ := fun o ho => cell_set_other (.inr ho)
  refine ⟨h.below.trans hB, ⟨(hc 0 (by omega)).trans h.auto.t, (hc 1 (by omega)).trans h.auto.n, (hc 2 (by omega)).trans h.auto.r, h.auto.rules.below (hB.mono hl), Nat.le_trans h.auto.le hB.size, Nat.lt_of_lt_of_le h.auto.lt hB.size⟩,
    fun o h6 h7 => (hc o h7).trans (h.keep o h6 h7), fun o => ?_, (hc 6 (by omega)).trans h.c6, ?_⟩
  · rw [World.frozen?_setCell]; exact h.fro o
  · exact World.cell?_setCell_same (h := h.c7) ..
end

end Go.Proofs.Ytkkcmcckdaobmaa

/- A region that draws its order: what its first operations read is the same in every world that meets S, whenever they come up; the others follow one another, and keep S, but the last of all. One walk, in the order of the text. No program. -/
namespace Go.Proofs.Ytkkcmcckdaobmaa

section
variable {P : Program} {ops : Array Oper} {Q : Exit → Act → World → Prop} {md : Region.Mode} {S : World → Prop}

/-- Whatever order is picked from here on, S holds behind each operation ahead of number n. -/
def wpAnyG (P : Program) (md : Region.Mode) (ops : Array Oper) (Q : Exit → Act → World → Prop) (S : World → Prop) (n : Nat) : Nat → Array Bool → Act → World → Prop
  | 0, listed, a, w => Region.ready md ops listed = [] ∧ Q .normal a w
  | fuel + 1, listed, a, w =>
    (Region.ready md ops listed = [] → Q .normal a w) ∧
    ∀ i ∈ Region.ready md ops listed, wpOp P ops Q i (fun a' w' => (i < n → S w') ∧ wpAnyG P md ops Q S n fuel (listed.setIfInBounds i true) a' w') a w

theorem wpAny_of_G {n : Nat} : ∀ (fuel : Nat) (listed : Array Bool) (a : Act) (w : World), wpAnyG P md ops Q S n fuel listed a w → wpAny P md ops Q fuel listed a w
  | 0, _, _, _, h => h
  | fuel + 1, _, _, _, h => ⟨h.1, fun i hi => wpOp_mono (fun a' w' h' => wpAny_of_G fuel _ a' w' h'.2) (h.2 i hi)⟩

theorem wpAnyG_first {n i : Nat} {oi : Oper} {v : Value} (hi : ops[i]? = some oi) (hsel : ∀ (j : Nat) (o : Oper) cs b, ops[j]? = some o → o.op ≠ .select cs b)
    (hQ : ∀ c a w, Q (.panic c) (a.put oi.dst v) w → Q (.panic c) a w) (hs : Region.sinkB md ops n = true) (hc : Region.chainB md ops n = true) (hn : n < ops.size) (hin : i < n) :
    ∀ (fuel : Nat) (listed : Array Bool) (a : Act) (w : World), HeadInv md ops n listed →
      (∀ j oj, ops[j]? = some oj → j ≠ i → listed.getD j true = false → (∀ e ∈ oj.after, Region.binds md e = true → e.on ≠ i) → oi.apart ops oj = true) →
      i ∈ Region.ready md ops listed → YieldsIf P ops S oi v a → S w →
      wpAnyG P md ops Q S n fuel (listed.setIfInBounds i true) (a.put oi.dst v) w → wpAnyG P md ops Q S n (fuel + 1) listed a w := by
  intro fuel
  induction fuel with
  | zero =>
    intro listed a w _ _ hr hy hS H
    refine ⟨fun h => (by rw [h] at hr; cases hr), fun j hj => ?_⟩
    by_cases hji : j = i
    · subst hji; exact hy.wpOp hi hS ⟨fun _ => hS, H⟩
    · have := ready_mono hj hji
      rw [H.1] at this
      cases this
  | succ fuel ih =>
    intro listed a w inv hfree hr hy hS H
    have hun := (mem_ready.1 hr).1
    refine ⟨fun h => (by rw [h] at hr; cases hr), fun j hj => ?_⟩
    by_cases hji : j = i
    · subst hji; exact hy.wpOp hi hS ⟨fun _ => hS, H⟩
    · have hjn : j < n := by
        rcases Nat.lt_or_ge j n with h | h
        · exact h
        · exact absurd hj (tail_waits hs hc hn inv _ i rfl hin hun j h)
      have h1 := H.2 j (ready_mono hj hji)
      obtain ⟨hjun, oj, hoj, hall⟩ := mem_ready.1 hj
      have hnot : ∀ e ∈ oj.after, Region.binds md e = true → e.on ≠ i := fun e he hb heq => by
        have h1 := hall e he hb
        rw [heq, getD_both hun] at h1
        cases h1
      have h2 := wpOp_putIf hoj (hfree j oj hoj hji hjun hnot) (fun cs b => hsel i oi cs b hi) (fun cs b => hsel j oj cs b hoj) hQ hy h1
      have hfree' : ∀ k ok, ops[k]? = some ok → k ≠ i → (listed.setIfInBounds j true).getD k true = false →
          (∀ e ∈ ok.after, Region.binds md e = true → e.on ≠ i) → oi.apart ops ok = true := fun k ok hk hki hun hno => by
        refine hfree k ok hk hki ?_ hno
        by_cases hjk : j = k
        · subst hjk; exact hjun
        · rw [getD_set_ne true hjk] at hun; exact hun
      refine wpOp_mono (fun a' w' h3 => ⟨h3.2.1, ih (listed.setIfInBounds j true) a' w' (inv.set hj hjn) hfree' (ready_mono hr (Ne.symm hji)) h3.1 (h3.2.1 hjn) ?_⟩) h2
      rw [Array.setIfInBounds_comm _ _ hji]
      exact h3.2.2

/-- The first operations, one after another: each yields its value in every world that meets S. -/
def StillS (P : Program) (ops : Array Oper) (S : World → Prop) (K : Act → Prop) : List Oper → Act → Prop
  | [], a => K a
  | o :: l, a => ∃ v, YieldsIf P ops S o v a ∧ StillS P ops S K l (a.put o.dst v)

theorem StillS.cons {K : Act → Prop} {o : Oper} {l : List Oper} {a : Act} {v : Value} (hw : Region.wanted o (yielded ops a.tmps) = true) (hy : ∀ w, S w → (execOp a.eval o).run P w = .ok (.value v) w) (h : StillS P ops S K l (a.put o.dst v)) : StillS P ops S K (o :: l) a :=
  ⟨v, .inl ⟨hw, hy⟩, h⟩

/-- The others, one after another; k is the number of the first of them. -/
def TailS (P : Program) (ops : Array Oper) (Q : Exit → Act → World → Prop) (S : World → Prop) (n : Nat) : Nat → List Oper → Act → World → Prop
  | _, [], a, w => Q .normal a w
  | k, o :: l, a, w => ∀ K : Act → World → Prop, Shut (∀ a w, (k < n → S w) → TailS P ops Q S n (k + 1) l a w → K a w) → if Region.wanted o (yielded ops a.tmps) = true then Oper.wp P o a w K Q else K (a.put o.dst undef) w

theorem wpAnyG_of_seq {n : Nat} : ∀ (l : List Oper) (k : Nat) (listed : Array Bool) (a : Act) (w : World), (∀ j, l[j]? = ops[k + j]?) →
    Region.seqB md ops l.length k listed = true → TailS P ops Q S n k l a w → wpAnyG P md ops Q S n l.length listed a w
  | [], _, _, _, _, _, hB, h => ⟨by simpa [Region.seqB] using hB, h⟩
  | o :: l, k, listed, a, w, hl, hB, h => by
    have h0 : ops[k]? = some o := by simpa using (hl 0).symm
    simp only [List.length_cons, Region.seqB, Bool.and_eq_true, decide_eq_true_eq] at hB
    refine ⟨fun h1 => (by rw [hB.1] at h1; cases h1), fun i hi => ?_⟩
    rw [hB.1] at hi
    have hik : i = k := by simpa using hi
    subst hik
    have h1 := h (fun a' w' => (i < n → S w') ∧ wpAnyG P md ops Q S n l.length (listed.setIfInBounds i true) a' w')
      (fun a' w' hS hT => ⟨hS, wpAnyG_of_seq l (i + 1) _ a' w' (fun j => by have := hl (j + 1); simpa [Nat.add_assoc, Nat.add_comm 1 j] using this) hB.2 hT⟩)
    unfold wpOp
    simp only [h0]
    split
    · rename_i hw
      rw [if_pos hw] at h1
      exact .inl h1
    · rename_i hw
      rw [if_neg hw] at h1
      exact h1

theorem wpAnyG_lex {n m g : Nat} (hsel : Region.noSelect ops = true) (hQ : ∀ c a d v w, Q (.panic c) (a.put d v) w → Q (.panic c) a w) (hs : Region.sinkB md ops n = true) (hc : Region.chainB md ops n = true) (hn : n < ops.size) (hmn : m ≤ n) {w : World} (hS : S w) :
    ∀ (l : List Oper) (k : Nat) (listed : Array Bool) (a : Act), (∀ j, j < l.length → l[j]? = ops[k + j]?) → k + l.length = m → HeadInv md ops n listed →
    Region.lexHead md ops g l.length k listed = true → StillS P ops S (fun a' => ∀ listed', Region.seqB md ops g m listed' = true → wpAnyG P md ops Q S n g listed' a' w) l a →
    wpAnyG P md ops Q S n (l.length + g) listed a w
  | [], k, listed, a, _, hk, _, hB, h => by
    have : k = m := by simpa using hk
    subst this
    simp only [List.length_nil, Nat.zero_add]
    exact h listed (by simpa [Region.lexHead] using hB)
  | o :: l, k, listed, a, hl, hk, inv, hB, h => by
    have h0 : ops[k]? = some o := by simpa using (hl 0 (by simp)).symm
    simp only [List.length_cons, Region.lexHead, Bool.and_eq_true] at hB
    obtain ⟨⟨hr, hf⟩, hB'⟩ := hB
    have hkn : k < n := by simp only [List.length_cons] at hk; omega
    have hr' : k ∈ Region.ready md ops listed := by simpa using hr
    obtain ⟨v, hy, hK⟩ := h
    rw [show (o :: l).length + g = (l.length + g) + 1 by simp only [List.length_cons]; omega]
    exact wpAnyG_first h0 (Region.noSelect_spec hsel) (fun c a w => hQ c a _ _ w) hs hc hn hkn _ listed a w inv (Region.free_spec h0 hf) hr' hy hS
      (wpAnyG_lex hsel hQ hs hc hn hmn hS l (k + 1) _ _ (fun j hj => by have := hl (j + 1) (by simp; omega); simpa [Nat.add_assoc, Nat.add_comm 1 j] using this) (by simp only [List.length_cons] at hk; omega) (inv.set hr' hkn) hB' hK)

/-- The first m may be taken first, one after another; the others can but follow one another; number n follows all. -/
def heldTailB (ops : Array Oper) (m n : Nat) : Bool :=
  Region.noSelect ops && decide (m ≤ n) && decide (n < ops.size) && Region.sinkB .any ops n && Region.chainB .any ops n && Region.lexHead .any ops (ops.size - m) m 0 (Array.replicate ops.size false)

theorem wp_region_held_tail {id : Nat} {a : Act} {w : World} {l : List Oper} (m n : Nat) (S : World → Prop) (hm : P.follows .mixedOrders = true) (hB : heldTailB l.toArray m n = true) (hS : S w.drew)
    (h : StillS P l.toArray S (fun a' => TailS P l.toArray (NoPanic Q) S n m (l.drop m) a' w.drew) (l.take m) a) : (Code.region id l.toArray true).wp P Q a w := by
  simp only [heldTailB, Bool.and_eq_true, decide_eq_true_eq] at hB
  obtain ⟨⟨⟨⟨⟨hsel, hmn⟩, hn⟩, hs⟩, hc⟩, hlex⟩ := hB
  have hn' : n < l.length := by simpa using hn
  have htl : (l.take m).length = m := by simp; omega
  have hdl : (l.drop m).length = l.toArray.size - m := by simp
  have inv0 : HeadInv .any l.toArray n (Array.replicate l.toArray.size false) :=
    ⟨by simp, fun j oj _ hl => (by rw [getD_replicate_false] at hl; cases hl), fun t _ ht => Go.getD_in (by simpa using ht) (getD_replicate_false _ _)⟩
  have conv : ∀ (l' : List Oper) (b : Act), StillS P l.toArray S (fun a' => TailS P l.toArray (NoPanic Q) S n m (l.drop m) a' w.drew) l' b →
      StillS P l.toArray S (fun a' => ∀ listed', Region.seqB .any l.toArray (l.toArray.size - m) m listed' = true → wpAnyG P .any l.toArray (NoPanic Q) S n (l.toArray.size - m) listed' a' w.drew) l' b := by
    intro l'
    induction l' with
    | nil =>
      intro b hb listed' hq
      have := wpAnyG_of_seq (md := .any) (n := n) (l.drop m) m listed' b w.drew (fun j => by simp [List.getElem?_drop]) (by rw [hdl]; exact hq) hb
      rwa [hdl] at this
    | cons o l' ih =>
      rintro b ⟨v, hy, hK⟩
      exact ⟨v, hy, ih _ hK⟩
  refine wp_region_noPanic (wp_region_any hm (wpAny_of_G (S := S) (n := n) _ _ _ _ ?_))
  have := wpAnyG_lex (md := .any) (g := l.toArray.size - m) (Q := NoPanic Q) hsel (fun _ _ _ _ _ h => h) hs hc hn hmn hS (l.take m) 0 _ a (fun j hj => by
    have hj' : j < m := by rw [htl] at hj; exact hj
    simp [hj']) (by simpa using htl) inv0 (by rw [htl]; exact hlex) (conv _ _ h)
  rw [htl, show m + (l.toArray.size - m) = l.toArray.size by simp; omega] at this
  exact this
end

end Go.Proofs.Ytkkcmcckdaobmaa
