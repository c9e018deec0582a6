import Derived.Test.YtobegekmgoiopaaRows
import Derived.Test.YtobegekmgoiopaaMathAndBits
import Derived.WalkKit
import Derived.WalkSpells
import Derived.Deep.QuietTactic
import Derived.BigQuiet
import Derived.StillTailTactics
import Derived.Test.YtobegekmgoiopaaBuildMathAndMayFine
import Derived.Test.YtobegekmgoiopaaRowBAndSets2Math
import Derived.Maps.Keyed
import Derived.WideKeyEntry
import Derived.DeepKeys4
/- How a table lies in memory; the contract of pollardingref6.Clashes. -/
namespace Go.Proofs.Ytobegekmgoiopaa
open Go.RowKit

/-- A cell: Shift, Rules, End. -/
abbrev Ce := Int × List Int × Bool

/-- Cells lie in memory. -/
def CellsAt (w : World) (v : Value) (X : List Ce) : Prop :=
  (∃ a c, v = .slice a X.length c) ∧ ∀ k, k < X.length → ∃ b o c rl, v = .slice (some ⟨b, o, none⟩) X.length c ∧ w.cell? ⟨b, o + k * 3, none⟩ = some (.int .i64 (X.getD k (0, [], false)).1) ∧
    w.cell? ⟨b, o + k * 3 + 1, none⟩ = some rl ∧ ListAt w w.heap.size rl (X.getD k (0, [], false)).2.1 ∧ w.cell? ⟨b, o + k * 3 + 2, none⟩ = some (.bool (X.getD k (0, [], false)).2.2)
def CellsMat (w : World) (v : Value) (X : List (List Ce)) : Prop :=
  (∃ a c, v = .slice a X.length c) ∧ ∀ i, i < X.length → ∃ b o c rv, v = .slice (some ⟨b, o, none⟩) X.length c ∧ w.cell? ⟨b, o + i, none⟩ = some rv ∧ CellsAt w rv (X.getD i [])
def IntsMat (w : World) (v : Value) (X : List (List Int)) : Prop :=
  (∃ a c, v = .slice a X.length c) ∧ ∀ i, i < X.length → ∃ b o c rv, v = .slice (some ⟨b, o, none⟩) X.length c ∧ w.cell? ⟨b, o + i, none⟩ = some rv ∧ ListAt w w.heap.size rv (X.getD i [])
/-- A table: its cells, and where names go on. -/
structure TabAt (w : World) (cv gv : Value) (C : List (List Ce)) (G : List (List Int)) : Prop where
  cells : CellsMat w cv C
  goto : IntsMat w gv G

section
variable {w w' : World}
theorem CellsAt.below {v : Value} {X : List Ce} (h : CellsAt w v X) (hb : Below w.heap.size w w') : CellsAt w' v X :=
  ⟨h.1, fun k hk => let ⟨b, o, c, rl, h1, h2, h3, h4, h5⟩ := h.2 k hk; ⟨b, o, c, rl, h1, (hb.cell (World.block_lt_of_cell? _ _ h2)).trans h2, (hb.cell (World.block_lt_of_cell? _ _ h3)).trans h3, (h4.below hb).mono hb.size, (hb.cell (World.block_lt_of_cell? _ _ h5)).trans h5⟩⟩
theorem CellsMat.below {v : Value} {X : List (List Ce)} (h : CellsMat w v X) (hb : Below w.heap.size w w') : CellsMat w' v X :=
  ⟨h.1, fun k hk => let ⟨b, o, c, rv, h1, h2, h3⟩ := h.2 k hk; ⟨b, o, c, rv, h1, (hb.cell (World.block_lt_of_cell? _ _ h2)).trans h2, h3.below hb⟩⟩
theorem IntsMat.below {v : Value} {X : List (List Int)} (h : IntsMat w v X) (hb : Below w.heap.size w w') : IntsMat w' v X :=
  ⟨h.1, fun k hk => let ⟨b, o, c, rv, h1, h2, h3⟩ := h.2 k hk; ⟨b, o, c, rv, h1, (hb.cell (World.block_lt_of_cell? _ _ h2)).trans h2, (h3.below hb).mono hb.size⟩⟩
theorem TabAt.below {cv gv : Value} {C : List (List Ce)} {G : List (List Int)} (h : TabAt w cv gv C G) (hb : Below w.heap.size w w') : TabAt w' cv gv C G := ⟨h.cells.below hb, h.goto.below hb⟩
end

/-- A cell says but one thing. -/
def oneB (c : Ce) : Bool := (decide (c.2.1.length = 0) && !c.2.2) || (decide (c.1 < 0) && (decide (c.2.1.length = 0) || (decide (c.2.1.length = 1) && !c.2.2)))
def clashR (X : List Ce) : Nat := (X.filter fun c => !oneB c).length
def clashN (C : List (List Ce)) : Nat := (C.map clashR).sum

theorem clashR_take {X : List Ce} {k : Nat} (hk : k < X.length) : clashR (X.take (k + 1)) = clashR (X.take k) + (if oneB (X.getD k (0, [], false)) then 0 else 1) := by
  have e : X.getD k (0, [], false) = X[k] := by simp [List.getD, hk]
  unfold clashR
  rw [List.take_succ_eq_append_getElem hk, List.filter_append, List.length_append, e]
  cases h : oneB X[k] <;> simp [h]
theorem clashN_take {C : List (List Ce)} {i : Nat} (hi : i < C.length) : clashN (C.take (i + 1)) = clashN (C.take i) + clashR (C.getD i []) := by
  have e : C.getD i [] = C[i] := by simp [List.getD, hi]
  unfold clashN
  rw [List.take_succ_eq_append_getElem hi, List.map_append, List.sum_append, e]
  simp
theorem clashR_le (X : List Ce) : clashR X ≤ X.length := List.length_filter_le _ _
theorem clashN_le {C : List (List Ce)} {m : Nat} (h : ∀ i, i < C.length → (C.getD i []).length ≤ m) : clashN C ≤ C.length * m := by
  have : ∀ n, n ≤ C.length → clashN (C.take n) ≤ n * m := by
    intro n
    induction n with
    | zero => simp [clashN]
    | succ n ih =>
      intro hn
      rw [clashN_take (by omega), Nat.add_mul]
      have := ih (by omega)
      have := clashR_le (C.getD n [])
      have := h n (by omega)
      omega
  have h1 := this C.length (Nat.le_refl _)
  rwa [List.take_length] at h1

end Go.Proofs.Ytobegekmgoiopaa

/- Plain: a table in plain words (F3). No program. -/
namespace Go.Proofs.Ytobegekmgoiopaa

section
open Classical
/-- A rule is read whole in the state k, and has t as lookahead. -/
def DoneP (T N : Nat) (R : List Ru) (NL : List (List Int)) (Ls : List SetI) (k t n : Nat) : Prop := Ls.getD k noS (n, (rightF R n).length) ∧ LookQ T R (nullA R N) (firstA R (nullA R N) T N) NL Ls k (n, (rightF R n).length) t
noncomputable def cellP (T N : Nat) (R : List Ru) (NL : List (List Int)) (Ls : List SetI) (k t : Nat) : Ce :=
  (if t < T then (NL.getD k []).getD t 0 else -1, ((List.range R.length).filter fun n => decide (DoneP T N R NL Ls k t n)).map fun n => ((n : Nat) : Int), decide (DoneP T N R NL Ls k t R.length))
noncomputable def rowP (T N : Nat) (R : List Ru) (NL : List (List Int)) (Ls : List SetI) (k : Nat) : List Ce := (List.range (T + 1)).map (cellP T N R NL Ls k)
/-- F3: the table, where there are K states. -/
noncomputable def tabC (T N : Nat) (R : List Ru) (K : Nat) : List (List Ce) := (List.range K).map (rowP T N R (allN T N R K).1 (allN T N R K).2)
noncomputable def tabG (T N : Nat) (R : List Ru) (K : Nat) : List (List Int) := (List.range K).map fun k => ((allN T N R K).1.getD k []).drop T

end

end Go.Proofs.Ytobegekmgoiopaa

/- A map that a call has made, as a function of its keys: read, written, an entry of it taken and stored. No program. -/
namespace Go.Proofs.Ytobegekmgoiopaa
open Go.RowKit Go.MapKept
open Go.ChangeMaps (setBlock heap_setBlock_same heap_setBlock_other modify_eq_set)
open Go.WideMaps (KeyLaw)
open Go.WideElems (Fit rd rd_mk other_key entry_then_store)

section
variable {κ : Type} {P : Program} {k : TypeId} {enc : κ → Value}

/-- What a map's entries say. -/
structure MapIs (P : Program) (k : TypeId) (enc : κ → Value) (es : Array MapEntry) (clock n : Nat) (M : κ → Option Value) : Prop where
  stamped : Stamped es clock
  size : es.size ≤ n
  keys : ∀ x ∈ es.toList, ∃ l, keyOf P k x.key = some l
  here : ∀ x ∈ es.toList, ∃ s, x.key = enc s ∧ M s = some x.val
  all : ∀ s v, M s = some v → ∃ x ∈ es.toList, x.key = enc s

/-- Block b is a map of at most n entries, that says M. -/
def MapAt (P : Program) (k : TypeId) (enc : κ → Value) (w : World) (b n : Nat) (M : κ → Option Value) : Prop :=
  ∃ es clock, w.heap[b]? = some (.map es clock) ∧ MapIs P k enc es clock n M

def setM [DecidableEq κ] (M : κ → Option Value) (s : κ) (v : Value) : κ → Option Value := fun t => if t = s then some v else M t

theorem MapIs.fit {es : Array MapEntry} {clock n : Nat} {M : κ → Option Value} (h : MapIs P k enc es clock n M) (hn : n ≤ maxLen) : Fit (H := Unit) P k (fun _ => some (.nil, [])) es clock :=
  ⟨Nat.le_trans h.size hn, h.stamped, fun x hx => by obtain ⟨l, hl⟩ := h.keys x hx; exact ⟨_, rd_mk (born := x.born) hl rfl⟩⟩

theorem MapAt.lt {w : World} {b n : Nat} {M : κ → Option Value} (h : MapAt P k enc w b n M) : b < w.heap.size := by
  obtain ⟨es, clock, hb, _⟩ := h
  exact (Array.getElem?_eq_some_iff.1 hb).1

theorem MapAt.kept {w w' : World} {b n : Nat} {M : κ → Option Value} (h : MapAt P k enc w b n M) (hb : w'.heap[b]? = w.heap[b]?) : MapAt P k enc w' b n M := by
  obtain ⟨es, clock, h1, h2⟩ := h
  exact ⟨es, clock, hb.trans h1, h2⟩

theorem MapAt.alloc {w : World} {b n : Nat} {M : κ → Option Value} (h : MapAt P k enc w b n M) (o : Obj) : MapAt P k enc (w.alloc o) b n M :=
  h.kept ((World.grownBy_alloc w o none).block b h.lt (by simp))

theorem MapAt.mono {w : World} {b n n' : Nat} {M : κ → Option Value} (h : MapAt P k enc w b n M) (hn : n ≤ n') : MapAt P k enc w b n' M := by
  obtain ⟨es, clock, h1, h2⟩ := h
  exact ⟨es, clock, h1, ⟨h2.stamped, Nat.le_trans h2.size hn, h2.keys, h2.here, h2.all⟩⟩

theorem MapAt.congr {w : World} {b n : Nat} {M M' : κ → Option Value} (h : MapAt P k enc w b n M) (e : M = M') : MapAt P k enc w b n M' := e ▸ h

theorem MapAt.setCell {w : World} {b n : Nat} {M : κ → Option Value} (h : MapAt P k enc w b n M) {a : Addr} (ha : a.block ≠ b) (u : Value) : MapAt P k enc (w.setCell a u) b n M :=
  h.kept (Below.heap_setCell _ _ _ _ (fun e => ha e.symm))

theorem mapAt_made (w : World) (P : Program) (k : TypeId) (enc : κ → Value) : MapAt P k enc (w.alloc (.map #[] 0)) w.heap.size 0 (fun _ => none) :=
  ⟨#[], 0, (MapKept.heap_alloc w _).1, stamped_empty 0, by simp, by simp, by simp, fun _ _ h => by cases h⟩

theorem mapAt_look {w : World} {b n : Nat} {M : κ → Option Value} (h : MapAt P k enc w b n M) (c : Bool) (hn : n ≤ maxLen) (K : KeyLaw P k) {t e : TypeId} (ht : P.underlying t = some (.map k e)) {z : Value} (hz : (zeroValue e).run P w = .ok z w)
    (inj : ∀ s s', enc s = enc s' → s = s') {s : κ} {kl : Lit} (hkey : keyOf P k (enc s) = some kl) :
    (Instr.lookup t (.map (some b)) (enc s) c).run P w = .ok (if c then .tuple #[(M s).getD z, .bool (M s).isSome] else (M s).getD z) w := by
  obtain ⟨es, clock, hb, hM⟩ := h
  rcases Maps.fit_look c (Maps.Keyed.of_law K) ht hz hb (hM.fit hn) hkey with ⟨hrun, hno, _⟩ | ⟨e0, y, hmem, hk0, hrun, _⟩
  · have : M s = none := by
      cases hs : M s with
      | none => rfl
      | some v =>
        obtain ⟨x, hx, hxk⟩ := hM.all s v hs
        exact absurd hxk (hno x hx)
    rw [hrun, this]
    rfl
  · obtain ⟨s', h1, h2⟩ := hM.here e0 hmem
    have : s = s' := inj _ _ (hk0.symm.trans h1)
    subst this
    rw [hrun, h2]
    rfl

variable [DecidableEq κ]

theorem mapIs_update {w : World} {b n : Nat} {M : κ → Option Value} {es : Array MapEntry} {clock : Nat} (hb : w.heap[b]? = some (.map es clock)) (hM : MapIs P k enc es clock n M) (K : KeyLaw P k) {t e : TypeId} (ht : P.underlying t = some (.map k e))
    (inj : ∀ s s', enc s = enc s' → s = s') {s : κ} {kl : Lit} (hkey : keyOf P k (enc s) = some kl) (val : Value) :
    ∃ es' clock', (Instr.mapUpdate t (.map (some b)) (enc s) val).run P w = .ok () (setBlock w b (.map es' clock')) ∧ MapIs P k enc es' clock' (n + 1) (setM M s val) := by
  rcases K.find w hkey es.toList hM.keys with ⟨h1, h2⟩ | ⟨j, e0, h1, h2, h3⟩
  · refine ⟨es.push ⟨enc s, val, clock⟩, clock + 1, ?_, stamped_push hM.stamped h2, ?_, ?_, ?_, ?_⟩
    · simp [Instr.mapUpdate, run_underlying ht, MapKept.run_getObj_map hb, K.check w false hkey, h1, MapKept.run_setObj_map _ hb, Result.andThen, setBlock]
    · have := hM.size; simp; omega
    · intro x hx
      simp only [Array.toList_push, List.mem_append, List.mem_singleton] at hx
      rcases hx with hx | rfl
      · exact hM.keys x hx
      · exact ⟨_, hkey⟩
    · intro x hx
      simp only [Array.toList_push, List.mem_append, List.mem_singleton] at hx
      rcases hx with hx | rfl
      · obtain ⟨s', a, b⟩ := hM.here x hx
        have hne : s' ≠ s := fun e => h2 x hx (by rw [a, e])
        exact ⟨s', a, by simp [setM, hne, b]⟩
      · exact ⟨s, rfl, by simp [setM]⟩
    · intro s' v hv
      by_cases e1 : s' = s
      · subst e1
        exact ⟨⟨enc s', val, clock⟩, by simp, rfl⟩
      · simp only [setM, e1, if_false] at hv
        obtain ⟨x, hx, hk⟩ := hM.all s' v hv
        exact ⟨x, by simp [hx], hk⟩
  · have hj : es[j]? = some e0 := by simpa using h2
    have hjl : j < es.toList.length := (List.getElem?_eq_some_iff.1 h2).1
    have hkeyf : ∀ e', es[j]? = some e' → ({ e' with key := enc s, val := val } : MapEntry).key = e'.key := fun e' he' => by rw [hj] at he'; cases he'; exact h3.symm
    have hlist : (es.modify j (fun e' => { e' with key := enc s, val := val })).toList = es.toList.set j { e0 with key := enc s, val := val } := by rw [Array.toList_modify, modify_eq_set _ _ _ _ h2]
    have hpw := ((stamped_iff es clock).1 hM.stamped).2.2
    have who : ∀ x ∈ es.toList.set j { e0 with key := enc s, val := val }, x = { e0 with key := enc s, val := val } ∨ (x ∈ es.toList ∧ x.key ≠ enc s) := by
      intro x hx
      obtain ⟨i, hi, ex⟩ := List.getElem_of_mem hx
      rw [List.getElem_set] at ex
      split at ex
      · exact Or.inl ex.symm
      · rename_i hne
        have hi' : i < es.toList.length := by simpa using hi
        refine Or.inr ⟨ex ▸ List.getElem_mem hi', ?_⟩
        have ej : es.toList[j] = e0 := by
          have := List.getElem?_eq_getElem hjl
          rw [h2] at this
          exact (Option.some.inj this).symm
        have hd : es.toList[i].key ≠ es.toList[j].key := by
          rcases Nat.lt_or_ge i j with h | h
          · exact List.pairwise_iff_getElem.1 hpw i j hi' hjl h
          · exact fun e1 => List.pairwise_iff_getElem.1 hpw j i hjl hi' (by omega) e1.symm
        rw [ej] at hd
        rw [← h3, ← ex]
        exact hd
    refine ⟨es.modify j (fun e' => { e' with key := enc s, val := val }), clock, ?_, stamped_modify hM.stamped _ _ (fun _ _ => rfl) (fun e' _ he' => hkeyf e' he'), ?_, ?_, ?_, ?_⟩
    · simp [Instr.mapUpdate, run_underlying ht, MapKept.run_getObj_map hb, K.check w false hkey, h1, hj, h3, K.stays w hkey, MapKept.run_setObj_map _ hb, Result.andThen, setBlock]
    · have := hM.size; simp; omega
    · intro x hx
      rw [hlist] at hx
      rcases who x hx with rfl | ⟨hx', hne⟩
      · exact ⟨_, hkey⟩
      · exact hM.keys x hx'
    · intro x hx
      rw [hlist] at hx
      rcases who x hx with rfl | ⟨hx', hne⟩
      · exact ⟨s, rfl, by simp [setM]⟩
      · obtain ⟨s', a, b⟩ := hM.here x hx'
        have hs : s' ≠ s := fun e => hne (by rw [a, e])
        exact ⟨s', a, by simp [setM, hs, b]⟩
    · intro s' v hv
      rw [hlist]
      by_cases e1 : s' = s
      · subst e1
        exact ⟨{ e0 with key := enc s', val := val }, List.mem_iff_getElem.2 ⟨j, by simpa using hjl, by simp⟩, rfl⟩
      · simp only [setM, e1, if_false] at hv
        obtain ⟨x, hx, hk⟩ := hM.all s' v hv
        obtain ⟨i, hi, ex⟩ := List.getElem_of_mem hx
        have hij : j ≠ i := fun e2 => by
          subst e2
          have := List.getElem?_eq_getElem hi
          rw [h2] at this
          have ej := Option.some.inj this
          rw [← ex, ← ej, h3] at hk
          exact e1 (inj _ _ hk).symm
        exact ⟨x, List.mem_iff_getElem.2 ⟨i, by simpa using hi, by rw [List.getElem_set_ne hij]; exact ex⟩, hk⟩

theorem grown_setBlock {w : World} {b : Nat} {es : Array MapEntry} {clock : Nat} (hb : w.heap[b]? = some (.map es clock)) (o : Obj) : w.grownBy (setBlock w b o) (some b) :=
  ⟨rfl, rfl, rfl, by simp [setBlock], fun i _ hi => heap_setBlock_other hb _ (fun e => hi (by rw [e]))⟩

theorem mapAt_update {w : World} {b n : Nat} {M : κ → Option Value} (h : MapAt P k enc w b n M) (K : KeyLaw P k) {t e : TypeId} (ht : P.underlying t = some (.map k e))
    (inj : ∀ s s', enc s = enc s' → s = s') {s : κ} {kl : Lit} (hkey : keyOf P k (enc s) = some kl) (val : Value) :
    ∃ w', (Instr.mapUpdate t (.map (some b)) (enc s) val).run P w = .ok () w' ∧ MapAt P k enc w' b (n + 1) (setM M s val) ∧ w.grownBy w' (some b) ∧ w'.heap.size = w.heap.size := by
  obtain ⟨es, clock, hb, hM⟩ := h
  obtain ⟨es', clock', h1, h2⟩ := mapIs_update hb hM K ht inj hkey val
  exact ⟨_, h1, ⟨es', clock', heap_setBlock_same hb _, h2⟩, grown_setBlock hb _, by simp [setBlock]⟩

/-- An entry is taken, and stored to later, in whatever world in which the map is as the taking left it. -/
theorem mapAt_entry {w : World} {b n : Nat} {M : κ → Option Value} (h : MapAt P k enc w b n M) (hn : n ≤ maxLen) (K : KeyLaw P k) {t e : TypeId} (ht : P.underlying t = some (.map k e)) {z : Value} (hz : ∀ u : World, (zeroValue e).run P u = .ok z u)
    (inj : ∀ s s', enc s = enc s' → s = s') {s : κ} {kl : Lit} (hkey : keyOf P k (enc s) = some kl) :
    ∃ (st : Nat) (w1 : World), (Instr.mapEntry t (.map (some b)) (enc s)).run P w = .ok (.tuple #[(M s).getD z, goInt st]) w1 ∧ w.grownBy w1 (some b) ∧ w1.heap.size = w.heap.size ∧
      ∀ (w2 : World) (val : Value), w2.heap[b]? = w1.heap[b]? → ∃ w3, (Instr.entryStore t (.map (some b)) (goInt st) val).run P w2 = .ok () w3 ∧ MapAt P k enc w3 b (n + 1) (setM M s val) ∧ w2.grownBy w3 (some b) ∧ w3.heap.size = w2.heap.size := by
  obtain ⟨es, clock, hb, hM⟩ := h
  obtain ⟨v0, st, es1, clock1, hrun, hv0, hst⟩ := entry_then_store K ht hz hb (hM.fit hn) hkey
  have hv : v0 = (M s).getD z := by
    rcases hv0 with ⟨e0, hm, hk0, rfl⟩ | ⟨hno, rfl⟩
    · obtain ⟨s', a, b⟩ := hM.here e0 hm
      have : s = s' := inj _ _ (hk0.symm.trans a)
      subst this
      rw [b]
      rfl
    · cases hs : M s with
      | none => rfl
      | some v =>
        obtain ⟨x, hx, hxk⟩ := hM.all s v hs
        exact absurd hxk (hno x hx)
  subst hv
  refine ⟨st, _, hrun, grown_setBlock hb _, by simp [setBlock], fun w2 val hw2 => ?_⟩
  rw [heap_setBlock_same hb] at hw2
  obtain ⟨es', clock', h1, h2⟩ := hst w2 val hw2
  obtain ⟨es2, clock2, h3, h4⟩ := mapIs_update hb hM K ht inj hkey val
  rw [h2] at h3
  have h5 : setBlock w b (.map es' clock') = setBlock w b (.map es2 clock2) := by
    injection h3
  have h6 : (Obj.map es' clock') = .map es2 clock2 := by
    have a := heap_setBlock_same hb (.map es' clock')
    rw [h5, heap_setBlock_same hb] at a
    exact (Option.some.inj a).symm
  injection h6 with h7 h8
  subst h7
  subst h8
  exact ⟨_, h1, ⟨_, _, heap_setBlock_same hw2 _, h4⟩, grown_setBlock hw2 _, by simp [setBlock]⟩
end

section
variable {w w' : World}

theorem own_heap {base : Nat} {e : TypeId} {size n : Nat} {x : Value} {xs : List Value} (h : w.ownsRow base e size x n xs) (hh : ∀ g, x.ownBlock = some g → w'.heap[g]? = w.heap[g]?) : w'.ownsRow base e size x n xs := by
  refine ⟨h.1, ?_⟩
  rcases h.2 with h2 | ⟨g, cap, cur, rfl, h2, h3, h4⟩
  · exact .inl h2
  · exact .inr ⟨g, cap, cur, rfl, h2, (hh g rfl).trans h3, h4⟩

theorem own_no_map {base : Nat} {e : TypeId} {size n : Nat} {x : Value} {xs : List Value} (h : w.ownsRow base e size x n xs) {b : Nat} {es : Array MapEntry} {c : Nat} (hb : w.heap[b]? = some (.map es c)) : x.ownBlock ≠ some b := by
  rcases h.2 with ⟨rfl, _⟩ | ⟨g, cap, cur, rfl, h2, h3, h4⟩
  · intro e; cases e
  · intro e
    have : g = b := by simpa [Value.ownBlock] using e
    subst this
    rw [hb] at h3
    cases h3

theorem MapAt.isMap {κ : Type} {P : Program} {k : TypeId} {enc : κ → Value} {b n : Nat} {M : κ → Option Value} (h : MapAt P k enc w b n M) : ∃ es c, w.heap[b]? = some (.map es c) := by
  obtain ⟨es, c, hb, _⟩ := h
  exact ⟨es, c, hb⟩

theorem Owns.heap {ι : Type} {P : ι → Option Row} {base : Nat} (h : Owns w base P) (hh : ∀ i r g, P i = some r → r.v.ownBlock = some g → w'.heap[g]? = w.heap[g]?) : Owns w' base P :=
  ⟨fun i r hr => own_heap (h.own i r hr) fun g hg => hh i r g hr hg, h.apart⟩
end

end Go.Proofs.Ytobegekmgoiopaa

/- Plain: the states of the program's package table, as sorted lists of items; where they go on, as a map says it. No program. -/
namespace Go.Proofs.Ytobegekmgoiopaa
open Classical

/-! ### Sorted lists -/

theorem sorted_unique {α : Type} {lt : α → α → Prop} (tr : ∀ a b c, lt a b → lt b c → lt a c) (ir : ∀ a, ¬ lt a a) {A B : List α} (hA : A.Pairwise lt) (hB : B.Pairwise lt) (h : ∀ x, x ∈ A ↔ x ∈ B) : A = B := by
  induction A generalizing B with
  | nil =>
    cases B with
    | nil => rfl
    | cons b B => exact absurd ((h b).2 (by simp)) (by simp)
  | cons a A ih =>
    cases B with
    | nil => exact absurd ((h a).1 (by simp)) (by simp)
    | cons b B =>
      rw [List.pairwise_cons] at hA hB
      have hab : a = b := by
        rcases List.mem_cons.1 ((h a).1 (by simp)) with e | e
        · exact e
        · rcases List.mem_cons.1 ((h b).2 (by simp)) with e' | e'
          · exact e'.symm
          · exact absurd (tr _ _ _ (hA.1 b e') (hB.1 a e)) (ir a)
      subst hab
      rw [ih hA.2 hB.2 fun x => ⟨fun hx => ?_, fun hx => ?_⟩]
      · rcases List.mem_cons.1 ((h x).1 (by simp [hx])) with e | e
        · subst e; exact absurd (hA.1 x hx) (ir x)
        · exact e
      · rcases List.mem_cons.1 ((h x).2 (by simp [hx])) with e | e
        · subst e; exact absurd (hB.1 x hx) (ir x)
        · exact e

def ltI (a b : It) : Prop := a.1 < b.1 ∨ (a.1 = b.1 ∧ a.2 < b.2)
theorem ltI_trans (a b c : It) (h : ltI a b) (k : ltI b c) : ltI a c := by unfold ltI at *; omega
theorem ltI_irrefl (a : It) : ¬ ltI a a := by unfold ltI; omega
theorem ltI_nodup {L : List It} (h : L.Pairwise ltI) : L.Nodup := h.imp fun {a b} h e => by subst e; exact ltI_irrefl a h

/-! ### States -/

/-- Sorted lists of items stand for states, of which no two are one. -/
structure SDk (R : List Ru) (OL : List (List It)) (Ls : List SetI) : Prop where
  len : OL.length = Ls.length
  rep : ∀ i, i < OL.length → RepI (OL.getD i []) (Ls.getD i noS)
  srt : ∀ i, i < OL.length → (OL.getD i []).Pairwise ltI
  dist : Dist Ls
  ok : ∀ i, i < OL.length → ∀ t ∈ OL.getD i [], OkIt R t

section
variable {T N : Nat} {R : List Ru} {OL : List (List It)} {Ls : List SetI} {k x : Nat}

theorem SDk.push (h : SDk R OL Ls) {C : List It} {S : SetI} (hC : RepI C S) (hs : C.Pairwise ltI) (hno : ∀ n, n < Ls.length → Ls.getD n noS ≠ S) (hok : ∀ t ∈ C, OkIt R t) : SDk R (OL ++ [C]) (Ls ++ [S]) := by
  have hl := h.len
  have cas : ∀ i, i < (OL ++ [C]).length → (i < OL.length ∧ (OL ++ [C]).getD i [] = OL.getD i [] ∧ (Ls ++ [S]).getD i noS = Ls.getD i noS) ∨ (i = OL.length ∧ (OL ++ [C]).getD i [] = C ∧ (Ls ++ [S]).getD i noS = S) := fun i hi => by
    simp only [List.length_append, List.length_cons, List.length_nil] at hi
    rcases Nat.lt_succ_iff_lt_or_eq.1 hi with hi | hi
    · exact .inl ⟨hi, getD_app hi, getD_app (by omega)⟩
    · exact .inr ⟨hi, getD_app_last hi, getD_app_last (by omega)⟩
  refine ⟨by simp [hl], fun i hi => ?_, fun i hi => ?_, fun i j hi hj e => ?_, fun i hi => ?_⟩
  · rcases cas i hi with ⟨h1, h2, h3⟩ | ⟨h1, h2, h3⟩
    · rw [h2, h3]; exact h.rep i h1
    · rw [h2, h3]; exact hC
  · rcases cas i hi with ⟨h1, h2, _⟩ | ⟨_, h2, _⟩
    · rw [h2]; exact h.srt i h1
    · rw [h2]; exact hs
  · have hi' : i < (OL ++ [C]).length := by simp only [List.length_append, List.length_cons, List.length_nil] at hi ⊢; omega
    have hj' : j < (OL ++ [C]).length := by simp only [List.length_append, List.length_cons, List.length_nil] at hj ⊢; omega
    rcases cas i hi' with ⟨h1, _, h3⟩ | ⟨h1, _, h3⟩ <;> rcases cas j hj' with ⟨k1, _, k3⟩ | ⟨k1, _, k3⟩
    · rw [h3, k3] at e; exact h.dist i j (by omega) (by omega) e
    · rw [h3, k3] at e; exact absurd e (hno i (by omega))
    · rw [h3, k3] at e; exact absurd e.symm (hno j (by omega))
    · omega
  · rcases cas i hi with ⟨h1, h2, _⟩ | ⟨_, h2, _⟩
    · rw [h2]; exact h.ok i h1
    · rw [h2]; exact hok

theorem sdk_none (R : List Ru) : SDk R [] [] := ⟨rfl, fun _ hi => absurd hi (Nat.not_lt_zero _), fun _ hi => absurd hi (Nat.not_lt_zero _), fun _ _ hi => absurd hi (Nat.not_lt_zero _), fun _ hi => absurd hi (Nat.not_lt_zero _)⟩

/-- The state 0. -/
theorem sdk_start {C : List It} (hs : C.Pairwise ltI) (hC : ∀ i, i ∈ C ↔ Cl R (· ∈ [(R.length, 0)]) i) : SDk R [C] [Cl R fun i => i = (R.length, 0)] := by
  have e : (fun i : It => i ∈ [(R.length, 0)]) = fun i => i = (R.length, 0) := funext fun i => by simp
  rw [e] at hC
  exact (sdk_none R).push (C := C) ⟨ltI_nodup hs, hC⟩ hs (fun n hn => absurd hn (Nat.not_lt_zero _)) (fun t ht => cl_ok (S := fun i => i = (R.length, 0)) (fun i hi => by rw [hi]; exact ⟨Nat.le_refl _, Nat.zero_le _⟩) ((hC t).1 ht))

/-- What is looked for: the state of a list of items. -/
theorem SDk.same (h : SDk R OL Ls) {n : Nat} (hn : n < OL.length) {C : List It} {S : SetI} (hC : RepI C S) (hs : C.Pairwise ltI) : OL.getD n [] = C ↔ Ls.getD n noS = S := by
  constructor
  · intro e
    have := h.rep n hn
    rw [e] at this
    exact this.eq hC
  · intro e
    have := h.rep n hn
    rw [e] at this
    exact sorted_unique ltI_trans ltI_irrefl (h.srt n hn) hs fun i => (this.mem i).trans (hC.mem i).symm

/-- What becomes of the states when one of them is asked for: its number, the states. -/
def StTo (OL : List (List It)) (C : List It) (n : Nat) (OL' : List (List It)) : Prop :=
  (n < OL.length ∧ OL.getD n [] = C ∧ OL' = OL) ∨ ((∀ j, j < OL.length → OL.getD j [] ≠ C) ∧ n = OL.length ∧ OL' = OL ++ [C])

theorem SDk.visit (h : SDk R OL Ls) (hk : k < OL.length) (hne : kernL T R (OL.getD k []) x (OL.getD k []).length ≠ []) {C : List It} (hs : C.Pairwise ltI) (hC : ∀ i, i ∈ C ↔ Cl R (· ∈ kernL T R (OL.getD k []) x (OL.getD k []).length) i)
    {n : Nat} {OL' : List (List It)} (ht : StTo OL C n OL') : (Proofs.Ytobegekmgoiopaa.visit T R Ls k x).1 = n ∧ SDk R OL' (Proofs.Ytobegekmgoiopaa.visit T R Ls k x).2 := by
  have hrep := rep_goto (h.rep k hk) (ltI_nodup hs) hC
  have hex : ∃ i, Ls.getD k noS i ∧ nextIs T R i x := Classical.byContradiction fun hno => hne ((kernL_nil (h.rep k hk)).2 hno)
  rcases ht with ⟨h1, h2, rfl⟩ | ⟨h1, rfl, rfl⟩
  · rw [visit_old h.dist hex (by rw [← h.len]; exact h1) ((h.same h1 hrep hs).1 h2)]
    exact ⟨rfl, h⟩
  · have hno : ∀ n, n < Ls.length → Ls.getD n noS ≠ gotoS T R (Ls.getD k noS) x := fun n hnl e =>
      h1 n (by rw [h.len]; exact hnl) ((h.same (by rw [h.len]; exact hnl) hrep hs).2 e)
    have hokK : ∀ i, kernS T R (Ls.getD k noS) x i → OkIt R i := kern_ok fun i hi => h.ok k hk i (((h.rep k hk).mem i).2 hi)
    rw [visit_new hex hno]
    exact ⟨by rw [h.len], h.push hrep hs hno (fun t ht => cl_ok hokK ((hrep.mem t).1 ht))⟩

theorem SDk.visitNone (h : SDk R OL Ls) (hk : k < OL.length) (he : kernL T R (OL.getD k []) x (OL.getD k []).length = []) : Proofs.Ytobegekmgoiopaa.visit T R Ls k x = (-1, Ls) :=
  visit_none ((kernL_nil (h.rep k hk)).1 he)

theorem SDk.kernOk (h : SDk R OL Ls) (hk : k < OL.length) {j : Nat} : ∀ i ∈ kernL T R (OL.getD k []) x j, OkIt R i ∧ i.2 ≠ 0 := fun i hi => by
  unfold kernL at hi
  obtain ⟨b, hb, rfl⟩ := List.mem_map.1 hi
  rw [List.mem_filter] at hb
  have hbo := h.ok k hk b (List.mem_of_mem_take hb.1)
  obtain ⟨s, h2, _⟩ : nextIs T R b x := by simpa using hb.2
  have := (List.getElem?_eq_some_iff.1 h2).1
  exact ⟨⟨hbo.1, by simp only; omega⟩, by simp⟩
end

/-! ### Symbols, and where states go on -/

def symN (T x : Nat) : Sy := if x < T then (true, (x : Int)) else (false, ((x - T : Nat) : Int))
theorem num_symN (T x : Nat) : numF T (symN T x) = x := by
  unfold symN numF
  split
  · simp
  · simp; omega
theorem symN_inj {T x y : Nat} (h : symN T x = symN T y) : x = y := by
  have h1 := num_symN T x
  rw [h, num_symN] at h1
  omega
theorem symN_num {T N : Nat} {s : Sy} (h1 : s.1 = true → 0 ≤ s.2 ∧ s.2 < (T : Int)) (h2 : s.1 = false → 0 ≤ s.2 ∧ s.2 < (N : Int)) : symN T (numF T s).toNat = s ∧ (numF T s).toNat < T + N := by
  obtain ⟨b, v⟩ := s
  cases b with
  | true =>
    have := h1 rfl
    simp only at this
    simp only [numF, symN, if_true]
    rw [if_pos (by omega)]
    refine ⟨?_, by omega⟩
    congr 1
    omega
  | false =>
    have := h2 rfl
    simp only at this
    simp only [numF, symN, Bool.false_eq_true, if_false]
    rw [if_neg (by omega)]
    refine ⟨?_, by omega⟩
    congr 1
    omega

theorem nextIs_sym {T N : Nat} {R : List Ru} {i : It} {x : Nat} (hR : ∀ s ∈ rightF R i.1, (s.1 = true → 0 ≤ s.2 ∧ s.2 < (T : Int)) ∧ (s.1 = false → 0 ≤ s.2 ∧ s.2 < (N : Int))) : nextIs T R i x ↔ (rightF R i.1)[i.2]? = some (symN T x) := by
  unfold nextIs
  constructor
  · rintro ⟨s, h1, h2⟩
    obtain ⟨e, _⟩ := symN_num (hR s (List.mem_of_getElem? h1)).1 (hR s (List.mem_of_getElem? h1)).2
    rw [h1, ← e, h2]
    simp
  · intro h
    exact ⟨_, h, num_symN T x⟩

abbrev Wy := Nat × Sy
/-- What the map of ways says, the rows being NL. -/
noncomputable def goM (T : Nat) (NL : List (List Int)) : Wy → Option Value := fun p =>
  if ∃ x, x < (NL.getD p.1 []).length ∧ p.2 = symN T x ∧ 0 ≤ (NL.getD p.1 []).getD x 0 then some (.int .i64 ((NL.getD p.1 []).getD (numF T p.2).toNat 0)) else none

section
variable {T : Nat} {NL : List (List Int)}

theorem goM_nil (T : Nat) : goM T [] = fun _ => none := by
  funext p
  unfold goM
  rw [if_neg]
  rintro ⟨x, h, _⟩
  simp [List.getD] at h

theorem goM_at {k x : Nat} (hx : x < (NL.getD k []).length) : goM T NL (k, symN T x) = if 0 ≤ (NL.getD k []).getD x 0 then some (.int .i64 ((NL.getD k []).getD x 0)) else none := by
  unfold goM
  simp only [num_symN, Int.toNat_natCast]
  by_cases h : 0 ≤ (NL.getD k []).getD x 0
  · rw [if_pos h, if_pos ⟨x, hx, rfl, h⟩]
  · rw [if_neg h, if_neg]
    rintro ⟨y, h1, h2, h3⟩
    rw [symN_inj h2] at h
    exact h h3

theorem goM_end {k : Nat} {s : Sy} (hs : ∀ x, s ≠ symN T x) : goM T NL (k, s) = none := by
  unfold goM
  rw [if_neg]
  rintro ⟨x, _, h, _⟩
  exact hs x h

theorem goM_row : goM T (NL ++ [[]]) = goM T NL := by
  funext p
  unfold goM
  have e : (NL ++ [[]]).getD p.1 [] = NL.getD p.1 [] := by
    by_cases h : p.1 < NL.length
    · simp [List.getD, List.getElem?_append_left h]
    · rw [List.getD, List.getD, List.getElem?_append_right (by omega), List.getElem?_eq_none (show NL.length ≤ p.1 by omega)]
      cases h2 : p.1 - NL.length <;> simp
  rw [e]

theorem goM_add {row : List Int} {z : Int} : goM T (NL ++ [row ++ [z]]) = if 0 ≤ z then setM (goM T (NL ++ [row])) (NL.length, symN T row.length) (.int .i64 z) else goM T (NL ++ [row]) := by
  have gk : ∀ r : List Int, (NL ++ [r]).getD NL.length [] = r := fun r => by simp [List.getD]
  have go : ∀ (r : List Int) (k : Nat), k ≠ NL.length → (NL ++ [r]).getD k [] = NL.getD k [] := fun r k hk => by
    by_cases h : k < NL.length
    · simp [List.getD, List.getElem?_append_left h]
    · rw [List.getD, List.getD, List.getElem?_append_right (by omega), List.getElem?_eq_none (show NL.length ≤ k by omega)]
      rw [List.getElem?_eq_none (by simp; omega)]
  have rlast : (row ++ [z]).getD row.length 0 = z := by simp [List.getD]
  have rold : ∀ x, x < row.length → (row ++ [z]).getD x 0 = row.getD x 0 := fun x hx => by simp [List.getD, List.getElem?_append_left hx]
  -- what another way says
  have other : ∀ k s, (k, s) ≠ (NL.length, symN T row.length) → goM T (NL ++ [row ++ [z]]) (k, s) = goM T (NL ++ [row]) (k, s) := fun k s hne => by
    by_cases hk : k = NL.length
    · subst hk
      have hs : s ≠ symN T row.length := fun e => hne (by rw [e])
      by_cases hex : ∃ x, s = symN T x
      · obtain ⟨x, rfl⟩ := hex
        have hx : x ≠ row.length := fun e => hs (by rw [e])
        by_cases hl : x < row.length
        · rw [goM_at (by rw [gk]; simp; omega), goM_at (by rw [gk]; exact hl), gk, gk, rold x hl]
        · unfold goM
          rw [if_neg, if_neg]
          · rintro ⟨y, h1, h2, _⟩
            rw [gk] at h1
            have := symN_inj h2
            omega
          · rintro ⟨y, h1, h2, _⟩
            rw [gk] at h1
            simp only [List.length_append, List.length_cons, List.length_nil] at h1
            have := symN_inj h2
            omega
      · rw [goM_end (fun x e => hex ⟨x, e⟩), goM_end (fun x e => hex ⟨x, e⟩)]
    · unfold goM
      simp only [go _ k hk]
  by_cases hz : 0 ≤ z
  · rw [if_pos hz]
    funext p
    by_cases hp : p = (NL.length, symN T row.length)
    · subst hp
      rw [goM_at (by rw [gk]; simp), gk, rlast, if_pos hz]
      simp [setM]
    · rw [other p.1 p.2 hp]
      simp [setM, hp]
  · rw [if_neg hz]
    funext p
    by_cases hp : p = (NL.length, symN T row.length)
    · subst hp
      rw [goM_at (by rw [gk]; simp), gk, rlast, if_neg hz]
      unfold goM
      rw [if_neg]
      rintro ⟨y, h1, h2, _⟩
      simp only [gk] at h1
      have := symN_inj h2
      omega
    · exact other p.1 p.2 hp
end

end Go.Proofs.Ytobegekmgoiopaa
