import Derived.Test.YtinmafbaapoloaaMathAndAuto6
import Derived.OwnWalk
import Derived.Deep.AppendLies
import Derived.StillTailTactics
/- Plain: closed sets of items (F1); lists without doubles. -/
namespace Go.Proofs.Ytinmafbaapoloaa

/-- What closes a set of items. -/
inductive Cl (R : List Ru) (S : It → Prop) : It → Prop
  | base {i : It} (h : S i) : Cl R S i
  | step {r d n : Nat} {m : Int} (h : Cl R S (r, d)) (h1 : (rightF R r)[d]? = some (false, m)) (h2 : n < R.length) (h3 : (R.getD n (0, [])).1 = m) : Cl R S (n, 0)

section
variable {α : Type} [DecidableEq α]

theorem nodup_sub_length {A B : List α} (hA : A.Nodup) (h : ∀ x ∈ A, x ∈ B) : A.length ≤ B.length := by
  induction A generalizing B with
  | nil => simp
  | cons a A ih =>
    rw [List.nodup_cons] at hA
    have ha := h a (by simp)
    have := ih hA.2 (B := B.erase a) fun x hx => (List.mem_erase_of_ne (fun e => hA.1 (by rw [← e]; exact hx))).2 (h x (by simp [hx]))
    rw [List.length_erase_of_mem ha] at this
    have := List.length_pos_of_mem ha
    simp only [List.length_cons]
    omega

theorem nodup_sub_eq {A B : List α} (hA : A.Nodup) (h : ∀ x ∈ A, x ∈ B) (hl : A.length = B.length) : ∀ x ∈ B, x ∈ A := fun x hx => by
  refine Classical.byContradiction fun hn => ?_
  have := nodup_sub_length (B := B.erase x) hA fun y hy => (List.mem_erase_of_ne (fun e => hn (by rw [← e]; exact hy))).2 (h y hy)
  rw [List.length_erase_of_mem hx] at this
  have := List.length_pos_of_mem hx
  omega
end

theorem hasF_mem {L : List It} {i : It} : 0 ≤ hasF L i ↔ i ∈ L := by
  constructor
  · intro h
    unfold hasF at h
    cases hf : L.findIdx? (fun x => decide (x = i)) with
    | none => rw [hf] at h; simp at h
    | some k =>
      rw [List.findIdx?_eq_some_iff_getElem] at hf
      obtain ⟨hk, he, _⟩ := hf
      have : L[k] = i := by simpa using he
      rw [← this]
      exact List.getElem_mem hk
  · intro h
    rcases hasF_range L i with hr | hr
    · exfalso
      unfold hasF at hr
      cases hf : L.findIdx? (fun x => decide (x = i)) with
      | none =>
        rw [List.findIdx?_eq_none_iff] at hf
        have := hf i h
        simp at this
      | some k => rw [hf] at hr; simp at hr
    · exact hr

theorem alikeF_iff {A B : List It} (hA : A.Nodup) : alikeF A B = true ↔ (A.length = B.length ∧ ∀ x, x ∈ A ↔ x ∈ B) := by
  unfold alikeF
  simp only [Bool.and_eq_true, decide_eq_true_eq, List.all_eq_true]
  constructor
  · rintro ⟨h1, h2⟩
    have h3 : ∀ x ∈ A, x ∈ B := fun x hx => hasF_mem.1 (h2 x hx)
    exact ⟨h1, fun x => ⟨h3 x, nodup_sub_eq hA h3 h1 x⟩⟩
  · rintro ⟨h1, h2⟩
    exact ⟨h1, fun x hx => hasF_mem.2 ((h2 x).1 hx)⟩

/-- While a set is closed: all items below k, and of item k what the rules below n ask. -/
structure CI (R : List Ru) (l O : List It) (k n : Nat) : Prop where
  pre : ∃ E, O = l ++ E ∧ ∀ i ∈ E, ∃ q, q < R.length ∧ i = (q, 0)
  nod : O.Nodup
  snd : ∀ i ∈ O, Cl R (· ∈ l) i
  cls : ∀ j, (j < k ∧ j < O.length) → ∀ m q, (rightF R (O.getD j (0, 0)).1)[(O.getD j (0, 0)).2]? = some (false, m) → q < R.length → (R.getD q (0, [])).1 = m → (q, 0) ∈ O
  cur : k < O.length → ∀ m q, (rightF R (O.getD k (0, 0)).1)[(O.getD k (0, 0)).2]? = some (false, m) → q < n → q < R.length → (R.getD q (0, [])).1 = m → (q, 0) ∈ O

section
variable {R : List Ru} {l O : List It} {k n : Nat}

theorem ci_start (hl : l.Nodup) : CI R l l 0 0 := ⟨⟨[], by simp, fun i hi => by cases hi⟩, hl, fun i hi => .base hi, fun j hj => by omega, fun _ m q _ hq => by omega⟩

theorem CI.len (h : CI R l O k n) : O.length ≤ l.length + R.length := by
  obtain ⟨E, rfl, hE⟩ := h.pre
  have hn : E.Nodup := (List.nodup_append.1 h.nod).2.1
  have := nodup_sub_length (B := (List.range R.length).map fun q => ((q, 0) : It)) hn fun i hi => by
    obtain ⟨q, hq, rfl⟩ := hE i hi
    exact List.mem_map.2 ⟨q, List.mem_range.2 hq, rfl⟩
  simp only [List.length_map, List.length_range] at this
  simp only [List.length_append]
  omega

theorem CI.none (h : CI R l O k 0) (hno : k < O.length → ∀ m, (rightF R (O.getD k (0, 0)).1)[(O.getD k (0, 0)).2]? ≠ some (false, m)) : CI R l O (k + 1) 0 :=
  ⟨h.pre, h.nod, h.snd, fun j hj m q h1 h2 h3 => by
    rcases Nat.lt_succ_iff_lt_or_eq.1 hj.1 with hj' | rfl
    · exact h.cls j ⟨hj', hj.2⟩ m q h1 h2 h3
    · exact absurd h1 (hno hj.2 m), fun _ m q _ hq => by omega⟩

theorem CI.done (h : CI R l O k n) (hn : R.length ≤ n) : CI R l O (k + 1) 0 :=
  ⟨h.pre, h.nod, h.snd, fun j hj m q h1 h2 h3 => by
    rcases Nat.lt_succ_iff_lt_or_eq.1 hj.1 with hj' | rfl
    · exact h.cls j ⟨hj', hj.2⟩ m q h1 h2 h3
    · exact h.cur hj.2 m q h1 (by omega) h2 h3, fun _ m q _ hq => by omega⟩

theorem CI.pass (h : CI R l O k n) (hno : k < O.length → ∀ m, (rightF R (O.getD k (0, 0)).1)[(O.getD k (0, 0)).2]? = some (false, m) → (R.getD n (0, [])).1 = m → (n, 0) ∈ O) : CI R l O k (n + 1) :=
  ⟨h.pre, h.nod, h.snd, h.cls, fun hk m q h1 h2 h3 h4 => by
    rcases Nat.lt_succ_iff_lt_or_eq.1 h2 with h2 | rfl
    · exact h.cur hk m q h1 h2 h3 h4
    · exact hno hk m h1 h4⟩

theorem CI.push (h : CI R l O k n) (hk : k < O.length) {m : Int} (h1 : (rightF R (O.getD k (0, 0)).1)[(O.getD k (0, 0)).2]? = some (false, m)) (hn : n < R.length) (h2 : (R.getD n (0, [])).1 = m) (h3 : (n, 0) ∉ O) : CI R l (O ++ [(n, 0)]) k (n + 1) := by
  have get : ∀ j, j < O.length → (O ++ [(n, 0)]).getD j (0, 0) = O.getD j (0, 0) := fun j hj => by simp [List.getD, List.getElem?_append_left hj]
  have hO : O.getD k (0, 0) ∈ O := by simp [List.getD, hk]
  refine ⟨?_, ?_, fun i hi => ?_, fun j hj m' q e1 e2 e3 => ?_, fun _ m' q e1 e2 e3 e4 => ?_⟩
  · obtain ⟨E, rfl, hE⟩ := h.pre
    refine ⟨E ++ [(n, 0)], by simp, fun i hi => ?_⟩
    rcases List.mem_append.1 hi with hi | hi
    · exact hE i hi
    · exact ⟨n, hn, by simpa using hi⟩
  · rw [List.nodup_append]
    refine ⟨h.nod, by simp, fun a ha b hb e => ?_⟩
    have hb' : b = (n, 0) := by simpa using hb
    rw [e, hb'] at ha
    exact h3 ha
  · rcases List.mem_append.1 hi with hi | hi
    · exact h.snd i hi
    · have : i = (n, 0) := by simpa using hi
      subst this
      exact .step (h.snd _ hO) h1 hn h2
  · have hjO : j < O.length := by omega
    rw [get j hjO] at e1
    exact List.mem_append_left _ (h.cls j ⟨hj.1, hjO⟩ m' q e1 e2 e3)
  · rw [get k hk] at e1
    rcases Nat.lt_succ_iff_lt_or_eq.1 e2 with e2 | rfl
    · exact List.mem_append_left _ (h.cur hk m' q e1 e2 e3 e4)
    · simp

/-- All items are closed: just what closes the first ones is there. -/
theorem CI.all (h : CI R l O k n) (hk : O.length ≤ k) : ∀ i, i ∈ O ↔ Cl R (· ∈ l) i := fun i => by
  refine ⟨h.snd i, fun hc => ?_⟩
  induction hc with
  | base hb =>
    obtain ⟨E, rfl, _⟩ := h.pre
    exact List.mem_append_left _ hb
  | step _ h1 h2 h3 ih =>
    obtain ⟨j, hj, he⟩ := List.getElem_of_mem ih
    have e : O.getD j (0, 0) = O[j] := by simp [List.getD, hj]
    exact h.cls j ⟨by omega, hj⟩ _ _ (by rw [e, he]; exact h1) h2 h3
end

end Go.Proofs.Ytinmafbaapoloaa

/- Memory that a call has made: rows, each in a block of its own, each under an index. No program. -/
namespace Go.Proofs.Ytinmafbaapoloaa
open Go.RowKit

/-- A slice value that owns a row: n elements of type e, size cells each, the cells xs. -/
structure Row where
  v : Value
  e : TypeId
  size : Nat
  n : Nat
  xs : List Value

/-- Each row of P is owned, from block number base on, and no two lie in one block. -/
structure Owns {ι : Type} (w : World) (base : Nat) (P : ι → Option Row) : Prop where
  own : ∀ i r, P i = some r → w.ownsRow base r.e r.size r.v r.n r.xs
  apart : ∀ i j a b, i ≠ j → P i = some a → P j = some b → ∀ g, a.v.ownBlock = some g → b.v.ownBlock = some g → False

/-- The row under i is r. -/
def upd {ι : Type} [DecidableEq ι] (P : ι → Option Row) (i : ι) (r : Row) : ι → Option Row := fun j => if j = i then some r else P j

section
variable {ι : Type} {w : World} {base : Nat} {P : ι → Option Row}

theorem Owns.drewN (h : Owns w base P) (m : Nat) : Owns (w.drewN m) base P := ⟨h.own, h.apart⟩
theorem Owns.drew (h : Owns w base P) : Owns w.drew base P := ⟨h.own, h.apart⟩

theorem Owns.alloc (h : Owns w base P) (o : Obj) : Owns (w.alloc o) base P := ⟨fun i r hr => (h.own i r hr).alloc o, h.apart⟩

theorem Owns.mono (h : Owns w base P) {base' : Nat} (hb : base' ≤ base) : Owns w base' P := ⟨fun i r hr => own_mono (h.own i r hr) hb, h.apart⟩

theorem Owns.lt (h : Owns w base P) {i : ι} {r : Row} (hi : P i = some r) {g : Nat} (hg : r.v.ownBlock = some g) : base ≤ g ∧ g < w.heap.size := (h.own i r hi).lt g hg

/-- Nothing below B has turned, and all rows lie there. -/
theorem Owns.below (h : Owns w base P) {B : Nat} {w' : World} (hb : Below B w w') (hB : w.heap.size ≤ B) : Owns w' base P :=
  ⟨fun _ _ hr => own_below (h.own _ _ hr) hb fun _ hg => Nat.lt_of_lt_of_le (h.lt hr hg).2 hB, h.apart⟩

/-- A cell outside all rows is written. -/
theorem Owns.setOther (h : Owns w base P) {a : Addr} (ha : ∀ i r, P i = some r → r.v.ownBlock ≠ some a.block) (u : Value) : Owns (w.setCell a u) base P := by
  refine ⟨fun i r hr => ?_, h.apart⟩
  obtain ⟨h1, h2⟩ := h.own i r hr
  refine ⟨h1, ?_⟩
  rcases h2 with h2 | ⟨g, cap, cur, hv, hg, hh, rest⟩
  · exact .inl h2
  · refine .inr ⟨g, cap, cur, hv, hg, ?_, rest⟩
    rw [Below.heap_setCell _ _ _ _ (fun e => ha i r hr (by rw [hv, e]; rfl))]
    exact hh

/-- A cell below all rows is written. -/
theorem Owns.setBelow (h : Owns w base P) {a : Addr} (ha : a.block < base) (u : Value) : Owns (w.setCell a u) base P :=
  h.setOther (fun _ _ hr e => by have := (h.lt hr e).1; omega) u

variable [DecidableEq ι]

theorem upd_same (P : ι → Option Row) (i : ι) (r : Row) : upd P i r i = some r := by simp [upd]
theorem upd_other (P : ι → Option Row) {i j : ι} (h : j ≠ i) (r : Row) : upd P i r j = P j := by simp [upd, h]

theorem upd_cases {P : ι → Option Row} {i j : ι} {r a : Row} (h : upd P i r j = some a) : (j = i ∧ a = r) ∨ (j ≠ i ∧ P j = some a) := by
  unfold upd at h
  split at h
  · rename_i e
    exact .inl ⟨e, by simpa using h.symm⟩
  · rename_i e
    exact .inr ⟨e, h⟩

theorem Owns.put (h : Owns w base P) {i : ι} {r' : Row} {w' : World} (hown : w'.ownsRow base r'.e r'.size r'.v r'.n r'.xs)
    (hkeep : ∀ j a, j ≠ i → P j = some a → w'.ownsRow base a.e a.size a.v a.n a.xs)
    (hfresh : ∀ j a, j ≠ i → P j = some a → ∀ g, a.v.ownBlock = some g → r'.v.ownBlock = some g → False) : Owns w' base (upd P i r') := by
  refine ⟨fun j a ha => ?_, fun j k a b hjk ha hb g h1 h2 => ?_⟩
  · rcases upd_cases ha with ⟨_, rfl⟩ | ⟨hj, ha⟩
    · exact hown
    · exact hkeep j a hj ha
  · rcases upd_cases ha with ⟨hj, e1⟩ | ⟨hj, ha'⟩
    · rcases upd_cases hb with ⟨hk, _⟩ | ⟨hk, hb'⟩
      · exact hjk (by rw [hj, hk])
      · subst e1
        exact hfresh k b hk hb' g h2 h1
    · rcases upd_cases hb with ⟨hk, e1⟩ | ⟨hk, hb'⟩
      · subst e1
        exact hfresh j a hj ha' g h1 h2
      · exact h.apart j k a b hjk ha' hb' g h1 h2

/-- A new row. -/
theorem Owns.new (h : Owns w base P) (i : ι) {w' : World} {r : Row} (hg : w.grownBy w' none) (hown : w'.ownsRow base r.e r.size r.v r.n r.xs) (hv : ∀ g, r.v.ownBlock = some g → g = w.heap.size) : Owns w' base (upd P i r) := by
  refine h.put hown (fun j a _ ha => (h.own j a ha).kept hg ?_) (fun j a _ ha g h1 h2 => ?_)
  · cases a.v.ownBlock <;> simp
  · have := (h.lt ha h1).2
    have := hv g h2
    omega

/-- One row turns into another one, in its own block or in a new one. -/
theorem Owns.turn (h : Owns w base P) {i : ι} {r r' : Row} (hi : P i = some r) {w' : World} (hg : w.grownBy w' r.v.ownBlock) (hown : w'.ownsRow base r'.e r'.size r'.v r'.n r'.xs)
    (hat : ∀ g, r'.v.ownBlock = some g → r.v.ownBlock = some g ∨ g = w.heap.size) : Owns w' base (upd P i r') := by
  refine h.put hown (fun j a hj ha => (h.own j a ha).kept hg ?_) (fun j a hj ha g h1 h2 => ?_)
  · cases e : a.v.ownBlock with
    | none => exact .inl rfl
    | some g => exact .inr fun e' => h.apart j i a r hj ha hi g e e'.symm
  · rcases hat g h2 with e | e
    · exact h.apart j i a r hj ha hi g h1 e
    · have := (h.lt ha h1).2; omega

/-- A cell of a row is written. -/
theorem Owns.store (h : Owns w base P) {i : ι} {g n cap e size : Nat} {xs : List Value} (hi : P i = some ⟨.slice (some ⟨g, 0, none⟩) n cap, e, size, n, xs⟩) (j : Nat) (u : Value) :
    Owns (w.setCell ⟨g, j, none⟩ u) base (upd P i ⟨.slice (some ⟨g, 0, none⟩) n cap, e, size, n, xs.set j u⟩) := by
  obtain ⟨h1, h2⟩ := (h.own i _ hi).stored j u
  exact h.turn (r' := ⟨.slice (some ⟨g, 0, none⟩) n cap, e, size, n, xs.set j u⟩) hi h2 h1 fun g' hg' => .inl hg'

omit [DecidableEq ι] in
/-- A cell of a row is read. -/
theorem Owns.cell (h : Owns w base P) {i : ι} {g n cap e size : Nat} {xs : List Value} (hi : P i = some ⟨.slice (some ⟨g, 0, none⟩) n cap, e, size, n, xs⟩) (j : Nat) (hj : j < n * size) :
    w.cell? ⟨g, j, none⟩ = xs[j]? ∧ w.frozen? ⟨g, j, none⟩ = false :=
  ⟨(h.own i _ hi).cellAt j hj, (h.own i _ hi).frozenAt j⟩

omit [DecidableEq ι] in
/-- A row that owns something: what its value looks like. -/
theorem Owns.form (h : Owns w base P) {i : ι} {r : Row} (hi : P i = some r) (hn : 0 < r.n) : ∃ g cap, r.v = .slice (some ⟨g, 0, none⟩) r.n cap ∧ base ≤ g ∧ g < w.heap.size := (h.own i r hi).form hn

omit [DecidableEq ι] in
theorem Owns.slice (h : Owns w base P) {i : ι} {r : Row} (hi : P i = some r) : ∃ a c, r.v = .slice a r.n c := own_form (h.own i r hi)
end

end Go.Proofs.Ytinmafbaapoloaa

/- Tables of truths that a call owns, and what a call that may write them alone keeps. No program. -/
namespace Go.Proofs.Ytinmafbaapoloaa
open Go.RowKit

/-- A region that draws its order, whose operations only read but those behind the first n, which can but follow: one walk. -/
theorem wp_region_tail {P : Program} {id : Nat} {Q : Exit → Act → World → Prop} {a : Act} {w : World} {l : List Oper} (n : Nat) (hm : P.follows .mixedOrders = true) (hB : Region.lexTailB .any l.toArray n = true)
    (h : wpStill P l.toArray w.drew (fun a' => wpList P l.toArray Q (l.drop n) a' w.drew) (l.take n) a) : (Code.region id l.toArray true).wp P Q a w := wp_region_still_tail n hm hB h

/-- All blocks that were there but those of K are as they were. -/
structure Kept (K : Nat → Prop) (w w' : World) : Prop where
  os : w'.os = w.os
  tape : w'.tape = w.tape
  output : w'.output = w.output
  size : w.heap.size ≤ w'.heap.size
  block : ∀ k, k < w.heap.size → ¬ K k → w'.heap[k]? = w.heap[k]?

section
variable {K : Nat → Prop} {a w w' : World}

theorem Kept.refl (K : Nat → Prop) (w : World) : Kept K w w := ⟨rfl, rfl, rfl, Nat.le_refl _, fun _ _ _ => rfl⟩
theorem Kept.trans {b c : World} (h : Kept K a b) (k : Kept K b c) : Kept K a c :=
  ⟨k.os.trans h.os, k.tape.trans h.tape, k.output.trans h.output, Nat.le_trans h.size k.size, fun i hi hK => (k.block i (Nat.lt_of_lt_of_le hi h.size) hK).trans (h.block i hi hK)⟩
theorem Kept.drew (h : Kept K a w) : Kept K a w.drew := ⟨h.os, h.tape, h.output, h.size, h.block⟩
theorem Kept.drewN (h : Kept K a w) (n : Nat) : Kept K a (w.drewN n) := ⟨h.os, h.tape, h.output, h.size, h.block⟩
theorem Kept.ofBelow (h : Below w.heap.size w w') : Kept K w w' := ⟨h.os, h.tape, h.output, h.size, fun k hk _ => h.block k hk⟩
theorem Kept.alloc (h : Kept K a w) (o : Obj) : Kept K a (w.alloc o) := h.trans (Kept.ofBelow ((Below.refl _ _).alloc (Nat.le_refl _) o))
theorem Kept.setCell (h : Kept K a w) {p : Addr} (hp : K p.block) (u : Value) : Kept K a (w.setCell p u) :=
  h.trans ⟨rfl, rfl, rfl, by simp [World.setCell], fun k _ hK => Below.heap_setCell _ _ _ _ (fun e => hK (e ▸ hp))⟩
theorem Kept.below (h : Kept K a w) {B : Nat} (hB : ∀ b, K b → B ≤ b) (hs : B ≤ a.heap.size) : Below B a w :=
  ⟨h.os, h.tape, h.output, h.size, fun k hk => h.block k (by omega) (fun e => by have := hB k e; omega)⟩
theorem Kept.cell (h : Kept K w w') {p : Addr} {v : Value} (hp : ¬ K p.block) (hc : w.cell? p = some v) : w'.cell? p = some v :=
  (World.cell?_of_block (w := w) (h.block p.block (World.block_lt_of_cell? w _ hc) hp)).trans hc
theorem Kept.frozen (h : Kept K w w') {p : Addr} (hp : ¬ K p.block) (hs : p.block < w.heap.size) : w'.frozen? p = w.frozen? p :=
  World.frozen?_of_block (w := w) (h.block p.block hs hp)
end

/-- n rounds, each told its number. -/
def loopN {α : Type} (n : Nat) (f : Nat → α → α) (x : α) : α :=
  match n with
  | 0 => x
  | k + 1 => f k (loopN k f x)

theorem loopN_inv {α : Type} (P : Nat → α → Prop) {n : Nat} {f : Nat → α → α} {x : α} (h0 : P 0 x) (hs : ∀ i, i < n → ∀ y, P i y → P (i + 1) (f i y)) : P n (loopN n f x) := by
  induction n with
  | zero => exact h0
  | succ n ih => exact hs n (Nat.lt_succ_self n) _ (ih fun i hi => hs i (Nat.lt_succ_of_lt hi))

/-- Where rows of truths lie, and how long they are. -/
structure Tab (ι : Type) where
  V : ι → Value
  dom : ι → Option Nat

section
variable {ι : Type}

def Tab.P (c : Tab ι) (X : ι → List Bool) (i : ι) : Option Row := (c.dom i).map fun n => ⟨c.V i, 4, 1, n, (X i).map Value.bool⟩
def Tab.K (c : Tab ι) (b : Nat) : Prop := ∃ i n, c.dom i = some n ∧ (c.V i).ownBlock = some b
def bit (X : ι → List Bool) (i : ι) (m : Nat) : Bool := (X i).getD m false
def setX [DecidableEq ι] (X : ι → List Bool) (i : ι) (m : Nat) (v : Bool) : ι → List Bool := fun j => if j = i then (X i).set m v else X j

/-- The truths X lie in the rows of c, owned from block B on. -/
def Bt (w : World) (B : Nat) (c : Tab ι) (X : ι → List Bool) : Prop := Owns w B (c.P X)

variable {w : World} {B : Nat} {c : Tab ι} {X : ι → List Bool} {i : ι} {n : Nat}

theorem Tab.P_some (hd : c.dom i = some n) : c.P X i = some ⟨c.V i, 4, 1, n, (X i).map Value.bool⟩ := by simp [Tab.P, hd]
theorem Bt.own (h : Bt w B c X) (hd : c.dom i = some n) : w.ownsRow B 4 1 (c.V i) n ((X i).map Value.bool) := Owns.own h i _ (Tab.P_some hd)
theorem Bt.len (h : Bt w B c X) (hd : c.dom i = some n) : (X i).length = n := by simpa using (h.own hd).1
theorem Bt.slice (h : Bt w B c X) (hd : c.dom i = some n) : ∃ a cap, c.V i = .slice a n cap := own_form (h.own hd)
theorem Bt.form (h : Bt w B c X) (hd : c.dom i = some n) (hn : 0 < n) : ∃ g cap, c.V i = .slice (some ⟨g, 0, none⟩) n cap ∧ B ≤ g ∧ g < w.heap.size := (h.own hd).form hn
theorem Bt.cell (h : Bt w B c X) (hd : c.dom i = some n) {g cap m : Nat} (hv : c.V i = .slice (some ⟨g, 0, none⟩) n cap) (hm : m < n) :
    w.cell? ⟨g, m, none⟩ = some (.bool (bit X i m)) ∧ w.frozen? ⟨g, m, none⟩ = false := by
  have hl := h.len hd
  have ho := h.own hd
  rw [hv] at ho
  refine ⟨?_, ho.frozenAt m⟩
  rw [ho.cellAt m (by omega)]
  simp [bit, List.getD, show m < (X i).length by omega]
theorem Bt.alloc (h : Bt w B c X) (o : Obj) : Bt (w.alloc o) B c X := Owns.alloc h o
theorem Bt.drew (h : Bt w B c X) : Bt w.drew B c X := Owns.drew h
theorem Bt.drewN (h : Bt w B c X) (n : Nat) : Bt (w.drewN n) B c X := Owns.drewN h n
theorem Bt.below (h : Bt w B c X) {w' : World} (hb : Below w.heap.size w w') : Bt w' B c X := Owns.below h hb (Nat.le_refl _)
theorem Bt.ge (h : Bt w B c X) {b : Nat} (hK : c.K b) : B ≤ b := by
  obtain ⟨i, n, hd, hb⟩ := hK
  exact ((h.own hd).lt b hb).1
theorem Bt.lt (h : Bt w B c X) {b : Nat} (hK : c.K b) : b < w.heap.size := by
  obtain ⟨i, n, hd, hb⟩ := hK
  exact ((h.own hd).lt b hb).2
theorem Bt.notK (h : Bt w B c X) {b : Nat} (hb : w.heap.size ≤ b) : ¬ c.K b := fun hK => by have := h.lt hK; omega
theorem Tab.inK (hd : c.dom i = some n) {g cap : Nat} (hv : c.V i = .slice (some ⟨g, 0, none⟩) n cap) : c.K g := ⟨i, n, hd, by rw [hv]; rfl⟩
theorem Bt.apart (h : Bt w B c X) {j : ι} {k : Nat} (hij : i ≠ j) (hd : c.dom i = some n) (hd' : c.dom j = some k) {g g' cap cap' : Nat} (hv : c.V i = .slice (some ⟨g, 0, none⟩) n cap) (hv' : c.V j = .slice (some ⟨g', 0, none⟩) k cap') : g ≠ g' := fun e =>
  Owns.apart h i j _ _ hij (Tab.P_some hd) (Tab.P_some hd') g (by rw [hv]; rfl) (by rw [hv', e]; rfl)

variable [DecidableEq ι]

theorem Bt.set (h : Bt w B c X) (hd : c.dom i = some n) {g cap : Nat} (hv : c.V i = .slice (some ⟨g, 0, none⟩) n cap) (m : Nat) (v : Bool) : Bt (w.setCell ⟨g, m, none⟩ (.bool v)) B c (setX X i m v) := by
  have := Owns.store h (i := i) (g := g) (n := n) (cap := cap) (e := 4) (size := 1) (xs := (X i).map Value.bool) (by rw [Tab.P_some hd, hv]) m (.bool v)
  have e : upd (c.P X) i ⟨.slice (some ⟨g, 0, none⟩) n cap, 4, 1, n, ((X i).map Value.bool).set m (.bool v)⟩ = c.P (setX X i m v) := by
    funext j
    by_cases hj : j = i
    · subst hj
      simp [upd, Tab.P, hd, setX, hv, List.map_set]
    · simp [upd, Tab.P, setX, hj]
  show Owns _ _ _
  rwa [e] at this

omit [DecidableEq ι] in
theorem bit_lt {m : Nat} (h : bit X i m = true) : m < (X i).length := by
  unfold bit at h
  by_cases hm : m < (X i).length
  · exact hm
  · simp [List.getD, List.getElem?_eq_none (show (X i).length ≤ m by omega)] at h

theorem bit_set {j : ι} {m q : Nat} {v : Bool} (hm : m < (X i).length) : bit (setX X i m v) j q = if j = i ∧ q = m then v else bit X j q := by
  unfold bit setX
  by_cases hj : j = i
  · subst hj
    simp only [if_true, true_and]
    by_cases hq : q = m
    · subst hq; simp [List.getD, hm]
    · rw [if_neg hq]; simp [List.getD, List.getElem?_set_ne (fun h => hq h.symm)]
  · simp [hj]

theorem len_set {j : ι} {m : Nat} {v : Bool} : (setX X i m v j).length = (X j).length := by
  unfold setX
  by_cases hj : j = i
  · subst hj; simp
  · simp [hj]
end

end Go.Proofs.Ytinmafbaapoloaa

/- Plain: the states of a grammar (F1), as sets of items in the order in which they are found; what lists of items stand for them. -/
namespace Go.Proofs.Ytinmafbaapoloaa
open Classical

abbrev SetI := It → Prop
/-- The symbol with the number x is the next one of an item. -/
def nextIs (T : Nat) (R : List Ru) (i : It) (x : Nat) : Prop := ∃ s, (rightF R i.1)[i.2]? = some s ∧ numF T s = (x : Int)
def kernS (T : Nat) (R : List Ru) (S : SetI) (x : Nat) : SetI := fun j => ∃ i, S i ∧ nextIs T R i x ∧ j = (i.1, i.2 + 1)
def gotoS (T : Nat) (R : List Ru) (S : SetI) (x : Nat) : SetI := Cl R (kernS T R S x)
def noS : SetI := fun _ => False

/-- From the state k by the symbol x: the state's number (-1: none), and the states, one more if it was not there. -/
noncomputable def visit (T : Nat) (R : List Ru) (L : List SetI) (k x : Nat) : Int × List SetI :=
  if ∃ i, L.getD k noS i ∧ nextIs T R i x then
    if h : ∃ n, n < L.length ∧ L.getD n noS = gotoS T R (L.getD k noS) x then (((Classical.choose h : Nat) : Int), L) else ((L.length : Int), L ++ [gotoS T R (L.getD k noS) x])
  else (-1, L)
noncomputable def rowS (T : Nat) (R : List Ru) (k x : Nat) (p : List Int × List SetI) : List Int × List SetI := (p.1 ++ [(visit T R p.2 k x).1], (visit T R p.2 k x).2)
/-- The state k by so many symbols. -/
noncomputable def rowN (T : Nat) (R : List Ru) (k x : Nat) (L : List SetI) : List Int × List SetI := loopN x (rowS T R k) ([], L)
noncomputable def allS (T N : Nat) (R : List Ru) (k : Nat) (p : List (List Int) × List SetI) : List (List Int) × List SetI := (p.1 ++ [(rowN T R k (T + N) p.2).1], (rowN T R k (T + N) p.2).2)
/-- So many states done. -/
noncomputable def allN (T N : Nat) (R : List Ru) (k : Nat) : List (List Int) × List SetI := loopN k (allS T N R) ([], [Cl R fun i => i = (R.length, 0)])

/-- No two states are one. -/
def Dist (L : List SetI) : Prop := ∀ i j, i < L.length → j < L.length → L.getD i noS = L.getD j noS → i = j

section
variable {T N : Nat} {R : List Ru} {L : List SetI} {k x : Nat}

theorem visit_none (h : ¬ ∃ i, L.getD k noS i ∧ nextIs T R i x) : visit T R L k x = (-1, L) := by unfold visit; rw [if_neg h]
theorem visit_old (hd : Dist L) (h : ∃ i, L.getD k noS i ∧ nextIs T R i x) {n : Nat} (hn : n < L.length) (he : L.getD n noS = gotoS T R (L.getD k noS) x) : visit T R L k x = ((n : Int), L) := by
  unfold visit
  have h2 : ∃ n, n < L.length ∧ L.getD n noS = gotoS T R (L.getD k noS) x := ⟨n, hn, he⟩
  rw [if_pos h, dif_pos h2]
  have := Classical.choose_spec h2
  have e := hd _ _ this.1 hn (this.2.trans he.symm)
  rw [e]
theorem visit_new (h : ∃ i, L.getD k noS i ∧ nextIs T R i x) (hno : ∀ n, n < L.length → L.getD n noS ≠ gotoS T R (L.getD k noS) x) : visit T R L k x = ((L.length : Int), L ++ [gotoS T R (L.getD k noS) x]) := by
  unfold visit
  rw [if_pos h, dif_neg (fun ⟨n, hn, he⟩ => hno n hn he)]

theorem visit_len : L.length ≤ (visit T R L k x).2.length := by
  unfold visit
  split
  · split
    · exact Nat.le_refl _
    · simp
  · exact Nat.le_refl _
end

/-- Lists of items that stand for sets. -/
structure RepI (O : List It) (S : SetI) : Prop where
  nod : O.Nodup
  mem : ∀ i, i ∈ O ↔ S i

theorem RepI.eq {O : List It} {S S' : SetI} (h : RepI O S) (h' : RepI O S') : S = S' := funext fun i => propext ((h.mem i).symm.trans (h'.mem i))
theorem alike_sets {A B : List It} {S S' : SetI} (h : RepI A S) (h' : RepI B S') : alikeF A B = true ↔ S = S' := by
  rw [alikeF_iff h.nod]
  constructor
  · rintro ⟨_, h2⟩
    exact funext fun i => propext ((h.mem i).symm.trans ((h2 i).trans (h'.mem i)))
  · rintro rfl
    have hm : ∀ i, i ∈ A ↔ i ∈ B := fun i => (h.mem i).trans (h'.mem i).symm
    exact ⟨Nat.le_antisymm (nodup_sub_length h.nod fun i hi => (hm i).1 hi) (nodup_sub_length h'.nod fun i hi => (hm i).2 hi), hm⟩

/-- What is read on: of the items below j. -/
noncomputable def kernL (T : Nat) (R : List Ru) (O : List It) (x j : Nat) : List It := ((O.take j).filter fun i => decide (nextIs T R i x)).map fun i => (i.1, i.2 + 1)

theorem kernL_nodup {T : Nat} {R : List Ru} {O : List It} {x j : Nat} (h : O.Nodup) : (kernL T R O x j).Nodup := by
  unfold kernL
  have h1 : ((O.take j).filter fun i => decide (nextIs T R i x)).Nodup := (h.sublist (List.take_sublist _ _)).sublist List.filter_sublist
  generalize ((O.take j).filter fun i => decide (nextIs T R i x)) = A at h1
  induction A with
  | nil => simp
  | cons a A ih =>
    rw [List.nodup_cons] at h1
    rw [List.map_cons, List.nodup_cons]
    refine ⟨fun hm => ?_, ih h1.2⟩
    obtain ⟨b, hb, e⟩ := List.mem_map.1 hm
    simp only [Prod.mk.injEq, Nat.add_right_cancel_iff] at e
    exact h1.1 (by rw [show a = b from Prod.ext e.1.symm e.2.symm]; exact hb)

theorem kernL_mem {T : Nat} {R : List Ru} {O : List It} {x : Nat} {S : SetI} (h : RepI O S) : ∀ i, i ∈ kernL T R O x O.length ↔ kernS T R S x i := fun i => by
  unfold kernL kernS
  rw [List.take_length]
  constructor
  · intro hi
    obtain ⟨b, hb, rfl⟩ := List.mem_map.1 hi
    rw [List.mem_filter] at hb
    exact ⟨b, (h.mem b).1 hb.1, by simpa using hb.2, rfl⟩
  · rintro ⟨b, h1, h2, rfl⟩
    exact List.mem_map.2 ⟨b, List.mem_filter.2 ⟨(h.mem b).2 h1, by simpa using h2⟩, rfl⟩

theorem kernL_step {T : Nat} {R : List Ru} {O : List It} {x j : Nat} (hj : j < O.length) : kernL T R O x (j + 1) = kernL T R O x j ++ (if nextIs T R (O.getD j (0, 0)) x then [((O.getD j (0, 0)).1, (O.getD j (0, 0)).2 + 1)] else []) := by
  unfold kernL
  have e : O.getD j (0, 0) = O[j] := by simp [List.getD, hj]
  rw [List.take_succ_eq_append_getElem hj, List.filter_append, List.map_append, e]
  congr 1
  by_cases h : nextIs T R O[j] x
  · simp [h]
  · simp [h]

theorem kernL_nil {T : Nat} {R : List Ru} {O : List It} {x : Nat} {S : SetI} (h : RepI O S) : kernL T R O x O.length = [] ↔ ¬ ∃ i, S i ∧ nextIs T R i x := by
  constructor
  · rintro e ⟨i, h1, h2⟩
    have : (i.1, i.2 + 1) ∈ kernL T R O x O.length := (kernL_mem h _).2 ⟨i, h1, h2, rfl⟩
    rw [e] at this
    cases this
  · intro hn
    refine List.eq_nil_iff_forall_not_mem.2 fun i hi => ?_
    obtain ⟨b, h1, h2, _⟩ := (kernL_mem h i).1 hi
    exact hn ⟨b, h1, h2⟩

/-- Closing what is read on is the next state. -/
theorem rep_goto {T : Nat} {R : List Ru} {O C : List It} {x : Nat} {S : SetI} (h : RepI O S) (hn : C.Nodup) (hC : ∀ i, i ∈ C ↔ Cl R (· ∈ kernL T R O x O.length) i) : RepI C (gotoS T R S x) := by
  refine ⟨hn, fun i => (hC i).trans ?_⟩
  have e : (fun i => i ∈ kernL T R O x O.length) = kernS T R S x := funext fun i => propext (kernL_mem h i)
  unfold gotoS
  rw [← e]

/-! ### Items are small -/

/-- A rule's number, and no more read than there is. -/
def OkIt (R : List Ru) (i : It) : Prop := i.1 ≤ R.length ∧ i.2 ≤ (rightF R i.1).length
def allIt (R : List Ru) : List It := (List.range (R.length + 1)).flatMap fun r => (List.range ((rightF R r).length + 1)).map fun d => (r, d)

theorem okIt_mem {R : List Ru} {i : It} (h : OkIt R i) : i ∈ allIt R := by
  unfold allIt
  rw [List.mem_flatMap]
  exact ⟨i.1, List.mem_range.2 (by have := h.1; omega), List.mem_map.2 ⟨i.2, List.mem_range.2 (by have := h.2; omega), rfl⟩⟩

theorem allIt_len {R : List Ru} (h8 : ∀ r, r ≤ R.length → (rightF R r).length ≤ 8) : (allIt R).length ≤ (R.length + 1) * 9 := by
  unfold allIt
  have : ∀ n, n ≤ R.length + 1 → ((List.range n).flatMap fun r => (List.range ((rightF R r).length + 1)).map fun d => ((r, d) : It)).length ≤ n * 9 := by
    intro n
    induction n with
    | zero => simp
    | succ n ih =>
      intro hn
      rw [List.range_succ, List.flatMap_append, List.length_append]
      have h1 := ih (by omega)
      have h2 := h8 n (by omega)
      simp only [List.flatMap_cons, List.flatMap_nil, List.append_nil, List.length_map, List.length_range]
      omega
  exact this _ (Nat.le_refl _)

theorem ok_len {R : List Ru} (h8 : ∀ r, r ≤ R.length → (rightF R r).length ≤ 8) {O : List It} (hn : O.Nodup) (ho : ∀ i ∈ O, OkIt R i) : O.length ≤ (R.length + 1) * 9 :=
  Nat.le_trans (nodup_sub_length hn fun i hi => okIt_mem (ho i hi)) (allIt_len h8)

theorem cl_ok {R : List Ru} {S : SetI} (hS : ∀ i, S i → OkIt R i) {i : It} (h : Cl R S i) : OkIt R i := by
  induction h with
  | base hb => exact hS _ hb
  | step _ _ h2 _ _ => exact ⟨Nat.le_of_lt h2, Nat.zero_le _⟩

theorem kern_ok {T : Nat} {R : List Ru} {S : SetI} {x : Nat} (hS : ∀ i, S i → OkIt R i) : ∀ i, kernS T R S x i → OkIt R i := by
  rintro i ⟨b, h1, ⟨s, h2, _⟩, rfl⟩
  have := (List.getElem?_eq_some_iff.1 h2).1
  exact ⟨(hS b h1).1, by simp only; omega⟩

end Go.Proofs.Ytinmafbaapoloaa

/- Plain: the lists of items that stand for the states while these are found (F1). -/
namespace Go.Proofs.Ytinmafbaapoloaa
open Classical

/-- Lists of items stand for states, of which no two are one. -/
structure SOk (R : List Ru) (OL : List (List It)) (Ls : List SetI) : Prop where
  len : OL.length = Ls.length
  rep : ∀ i, i < OL.length → RepI (OL.getD i []) (Ls.getD i noS)
  dist : Dist Ls
  ok : ∀ i, i < OL.length → ∀ t ∈ OL.getD i [], OkIt R t
  ne : ∀ i, i < OL.length → OL.getD i [] ≠ []
  head : 0 < OL.length → (OL.getD 0 []).getD 0 (0, 0) = (R.length, 0)

section
variable {T N : Nat} {R : List Ru} {OL : List (List It)} {Ls : List SetI} {k x : Nat}

theorem getD_app {α : Type} {L : List α} {y d : α} {i : Nat} (hi : i < L.length) : (L ++ [y]).getD i d = L.getD i d := by simp [List.getD, List.getElem?_append_left hi]
theorem getD_app_last {α : Type} {L : List α} {y d : α} {i : Nat} (hi : i = L.length) : (L ++ [y]).getD i d = y := by subst hi; simp [List.getD]

theorem SOk.push (h : SOk R OL Ls) {C : List It} {S : SetI} (hC : RepI C S) (hno : ∀ n, n < Ls.length → Ls.getD n noS ≠ S) (hok : ∀ t ∈ C, OkIt R t) (hne : C ≠ []) (hh : OL = [] → C.getD 0 (0, 0) = (R.length, 0)) : SOk R (OL ++ [C]) (Ls ++ [S]) := by
  have hl := h.len
  have cas : ∀ i, i < (OL ++ [C]).length → (i < OL.length ∧ (OL ++ [C]).getD i [] = OL.getD i [] ∧ (Ls ++ [S]).getD i noS = Ls.getD i noS) ∨ (i = OL.length ∧ (OL ++ [C]).getD i [] = C ∧ (Ls ++ [S]).getD i noS = S) := fun i hi => by
    simp only [List.length_append, List.length_cons, List.length_nil] at hi
    rcases Nat.lt_succ_iff_lt_or_eq.1 hi with hi | hi
    · exact .inl ⟨hi, getD_app hi, getD_app (by omega)⟩
    · exact .inr ⟨hi, getD_app_last hi, getD_app_last (by omega)⟩
  refine ⟨by simp [hl], fun i hi => ?_, fun i j hi hj e => ?_, fun i hi => ?_, fun i hi => ?_, fun _ => ?_⟩
  · rcases cas i hi with ⟨h1, h2, h3⟩ | ⟨h1, h2, h3⟩
    · rw [h2, h3]; exact h.rep i h1
    · rw [h2, h3]; exact hC
  · have hi' : i < (OL ++ [C]).length := by simp only [List.length_append, List.length_cons, List.length_nil] at hi ⊢; omega
    have hj' : j < (OL ++ [C]).length := by simp only [List.length_append, List.length_cons, List.length_nil] at hj ⊢; omega
    rcases cas i hi' with ⟨h1, _, h3⟩ | ⟨h1, _, h3⟩ <;> rcases cas j hj' with ⟨k1, _, k3⟩ | ⟨k1, _, k3⟩
    · rw [h3, k3] at e; exact h.dist i j (by omega) (by omega) e
    · rw [h3, k3] at e; exact absurd e (hno i (by omega))
    · rw [h3, k3] at e; exact absurd e.symm (hno j (by omega))
    · omega
  · rcases cas i hi with ⟨h1, h2, _⟩ | ⟨_, h2, _⟩
    · rw [h2]; exact h.ok i h1
    · rw [h2]; exact hok
  · rcases cas i hi with ⟨h1, h2, _⟩ | ⟨_, h2, _⟩
    · rw [h2]; exact h.ne i h1
    · rw [h2]; exact hne
  · cases hO : OL with
    | nil => exact hh hO
    | cons o l =>
      have := h.head (by rw [hO]; simp)
      rw [hO] at this
      exact this

/-- The state 0. -/
theorem sok_start {C : List It} (hn : C.Nodup) (hC : ∀ i, i ∈ C ↔ Cl R (fun i => i = (R.length, 0)) i) (hh : C.getD 0 (0, 0) = (R.length, 0)) : SOk R [C] [Cl R fun i => i = (R.length, 0)] := by
  have h0 : SOk R [] [] := ⟨rfl, fun i hi => absurd hi (Nat.not_lt_zero _), fun i j hi => absurd hi (Nat.not_lt_zero _), fun i hi => absurd hi (Nat.not_lt_zero _), fun i hi => absurd hi (Nat.not_lt_zero _), fun h => absurd h (Nat.not_lt_zero _)⟩
  have hbase : (R.length, 0) ∈ C := (hC _).2 (.base rfl)
  exact h0.push (C := C) ⟨hn, hC⟩ (fun n hn => absurd hn (Nat.not_lt_zero _)) (fun t ht => cl_ok (S := fun i => i = (R.length, 0)) (fun i hi => by rw [hi]; exact ⟨Nat.le_refl _, Nat.zero_le _⟩) ((hC t).1 ht)) (List.ne_nil_of_mem hbase) (fun _ => hh)

/-- What was looked for among the states below n: the row's cell. -/
def Found (OL : List (List It)) (C : List It) (n : Nat) (z : Int) : Prop :=
  (z = -1 ∧ ∀ i, i < n → alikeF (OL.getD i []) C = false) ∨ ∃ i : Nat, i < n ∧ z = i ∧ alikeF (OL.getD i []) C = true

theorem found_start (OL : List (List It)) (C : List It) : Found OL C 0 (-1) := .inl ⟨rfl, fun _ hi => absurd hi (Nat.not_lt_zero _)⟩
theorem Found.hit {C : List It} {n : Nat} (ha : alikeF (OL.getD n []) C = true) : Found OL C (n + 1) n := .inr ⟨n, Nat.lt_succ_self _, rfl, ha⟩
theorem Found.miss {C : List It} {n : Nat} {z : Int} (h : Found OL C n z) (ha : alikeF (OL.getD n []) C = false) : Found OL C (n + 1) z := by
  rcases h with ⟨rfl, h⟩ | ⟨i, h1, h2, h3⟩
  · refine .inl ⟨rfl, fun i hi => ?_⟩
    rcases Nat.lt_succ_iff_lt_or_eq.1 hi with hi | rfl
    · exact h i hi
    · exact ha
  · exact .inr ⟨i, by omega, h2, h3⟩
theorem Found.range {C : List It} {n : Nat} {z : Int} (h : Found OL C n z) : -1 ≤ z ∧ z < n := by
  rcases h with ⟨rfl, _⟩ | ⟨i, h1, rfl, _⟩ <;> omega

/-- Nothing is read on. -/
theorem visit_nothing (h : SOk R OL Ls) (hk : k < OL.length) (he : kernL T R (OL.getD k []) x (OL.getD k []).length = []) : visit T R Ls k x = (-1, Ls) :=
  visit_none ((kernL_nil (h.rep k hk)).1 he)

/-- A state that was there. -/
theorem visit_there (h : SOk R OL Ls) (hk : k < OL.length) (hne : kernL T R (OL.getD k []) x (OL.getD k []).length ≠ []) {C : List It} (hn : C.Nodup) (hC : ∀ i, i ∈ C ↔ Cl R (· ∈ kernL T R (OL.getD k []) x (OL.getD k []).length) i)
    {z : Int} (hf : Found OL C OL.length z) (hz : 0 ≤ z) : visit T R Ls k x = (z, Ls) := by
  have hrep := rep_goto (h.rep k hk) hn hC
  rcases hf with ⟨rfl, _⟩ | ⟨i, h1, rfl, h3⟩
  · omega
  · have hex : ∃ i, Ls.getD k noS i ∧ nextIs T R i x := Classical.byContradiction fun hno => hne ((kernL_nil (h.rep k hk)).2 hno)
    exact visit_old h.dist hex (by rw [← h.len]; exact h1) ((alike_sets (h.rep i h1) hrep).1 h3)

/-- A new one. -/
theorem visit_fresh (h : SOk R OL Ls) (hk : k < OL.length) (hne : kernL T R (OL.getD k []) x (OL.getD k []).length ≠ []) {C : List It} (hn : C.Nodup) (hC : ∀ i, i ∈ C ↔ Cl R (· ∈ kernL T R (OL.getD k []) x (OL.getD k []).length) i)
    {z : Int} (hf : Found OL C OL.length z) (hz : z < 0) : visit T R Ls k x = ((OL.length : Int), Ls ++ [gotoS T R (Ls.getD k noS) x]) ∧ SOk R (OL ++ [C]) (Ls ++ [gotoS T R (Ls.getD k noS) x]) := by
  have hrep := rep_goto (h.rep k hk) hn hC
  have hno : ∀ n, n < Ls.length → Ls.getD n noS ≠ gotoS T R (Ls.getD k noS) x := fun n hnl e => by
    rcases hf with ⟨_, h2⟩ | ⟨i, _, rfl, _⟩
    · have h3 := h2 n (by rw [h.len]; exact hnl)
      rw [(alike_sets (h.rep n (by rw [h.len]; exact hnl)) hrep).2 e] at h3
      cases h3
    · omega
  have hex : ∃ i, Ls.getD k noS i ∧ nextIs T R i x := Classical.byContradiction fun h0 => hne ((kernL_nil (h.rep k hk)).2 h0)
  have hokK : ∀ i, kernS T R (Ls.getD k noS) x i → OkIt R i := kern_ok fun i hi => h.ok k hk i (((h.rep k hk).mem i).2 hi)
  refine ⟨by rw [visit_new hex hno, h.len], h.push hrep hno (fun t ht => cl_ok hokK ((hrep.mem t).1 ht)) ?_ (fun e => absurd hk (by rw [e]; exact Nat.not_lt_zero _))⟩
  obtain ⟨i, hi1, hi2⟩ := hex
  exact List.ne_nil_of_mem ((hrep.mem (i.1, i.2 + 1)).2 (.base ⟨i, hi1, hi2, rfl⟩))

/-- What is read on is in the grammar, and no more than the state has. -/
theorem kernL_ok (h : SOk R OL Ls) (hk : k < OL.length) {j : Nat} : ∀ i ∈ kernL T R (OL.getD k []) x j, OkIt R i := fun i hi => by
  unfold kernL at hi
  obtain ⟨b, hb, rfl⟩ := List.mem_map.1 hi
  rw [List.mem_filter] at hb
  have hbo := h.ok k hk b (List.mem_of_mem_take hb.1)
  obtain ⟨s, h2, _⟩ : nextIs T R b x := by simpa using hb.2
  have := (List.getElem?_eq_some_iff.1 h2).1
  exact ⟨hbo.1, by simp only; omega⟩
theorem kernL_len {O : List It} {j : Nat} : (kernL T R O x j).length ≤ O.length := by
  unfold kernL
  rw [List.length_map]
  refine Nat.le_trans (List.length_filter_le _ _) ?_
  rw [List.length_take]
  omega

theorem kernL_yes {O : List It} {j r d : Nat} (hj : j < O.length) (he : O.getD j (0, 0) = (r, d)) (h : nextIs T R (r, d) x) : kernL T R O x (j + 1) = kernL T R O x j ++ [(r, d + 1)] := by
  rw [kernL_step hj, he, if_pos h]
theorem kernL_no {O : List It} {j r d : Nat} (hj : j < O.length) (he : O.getD j (0, 0) = (r, d)) (h : ¬ nextIs T R (r, d) x) : kernL T R O x (j + 1) = kernL T R O x j := by
  rw [kernL_step hj, he, if_neg h, List.append_nil]
theorem getD_in {α : Type} {L : List α} {j : Nat} {d : α} (h : j < L.length) : L.getD j d ∈ L := by simp [List.getD, h]

/-! ### What is there stays there -/

theorem visit_pre (L : List SetI) (k x : Nat) : ∃ E, (visit T R L k x).2 = L ++ E := by
  unfold visit
  split
  · split
    · exact ⟨[], by simp⟩
    · exact ⟨_, rfl⟩
  · exact ⟨[], by simp⟩
theorem row_len (k x : Nat) (L : List SetI) : (rowN T R k x L).1.length = x := by
  induction x with
  | zero => rfl
  | succ x ih =>
    have e : rowN T R k (x + 1) L = rowS T R k x (rowN T R k x L) := rfl
    rw [e, rowS]
    simp [ih]
theorem row_pre (k x : Nat) (L : List SetI) : ∃ E, (rowN T R k x L).2 = L ++ E := by
  induction x with
  | zero => exact ⟨[], by simp [rowN, loopN]⟩
  | succ x ih =>
    obtain ⟨E, hE⟩ := ih
    have e : rowN T R k (x + 1) L = rowS T R k x (rowN T R k x L) := rfl
    obtain ⟨F, hF⟩ := visit_pre (T := T) (R := R) (rowN T R k x L).2 k x
    exact ⟨E ++ F, by rw [e, rowS]; simp only; rw [hF, hE, List.append_assoc]⟩
theorem row_le {k x y : Nat} {L : List SetI} (h : x ≤ y) : (rowN T R k x L).2.length ≤ (rowN T R k y L).2.length := by
  induction h with
  | refl => exact Nat.le_refl _
  | step _ ih =>
    rename_i m _
    have e : rowN T R k (m + 1) L = rowS T R k m (rowN T R k m L) := rfl
    rw [e, rowS]
    exact Nat.le_trans ih visit_len
theorem all_len (k : Nat) : (allN T N R k).1.length = k := by
  induction k with
  | zero => rfl
  | succ k ih =>
    have e : allN T N R (k + 1) = allS T N R k (allN T N R k) := rfl
    rw [e, allS]
    simp [ih]
theorem all_le {j k : Nat} (h : j ≤ k) : (allN T N R j).2.length ≤ (allN T N R k).2.length := by
  induction h with
  | refl => exact Nat.le_refl _
  | step _ ih =>
    rename_i m _
    have e : allN T N R (m + 1) = allS T N R m (allN T N R m) := rfl
    obtain ⟨E, hE⟩ := row_pre (T := T) (R := R) m (T + N) (allN T N R m).2
    rw [e, allS]
    simp only
    rw [hE, List.length_append]
    omega

/-- There are just so many states. -/
def Whole (T N : Nat) (R : List Ru) (K : Nat) : Prop := (allN T N R K).2.length = K
/-- There are more than so many. -/
def More (T N : Nat) (R : List Ru) (m : Nat) : Prop := ∃ k x, k < (allN T N R k).2.length ∧ x ≤ T + N ∧ m < (rowN T R k x (allN T N R k).2).2.length

theorem whole_or {K m : Nat} (h : Whole T N R K) (hK : K ≤ m) : ¬ More T N R m := by
  rintro ⟨k, x, h1, h2, h3⟩
  by_cases hk : k < K
  · have e : allN T N R (k + 1) = allS T N R k (allN T N R k) := rfl
    have l1 := row_le (T := T) (R := R) (k := k) (L := (allN T N R k).2) h2
    have l2 : (rowN T R k (T + N) (allN T N R k).2).2.length = (allN T N R (k + 1)).2.length := by rw [e, allS]
    have l3 := all_le (T := T) (N := N) (R := R) (show k + 1 ≤ K by omega)
    unfold Whole at h
    omega
  · -- beyond the last state nothing is there to go on
    have hfix : ∀ j, K ≤ j → (allN T N R j).2.length = K := by
      intro j hj
      induction hj with
      | refl => exact h
      | step hj ih =>
        rename_i j
        have e : allN T N R (j + 1) = allS T N R j (allN T N R j) := rfl
        have hno : ∀ y L, L.length = K → (rowN T R j y L).2 = L := by
          intro y L hL
          induction y with
          | zero => rfl
          | succ y ihy =>
            have e2 : rowN T R j (y + 1) L = rowS T R j y (rowN T R j y L) := rfl
            rw [e2, rowS]
            simp only
            rw [ihy, visit_none]
            rintro ⟨i, hi, _⟩
            rw [List.getD, List.getElem?_eq_none (by have hj' : K ≤ j := hj; omega)] at hi
            exact hi
        rw [e, allS]
        simp only
        rw [hno _ _ ih]
        exact ih
    have := hfix k (by omega)
    omega
end

end Go.Proofs.Ytinmafbaapoloaa
