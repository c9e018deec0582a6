/- Memory that a call has made: rows, each in a block of its own, each under an index. No program. -/
import Derived.Test.YtgkikliaadjmiaaAt
import Derived.OwnWalk
import Derived.Deep.AppendLies
namespace Go.Proofs.Ytgkikliaadjmiaa
open Go.RowKit

/-- A slice value that owns a row: n elements of type e, size cells each, the cells xs. -/
structure Row where
  v : Value
  e : TypeId
  size : Nat
  n : Nat
  xs : List Value

/-- Each row of P is owned, from block number base on, and no two lie in one block. -/
structure Owns {ι : Type} (w : World) (base : Nat) (P : ι → Option Row) : Prop where
  own : ∀ i r, P i = some r → w.ownsRow base r.e r.size r.v r.n r.xs
  apart : ∀ i j a b, i ≠ j → P i = some a → P j = some b → ∀ g, a.v.ownBlock = some g → b.v.ownBlock = some g → False

/-- The row under i is r. -/
def upd {ι : Type} [DecidableEq ι] (P : ι → Option Row) (i : ι) (r : Row) : ι → Option Row := fun j => if j = i then some r else P j

section
variable {ι : Type} {w : World} {base : Nat} {P : ι → Option Row}

theorem Owns.drewN (h : Owns w base P) (m : Nat) : Owns (w.drewN m) base P := ⟨h.own, h.apart⟩
theorem Owns.drew (h : Owns w base P) : Owns w.drew base P := ⟨h.own, h.apart⟩

theorem Owns.alloc (h : Owns w base P) (o : Obj) : Owns (w.alloc o) base P := ⟨fun i r hr => (h.own i r hr).alloc o, h.apart⟩

theorem Owns.mono (h : Owns w base P) {base' : Nat} (hb : base' ≤ base) : Owns w base' P := ⟨fun i r hr => own_mono (h.own i r hr) hb, h.apart⟩

theorem Owns.lt (h : Owns w base P) {i : ι} {r : Row} (hi : P i = some r) {g : Nat} (hg : r.v.ownBlock = some g) : base ≤ g ∧ g < w.heap.size := (h.own i r hi).lt g hg

/-- Nothing below B has turned, and all rows lie there. -/
theorem Owns.below (h : Owns w base P) {B : Nat} {w' : World} (hb : Below B w w') (hB : w.heap.size ≤ B) : Owns w' base P :=
  ⟨fun _ _ hr => own_below (h.own _ _ hr) hb fun _ hg => Nat.lt_of_lt_of_le (h.lt hr hg).2 hB, h.apart⟩

variable [DecidableEq ι]

theorem upd_cases {P : ι → Option Row} {i j : ι} {r a : Row} (h : upd P i r j = some a) : (j = i ∧ a = r) ∨ (j ≠ i ∧ P j = some a) := by
  unfold upd at h
  split at h
  · rename_i e
    exact .inl ⟨e, by simpa using h.symm⟩
  · rename_i e
    exact .inr ⟨e, h⟩

theorem Owns.put (h : Owns w base P) {i : ι} {r' : Row} {w' : World} (hown : w'.ownsRow base r'.e r'.size r'.v r'.n r'.xs)
    (hkeep : ∀ j a, j ≠ i → P j = some a → w'.ownsRow base a.e a.size a.v a.n a.xs)
    (hfresh : ∀ j a, j ≠ i → P j = some a → ∀ g, a.v.ownBlock = some g → r'.v.ownBlock = some g → False) : Owns w' base (upd P i r') := by
  refine ⟨fun j a ha => ?_, fun j k a b hjk ha hb g h1 h2 => ?_⟩
  · rcases upd_cases ha with ⟨_, rfl⟩ | ⟨hj, ha⟩
    · exact hown
    · exact hkeep j a hj ha
  · rcases upd_cases ha with ⟨hj, e1⟩ | ⟨hj, ha'⟩
    · rcases upd_cases hb with ⟨hk, _⟩ | ⟨hk, hb'⟩
      · exact hjk (by rw [hj, hk])
      · subst e1
        exact hfresh k b hk hb' g h2 h1
    · rcases upd_cases hb with ⟨hk, e1⟩ | ⟨hk, hb'⟩
      · subst e1
        exact hfresh j a hj ha' g h1 h2
      · exact h.apart j k a b hjk ha' hb' g h1 h2

/-- A new row. -/
theorem Owns.new (h : Owns w base P) (i : ι) {w' : World} {r : Row} (hg : w.grownBy w' none) (hown : w'.ownsRow base r.e r.size r.v r.n r.xs) (hv : ∀ g, r.v.ownBlock = some g → g = w.heap.size) : Owns w' base (upd P i r) := by
  refine h.put hown (fun j a _ ha => (h.own j a ha).kept hg ?_) (fun j a _ ha g h1 h2 => ?_)
  · cases a.v.ownBlock <;> simp
  · have := (h.lt ha h1).2
    have := hv g h2
    omega

/-- One row turns into another one, in its own block or in a new one. -/
theorem Owns.turn (h : Owns w base P) {i : ι} {r r' : Row} (hi : P i = some r) {w' : World} (hg : w.grownBy w' r.v.ownBlock) (hown : w'.ownsRow base r'.e r'.size r'.v r'.n r'.xs)
    (hat : ∀ g, r'.v.ownBlock = some g → r.v.ownBlock = some g ∨ g = w.heap.size) : Owns w' base (upd P i r') := by
  refine h.put hown (fun j a hj ha => (h.own j a ha).kept hg ?_) (fun j a hj ha g h1 h2 => ?_)
  · cases e : a.v.ownBlock with
    | none => exact .inl rfl
    | some g => exact .inr fun e' => h.apart j i a r hj ha hi g e e'.symm
  · rcases hat g h2 with e | e
    · exact h.apart j i a r hj ha hi g h1 e
    · have := (h.lt ha h1).2; omega

/-- A cell of a row is written. -/
theorem Owns.store (h : Owns w base P) {i : ι} {g n cap e size : Nat} {xs : List Value} (hi : P i = some ⟨.slice (some ⟨g, 0, none⟩) n cap, e, size, n, xs⟩) (j : Nat) (u : Value) :
    Owns (w.setCell ⟨g, j, none⟩ u) base (upd P i ⟨.slice (some ⟨g, 0, none⟩) n cap, e, size, n, xs.set j u⟩) := by
  obtain ⟨h1, h2⟩ := (h.own i _ hi).stored j u
  exact h.turn (r' := ⟨.slice (some ⟨g, 0, none⟩) n cap, e, size, n, xs.set j u⟩) hi h2 h1 fun g' hg' => .inl hg'

omit [DecidableEq ι] in
/-- A cell of a row is read. -/
theorem Owns.cell (h : Owns w base P) {i : ι} {g n cap e size : Nat} {xs : List Value} (hi : P i = some ⟨.slice (some ⟨g, 0, none⟩) n cap, e, size, n, xs⟩) (j : Nat) (hj : j < n * size) :
    w.cell? ⟨g, j, none⟩ = xs[j]? ∧ w.frozen? ⟨g, j, none⟩ = false :=
  ⟨(h.own i _ hi).cellAt j hj, (h.own i _ hi).frozenAt j⟩

omit [DecidableEq ι] in
/-- A row that owns something: what its value looks like. -/
theorem Owns.form (h : Owns w base P) {i : ι} {r : Row} (hi : P i = some r) (hn : 0 < r.n) : ∃ g cap, r.v = .slice (some ⟨g, 0, none⟩) r.n cap ∧ base ≤ g ∧ g < w.heap.size := (h.own i r hi).form hn

omit [DecidableEq ι] in
theorem Owns.slice (h : Owns w base P) {i : ι} {r : Row} (hi : P i = some r) : ∃ a c, r.v = .slice a r.n c := own_form (h.own i r hi)
end

end Go.Proofs.Ytgkikliaadjmiaa
