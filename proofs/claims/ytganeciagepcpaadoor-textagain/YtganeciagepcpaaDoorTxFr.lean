/- What a scanner's calls leave as it was; numbers, plainly. -/
import Derived.Test.YtganeciagepcpaaDoorAt
import Derived.Lib.BufferMore
namespace Go.Proofs.YtganeciagepcpaaDoor
open Go.RowKit

def isD (c : UInt8) : Bool := decide (48 ≤ c.toNat) && decide (c.toNat ≤ 57)
/-- A number's digits, read on. -/
def numL (r : List UInt8) : Nat → Nat → Nat → Nat × Nat
  | 0, n, k => (n, k)
  | f + 1, n, k => if (decide (k < r.length) && isD (r.getD k 0) && (k == 0 || decide (0 < n))) = true then numL r f (n * 10 + ((r.getD k 0).toNat - 48)) (k + 1) else (n, k)
def numP (r : List UInt8) : Nat × Nat := numL r 4 0 0

theorem cell_bk9 {w : World} {b i : Nat} {cs : Array Value} {ty : TypeId} {f : Nat × Nat} {u : Value} (h : w.heap[b]? = some (.cells cs ty f)) (hu : cs[i]? = some u) : w.cell? ⟨b, i, none⟩ = some u := by
  unfold World.cell?
  simp [h, hu]
theorem frozen_bk9 {w : World} {b i : Nat} {cs : Array Value} {ty : TypeId} (h : w.heap[b]? = some (.cells cs ty (0, 0))) : w.frozen? ⟨b, i, none⟩ = false := by
  unfold World.frozen?
  simp [h]

/-- A scanner at a block: what is left of the line; whether it is wrong. -/
def ScanAt (w : World) (b : Nat) (r : List UInt8) (g : Bool) : Prop := w.heap[b]? = some (.cells #[.string ⟨r.toArray⟩, .bool g] 70 (0, 0))
/-- Nothing has changed of what there was, but one block. -/
structure But (b : Nat) (w w' : World) : Prop where
  os : w'.os = w.os
  tape : w'.tape = w.tape
  output : w'.output = w.output
  size : w.heap.size ≤ w'.heap.size
  block : ∀ k, k < w.heap.size → k ≠ b → w'.heap[k]? = w.heap[k]?

section
variable {b : Nat} {w w' a : World} {r : List UInt8} {g : Bool}
theorem But.refl (b : Nat) (w : World) : But b w w := ⟨rfl, rfl, rfl, Nat.le_refl _, fun _ _ _ => rfl⟩
theorem But.trans (h : But b a w) (k : But b w w') : But b a w' := ⟨k.os.trans h.os, k.tape.trans h.tape, k.output.trans h.output, Nat.le_trans h.size k.size, fun i hi hb => (k.block i (Nat.lt_of_lt_of_le hi h.size) hb).trans (h.block i hi hb)⟩
theorem But.of (b : Nat) (h : Below w.heap.size w w') : But b w w' := ⟨h.os, h.tape, h.output, h.size, fun i hi _ => h.block i hi⟩
theorem But.below (h : But b w w') {B : Nat} (hb : B ≤ b) (hB : B ≤ w.heap.size) : Below B w w' := ⟨h.os, h.tape, h.output, h.size, fun i hi => h.block i (by omega) (by omega)⟩
theorem But.set (b i : Nat) (u : Value) : But b w (w.setCell ⟨b, i, none⟩ u) := by
  have h : Below 0 w (w.setCell ⟨b, i, none⟩ u) := (Below.refl _ _).setCell (Nat.zero_le _) u
  exact ⟨h.os, h.tape, h.output, h.size, fun k _ hk => Below.heap_setCell w _ u k hk⟩
theorem ScanAt.set0 (h : ScanAt w b r g) (r' : List UInt8) : ScanAt (w.setCell ⟨b, 0, none⟩ (.string ⟨r'.toArray⟩)) b r' g := Lib.heap_setCell_same h _
theorem ScanAt.set1 (h : ScanAt w b r g) (g' : Bool) : ScanAt (w.setCell ⟨b, 1, none⟩ (.bool g')) b r g' := Lib.heap_setCell_same h _
theorem ScanAt.lt (h : ScanAt w b r g) : b < w.heap.size := (Array.getElem?_eq_some_iff.1 h).1
end
end Go.Proofs.YtganeciagepcpaaDoor
