/- A row of truths that a call has made; tables of such rows. No walk. -/
import Derived.Test.YthmdlaappenjgaaMayFine
namespace Go.Proofs.Ythmdlaappenjgaa
open Go.RowKit

theorem Try.infoBool : (Try.prog.info? 4).map (fun i => (i.zero, i.size, i.bytes)) = some (some (.bool false), 1, 1) := by kernel_rfl

theorem make_bools (n : Nat) (hn : n ≤ 1000000) (u : World) : (Instr.makeSlice 37 (.int .i64 n) (.int .i64 n)).run Try.prog u = .ok (.slice (some ⟨u.heap.size, 0, none⟩) n n) (u.alloc (.cells (madeCells #[.bool false] n) 4)) := by
  obtain ⟨i0, hi, hz0, hz1, hz2⟩ := info_parts Try.infoBool
  have h := run_make (P := Try.prog) u 37 4 i0 (.bool false) Try.underlying37 hi hz0 .i64 .i64 n n (by omega) (Int.le_refl _) (by rw [hz2]; omega) (by omega)
  simpa [hz1, Value.cells] using h

/-- A row of N truths of the call's own, at block g. -/
def RowB (w : World) (B g N : Nat) (X : List Bool) : Prop := w.ownsRow B 4 1 (.slice (some ⟨g, 0, none⟩) N N) N (X.map Value.bool)

section
variable {w : World} {B g N : Nat} {X : List Bool}
theorem RowB.len (h : RowB w B g N X) : X.length = N := by
  have : (X.map Value.bool).length = N * 1 := h.1
  simpa using this
theorem RowB.cell (h : RowB w B g N X) {m : Nat} (hm : m < N) : w.cell? ⟨g, m, none⟩ = some (.bool (X.getD m false)) ∧ w.frozen? ⟨g, m, none⟩ = false := by
  have hl := h.len
  refine ⟨?_, World.ownsRow.frozenAt h m⟩
  rw [World.ownsRow.cellAt h m (by omega)]
  simp [List.getD, show m < X.length by omega]
theorem RowB.set (h : RowB w B g N X) (m : Nat) (v : Bool) : RowB (w.setCell ⟨g, m, none⟩ (.bool v)) B g N (X.set m v) := by
  have := (World.ownsRow.stored h m (.bool v)).1
  unfold RowB
  rwa [List.map_set]
theorem RowB.ge (h : RowB w B g N X) : N ≠ 0 → B ≤ g := fun hN => by
  obtain ⟨g', c, e, h1, _⟩ := World.ownsRow.form h (by omega)
  cases e
  exact h1
end

theorem row_made (w : World) {N : Nat} (hN : N ≤ maxLen) : RowB (w.alloc (.cells (madeCells #[.bool false] N) 4)) w.heap.size w.heap.size N (List.replicate N false) := by
  have := World.ownsRow_lit (base := w.heap.size) (e := 4) (size := 1) w (madeCells #[.bool false] N) N (Nat.le_refl _) hN (by simp [size_madeCells])
  rw [toList_madeCells_one] at this
  unfold RowB
  simpa using this

theorem RowB.below {w w' : World} {B g N : Nat} {X : List Bool} (h : RowB w B g N X) (hb : Below w.heap.size w w') : RowB w' B g N X := own_below h hb fun k hk => (World.ownsRow.lt h k hk).2
theorem RowB.mono {w : World} {B B' g N : Nat} {X : List Bool} (h : RowB w B g N X) (hB : B' ≤ B) : RowB w B' g N X := own_mono h hB

theorem row_made_set (w : World) {N : Nat} (hN : N ≤ maxLen) (m : Nat) (x : Bool) : RowB (w.alloc (.cells ((madeCells #[.bool false] N).setIfInBounds m (.bool x)) 4)) w.heap.size w.heap.size N ((List.replicate N false).set m x) := by
  have := World.ownsRow_lit (base := w.heap.size) (e := 4) (size := 1) w ((madeCells #[.bool false] N).setIfInBounds m (.bool x)) N (Nat.le_refl _) hN (by simp [size_madeCells])
  rw [Array.toList_setIfInBounds, toList_madeCells_one] at this
  unfold RowB
  rw [List.map_set]
  simpa using this

section
variable {ι : Type} {w w' : World} {B : Nat} {c c' : Tab ι} {X X' : ι → List Bool}

end

end Go.Proofs.Ythmdlaappenjgaa
