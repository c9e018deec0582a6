/- A row of numbers that a call has made. No walk. -/
import Derived.Test.YtolkfmddghkkeaaMayFine
namespace Go.Proofs.Ytolkfmddghkkeaa
open Go.RowKit

theorem Try.infoInt : (Try.prog.info? 3).map (fun i => (i.zero, i.size, i.bytes)) = some (some (.int .i64 0), 1, 8) := by kernel_rfl

theorem make_ints (n : Nat) (hn : n ≤ 1000000) (u : World) : (Instr.makeSlice 25 (.int .i64 n) (.int .i64 n)).run Try.prog u = .ok (.slice (some ⟨u.heap.size, 0, none⟩) n n) (u.alloc (.cells (madeCells #[.int .i64 0] n) 3)) := by
  obtain ⟨i0, hi, hz0, hz1, hz2⟩ := info_parts Try.infoInt
  have h := run_make (P := Try.prog) u 25 3 i0 (.int .i64 0) Try.underlying25 hi hz0 .i64 .i64 n n (by omega) (Int.le_refl _) (by rw [hz2]; omega) (by omega)
  simpa [hz1, Value.cells] using h

/-- A row of N numbers of the call's own, at block g. -/
def RowI (w : World) (B g N : Nat) (O : List Int) : Prop := w.ownsRow B 3 1 (.slice (some ⟨g, 0, none⟩) N N) N (O.map (Value.int .i64))

section
variable {w w' : World} {B g N : Nat} {O : List Int}
theorem RowI.len (h : RowI w B g N O) : O.length = N := by
  have : (O.map (Value.int .i64)).length = N * 1 := h.1
  simpa using this
theorem RowI.cell (h : RowI w B g N O) {m : Nat} (hm : m < N) : w.cell? ⟨g, m, none⟩ = some (.int .i64 (O.getD m 0)) ∧ w.frozen? ⟨g, m, none⟩ = false := by
  have hl := h.len
  refine ⟨?_, World.ownsRow.frozenAt h m⟩
  rw [World.ownsRow.cellAt h m (by omega)]
  simp [List.getD, show m < O.length by omega]
theorem RowI.set (h : RowI w B g N O) (m : Nat) (v : Int) : RowI (w.setCell ⟨g, m, none⟩ (.int .i64 v)) B g N (O.set m v) := by
  have := (World.ownsRow.stored h m (.int .i64 v)).1
  unfold RowI
  rwa [List.map_set]
theorem RowI.below (h : RowI w B g N O) (hb : Below w.heap.size w w') : RowI w' B g N O := own_below h hb fun k hk => (World.ownsRow.lt h k hk).2
theorem RowI.mono {B' : Nat} (h : RowI w B g N O) (hB : B' ≤ B) : RowI w B' g N O := own_mono h hB
theorem RowI.list (h : RowI w B g N O) : ListAt w w.heap.size (.slice (some ⟨g, 0, none⟩) N N) O := by
  have hl := h.len
  refine ⟨⟨_, _, by rw [hl]⟩, fun i hi => ⟨g, 0, N, by rw [hl], ?_, ?_⟩⟩
  · exact World.block_lt_of_cell? w _ (h.cell (m := i) (by omega)).1
  · rw [Nat.zero_add]
    exact (h.cell (by omega)).1
end

theorem rowI_made (w : World) {N : Nat} (hN : N ≤ maxLen) : RowI (w.alloc (.cells (madeCells #[.int .i64 0] N) 3)) w.heap.size w.heap.size N (List.replicate N 0) := by
  have := World.ownsRow_lit (base := w.heap.size) (e := 3) (size := 1) w (madeCells #[.int .i64 0] N) N (Nat.le_refl _) hN (by simp [size_madeCells])
  rw [toList_madeCells_one] at this
  unfold RowI
  simpa using this

end Go.Proofs.Ytolkfmddghkkeaa
