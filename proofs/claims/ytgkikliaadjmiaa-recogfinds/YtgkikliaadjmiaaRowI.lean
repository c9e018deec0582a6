/- A row of numbers that a call has made. No walk. -/
import Derived.Test.YtgkikliaadjmiaaMayFine
namespace Go.Proofs.Ytgkikliaadjmiaa
open Go.RowKit

theorem Try.infoInt : (Try.prog.info? 3).map (fun i => (i.zero, i.size, i.bytes)) = some (some (.int .i64 0), 1, 8) := by kernel_rfl

/-- A row of N numbers of the call's own, at block g. -/
def RowI (w : World) (B g N : Nat) (O : List Int) : Prop := w.ownsRow B 3 1 (.slice (some ⟨g, 0, none⟩) N N) N (O.map (Value.int .i64))

section
variable {w w' : World} {B g N : Nat} {O : List Int}
theorem RowI.len (h : RowI w B g N O) : O.length = N := by
  have : (O.map (Value.int .i64)).length = N * 1 := h.1
  simpa using this
theorem RowI.cell (h : RowI w B g N O) {m : Nat} (hm : m < N) : w.cell? ⟨g, m, none⟩ = some (.int .i64 (O.getD m 0)) ∧ w.frozen? ⟨g, m, none⟩ = false := by
  have hl := h.len
  refine ⟨?_, World.ownsRow.frozenAt h m⟩
  rw [World.ownsRow.cellAt h m (by omega)]
  simp [List.getD, show m < O.length by omega]
theorem RowI.set (h : RowI w B g N O) (m : Nat) (v : Int) : RowI (w.setCell ⟨g, m, none⟩ (.int .i64 v)) B g N (O.set m v) := by
  have := (World.ownsRow.stored h m (.int .i64 v)).1
  unfold RowI
  rwa [List.map_set]
theorem RowI.below (h : RowI w B g N O) (hb : Below w.heap.size w w') : RowI w' B g N O := own_below h hb fun k hk => (World.ownsRow.lt h k hk).2
theorem RowI.mono {B' : Nat} (h : RowI w B g N O) (hB : B' ≤ B) : RowI w B' g N O := own_mono h hB
theorem RowI.list (h : RowI w B g N O) : ListAt w w.heap.size (.slice (some ⟨g, 0, none⟩) N N) O := by
  have hl := h.len
  refine ⟨⟨_, _, by rw [hl]⟩, fun i hi => ⟨g, 0, N, by rw [hl], ?_, ?_⟩⟩
  · exact World.block_lt_of_cell? w _ (h.cell (m := i) (by omega)).1
  · rw [Nat.zero_add]
    exact (h.cell (by omega)).1
end

end Go.Proofs.Ytgkikliaadjmiaa
