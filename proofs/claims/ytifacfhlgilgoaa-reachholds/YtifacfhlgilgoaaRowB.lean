/- A row of truths that a call has made; tables of such rows. No walk. -/
import Derived.Test.YtifacfhlgilgoaaMayFine
namespace Go.Proofs.Ytifacfhlgilgoaa
open Go.RowKit

theorem Try.infoBool : (Try.prog.info? 4).map (fun i => (i.zero, i.size, i.bytes)) = some (some (.bool false), 1, 1) := by kernel_rfl

theorem make_bools (n : Nat) (hn : n ≤ 1000000) (u : World) : (Instr.makeSlice 26 (.int .i64 n) (.int .i64 n)).run Try.prog u = .ok (.slice (some ⟨u.heap.size, 0, none⟩) n n) (u.alloc (.cells (madeCells #[.bool false] n) 4)) := by
  obtain ⟨i0, hi, hz0, hz1, hz2⟩ := info_parts Try.infoBool
  have h := run_make (P := Try.prog) u 26 4 i0 (.bool false) Try.underlying26 hi hz0 .i64 .i64 n n (by omega) (Int.le_refl _) (by rw [hz2]; omega) (by omega)
  simpa [hz1, Value.cells] using h

/-- A row of N truths of the call's own, at block g. -/
def RowB (w : World) (B g N : Nat) (X : List Bool) : Prop := w.ownsRow B 4 1 (.slice (some ⟨g, 0, none⟩) N N) N (X.map Value.bool)

section
variable {w : World} {B g N : Nat} {X : List Bool}
theorem RowB.len (h : RowB w B g N X) : X.length = N := by
  have : (X.map Value.bool).length = N * 1 := h.1
  simpa using this
theorem RowB.cell (h : RowB w B g N X) {m : Nat} (hm : m < N) : w.cell? ⟨g, m, none⟩ = some (.bool (X.getD m false)) ∧ w.frozen? ⟨g, m, none⟩ = false := by
  have hl := h.len
  refine ⟨?_, World.ownsRow.frozenAt h m⟩
  rw [World.ownsRow.cellAt h m (by omega)]
  simp [List.getD, show m < X.length by omega]
theorem RowB.set (h : RowB w B g N X) (m : Nat) (v : Bool) : RowB (w.setCell ⟨g, m, none⟩ (.bool v)) B g N (X.set m v) := by
  have := (World.ownsRow.stored h m (.bool v)).1
  unfold RowB
  rwa [List.map_set]
theorem RowB.ge (h : RowB w B g N X) : N ≠ 0 → B ≤ g := fun hN => by
  obtain ⟨g', c, e, h1, _⟩ := World.ownsRow.form h (by omega)
  cases e
  exact h1
end

theorem row_made (w : World) {N : Nat} (hN : N ≤ maxLen) : RowB (w.alloc (.cells (madeCells #[.bool false] N) 4)) w.heap.size w.heap.size N (List.replicate N false) := by
  have := World.ownsRow_lit (base := w.heap.size) (e := 4) (size := 1) w (madeCells #[.bool false] N) N (Nat.le_refl _) hN (by simp [size_madeCells])
  rw [toList_madeCells_one] at this
  unfold RowB
  simpa using this

theorem RowB.below {w w' : World} {B g N : Nat} {X : List Bool} (h : RowB w B g N X) (hb : Below w.heap.size w w') : RowB w' B g N X := own_below h hb fun k hk => (World.ownsRow.lt h k hk).2
theorem RowB.mono {w : World} {B B' g N : Nat} {X : List Bool} (h : RowB w B g N X) (hB : B' ≤ B) : RowB w B' g N X := own_mono h hB

section
variable {ι : Type} {w w' : World} {B : Nat} {c c' : Tab ι} {X X' : ι → List Bool}

theorem bt_none (w : World) (B : Nat) {c : Tab ι} {X : ι → List Bool} (h : ∀ i, c.dom i = none) : Bt w B c X :=
  ⟨fun i r hr => by simp [Tab.P, h i] at hr, fun i j a b _ ha => by simp [Tab.P, h i] at ha⟩

/-- A new row, behind all others. -/
theorem bt_add (i : ι) {n : Nat} (h : Bt w B c X) (hb : Below w.heap.size w w') (hd : c'.dom i = some n) (hrow : w'.ownsRow B 4 1 (c'.V i) n ((X' i).map Value.bool)) (hnew : ∀ g, (c'.V i).ownBlock = some g → w.heap.size ≤ g)
    (he : ∀ j, j ≠ i → ∀ m, c'.dom j = some m → c.dom j = some m ∧ c'.V j = c.V j ∧ X' j = X j) : Bt w' B c' X' := by
  have old : ∀ j r, j ≠ i → c'.P X' j = some r → c.P X j = some r := fun j r hj hr => by
    cases hm : c'.dom j with
    | none => simp [Tab.P, hm] at hr
    | some m =>
      obtain ⟨h1, h2, h3⟩ := he j hj m hm
      simp only [Tab.P, hm, h1, Option.map_some, h2, h3] at hr ⊢
      exact hr
  have new : ∀ r, c'.P X' i = some r → r = ⟨c'.V i, 4, 1, n, (X' i).map Value.bool⟩ := fun r hr => by
    rw [Tab.P_some hd] at hr
    exact (Option.some.inj hr).symm
  have hO := Owns.below h hb (Nat.le_refl _)
  refine ⟨fun j r hr => ?_, fun j k a b hjk ha hb' g h1 h2 => ?_⟩
  · by_cases hj : j = i
    · subst hj
      rw [new r hr]
      exact hrow
    · exact hO.own j r (old j r hj hr)
  · by_cases hj : j = i
    · subst hj
      have hk : k ≠ j := fun e => hjk e.symm
      rw [new a ha] at h1
      have := hnew g h1
      have := (Owns.lt h (old k b hk hb') h2).2
      omega
    · by_cases hk : k = i
      · subst hk
        rw [new b hb'] at h2
        have := hnew g h2
        have := (Owns.lt h (old j a hj ha) h1).2
        omega
      · exact Owns.apart h j k a b hjk (old j a hj ha) (old k b hk hb') g h1 h2
end

end Go.Proofs.Ytifacfhlgilgoaa
