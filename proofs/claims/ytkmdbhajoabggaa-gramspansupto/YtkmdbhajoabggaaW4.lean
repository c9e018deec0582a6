/- The contracts of the deferred closure, of read, and of the two faces Yield and Spans. -/
import Derived.Test.YtkmdbhajoabggaaW3
import Derived.Defers
import Derived.Recover
namespace Go.Proofs.Ytkmdbhajoabggaa
open Go.RowKit

/-- The reader's cells, and its 'ok', when they are laid anew. -/
def relay (w : World) (rb : Nat) (v0 v1 v2 v3 v4 v5 v6 v7 : Value) : World :=
  (((((((w.setCell ⟨rb, 0, none⟩ v0).setCell ⟨rb, 1, none⟩ v1).setCell ⟨rb, 2, none⟩ v2).setCell ⟨rb, 3, none⟩ v3).setCell ⟨rb, 4, none⟩ v4).setCell ⟨rb, 5, none⟩ v5).setCell ⟨rb, 6, none⟩ v6).setCell ⟨rb + 1, 0, none⟩ v7

theorem relay_below {W w : World} {B rb : Nat} (h : Below B W w) (hb : B ≤ rb) (v0 v1 v2 v3 v4 v5 v6 v7 : Value) : Below B W (relay w rb v0 v1 v2 v3 v4 v5 v6 v7) := by
  unfold relay
  exact (((((((h.setCell hb _).setCell hb _).setCell hb _).setCell hb _).setCell hb _).setCell hb _).setCell hb _).setCell (by simp only; omega) _

theorem relay_own {w : World} {rb : Nat} {e : TypeId} {size : Nat} {v : Value} {n : Nat} {xs : List Value} (h : w.ownsRow (rb + 2) e size v n xs) (v0 v1 v2 v3 v4 v5 v6 v7 : Value) :
    (relay w rb v0 v1 v2 v3 v4 v5 v6 v7).ownsRow (rb + 2) e size v n xs := by
  unfold relay
  exact ownsRow_setCell_below (ownsRow_setCell_below (ownsRow_setCell_below (ownsRow_setCell_below (ownsRow_setCell_below (ownsRow_setCell_below (ownsRow_setCell_below (ownsRow_setCell_below h
    (by simp only; omega) _) (by simp only; omega) _) (by simp only; omega) _) (by simp only; omega) _) (by simp only; omega) _) (by simp only; omega) _) (by simp only; omega) _) (by simp only; omega) _

theorem relay_cells {W w : World} {B rb : Nat} (h : Weak W B rb w) (v0 v1 v2 v3 v4 v5 v6 v7 : Value) :
    (relay w rb v0 v1 v2 v3 v4 v5 v6 v7).cell? ⟨rb, 0, none⟩ = some v0 ∧ (relay w rb v0 v1 v2 v3 v4 v5 v6 v7).cell? ⟨rb, 1, none⟩ = some v1 ∧ (relay w rb v0 v1 v2 v3 v4 v5 v6 v7).cell? ⟨rb, 2, none⟩ = some v2 ∧
    (relay w rb v0 v1 v2 v3 v4 v5 v6 v7).cell? ⟨rb, 3, none⟩ = some v3 ∧ (relay w rb v0 v1 v2 v3 v4 v5 v6 v7).cell? ⟨rb, 4, none⟩ = some v4 ∧ (relay w rb v0 v1 v2 v3 v4 v5 v6 v7).cell? ⟨rb, 5, none⟩ = some v5 ∧
    (relay w rb v0 v1 v2 v3 v4 v5 v6 v7).cell? ⟨rb, 6, none⟩ = some v6 ∧ (relay w rb v0 v1 v2 v3 v4 v5 v6 v7).cell? ⟨rb + 1, 0, none⟩ = some v7 := by
  obtain ⟨u0, c0⟩ := h.cs 0 (by omega)
  obtain ⟨u1, c1⟩ := h.cs 1 (by omega)
  obtain ⟨u2, c2⟩ := h.cs 2 (by omega)
  obtain ⟨u3, c3⟩ := h.cs 3 (by omega)
  obtain ⟨u4, c4⟩ := h.cs 4 (by omega)
  obtain ⟨u5, c5⟩ := h.cs 5 (by omega)
  obtain ⟨u6, c6⟩ := h.cs 6 (by omega)
  have c7 := h.ok
  unfold relay
  refine ⟨?_, ?_, ?_, ?_, ?_, ?_, ?_, ?_⟩ <;> simp [go_sem, c0, c1, c2, c3, c4, c5, c6, c7]

theorem catch_panicking (rb : Nat) (u : TypeId) (pv : Value) (older : List PanicEntry) (w : World)
    (v0 v1 v2 v3 v4 v5 v6 v7 : Value) (c0 : w.cell? ⟨rb, 0, none⟩ = some v0) (c1 : w.cell? ⟨rb, 1, none⟩ = some v1) (c2 : w.cell? ⟨rb, 2, none⟩ = some v2) (c3 : w.cell? ⟨rb, 3, none⟩ = some v3)
    (c4 : w.cell? ⟨rb, 4, none⟩ = some v4) (c5 : w.cell? ⟨rb, 5, none⟩ = some v5) (c6 : w.cell? ⟨rb, 6, none⟩ = some v6)
    (hz : ∀ o, w.frozen? ⟨rb, o, none⟩ = false) (c7 : w.cell? ⟨rb + 1, 0, none⟩ = some v7) (hokz : w.frozen? ⟨rb + 1, 0, none⟩ = false) :
    CallsD Try.prog 7 #[.pointer (some ⟨rb, 0, none⟩), .pointer (some ⟨rb + 1, 0, none⟩)] (.panicking ({ v := .iface u pv, recovered := false } :: older)) w fun e u' w' =>
      e = .returned (.tuple #[]) ∧ u' = .panicking ({ v := .iface u pv, recovered := true } :: older) ∧ w' = relay w rb (.int .i64 0) (.int .i64 0) (.slice none 0 0) (.slice none 0 0) (.int .i64 0) (.slice none 0 0) (.slice none 0 0) (.bool false) := by
  refine callsD_of_wpS Try.func7 rfl fun c₀ cs hu => ?_
  apply wpS_seq
  apply wpS_region
  simp [wpOpsS, go_sem, recoverD, hu, Try.ntmps7, Exit.thenS]
  refine wpS_cond (t := true) (by simp [Act.eval, Array.replicate]) ?_
  simp only [if_true]
  apply wpS_region
  simp [wpOpsS, go_sem, c0, c1, c2, c3, c4, c5, c6, c7, hz, hokz, bodyPostS, results, Try.results7, relay]

theorem catch_idle (rb : Nat) (w : World) :
    CallsD Try.prog 7 #[.pointer (some ⟨rb, 0, none⟩), .pointer (some ⟨rb + 1, 0, none⟩)] .returning w fun e u' w' => e = .returned (.tuple #[]) ∧ u' = .returning ∧ w' = w := by
  refine callsD_of_wpS Try.func7 rfl fun c₀ cs hu => ?_
  apply wpS_seq
  apply wpS_region
  simp [wpOpsS, go_sem, recoverD, hu, Try.ntmps7, Exit.thenS]
  refine wpS_cond (t := false) (by simp [Act.eval, Array.replicate]) ?_
  simp only [Bool.false_eq_true, if_false]
  refine wpS_of_wp (wp_skip ?_)
  cases c₀
  simp_all [bodyPostS, results, Try.results7]

end Go.Proofs.Ytkmdbhajoabggaa
