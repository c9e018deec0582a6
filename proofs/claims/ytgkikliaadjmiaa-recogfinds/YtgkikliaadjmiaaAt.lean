/- How a grammar's rules and a list of numbers lie in memory. No walk. -/
import Derived.Test.YtgkikliaadjmiaaMath
import Derived.WalkKit
import Derived.Deep.AppendLies
import Derived.Deep.Draws
import Derived.WalkSmall
namespace Go.Proofs.Ytgkikliaadjmiaa
open Go.RowKit

/-- The rules R lie in memory below block number lim, at the slice value rv. -/
def RulesAt (w : World) (lim : Nat) (rv : Value) (R : List Ru) : Prop :=
  (∃ ra rc, rv = .slice ra R.length rc) ∧
  ∀ q, q < R.length → ∃ b o rc qa qc, rv = .slice (some ⟨b, o, none⟩) R.length rc ∧ b < lim ∧
    w.cell? ⟨b, o + q * 2, none⟩ = some (.int .i64 (R.getD q (0, [])).1) ∧
    w.cell? ⟨b, o + (q * 2 + 1), none⟩ = some (.slice qa (R.getD q (0, [])).2.length qc) ∧ (R.getD q (0, [])).2.length ≤ qc ∧
    ∀ j, j < (R.getD q (0, [])).2.length → ∃ b' o', qa = some ⟨b', o', none⟩ ∧ b' < lim ∧
      w.cell? ⟨b', o' + j * 2, none⟩ = some (.bool ((R.getD q (0, [])).2.getD j (false, 0)).1) ∧
      w.cell? ⟨b', o' + (j * 2 + 1), none⟩ = some (.int .i64 ((R.getD q (0, [])).2.getD j (false, 0)).2)

/-- The numbers D lie in memory below block number lim, at the slice value dv. -/
def ListAt (w : World) (lim : Nat) (dv : Value) (D : List Int) : Prop :=
  (∃ da dc, dv = .slice da D.length dc) ∧
  ∀ p, p < D.length → ∃ b o dc, dv = .slice (some ⟨b, o, none⟩) D.length dc ∧ b < lim ∧ w.cell? ⟨b, o + p, none⟩ = some (.int .i64 (D.getD p 0))

theorem RulesAt.below {B : Nat} {w w' : World} {rv : Value} {R : List Ru} (h : RulesAt w B rv R) (hb : Below B w w') : RulesAt w' B rv R := by
  refine ⟨h.1, fun q hq => ?_⟩
  obtain ⟨b, o, rc, qa, qc, h1, h2, h3, h4, h6, h5⟩ := h.2 q hq
  refine ⟨b, o, rc, qa, qc, h1, h2, (hb.cell h2).trans h3, (hb.cell h2).trans h4, h6, fun j hj => ?_⟩
  obtain ⟨b', o', k1, k2, k3, k4⟩ := h5 j hj
  exact ⟨b', o', k1, k2, (hb.cell k2).trans k3, (hb.cell k2).trans k4⟩

theorem ListAt.below {B : Nat} {w w' : World} {dv : Value} {D : List Int} (h : ListAt w B dv D) (hb : Below B w w') : ListAt w' B dv D := by
  refine ⟨h.1, fun p hp => ?_⟩
  obtain ⟨b, o, dc, h1, h2, h3⟩ := h.2 p hp
  exact ⟨b, o, dc, h1, h2, (hb.cell h2).trans h3⟩

theorem RulesAt.mono {B B' : Nat} {w : World} {rv : Value} {R : List Ru} (h : RulesAt w B rv R) (hb : B ≤ B') : RulesAt w B' rv R := by
  refine ⟨h.1, fun q hq => ?_⟩
  obtain ⟨b, o, rc, qa, qc, h1, h2, h3, h4, h6, h5⟩ := h.2 q hq
  refine ⟨b, o, rc, qa, qc, h1, by omega, h3, h4, h6, fun j hj => ?_⟩
  obtain ⟨b', o', k1, k2, k3, k4⟩ := h5 j hj
  exact ⟨b', o', k1, by omega, k3, k4⟩

theorem ListAt.mono {B B' : Nat} {w : World} {dv : Value} {D : List Int} (h : ListAt w B dv D) (hb : B ≤ B') : ListAt w B' dv D := by
  refine ⟨h.1, fun p hp => ?_⟩
  obtain ⟨b, o, dc, h1, h2, h3⟩ := h.2 p hp
  exact ⟨b, o, dc, h1, by omega, h3⟩

theorem own_form {w : World} {base : Nat} {e : TypeId} {size : Nat} {v : Value} {n : Nat} {xs : List Value} (h : w.ownsRow base e size v n xs) : ∃ a c, v = .slice a n c := by
  rcases h.2 with ⟨rfl, rfl⟩ | ⟨g, cap, _, rfl, _⟩
  · exact ⟨_, _, rfl⟩
  · exact ⟨_, _, rfl⟩

theorem own_mono {w : World} {base base' : Nat} {e : TypeId} {size : Nat} {v : Value} {n : Nat} {xs : List Value} (h : w.ownsRow base e size v n xs) (hb : base' ≤ base) : w.ownsRow base' e size v n xs := by
  refine ⟨h.1, ?_⟩
  rcases h.2 with h2 | ⟨g, cap, cur, h1, h2, h3⟩
  · exact .inl h2
  · exact .inr ⟨g, cap, cur, h1, by omega, h3⟩

theorem own_below {B base : Nat} {e : TypeId} {size : Nat} {v : Value} {n : Nat} {xs : List Value} {w w' : World} (h : w.ownsRow base e size v n xs) (hb : Below B w w') (hv : ∀ g, v.ownBlock = some g → g < B) : w'.ownsRow base e size v n xs := by
  refine ⟨h.1, ?_⟩
  rcases h.2 with h2 | ⟨g, cap, cur, rfl, h2, h3, h4⟩
  · exact .inl h2
  · exact .inr ⟨g, cap, cur, rfl, h2, (hb.block g (hv g rfl)).trans h3, h4⟩

theorem RulesAt.boxed {w : World} {rv : Value} {R : List Ru} (h : RulesAt w w.heap.size rv R) (o : Obj) : RulesAt (w.alloc o) (w.alloc o).heap.size rv R :=
  (h.below ((Below.refl _ _).alloc (Nat.le_refl _) o)).mono (by simp)
theorem ListAt.boxed {w : World} {dv : Value} {D : List Int} (h : ListAt w w.heap.size dv D) (o : Obj) : ListAt (w.alloc o) (w.alloc o).heap.size dv D :=
  (h.below ((Below.refl _ _).alloc (Nat.le_refl _) o)).mono (by simp)

theorem getD_of_some {α : Type} {l : List α} {i : Nat} {x d : α} (h : l[i]? = some x) : l.getD i d = x := by simp [List.getD, h]

/-- The symbols Rt lie in memory, below block number lim. -/
def RightAt (w : World) (lim : Nat) (qa : Option Addr) (Rt : List Sy) : Prop :=
  ∀ j, j < Rt.length → ∃ b' o', qa = some ⟨b', o', none⟩ ∧ b' < lim ∧
      w.cell? ⟨b', o' + j * 2, none⟩ = some (.bool (Rt.getD j (false, 0)).1) ∧
      w.cell? ⟨b', o' + (j * 2 + 1), none⟩ = some (.int .i64 (Rt.getD j (false, 0)).2)

theorem RightAt.below {B : Nat} {w w' : World} {qa : Option Addr} {Rt : List Sy} (h : RightAt w B qa Rt) (hb : Below B w w') : RightAt w' B qa Rt := fun j hj => by
  obtain ⟨b', o', k1, k2, k3, k4⟩ := h j hj
  exact ⟨b', o', k1, k2, (hb.cell k2).trans k3, (hb.cell k2).trans k4⟩
theorem RightAt.mono {B B' : Nat} {w : World} {qa : Option Addr} {Rt : List Sy} (h : RightAt w B qa Rt) (hb : B ≤ B') : RightAt w B' qa Rt := fun j hj => by
  obtain ⟨b', o', k1, k2, k3, k4⟩ := h j hj
  exact ⟨b', o', k1, by omega, k3, k4⟩

end Go.Proofs.Ytgkikliaadjmiaa
