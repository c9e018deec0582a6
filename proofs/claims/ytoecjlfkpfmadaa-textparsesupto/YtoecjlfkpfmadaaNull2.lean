/- The contracts of pollardingref2.null and pollardingref2.begins. -/
import Derived.Test.YtoecjlfkpfmadaaRows
import Derived.Test.YtoecjlfkpfmadaaAt
import Derived.WalkKit
import Derived.WalkSpells
import Derived.Deep.QuietTactic
import Derived.BigQuiet
import Derived.Deep.RegionWith
import Derived.Deep.Cut
import Derived.Deep.CutRange
import Derived.Deep.DrawnRows
namespace Go.Proofs.Ytoecjlfkpfmadaa
open Go.RowKit

/-- Truths that can be read at a slice value. -/
def BoolsAt (w : World) (v : Value) (X : List Bool) : Prop :=
  (∃ a c, v = .slice a X.length c) ∧ ∀ i, i < X.length → ∃ g o c, v = .slice (some ⟨g, o, none⟩) X.length c ∧ w.cell? ⟨g, o + i, none⟩ = some (.bool (X.getD i false))
/-- Rows of truths that can be read at a slice value. -/
def MatAt (w : World) (v : Value) (X : List (List Bool)) : Prop :=
  (∃ a c, v = .slice a X.length c) ∧ ∀ i, i < X.length → ∃ g o c rv, v = .slice (some ⟨g, o, none⟩) X.length c ∧ w.cell? ⟨g, o + i, none⟩ = some rv ∧ BoolsAt w rv (X.getD i [])
/-- Symbols that can be read at a slice value. -/
def SymsAt (w : World) (v : Value) (l : List Sy) : Prop :=
  (∃ a c, v = .slice a l.length c ∧ l.length ≤ c) ∧ ∀ j, j < l.length → ∃ b o c, v = .slice (some ⟨b, o, none⟩) l.length c ∧ w.cell? ⟨b, o + j * 2, none⟩ = some (.bool (l.getD j (false, 0)).1) ∧
    w.cell? ⟨b, o + j * 2 + 1, none⟩ = some (.int .i64 (l.getD j (false, 0)).2)

/-- The same cells hold the same. -/
theorem BoolsAt.same {w w' : World} {v : Value} {X : List Bool} (h : BoolsAt w v X) (hw : ∀ b o, b < w.heap.size → w'.cell? ⟨b, o, none⟩ = w.cell? ⟨b, o, none⟩) : BoolsAt w' v X :=
  ⟨h.1, fun i hi => let ⟨g, o, c, h1, h2⟩ := h.2 i hi; ⟨g, o, c, h1, (hw g _ (World.block_lt_of_cell? w _ h2)).trans h2⟩⟩
theorem MatAt.same {w w' : World} {v : Value} {X : List (List Bool)} (h : MatAt w v X) (hw : ∀ b o, b < w.heap.size → w'.cell? ⟨b, o, none⟩ = w.cell? ⟨b, o, none⟩) : MatAt w' v X :=
  ⟨h.1, fun i hi => let ⟨g, o, c, rv, h1, h2, h3⟩ := h.2 i hi; ⟨g, o, c, rv, h1, (hw g _ (World.block_lt_of_cell? w _ h2)).trans h2, h3.same hw⟩⟩
theorem SymsAt.same {w w' : World} {v : Value} {l : List Sy} (h : SymsAt w v l) (hw : ∀ b o, b < w.heap.size → w'.cell? ⟨b, o, none⟩ = w.cell? ⟨b, o, none⟩) : SymsAt w' v l :=
  ⟨h.1, fun j hj => let ⟨b, o, c, h1, h2, h3⟩ := h.2 j hj; ⟨b, o, c, h1, (hw b _ (World.block_lt_of_cell? w _ h2)).trans h2, (hw b _ (World.block_lt_of_cell? w _ h3)).trans h3⟩⟩

/-- A rule of a grammar in memory: its Left, and its Right's symbols. -/
theorem RulesAt.syms {w : World} {B : Nat} {rv : Value} {R : List Ru} (h : RulesAt w B rv R) {q : Nat} (hq : q < R.length) : ∃ b o rc qa qc, rv = .slice (some ⟨b, o, none⟩) R.length rc ∧ b < B ∧
    w.cell? ⟨b, o + q * 2, none⟩ = some (.int .i64 (R.getD q (0, [])).1) ∧ w.cell? ⟨b, o + q * 2 + 1, none⟩ = some (.slice qa (R.getD q (0, [])).2.length qc) ∧ SymsAt w (.slice qa (R.getD q (0, [])).2.length qc) (R.getD q (0, [])).2 := by
  obtain ⟨b, o, rc, qa, qc, h1, h2, h3, h4, h6, h5⟩ := h.2 q hq
  refine ⟨b, o, rc, qa, qc, h1, h2, h3, by rw [Nat.add_assoc]; exact h4, ⟨_, _, rfl, h6⟩, fun j hj => ?_⟩
  obtain ⟨b', o', rfl, _, k1, k2⟩ := h5 j hj
  exact ⟨b', o', qc, rfl, k1, by rw [Nat.add_assoc]; exact k2⟩

theorem same_below {w w' : World} (h : Below w.heap.size w w') : ∀ b o, b < w.heap.size → w'.cell? ⟨b, o, none⟩ = w.cell? ⟨b, o, none⟩ := fun _ _ hb => h.cell hb

theorem SymsAt.take {w : World} {b o c : Nat} {l : List Sy} (h : SymsAt w (.slice (some ⟨b, o, none⟩) l.length c) l) (i : Nat) (hi : i ≤ l.length) : SymsAt w (.slice (some ⟨b, o, none⟩) i c) (l.take i) := by
  have hl : (l.take i).length = i := by simp; omega
  obtain ⟨a', c', e, hc⟩ := h.1
  cases e
  refine ⟨⟨_, _, by rw [hl], by omega⟩, fun j hj => ?_⟩
  rw [hl] at hj
  obtain ⟨b', o', c', e, h1, h2⟩ := h.2 j (by omega)
  cases e
  have hg : (l.take i).getD j (false, 0) = l.getD j (false, 0) := by simp [List.getD, hj]
  exact ⟨b, o, c, by rw [hl], by rw [hg]; exact h1, by rw [hg]; exact h2⟩

theorem SymsAt.drop {w : World} {b o c : Nat} {l : List Sy} (h : SymsAt w (.slice (some ⟨b, o, none⟩) l.length c) l) (n : Nat) (hn : n ≤ l.length) :
    SymsAt w (.slice (if c = n then some ⟨b, o, none⟩ else some ⟨b, o + n * 2, none⟩) (l.length - n) (c - n)) (l.drop n) := by
  have hl : (l.drop n).length = l.length - n := by simp
  obtain ⟨a', c', e, hc⟩ := h.1
  cases e
  refine ⟨⟨_, _, by rw [hl], by omega⟩, fun j hj => ?_⟩
  rw [hl] at hj
  obtain ⟨b', o', c', e, h1, h2⟩ := h.2 (n + j) (by omega)
  cases e
  have hg : (l.drop n).getD j (false, 0) = l.getD (n + j) (false, 0) := by simp [List.getD]
  refine ⟨b, o + n * 2, c - n, by rw [hl, if_neg (by omega)], ?_, ?_⟩
  · rw [hg, ← h1]; congr 2; omega
  · rw [hg, ← h2]; congr 2; omega

end Go.Proofs.Ytoecjlfkpfmadaa
