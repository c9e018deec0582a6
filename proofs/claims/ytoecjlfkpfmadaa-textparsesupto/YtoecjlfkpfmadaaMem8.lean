/- How symbols and rules that a step makes lie in memory; the contracts of pollardingref8's copied, own, swapped. -/
import Derived.Test.YtoecjlfkpfmadaaStepMath
import Derived.Test.YtoecjlfkpfmadaaHeldSeq
import Derived.Laws.AppendOwnNone
namespace Go.Proofs.Ytoecjlfkpfmadaa
open Go.RowKit

section
variable {l m : List Sy}
end

/-- Symbols that lie at a slice value, in a block of A. -/
def SyHas (w : World) (A : Nat → Prop) (v : Value) (l : List Sy) : Prop :=
  (∃ a c, v = .slice a l.length c ∧ l.length ≤ c) ∧ ∀ j, j < l.length → ∃ b o c, v = .slice (some ⟨b, o, none⟩) l.length c ∧ A b ∧ b < w.heap.size ∧ w.cell? ⟨b, o + j * 2, none⟩ = some (.bool (l.getD j (false, 0)).1) ∧ w.cell? ⟨b, o + j * 2 + 1, none⟩ = some (.int .i64 (l.getD j (false, 0)).2)

section
variable {w w' : World} {A A' : Nat → Prop} {v : Value} {l : List Sy}
theorem SyHas.kept (h : SyHas w A v l) (hs : w.heap.size ≤ w'.heap.size) (hb : ∀ b, A b → b < w.heap.size → w'.heap[b]? = w.heap[b]? ∧ A' b) : SyHas w' A' v l :=
  ⟨h.1, fun j hj => let ⟨b, o, c, h1, h2, h3, h4, h5⟩ := h.2 j hj
    ⟨b, o, c, h1, (hb b h2 h3).2, by omega, (World.cell?_of_block (w := w) (hb b h2 h3).1).trans h4, (World.cell?_of_block (w := w) (hb b h2 h3).1).trans h5⟩⟩
theorem SyHas.below (h : SyHas w A v l) (hb : Below w.heap.size w w') : SyHas w' A v l := h.kept hb.size fun b hA hlt => ⟨hb.block b hlt, hA⟩
theorem SyHas.syms (h : SyHas w A v l) : SymsAt w v l := ⟨h.1, fun j hj => let ⟨b, o, c, h1, _, _, h4, h5⟩ := h.2 j hj; ⟨b, o, c, h1, h4, h5⟩⟩
end

end Go.Proofs.Ytoecjlfkpfmadaa
