/- The program's sets and the reference's are the same tables. No walk. -/
import Derived.Test.YtjcgncklbfjhcaaSetsIs
import Derived.Test.YtjcgncklbfjhcaaOf2
import Derived.Test.YtjcgncklbfjhcaaSame2
namespace Go.Proofs.Ytjcgncklbfjhcaa
open Go.RowKit

theorem ref_follow {w : World} {base sb T N mf mg : Nat} {nv fv gv : Value} {vf vg : Nat → Value} {Nu : List Bool} {Fi Fo : List (List Bool)} (h : Owns w base (Pset sb T N mf mg nv fv gv vf vg Nu Fi Fo)) (hF : Fo.length = mg) : MatAt w gv Fo := by
  have hh : w.ownsRow base 25 1 gv mg ((List.range mg).map vg) := h.own .gh _ rfl
  obtain ⟨a, c, hv⟩ := own_form hh
  refine ⟨⟨a, c, by rw [hv, hF]⟩, fun i hi => ?_⟩
  obtain ⟨g, cap, rfl, _, _⟩ := hh.form (by omega)
  refine ⟨g, 0, cap, vg i, by rw [hF], ?_, own_bools (h.own (.g i) _ (by simp [Pset, show i < mg by omega]; rfl))⟩
  have := hh.cellAt i (by omega)
  rw [Nat.zero_add, this]
  simp [show i < mg by omega]

theorem bools_nil (w : World) : BoolsAt w (.slice none 0 0) [] := ⟨⟨none, 0, rfl⟩, fun _ hi => absurd hi (Nat.not_lt_zero _)⟩
theorem mat_nil (w : World) : MatAt w (.slice none 0 0) [] := ⟨⟨none, 0, rfl⟩, fun _ hi => absurd hi (Nat.not_lt_zero _)⟩

end Go.Proofs.Ytjcgncklbfjhcaa
