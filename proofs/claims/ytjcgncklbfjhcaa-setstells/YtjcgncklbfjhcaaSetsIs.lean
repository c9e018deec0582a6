/- The program's sets are the reference's: the same tables, plain. No walk. -/
import Derived.Test.YtjcgncklbfjhcaaSetsOf
import Derived.Test.YtjcgncklbfjhcaaSets2Math
namespace Go.Proofs.Ytjcgncklbfjhcaa
open Go.RowKit

theorem bools_ext {X Y : List Bool} (hl : X.length = Y.length) (h : ∀ i, i < X.length → (X.getD i false = true ↔ Y.getD i false = true)) : X = Y := by
  refine List.ext_getElem hl fun i h1 h2 => ?_
  have := h i h1
  simp [List.getD, h1, h2] at this
  exact this

theorem rows_ext {X Y : List (List Bool)} (hl : X.length = Y.length) (h : ∀ i, i < X.length → X.getD i [] = Y.getD i []) : X = Y := by
  refine List.ext_getElem hl fun i h1 h2 => ?_
  have := h i h1
  simpa [List.getD, h1, h2] using this

section
variable {w : World} {B T N gb : Nat} {nv fv gv : Value} {vf vg : Nat → Value} {R : List Ru} {Y : Xs}

theorem bt_bools {c : Tab Iy} {i : Iy} {n : Nat} (h : Bt w B c Y) (hd : c.dom i = some n) : BoolsAt w (c.V i) (Y i) := own_bools (h.own hd)

theorem dev_bools (h : Bt w B (STab T N nv vf vg gb) Y) : BoolsAt w nv (Y .null) := bt_bools (c := STab T N nv vf vg gb) (i := .null) (n := N) h rfl
theorem dev_first (h : Bt w B (STab T N nv vf vg gb) Y) (hF : Heads w (STab T N nv vf vg gb).K N fv vf) : MatAt w fv ((List.range N).map fun n => Y (.f n)) := by
  refine ⟨by simpa using hF.1, fun i hi => ?_⟩
  simp only [List.length_map, List.length_range] at hi
  obtain ⟨g, c, h1, _, h3⟩ := hF.2 i hi
  refine ⟨g, 0, c, vf i, by simpa using h1, by rw [Nat.zero_add]; exact h3, ?_⟩
  have e : ((List.range N).map fun n => Y (.f n)).getD i [] = Y (.f i) := by simp [List.getD, hi]
  rw [e]
  exact bt_bools (c := STab T N nv vf vg gb) (i := .f i) (n := T) h (by simp [STab, sdom, hi])
theorem dev_follow (h : Bt w B (STab T N nv vf vg gb) Y) (hF : Heads w (STab T N nv vf vg gb).K N gv vg) : MatAt w gv ((List.range N).map fun n => Y (.g n)) := by
  refine ⟨by simpa using hF.1, fun i hi => ?_⟩
  simp only [List.length_map, List.length_range] at hi
  obtain ⟨g, c, h1, _, h3⟩ := hF.2 i hi
  refine ⟨g, 0, c, vg i, by simpa using h1, by rw [Nat.zero_add]; exact h3, ?_⟩
  have e : ((List.range N).map fun n => Y (.g n)).getD i [] = Y (.g i) := by simp [List.getD, hi]
  rw [e]
  exact bt_bools (c := STab T N nv vf vg gb) (i := .g i) (n := T + 1) h (by simp [STab, sdom, hi])

theorem dev_is_ref (hf : Fine T N R) (hA : AtHead T N R Y) (hg : bit Y .gr 0 = false) :
    Y .null = nullA R N ∧ ((List.range N).map fun n => Y (.f n)) = firstA R (nullA R N) T N ∧ ((List.range N).map fun n => Y (.g n)) = followA R (nullA R N) (firstA R (nullA R N) T N) T N := by
  obtain ⟨l1, l2, l3⟩ := least_of_still hf hA.shp hA.snd (hA.held hg) hA.fin
  obtain ⟨n1, n2⟩ := nullA_iff hf
  obtain ⟨f1, f2⟩ := firstA_iff hf n2
  obtain ⟨g1, g2⟩ := followA_iff hf n2 f2
  have sN := hA.shp .null N rfl
  have sF : ∀ n, n < N → (Y (.f n)).length = T := fun n hn => hA.shp (.f n) T (by simp [sdom, hn])
  have sG : ∀ n, n < N → (Y (.g n)).length = T + 1 := fun n hn => hA.shp (.g n) (T + 1) (by simp [sdom, hn])
  refine ⟨bools_ext (by omega) fun i hi => ?_, rows_ext (by simp [f1.1]) fun i hi => ?_, rows_ext (by simp [g1.1]) fun i hi => ?_⟩
  · have h1 := l1 i (by omega)
    have h2 := n2 (i : Int)
    unfold hasN at h2
    simp only [Int.toNat_natCast] at h2
    exact h1.trans (h2.symm.trans ⟨fun h => h.2, fun h => ⟨Int.natCast_nonneg _, h⟩⟩)
  · simp only [List.length_map, List.length_range] at hi
    have e : ((List.range N).map fun n => Y (.f n)).getD i [] = Y (.f i) := by simp [List.getD, hi]
    rw [e]
    refine bools_ext (by rw [sF i hi, f1.2 i hi]) fun t ht => ?_
    rw [sF i hi] at ht
    have h1 := l2 i t hi ht
    have h2 := f2 t ht (i : Int)
    unfold has2 at h2
    simp only [Int.toNat_natCast] at h2
    exact h1.trans (h2.symm.trans ⟨fun h => h.2, fun h => ⟨Int.natCast_nonneg _, h⟩⟩)
  · simp only [List.length_map, List.length_range] at hi
    have e : ((List.range N).map fun n => Y (.g n)).getD i [] = Y (.g i) := by simp [List.getD, hi]
    rw [e]
    refine bools_ext (by rw [sG i hi, g1.2 i hi]) fun t ht => ?_
    rw [sG i hi] at ht
    have h1 := l3 i t hi ht
    have h2 := g2 t ht (i : Int)
    unfold has2 at h2
    simp only [Int.toNat_natCast] at h2
    exact h1.trans (h2.symm.trans ⟨fun h => h.2, fun h => ⟨Int.natCast_nonneg _, h⟩⟩)
end

end Go.Proofs.Ytjcgncklbfjhcaa
