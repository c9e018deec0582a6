/- How pollardingref2.Of's sets lie in memory while they grow; what it makes, as plain functions. No walk. -/
import Derived.Test.YtlfjnljidehljaaSetsRows
import Derived.Test.YtlfjnljidehljaaNull2
namespace Go.Proofs.Ytlfjnljidehljaa
open Go.RowKit

def nullS (R : List Ru) (i : Nat) (Nu : List Bool) : List Bool := if nullB Nu (R.getD i (0, [])).2 then Nu.set (R.getD i (0, [])).1.toNat true else Nu
def nullA (R : List Ru) (N : Nat) : List Bool := loopN (N + 1) (fun _ => loopN R.length (nullS R)) (List.replicate N false)
def firstS (R : List Ru) (Nu : List Bool) (i t : Nat) (Fi : List (List Bool)) : List (List Bool) := if begB Nu Fi t (R.getD i (0, [])).2 then set2 Fi (R.getD i (0, [])).1.toNat t else Fi
def firstA (R : List Ru) (Nu : List Bool) (T N : Nat) : List (List Bool) := loopN (N + 1) (fun _ => loopN R.length fun i => loopN T fun t => firstS R Nu i t) (List.replicate N (List.replicate T false))
def followS (R : List Ru) (Nu : List Bool) (Fi : List (List Bool)) (T i k t : Nat) (Fo : List (List Bool)) : List (List Bool) :=
  if (decide (t < T) && begB Nu Fi t ((R.getD i (0, [])).2.drop (k + 1))) || (nullB Nu ((R.getD i (0, [])).2.drop (k + 1)) && (Fo.getD (R.getD i (0, [])).1.toNat []).getD t false) then
    set2 Fo ((R.getD i (0, [])).2.getD k (false, 0)).2.toNat t
  else Fo
def followK (R : List Ru) (Nu : List Bool) (Fi : List (List Bool)) (T i k : Nat) (Fo : List (List Bool)) : List (List Bool) :=
  if ((R.getD i (0, [])).2.getD k (false, 0)).1 then Fo else loopN (T + 1) (fun t => followS R Nu Fi T i k t) Fo
def followA (R : List Ru) (Nu : List Bool) (Fi : List (List Bool)) (T N : Nat) : List (List Bool) :=
  loopN (N + 1) (fun _ => loopN R.length fun i => loopN (R.getD i (0, [])).2.length fun k => followK R Nu Fi T i k) (set2 (List.replicate N (List.replicate (T + 1) false)) 0 T)

section
variable {w : World} {base sb T N mf mg : Nat} {nv fv gv : Value} {vf vg : Nat → Value} {Nu : List Bool} {Fi Fo : List (List Bool)}

theorem own_bools {w : World} {base n : Nat} {v : Value} {X : List Bool} {e : TypeId} (h : w.ownsRow base e 1 v n (X.map Value.bool)) : BoolsAt w v X := by
  have hl : X.length = n := by simpa using h.1
  obtain ⟨a, c, hv⟩ := own_form h
  refine ⟨⟨a, c, by rw [hv, hl]⟩, fun i hi => ?_⟩
  obtain ⟨g, cap, rfl, _, _⟩ := h.form (by omega)
  refine ⟨g, 0, cap, by rw [hl], ?_⟩
  have := h.cellAt i (by omega)
  rw [Nat.zero_add, this]
  simp [List.getD, hi]

theorem Owns.bools (h : Owns w base (Pset sb T N mf mg nv fv gv vf vg Nu Fi Fo)) : BoolsAt w nv Nu := own_bools (h.own .null _ rfl)

theorem Owns.mat (h : Owns w base (Pset sb T N mf mg nv fv gv vf vg Nu Fi Fo)) (hF : Fi.length = mf) : MatAt w fv Fi := by
  have hh : w.ownsRow base 25 1 fv mf ((List.range mf).map vf) := h.own .fh _ rfl
  obtain ⟨a, c, hv⟩ := own_form hh
  refine ⟨⟨a, c, by rw [hv, hF]⟩, fun i hi => ?_⟩
  obtain ⟨g, cap, rfl, _, _⟩ := hh.form (by omega)
  refine ⟨g, 0, cap, vf i, by rw [hF], ?_, own_bools (h.own (.f i) _ (by simp [Pset, show i < mf by omega]; rfl))⟩
  have := hh.cellAt i (by omega)
  rw [Nat.zero_add, this]
  simp [show i < mf by omega]
end

end Go.Proofs.Ytlfjnljidehljaa
