/- Plain: the symbols of a line. -/
import Derived.Test.YtganeciagepcpaaDoorTxMem
namespace Go.Proofs.YtganeciagepcpaaDoor
open Go.RowKit

def symsL : Nat → Sc9 → List Sy → Sc9 × List Sy
  | 0, s, A => (s, A)
  | f + 1, s, A => if (!s.2 && !s.1.isEmpty) = true then symsL f (symS9 s) (if A.length ≤ 8 then A ++ [(symM9 s, ((numP (symB9 s).1).1 : Int))] else A) else (s, A)
def rlA (l : List UInt8) : Sc9 := wordS9 [110] (l, false)
def rlB (l : List UInt8) : Sc9 := wordS9 [58] (numS9 (rlA l))
def rlL (l : List UInt8) : Nat := (numP (rlA l).1).1
def rlE (l : List UInt8) : Sc9 × List Sy := symsL ((rlB l).1.length + 1) (rlB l) []
def rlOk (l : List UInt8) : Bool := !(rlE l).1.2 && (rlE l).1.1.isEmpty
/-- What is left to do. -/
def mz (s : Sc9) : Nat := if s.2 then 0 else s.1.length + 1
def mzW (b : Nat) (w : World) : Nat := match w.cell? ⟨b, 0, none⟩, w.cell? ⟨b, 1, none⟩ with
  | some (.string r), some (.bool g) => if g then 0 else r.size + 1
  | _, _ => 0
theorem mzW_at {w : World} {b : Nat} {s : Sc9} (h : ScanAt w b s.1 s.2) : mzW b w = mz s := by
  unfold mzW mz
  rw [cell_bk9 (i := 0) h rfl, cell_bk9 (i := 1) h rfl]
  simp [ByteArray.size]

theorem trim_len (s p : List UInt8) : (Lib.trimPrefix s p).length ≤ s.length := by
  unfold Lib.trimPrefix
  split <;> simp
theorem word_len (p : List UInt8) (s : Sc9) : (wordS9 p s).1.length ≤ s.1.length := trim_len _ _
theorem num_len (s : Sc9) : (numS9 s).1.length ≤ s.1.length := by simp [numS9]
theorem num_wrong {s : Sc9} (h : s.2 = true) : (numS9 s).2 = true := by simp [numS9, h]
theorem word_wrong {p : List UInt8} {s : Sc9} (h : s.2 = true) : (wordS9 p s).2 = true := by simp [wordS9, h]
theorem symC_len (s : Sc9) : (symC9 s).1.length ≤ (wordS9 [32] s).1.length := trim_len _ _
theorem symB_len (s : Sc9) : (symB9 s).1.length ≤ (wordS9 [32] s).1.length := by
  unfold symB9
  split
  · exact symC_len s
  · exact Nat.le_trans (word_len _ _) (symC_len s)
theorem symB_wrong {s : Sc9} (h : (wordS9 [32] s).2 = true) : (symB9 s).2 = true := by
  unfold symB9
  split
  · exact h
  · exact word_wrong h
theorem sym_less {s : Sc9} (h : (!s.2 && !s.1.isEmpty) = true) : mz (symS9 s) < mz s := by
  obtain ⟨r, g⟩ := s
  simp only [Bool.and_eq_true, Bool.not_eq_true'] at h
  obtain ⟨hg, hr⟩ := h
  subst hg
  have e1 : mz (r, false) = r.length + 1 := rfl
  rw [e1]
  cases hp : Lib.hasPrefix r [32] with
  | false =>
    have : (symS9 (r, false)).2 = true := num_wrong (symB_wrong (by simp [wordS9, hp]))
    simp [mz, this]
  | true =>
    have h1 : (wordS9 [32] (r, false)).1.length = r.length - 1 := by simp [wordS9, Lib.trimPrefix, hp]
    have h2 := symB_len (r, false)
    have h3 := num_len (symB9 (r, false))
    have h4 : 0 < r.length := by cases r with
      | nil => simp at hr
      | cons _ _ => simp
    have h5 : mz (symS9 (r, false)) ≤ (symS9 (r, false)).1.length + 1 := by unfold mz; split <;> omega
    have h6 : (symS9 (r, false)).1.length ≤ r.length - 1 := by unfold symS9; omega
    omega
theorem symsL_stop {s : Sc9} {A : List Sy} (f : Nat) (h : (!s.2 && !s.1.isEmpty) = false) : symsL f s A = (s, A) := by
  cases f with
  | zero => rfl
  | succ f => rw [symsL, h]; simp
theorem mz_pos {s : Sc9} (h : (!s.2 && !s.1.isEmpty) = true) : 0 < mz s := Nat.lt_of_le_of_lt (Nat.zero_le _) (sym_less h)
end Go.Proofs.YtganeciagepcpaaDoor
