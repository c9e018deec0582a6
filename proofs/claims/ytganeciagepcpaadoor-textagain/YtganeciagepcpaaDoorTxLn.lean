/- The contract of strings.Cut at a line's end. -/
import Derived.Test.YtganeciagepcpaaDoorTxNu
namespace Go.Proofs.YtganeciagepcpaaDoor
open Go.RowKit

/-- The first line, and what follows. -/
def cutN : List UInt8 → Option (List UInt8 × List UInt8)
  | [] => none
  | b :: l => if b == 10 then some ([], l) else (cutN l).map fun p => (b :: p.1, p.2)
theorem cutN_none {s : List UInt8} (h : cutN s = none) : Lib.indexByte s 10 = -1 := by
  induction s with
  | nil => rfl
  | cons b l ih =>
    unfold cutN at h
    unfold Lib.indexByte
    cases hb : b == 10 with
    | true => rw [hb] at h; simp at h
    | false =>
      rw [hb] at h
      simp only [Bool.false_eq_true, if_false, Option.map_eq_none_iff] at h
      rw [ih h]
      simp
theorem cutN_some {s a r : List UInt8} (h : cutN s = some (a, r)) : Lib.indexByte s 10 = (a.length : Int) ∧ s = a ++ 10 :: r := by
  induction s generalizing a with
  | nil => simp [cutN] at h
  | cons b l ih =>
    unfold cutN at h
    unfold Lib.indexByte
    cases hb : b == 10 with
    | true =>
      rw [hb] at h
      simp only [if_true, Option.some.injEq, Prod.mk.injEq] at h
      obtain ⟨rfl, rfl⟩ := h
      have : b = 10 := by simpa using hb
      simp [this]
    | false =>
      rw [hb] at h
      simp only [Bool.false_eq_true, if_false, Option.map_eq_some_iff, Prod.mk.injEq] at h
      obtain ⟨⟨a', r'⟩, h1, h2, h3⟩ := h
      simp only at h2 h3
      subst h2
      subst h3
      obtain ⟨h4, h5⟩ := ih h1
      rw [h4]
      have : ((a'.length : Int) == -1) = false := by simp
      rw [this]
      simp [h5]

section
variable {w : World} {s a r : List UInt8}
theorem ext_take9 (r : List UInt8) (k : Nat) : (⟨r.toArray⟩ : ByteArray).extract 0 k = ⟨(r.take k).toArray⟩ := by
  apply ByteArray.ext
  simp [ByteArray.data_extract]

set_option maxRecDepth 100000 in
set_option maxHeartbeats 2000000 in
theorem slCut_none (h : cutN s = none) (w : World) : Calls Tryd.prog 18 #[.string ⟨s.toArray⟩, .string ⟨#[10]⟩] w fun e w' => e = .returned (.tuple #[.string ⟨s.toArray⟩, .string ⟨#[]⟩, .bool false]) ∧ w' = w := by
  have ix := idx_one ⟨s.toArray⟩ 10 w
  simp only [cutN_none h] at ix
  clear h
  go_enter Tryd.func18, Tryd.ntmps18
  go_wp2_with
    (go_at_call 25; refine ix.mono ?_; rintro e w2 ⟨rfl, h2⟩; obtain rfl : w = w2 := h2.symm; clear ix)
  refine bodyPost_ret (v := .tuple #[.string ⟨s.toArray⟩, .string ⟨#[]⟩, .bool false]) (by simp [results, Tryd.results18, go_sem]) rfl ⟨rfl, rfl⟩

set_option maxRecDepth 100000 in
set_option maxHeartbeats 2000000 in
theorem slCut_some (h : cutN s = some (a, r)) (hs : s.length ≤ 9223372036854775807) (w : World) : Calls Tryd.prog 18 #[.string ⟨s.toArray⟩, .string ⟨#[10]⟩] w fun e w' => e = .returned (.tuple #[.string ⟨a.toArray⟩, .string ⟨r.toArray⟩, .bool true]) ∧ Below w.heap.size w w' := by
  have ix := idx_one ⟨s.toArray⟩ 10 w
  obtain ⟨h1, h2⟩ := cutN_some h
  simp only [h1] at ix
  have hl : s.length = a.length + 1 + r.length := by rw [h2]; simp; omega
  have HT : Hid (s.take a.length = a ∧ s.drop (a.length + 1) = r) := by
    show _ ∧ _
    rw [h2]
    refine ⟨by simp, ?_⟩
    rw [List.drop_append]
    simp
  obtain ⟨k, hk⟩ : ∃ x, a.length = x := ⟨_, rfl⟩
  rw [hk] at ix hl HT
  have c1 : (0 : Int) ≤ (k : Int) := by omega
  have c2 : (k : Int) ≤ (s.length : Int) := by omega
  have c3 : (0 : Int) ≤ (k : Int) + 1 := by omega
  have c4 : (k : Int) + 1 ≤ (s.length : Int) := by omega
  have c5 : decide ((0 : Int) ≤ (k : Int)) = true := decide_eq_true c1
  clear h h1 h2 hk hl
  go_enter Tryd.func18, Tryd.ntmps18
  go_wp2_with
    (go_at_call 25; refine ix.mono ?_; rintro e w2 ⟨rfl, h2⟩; obtain rfl : w = w2 := h2.symm; clear ix)
  go_region
  go_wp2_with fail
  refine bodyPost_ret (v := .tuple #[.string ((⟨s.toArray⟩ : ByteArray).extract 0 k), .string ((⟨s.toArray⟩ : ByteArray).extract (k + 1) s.length), .bool true]) (by simp [results, Tryd.results18, go_sem]) rfl ⟨?_, (Below.refl _ _).drew⟩
  rw [ext_take9, ext_drop9, HT.out.1, HT.out.2]

set_option maxRecDepth 100000 in
theorem cut_none (h : cutN s = none) (w : World) : Calls Tryd.prog 13 #[.string ⟨s.toArray⟩, .string ⟨#[10]⟩] w fun e w' => e = .returned (.tuple #[.string ⟨s.toArray⟩, .string ⟨#[]⟩, .bool false]) ∧ w' = w := by
  have ct := slCut_none h w
  clear h
  go_enter Tryd.func13, Tryd.ntmps13
  go_wp2_with
    (go_at_call 18; refine ct.mono ?_; rintro e w2 ⟨rfl, h2⟩; obtain rfl : w = w2 := h2.symm; clear ct)
  refine bodyPost_ret (v := .tuple #[.string ⟨s.toArray⟩, .string ⟨#[]⟩, .bool false]) (by simp [results, Tryd.results13, go_sem]) rfl ⟨rfl, rfl⟩

set_option maxRecDepth 100000 in
theorem cut_some (h : cutN s = some (a, r)) (hs : s.length ≤ 9223372036854775807) (w : World) : Calls Tryd.prog 13 #[.string ⟨s.toArray⟩, .string ⟨#[10]⟩] w fun e w' => e = .returned (.tuple #[.string ⟨a.toArray⟩, .string ⟨r.toArray⟩, .bool true]) ∧ Below w.heap.size w w' := by
  have ct := slCut_some h hs w
  clear h
  go_enter Tryd.func13, Tryd.ntmps13
  go_wp2_with
    (go_at_call 18; refine ct.mono ?_; rintro e w2 ⟨rfl, h2⟩; have H2 : Hid (Below w.heap.size w w2) := h2; clear ct h2)
  refine bodyPost_ret (v := .tuple #[.string ⟨a.toArray⟩, .string ⟨r.toArray⟩, .bool true]) (by simp [results, Tryd.results13, go_sem]) rfl ⟨rfl, H2.out⟩
end
end Go.Proofs.YtganeciagepcpaaDoor
