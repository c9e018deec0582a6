/- The contracts of package text's scanner, on: symbol. -/
import Derived.Test.YtganeciagepcpaaDoorTxNu
namespace Go.Proofs.YtganeciagepcpaaDoor
open Go.RowKit

/-- What a scanner has left, and whether it is wrong. -/
abbrev Sc9 := List UInt8 × Bool
def wordS9 (p : List UInt8) (s : Sc9) : Sc9 := (Lib.trimPrefix s.1 p, s.2 || !Lib.hasPrefix s.1 p)
def numS9 (s : Sc9) : Sc9 := (s.1.drop (numP s.1).2, s.2 || (numP s.1).2 == 0)
def symM9 (s : Sc9) : Bool := Lib.hasPrefix (wordS9 [32] s).1 [116]
def symC9 (s : Sc9) : Sc9 := (Lib.trimPrefix (wordS9 [32] s).1 [116], (wordS9 [32] s).2)
def symB9 (s : Sc9) : Sc9 := if symM9 s then symC9 s else wordS9 [110] (symC9 s)
def symS9 (s : Sc9) : Sc9 := numS9 (symB9 s)

section
variable {w w' a : World} {b : Nat} {s : Sc9} {r : List UInt8} {g : Bool}
theorem word_st (h : ScanAt w b s.1 s.2) (p : List UInt8) : Calls Tryd.prog 26 #[.pointer (some ⟨b, 0, none⟩), .string ⟨p.toArray⟩] w fun e w' => e = .returned (.tuple #[]) ∧ ScanAt w' b (wordS9 p s).1 (wordS9 p s).2 ∧ But b w w' := word_any h p
theorem number_st (h : ScanAt w b s.1 s.2) : Calls Tryd.prog 27 #[.pointer (some ⟨b, 0, none⟩)] w fun e w' => e = .returned (.int .i64 ((numP s.1).1 : Nat)) ∧ ScanAt w' b (numS9 s).1 (numS9 s).2 ∧ But b w w' := number_any h
theorem takes_st (h : ScanAt w b (wordS9 [32] s).1 (wordS9 [32] s).2) : Calls Tryd.prog 39 #[.pointer (some ⟨b, 0, none⟩), .string ⟨[116].toArray⟩] w fun e w' => e = .returned (.bool (symM9 s)) ∧ ScanAt w' b (symC9 s).1 (symC9 s).2 ∧ But b w w' := takes_any h [116]

theorem ScanAt.alloc (h : ScanAt w b r g) (o : Obj) : ScanAt (w.alloc o) b r g := (Below.heap_alloc w o b h.lt).trans h
theorem But.alloc (b : Nat) (o : Obj) : But b w (w.alloc o) := But.of b ((Below.refl _ _).alloc (Nat.le_refl _) o)
theorem But.setNew (h : But b a w) {p : Nat} (hp : a.heap.size ≤ p) (i : Nat) (u : Value) : But b a (w.setCell ⟨p, i, none⟩ u) := by
  have k : Below 0 w (w.setCell ⟨p, i, none⟩ u) := (Below.refl _ _).setCell (Nat.zero_le _) u
  exact ⟨k.os.trans h.os, k.tape.trans h.tape, k.output.trans h.output, Nat.le_trans h.size k.size, fun j hj hb => (Below.heap_setCell w _ u j (by show j ≠ p; omega)).trans (h.block j hj hb)⟩
theorem ScanAt.setO (h : ScanAt w b r g) {p : Nat} (hp : p ≠ b) (i : Nat) (u : Value) : ScanAt (w.setCell ⟨p, i, none⟩ u) b r g := (Below.heap_setCell w _ u b (by show b ≠ p; omega)).trans h

set_option maxRecDepth 100000 in
set_option maxHeartbeats 3200000 in
theorem symbol_any (h : ScanAt w b s.1 s.2) : Calls Tryd.prog 30 #[.pointer (some ⟨b, 0, none⟩)] w fun e w' => e = .returned (.agg #[.bool (symM9 s), .int .i64 ((numP (symB9 s).1).1 : Nat)]) ∧ ScanAt w' b (symS9 s).1 (symS9 s).2 ∧ But b w w' := by
  obtain ⟨W1, hW1⟩ : ∃ W, w.alloc (.cells #[.bool false, .int .i64 0] 51) = W := ⟨_, rfl⟩
  obtain ⟨p, hp⟩ : ∃ x, w.heap.size = x := ⟨_, rfl⟩
  have hx := heap_alloc_new w (.cells #[.bool false, .int .i64 0] 51)
  rw [hW1, hp] at hx
  have hB1 : But b w W1 := by rw [← hW1]; exact But.alloc _ _
  have h1 : ScanAt W1 b s.1 s.2 := by rw [← hW1]; exact h.alloc _
  have hlt := h.lt
  rw [hp] at hlt
  have HG : Hid (∀ wq, But b W1 wq → wq.heap[p]? = some (.cells #[.bool false, .int .i64 0] 51 (0, 0)) ∧ But b w wq) := fun wq hq =>
    ⟨(hq.block p (Array.getElem?_eq_some_iff.1 hx).1 (by omega)).trans hx, hB1.trans hq⟩
  have HP : Hid (w.heap.size = p ∧ b < p) := ⟨hp, hlt⟩
  have wd := word_st h1 [32]
  clear h hx hB1 h1 hlt
  cases hT : symM9 s with
  | true =>
    have hB : symB9 s = symC9 s := by unfold symB9; rw [hT]; rfl
    have HS : Hid (symS9 s = numS9 (symC9 s) ∧ symB9 s = symC9 s) := ⟨by unfold symS9; rw [hB], hB⟩
    have HT : Hid (symM9 s = true) := hT
    clear hT hB
    go_enter Tryd.func30, Tryd.ntmps30
    go_wp2_with
      (first
       | (go_at_call 26; refine wd.mono ?_; rintro e w2 ⟨rfl, h2, h3⟩
          have tk := takes_st h2
          rw [HT.out] at tk
          have H2 : Hid (But b W1 w2) := h3
          clear wd h2 h3)
       | (go_at_call 39; refine tk.mono ?_; rintro e w3 ⟨rfl, h2, h3⟩
          have nu := number_st h2
          have H3 : Hid (But b W1 w3) := H2.out.trans h3
          clear tk h2 h3)
       | (go_at_call 27; refine nu.mono ?_; rintro e w4 ⟨rfl, h2, h3⟩
          have H4 : Hid (But b W1 w4 ∧ ScanAt w4 b (numS9 (symC9 s)).1 (numS9 (symC9 s)).2) := ⟨H3.out.trans h3, h2⟩
          have hq := (HG.out w4 H4.out.1).1
          have c0 : w4.cell? ⟨p, 0, none⟩ = some (.bool false) := cell_bk9 hq rfl
          have c1 : w4.cell? ⟨p, 1, none⟩ = some (.int .i64 0) := cell_bk9 hq rfl
          have f0 : w4.frozen? ⟨p, 0, none⟩ = false := frozen_bk9 hq
          have f1 : w4.frozen? ⟨p, 1, none⟩ = false := frozen_bk9 hq
          clear nu h2 h3 hq))
    have hq := Lib.heap_setCell_same (i := 1) (Lib.heap_setCell_same (i := 0) (HG.out w4 H4.out.1).1 (.bool true)) (.int .i64 ((numP (symC9 s).1).1 : Nat))
    have x0 := cell_bk9 (i := 0) hq rfl
    have x1 := cell_bk9 (i := 1) hq rfl
    refine bodyPost_ret (v := .agg #[.bool true, .int .i64 ((numP (symC9 s).1).1 : Nat)]) (by simp [results, Tryd.results30, go_sem, x0, x1]) rfl ⟨by rw [HS.out.2], ?_, ?_⟩
    · rw [HS.out.1]
      exact (H4.out.2.setO (by have := HP.out.2; omega) _ _).setO (by have := HP.out.2; omega) _ _
    · exact ((HG.out w4 H4.out.1).2.setNew (by have := HP.out.1; omega) _ _).setNew (by have := HP.out.1; omega) _ _
  | false =>
    have hB : symB9 s = wordS9 [110] (symC9 s) := by unfold symB9; rw [hT]; rfl
    have HS : Hid (symS9 s = numS9 (wordS9 [110] (symC9 s)) ∧ symB9 s = wordS9 [110] (symC9 s)) := ⟨by unfold symS9; rw [hB], hB⟩
    have HT : Hid (symM9 s = false) := hT
    clear hT hB
    go_enter Tryd.func30, Tryd.ntmps30
    go_wp2_with
      (first
       | (go_at_call 26; refine wd.mono ?_; rintro e w2 ⟨rfl, h2, h3⟩
          have tk := takes_st h2
          rw [HT.out] at tk
          have H2 : Hid (But b W1 w2) := h3
          clear wd h2 h3)
       | (go_at_call 39; refine tk.mono ?_; rintro e w3 ⟨rfl, h2, h3⟩
          have wo := word_st h2 [110]
          have H3 : Hid (But b W1 w3) := H2.out.trans h3
          clear tk h2 h3)
       | (go_at_call 26; refine wo.mono ?_; rintro e w5 ⟨rfl, h2, h3⟩
          have nu := number_st h2
          have H5 : Hid (But b W1 w5) := H3.out.trans h3
          clear wo h2 h3)
       | (go_at_call 27; refine nu.mono ?_; rintro e w4 ⟨rfl, h2, h3⟩
          have H4 : Hid (But b W1 w4 ∧ ScanAt w4 b (numS9 (wordS9 [110] (symC9 s))).1 (numS9 (wordS9 [110] (symC9 s))).2) := ⟨H5.out.trans h3, h2⟩
          have hq := (HG.out w4 H4.out.1).1
          have c0 : w4.cell? ⟨p, 0, none⟩ = some (.bool false) := cell_bk9 hq rfl
          have c1 : w4.cell? ⟨p, 1, none⟩ = some (.int .i64 0) := cell_bk9 hq rfl
          have f0 : w4.frozen? ⟨p, 0, none⟩ = false := frozen_bk9 hq
          have f1 : w4.frozen? ⟨p, 1, none⟩ = false := frozen_bk9 hq
          clear nu h2 h3 hq))
    have hq := Lib.heap_setCell_same (i := 1) (Lib.heap_setCell_same (i := 0) (HG.out w4 H4.out.1).1 (.bool false)) (.int .i64 ((numP (wordS9 [110] (symC9 s)).1).1 : Nat))
    have x0 := cell_bk9 (i := 0) hq rfl
    have x1 := cell_bk9 (i := 1) hq rfl
    refine bodyPost_ret (v := .agg #[.bool false, .int .i64 ((numP (wordS9 [110] (symC9 s)).1).1 : Nat)]) (by simp [results, Tryd.results30, go_sem, x0, x1]) rfl ⟨by rw [HS.out.2], ?_, ?_⟩
    · rw [HS.out.1]
      exact (H4.out.2.setO (by have := HP.out.2; omega) _ _).setO (by have := HP.out.2; omega) _ _
    · exact ((HG.out w4 H4.out.1).2.setNew (by have := HP.out.1; omega) _ _).setNew (by have := HP.out.1; omega) _ _
end
end Go.Proofs.YtganeciagepcpaaDoor
