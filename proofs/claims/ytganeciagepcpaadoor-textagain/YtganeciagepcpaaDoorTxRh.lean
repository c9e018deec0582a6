/- The contract of package text's readHead. -/
import Derived.Test.YtganeciagepcpaaDoorTxSy
import Derived.Deep.Cut
namespace Go.Proofs.YtganeciagepcpaaDoor
open Go.RowKit

def hdA (l : List UInt8) : Sc9 := wordS9 [116, 101, 114, 109, 115, 32] (l, false)
def hdB (l : List UInt8) : Sc9 := wordS9 [32, 110, 97, 109, 101, 115, 32] (numS9 (hdA l))
def hdT (l : List UInt8) : Nat := (numP (hdA l).1).1
def hdN (l : List UInt8) : Nat := (numP (hdB l).1).1
def hdOk (l : List UInt8) : Bool := !(numS9 (hdB l)).2 && (numS9 (hdB l)).1.isEmpty

section
variable {w w' a : World} {b : Nat} {s : Sc9} {r : List UInt8} {g : Bool}
theorem done_st (h : ScanAt w b s.1 s.2) : Calls Tryd.prog 28 #[.pointer (some ⟨b, 0, none⟩)] w fun e w' => e = .returned (.bool (!s.2 && s.1.isEmpty)) ∧ w' = w := done_any h
theorem scan_new (w : World) (l : List UInt8) : ScanAt (w.alloc (.cells #[.string ⟨l.toArray⟩, .bool false] 70)) w.heap.size (l, false).1 (l, false).2 := heap_alloc_new w _
theorem But.other {p : Nat} {u v : World} (h : But b w u) (k : But p u v) (hp : w.heap.size ≤ p) : But b w v :=
  ⟨k.os.trans h.os, k.tape.trans h.tape, k.output.trans h.output, Nat.le_trans h.size k.size, fun i hi hb => (k.block i (Nat.lt_of_lt_of_le hi h.size) (by omega)).trans (h.block i hi hb)⟩

set_option maxRecDepth 100000 in
set_option maxHeartbeats 3200000 in
theorem readHead_any {gb : Nat} {t n : Int} {x2 : Value} (l : List UInt8) (hg : w.heap[gb]? = some (.cells #[.int .i64 t, .int .i64 n, x2] 24 (0, 0))) : Calls Tryd.prog 19 #[.pointer (some ⟨gb, 0, none⟩), .string ⟨l.toArray⟩] w fun e w' => e = .returned (.bool (hdOk l)) ∧ w'.heap[gb]? = some (.cells #[.int .i64 (hdT l), .int .i64 (hdN l), x2] 24 (0, 0)) ∧ But gb w w' := by
  obtain ⟨W1, hW1⟩ : ∃ W, w.alloc (.cells #[.string ⟨l.toArray⟩, .bool false] 70) = W := ⟨_, rfl⟩
  obtain ⟨p, hp⟩ : ∃ x, w.heap.size = x := ⟨_, rfl⟩
  have h1 := scan_new w l
  rw [hW1, hp] at h1
  have hlt : gb < w.heap.size := (Array.getElem?_eq_some_iff.1 hg).1
  have hg1 : W1.heap[gb]? = some (.cells #[.int .i64 t, .int .i64 n, x2] 24 (0, 0)) := by rw [← hW1]; exact (Below.heap_alloc w _ gb hlt).trans hg
  have HB1 : Hid (But gb w W1 ∧ w.heap.size = p ∧ gb < p) := ⟨by rw [← hW1]; exact But.alloc _ _, hp, by omega⟩
  have HG1 : Hid (W1.heap[gb]? = some (.cells #[.int .i64 t, .int .i64 n, x2] 24 (0, 0))) := hg1
  have wd := word_st h1 [116, 101, 114, 109, 115, 32]
  have HA : Hid (hdA l = wordS9 [116, 101, 114, 109, 115, 32] (l, false)) := rfl
  rw [← HA.out] at wd
  have HW : Hid (w.alloc (.cells #[.string ⟨l.toArray⟩, .bool false] 70) = W1) := hW1
  clear hg h1 hlt hg1 hW1 hp
  go_enter Tryd.func19, Tryd.ntmps19
  go_upto_region 2 with fail
  rw [HW.out]
  rw [HB1.out.2.1]
  go_wp2_with
    (first
     | (go_at_call 26; refine wd.mono ?_; rintro e w2 ⟨rfl, h2, h3⟩
        have nu := number_st h2
        have H2 : Hid (But p W1 w2) := h3
        clear wd h2 h3)
     | (go_at_call 27; refine nu.mono ?_; rintro e w3 ⟨rfl, h2, h3⟩
        have hq := (H2.out.trans h3).block gb (Array.getElem?_eq_some_iff.1 HG1.out).1 (by have := HB1.out.2.2; omega)
        rw [HG1.out] at hq
        have c0 : w3.cell? ⟨gb, 0, none⟩ = some (.int .i64 t) := cell_bk9 hq rfl
        have f0 : w3.frozen? ⟨gb, 0, none⟩ = false := frozen_bk9 hq
        obtain ⟨w4, hw4⟩ : ∃ x, w3.setCell ⟨gb, 0, none⟩ (.int .i64 ((numP (hdA l).1).1 : Nat)) = x := ⟨_, rfl⟩
        have H4 : Hid (But gb w w4 ∧ w4.heap[gb]? = some (.cells #[.int .i64 (hdT l), .int .i64 n, x2] 24 (0, 0))) := by
          rw [← hw4]
          exact ⟨(HB1.out.1.other (H2.out.trans h3) (by have := HB1.out.2.1; omega)).trans (But.set _ _ _), Lib.heap_setCell_same hq _⟩
        have h4 : ScanAt w4 p (numS9 (hdA l)).1 (numS9 (hdA l)).2 := by rw [← hw4]; exact h2.setO (by have := HB1.out.2.2; omega) _ _
        have wo := word_st h4 [32, 110, 97, 109, 101, 115, 32]
        have HBd : Hid (hdB l = wordS9 [32, 110, 97, 109, 101, 115, 32] (numS9 (hdA l))) := rfl
        rw [← HBd.out] at wo
        clear nu h2 h3 hq h4)
     | (go_at_call 26; refine wo.mono ?_; rintro e w5 ⟨rfl, h2, h3⟩
        have nb := number_st h2
        have H5 : Hid (But p w4 w5) := h3
        clear wo h2 h3)
     | (go_at_call 27; refine nb.mono ?_; rintro e w6 ⟨rfl, h2, h3⟩
        have hq := (H5.out.trans h3).block gb (Array.getElem?_eq_some_iff.1 H4.out.2).1 (by have := HB1.out.2.2; omega)
        rw [H4.out.2] at hq
        have c1 : w6.cell? ⟨gb, 1, none⟩ = some (.int .i64 n) := cell_bk9 hq rfl
        have f1 : w6.frozen? ⟨gb, 1, none⟩ = false := frozen_bk9 hq
        obtain ⟨w7, hw7⟩ : ∃ x, w6.setCell ⟨gb, 1, none⟩ (.int .i64 ((numP (hdB l).1).1 : Nat)) = x := ⟨_, rfl⟩
        have H7 : Hid (But gb w w7 ∧ w7.heap[gb]? = some (.cells #[.int .i64 (hdT l), .int .i64 (hdN l), x2] 24 (0, 0))) := by
          rw [← hw7]
          exact ⟨(H4.out.1.other (H5.out.trans h3) (by have := HB1.out.2.1; omega)).trans (But.set _ _ _), Lib.heap_setCell_same hq _⟩
        have h4 : ScanAt w7 p (numS9 (hdB l)).1 (numS9 (hdB l)).2 := by rw [← hw7]; exact h2.setO (by have := HB1.out.2.2; omega) _ _
        have dn := done_st h4
        clear nb h2 h3 hq h4)
     | (go_at_call 28; refine dn.mono ?_; rintro e w8 ⟨rfl, h8⟩; obtain rfl : w7 = w8 := h8.symm; clear dn))
  go_ret
  exact ⟨rfl, H7.out.2, H7.out.1⟩
end
end Go.Proofs.YtganeciagepcpaaDoor
