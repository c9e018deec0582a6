/- The contracts of package text's scanner, on: number, symbol. -/
import Derived.Test.YtganeciagepcpaaDoorTxSc
namespace Go.Proofs.YtganeciagepcpaaDoor
open Go.RowKit

section
variable {w : World} {b : Nat} {r p : List UInt8} {g : Bool}

theorem ext_drop9 (r : List UInt8) (k : Nat) : (⟨r.toArray⟩ : ByteArray).extract k r.length = ⟨(r.drop k).toArray⟩ := by
  apply ByteArray.ext
  simp [ByteArray.data_extract]
  exact List.take_of_length_le (by simp)
theorem num_end0 {n k : Nat} (h : ScanAt w b r g) (hN : numP r = (n, k)) (hk : k = 0) : ScanAt ((w.setCell ⟨b, 1, none⟩ (.bool true)).setCell ⟨b, 0, none⟩ (.string ((⟨r.toArray⟩ : ByteArray).extract k r.length))) b (r.drop (numP r).2) (g || (numP r).2 == 0) ∧ But b w ((w.setCell ⟨b, 1, none⟩ (.bool true)).setCell ⟨b, 0, none⟩ (.string ((⟨r.toArray⟩ : ByteArray).extract k r.length))) := by
  rw [ext_drop9, hN]
  have e : (g || k == 0) = true := by rw [hk]; simp
  refine ⟨?_, (But.set _ _ _).trans (But.set _ _ _)⟩
  show ScanAt _ b (r.drop k) (g || k == 0)
  rw [e]
  exact (h.set1 true).set0 _
theorem num_end1 {n k : Nat} (h : ScanAt w b r g) (hN : numP r = (n, k)) (hk : ¬ k = 0) : ScanAt (w.setCell ⟨b, 0, none⟩ (.string ((⟨r.toArray⟩ : ByteArray).extract k r.length))) b (r.drop (numP r).2) (g || (numP r).2 == 0) ∧ But b w (w.setCell ⟨b, 0, none⟩ (.string ((⟨r.toArray⟩ : ByteArray).extract k r.length))) := by
  rw [ext_drop9, hN]
  have e : (g || k == 0) = g := by simp [hk]
  refine ⟨?_, But.set _ _ _⟩
  show ScanAt _ b (r.drop k) (g || k == 0)
  rw [e]
  exact h.set0 _

set_option maxRecDepth 100000 in
set_option maxHeartbeats 3200000 in
theorem number_any (h : ScanAt w b r g) : Calls Tryd.prog 27 #[.pointer (some ⟨b, 0, none⟩)] w fun e w' => e = .returned (.int .i64 ((numP r).1 : Nat)) ∧ ScanAt w' b (r.drop (numP r).2) (g || (numP r).2 == 0) ∧ But b w w' := by
  have c0 : w.cell? ⟨b, 0, none⟩ = some (.string ⟨r.toArray⟩) := cell_bk9 h rfl
  have c1 : w.cell? ⟨b, 1, none⟩ = some (.bool g) := cell_bk9 h rfl
  have f0 : w.frozen? ⟨b, 0, none⟩ = false := frozen_bk9 h
  have f1 : w.frozen? ⟨b, 1, none⟩ = false := frozen_bk9 h
  have HS : Hid (ScanAt w b r g) := h
  clear h
  go_enter Tryd.func27, Tryd.ntmps27
  go_wp2_with fail
  go_loopw [3, 4] (fun s3 s4 wr => ∃ n k : Nat, s3 = .int .i64 n ∧ s4 = .int .i64 k ∧ k ≤ 4 ∧ k ≤ r.length ∧ n < 10 ^ k ∧ numL r (4 - k) n k = numP r ∧ wr = w) (fun _ s _ => 4 - (intOf s).toNat)
  case atStart => exact ⟨0, 0, rfl, rfl, by omega, by omega, by omega, rfl, rfl⟩
  case round =>
    obtain ⟨n, k, rfl, rfl, hk4, hkl, hn, hnum, rfl⟩ := hrel
    have hP : n < 10000 := Nat.lt_of_lt_of_le hn (Nat.pow_le_pow_right (by omega) hk4 : 10 ^ k ≤ 10 ^ 4)
    by_cases h1 : k < r.length ∧ k < 4
    · obtain ⟨f, hf⟩ : ∃ f, 4 - k = f + 1 := ⟨3 - k, by omega⟩
      have hf' : 4 - (k + 1) = f := by omega
      rw [hf, numL] at hnum
      have i1 : decide ((k : Int) < min (r.length : Int) 4) = true := decide_eq_true (by omega)
      have i2 : (k : Int) < min (r.length : Int) 4 := by omega
      have i3 : (k : Int) < (r.length : Int) := by omega
      have i4 : k < r.length := h1.1
      have i5 : (0 : Int) ≤ (k : Int) := by omega
      obtain ⟨c, hc⟩ : ∃ c, r.getD k 0 = c := ⟨_, rfl⟩
      have hb : (⟨r.toArray⟩ : ByteArray)[k]'(by simpa [ByteArray.size] using i4) = c := by
        rw [← hc]
        simp [ByteArray.getElem_eq_getElem_data, List.getD, i4]
      rw [hc, decide_eq_true i4] at hnum
      have dg := isDigit_any c wr
      cases hd : isD c with
      | false =>
        rw [hd] at dg
        rw [hd] at hnum
        simp only [Bool.true_and, Bool.false_and, Bool.false_eq_true, if_false] at hnum
        have HN : Hid (numP r = (n, k)) := hnum.symm
        clear hnum hn hd hc
        go_wp2_with
          (go_at_call 40; refine dg.mono ?_; rintro e w2 ⟨rfl, h2⟩; obtain rfl : wr = w2 := h2.symm; clear dg)
        · rename_i hz
          go_ret
          exact ⟨by rw [HN.out]; rfl, num_end0 HS.out HN.out (by simpa using hz)⟩
        · rename_i hz
          go_ret
          exact ⟨by rw [HN.out]; rfl, num_end1 HS.out HN.out (by simpa using hz)⟩
      | true =>
        rw [hd] at dg hnum
        have hD := hd
        simp only [isD, Bool.and_eq_true, decide_eq_true_eq] at hD
        by_cases hg : k = 0 ∨ 0 < n
        · have hgb : (k == 0 || decide (0 < n)) = true := by simpa using hg
          rw [hgb] at hnum
          simp only [Bool.true_and, if_true] at hnum
          have HN : Hid (numL r (4 - (k + 1)) (n * 10 + (c.toNat - 48)) (k + 1) = numP r) := by
            show _ = _
            rw [hf']
            exact hnum
          have HL : Hid (n * 10 + (c.toNat - 48) < 10 ^ (k + 1)) := by
            show _ < _
            rw [Nat.pow_succ]
            omega
          have n1 : ((n : Int) * 10 + ((c.toNat : Int) - 48)) = ((n * 10 + (c.toNat - 48) : Nat) : Int) := by omega
          clear hnum hn hd hc hgb
          by_cases hk0 : k = 0
          · have b1 : ((k : Int) == 0) = true := by simp [hk0]
            clear hk0 hg
            go_wp2_with
              (go_at_call 40; refine dg.mono ?_; rintro e w2 ⟨rfl, h2⟩; obtain rfl : wr = w2 := h2.symm; clear dg)
            go_roundw
            case rel => exact ⟨n * 10 + (c.toNat - 48), k + 1, by go_num, by go_num, by omega, by omega, HL.out, HN.out, by first | rfl | trivial⟩
            case measure => simp [intOf]; omega
          · have b1 : ((k : Int) == 0) = false := by simp [hk0]
            have b2 : decide ((0 : Int) < (n : Int)) = true := decide_eq_true (by omega)
            have b3 : decide ((n : Int) > 0) = true := b2
            have b4 : decide (0 < n) = true := decide_eq_true (by omega)
            go_wp2_with
              (go_at_call 40; refine dg.mono ?_; rintro e w2 ⟨rfl, h2⟩; obtain rfl : wr = w2 := h2.symm; clear dg)
            go_roundw
            case rel => exact ⟨n * 10 + (c.toNat - 48), k + 1, by go_num, by go_num, by omega, by omega, HL.out, HN.out, by first | rfl | trivial⟩
            case measure => simp [intOf]; omega
        · have hgb : (k == 0 || decide (0 < n)) = false := by simp; omega
          rw [hgb] at hnum
          simp only [Bool.and_false, Bool.false_eq_true, if_false] at hnum
          have HN : Hid (numP r = (n, k)) := hnum.symm
          have b1 : ((k : Int) == 0) = false := by simp; omega
          have b2 : decide ((0 : Int) < (n : Int)) = false := decide_eq_false (by omega)
          have b3 : decide ((n : Int) > 0) = false := b2
          have b4 : decide (0 < n) = false := decide_eq_false (by omega)
          clear hnum hn hd hc hgb
          go_wp2_with
            (go_at_call 40; refine dg.mono ?_; rintro e w2 ⟨rfl, h2⟩; obtain rfl : wr = w2 := h2.symm; clear dg)
          go_ret
          exact ⟨by rw [HN.out]; rfl, num_end1 HS.out HN.out (by omega)⟩
    · have i1 : decide ((k : Int) < min (r.length : Int) 4) = false := decide_eq_false (by omega)
      have i2 : ¬ (k : Int) < min (r.length : Int) 4 := by omega
      have HN : Hid (numP r = (n, k)) := by
        show _ = _
        rw [← hnum]
        by_cases h4 : k = 4
        · rw [h4, Nat.sub_self, numL]
        · obtain ⟨f, hf⟩ : ∃ f, 4 - k = f + 1 := ⟨3 - k, by omega⟩
          have hl : decide (k < r.length) = false := decide_eq_false (by omega)
          rw [hf, numL, hl]
          simp
      clear hnum hn
      go_wp2_with fail
      · rename_i hz
        go_ret
        exact ⟨by rw [HN.out]; rfl, num_end0 HS.out HN.out (by simpa using hz)⟩
      · rename_i hz
        go_ret
        exact ⟨by rw [HN.out]; rfl, num_end1 HS.out HN.out (by simpa using hz)⟩
end
end Go.Proofs.YtganeciagepcpaaDoor
