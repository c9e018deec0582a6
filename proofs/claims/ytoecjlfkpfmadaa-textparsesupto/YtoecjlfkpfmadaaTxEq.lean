/- Plain: a number as the program reads it and as the reference does. No program. -/
import Derived.Test.YtoecjlfkpfmadaaTxBk
import Derived.Test.YtoecjlfkpfmadaaTxRd
namespace Go.Proofs.Ytoecjlfkpfmadaa
open Go.RowKit

theorem valD_pos {w : List UInt8} (h0 : isD (w.getD 0 0) = true) (h48 : w.getD 0 0 ≠ 48) : ∀ {k : Nat}, k < w.length → 0 < valD (w.take (k + 1))
  | 0, h => by
    rw [valD_next h]
    simp only [isD, Bool.and_eq_true, decide_eq_true_eq] at h0
    have : (w.getD 0 0).toNat ≠ 48 := fun e => h48 (UInt8.toNat_inj.1 e)
    omega
  | k + 1, h => by
    rw [valD_next h]
    have := valD_pos h0 h48 (k := k) (by omega)
    omega
theorem numL_word {w t : List UInt8} (ht : NoD t) (hall : w.all isD = true) (h4 : w.length ≤ 4) (h48 : w.getD 0 0 ≠ 48) : ∀ (f k : Nat), k ≤ w.length → k + f = 4 → numL (w ++ t) f (valD (w.take k)) k = (valD w, w.length)
  | 0, k, hk, hf => by
    have : k = w.length := by omega
    rw [numL, this, List.take_length]
  | f + 1, k, hk, hf => by
    rw [numL]
    by_cases hlt : k < w.length
    · have hg : (w ++ t).getD k 0 = w.getD k 0 := by simp [List.getD, List.getElem?_append_left hlt]
      have hd : isD (w.getD k 0) = true := by
        rw [getD_at9 hlt]
        exact List.all_eq_true.1 hall _ (List.getElem_mem hlt)
      have hl : decide (k < (w ++ t).length) = true := decide_eq_true (by simp; omega)
      have hp : (k == 0 || decide (0 < valD (w.take k))) = true := by
        cases k with
        | zero => rfl
        | succ k =>
          have h0 : isD (w.getD 0 0) = true := by
            rw [getD_at9 (by omega)]
            exact List.all_eq_true.1 hall _ (List.getElem_mem _)
          simp [valD_pos h0 h48 (k := k) (by omega)]
      rw [hg, hd, hl, hp]
      simp only [Bool.and_self, if_true]
      rw [← valD_next hlt]
      exact numL_word ht hall h4 h48 f (k + 1) (by omega) (by omega)
    · have hk' : k = w.length := by omega
      have hg : (w ++ t).getD k 0 = t.getD 0 0 := by
        simp only [List.getD, hk']
        rw [List.getElem?_append_right (Nat.le_refl _), Nat.sub_self]
      unfold NoD at ht
      rw [hg, ht, hk', List.take_length]
      simp
/-- A word that is a number is read just so. -/
theorem num_word {w t : List UInt8} (h : numR w = true) (ht : NoD t) : numP (w ++ t) = (valD w, w.length) := by
  simp only [numR, Bool.and_eq_true, decide_eq_true_eq, Bool.not_eq_true'] at h
  obtain ⟨⟨⟨h1, h4⟩, hz⟩, hall⟩ := h
  by_cases h48 : w.getD 0 0 = 48
  · have hl : w.length = 1 := by
      by_cases h2 : 1 < w.length
      · rw [h48] at hz; simp [h2] at hz
      · omega
    match w, hl with
    | [b], _ =>
      have hb : b = 48 := h48
      subst hb
      simp only [numP, List.cons_append, List.nil_append]
      rw [numL]
      simp only [List.getD_cons_zero, show isD 48 = true by decide, List.length_cons, Nat.zero_lt_succ, decide_true, beq_self_eq_true, Bool.true_or, Bool.and_self, if_true]
      rw [numL]
      simp [valD]
  · exact numL_word ht hall h4 h48 4 0 (Nat.zero_le _) rfl
theorem numL_is {r : List UInt8} : ∀ (f n k : Nat), k ≤ r.length → k + f = 4 → (r.take k).all isD = true → valD (r.take k) = n → (k ≤ 1 ∨ r.getD 0 0 ≠ 48) →
    (numL r f n k).2 ≤ r.length ∧ (numL r f n k).2 ≤ 4 ∧ (r.take (numL r f n k).2).all isD = true ∧ valD (r.take (numL r f n k).2) = (numL r f n k).1 ∧ ((numL r f n k).2 ≤ 1 ∨ r.getD 0 0 ≠ 48)
  | 0, n, k, h1, h2, h3, h4, h5 => ⟨h1, (by omega : k ≤ 4), h3, h4, h5⟩
  | f + 1, n, k, h1, h2, h3, h4, h5 => by
    rw [numL]
    split
    · rename_i hc
      simp only [Bool.and_eq_true, decide_eq_true_eq, Bool.or_eq_true, beq_iff_eq] at hc
      obtain ⟨⟨hl, hd⟩, hp⟩ := hc
      refine numL_is f _ (k + 1) hl (by omega) (take_all hl h3 hd) (by rw [valD_next hl, h4]) ?_
      by_cases h48 : r.getD 0 0 = 48
      · left
        rcases hp with hp | hp
        · omega
        · rcases h5 with h5 | h5
          · have hk : k = 0 ∨ k = 1 := by omega
            rcases hk with hk | hk
            · omega
            · subst hk
              rw [valD_next (s := r) (i := 0) (by omega), h48] at h4
              simp [valD] at h4
              omega
          · exact absurd h48 h5
      · exact .inr h48
    · exact ⟨h1, by omega, h3, h4, h5⟩
/-- What is read is a word that is a number. -/
theorem num_is {r : List UInt8} (h : (numP r).2 ≠ 0) : numR (r.take (numP r).2) = true ∧ valD (r.take (numP r).2) = (numP r).1 ∧ (numP r).2 ≤ r.length := by
  obtain ⟨h1, h2, h3, h4, h5⟩ := numL_is (r := r) 4 0 0 (Nat.zero_le _) rfl (by simp) (by simp [valD]) (.inl (by omega))
  refine ⟨?_, h4, h1⟩
  have hlen : (r.take (numP r).2).length = (numP r).2 := by rw [List.length_take]; exact Nat.min_eq_left h1
  have hg : (r.take (numP r).2).getD 0 0 = r.getD 0 0 := by
    have h0 : 0 < (numP r).2 := by omega
    simp [List.getD, h0]
  have hz : ((r.take (numP r).2).getD 0 0 == 48 && decide (1 < (r.take (numP r).2).length)) = false := by
    rw [hg, hlen]
    rcases h5 with h5 | h5
    · have : ¬ 1 < (numP r).2 := by have h6 : (numP r).2 ≤ 1 := h5; omega
      simp [this]
    · simp only [beq_eq_false_iff_ne.2 h5, Bool.false_and]
  have h2' : (numP r).2 ≤ 4 := h2
  have h3' : (r.take (numP r).2).all isD = true := h3
  rw [hlen] at hz
  simp only [numR, h3', hlen, hz, decide_eq_true (show 1 ≤ (numP r).2 by omega), decide_eq_true h2', Bool.not_false, Bool.and_self]
end Go.Proofs.Ytoecjlfkpfmadaa
