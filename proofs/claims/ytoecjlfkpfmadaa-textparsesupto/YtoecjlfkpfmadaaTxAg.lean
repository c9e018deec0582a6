/- Plain: what text.Parse takes is just a grammar's text. No program. -/
import Derived.Test.YtoecjlfkpfmadaaTxPa
import Derived.Test.YtoecjlfkpfmadaaTxMath
namespace Go.Proofs.Ytoecjlfkpfmadaa
open Go.RowKit

theorem word_took {p : List UInt8} {s : Sc9} (h : (wordS9 p s).2 = false) : s.2 = false ∧ s.1 = p ++ (wordS9 p s).1 := by
  simp only [wordS9, Bool.or_eq_false_iff, Bool.not_eq_false'] at h
  refine ⟨h.1, ?_⟩
  have hp : p <+: s.1 := List.isPrefixOf_iff_prefix.1 h.2
  obtain ⟨t, ht⟩ := hp
  simp only [wordS9, Lib.trimPrefix, h.2, if_true]
  rw [← ht]
  simp
theorem byte_dig {c : UInt8} (h : isD c = true) : c.toNat - 48 < 10 ∧ UInt8.ofNat (48 + (c.toNat - 48)) = c := by
  simp only [isD, Bool.and_eq_true, decide_eq_true_eq] at h
  refine ⟨by omega, ?_⟩
  rw [show 48 + (c.toNat - 48) = c.toNat by omega]
  simp
theorem take_on {r : List UInt8} {k : Nat} (h : k < r.length) : r.take (k + 1) = r.take k ++ [r.getD k 0] := by
  rw [List.take_succ_eq_append_getElem h, getD_at9 h]
theorem num_dec {r : List UInt8} : ∀ (f n k : Nat), 0 < n → 0 < k → r.take k = Lib.decDigits n → r.take (numL r f n k).2 = Lib.decDigits (numL r f n k).1
  | 0, n, k, _, _, h => h
  | f + 1, n, k, hn, hk, h => by
    rw [numL]
    split
    · rename_i hc
      simp only [Bool.and_eq_true, decide_eq_true_eq] at hc
      obtain ⟨⟨h1, h2⟩, _⟩ := hc
      obtain ⟨h3, h4⟩ := byte_dig h2
      refine num_dec f _ _ (by omega) (by omega) ?_
      rw [take_on h1, h, dec_two (n := n * 10 + ((r.getD k 0).toNat - 48)) (by omega), show (n * 10 + ((r.getD k 0).toNat - 48)) / 10 = n by omega, show (n * 10 + ((r.getD k 0).toNat - 48)) % 10 = (r.getD k 0).toNat - 48 by omega, h4]
    · exact h
theorem num_text {r : List UInt8} (h : (numP r).2 ≠ 0) : r.take (numP r).2 = Lib.decDigits (numP r).1 := by
  unfold numP at h ⊢
  rw [numL] at h ⊢
  split
  · rename_i hc
    simp only [Bool.and_eq_true, decide_eq_true_eq] at hc
    obtain ⟨⟨h1, h2⟩, _⟩ := hc
    obtain ⟨h3, h4⟩ := byte_dig h2
    by_cases hz : (r.getD 0 0).toNat - 48 = 0
    · rw [hz, Nat.zero_mul, Nat.zero_add, numL]
      simp only [Nat.zero_add, Nat.lt_irrefl, decide_false, Bool.or_false, show ((1 : Nat) == 0) = false from rfl, Bool.and_false, Bool.false_eq_true, if_false]
      rw [take_on h1, dec_one (by omega), ← h4, hz]
      simp
    · refine num_dec 3 _ _ (by omega) (by omega) ?_
      rw [take_on h1, dec_one (by omega)]
      simp only [List.take_zero, List.nil_append, Nat.zero_mul, Nat.zero_add]
      rw [h4]
  · rename_i hc
    rw [if_neg hc] at h
    exact absurd rfl h
theorem num_took {s : Sc9} (h : (numS9 s).2 = false) : s.2 = false ∧ s.1 = Lib.decDigits (numP s.1).1 ++ (numS9 s).1 := by
  simp only [numS9, Bool.or_eq_false_iff, beq_eq_false_iff_ne] at h
  refine ⟨h.1, ?_⟩
  rw [← num_text h.2]
  simp [numS9]
theorem sym_took {s : Sc9} (h : (symS9 s).2 = false) : s.2 = false ∧ s.1 = symT9 (symM9 s, ((numP (symB9 s).1).1 : Int)) ++ (symS9 s).1 := by
  obtain ⟨h1, h2⟩ := num_took (s := symB9 s) h
  have key : (wordS9 [32] s).2 = false ∧ (wordS9 [32] s).1 = (if symM9 s then 116 else 110) :: (symB9 s).1 := by
    unfold symB9 at h1 ⊢
    cases hm : symM9 s with
    | true =>
      rw [hm] at h1
      simp only [if_true] at h1 ⊢
      refine ⟨h1, ?_⟩
      have hp : [116] <+: (wordS9 [32] s).1 := List.isPrefixOf_iff_prefix.1 hm
      obtain ⟨t, ht⟩ := hp
      have hm' : Lib.hasPrefix (wordS9 [32] s).1 [116] = true := hm
      simp only [symC9, Lib.trimPrefix, hm', if_true]
      rw [← ht]
      simp
    | false =>
      rw [hm] at h1
      simp only [Bool.false_eq_true, if_false] at h1 ⊢
      obtain ⟨h3, h4⟩ := word_took h1
      refine ⟨h3, ?_⟩
      have hm' : Lib.hasPrefix (wordS9 [32] s).1 [116] = false := hm
      have h5 : (symC9 s).1 = (wordS9 [32] s).1 := by simp [symC9, Lib.trimPrefix, hm']
      rw [← h5, h4]
      rfl
  obtain ⟨h3, h4⟩ := word_took key.1
  refine ⟨h3, ?_⟩
  conv => lhs; rw [h4, key.2, h2]
  simp [symT9, symS9]
end Go.Proofs.Ytoecjlfkpfmadaa
