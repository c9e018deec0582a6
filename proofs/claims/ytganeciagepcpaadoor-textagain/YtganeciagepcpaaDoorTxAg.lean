/- Plain: what text.Parse takes is just a grammar's text. No program. -/
import Derived.Test.YtganeciagepcpaaDoorTxPa
import Derived.Test.YtganeciagepcpaaDoorTxMath
namespace Go.Proofs.YtganeciagepcpaaDoor
open Go.RowKit

theorem word_took {p : List UInt8} {s : Sc9} (h : (wordS9 p s).2 = false) : s.2 = false ∧ s.1 = p ++ (wordS9 p s).1 := by
  simp only [wordS9, Bool.or_eq_false_iff, Bool.not_eq_false'] at h
  refine ⟨h.1, ?_⟩
  have hp : p <+: s.1 := List.isPrefixOf_iff_prefix.1 h.2
  obtain ⟨t, ht⟩ := hp
  simp only [wordS9, Lib.trimPrefix, h.2, if_true]
  rw [← ht]
  simp
theorem byte_dig {c : UInt8} (h : isD c = true) : c.toNat - 48 < 10 ∧ UInt8.ofNat (48 + (c.toNat - 48)) = c := by
  simp only [isD, Bool.and_eq_true, decide_eq_true_eq] at h
  refine ⟨by omega, ?_⟩
  rw [show 48 + (c.toNat - 48) = c.toNat by omega]
  simp
theorem take_on {r : List UInt8} {k : Nat} (h : k < r.length) : r.take (k + 1) = r.take k ++ [r.getD k 0] := by
  rw [List.take_succ_eq_append_getElem h, getD_at9 h]
theorem num_dec {r : List UInt8} : ∀ (f n k : Nat), 0 < n → 0 < k → r.take k = Lib.decDigits n → r.take (numL r f n k).2 = Lib.decDigits (numL r f n k).1
  | 0, n, k, _, _, h => h
  | f + 1, n, k, hn, hk, h => by
    rw [numL]
    split
    · rename_i hc
      simp only [Bool.and_eq_true, decide_eq_true_eq] at hc
      obtain ⟨⟨h1, h2⟩, _⟩ := hc
      obtain ⟨h3, h4⟩ := byte_dig h2
      refine num_dec f _ _ (by omega) (by omega) ?_
      rw [take_on h1, h, dec_two (n := n * 10 + ((r.getD k 0).toNat - 48)) (by omega), show (n * 10 + ((r.getD k 0).toNat - 48)) / 10 = n by omega, show (n * 10 + ((r.getD k 0).toNat - 48)) % 10 = (r.getD k 0).toNat - 48 by omega, h4]
    · exact h
theorem num_text {r : List UInt8} (h : (numP r).2 ≠ 0) : r.take (numP r).2 = Lib.decDigits (numP r).1 := by
  unfold numP at h ⊢
  rw [numL] at h ⊢
  split
  · rename_i hc
    simp only [Bool.and_eq_true, decide_eq_true_eq] at hc
    obtain ⟨⟨h1, h2⟩, _⟩ := hc
    obtain ⟨h3, h4⟩ := byte_dig h2
    by_cases hz : (r.getD 0 0).toNat - 48 = 0
    · rw [hz, Nat.zero_mul, Nat.zero_add, numL]
      simp only [Nat.zero_add, Nat.lt_irrefl, decide_false, Bool.or_false, show ((1 : Nat) == 0) = false from rfl, Bool.and_false, Bool.false_eq_true, if_false]
      rw [take_on h1, dec_one (by omega), ← h4, hz]
      simp
    · refine num_dec 3 _ _ (by omega) (by omega) ?_
      rw [take_on h1, dec_one (by omega)]
      simp only [List.take_zero, List.nil_append, Nat.zero_mul, Nat.zero_add]
      rw [h4]
  · rename_i hc
    rw [if_neg hc] at h
    exact absurd rfl h
theorem num_took {s : Sc9} (h : (numS9 s).2 = false) : s.2 = false ∧ s.1 = Lib.decDigits (numP s.1).1 ++ (numS9 s).1 := by
  simp only [numS9, Bool.or_eq_false_iff, beq_eq_false_iff_ne] at h
  refine ⟨h.1, ?_⟩
  rw [← num_text h.2]
  simp [numS9]
theorem sym_took {s : Sc9} (h : (symS9 s).2 = false) : s.2 = false ∧ s.1 = symT9 (symM9 s, ((numP (symB9 s).1).1 : Int)) ++ (symS9 s).1 := by
  obtain ⟨h1, h2⟩ := num_took (s := symB9 s) h
  have key : (wordS9 [32] s).2 = false ∧ (wordS9 [32] s).1 = (if symM9 s then 116 else 110) :: (symB9 s).1 := by
    unfold symB9 at h1 ⊢
    cases hm : symM9 s with
    | true =>
      rw [hm] at h1
      simp only [if_true] at h1 ⊢
      refine ⟨h1, ?_⟩
      have hp : [116] <+: (wordS9 [32] s).1 := List.isPrefixOf_iff_prefix.1 hm
      obtain ⟨t, ht⟩ := hp
      have hm' : Lib.hasPrefix (wordS9 [32] s).1 [116] = true := hm
      simp only [symC9, Lib.trimPrefix, hm', if_true]
      rw [← ht]
      simp
    | false =>
      rw [hm] at h1
      simp only [Bool.false_eq_true, if_false] at h1 ⊢
      obtain ⟨h3, h4⟩ := word_took h1
      refine ⟨h3, ?_⟩
      have hm' : Lib.hasPrefix (wordS9 [32] s).1 [116] = false := hm
      have h5 : (symC9 s).1 = (wordS9 [32] s).1 := by simp [symC9, Lib.trimPrefix, hm']
      rw [← h5, h4]
      rfl
  obtain ⟨h3, h4⟩ := word_took key.1
  refine ⟨h3, ?_⟩
  conv => lhs; rw [h4, key.2, h2]
  simp [symT9, symS9]
theorem syms_len : ∀ (f : Nat) (s : Sc9) (A : List Sy), A.length ≤ (symsL f s A).2.length
  | 0, _, _ => Nat.le_refl _
  | f + 1, s, A => by
    rw [symsL]
    split
    · refine Nat.le_trans ?_ (syms_len f _ _)
      split <;> simp
    · exact Nat.le_refl _
theorem syms_took : ∀ (f : Nat) (s : Sc9) (A : List Sy), (symsL f s A).1.2 = false → (symsL f s A).2.length ≤ 8 → s.2 = false ∧ ∃ L, (symsL f s A).2 = A ++ L ∧ s.1 = (L.map symT9).flatten ++ (symsL f s A).1.1
  | 0, s, A, h, _ => ⟨h, [], by simp [symsL], by simp [symsL]⟩
  | f + 1, s, A, h, h8 => by
    rw [symsL] at h h8 ⊢
    split at h
    · rename_i hc
      rw [if_pos hc] at h8 ⊢
      have hl := syms_len f (symS9 s) (if A.length ≤ 8 then A ++ [(symM9 s, ((numP (symB9 s).1).1 : Int))] else A)
      by_cases ha : A.length ≤ 8
      · rw [if_pos ha] at h h8 hl ⊢
        obtain ⟨h1, L, h2, h3⟩ := syms_took f _ _ h h8
        obtain ⟨h4, h5⟩ := sym_took h1
        refine ⟨h4, (symM9 s, ((numP (symB9 s).1).1 : Int)) :: L, by rw [h2]; simp, ?_⟩
        rw [h5, h3]
        simp
      · rw [if_neg ha] at h8 hl
        omega
    · rename_i hc
      rw [if_neg hc]
      exact ⟨h, [], by simp, by simp⟩
theorem head_took {a : List UInt8} (h : hdOk a = true) : a ++ [10] = headB9 (hdT a) (hdN a) := by
  simp only [hdOk, Bool.and_eq_true, Bool.not_eq_true', List.isEmpty_iff] at h
  obtain ⟨h1, h2⟩ := num_took h.1
  obtain ⟨h3, h4⟩ := word_took h1
  obtain ⟨h5, h6⟩ := num_took h3
  obtain ⟨_, h7⟩ := word_took h5
  rw [h.2, List.append_nil] at h2
  have h7' : a = [116, 101, 114, 109, 115, 32] ++ (hdA a).1 := h7
  have h4' : (numS9 (hdA a)).1 = [32, 110, 97, 109, 101, 115, 32] ++ (hdB a).1 := h4
  unfold headB9 hdT hdN
  conv => lhs; rw [h7', h6, h4', h2]
  simp
theorem rule_took {a : List UInt8} (h : rlOk a = true) (h8 : (rlE a).2.length ≤ 8) : a ++ [10] = ruleB9 ((rlL a : Int), (rlE a).2) := by
  simp only [rlOk, Bool.and_eq_true, Bool.not_eq_true', List.isEmpty_iff] at h
  obtain ⟨h1, L, h2, h3⟩ := syms_took _ _ _ h.1 h8
  obtain ⟨h4, h5⟩ := word_took h1
  obtain ⟨h6, h7⟩ := num_took h4
  obtain ⟨_, h9⟩ := word_took h6
  have e1 : a = [110] ++ (rlA a).1 := h9
  have e2 : (numS9 (rlA a)).1 = [58] ++ (rlB a).1 := h5
  have e3 : (rlE a).2 = L := h2
  have e4 : (rlB a).1 = (L.map symT9).flatten := by rw [h3]; rw [show (symsL ((rlB a).1.length + 1) (rlB a) []).1.1 = [] from h.2]; simp
  unfold ruleB9 leftB9 rlL
  rw [e3]
  conv => lhs; rw [e1, h7, e2, e4]
  simp
theorem lines_len : ∀ (f : Nat) (s : List UInt8) (k T N : Nat) (R : List Ru), R.length ≤ (lines9 f s k T N R).1.2.2.length
  | 0, _, _, _, _, _ => Nat.le_refl _
  | f + 1, s, k, T, N, R => by
    rw [lines9]
    split
    · exact Nat.le_refl _
    · split
      · exact Nat.le_refl _
      · split
        · split
          · exact lines_len f _ _ _ _ _
          · exact Nat.le_refl _
        · split
          · refine Nat.le_trans ?_ (lines_len f _ _ _ _ _)
            unfold lineR
            split <;> simp
          · exact Nat.le_refl _
theorem lines_took : ∀ (f : Nat) (s : List UInt8) (k T N : Nat) (R : List Ru), k ≠ 0 → s.length < f → (lines9 f s k T N R).2.2 = true → (lines9 f s k T N R).1.2.2.length ≤ 40 → (∀ r ∈ (lines9 f s k T N R).1.2.2, r.2.length ≤ 8) →
    (lines9 f s k T N R).1.1 = T ∧ (lines9 f s k T N R).1.2.1 = N ∧ ∃ R1, (lines9 f s k T N R).1.2.2 = R ++ R1 ∧ s = (R1.map ruleB9).flatten
  | 0, s, k, T, N, R, _, h, _, _, _ => by omega
  | f + 1, s, k, T, N, R, hk, hf, hok, h40, h8 => by
    rw [lines9] at hok h40 h8 ⊢
    cases he : s.isEmpty with
    | true =>
      simp only [if_true]
      exact ⟨trivial, trivial, [], by simp, by simpa using he⟩
    | false =>
      simp only [he, Bool.false_eq_true, if_false] at hok h40 h8 ⊢
      cases hc : cutN s with
      | none => rw [hc] at hok; simp at hok
      | some ar =>
        obtain ⟨a, r⟩ := ar
        simp only [hc, if_neg hk] at hok h40 h8 ⊢
        cases hr : rlOk a with
        | false => simp [hr] at hok
        | true =>
          simp only [hr, if_true] at hok h40 h8 ⊢
          have hs := (cutN_some hc).2
          have hl : r.length < f := by rw [hs] at hf; simp at hf; omega
          obtain ⟨h1, h2, R1, h3, h4⟩ := lines_took f r (k + 1) T N (lineR a R) (by omega) hl hok h40 h8
          have hlen := lines_len f r (k + 1) T N (lineR a R)
          refine ⟨h1, h2, ?_⟩
          by_cases hR : R.length ≤ 40
          · have hline : lineR a R = R ++ [((rlL a : Int), (rlE a).2)] := by simp [lineR, hr, hR]
            have hx := h8 ((rlL a : Int), (rlE a).2) (by rw [h3, hline]; simp)
            refine ⟨((rlL a : Int), (rlE a).2) :: R1, by rw [h3, hline]; simp, ?_⟩
            rw [hs, List.map_cons, List.flatten_cons, ← rule_took hr hx, ← h4]
            simp
          · have hline : lineR a R = R := by simp [lineR, hR]
            rw [hline] at hlen
            rw [hline] at h40
            omega
/-- I2: what is taken is just a grammar's text. -/
theorem all_took {s : List UInt8} (h : pOk s = true) : textB (all9 s).1.1 (all9 s).1.2.1 (all9 s).1.2.2 = s := by
  simp only [pOk, Bool.and_eq_true] at h
  obtain ⟨hok, hm⟩ := h
  obtain ⟨_, hN, _, h40, h5⟩ := may_fine hm
  have h8 : ∀ r ∈ (all9 s).1.2.2, r.2.length ≤ 8 := fun r hr => by
    obtain ⟨i, hi, rfl⟩ := List.getElem_of_mem hr
    have := (h5 i hi).2.2.1
    rwa [getD_at9 hi] at this
  unfold all9 at hok hN h40 h8 ⊢
  rw [lines9] at hok hN h40 h8 ⊢
  cases he : s.isEmpty with
  | true =>
    simp only [he, if_true] at hN
    omega
  | false =>
    simp only [he, Bool.false_eq_true, if_false] at hok h40 h8 ⊢
    cases hc : cutN s with
    | none => rw [hc] at hok; simp at hok
    | some ar =>
      obtain ⟨a, r⟩ := ar
      simp only [hc, if_true] at hok h40 h8 ⊢
      cases hr : hdOk a with
      | false => simp [hr] at hok
      | true =>
        simp only [hr, if_true] at hok h40 h8 ⊢
        have hs := (cutN_some hc).2
        have hl : r.length < s.length := by rw [hs]; simp; omega
        obtain ⟨h1, h2, R1, h3, h4⟩ := lines_took _ r 1 (hdT a) (hdN a) [] (by omega) hl hok h40 h8
        rw [h1, h2, h3, List.nil_append]
        unfold textB
        rw [← head_took hr, ← h4]
        rw [hs]
        simp
end Go.Proofs.YtganeciagepcpaaDoor
