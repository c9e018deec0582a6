/- Plain: text.Parse takes each grammar's text, and tells that grammar. No program. -/
import Derived.Test.YtdkbbmkbpfgekaaDoorTxPa
import Derived.Test.YtdkbbmkbpfgekaaDoorTxMath
namespace Go.Proofs.YtdkbbmkbpfgekaaDoor
open Go.RowKit

/-- No digit stands first. -/
def NoD (t : List UInt8) : Prop := isD (t.getD 0 0) = false
theorem noD_nil : NoD [] := by unfold NoD; decide
theorem hasP (p t : List UInt8) : Lib.hasPrefix (p ++ t) p = true := List.isPrefixOf_iff_prefix.2 (List.prefix_append p t)
theorem word_give (p t : List UInt8) : wordS9 p (p ++ t, false) = (t, false) := by
  simp [wordS9, Lib.trimPrefix, hasP]
theorem dig_of {n : Nat} (h : n < 10) : isD (UInt8.ofNat (48 + n)) = true ∧ (UInt8.ofNat (48 + n)).toNat - 48 = n := by
  have e : (UInt8.ofNat (48 + n)).toNat = 48 + n := by rw [UInt8.toNat_ofNat']; omega
  simp only [isD, e]
  exact ⟨by simp; omega, by omega⟩
theorem num_give {n : Nat} (h : n < 100) {t : List UInt8} (ht : NoD t) : numP (Lib.decDigits n ++ t) = (n, (Lib.decDigits n).length) := by
  by_cases h10 : n < 10
  · obtain ⟨h1, h2⟩ := dig_of h10
    have e1 : (UInt8.ofNat (48 + n) :: t).getD 1 0 = t.getD 0 0 := by simp [List.getD]
    rw [dec_one h10]
    simp only [numP, List.cons_append, List.nil_append]
    rw [numL]
    simp only [List.getD_cons_zero, h1, List.length_cons, Nat.zero_lt_succ, decide_true, beq_self_eq_true, Bool.true_or, Bool.and_self, if_true, h2, Nat.zero_mul, Nat.zero_add]
    rw [numL, e1]
    unfold NoD at ht
    rw [ht]
    simp
  · obtain ⟨h1, h2⟩ := dig_of (n := n / 10) (by omega)
    obtain ⟨h3, h4⟩ := dig_of (n := n % 10) (by omega)
    have e1 : (UInt8.ofNat (48 + n / 10) :: UInt8.ofNat (48 + n % 10) :: t).getD 1 0 = UInt8.ofNat (48 + n % 10) := rfl
    have e2 : (UInt8.ofNat (48 + n / 10) :: UInt8.ofNat (48 + n % 10) :: t).getD 2 0 = t.getD 0 0 := by simp [List.getD]
    rw [dec_two h10, dec_one (by omega)]
    simp only [numP, List.cons_append, List.nil_append]
    rw [numL]
    simp only [List.getD_cons_zero, h1, List.length_cons, Nat.zero_lt_succ, decide_true, beq_self_eq_true, Bool.true_or, Bool.and_self, if_true, h2, Nat.zero_mul, Nat.zero_add]
    rw [numL, e1, h3, h4]
    have hp : decide (0 < n / 10) = true := decide_eq_true (by omega)
    have hl : decide (1 < t.length + 1 + 1) = true := decide_eq_true (by omega)
    simp only [List.length_cons, hp, hl, Bool.or_true, Bool.and_self, if_true]
    rw [numL, e2]
    unfold NoD at ht
    rw [ht, show n / 10 * 10 + n % 10 = n by omega]
    simp
theorem numS_give {n : Nat} (h : n < 100) {t : List UInt8} (ht : NoD t) : numS9 (Lib.decDigits n ++ t, false) = (t, false) := by
  have hl : (Lib.decDigits n).length ≠ 0 := by
    by_cases h10 : n < 10
    · rw [dec_one h10]; simp
    · rw [dec_two h10]; simp
  simp only [numS9, num_give h ht, List.drop_left, Bool.false_or, Prod.mk.injEq, true_and]
  simpa using hl
theorem sym_give {b : Bool} {n : Nat} (h : n < 100) {t : List UInt8} (ht : NoD t) : symS9 (symT9 (b, (n : Int)) ++ t, false) = (t, false) ∧ symM9 (symT9 (b, (n : Int)) ++ t, false) = b ∧ (numP (symB9 (symT9 (b, (n : Int)) ++ t, false)).1).1 = n := by
  have e : symT9 (b, (n : Int)) ++ t = [32] ++ ((if b then 116 else 110) :: (Lib.decDigits n ++ t)) := by simp [symT9]
  have w1 := word_give [32] ((if b then 116 else 110) :: (Lib.decDigits n ++ t))
  rw [e]
  cases b with
  | true =>
    have hm : symM9 ([32] ++ ((if true = true then 116 else 110) :: (Lib.decDigits n ++ t)), false) = true := by
      unfold symM9
      rw [w1]
      exact hasP [116] _
    have hB : symB9 ([32] ++ ((if true = true then 116 else 110) :: (Lib.decDigits n ++ t)), false) = (Lib.decDigits n ++ t, false) := by
      unfold symB9 symC9
      rw [hm, w1]
      have := hasP [116] (Lib.decDigits n ++ t)
      simp only [List.cons_append, List.nil_append] at this
      simp [Lib.trimPrefix, this]
    refine ⟨?_, hm, ?_⟩
    · unfold symS9
      rw [hB]
      exact numS_give h ht
    · rw [hB, num_give h ht]
  | false =>
    have hm : symM9 ([32] ++ ((if false = true then 116 else 110) :: (Lib.decDigits n ++ t)), false) = false := by
      unfold symM9
      rw [w1]
      simp [Lib.hasPrefix, List.isPrefixOf]
    have hC : symC9 ([32] ++ ((if false = true then 116 else 110) :: (Lib.decDigits n ++ t)), false) = ([110] ++ (Lib.decDigits n ++ t), false) := by
      unfold symC9
      rw [w1]
      simp [Lib.trimPrefix, Lib.hasPrefix, List.isPrefixOf]
    have hB : symB9 ([32] ++ ((if false = true then 116 else 110) :: (Lib.decDigits n ++ t)), false) = (Lib.decDigits n ++ t, false) := by
      unfold symB9
      rw [hm, hC, word_give]
      simp
    refine ⟨?_, hm, ?_⟩
    · unfold symS9
      rw [hB]
      exact numS_give h ht
    · rw [hB, num_give h ht]
/-- The numbers of a symbol. -/
def SyLow (x : Sy) : Prop := ∃ m : Nat, x.2 = m ∧ m < 100
theorem syms_noD (L : List Sy) : NoD (L.map symT9).flatten := by
  cases L with
  | nil => exact noD_nil
  | cons x L => simp [NoD, symT9, isD]
theorem symT_len (x : Sy) : 2 ≤ (symT9 x).length := by simp [symT9]
theorem syms_give : ∀ (L : List Sy) (f : Nat) (A : List Sy), (∀ x ∈ L, SyLow x) → (L.map symT9).flatten.length < f → A.length + L.length ≤ 9 → symsL f ((L.map symT9).flatten, false) A = (([], false), A ++ L)
  | [], f, A, _, _, _ => by
    rw [symsL_stop f (by simp)]
    simp
  | x :: L, f, A, hx, hf, hA => by
    obtain ⟨b, v⟩ := x
    obtain ⟨m, hm, hm1⟩ := hx (b, v) (List.mem_cons_self ..)
    simp only at hm
    subst hm
    obtain ⟨h1, h2, h3⟩ := sym_give (b := b) hm1 (syms_noD L)
    simp only [List.map_cons, List.flatten_cons, List.length_append] at hf ⊢
    have := symT_len (b, (m : Int))
    obtain ⟨f', rfl⟩ : ∃ f', f = f' + 1 := ⟨f - 1, by omega⟩
    have hne : (symT9 (b, (m : Int)) ++ (L.map symT9).flatten).isEmpty = false := by simp [symT9]
    rw [symsL]
    simp only [hne, Bool.not_false, Bool.and_self, if_true, h1, h2, h3]
    simp only [List.length_cons] at hA
    rw [if_pos (by omega), syms_give L f' _ (fun y hy => hx y (List.mem_cons_of_mem _ hy)) (by omega) (by simp; omega)]
    simp
theorem head_give {T N : Nat} (hT : T < 100) (hN : N < 100) : ∃ a, headB9 T N = a ++ [10] ∧ a = [116, 101, 114, 109, 115, 32] ++ (Lib.decDigits T ++ ([32, 110, 97, 109, 101, 115, 32] ++ (Lib.decDigits N ++ []))) ∧ hdOk a = true ∧ hdT a = T ∧ hdN a = N := by
  refine ⟨_, ?_, rfl, ?_⟩
  · simp [headB9]
  · have w1 := word_give [116, 101, 114, 109, 115, 32] (Lib.decDigits T ++ ([32, 110, 97, 109, 101, 115, 32] ++ (Lib.decDigits N ++ [])))
    have nd : NoD ([32, 110, 97, 109, 101, 115, 32] ++ (Lib.decDigits N ++ [])) := by simp [NoD, isD]
    have n1 := num_give hT nd
    have s1 := numS_give hT nd
    have w2 := word_give [32, 110, 97, 109, 101, 115, 32] (Lib.decDigits N ++ [])
    have n2 := num_give hN noD_nil
    have s2 := numS_give hN noD_nil
    refine ⟨?_, ?_, ?_⟩
    · unfold hdOk hdB hdA
      rw [w1, s1, w2, s2]
      rfl
    · unfold hdT hdA
      rw [w1, n1]
    · unfold hdN hdB hdA
      rw [w1, s1, w2, n2]
theorem rule_give {m : Nat} (hm : m < 100) {L : List Sy} (hL : ∀ x ∈ L, SyLow x) (h8 : L.length ≤ 8) : ∃ a, ruleB9 ((m : Int), L) = a ++ [10] ∧ a = [110] ++ (Lib.decDigits m ++ ([58] ++ (L.map symT9).flatten)) ∧ rlOk a = true ∧ rlL a = m ∧ (rlE a).2 = L := by
  refine ⟨_, ?_, rfl, ?_⟩
  · simp [ruleB9, leftB9]
  · have w1 := word_give [110] (Lib.decDigits m ++ ([58] ++ (L.map symT9).flatten))
    have nd : NoD ([58] ++ (L.map symT9).flatten) := by simp [NoD, isD]
    have n1 := num_give hm nd
    have s1 := numS_give hm nd
    have w2 := word_give [58] (L.map symT9).flatten
    have e : rlE ([110] ++ (Lib.decDigits m ++ ([58] ++ (L.map symT9).flatten))) = (([], false), L) := by
      unfold rlE rlB rlA
      rw [w1, s1, w2]
      have := syms_give L ((L.map symT9).flatten.length + 1) [] hL (by omega) (by simp; omega)
      simpa using this
    refine ⟨?_, ?_, ?_⟩
    · unfold rlOk
      rw [e]
      rfl
    · unfold rlL rlA
      rw [w1, n1]
    · rw [e]
theorem cut_give {a r : List UInt8} (h : ∀ b ∈ a, b ≠ 10) : cutN (a ++ 10 :: r) = some (a, r) := by
  induction a with
  | nil => simp [cutN]
  | cons b l ih =>
    rw [List.cons_append, cutN, ih fun x hx => h x (List.mem_cons_of_mem _ hx)]
    have : (b == 10) = false := by simpa using h b (List.mem_cons_self ..)
    simp [this]
theorem dec_no {n : Nat} (h : n < 100) : ∀ b ∈ Lib.decDigits n, b ≠ 10 := by
  have key : ∀ m, m < 10 → UInt8.ofNat (48 + m) ≠ 10 := fun m hm e => by
    have := congrArg UInt8.toNat e
    rw [UInt8.toNat_ofNat'] at this
    simp at this
    omega
  intro b hb
  by_cases h10 : n < 10
  · rw [dec_one h10] at hb
    simp only [List.mem_singleton] at hb
    rw [hb]
    exact key n h10
  · rw [dec_two h10, dec_one (by omega)] at hb
    simp only [List.mem_append, List.mem_singleton] at hb
    rcases hb with hb | hb <;> rw [hb]
    · exact key _ (by omega)
    · exact key _ (by omega)
theorem syms_no {L : List Sy} (hL : ∀ x ∈ L, SyLow x) : ∀ b ∈ (L.map symT9).flatten, b ≠ 10 := by
  intro b hb
  obtain ⟨l, hl, hb⟩ := List.mem_flatten.1 hb
  obtain ⟨x, hx, rfl⟩ := List.mem_map.1 hl
  obtain ⟨m, hm, hm1⟩ := hL x hx
  simp only [symT9, List.mem_cons, hm, Int.toNat_natCast] at hb
  rcases hb with hb | hb | hb
  · rw [hb]; decide
  · rw [hb]; split <;> decide
  · exact dec_no hm1 b hb
/-- A rule of small numbers. -/
def RuLow (r : Ru) : Prop := (∃ m : Nat, r.1 = m ∧ m < 100) ∧ (∀ x ∈ r.2, SyLow x) ∧ r.2.length ≤ 8
theorem lines_give : ∀ (R1 : List Ru) (f k T N : Nat) (R : List Ru), (∀ r ∈ R1, RuLow r) → (R1.map ruleB9).flatten.length < f → k ≠ 0 → R.length + R1.length ≤ 40 → lines9 f (R1.map ruleB9).flatten k T N R = ((T, N, R ++ R1), k + R1.length, true)
  | [], f, k, T, N, R, _, hf, _, _ => by
    obtain ⟨f', rfl⟩ : ∃ f', f = f' + 1 := ⟨f - 1, by omega⟩
    rw [lines9]
    simp
  | x :: R1, f, k, T, N, R, hx, hf, hk, hR => by
    obtain ⟨v, L⟩ := x
    obtain ⟨⟨m, hm, hm1⟩, h1, h2⟩ := hx (v, L) (List.mem_cons_self ..)
    simp only at hm h1 h2
    subst hm
    obtain ⟨a, e1, e2, e3, e4, e5⟩ := rule_give hm1 h1 h2
    obtain ⟨f', rfl⟩ : ∃ f', f = f' + 1 := ⟨f - 1, by omega⟩
    have ha : ∀ b ∈ a, b ≠ 10 := by
      intro b hb
      rw [e2] at hb
      simp only [List.mem_append, List.mem_singleton] at hb
      rcases hb with hb | hb | hb | hb
      · rw [hb]; decide
      · exact dec_no hm1 b hb
      · rw [hb]; decide
      · exact syms_no h1 b hb
    have et : ((((m : Int), L) :: R1).map ruleB9).flatten = a ++ 10 :: (R1.map ruleB9).flatten := by rw [List.map_cons, List.flatten_cons, e1]; simp
    rw [et] at hf ⊢
    have hf2 : (R1.map ruleB9).flatten.length < f' := by rw [List.length_append, List.length_cons] at hf; omega
    have hne : (a ++ 10 :: (R1.map ruleB9).flatten).isEmpty = false := by simp
    simp only [List.length_cons] at hR
    have hline : lineR a R = R ++ [((m : Int), L)] := by
      unfold lineR
      rw [if_pos ⟨e3, by omega⟩, e4, e5]
    rw [lines9, hne, cut_give ha]
    simp only [Bool.false_eq_true, if_false, hk, e3, if_true, hline]
    rw [lines_give R1 f' (k + 1) T N _ (fun r hr => hx r (List.mem_cons_of_mem _ hr)) hf2 (by omega) (by simp; omega)]
    simp
    omega
/-- I2: each grammar's text is taken, and tells that grammar. -/
theorem all_give {T N : Nat} {R : List Ru} (hm : mayB T N R = true) : all9 (textB T N R) = ((T, N, R), R.length + 1, true) := by
  have hl := low_of hm
  obtain ⟨a, e1, e2, e3, e4, e5⟩ := head_give hl.t hl.n
  have ha : ∀ b ∈ a, b ≠ 10 := by
    intro b hb
    rw [e2] at hb
    simp only [List.mem_append] at hb
    rcases hb with hb | hb | hb | hb | hb
    · revert hb; revert b; decide
    · exact dec_no hl.t b hb
    · revert hb; revert b; decide
    · exact dec_no hl.n b hb
    · cases hb
  have et : textB T N R = a ++ 10 :: (R.map ruleB9).flatten := by unfold textB; rw [e1]; simp
  have hne : (a ++ 10 :: (R.map ruleB9).flatten).isEmpty = false := by simp
  have hR : ∀ r ∈ R, RuLow r := fun r hr => by
    obtain ⟨i, hi, rfl⟩ := List.getElem_of_mem hr
    have h1 := hl.left i hi
    have h2 := hl.len i hi
    have h3 := hl.sym i hi
    rw [getD_at9 hi] at h1 h2 h3
    refine ⟨h1, fun x hx => ?_, h2⟩
    obtain ⟨j, hj, rfl⟩ := List.getElem_of_mem hx
    have := h3 j hj
    rwa [getD_at9 hj] at this
  unfold all9
  rw [et, lines9, hne, cut_give ha]
  simp only [Bool.false_eq_true, if_false, e3, if_true, e4, e5]
  rw [lines_give R _ 1 T N [] hR (by simp; omega) (by omega) (by simpa using hl.r)]
  simp
  omega
theorem ok_give {T N : Nat} {R : List Ru} (hm : mayB T N R = true) : pOk (textB T N R) = true := by
  unfold pOk
  rw [all_give hm]
  simpa using hm
end Go.Proofs.YtdkbbmkbpfgekaaDoor
