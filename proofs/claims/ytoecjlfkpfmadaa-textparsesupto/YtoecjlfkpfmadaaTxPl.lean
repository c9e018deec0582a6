/- Plain: a line as the program reads it and as the reference does. No program. -/
import Derived.Test.YtoecjlfkpfmadaaTxEq
import Derived.Test.YtoecjlfkpfmadaaTxAg
namespace Go.Proofs.Ytoecjlfkpfmadaa
open Go.RowKit

theorem splitB_form (c : UInt8) : ∀ s : List UInt8, ∃ u P, splitB c s = u :: P ∧ s = u ++ (P.map fun l => c :: l).flatten ∧ (∀ b ∈ u, b ≠ c) ∧ ∀ l ∈ P, ∀ b ∈ l, b ≠ c
  | [] => ⟨[], [], rfl, rfl, fun b hb => by simp at hb, fun l hl => by simp at hl⟩
  | b :: l => by
    obtain ⟨u, P, h1, h2, h3, h4⟩ := splitB_form c l
    by_cases hb : b = c
    · refine ⟨[], u :: P, by rw [splitB, h1]; simp [hb], by rw [h2, hb]; simp, fun b hb => by simp at hb, fun x hx => ?_⟩
      rcases List.mem_cons.1 hx with hx | hx
      · rw [hx]; exact h3
      · exact h4 x hx
    · refine ⟨b :: u, P, by rw [splitB, h1]; simp [hb], by rw [h2]; simp, fun x hx => ?_, h4⟩
      rcases List.mem_cons.1 hx with hx | hx
      · rw [hx]; exact hb
      · exact h3 x hx
theorem splitB_make {c : UInt8} : ∀ {P : List (List UInt8)} {u : List UInt8}, (∀ b ∈ u, b ≠ c) → (∀ l ∈ P, ∀ b ∈ l, b ≠ c) → splitB c (u ++ (P.map fun l => c :: l).flatten) = u :: P
  | [], u, h, _ => by simpa using splitB_none h
  | l :: P, u, h, h2 => by
    rw [List.map_cons, List.flatten_cons, List.cons_append, splitB_cut h, splitB_make (h2 l (List.mem_cons_self ..)) fun x hx => h2 x (List.mem_cons_of_mem _ hx)]

theorem num_noB {x : List UInt8} (h : numR x = true) {c : UInt8} (hc : isD c = false) : ∀ b ∈ x, b ≠ c := by
  intro b hb e
  simp only [numR, Bool.and_eq_true] at h
  have := List.all_eq_true.1 h.2 b hb
  rw [e, hc] at this
  cases this
theorem num_ne {x : List UInt8} (h : numR x = true) : x.length ≠ 0 := by
  simp only [numR, Bool.and_eq_true, decide_eq_true_eq] at h
  omega
theorem numS_word {x t : List UInt8} (h : numR x = true) (ht : NoD t) : numS9 (x ++ t, false) = (t, false) := by
  have := num_ne h
  simp only [numS9, num_word h ht, List.drop_left, Bool.false_or, Prod.mk.injEq, true_and]
  simpa using this
theorem num_dig {s : Sc9} (h : (numS9 s).2 = false) : numR (Lib.decDigits (numP s.1).1) = true ∧ valD (Lib.decDigits (numP s.1).1) = (numP s.1).1 := by
  simp only [numS9, Bool.or_eq_false_iff, beq_eq_false_iff_ne] at h
  obtain ⟨h1, h2, _⟩ := num_is h.2
  rw [num_text h.2] at h1 h2
  exact ⟨h1, h2⟩

/-- A first line, by its words. -/
def hdW (a : List UInt8) : Bool := (splitB 32 a).length == 4 && (splitB 32 a).getD 0 [] == [116, 101, 114, 109, 115] && (splitB 32 a).getD 2 [] == [110, 97, 109, 101, 115] && numR ((splitB 32 a).getD 1 []) && numR ((splitB 32 a).getD 3 [])
def hdTW (a : List UInt8) : Nat := valD ((splitB 32 a).getD 1 [])
def hdNW (a : List UInt8) : Nat := valD ((splitB 32 a).getD 3 [])
theorem hd_words {x y : List UInt8} (hx : numR x = true) (hy : numR y = true) : splitB 32 ([116, 101, 114, 109, 115, 32] ++ (x ++ ([32, 110, 97, 109, 101, 115, 32] ++ y))) = [[116, 101, 114, 109, 115], x, [110, 97, 109, 101, 115], y] := by
  have e : [116, 101, 114, 109, 115, 32] ++ (x ++ ([32, 110, 97, 109, 101, 115, 32] ++ y)) = [116, 101, 114, 109, 115] ++ (([x, [110, 97, 109, 101, 115], y] : List (List UInt8)).map fun l => 32 :: l).flatten := by simp
  rw [e]
  refine splitB_make (by decide) fun l hl => ?_
  simp only [List.mem_cons, List.not_mem_nil, or_false] at hl
  rcases hl with hl | hl | hl <;> subst hl
  · exact num_noB hx (by decide)
  · decide
  · exact num_noB hy (by decide)
theorem hd_give {x y : List UInt8} (hx : numR x = true) (hy : numR y = true) : hdOk ([116, 101, 114, 109, 115, 32] ++ (x ++ ([32, 110, 97, 109, 101, 115, 32] ++ y))) = true ∧ hdT ([116, 101, 114, 109, 115, 32] ++ (x ++ ([32, 110, 97, 109, 101, 115, 32] ++ y))) = valD x ∧ hdN ([116, 101, 114, 109, 115, 32] ++ (x ++ ([32, 110, 97, 109, 101, 115, 32] ++ y))) = valD y := by
  have w1 := word_give [116, 101, 114, 109, 115, 32] (x ++ ([32, 110, 97, 109, 101, 115, 32] ++ y))
  have nd : NoD ([32, 110, 97, 109, 101, 115, 32] ++ y) := by simp [NoD, isD]
  have n1 := num_word hx nd
  have s1 := numS_word hx nd
  have w2 := word_give [32, 110, 97, 109, 101, 115, 32] y
  have n2 := num_word hy noD_nil
  have s2 := numS_word hy noD_nil
  rw [List.append_nil] at n2 s2
  refine ⟨?_, ?_, ?_⟩
  · unfold hdOk hdB hdA
    rw [w1, s1, w2, s2]
    rfl
  · unfold hdT hdA
    rw [w1, n1]
  · unfold hdN hdB hdA
    rw [w1, s1, w2, n2]
theorem hd_same (a : List UInt8) : hdOk a = hdW a ∧ (hdW a = true → hdT a = hdTW a ∧ hdN a = hdNW a) := by
  have key : ∀ x y, numR x = true → numR y = true → a = [116, 101, 114, 109, 115, 32] ++ (x ++ ([32, 110, 97, 109, 101, 115, 32] ++ y)) → hdOk a = true ∧ hdW a = true ∧ hdT a = hdTW a ∧ hdN a = hdNW a := by
    intro x y hx hy ha
    obtain ⟨h1, h2, h3⟩ := hd_give hx hy
    have h4 := hd_words hx hy
    rw [← ha] at h1 h2 h3 h4
    refine ⟨h1, ?_, ?_, ?_⟩
    · unfold hdW
      rw [h4]
      simp [hx, hy]
    · rw [h2]
      unfold hdTW
      rw [h4]
      rfl
    · rw [h3]
      unfold hdNW
      rw [h4]
      rfl
  have k1 : hdOk a = true → hdW a = true ∧ hdT a = hdTW a ∧ hdN a = hdNW a := by
    intro h
    have h0 := h
    simp only [hdOk, Bool.and_eq_true, Bool.not_eq_true', List.isEmpty_iff] at h
    obtain ⟨h1, h2⟩ := num_took h.1
    obtain ⟨h3, h4⟩ := word_took h1
    obtain ⟨h5, h6⟩ := num_took h3
    obtain ⟨_, h7⟩ := word_took h5
    rw [h.2, List.append_nil] at h2
    have h7' : a = [116, 101, 114, 109, 115, 32] ++ (hdA a).1 := h7
    have h4' : (numS9 (hdA a)).1 = [32, 110, 97, 109, 101, 115, 32] ++ (hdB a).1 := h4
    refine (key (Lib.decDigits (numP (hdA a).1).1) (Lib.decDigits (numP (hdB a).1).1) (num_dig h3).1 (num_dig h.1).1 ?_).2
    conv => lhs; rw [h7', h6, h4', h2]
  have k2 : hdW a = true → hdOk a = true ∧ hdT a = hdTW a ∧ hdN a = hdNW a := by
    intro h
    obtain ⟨u, P, e1, e2, _, _⟩ := splitB_form 32 a
    simp only [hdW, e1, Bool.and_eq_true, beq_iff_eq] at h
    obtain ⟨⟨⟨⟨h1, h2⟩, h3⟩, h4⟩, h5⟩ := h
    match P, h1 with
    | [x, y, z], _ =>
      simp only [List.getD_cons_zero, List.getD_cons_succ] at h2 h3 h4 h5
      have := key x z h4 h5 (by rw [e2, h2, h3]; simp)
      exact ⟨this.1, this.2.2⟩
  refine ⟨?_, fun h => (k2 h).2⟩
  cases h1 : hdOk a <;> cases h2 : hdW a
  · rfl
  · rw [(k2 h2).1] at h1; cases h1
  · rw [(k1 h1).1] at h2; cases h2
  · rfl

/-- A symbol's word. -/
def rdS (u : List UInt8) : Sy := (rdT u, (rdN u : Int))
theorem rd_is {u : List UInt8} (h : rdOk u = true) : ∃ z, u = (if rdT u then 116 else 110) :: z ∧ numR z = true ∧ rdN u = valD z := by
  simp only [rdOk, Bool.and_eq_true] at h
  obtain ⟨h1, h2⟩ := h
  have hv : rdN u = valD (u.drop 1) := by
    unfold rdN numV
    rw [if_pos h1, if_pos h2]
  refine ⟨u.drop 1, ?_, h2, hv⟩
  match u with
  | [] => simp [rdB] at h1
  | b :: z =>
    simp only [rdB, rdT, List.getD_cons_zero, Bool.or_eq_true, beq_iff_eq] at h1 ⊢
    rcases h1 with h1 | h1 <;> subst h1 <;> simp
theorem rd_give (t : Bool) {z : List UInt8} (h : numR z = true) : rdOk ((if t then 116 else 110) :: z) = true ∧ rdT ((if t then 116 else 110) :: z) = t ∧ rdN ((if t then 116 else 110) :: z) = valD z := by
  cases t <;> simp [rdOk, rdB, rdT, rdN, numV, h]
theorem rd_noB {u : List UInt8} (h : rdOk u = true) : ∀ b ∈ u, b ≠ 32 := by
  obtain ⟨z, h1, h2, _⟩ := rd_is h
  intro b hb
  rw [h1] at hb
  rcases List.mem_cons.1 hb with hb | hb
  · rw [hb]; split <;> decide
  · exact num_noB h2 (by decide) b hb
theorem sym_word (t : Bool) {z r : List UInt8} (h : numR z = true) (hr : NoD r) : symS9 (32 :: (if t then 116 else 110) :: z ++ r, false) = (r, false) ∧ symM9 (32 :: (if t then 116 else 110) :: z ++ r, false) = t ∧ (numP (symB9 (32 :: (if t then 116 else 110) :: z ++ r, false)).1).1 = valD z := by
  have e : 32 :: (if t then 116 else 110) :: z ++ r = [32] ++ ((if t then 116 else 110) :: (z ++ r)) := by simp
  have w1 := word_give [32] ((if t then 116 else 110) :: (z ++ r))
  rw [e]
  cases t with
  | true =>
    have hm : symM9 ([32] ++ ((if true = true then 116 else 110) :: (z ++ r)), false) = true := by
      unfold symM9
      rw [w1]
      exact hasP [116] _
    have hB : symB9 ([32] ++ ((if true = true then 116 else 110) :: (z ++ r)), false) = (z ++ r, false) := by
      unfold symB9 symC9
      rw [hm, w1]
      have := hasP [116] (z ++ r)
      simp only [List.cons_append, List.nil_append] at this
      simp [Lib.trimPrefix, this]
    refine ⟨?_, hm, ?_⟩
    · unfold symS9
      rw [hB]
      exact numS_word h hr
    · rw [hB, num_word h hr]
  | false =>
    have hm : symM9 ([32] ++ ((if false = true then 116 else 110) :: (z ++ r)), false) = false := by
      unfold symM9
      rw [w1]
      simp [Lib.hasPrefix, List.isPrefixOf]
    have hC : symC9 ([32] ++ ((if false = true then 116 else 110) :: (z ++ r)), false) = ([110] ++ (z ++ r), false) := by
      unfold symC9
      rw [w1]
      simp [Lib.trimPrefix, Lib.hasPrefix, List.isPrefixOf]
    have hB : symB9 ([32] ++ ((if false = true then 116 else 110) :: (z ++ r)), false) = (z ++ r, false) := by
      unfold symB9
      rw [hm, hC, word_give]
      simp
    refine ⟨?_, hm, ?_⟩
    · unfold symS9
      rw [hB]
      exact numS_word h hr
    · rw [hB, num_word h hr]
theorem flat_noD (P : List (List UInt8)) : NoD (P.map fun l => (32 : UInt8) :: l).flatten := by
  cases P with
  | nil => exact noD_nil
  | cons x L => simp [NoD, isD]
theorem syms_word : ∀ (P : List (List UInt8)) (f : Nat) (A : List Sy), (∀ u ∈ P, rdOk u = true) → (P.map fun l => (32 : UInt8) :: l).flatten.length < f → A.length ≤ 9 → symsL f ((P.map fun l => (32 : UInt8) :: l).flatten, false) A = (([], false), (A ++ P.map rdS).take 9)
  | [], f, A, _, _, hA => by
    rw [symsL_stop f (by simp)]
    simp [List.take_of_length_le hA]
  | u :: P, f, A, hu, hf, hA => by
    obtain ⟨z, h1, h2, h3⟩ := rd_is (hu u (List.mem_cons_self ..))
    obtain ⟨t, ht⟩ : ∃ t, rdT u = t := ⟨_, rfl⟩
    rw [ht] at h1
    obtain ⟨g1, g2, g3⟩ := sym_word t h2 (flat_noD P)
    rw [List.map_cons, List.flatten_cons] at hf ⊢
    obtain ⟨f', rfl⟩ : ∃ f', f = f' + 1 := ⟨f - 1, by omega⟩
    have hne : ((32 : UInt8) :: u ++ (P.map fun l => (32 : UInt8) :: l).flatten).isEmpty = false := by simp
    have hS : rdS u = (t, (valD z : Int)) := by unfold rdS; rw [ht, h3]
    rw [symsL]
    simp only [hne, Bool.not_false, Bool.and_self, if_true]
    rw [List.map_cons, hS]
    rw [show (32 : UInt8) :: u ++ (P.map fun l => (32 : UInt8) :: l).flatten = 32 :: (if t then 116 else 110) :: z ++ (P.map fun l => (32 : UInt8) :: l).flatten by rw [h1]] at hf ⊢
    rw [g1, g2, g3]
    have hf2 : (P.map fun l => (32 : UInt8) :: l).flatten.length < f' := by
      rw [List.length_append] at hf
      simp only [List.length_cons] at hf
      omega
    split
    · rw [syms_word P f' _ (fun y hy => hu y (List.mem_cons_of_mem _ hy)) hf2 (by simp; omega)]
      simp
    · have h9 : A.length = 9 := by omega
      rw [syms_word P f' _ (fun y hy => hu y (List.mem_cons_of_mem _ hy)) hf2 hA]
      rw [List.take_append_of_le_length (by omega), List.take_append_of_le_length (by omega)]
theorem syms_is : ∀ (f : Nat) (s : Sc9) (A : List Sy), (symsL f s A).1.2 = false → (symsL f s A).1.1 = [] → s.2 = false ∧ ∃ P : List (List UInt8), (∀ u ∈ P, rdOk u = true) ∧ s.1 = (P.map fun l => (32 : UInt8) :: l).flatten
  | 0, s, A, h1, h2 => ⟨h1, [], fun u hu => by simp at hu, h2⟩
  | f + 1, s, A, h1, h2 => by
    rw [symsL] at h1 h2
    split at h1
    · rename_i hc
      rw [if_pos hc] at h2
      obtain ⟨h3, P, h4, h5⟩ := syms_is f _ _ h1 h2
      obtain ⟨h6, h7⟩ := sym_took h3
      have h8 := (num_dig (s := symB9 s) h3).1
      have h9 := (rd_give (symM9 s) h8).1
      refine ⟨h6, ((if symM9 s then 116 else 110) :: Lib.decDigits (numP (symB9 s).1).1) :: P, fun u hu => ?_, ?_⟩
      · rcases List.mem_cons.1 hu with hu | hu
        · rw [hu]; exact h9
        · exact h4 u hu
      · rw [h7, h5]
        simp [symT9]
    · rename_i hc
      rw [if_neg hc] at h2
      exact ⟨h1, [], fun u hu => by simp at hu, h2⟩

/-- A rule's line, by its words. -/
def rlH (a : List UInt8) : List UInt8 := (splitB 32 a).getD 0 []
def rlM (a : List UInt8) : List UInt8 := (rlH a).take ((rlH a).length - 1)
def rlW (a : List UInt8) : Bool := decide (1 ≤ (rlH a).length) && (rlH a).getD ((rlH a).length - 1) 0 == 58 && rdOk (rlM a) && !rdT (rlM a) && (splitB 32 a).tail.all rdOk
def rlRu (a : List UInt8) : Ru := ((rdN (rlM a) : Int), (splitB 32 a).tail.map rdS)
theorem rl_words {x : List UInt8} {P : List (List UInt8)} (hx : numR x = true) (hP : ∀ u ∈ P, rdOk u = true) : splitB 32 ([110] ++ (x ++ ([58] ++ (P.map fun l => (32 : UInt8) :: l).flatten))) = (110 :: x ++ [58]) :: P := by
  have e : [110] ++ (x ++ ([58] ++ (P.map fun l => (32 : UInt8) :: l).flatten)) = (110 :: x ++ [58]) ++ (P.map fun l => (32 : UInt8) :: l).flatten := by simp
  rw [e]
  refine splitB_make (fun b hb => ?_) fun l hl => rd_noB (hP l hl)
  simp only [List.cons_append, List.mem_cons, List.mem_append, List.not_mem_nil, or_false] at hb
  rcases hb with hb | hb | hb
  · rw [hb]; decide
  · exact num_noB hx (by decide) b hb
  · rw [hb]; decide
theorem rl_give {x : List UInt8} {P : List (List UInt8)} (hx : numR x = true) (hP : ∀ u ∈ P, rdOk u = true) : rlOk ([110] ++ (x ++ ([58] ++ (P.map fun l => (32 : UInt8) :: l).flatten))) = true ∧ rlL ([110] ++ (x ++ ([58] ++ (P.map fun l => (32 : UInt8) :: l).flatten))) = valD x ∧ (rlE ([110] ++ (x ++ ([58] ++ (P.map fun l => (32 : UInt8) :: l).flatten)))).2 = (P.map rdS).take 9 := by
  have w1 := word_give [110] (x ++ ([58] ++ (P.map fun l => (32 : UInt8) :: l).flatten))
  have nd : NoD ([58] ++ (P.map fun l => (32 : UInt8) :: l).flatten) := by simp [NoD, isD]
  have n1 := num_word hx nd
  have s1 := numS_word hx nd
  have w2 := word_give [58] (P.map fun l => (32 : UInt8) :: l).flatten
  have e : rlE ([110] ++ (x ++ ([58] ++ (P.map fun l => (32 : UInt8) :: l).flatten))) = (([], false), (P.map rdS).take 9) := by
    unfold rlE rlB rlA
    rw [w1, s1, w2]
    have := syms_word P ((P.map fun l => (32 : UInt8) :: l).flatten.length + 1) [] hP (by omega) (by simp)
    simpa using this
  refine ⟨?_, ?_, by rw [e]⟩
  · unfold rlOk
    rw [e]
    rfl
  · unfold rlL rlA
    rw [w1, n1]
theorem rl_same (a : List UInt8) : rlOk a = rlW a ∧ (rlW a = true → (rlL a : Int) = (rlRu a).1 ∧ (rlE a).2 = (rlRu a).2.take 9) := by
  have key : ∀ (x : List UInt8) (P : List (List UInt8)), numR x = true → (∀ u ∈ P, rdOk u = true) → a = [110] ++ (x ++ ([58] ++ (P.map fun l => (32 : UInt8) :: l).flatten)) → rlOk a = true ∧ rlW a = true ∧ (rlL a : Int) = (rlRu a).1 ∧ (rlE a).2 = (rlRu a).2.take 9 := by
    intro x P hx hP ha
    obtain ⟨h1, h2, h3⟩ := rl_give hx hP
    have h4 := rl_words hx hP
    rw [← ha] at h1 h2 h3 h4
    have hH : rlH a = 110 :: x ++ [58] := by unfold rlH; rw [h4]; rfl
    have hl : (rlH a).length - 1 = (110 :: x).length := by rw [hH, List.length_append]; simp
    have hM : rlM a = 110 :: x := by
      unfold rlM
      rw [hl, hH]
      exact List.take_left' rfl
    obtain ⟨r1, r2, r3⟩ := rd_give false hx
    simp only [Bool.false_eq_true, if_false] at r1 r2 r3
    refine ⟨h1, ?_, ?_, ?_⟩
    · have q1 : (rlH a).getD ((rlH a).length - 1) 0 = 58 := by
        rw [hl, hH]
        simp [List.getD]
      have q2 : decide (1 ≤ (rlH a).length) = true := decide_eq_true (by rw [hH]; simp)
      have q3 : (splitB 32 a).tail.all rdOk = true := by
        rw [h4]
        exact List.all_eq_true.2 hP
      simp only [rlW, q1, q2, q3, hM, r1, r2, beq_self_eq_true, Bool.not_false, Bool.and_self]
    · rw [h2]
      show _ = (rdN (rlM a) : Int)
      rw [hM, r3]
    · rw [h3]
      unfold rlRu
      rw [h4]
      rfl
  have k1 : rlOk a = true → rlW a = true ∧ (rlL a : Int) = (rlRu a).1 ∧ (rlE a).2 = (rlRu a).2.take 9 := by
    intro h
    simp only [rlOk, Bool.and_eq_true, Bool.not_eq_true', List.isEmpty_iff] at h
    obtain ⟨h1, P, h2, h3⟩ := syms_is _ _ _ h.1 h.2
    obtain ⟨h4, h5⟩ := word_took h1
    obtain ⟨h6, h7⟩ := num_took h4
    obtain ⟨_, h9⟩ := word_took h6
    have e1 : a = [110] ++ (rlA a).1 := h9
    have e2 : (numS9 (rlA a)).1 = [58] ++ (rlB a).1 := h5
    refine (key (Lib.decDigits (numP (rlA a).1).1) P (num_dig h4).1 h2 ?_).2
    conv => lhs; rw [e1, h7, e2, h3]
  have k2 : rlW a = true → rlOk a = true ∧ (rlL a : Int) = (rlRu a).1 ∧ (rlE a).2 = (rlRu a).2.take 9 := by
    intro h
    obtain ⟨u, P, e1, e2, _, _⟩ := splitB_form 32 a
    have hH : rlH a = u := by unfold rlH; rw [e1]; rfl
    simp only [rlW, e1, Bool.and_eq_true, decide_eq_true_eq, beq_iff_eq, Bool.not_eq_true', List.tail_cons] at h
    obtain ⟨⟨⟨⟨h1, h2⟩, h3⟩, h4⟩, h5⟩ := h
    obtain ⟨z, g1, g2, g3⟩ := rd_is h3
    rw [h4] at g1
    simp only [Bool.false_eq_true, if_false] at g1
    have hu : u = 110 :: z ++ [58] := by
      rw [← g1]
      unfold rlM
      rw [hH] at h1 h2 ⊢
      have hl : u.length - 1 < u.length := by omega
      have := List.take_succ_eq_append_getElem hl
      rw [show u.length - 1 + 1 = u.length by omega, List.take_length] at this
      rw [getD_at9 hl] at h2
      rw [h2] at this
      exact this
    have := key z P g2 (List.all_eq_true.1 h5) (by rw [e2, hu]; simp)
    exact ⟨this.1, this.2.2⟩
  refine ⟨?_, fun h => (k2 h).2⟩
  cases h1 : rlOk a <;> cases h2 : rlW a
  · rfl
  · rw [(k2 h2).1] at h1; cases h1
  · rw [(k1 h1).1] at h2; cases h2
  · rfl
end Go.Proofs.Ytoecjlfkpfmadaa
