/- Plain: the lines of a text, as the program reads them and as the reference does. No program. -/
import Derived.Test.YtoecjlfkpfmadaaTxPl
namespace Go.Proofs.Ytoecjlfkpfmadaa
open Go.RowKit

def linesL (s : List UInt8) : List (List UInt8) := (splitB 10 s).dropLast
def lastL (s : List UInt8) : List UInt8 := (splitB 10 s).getLastD []
def capR (r : Ru) : Ru := (r.1, r.2.take 9)
theorem cutN_no : ∀ {s a r : List UInt8}, cutN s = some (a, r) → ∀ b ∈ a, b ≠ 10
  | [], _, _, h => by simp [cutN] at h
  | c :: l, a, r, h => by
    rw [cutN] at h
    by_cases hc : c = 10
    · simp only [hc, beq_self_eq_true, if_true, Option.some.injEq, Prod.mk.injEq] at h
      rw [← h.1]
      intro b hb
      simp at hb
    · simp only [beq_eq_false_iff_ne.2 hc, Bool.false_eq_true, if_false, Option.map_eq_some_iff, Prod.mk.injEq] at h
      obtain ⟨⟨a', r'⟩, h1, h2, h3⟩ := h
      rw [← h2]
      intro b hb
      rcases List.mem_cons.1 hb with hb | hb
      · rw [hb]; exact hc
      · exact cutN_no h1 b hb
theorem cutN_nil : ∀ {s : List UInt8}, cutN s = none → ∀ b ∈ s, b ≠ 10
  | [], _ => fun b hb => by simp at hb
  | c :: l, h => by
    rw [cutN] at h
    by_cases hc : c = 10
    · simp [hc] at h
    · simp only [beq_eq_false_iff_ne.2 hc, Bool.false_eq_true, if_false, Option.map_eq_none_iff] at h
      intro b hb
      rcases List.mem_cons.1 hb with hb | hb
      · rw [hb]; exact hc
      · exact cutN_nil h b hb
theorem lines_cut {s a r : List UInt8} (h : cutN s = some (a, r)) : linesL s = a :: linesL r ∧ lastL s = lastL r := by
  have h1 : splitB 10 s = a :: splitB 10 r := by rw [(cutN_some h).2]; exact splitB_cut (cutN_no h)
  obtain ⟨u, P, h2, _⟩ := splitB_form 10 r
  unfold linesL lastL
  rw [h1, h2]
  exact ⟨by simp, by simp⟩
theorem lines_none {s : List UInt8} (h : cutN s = none) : linesL s = [] ∧ lastL s = s := by
  have h1 : splitB 10 s = [s] := splitB_none (cutN_nil h)
  unfold linesL lastL
  rw [h1]
  exact ⟨rfl, rfl⟩
theorem line_cap {a : List UInt8} (h : rlW a = true) {R : List Ru} (hR : R.length ≤ 41) (M : List Ru) : (lineR a R ++ M).take 41 = (R ++ capR (rlRu a) :: M).take 41 ∧ (lineR a R).length ≤ 41 := by
  obtain ⟨h1, h2⟩ := rl_same a
  obtain ⟨h3, h4⟩ := h2 h
  have hr : ((rlL a : Int), (rlE a).2) = capR (rlRu a) := by rw [h3, h4]; rfl
  unfold lineR
  by_cases h40 : R.length ≤ 40
  · rw [if_pos ⟨h1.trans h, h40⟩, hr]
    exact ⟨by simp, by simp; omega⟩
  · rw [if_neg fun hh => h40 hh.2]
    refine ⟨?_, hR⟩
    rw [List.take_append_of_le_length (by omega), List.take_append_of_le_length (by omega)]
theorem lines_same : ∀ (f : Nat) (s : List UInt8) (k T N : Nat) (R : List Ru), k ≠ 0 → s.length < f → R.length ≤ 41 →
    (lines9 f s k T N R).2.1 = k + ((linesL s).takeWhile rlW).length ∧ (lines9 f s k T N R).2.2 = ((linesL s).all rlW && (lastL s).isEmpty) ∧
      ((lines9 f s k T N R).2.2 = true → (lines9 f s k T N R).1 = (T, N, (R ++ (linesL s).map fun a => capR (rlRu a)).take 41))
  | 0, s, k, T, N, R, _, h, _ => by omega
  | f + 1, s, k, T, N, R, hk, hf, hR => by
    rw [lines9]
    cases he : s.isEmpty with
    | true =>
      have hs : s = [] := by simpa using he
      subst hs
      simp [linesL, lastL, splitB, List.take_of_length_le hR]
    | false =>
      simp only [Bool.false_eq_true, if_false]
      cases hc : cutN s with
      | none =>
        obtain ⟨h1, h2⟩ := lines_none hc
        simp only [h1, h2, he]
        simp
      | some ar =>
        obtain ⟨a, r⟩ := ar
        obtain ⟨h1, h2⟩ := lines_cut hc
        simp only [if_neg hk, (rl_same a).1]
        rw [h1, h2]
        cases hr : rlW a with
        | false => simp [hr]
        | true =>
          simp only [if_true]
          have hs := (cutN_some hc).2
          have hl : r.length < f := by rw [hs] at hf; simp at hf; omega
          obtain ⟨h3, h4⟩ := line_cap hr hR ((linesL r).map fun a => capR (rlRu a))
          obtain ⟨h5, h6, h7⟩ := lines_same f r (k + 1) T N (lineR a R) (by omega) hl h4
          refine ⟨?_, ?_, fun h => ?_⟩
          · rw [h5]; simp [hr]; omega
          · rw [h6]; simp [hr]
          · rw [h7 h, h3]; simp

/-- How many lines are right, from the first one on; whether all are; the grammar. -/
def K9 (s : List UInt8) : Nat := match linesL s with
  | [] => 0
  | h :: L => if hdW h = true then (L.takeWhile rlW).length + 1 else 0
def ok9 (s : List UInt8) : Bool := match linesL s with
  | [] => (lastL s).isEmpty
  | h :: L => hdW h && L.all rlW && (lastL s).isEmpty
def T9 (s : List UInt8) : Nat := match linesL s with
  | [] => 0
  | h :: _ => hdTW h
def N9 (s : List UInt8) : Nat := match linesL s with
  | [] => 0
  | h :: _ => hdNW h
def R9 (s : List UInt8) : List Ru := (linesL s).tail.map rlRu
theorem all_same (s : List UInt8) : (all9 s).2.1 = K9 s ∧ (all9 s).2.2 = ok9 s ∧ (ok9 s = true → (all9 s).1 = (T9 s, N9 s, ((R9 s).map capR).take 41)) := by
  unfold all9 K9 ok9 T9 N9 R9
  rw [lines9]
  cases he : s.isEmpty with
  | true =>
    have hs : s = [] := by simpa using he
    subst hs
    simp [linesL, lastL, splitB]
  | false =>
    simp only [Bool.false_eq_true, if_false]
    cases hc : cutN s with
    | none =>
      obtain ⟨h1, h2⟩ := lines_none hc
      simp only [h1, h2, he]
      simp
    | some ar =>
      obtain ⟨a, r⟩ := ar
      obtain ⟨h1, h2⟩ := lines_cut hc
      simp only [if_true, (hd_same a).1, h1, h2]
      cases hr : hdW a with
      | false => simp
      | true =>
        obtain ⟨g1, g2⟩ := (hd_same a).2 hr
        have hs := (cutN_some hc).2
        have hl : r.length < s.length := by rw [hs]; simp; omega
        obtain ⟨h5, h6, h7⟩ := lines_same s.length r 1 (hdT a) (hdN a) [] (by omega) hl (by simp)
        simp only [if_true, Bool.true_and]
        refine ⟨?_, h6, fun h => ?_⟩
        · rw [h5]; omega
        · rw [h7 (h6.trans h), g1, g2]
          simp [Function.comp_def]
theorem may_cap {T N : Int} {R : List Ru} (h : mayB T N R = true) : (R.map capR).take 41 = R := by
  simp only [mayB, headB, Bool.and_eq_true, decide_eq_true_eq] at h
  rw [List.take_of_length_le (by simp; omega)]
  conv => rhs; rw [← List.map_id R]
  refine List.map_congr_left fun r hr => ?_
  have := List.all_eq_true.1 h.2 r hr
  simp only [ruleB, Bool.and_eq_true, decide_eq_true_eq] at this
  simp only [capR, id_eq]
  rw [List.take_of_length_le (by omega)]
theorem cap_may {T N : Int} {R : List Ru} (h : mayB T N ((R.map capR).take 41) = true) : mayB T N R = true := by
  simp only [mayB, headB, Bool.and_eq_true, decide_eq_true_eq, List.length_take, List.length_map] at h ⊢
  obtain ⟨h1, h2⟩ := h
  have hl : R.length ≤ 40 := by omega
  rw [List.take_of_length_le (by simp; omega)] at h2
  refine ⟨by omega, List.all_eq_true.2 fun r hr => ?_⟩
  have := List.all_eq_true.1 h2 (capR r) (List.mem_map_of_mem hr)
  simp only [ruleB, Bool.and_eq_true, decide_eq_true_eq, capR, List.length_take] at this ⊢
  obtain ⟨h3, h4⟩ := this
  rw [List.take_of_length_le (by omega)] at h4
  exact ⟨by omega, h4⟩
theorem may_same (T N : Int) (R : List Ru) : mayB T N ((R.map capR).take 41) = mayB T N R := by
  cases h : mayB T N R with
  | true => rw [may_cap h]; exact h
  | false =>
    cases h2 : mayB T N ((R.map capR).take 41) with
    | false => rfl
    | true => rw [cap_may h2] at h; cases h
/-- Does the reference take the text? -/
def pa9 (s : List UInt8) : Bool := ok9 s && mayB (T9 s : Nat) (N9 s : Nat) (R9 s)
theorem pok_same (s : List UInt8) : pOk s = pa9 s ∧ (pa9 s = true → (all9 s).1 = (T9 s, N9 s, R9 s)) := by
  obtain ⟨h1, h2, h3⟩ := all_same s
  unfold pOk pa9
  rw [h2]
  cases ho : ok9 s with
  | false => simp
  | true =>
    rw [h3 ho]
    simp only [Bool.true_and, may_same]
    refine ⟨trivial, fun h => ?_⟩
    rw [may_cap h]
/-- The first k lines are right, and make this grammar. -/
structure PfI (s : List UInt8) (k T N : Nat) (R : List Ru) : Prop where
  le : k ≤ (linesL s).length
  zero : k = 0 → T = 0 ∧ N = 0 ∧ R = []
  pos : ∀ h L m, linesL s = h :: L → k = m + 1 → hdW h = true ∧ T = hdTW h ∧ N = hdNW h ∧ (∀ a ∈ L.take m, rlW a = true) ∧ R = (L.take m).map rlRu
section
variable {s : List UInt8} {k T N : Nat} {R : List Ru}
theorem PfI.start (s : List UInt8) : PfI s 0 0 0 [] := ⟨Nat.zero_le _, fun _ => ⟨rfl, rfl, rfl⟩, fun h L m _ e => by omega⟩
theorem PfI.head {a : List UInt8} (hk : 0 < (linesL s).length) (ha : (linesL s).getD 0 [] = a) (hd : hdW a = true) : PfI s 1 (hdTW a) (hdNW a) [] := by
  refine ⟨hk, fun e => by omega, fun h L m e em => ?_⟩
  have hm : m = 0 := by omega
  rw [e] at ha
  have hh : h = a := ha
  subst hm hh
  exact ⟨hd, rfl, rfl, fun x hx => by simp at hx, rfl⟩
theorem PfI.rule {a : List UInt8} (h : PfI s k T N R) (h0 : k ≠ 0) (hk : k < (linesL s).length) (ha : (linesL s).getD k [] = a) (hr : rlW a = true) : PfI s (k + 1) T N (R ++ [rlRu a]) := by
  refine ⟨hk, fun e => by omega, fun x L m e em => ?_⟩
  obtain ⟨m', rfl⟩ : ∃ m', m = m' + 1 := ⟨m - 1, by omega⟩
  obtain ⟨h1, h2, h3, h4, h5⟩ := h.pos x L m' e (by omega)
  have hl : m' < L.length := by rw [e] at hk; simp at hk; omega
  have hLa : L[m'] = a := by
    rw [e, show k = m' + 1 by omega] at ha
    rw [← ha]
    simp [List.getD, hl]
  rw [List.take_succ_eq_append_getElem hl, hLa]
  refine ⟨h1, h2, h3, fun b hb => ?_, by rw [h5]; simp⟩
  rcases List.mem_append.1 hb with hb | hb
  · exact h4 b hb
  · rw [List.mem_singleton.1 hb]; exact hr
theorem PfI.badH {a : List UInt8} (hk : 0 < (linesL s).length) (ha : (linesL s).getD 0 [] = a) (hd : hdW a = false) : K9 s = 0 ∧ pa9 s = false := by
  obtain ⟨h, L, e⟩ : ∃ h L, linesL s = h :: L := by
    cases e : linesL s with
    | nil => rw [e] at hk; simp at hk
    | cons h L => exact ⟨h, L, rfl⟩
  rw [e] at ha
  have hh : h = a := ha
  subst hh
  unfold K9 pa9 ok9
  simp [e, hd]
theorem tw_bad : ∀ {L : List (List UInt8)} {m : Nat}, m < L.length → (∀ a ∈ L.take m, rlW a = true) → rlW (L.getD m []) = false → (L.takeWhile rlW).length = m ∧ L.all rlW = false
  | [], m, h, _, _ => by simp at h
  | x :: L, 0, _, _, h => by
    have hx : rlW x = false := h
    simp [hx]
  | x :: L, m + 1, h, h2, h3 => by
    have hx : rlW x = true := h2 x (by simp)
    obtain ⟨h4, h5⟩ := tw_bad (L := L) (m := m) (by simpa using h) (fun a ha => h2 a (by simp [ha])) h3
    simp only [List.takeWhile_cons, hx, if_true, List.length_cons, h4, List.all_cons, h5, Bool.and_false]
    exact ⟨trivial, trivial⟩
theorem PfI.badR {a : List UInt8} (h : PfI s k T N R) (h0 : k ≠ 0) (hk : k < (linesL s).length) (ha : (linesL s).getD k [] = a) (hr : rlW a = false) : K9 s = k ∧ pa9 s = false := by
  obtain ⟨x, L, e⟩ : ∃ x L, linesL s = x :: L := by
    cases e : linesL s with
    | nil => rw [e] at hk; simp at hk
    | cons x L => exact ⟨x, L, rfl⟩
  obtain ⟨m, rfl⟩ : ∃ m, k = m + 1 := ⟨k - 1, by omega⟩
  obtain ⟨h1, h2, h3, h4, h5⟩ := h.pos x L m e rfl
  rw [e] at hk ha
  have ha' : L.getD m [] = a := ha
  obtain ⟨h6, h7⟩ := tw_bad (m := m) (by simpa using hk) h4 (by rw [ha']; exact hr)
  unfold K9 pa9 ok9
  simp [e, h1, h6, h7]
theorem tw_all : ∀ {L : List (List UInt8)}, (∀ a ∈ L, rlW a = true) → (L.takeWhile rlW).length = L.length ∧ L.all rlW = true
  | [], _ => ⟨rfl, rfl⟩
  | x :: L, h => by
    have hx : rlW x = true := h x (by simp)
    obtain ⟨h4, h5⟩ := tw_all (L := L) fun a ha => h a (by simp [ha])
    simp [hx, h4, h5]
theorem PfI.done (h : PfI s k T N R) (hk : k = (linesL s).length) : K9 s = k ∧ ok9 s = (lastL s).isEmpty ∧ T9 s = T ∧ N9 s = N ∧ R9 s = R := by
  cases e : linesL s with
  | nil =>
    rw [e] at hk
    obtain ⟨h1, h2, h3⟩ := h.zero hk
    have hk' : k = 0 := hk
    unfold K9 ok9 T9 N9 R9
    simp [e, h1, h2, h3, hk']
  | cons x L =>
    rw [e] at hk
    obtain ⟨h1, h2, h3, h4, h5⟩ := h.pos x L L.length e hk
    rw [List.take_length] at h4 h5
    obtain ⟨h6, h7⟩ := tw_all h4
    unfold K9 ok9 T9 N9 R9
    simp [e, h1, h2, h3, h5, h6, h7, hk]
theorem PfI.few (h : PfI s k T N R) : R.length ≤ k := by
  cases e : linesL s with
  | nil =>
    have := h.le
    rw [e] at this
    obtain ⟨_, _, h3⟩ := h.zero (by simpa using this)
    simp [h3]
  | cons x L =>
    by_cases h0 : k = 0
    · simp [(h.zero h0).2.2]
    · obtain ⟨m, rfl⟩ : ∃ m, k = m + 1 := ⟨k - 1, by omega⟩
      obtain ⟨h1, h2, h3, h4, h5⟩ := h.pos x L m e rfl
      rw [h5]
      simp
      omega
theorem split_lines (s : List UInt8) : (splitB 10 s).length = (linesL s).length + 1 ∧ (∀ k, k < (linesL s).length → (splitB 10 s).getD k [] = (linesL s).getD k []) ∧ (splitB 10 s).getD (linesL s).length [] = lastL s := by
  obtain ⟨u, P, h1, _⟩ := splitB_form 10 s
  unfold linesL lastL
  rw [h1]
  refine ⟨by simp, fun k hk => ?_, ?_⟩
  · rw [List.length_dropLast] at hk
    simp only [List.getD]
    rw [List.getElem?_dropLast, if_pos hk]
  · rw [List.length_dropLast, List.getLastD_eq_getLast?, List.getLast?_eq_getElem?]
    rfl
end
end Go.Proofs.Ytoecjlfkpfmadaa
