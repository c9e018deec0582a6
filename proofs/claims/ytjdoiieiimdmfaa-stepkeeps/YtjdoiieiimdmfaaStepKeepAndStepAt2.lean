import Derived.Test.YtjdoiieiimdmfaaRowBAndConcR
import Derived.Test.YtjdoiieiimdmfaaConcYAndMay8
import Derived.Test.YtjdoiieiimdmfaaStOfLAndRef3Math
/- Plain: what a grammar has stays, whatever step is done (H3). No program. -/
namespace Go.Proofs.Ytjdoiieiimdmfaa

theorem seqK_append {A : Int → List Int → Prop} : ∀ {l m : List Sy} {Z Z' : List Int}, SeqD A l Z → SeqD A m Z' → SeqD A (l ++ m) (Z ++ Z') := by
  intro l
  induction l with
  | nil => intro m Z Z' h h'; cases h; exact h'
  | cons s l ih =>
    intro m Z Z' h h'
    obtain ⟨b, n⟩ := s
    cases b with
    | true => obtain ⟨Y, rfl, h2⟩ := h; exact ⟨Y ++ Z', rfl, ih h2 h'⟩
    | false =>
      obtain ⟨Z1, Z2, rfl, h3, h4⟩ := h
      exact ⟨Z1, Z2 ++ Z', by rw [List.append_assoc], h3, ih h4 h'⟩
theorem seqK_split {A : Int → List Int → Prop} : ∀ {l m : List Sy} {Z : List Int}, SeqD A (l ++ m) Z → ∃ Z1 Z2, Z = Z1 ++ Z2 ∧ SeqD A l Z1 ∧ SeqD A m Z2 := by
  intro l
  induction l with
  | nil => intro m Z h; exact ⟨[], Z, rfl, rfl, h⟩
  | cons s l ih =>
    intro m Z h
    obtain ⟨b, n⟩ := s
    cases b with
    | true =>
      obtain ⟨Y, rfl, h2⟩ := h
      obtain ⟨Z1, Z2, rfl, h3, h4⟩ := ih h2
      exact ⟨n :: Z1, Z2, rfl, ⟨Z1, rfl, h3⟩, h4⟩
    | false =>
      obtain ⟨Y1, Y2, rfl, h1, h2⟩ := h
      obtain ⟨Z1, Z2, rfl, h3, h4⟩ := ih h2
      exact ⟨Y1 ++ Z1, Z2, by rw [List.append_assoc], ⟨Y1, Z1, rfl, h1, h3⟩, h4⟩
theorem seqK_on {A B : Int → List Int → Prop} : ∀ {l : List Sy} {Z : List Int}, (∀ s ∈ l, s.1 = false → ∀ Z, A s.2 Z → B s.2 Z) → SeqD A l Z → SeqD B l Z := by
  intro l
  induction l with
  | nil => intro Z _ h; exact h
  | cons s l ih =>
    intro Z h hZ
    obtain ⟨b, n⟩ := s
    have h' : ∀ s ∈ l, s.1 = false → ∀ Z, A s.2 Z → B s.2 Z := fun s hs => h s (List.mem_cons_of_mem _ hs)
    cases b with
    | true => obtain ⟨Y, h1, h2⟩ := hZ; exact ⟨Y, h1, ih h' h2⟩
    | false => obtain ⟨Z1, Z2, h1, h2, h3⟩ := hZ; exact ⟨Z1, Z2, h1, h _ (List.mem_cons_self ..) rfl _ h2, ih h' h3⟩
theorem seqK_one {A : Int → List Int → Prop} {n : Int} {Z : List Int} : SeqD A [(false, n)] Z ↔ A n Z :=
  ⟨fun ⟨Z1, Z2, h1, h2, h3⟩ => by cases h3; rw [List.append_nil] at h1; rw [h1]; exact h2, fun h => ⟨Z, [], by rw [List.append_nil], h, rfl⟩⟩
theorem der_least {R : List Ru} {P : Int → List Int → Prop} (h : ∀ r ∈ R, ∀ Z, SeqD P r.2 Z → P r.1 Z) {n : Int} {Z : List Int} (hd : Der R n Z) : P n Z := by
  obtain ⟨k, hk⟩ := hd
  have : ∀ k n Z, DerL R k n Z → P n Z := by
    intro k
    induction k with
    | zero => intro n Z h; exact h.elim
    | succ k ih =>
      rintro n Z ⟨r, hr, rfl, hs⟩
      exact h r hr Z (hs.mono ih)
  exact this k n Z hk
theorem der_inv {R : List Ru} {n : Int} {Z : List Int} (hd : Der R n Z) : ∃ r ∈ R, r.1 = n ∧ SeqD (Der R) r.2 Z := by
  obtain ⟨k, hk⟩ := hd
  cases k with
  | zero => exact hk.elim
  | succ k =>
    obtain ⟨r, hr, h1, h2⟩ := hk
    exact ⟨r, hr, h1, h2.mono fun n Z h => ⟨k, h⟩⟩
theorem mem_doR {N : Nat} {R : List Ru} {s : Stp} {x : Ru} : x ∈ doR N R s ↔ (∃ k, k < R.length ∧ x ∈ oneR N R s k) ∨ x ∈ lastR N R s := by
  unfold doR
  rw [List.mem_append, List.mem_flatMap]
  simp only [List.mem_range]
theorem mid_split (l : List Sy) {b c : Nat} (h : b ≤ c) : l.take b ++ (l.take c).drop b ++ l.drop c = l := by
  have h1 : l.take b = (l.take c).take b := by rw [List.take_take, Nat.min_eq_left h]
  rw [h1, List.take_append_drop, List.take_append_drop]

section
variable {T N : Nat} {R : List Ru} (hf : Fine T N R)
include hf

/-! ### SSwap -/
omit hf in
theorem swapN_swapN (a b n : Int) : swapN a b (swapN a b n) = n := by
  unfold swapN
  split
  · split
    · omega
    · simp; omega
  · split
    · simp; omega
    · simp_all
omit hf in
theorem swap_seq {A : Int → List Int → Prop} {a b : Int} : ∀ {l : List Sy} {Z : List Int}, SeqD (fun n Z => A (swapN a b n) Z) l Z ↔ SeqD A (l.map (swapS a b)) Z := by
  intro l
  induction l with
  | nil => intro Z; exact Iff.rfl
  | cons s l ih =>
    intro Z
    obtain ⟨t, n⟩ := s
    cases t with
    | true => exact ⟨fun ⟨Y, h1, h2⟩ => ⟨Y, h1, ih.1 h2⟩, fun ⟨Y, h1, h2⟩ => ⟨Y, h1, ih.2 h2⟩⟩
    | false => exact ⟨fun ⟨Y, X, h1, h2, h3⟩ => ⟨Y, X, h1, h2, ih.1 h3⟩, fun ⟨Y, X, h1, h2, h3⟩ => ⟨Y, X, h1, h2, ih.2 h3⟩⟩
omit hf in
theorem keep_swap {a b c : Int} (h0 : 1 ≤ a) (h1 : 1 ≤ b) {Z : List Int} : Der R 0 Z ↔ Der (doR N R ⟨1, a, b, c⟩) 0 Z := by
  have e0 : swapN a b 0 = 0 := by unfold swapN; rw [if_neg (by omega), if_neg (by omega)]
  constructor
  · intro h
    have := der_least (P := fun n Z => Der (doR N R ⟨1, a, b, c⟩) (swapN a b n) Z) (fun r hr Z hs => ?_) h
    · rw [e0] at this; exact this
    · obtain ⟨k, hk, rfl⟩ := getD_of_mem hr
      exact Der_step (r := (swapN a b (R.getD k (0, [])).1, (R.getD k (0, [])).2.map (swapS a b))) (mem_doR.2 (.inl ⟨k, hk, by simp [oneR]⟩)) (swap_seq.1 hs)
  · intro h
    have := der_least (P := fun n Z => Der R (swapN a b n) Z) (fun r hr Z hs => ?_) h
    · rw [e0] at this; exact this
    · rcases mem_doR.1 hr with ⟨k, hk, hr⟩ | hr
      · simp only [oneR, if_pos, List.mem_singleton] at hr
        subst hr
        show Der R (swapN a b (swapN a b _)) Z
        rw [swapN_swapN]
        refine Der_step (mem_getD hk) ?_
        have h2 := swap_seq.2 hs
        refine h2.mono fun n Z hn => ?_
        simp only [swapN_swapN] at hn
        exact hn
      · simp [lastR] at hr

/-! ### SExtract -/
theorem keep_extract {a b c : Int} (hs : stepB N R ⟨2, a, b, c⟩ = true) {Z : List Int} : Der R 0 Z ↔ Der (doR N R ⟨2, a, b, c⟩) 0 Z := by
  have hst : 0 ≤ a ∧ a < (R.length : Int) ∧ 0 ≤ b ∧ b < c ∧ c ≤ ((R.getD a.toNat (0, [])).2.length : Int) := by
    unfold stepB at hs
    simp only at hs
    rw [if_neg (by decide), if_pos trivial] at hs
    simp only [Bool.and_eq_true, decide_eq_true_eq] at hs
    omega
  obtain ⟨an, rfl⟩ : ∃ x : Nat, a = x := ⟨a.toNat, by omega⟩
  obtain ⟨bn, rfl⟩ : ∃ x : Nat, b = x := ⟨b.toNat, by omega⟩
  obtain ⟨cn, rfl⟩ : ∃ x : Nat, c = x := ⟨c.toNat, by omega⟩
  simp only [Int.toNat_natCast] at hst
  have ha : an < R.length := by omega
  obtain ⟨r, hr⟩ : ∃ r, R.getD an (0, []) = r := ⟨_, rfl⟩
  have hrR : r ∈ R := by rw [← hr]; exact mem_getD ha
  have hcut := mid_split r.2 (b := bn) (c := cn) (by omega)
  have hlast : lastR N R ⟨2, an, bn, cn⟩ = [((N : Int), (r.2.take cn).drop bn)] := by
    unfold lastR
    simp only [Int.toNat_natCast, hr]
    rw [if_pos trivial]
  have hone : ∀ k, oneR N R ⟨2, an, bn, cn⟩ k = [if k = an then (r.1, r.2.take bn ++ (false, (N : Int)) :: r.2.drop cn) else R.getD k (0, [])] := fun k => by
    unfold oneR
    simp only [Int.toNat_natCast]
    rw [if_neg (by decide), if_pos trivial]
    by_cases hk : k = an
    · subst hk; rw [if_pos rfl, if_pos rfl, hr]
    · rw [if_neg (by omega), if_neg hk]
  have hltR : ∀ x ∈ R, x.1 ≠ (N : Int) := fun x hx e => by have := (hf.left x hx).2; omega
  constructor
  · intro h
    refine der_least (P := Der (doR N R ⟨2, an, bn, cn⟩)) (fun x hx Z hs => ?_) h
    obtain ⟨k, hk, rfl⟩ := getD_of_mem hx
    by_cases hka : k = an
    · subst hka
      rw [hr] at hs ⊢
      rw [← hcut] at hs
      obtain ⟨Y, Z3, rfl, h1, h3⟩ := seqK_split hs
      obtain ⟨Z1, Z2, rfl, h1, h2⟩ := seqK_split h1
      refine Der_step (r := (r.1, r.2.take bn ++ (false, (N : Int)) :: r.2.drop cn)) (mem_doR.2 (.inl ⟨k, hk, by rw [hone, if_pos rfl]; exact List.mem_singleton.2 rfl⟩)) ?_
      rw [List.append_assoc]
      refine seqK_append h1 ⟨Z2, Z3, rfl, ?_, h3⟩
      exact Der_step (r := ((N : Int), (r.2.take cn).drop bn)) (mem_doR.2 (.inr (by rw [hlast]; exact List.mem_singleton.2 rfl))) h2
    · exact Der_step (mem_doR.2 (.inl ⟨k, hk, by rw [hone, if_neg hka]; exact List.mem_singleton.2 rfl⟩)) hs
  · intro h
    have hP := der_least (P := fun n Z => (n = (N : Int) → SeqD (Der R) ((r.2.take cn).drop bn) Z) ∧ (n ≠ (N : Int) → Der R n Z)) (fun x hx Z hs => ?_) h
    · exact hP.2 (by have := hf.some; omega)
    · have low : ∀ {l : List Sy} {Z : List Int}, (∀ s ∈ l, s ∈ r.2) → SeqD (fun n Z => (n = (N : Int) → SeqD (Der R) ((r.2.take cn).drop bn) Z) ∧ (n ≠ (N : Int) → Der R n Z)) l Z → SeqD (Der R) l Z := fun hl hz =>
        seqK_on (fun s hs hb Z h => h.2 (by have := (hf.name r hrR s (hl s hs) hb).2; omega)) hz
      rcases mem_doR.1 hx with ⟨k, hk, hx⟩ | hx
      · rw [hone] at hx
        have hx := List.mem_singleton.1 hx
        by_cases hka : k = an
        · rw [if_pos hka] at hx
          subst hx
          obtain ⟨Z1, Y, rfl, h1, h2⟩ := seqK_split hs
          obtain ⟨Z2, Z3, rfl, h3, h4⟩ := h2
          refine ⟨fun e => absurd e (hltR r hrR), fun _ => Der_step hrR ?_⟩
          rw [← hcut, ← List.append_assoc]
          exact seqK_append (seqK_append (low (fun s hs => List.mem_of_mem_take hs) h1) (h3.1 rfl)) (low (fun s hs => List.mem_of_mem_drop hs) h4)
        · rw [if_neg hka] at hx
          subst hx
          refine ⟨fun e => absurd e (hltR _ (mem_getD hk)), fun _ => Der_step (mem_getD hk) ?_⟩
          exact seqK_on (fun s hs hb Z h => h.2 (by have := (hf.name _ (mem_getD hk) s hs hb).2; omega)) hs
      · rw [hlast] at hx
        have hx := List.mem_singleton.1 hx
        subst hx
        exact ⟨fun _ => low (fun s hs => List.mem_of_mem_take (List.mem_of_mem_drop hs)) hs, fun e => absurd rfl e⟩

/-! ### SInline -/
omit hf in
theorem keep_inline {a b c : Int} (hs : stepB N R ⟨3, a, b, c⟩ = true) {Z : List Int} : Der R 0 Z ↔ Der (doR N R ⟨3, a, b, c⟩) 0 Z := by
  have hst : 0 ≤ a ∧ a < (R.length : Int) ∧ 0 ≤ b ∧ b < ((R.getD a.toNat (0, [])).2.length : Int) ∧ ((R.getD a.toNat (0, [])).2.getD b.toNat (false, 0)).1 = false ∧ ¬ ((R.getD a.toNat (0, [])).2.getD b.toNat (false, 0)).2 = (R.getD a.toNat (0, [])).1 := by
    unfold stepB at hs
    simp only at hs
    rw [if_neg (by decide), if_neg (by decide), if_pos trivial] at hs
    simp only [Bool.and_eq_true, decide_eq_true_eq, Bool.not_eq_true', decide_eq_false_iff_not] at hs
    obtain ⟨⟨⟨⟨⟨h1, h2⟩, h3⟩, h4⟩, h5⟩, h6⟩ := hs
    exact ⟨h1.1, h1.2, h2, h3, h5, h6⟩
  obtain ⟨an, rfl⟩ : ∃ x : Nat, a = x := ⟨a.toNat, by omega⟩
  obtain ⟨bn, rfl⟩ : ∃ x : Nat, b = x := ⟨b.toNat, by omega⟩
  simp only [Int.toNat_natCast] at hst
  have ha : an < R.length := by omega
  obtain ⟨r, hr⟩ : ∃ r, R.getD an (0, []) = r := ⟨_, rfl⟩
  rw [hr] at hst
  have hrR : r ∈ R := by rw [← hr]; exact mem_getD ha
  obtain ⟨X, hX⟩ : ∃ X, (r.2.getD bn (false, 0)).2 = X := ⟨_, rfl⟩
  have hbl : bn < r.2.length := by omega
  have hsym : r.2.getD bn (false, 0) = (false, X) := Prod.ext hst.2.2.2.2.1 hX
  have hne : X ≠ r.1 := by rw [← hX]; exact hst.2.2.2.2.2
  have hcut : r.2.take bn ++ (false, X) :: r.2.drop (bn + 1) = r.2 := by
    have e : r.2[bn] = (false, X) := by rw [← hsym]; simp [List.getD, hbl]
    rw [← e, ← List.drop_eq_getElem_cons hbl, List.take_append_drop]
  have hone : ∀ k, oneR N R ⟨3, an, bn, c⟩ k = if k = an then (R.filter fun x => decide (x.1 = X)).map (inlR bn r) else [R.getD k (0, [])] := fun k => by
    unfold oneR
    simp only [Int.toNat_natCast]
    rw [if_neg (by decide), if_neg (by decide), if_pos trivial]
    by_cases hk : k = an
    · subst hk; rw [if_pos rfl, if_pos rfl, hr]; simp only [hX]
    · rw [if_neg (by omega), if_neg hk]
  have hlast : lastR N R ⟨3, an, bn, c⟩ = [] := by unfold lastR; simp only; rw [if_neg (by decide), if_neg (by decide)]
  constructor
  · intro h
    refine der_least (P := Der (doR N R ⟨3, an, bn, c⟩)) (fun x hx Z hs => ?_) h
    obtain ⟨k, hk, rfl⟩ := getD_of_mem hx
    by_cases hka : k = an
    · subst hka
      rw [hr] at hs ⊢
      rw [← hcut] at hs
      obtain ⟨Z1, Y, rfl, h1, Z2, Z3, rfl, h2, h3⟩ := seqK_split hs
      obtain ⟨y, hy, hyX, hys⟩ := der_inv h2
      have hyR : y ∈ R := by
        rcases mem_doR.1 hy with ⟨q, hq, hy⟩ | hy
        · rw [hone] at hy
          split at hy
          · obtain ⟨z, _, rfl⟩ := List.mem_map.1 hy
            exact absurd hyX.symm hne
          · rw [List.mem_singleton.1 hy]; exact mem_getD hq
        · rw [hlast] at hy; cases hy
      refine Der_step (r := inlR bn r y) (mem_doR.2 (.inl ⟨k, hk, by rw [hone, if_pos rfl]; exact List.mem_map.2 ⟨y, List.mem_filter.2 ⟨hyR, by simpa using hyX⟩, rfl⟩⟩)) ?_
      show SeqD _ (r.2.take bn ++ y.2 ++ r.2.drop (bn + 1)) _
      rw [← List.append_assoc]
      exact seqK_append (seqK_append h1 hys) h3
    · exact Der_step (mem_doR.2 (.inl ⟨k, hk, by rw [hone, if_neg hka]; exact List.mem_singleton.2 rfl⟩)) hs
  · intro h
    refine der_least (P := Der R) (fun x hx Z hs => ?_) h
    rcases mem_doR.1 hx with ⟨k, hk, hx⟩ | hx
    · rw [hone] at hx
      split at hx
      · obtain ⟨y, hy, rfl⟩ := List.mem_map.1 hx
        obtain ⟨hyR, hyX⟩ := List.mem_filter.1 hy
        have hyX : y.1 = X := by simpa using hyX
        obtain ⟨Y, Z3, rfl, h1, h3⟩ := seqK_split (show SeqD _ (r.2.take bn ++ y.2 ++ r.2.drop (bn + 1)) _ from hs)
        obtain ⟨Z1, Z2, rfl, h1, h2⟩ := seqK_split h1
        refine Der_step (r := r) hrR ?_
        rw [← hcut, List.append_assoc]
        exact seqK_append h1 ⟨Z2, Z3, rfl, by rw [← hyX]; exact Der_step hyR h2, h3⟩
      · rw [List.mem_singleton.1 hx] at hs ⊢
        exact Der_step (mem_getD hk) hs
    · rw [hlast] at hx; cases hx

/-! ### SLeft -/
omit hf in
theorem ownR_form {r : Ru} (h : ownR r = true) : ∃ l, r.2 = (false, r.1) :: l := by
  obtain ⟨L, l⟩ := r
  unfold ownR at h
  cases l with
  | nil => simp at h
  | cons s l =>
    obtain ⟨t, n⟩ := s
    simp at h
    exact ⟨l, by rw [h.1, h.2]⟩
theorem keep_left {a b c : Int} (hs : stepB N R ⟨4, a, b, c⟩ = true) {Z : List Int} : Der R 0 Z ↔ Der (doR N R ⟨4, a, b, c⟩) 0 Z := by
  have haN : a ≠ (N : Int) := by
    unfold stepB at hs
    simp only at hs
    rw [if_neg (by decide), if_neg (by decide), if_neg (by decide), if_pos trivial] at hs
    simp only [Bool.and_eq_true, decide_eq_true_eq, leftB, List.any_eq_true, ownA] at hs
    obtain ⟨_, ⟨r, hr, h1, _⟩, _⟩ := hs
    have := (hf.left r hr).2
    omega
  clear hs
  have hlast : lastR N R ⟨4, a, b, c⟩ = [((N : Int), [])] := by unfold lastR; simp only; rw [if_neg (by decide), if_pos trivial]
  have hone : ∀ k, oneR N R ⟨4, a, b, c⟩ k = [if (R.getD k (0, [])).1 = a then (if ownR (R.getD k (0, [])) then ((N : Int), (R.getD k (0, [])).2.drop 1 ++ [(false, (N : Int))]) else ((R.getD k (0, [])).1, (R.getD k (0, [])).2 ++ [(false, (N : Int))])) else R.getD k (0, [])] := fun k => by
    unfold oneR
    simp only
    rw [if_neg (by decide), if_neg (by decide), if_neg (by decide), if_pos trivial]
  have hltR : ∀ x ∈ R, x.1 ≠ (N : Int) := fun x hx e => by have := (hf.left x hx).2; omega
  have hnil : Der (doR N R ⟨4, a, b, c⟩) N [] := Der_step (r := ((N : Int), [])) (mem_doR.2 (.inr (by rw [hlast]; exact List.mem_singleton.2 rfl))) rfl
  constructor
  · intro h
    refine der_least (P := Der (doR N R ⟨4, a, b, c⟩)) (fun x hx Z hs => ?_) h
    obtain ⟨k, hk, rfl⟩ := getD_of_mem hx
    have hin := hone k
    by_cases hka : (R.getD k (0, [])).1 = a
    · rw [if_pos hka] at hin
      cases ho : ownR (R.getD k (0, [])) with
      | true =>
        obtain ⟨l, hl⟩ := ownR_form ho
        rw [if_pos ho, hl] at hin
        rw [hl] at hs
        obtain ⟨Z1, Z2, rfl, h1, h2⟩ := hs
        have hrule : ((N : Int), l ++ [(false, (N : Int))]) ∈ doR N R ⟨4, a, b, c⟩ := mem_doR.2 (.inl ⟨k, hk, by rw [hin]; exact List.mem_singleton.2 rfl⟩)
        have more : ∀ m T, DerL (doR N R ⟨4, a, b, c⟩) m N T → Der (doR N R ⟨4, a, b, c⟩) N (T ++ Z2) := by
          intro m
          induction m with
          | zero => intro T h; exact h.elim
          | succ m ih =>
            rintro T ⟨y, hy, hyN, hys⟩
            rcases mem_doR.1 hy with ⟨q, hq, hy'⟩ | hy'
            · rw [hone] at hy'
              have hy' := List.mem_singleton.1 hy'
              split at hy'
              · split at hy'
                · subst hy'
                  obtain ⟨U, T2, rfl, u1, u2⟩ := seqK_split hys
                  have u3 := ih T2 (seqK_one.1 u2)
                  have := Der_step hy (Z := U ++ (T2 ++ Z2)) (seqK_append (u1.mono fun n Z h => ⟨m, h⟩) (seqK_one.2 u3))
                  rw [List.append_assoc]
                  exact this
                · subst hy'
                  exact absurd (show (R.getD q (0, [])).1 = (N : Int) from hyN) (hltR _ (mem_getD hq))
              · subst hy'
                exact absurd (show (R.getD q (0, [])).1 = (N : Int) from hyN) (hltR _ (mem_getD hq))
            · rw [hlast] at hy'
              have hy' := List.mem_singleton.1 hy'
              subst hy'
              cases hys
              have := Der_step hrule (seqK_append h2 (seqK_one.2 hnil))
              rw [List.append_nil] at this
              exact this
        obtain ⟨y, hy, hyA, hys⟩ := der_inv h1
        rw [hka] at hyA ⊢
        rcases mem_doR.1 hy with ⟨q, hq, hy'⟩ | hy'
        · rw [hone] at hy'
          have hy' := List.mem_singleton.1 hy'
          split at hy'
          · split at hy'
            · subst hy'
              exact absurd hyA.symm haN
            · have hyr : y.2 = (R.getD q (0, [])).2 ++ [(false, (N : Int))] := by rw [hy']
              rw [hyr] at hys
              obtain ⟨Y, T, rfl, u1, u2⟩ := seqK_split hys
              obtain ⟨m, hm⟩ := seqK_one.1 u2
              have hz := Der_step hy (Z := Y ++ (T ++ Z2)) (by rw [hyr]; exact seqK_append u1 (seqK_one.2 (more m T hm)))
              rw [hyA] at hz
              rw [List.append_assoc]
              exact hz
          · rename_i hqa
            rw [hy'] at hyA
            exact absurd hyA hqa
        · rw [hlast] at hy'
          have hy' := List.mem_singleton.1 hy'
          subst hy'
          exact absurd hyA.symm haN
      | false =>
        rw [if_neg (by rw [ho]; simp)] at hin
        have := Der_step (r := ((R.getD k (0, [])).1, (R.getD k (0, [])).2 ++ [(false, (N : Int))])) (mem_doR.2 (.inl ⟨k, hk, by rw [hin]; exact List.mem_singleton.2 rfl⟩)) (seqK_append hs (seqK_one.2 hnil))
        rw [List.append_nil] at this
        exact this
    · rw [if_neg hka] at hin
      exact Der_step (mem_doR.2 (.inl ⟨k, hk, by rw [hin]; exact List.mem_singleton.2 rfl⟩)) hs
  · intro h
    have hP := der_least (P := fun n Z => (n = (N : Int) → ∀ Y, Der R a Y → Der R a (Y ++ Z)) ∧ (n ≠ (N : Int) → Der R n Z)) (fun x hx Z hs => ?_) h
    · exact hP.2 (by have := hf.some; omega)
    · have low : ∀ {x : Ru} {l : List Sy} {Z : List Int}, x ∈ R → (∀ s ∈ l, s ∈ x.2) → SeqD (fun n Z => (n = (N : Int) → ∀ Y, Der R a Y → Der R a (Y ++ Z)) ∧ (n ≠ (N : Int) → Der R n Z)) l Z → SeqD (Der R) l Z := fun hxR hl hz =>
        seqK_on (fun s hs hb Z h => h.2 (by have := (hf.name _ hxR s (hl s hs) hb).2; omega)) hz
      rcases mem_doR.1 hx with ⟨k, hk, hx⟩ | hx
      · rw [hone] at hx
        have hx := List.mem_singleton.1 hx
        have hkR := mem_getD hk
        split at hx
        · rename_i hka
          split at hx
          · rename_i ho
            obtain ⟨l, hl⟩ := ownR_form ho
            subst hx
            rw [hl] at hs
            obtain ⟨U, T, rfl, u1, u2⟩ := seqK_split (show SeqD _ (l ++ [(false, (N : Int))]) _ from hs)
            refine ⟨fun _ Y hY => ?_, fun e => absurd rfl e⟩
            have u3 := (seqK_one.1 u2).1 rfl (Y ++ U)
            rw [List.append_assoc] at u3
            refine u3 ?_
            have := Der_step hkR (Z := Y ++ U) (by rw [hl]; exact ⟨Y, U, rfl, by rw [hka]; exact hY, low hkR (fun s hs => by rw [hl]; exact List.mem_cons_of_mem _ hs) u1⟩)
            rw [hka] at this
            exact this
          · subst hx
            obtain ⟨Y, T, rfl, u1, u2⟩ := seqK_split hs
            refine ⟨fun e => absurd (show (R.getD k (0, [])).1 = (N : Int) from e) (hltR _ hkR), fun _ => ?_⟩
            have h1 := Der_step hkR (low hkR (fun s hs => hs) u1)
            rw [hka] at h1
            have h2 := (seqK_one.1 u2).1 rfl Y h1
            show Der R (R.getD k (0, [])).1 _
            rw [hka]
            exact h2
        · subst hx
          exact ⟨fun e => absurd e (hltR _ hkR), fun _ => Der_step hkR (low hkR (fun s hs => hs) hs)⟩
      · rw [hlast] at hx
        have hx := List.mem_singleton.1 hx
        subst hx
        cases hs
        exact ⟨fun _ Y hY => by rw [List.append_nil]; exact hY, fun e => absurd rfl e⟩

/-! ### SPrune -/
theorem needB_iff {r : Ru} (hr : r ∈ R) : needB N R r = true ↔ MakesP N R r.1 ∧ ComesP N R r.1 ∧ AllM (MakesP N R) r.2 := by
  have h1 := (makesA_iff hf).2
  have h2 := (comesA_iff hf).2
  have h0 := (hf.left r hr).1
  have hM : (makesA R N).getD r.1.toNat false = true ↔ MakesP N R r.1 := ⟨fun h => (h1 _).1 ⟨h0, h⟩, fun h => ((h1 _).2 h).2⟩
  have hC : (comesA R N).getD r.1.toNat false = true ↔ ComesP N R r.1 := ⟨fun h => (h2 _).1 ⟨h0, h⟩, fun h => ((h2 _).2 h).2⟩
  have hA : allB (makesA R N) r.2 = true ↔ AllM (MakesP N R) r.2 := by
    unfold allB
    rw [List.all_eq_true]
    constructor
    · intro h s hs hb
      have := h s hs
      rw [hb, Bool.false_or] at this
      exact (h1 _).1 ⟨(hf.name r hr s hs hb).1, this⟩
    · intro h s hs
      cases hb : s.1 with
      | true => rfl
      | false => rw [Bool.false_or]; exact ((h1 _).2 (h s hs hb)).2
  unfold needB
  rw [Bool.and_eq_true, Bool.and_eq_true, hM, hC, hA, and_assoc]
omit hf in
theorem seqK_all {A : Int → List Int → Prop} {M : Int → Prop} (h : ∀ n Z, A n Z → M n) : ∀ {l : List Sy} {Z : List Int}, SeqD A l Z → AllM M l := by
  intro l
  induction l with
  | nil => intro Z _ s hs; cases hs
  | cons s l ih =>
    intro Z hZ
    obtain ⟨b, n⟩ := s
    cases b with
    | true =>
      obtain ⟨Y, h1, h2⟩ := hZ
      intro s hs hb
      rcases List.mem_cons.1 hs with rfl | hs
      · cases hb
      · exact ih h2 s hs hb
    | false =>
      obtain ⟨Z1, Z2, _, h2, h3⟩ := hZ
      intro s hs hb
      rcases List.mem_cons.1 hs with rfl | hs
      · exact h _ _ h2
      · exact ih h3 s hs hb
theorem keep_prune {a b c : Int} {Z : List Int} : Der R 0 Z ↔ Der (doR N R ⟨5, a, b, c⟩) 0 Z := by
  have hlast : lastR N R ⟨5, a, b, c⟩ = [] := by unfold lastR; simp only; rw [if_neg (by decide), if_neg (by decide)]
  have hone : ∀ k, oneR N R ⟨5, a, b, c⟩ k = if needB N R (R.getD k (0, [])) then [R.getD k (0, [])] else [] := fun k => by
    unfold oneR
    simp only
    rw [if_neg (by decide), if_neg (by decide), if_neg (by decide), if_neg (by decide), if_pos trivial]
  constructor
  · intro h
    have hP := der_least (P := fun n Z => MakesP N R n ∧ (ComesP N R n → Der (doR N R ⟨5, a, b, c⟩) n Z)) (fun x hx Z hs => ?_) h
    · exact hP.2 (Lv_closed (ComesF_mono hf _) _ (.inl ⟨rfl, hP.1⟩))
    · have hall : AllM (MakesP N R) x.2 := seqK_all (fun n Z h => h.1) hs
      have hmk : MakesP N R x.1 := Lv_closed (MakesF_mono hf) _ ⟨x, hx, rfl, hall⟩
      refine ⟨hmk, fun hc => ?_⟩
      obtain ⟨k, hk, rfl⟩ := getD_of_mem hx
      refine Der_step (mem_doR.2 (.inl ⟨k, hk, ?_⟩)) (seqK_on (fun s hs hb Z h => h.2 (Lv_closed (ComesF_mono hf _) _ (.inr ⟨_, hx, ?_, hall, hc⟩))) hs)
      · rw [hone, if_pos ((needB_iff hf hx).2 ⟨hmk, hc, hall⟩)]; exact List.mem_singleton.2 rfl
      · obtain ⟨t, n⟩ := s
        cases hb
        exact hs
  · intro h
    refine der_least (P := Der R) (fun x hx Z hs => ?_) h
    rcases mem_doR.1 hx with ⟨k, hk, hx⟩ | hx
    · rw [hone] at hx
      split at hx
      · rw [List.mem_singleton.1 hx] at hs ⊢
        exact Der_step (mem_getD hk) hs
      · cases hx
    · rw [hlast] at hx; cases hx

/-- H3: what a grammar has stays. -/
theorem keep_any {s : Stp} (hs : stepB N R s = true) {Z : List Int} : Der R 0 Z ↔ Der (doR N R s) 0 Z := by
  obtain ⟨op, a, b, c⟩ := s
  by_cases h1 : op = 1
  · subst h1
    unfold stepB at hs
    simp only at hs
    rw [if_pos trivial] at hs
    simp only [Bool.and_eq_true, decide_eq_true_eq] at hs
    exact keep_swap (by omega) (by omega)
  by_cases h2 : op = 2
  · subst h2; exact keep_extract hf hs
  by_cases h3 : op = 3
  · subst h3; exact keep_inline hs
  by_cases h4 : op = 4
  · subst h4; exact keep_left hf hs
  by_cases h5 : op = 5
  · subst h5; exact keep_prune hf
  · exfalso
    unfold stepB at hs
    simp [h1, h2, h3, h4, h5] at hs

end

end Go.Proofs.Ytjdoiieiimdmfaa

/- Plain: SExtract: each derivation is carried over, and back (H2, H3). No program. -/
namespace Go.Proofs.Ytjdoiieiimdmfaa

section
variable {N : Nat} {R R' : List Ru} {a : Nat} {l1 l2 l3 : List Sy}

end

end Go.Proofs.Ytjdoiieiimdmfaa

/- Plain: SInline, SSwap, SPrune: each derivation is carried over, and back (H2, H3). No program. -/
namespace Go.Proofs.Ytjdoiieiimdmfaa

/-! ### SInline -/

section
variable {R R' : List Ru} {a : Nat} {l1 l3 : List Sy} {X : Int} {sh ush rk : Nat → Nat} {isIn : Nat → Option Nat} {m : Nat → Nat}

end

/-! ### SPrune: rules stay, under other numbers -/

section
variable {R R' : List Ru} {M C : Int → Prop} {sh ush : Nat → Nat}
end

/-! ### SSwap: the trees stay -/

end Go.Proofs.Ytjdoiieiimdmfaa

/- Plain: SLeft: each derivation is carried over, and back (H2, H3). No program. -/
namespace Go.Proofs.Ytjdoiieiimdmfaa

section
variable {N : Nat} {R R' : List Ru} {A : Int} {own isA : Nat → Bool} {L : Nat}

end

end Go.Proofs.Ytjdoiieiimdmfaa

/- Plain: where the rules lie in what comes of SSwap, SExtract, SLeft; how many rules a derivation has that is carried over. No program. -/
namespace Go.Proofs.Ytjdoiieiimdmfaa

section
variable {T N : Nat} {R : List Ru} {s : Stp}

theorem flatMap_single {f : Nat → List Ru} {h : Nat → Ru} (he : ∀ k, f k = [h k]) : ∀ L : List Nat, L.flatMap f = L.map h
  | [] => rfl
  | k :: L => by rw [List.flatMap_cons, he, List.map_cons, flatMap_single he L]; rfl
theorem doR_one {h : Nat → Ru} (he : ∀ k, oneR N R s k = [h k]) : doR N R s = (List.range R.length).map h ++ lastR N R s := by
  unfold doR
  rw [flatMap_single he]
end

/-! ### How many rules -/

section
variable {N : Nat} {R R' : List Ru} {A : Int} {own isA : Nat → Bool}
end

end Go.Proofs.Ytjdoiieiimdmfaa

/- Plain: where the rules lie in what comes of SPrune, SInline. No program. -/
namespace Go.Proofs.Ytjdoiieiimdmfaa

/-! ### Those of the numbers that are meant -/

def idxF (p : Nat → Bool) (n : Nat) : List Nat := (List.range n).filter p
theorem idx_succ (p : Nat → Bool) (n : Nat) : idxF p (n + 1) = idxF p n ++ (if p n then [n] else []) := by
  unfold idxF
  rw [List.range_succ, List.filter_append]
  congr 1
  cases h : p n <;> simp [h]
theorem flatMap_on {f g : Nat → List Ru} : ∀ L : List Nat, (∀ k ∈ L, f k = g k) → L.flatMap f = L.flatMap g
  | [], _ => rfl
  | k :: L, h => by rw [List.flatMap_cons, List.flatMap_cons, h k (List.mem_cons_self ..), flatMap_on L fun k hk => h k (List.mem_cons_of_mem _ hk)]
section
variable {T N : Nat} {R : List Ru}

theorem flatMap_pick (p : Nat → Bool) (f : Nat → Ru) : ∀ L : List Nat, (L.flatMap fun k => if p k then [f k] else []) = (L.filter p).map f
  | [] => rfl
  | k :: L => by
    rw [List.flatMap_cons, flatMap_pick p f L, List.filter_cons]
    split <;> rfl

/-- The rules of a name, by their numbers. -/
theorem filter_idx (X : Int) : (R.filter fun x => decide (x.1 = X)) = (idxF (fun k => decide ((R.getD k (0, [])).1 = X)) R.length).map fun k => R.getD k (0, []) := by
  have hR : R = (List.range R.length).map fun k => R.getD k (0, []) := by
    refine List.ext_getElem? fun i => ?_
    by_cases hi : i < R.length
    · rw [List.getElem?_map, List.getElem?_range hi]
      simp [List.getD, hi]
    · rw [List.getElem?_eq_none (by omega), List.getElem?_eq_none (by rw [List.length_map, List.length_range]; omega)]
  conv => lhs; rw [hR]
  rw [List.filter_map]
  rfl

end

end Go.Proofs.Ytjdoiieiimdmfaa
