/- Plain: the shortest yields (D1), and that taking the shortest one first finds them. No program, no memory. -/
import Derived.Test.YtolkfmddghkkeaaLfp
import Derived.Test.YtolkfmddghkkeaaBits
namespace Go.Proofs.Ytolkfmddghkkeaa

/-- Symbols come to so many tokens, where names come to what A says. -/
def SumR (A : Int → Int → Prop) : List Sy → Int → Prop
  | [], v => v = 0
  | (true, _) :: l, v => ∃ u, SumR A l u ∧ v = 1 + u
  | (false, n) :: l, v => ∃ a u, A n a ∧ SumR A l u ∧ v = a + u
def lid : Int := 1000000000
def CanF (R : List Ru) (A : Int → Int → Prop) (n v : Int) : Prop := ∃ r ∈ R, r.1 = n ∧ ∃ s, SumR A r.2 s ∧ v = min s lid
def CanL (R : List Ru) : Nat → Int → Int → Prop
  | 0, _, _ => False
  | k + 1, n, v => CanF R (CanL R k) n v
/-- The name n has a derivation that yields so many tokens (more than the lid count as so many). -/
def Can (R : List Ru) (n v : Int) : Prop := ∃ k, CanL R k n v

theorem SumR.mono {A B : Int → Int → Prop} (h : ∀ n v, A n v → B n v) : ∀ {l : List Sy} {v : Int}, SumR A l v → SumR B l v := by
  intro l
  induction l with
  | nil => intro v hv; exact hv
  | cons s l ih =>
    intro v hv
    obtain ⟨b, n⟩ := s
    cases b with
    | true => obtain ⟨u, h1, h2⟩ := hv; exact ⟨u, ih h1, h2⟩
    | false => obtain ⟨a, u, h0, h1, h2⟩ := hv; exact ⟨a, u, h _ _ h0, ih h1, h2⟩

theorem CanF.mono {R : List Ru} {A B : Int → Int → Prop} (h : ∀ n v, A n v → B n v) {n v : Int} (hv : CanF R A n v) : CanF R B n v := by
  obtain ⟨r, h1, h2, s, h3, h4⟩ := hv
  exact ⟨r, h1, h2, s, h3.mono h, h4⟩

theorem CanL_succ {R : List Ru} : ∀ k n v, CanL R k n v → CanL R (k + 1) n v := by
  intro k
  induction k with
  | zero => intro n v h; exact h.elim
  | succ k ih => intro n v h; exact CanF.mono ih h
theorem CanL_le {R : List Ru} {k m : Nat} (h : k ≤ m) : ∀ n v, CanL R k n v → CanL R m n v := by
  induction h with
  | refl => intro n v h; exact h
  | step _ ih => intro n v h; exact CanL_succ _ _ _ (ih n v h)

theorem SumR_level {R : List Ru} : ∀ {l : List Sy} {v : Int}, SumR (Can R) l v → ∃ k, SumR (CanL R k) l v := by
  intro l
  induction l with
  | nil => intro v h; exact ⟨0, h⟩
  | cons s l ih =>
    intro v h
    obtain ⟨b, n⟩ := s
    cases b with
    | true =>
      obtain ⟨u, h1, h2⟩ := h
      obtain ⟨k, hk⟩ := ih h1
      exact ⟨k, u, hk, h2⟩
    | false =>
      obtain ⟨a, u, ⟨m, h0⟩, h1, h2⟩ := h
      obtain ⟨k, hk⟩ := ih h1
      exact ⟨max m k, a, u, CanL_le (Nat.le_max_left _ _) _ _ h0, hk.mono (CanL_le (Nat.le_max_right _ _)), h2⟩

theorem Can_step {R : List Ru} {r : Ru} (hr : r ∈ R) {s : Int} (h : SumR (Can R) r.2 s) : Can R r.1 (min s lid) := by
  obtain ⟨k, hk⟩ := SumR_level h
  exact ⟨k + 1, r, hr, rfl, s, hk, rfl⟩

theorem SumR_nonneg {A : Int → Int → Prop} (h : ∀ n v, A n v → 0 ≤ v) : ∀ {l : List Sy} {v : Int}, SumR A l v → 0 ≤ v := by
  intro l
  induction l with
  | nil => intro v hv; have : v = 0 := hv; omega
  | cons s l ih =>
    intro v hv
    obtain ⟨b, n⟩ := s
    cases b with
    | true => obtain ⟨u, h1, h2⟩ := hv; have := ih h1; omega
    | false => obtain ⟨a, u, h0, h1, h2⟩ := hv; have := ih h1; have := h _ _ h0; omega

theorem CanL_range {R : List Ru} : ∀ k n v, CanL R k n v → 0 ≤ v ∧ v ≤ lid := by
  intro k
  induction k with
  | zero => intro n v h; exact h.elim
  | succ k ih =>
    rintro n v ⟨r, _, _, s, h3, rfl⟩
    have := SumR_nonneg (fun n v h => (ih n v h).1) h3
    unfold lid
    omega
theorem Can_range {R : List Ru} {n v : Int} (h : Can R n v) : 0 ≤ v ∧ v ≤ lid := by
  obtain ⟨k, h⟩ := h
  exact CanL_range k n v h

/-- What is told of the name n: -1, it has none; else so many, and none is shorter. -/
structure IsShort (N : Nat) (R : List Ru) (O : List Int) : Prop where
  len : O.length = N
  none : ∀ n, n < N → O.getD n 0 < 0 → O.getD n 0 = -1 ∧ ∀ v, ¬ Can R n v
  some : ∀ n, n < N → 0 ≤ O.getD n 0 → Can R n (O.getD n 0) ∧ ∀ v, Can R n v → O.getD n 0 ≤ v

theorem IsShort.one {N : Nat} {R : List Ru} {O P : List Int} (h : IsShort N R O) (k : IsShort N R P) : O = P := by
  refine List.ext_getElem (by rw [h.len, k.len]) fun i h1 h2 => ?_
  have hi : i < N := by rw [← h.len]; exact h1
  have e1 : O.getD i 0 = O[i] := by simp [List.getD, h1]
  have e2 : P.getD i 0 = P[i] := by simp [List.getD, h2]
  rw [← e1, ← e2]
  by_cases a : O.getD i 0 < 0
  · obtain ⟨a1, a2⟩ := h.none i hi a
    by_cases b : P.getD i 0 < 0
    · rw [a1, (k.none i hi b).1]
    · exact absurd (k.some i hi (by omega)).1 (a2 _)
  · obtain ⟨a1, a2⟩ := h.some i hi (by omega)
    by_cases b : P.getD i 0 < 0
    · exact absurd a1 ((k.none i hi b).2 _)
    · obtain ⟨b1, b2⟩ := k.some i hi (by omega)
      have := a2 _ b1
      have := b2 _ a1
      omega

/-! ### What a rule comes to -/

/-- By what is told of names so far; none: a name of them is not settled. -/
def sumV (O : List Int) : List Sy → Option Int
  | [] => some 0
  | (true, _) :: l => (sumV O l).map (1 + ·)
  | (false, n) :: l => if O.getD n.toNat 0 < 0 then none else (sumV O l).map (O.getD n.toNat 0 + ·)
def ruleV (O : List Int) (l : List Sy) : Int := match sumV O l with | none => -1 | some s => min s lid

/-- What is told of settled names is true. -/
structure Told (N : Nat) (R : List Ru) (O : List Int) : Prop where
  len : O.length = N
  neg : ∀ n, n < N → O.getD n 0 < 0 → O.getD n 0 = -1
  some : ∀ n, n < N → 0 ≤ O.getD n 0 → Can R n (O.getD n 0) ∧ ∀ v, Can R n v → O.getD n 0 ≤ v

section
variable {T N : Nat} {R : List Ru}

theorem sumV_can {O : List Int} (hO : ∀ n : Nat, n < N → 0 ≤ O.getD n 0 → Can R n (O.getD n 0)) : ∀ {l : List Sy} {s : Int}, (∀ x ∈ l, x.1 = false → 0 ≤ x.2 ∧ x.2 < (N : Int)) → sumV O l = some s → SumR (Can R) l s ∧ 0 ≤ s := by
  intro l
  induction l with
  | nil => intro s _ h; simp only [sumV, Option.some.injEq] at h; subst h; exact ⟨rfl, Int.le_refl _⟩
  | cons x l ih =>
    intro s hin h
    have hin' : ∀ x ∈ l, x.1 = false → 0 ≤ x.2 ∧ x.2 < (N : Int) := fun x hx => hin x (List.mem_cons_of_mem _ hx)
    obtain ⟨b, n⟩ := x
    cases b with
    | true =>
      simp only [sumV, Option.map_eq_some_iff] at h
      obtain ⟨u, h1, rfl⟩ := h
      obtain ⟨k1, k2⟩ := ih hin' h1
      exact ⟨⟨u, k1, rfl⟩, by omega⟩
    | false =>
      have hn := hin (false, n) (by simp) rfl
      simp only at hn
      simp only [sumV] at h
      split at h
      · cases h
      · rename_i hneg
        simp only [Option.map_eq_some_iff] at h
        obtain ⟨u, h1, rfl⟩ := h
        obtain ⟨k1, k2⟩ := ih hin' h1
        have hc := hO n.toNat (by omega) (by omega)
        have e : ((n.toNat : Nat) : Int) = n := by omega
        rw [e] at hc
        exact ⟨⟨_, u, hc, k1, rfl⟩, by omega⟩

theorem ruleV_range {O : List Int} {l : List Sy} (hO : ∀ n : Nat, n < N → 0 ≤ O.getD n 0 → Can R n (O.getD n 0)) (hin : ∀ x ∈ l, x.1 = false → 0 ≤ x.2 ∧ x.2 < (N : Int)) : ruleV O l = -1 ∨ 0 ≤ ruleV O l ∧ ruleV O l ≤ lid := by
  unfold ruleV
  cases h : sumV O l with
  | none => exact .inl rfl
  | some s =>
    have := (sumV_can hO hin h).2
    right
    simp only [lid]
    omega

theorem ruleV_can {O : List Int} (hf : Fine T N R) (hO : ∀ n : Nat, n < N → 0 ≤ O.getD n 0 → Can R n (O.getD n 0)) {r : Ru} (hr : r ∈ R) (h : 0 ≤ ruleV O r.2) : Can R r.1 (ruleV O r.2) := by
  unfold ruleV at h ⊢
  cases hs : sumV O r.2 with
  | none => rw [hs] at h; simp at h
  | some s => exact Can_step hr (sumV_can hO (hf.name r hr) hs).1

/-- Where all names of symbols are settled, they come to no more than what they can. -/
theorem sumV_least {O : List Int} {A : Int → Int → Prop} (hA : ∀ n v, A n v → 0 ≤ v) : ∀ {l : List Sy} {s : Int}, (∀ n v : Int, (false, n) ∈ l → A n v → 0 ≤ O.getD n.toNat 0 → O.getD n.toNat 0 ≤ v) → SumR A l s →
    (∃ s', sumV O l = some s' ∧ s' ≤ s) ∨ ∃ n v : Int, (false, n) ∈ l ∧ O.getD n.toNat 0 < 0 ∧ A n v ∧ v ≤ s := by
  intro l
  induction l with
  | nil => intro s _ h; have h' : s = 0 := h; subst h'; exact .inl ⟨0, rfl, Int.le_refl _⟩
  | cons x l ih =>
    intro s hle h
    have hle' : ∀ n v : Int, (false, n) ∈ l → A n v → 0 ≤ O.getD n.toNat 0 → O.getD n.toNat 0 ≤ v := fun n v hm => hle n v (List.mem_cons_of_mem _ hm)
    obtain ⟨b, n⟩ := x
    cases b with
    | true =>
      obtain ⟨u, h1, h2⟩ := h
      have hu := SumR_nonneg hA h1
      rcases ih hle' h1 with ⟨s', k1, k2⟩ | ⟨m, v, k1, k2, k3, k4⟩
      · exact .inl ⟨1 + s', by simp [sumV, k1], by omega⟩
      · exact .inr ⟨m, v, List.mem_cons_of_mem _ k1, k2, k3, by omega⟩
    | false =>
      obtain ⟨a, u, h0, h1, h2⟩ := h
      have hu := SumR_nonneg hA h1
      have ha := hA _ _ h0
      by_cases hneg : O.getD n.toNat 0 < 0
      · exact .inr ⟨n, a, by simp, hneg, h0, by omega⟩
      · rcases ih hle' h1 with ⟨s', k1, k2⟩ | ⟨m, v, k1, k2, k3, k4⟩
        · have := hle n a (by simp) h0 (by omega)
          exact .inl ⟨O.getD n.toNat 0 + s', by rw [sumV, if_neg hneg, k1]; rfl, by omega⟩
        · exact .inr ⟨m, v, List.mem_cons_of_mem _ k1, k2, k3, by omega⟩

/-- A name that is not settled comes to no less than a rule of one that is not, whose names all are. -/
theorem unsettled_ge {O : List Int} (hf : Fine T N R) (hO : Told N R O) {b : Int} (hb : ∀ r ∈ R, O.getD r.1.toNat 0 < 0 → 0 ≤ ruleV O r.2 → b ≤ ruleV O r.2) : ∀ k n v, CanL R k n v → O.getD n.toNat 0 < 0 →
    b ≤ v ∧ ∃ r ∈ R, O.getD r.1.toNat 0 < 0 ∧ 0 ≤ ruleV O r.2 := by
  intro k
  induction k with
  | zero => intro n v h; exact h.elim
  | succ k ih =>
    rintro n v ⟨r, hr, rfl, s, hs, rfl⟩ hneg
    have hsn := SumR_nonneg (fun n v h => (CanL_range k n v h).1) hs
    have hle : ∀ n v : Int, (false, n) ∈ r.2 → CanL R k n v → 0 ≤ O.getD n.toNat 0 → O.getD n.toNat 0 ≤ v := fun n v hm hc h0 => by
      have hn := hf.name r hr _ hm rfl
      simp only at hn
      refine (hO.some n.toNat (by omega) h0).2 v ?_
      have e : ((n.toNat : Nat) : Int) = n := by omega
      rw [e]
      exact ⟨k, hc⟩
    rcases sumV_least (fun n v h => (CanL_range k n v h).1) hle hs with ⟨s', h1, h2⟩ | ⟨m, u, h1, h2, h3, h4⟩
    · have hs' := (sumV_can (fun n hn h => (hO.some n hn h).1) (hf.name r hr) h1).2
      have hv : ruleV O r.2 = min s' lid := by unfold ruleV; rw [h1]
      have h0 : 0 ≤ ruleV O r.2 := by rw [hv]; unfold lid; omega
      have := hb r hr hneg h0
      rw [hv] at this
      exact ⟨by omega, r, hr, hneg, h0⟩
    · obtain ⟨a1, a2⟩ := ih m u h3 h2
      have := (CanL_range k m u h3).2
      exact ⟨by omega, a2⟩

/-! ### The shortest one first -/

def pickS (R : List Ru) (O : List Int) (i : Nat) (p : Int × Int) : Int × Int :=
  if 0 ≤ O.getD (R.getD i (0, [])).1.toNat 0 then p else
    if 0 ≤ ruleV O (R.getD i (0, [])).2 ∧ (p.1 < 0 ∨ ruleV O (R.getD i (0, [])).2 < p.1) then (ruleV O (R.getD i (0, [])).2, (R.getD i (0, [])).1) else p
def pickA (R : List Ru) (O : List Int) : Int × Int := loopN R.length (pickS R O) (-1, -1)

/-- A rule of a name that is not settled, all of whose names are. -/
def Cand (R : List Ru) (O : List Int) (j : Nat) : Prop := O.getD (R.getD j (0, [])).1.toNat 0 < 0 ∧ 0 ≤ ruleV O (R.getD j (0, [])).2

theorem pick_is (R : List Ru) (O : List Int) (n : Nat) (hn : n ≤ R.length) : (loopN n (pickS R O) (-1, -1) = (-1, -1) ∧ ∀ j, j < n → ¬ Cand R O j) ∨
    (∃ j, j < n ∧ Cand R O j ∧ loopN n (pickS R O) (-1, -1) = (ruleV O (R.getD j (0, [])).2, (R.getD j (0, [])).1)) ∧ ∀ j, j < n → Cand R O j → (loopN n (pickS R O) (-1, -1)).1 ≤ ruleV O (R.getD j (0, [])).2 := by
  induction n with
  | zero => exact .inl ⟨rfl, fun j hj => absurd hj (Nat.not_lt_zero _)⟩
  | succ n ih =>
    have e : loopN (n + 1) (pickS R O) (-1, -1) = pickS R O n (loopN n (pickS R O) (-1, -1)) := rfl
    rw [e]
    obtain ⟨p, hp⟩ : ∃ p, loopN n (pickS R O) (-1, -1) = p := ⟨_, rfl⟩
    rw [hp] at ih ⊢
    unfold pickS
    by_cases h0 : 0 ≤ O.getD (R.getD n (0, [])).1.toNat 0
    · rw [if_pos h0]
      have hno : ¬ Cand R O n := fun h => by have := h.1; omega
      rcases ih (by omega) with ⟨h1, h2⟩ | ⟨⟨j, h1, h2, h3⟩, h4⟩
      · refine .inl ⟨h1, fun j hj => ?_⟩
        rcases Nat.lt_succ_iff_lt_or_eq.1 hj with hj | rfl
        · exact h2 j hj
        · exact hno
      · refine .inr ⟨⟨j, by omega, h2, h3⟩, fun i hi hc => ?_⟩
        rcases Nat.lt_succ_iff_lt_or_eq.1 hi with hi | rfl
        · exact h4 i hi hc
        · exact absurd hc hno
    · rw [if_neg h0]
      by_cases h1 : 0 ≤ ruleV O (R.getD n (0, [])).2
      · have hc : Cand R O n := ⟨by omega, h1⟩
        rcases ih (by omega) with ⟨rfl, h2⟩ | ⟨⟨j, k1, k2, k3⟩, h4⟩
        · rw [if_pos ⟨h1, .inl (by simp)⟩]
          refine .inr ⟨⟨n, by omega, hc, rfl⟩, fun i hi hci => ?_⟩
          rcases Nat.lt_succ_iff_lt_or_eq.1 hi with hi | rfl
          · exact absurd hci (h2 i hi)
          · exact Int.le_refl _
        · have hp1 : 0 ≤ p.1 := by rw [k3]; exact k2.2
          by_cases h5 : ruleV O (R.getD n (0, [])).2 < p.1
          · rw [if_pos ⟨h1, .inr h5⟩]
            refine .inr ⟨⟨n, by omega, hc, rfl⟩, fun i hi hci => ?_⟩
            rcases Nat.lt_succ_iff_lt_or_eq.1 hi with hi | rfl
            · have := h4 i hi hci; simp only; omega
            · exact Int.le_refl _
          · rw [if_neg (by rintro ⟨_, h | h⟩ <;> omega)]
            refine .inr ⟨⟨j, by omega, k2, k3⟩, fun i hi hci => ?_⟩
            rcases Nat.lt_succ_iff_lt_or_eq.1 hi with hi | rfl
            · exact h4 i hi hci
            · omega
      · have hno : ¬ Cand R O n := fun h => h1 h.2
        rw [if_neg (fun h => h1 h.1)]
        rcases ih (by omega) with ⟨k1, h2⟩ | ⟨⟨j, k1, k2, k3⟩, h4⟩
        · refine .inl ⟨k1, fun j hj => ?_⟩
          rcases Nat.lt_succ_iff_lt_or_eq.1 hj with hj | rfl
          · exact h2 j hj
          · exact hno
        · refine .inr ⟨⟨j, by omega, k2, k3⟩, fun i hi hci => ?_⟩
          rcases Nat.lt_succ_iff_lt_or_eq.1 hi with hi | rfl
          · exact h4 i hi hci
          · exact absurd hci hno

/-- How many names are not settled. -/
def unset (O : List Int) : Nat := (O.filter fun v => decide (v < 0)).length

theorem unset_set {O : List Int} {k : Nat} {v : Int} (hk : k < O.length) (h0 : O.getD k 0 < 0) (hv : 0 ≤ v) : unset (O.set k v) < unset O := by
  induction O generalizing k with
  | nil => simp at hk
  | cons x O ih =>
    cases k with
    | zero =>
      have hx : x < 0 := by simpa using h0
      have : ¬ v < 0 := by omega
      simp [unset, hx, this]
    | succ k =>
      have := ih (k := k) (by simpa using hk) (by simpa using h0)
      unfold unset at this ⊢
      simp only [List.set_cons_succ, List.filter_cons]
      split <;> simp <;> exact this

/-- No rule is left: all is told. -/
theorem pick_done {O : List Int} (hf : Fine T N R) (hO : Told N R O) (h : (pickA R O).2 < 0) : IsShort N R O := by
  refine ⟨hO.len, fun n hn hneg => ⟨hO.neg n hn hneg, fun v ⟨k, hv⟩ => ?_⟩, hO.some⟩
  rcases pick_is R O R.length (Nat.le_refl _) with ⟨_, h2⟩ | ⟨⟨j, h1, h2, h3⟩, _⟩
  · have hno : ∀ r ∈ R, O.getD r.1.toNat 0 < 0 → 0 ≤ ruleV O r.2 → False := fun r hr k1 k2 => by
      obtain ⟨j, hj, rfl⟩ := List.getElem_of_mem hr
      have e : R.getD j (0, []) = R[j] := by simp [List.getD, hj]
      exact h2 j hj ⟨by rw [e]; exact k1, by rw [e]; exact k2⟩
    obtain ⟨_, r, hr, k1, k2⟩ := unsettled_ge hf hO (b := 0) (fun r hr k1 k2 => (hno r hr k1 k2).elim) k n v hv (by simpa using hneg)
    exact hno r hr k1 k2
  · have e : (pickA R O).2 = (R.getD j (0, [])).1 := by unfold pickA; rw [h3]
    have hm : R.getD j (0, []) ∈ R := by simp [List.getD, h1]
    have := hf.left _ hm
    omega

/-- The shortest of the rules that are left: its Left is settled. -/
theorem pick_next {O : List Int} (hf : Fine T N R) (hO : Told N R O) (h : 0 ≤ (pickA R O).2) :
    (pickA R O).2 < (N : Int) ∧ 0 ≤ (pickA R O).1 ∧ (pickA R O).1 ≤ lid ∧ Told N R (O.set (pickA R O).2.toNat (pickA R O).1) ∧ unset (O.set (pickA R O).2.toNat (pickA R O).1) < unset O := by
  rcases pick_is R O R.length (Nat.le_refl _) with ⟨h1, _⟩ | ⟨⟨j, h1, h2, h3⟩, h4⟩
  · unfold pickA at h
    rw [h1] at h
    simp at h
  · have hm : R.getD j (0, []) ∈ R := by simp [List.getD, h1]
    have hL := hf.left _ hm
    have e : pickA R O = (ruleV O (R.getD j (0, [])).2, (R.getD j (0, [])).1) := h3
    have e4 : ∀ i, i < R.length → Cand R O i → ruleV O (R.getD j (0, [])).2 ≤ ruleV O (R.getD i (0, [])).2 := fun i hi hc => by
      have := h4 i hi hc
      rw [h3] at this
      exact this
    rw [e]
    simp only
    have hcan := ruleV_can hf (fun n hn h => (hO.some n hn h).1) hm h2.2
    have hlen : (R.getD j (0, [])).1.toNat < O.length := by rw [hO.len]; omega
    have cast : (((R.getD j (0, [])).1.toNat : Nat) : Int) = (R.getD j (0, [])).1 := by omega
    refine ⟨hL.2, h2.2, (Can_range hcan).2, ⟨by simp [hO.len], fun n hn hneg => ?_, fun n hn hpos => ?_⟩, unset_set hlen h2.1 h2.2⟩
    · by_cases hnj : (R.getD j (0, [])).1.toNat = n
      · have e1 : (O.set (R.getD j (0, [])).1.toNat (ruleV O (R.getD j (0, [])).2)).getD n 0 = ruleV O (R.getD j (0, [])).2 := by rw [hnj] at hlen ⊢; rw [List.getD, List.getElem?_set_self hlen]; rfl
        rw [e1] at hneg
        have := h2.2
        omega
      · have e1 : (O.set (R.getD j (0, [])).1.toNat (ruleV O (R.getD j (0, [])).2)).getD n 0 = O.getD n 0 := by rw [List.getD, List.getElem?_set_ne hnj]; rfl
        rw [e1] at hneg ⊢
        exact hO.neg n hn hneg
    · by_cases hnj : (R.getD j (0, [])).1.toNat = n
      · have e1 : (O.set (R.getD j (0, [])).1.toNat (ruleV O (R.getD j (0, [])).2)).getD n 0 = ruleV O (R.getD j (0, [])).2 := by rw [hnj] at hlen ⊢; rw [List.getD, List.getElem?_set_self hlen]; rfl
        rw [e1, ← hnj, cast]
        refine ⟨hcan, fun v ⟨k, hv⟩ => ?_⟩
        exact (unsettled_ge hf hO (b := ruleV O (R.getD j (0, [])).2) (fun r hr k1 k2 => by
          obtain ⟨i, hi, rfl⟩ := List.getElem_of_mem hr
          have e2 : R.getD i (0, []) = R[i] := by simp [List.getD, hi]
          have := e4 i hi ⟨by rw [e2]; exact k1, by rw [e2]; exact k2⟩
          rwa [e2] at this) k _ v hv h2.1).1
      · have e1 : (O.set (R.getD j (0, [])).1.toNat (ruleV O (R.getD j (0, [])).2)).getD n 0 = O.getD n 0 := by rw [List.getD, List.getElem?_set_ne hnj]; rfl
        rw [e1] at hpos ⊢
        exact hO.some n hn hpos

theorem told_start (N : Nat) (R : List Ru) : Told N R (List.replicate N (-1)) := by
  refine ⟨by simp, fun n hn _ => by simp [List.getD, hn], fun n hn h => ?_⟩
  simp [List.getD, hn] at h
end

end Go.Proofs.Ytolkfmddghkkeaa
