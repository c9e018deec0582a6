/- Plain: rounds through the rules, as many as there are names, find the shortest yields (D1). No program, no memory. -/
import Derived.Test.YtolkfmddghkkeaaShortMath
namespace Go.Proofs.Ytolkfmddghkkeaa

/-- The lesser of two, where -1 is none. -/
def lessV (a b : Int) : Int := if a = -1 ∨ (b ≠ -1 ∧ b < a) then b else a
def stepD (R : List Ru) (j : Nat) (O : List Int) : List Int := O.set (R.getD j (0, [])).1.toNat (lessV (O.getD (R.getD j (0, [])).1.toNat 0) (ruleV O (R.getD j (0, [])).2))
def roundD (R : List Ru) (O : List Int) : List Int := loopN R.length (stepD R) O

section
variable {T N : Nat} {R : List Ru}

/-- What is told so far is true, of derivations of some. -/
structure SndD (N : Nat) (R : List Ru) (O : List Int) : Prop where
  len : O.length = N
  neg : ∀ n, n < N → O.getD n 0 < 0 → O.getD n 0 = -1
  some : ∀ n : Nat, n < N → 0 ≤ O.getD n 0 → Can R n (O.getD n 0)
/-- No derivation of so many steps down yields fewer. -/
def DepD (R : List Ru) (k : Nat) (O : List Int) : Prop := ∀ n v, CanL R k n v → 0 ≤ O.getD n.toNat 0 ∧ O.getD n.toNat 0 ≤ v
/-- P tells of all that O tells of, and no more tokens. -/
def LeD (O P : List Int) : Prop := ∀ n : Nat, 0 ≤ O.getD n 0 → n < O.length → 0 ≤ P.getD n 0 ∧ P.getD n 0 ≤ O.getD n 0

theorem sumV_sumR {O : List Int} {A : Int → Int → Prop} (hO : ∀ n : Nat, n < N → 0 ≤ O.getD n 0 → A n (O.getD n 0)) : ∀ {l : List Sy} {s : Int}, (∀ x ∈ l, x.1 = false → 0 ≤ x.2 ∧ x.2 < (N : Int)) → sumV O l = some s → SumR A l s := by
  intro l
  induction l with
  | nil => intro s _ h; simp only [sumV, Option.some.injEq] at h; subst h; exact rfl
  | cons x l ih =>
    intro s hin h
    have hin' : ∀ x ∈ l, x.1 = false → 0 ≤ x.2 ∧ x.2 < (N : Int) := fun x hx => hin x (List.mem_cons_of_mem _ hx)
    obtain ⟨b, n⟩ := x
    cases b with
    | true =>
      simp only [sumV, Option.map_eq_some_iff] at h
      obtain ⟨u, h1, rfl⟩ := h
      exact ⟨u, ih hin' h1, rfl⟩
    | false =>
      have hn := hin (false, n) (by simp) rfl
      simp only at hn
      simp only [sumV] at h
      split at h
      · cases h
      · rename_i hneg
        simp only [Option.map_eq_some_iff] at h
        obtain ⟨u, h1, rfl⟩ := h
        have hc := hO n.toNat (by omega) (by omega)
        have e : ((n.toNat : Nat) : Int) = n := by omega
        rw [e] at hc
        exact ⟨_, u, hc, ih hin' h1, rfl⟩

theorem getD_set_self {O : List Int} {n : Nat} {v : Int} (h : n < O.length) : (O.set n v).getD n 0 = v := by rw [List.getD, List.getElem?_set_self h]; rfl
theorem getD_set_ne {O : List Int} {n m : Nat} {v : Int} (h : m ≠ n) : (O.set m v).getD n 0 = O.getD n 0 := by rw [List.getD, List.getElem?_set_ne h]; rfl

theorem unset_le (O : List Int) : unset O ≤ O.length := List.length_filter_le _ _

/-- The shortest yields are those of derivations that go no deeper than there are names. -/
theorem short_deep (hf : Fine T N R) : ∀ (d : Nat) (O : List Int), unset O ≤ d → Told N R O → (∀ n : Nat, n < N → 0 ≤ O.getD n 0 → CanL R (N - unset O) n (O.getD n 0)) →
    ∃ P, IsShort N R P ∧ ∀ n : Nat, n < N → 0 ≤ P.getD n 0 → CanL R N n (P.getD n 0) := by
  intro d
  induction d with
  | zero =>
    intro O hd hO hL
    refine ⟨O, ⟨hO.len, fun n hn hneg => ?_, hO.some⟩, fun n hn h => CanL_le (Nat.sub_le _ _) _ _ (hL n hn h)⟩
    exfalso
    have : O.getD n 0 ∈ O.filter fun v => decide (v < 0) := by
      rw [List.mem_filter]
      exact ⟨by rw [← hO.len] at hn; simp [List.getD, hn], by simpa using hneg⟩
    have := List.length_pos_of_mem this
    unfold unset at hd
    omega
  | succ d ih =>
    intro O hd hO hL
    by_cases hp : (pickA R O).2 < 0
    · exact ⟨O, pick_done hf hO hp, fun n hn h => CanL_le (Nat.sub_le _ _) _ _ (hL n hn h)⟩
    · obtain ⟨h1, h2, h3, h4, h5⟩ := pick_next hf hO (by omega)
      have hun := unset_le O
      rw [hO.len] at hun
      refine ih _ (by omega) h4 fun n hn h => ?_
      rcases pick_is R O R.length (Nat.le_refl _) with ⟨k1, _⟩ | ⟨⟨j, k1, k2, k3⟩, _⟩
      · exfalso
        apply hp
        unfold pickA
        rw [k1]
        decide
      · have hm : R.getD j (0, []) ∈ R := by simp [List.getD, k1]
        have hLf := hf.left _ hm
        have e : pickA R O = (ruleV O (R.getD j (0, [])).2, (R.getD j (0, [])).1) := k3
        rw [e] at h h5 ⊢
        simp only at h h5 ⊢
        have hlen : (R.getD j (0, [])).1.toNat < O.length := by rw [hO.len]; omega
        by_cases hnj : (R.getD j (0, [])).1.toNat = n
        · subst hnj
          rw [getD_set_self hlen]
          have cast : (((R.getD j (0, [])).1.toNat : Nat) : Int) = (R.getD j (0, [])).1 := by omega
          rw [cast]
          refine CanL_le (k := (N - unset O) + 1) (by omega) _ _ ?_
          have hv := k2.2
          unfold ruleV at hv ⊢
          cases hs : sumV O (R.getD j (0, [])).2 with
          | none => rw [hs] at hv; simp at hv
          | some s => exact ⟨_, hm, rfl, s, sumV_sumR hL (hf.name _ hm) hs, rfl⟩
        · rw [getD_set_ne hnj] at h ⊢
          exact CanL_le (by omega) _ _ (hL n hn h)

theorem stepD_snd (hf : Fine T N R) {O : List Int} (h : SndD N R O) {j : Nat} (hj : j < R.length) :
    SndD N R (stepD R j O) ∧ LeD O (stepD R j O) ∧ (0 ≤ ruleV O (R.getD j (0, [])).2 → 0 ≤ (stepD R j O).getD (R.getD j (0, [])).1.toNat 0 ∧ (stepD R j O).getD (R.getD j (0, [])).1.toNat 0 ≤ ruleV O (R.getD j (0, [])).2) := by
  have hm : R.getD j (0, []) ∈ R := by simp [List.getD, hj]
  have hL := hf.left _ hm
  have hlen : (R.getD j (0, [])).1.toNat < O.length := by rw [h.len]; omega
  have hr := ruleV_range (R := R) h.some (hf.name _ hm)
  have hc := ruleV_can hf h.some hm
  have cast : (((R.getD j (0, [])).1.toNat : Nat) : Int) = (R.getD j (0, [])).1 := by omega
  have hneg := h.neg _ (show (R.getD j (0, [])).1.toNat < N by omega)
  have hsome := h.some _ (show (R.getD j (0, [])).1.toNat < N by omega)
  rw [cast] at hsome
  unfold stepD
  obtain ⟨x, hx⟩ : ∃ x, O.getD (R.getD j (0, [])).1.toNat 0 = x := ⟨_, rfl⟩
  obtain ⟨y, hy⟩ : ∃ y, ruleV O (R.getD j (0, [])).2 = y := ⟨_, rfl⟩
  rw [hx] at hneg hsome ⊢
  rw [hy] at hr hc ⊢
  have hz : (lessV x y < 0 → lessV x y = -1) ∧ (0 ≤ lessV x y → Can R (R.getD j (0, [])).1 (lessV x y)) ∧ (0 ≤ x → 0 ≤ lessV x y ∧ lessV x y ≤ x) ∧ (0 ≤ y → 0 ≤ lessV x y ∧ lessV x y ≤ y) := by
    unfold lessV
    by_cases h0 : x = -1 ∨ (y ≠ -1 ∧ y < x)
    · rw [if_pos h0]
      exact ⟨fun _ => by omega, hc, fun _ => by omega, fun _ => by omega⟩
    · rw [if_neg h0]
      exact ⟨hneg, hsome, fun _ => by omega, fun _ => by omega⟩
  obtain ⟨z, hzz⟩ : ∃ z, lessV x y = z := ⟨_, rfl⟩
  rw [hzz] at hz ⊢
  obtain ⟨z1, z2, z3, z4⟩ := hz
  refine ⟨⟨by simp [h.len], fun n hn k => ?_, fun n hn k => ?_⟩, fun n hn k => ?_, fun k => by rw [getD_set_self hlen]; exact z4 k⟩
  · by_cases hnj : (R.getD j (0, [])).1.toNat = n
    · subst hnj
      rw [getD_set_self hlen] at k ⊢
      exact z1 k
    · rw [getD_set_ne hnj] at k ⊢
      exact h.neg n hn k
  · by_cases hnj : (R.getD j (0, [])).1.toNat = n
    · subst hnj
      rw [getD_set_self hlen] at k ⊢
      rw [cast]
      exact z2 k
    · rw [getD_set_ne hnj] at k ⊢
      exact h.some n hn k
  · by_cases hnj : (R.getD j (0, [])).1.toNat = n
    · subst hnj
      rw [getD_set_self hlen]
      rw [hx] at hn ⊢
      exact z3 hn
    · rw [getD_set_ne hnj]
      exact ⟨hn, Int.le_refl _⟩

theorem DepD.le {k : Nat} {O P : List Int} (hf : Fine T N R) (hl : O.length = N) (h : DepD R k O) (hle : LeD O P) : DepD R k P := by
  intro n v hv
  obtain ⟨h1, h2⟩ := h n v hv
  have hn : n.toNat < O.length := by
    cases k with
    | zero => exact hv.elim
    | succ k =>
      obtain ⟨r, hr, rfl, _⟩ := hv
      have := hf.left r hr
      rw [hl]
      omega
  obtain ⟨k1, k2⟩ := hle _ h1 hn
  exact ⟨k1, by omega⟩

/-- One round: one step deeper. -/
theorem roundD_snd (hf : Fine T N R) {k : Nat} {O : List Int} (h : SndD N R O) (hk : DepD R k O) : SndD N R (roundD R O) ∧ DepD R (k + 1) (roundD R O) := by
  have main := loopN_inv (n := R.length) (f := stepD R) (x := O)
    (fun m P => SndD N R P ∧ DepD R k P ∧ ∀ i, i < m → ∀ s, SumR (CanL R k) (R.getD i (0, [])).2 s → 0 ≤ P.getD (R.getD i (0, [])).1.toNat 0 ∧ P.getD (R.getD i (0, [])).1.toNat 0 ≤ min s lid)
    ⟨h, hk, fun i hi => absurd hi (Nat.not_lt_zero _)⟩
    (fun m hm P ⟨h1, h2, h3⟩ => by
      obtain ⟨k1, k2, k3⟩ := stepD_snd hf h1 hm
      refine ⟨k1, h2.le hf h1.len k2, fun i hi s hs => ?_⟩
      rcases Nat.lt_succ_iff_lt_or_eq.1 hi with hi | rfl
      · obtain ⟨a1, a2⟩ := h3 i hi s hs
        have hiR : R.getD i (0, []) ∈ R := by simp [List.getD, show i < R.length by omega]
        have := hf.left _ hiR
        obtain ⟨b1, b2⟩ := k2 _ a1 (by rw [h1.len]; omega)
        exact ⟨b1, by omega⟩
      · have hsn := SumR_nonneg (fun n v h => (CanL_range k n v h).1) hs
        rcases sumV_least (O := P) (fun n v h => (CanL_range k n v h).1) (fun n v _ hc _ => (h2 n v hc).2) hs with ⟨s', a1, a2⟩ | ⟨n, v, _, a2, a3, _⟩
        · have hiR : R.getD i (0, []) ∈ R := by simp [List.getD, hm]
          have hs' := (sumV_can h1.some (hf.name _ hiR) a1).2
          have hv : ruleV P (R.getD i (0, [])).2 = min s' lid := by unfold ruleV; rw [a1]
          rw [hv] at k3
          obtain ⟨b1, b2⟩ := k3 (by unfold lid; omega)
          exact ⟨b1, by omega⟩
        · have := (h2 n v a3).1
          omega)
  obtain ⟨h1, _, h3⟩ := main
  refine ⟨h1, ?_⟩
  rintro n v ⟨r, hr, rfl, s, hs, rfl⟩
  obtain ⟨i, hi, rfl⟩ := List.getElem_of_mem hr
  have e : R.getD i (0, []) = R[i] := by simp [List.getD, hi]
  rw [← e] at hs ⊢
  exact h3 i hi s hs

theorem sndD_start (N : Nat) (R : List Ru) : SndD N R (List.replicate N (-1)) ∧ DepD R 0 (List.replicate N (-1)) := by
  refine ⟨⟨by simp, fun n hn _ => by simp [List.getD, hn], fun n hn h => ?_⟩, fun n v h => h.elim⟩
  simp [List.getD, hn] at h

/-- As many rounds as there are names. -/
theorem shortD_is (hf : Fine T N R) {O : List Int} (h : SndD N R O) (hk : DepD R N O) : IsShort N R O := by
  obtain ⟨P, hP, hD⟩ := short_deep hf N (List.replicate N (-1)) (by simpa using unset_le (List.replicate N (-1))) (told_start N R) (fun n hn h => by simp [List.getD, hn] at h)
  have key : ∀ (n : Nat) v, n < N → Can R n v → 0 ≤ O.getD n 0 ∧ O.getD n 0 ≤ v := fun n v hn hv => by
    by_cases hneg : P.getD n 0 < 0
    · exact absurd hv ((hP.none n hn hneg).2 v)
    · have h1 := (hP.some n hn (by omega)).2 v hv
      obtain ⟨k1, k2⟩ := hk _ _ (hD n hn (by omega))
      simp only [Int.toNat_natCast] at k1 k2
      exact ⟨k1, by omega⟩
  exact ⟨h.len, fun n hn hneg => ⟨h.neg n hn hneg, fun v hv => by have := (key n v hn hv).1; omega⟩, fun n hn h0 => ⟨h.some n hn h0, fun v hv => (key n v hn hv).2⟩⟩
end

end Go.Proofs.Ytolkfmddghkkeaa
