import Derived.Test.YtgcpllnjdnahjaaTab6AndMapMem
/- Plain: the states of the program's package table, as sorted lists of items; where they go on, as a map says it. No program. -/
namespace Go.Proofs.Ytgcpllnjdnahjaa
open Classical

/-! ### Sorted lists -/

theorem sorted_unique {α : Type} {lt : α → α → Prop} (tr : ∀ a b c, lt a b → lt b c → lt a c) (ir : ∀ a, ¬ lt a a) {A B : List α} (hA : A.Pairwise lt) (hB : B.Pairwise lt) (h : ∀ x, x ∈ A ↔ x ∈ B) : A = B := by
  induction A generalizing B with
  | nil =>
    cases B with
    | nil => rfl
    | cons b B => exact absurd ((h b).2 (by simp)) (by simp)
  | cons a A ih =>
    cases B with
    | nil => exact absurd ((h a).1 (by simp)) (by simp)
    | cons b B =>
      rw [List.pairwise_cons] at hA hB
      have hab : a = b := by
        rcases List.mem_cons.1 ((h a).1 (by simp)) with e | e
        · exact e
        · rcases List.mem_cons.1 ((h b).2 (by simp)) with e' | e'
          · exact e'.symm
          · exact absurd (tr _ _ _ (hA.1 b e') (hB.1 a e)) (ir a)
      subst hab
      rw [ih hA.2 hB.2 fun x => ⟨fun hx => ?_, fun hx => ?_⟩]
      · rcases List.mem_cons.1 ((h x).1 (by simp [hx])) with e | e
        · subst e; exact absurd (hA.1 x hx) (ir x)
        · exact e
      · rcases List.mem_cons.1 ((h x).2 (by simp [hx])) with e | e
        · subst e; exact absurd (hB.1 x hx) (ir x)
        · exact e

def ltI (a b : It) : Prop := a.1 < b.1 ∨ (a.1 = b.1 ∧ a.2 < b.2)
theorem ltI_trans (a b c : It) (h : ltI a b) (k : ltI b c) : ltI a c := by unfold ltI at *; omega
theorem ltI_irrefl (a : It) : ¬ ltI a a := by unfold ltI; omega
theorem ltI_nodup {L : List It} (h : L.Pairwise ltI) : L.Nodup := h.imp fun {a b} h e => by subst e; exact ltI_irrefl a h

/-! ### States -/

/-- Sorted lists of items stand for states, of which no two are one. -/
structure SDk (R : List Ru) (OL : List (List It)) (Ls : List SetI) : Prop where
  len : OL.length = Ls.length
  rep : ∀ i, i < OL.length → RepI (OL.getD i []) (Ls.getD i noS)
  srt : ∀ i, i < OL.length → (OL.getD i []).Pairwise ltI
  dist : Dist Ls
  ok : ∀ i, i < OL.length → ∀ t ∈ OL.getD i [], OkIt R t

section
variable {T N : Nat} {R : List Ru} {OL : List (List It)} {Ls : List SetI} {k x : Nat}

theorem SDk.push (h : SDk R OL Ls) {C : List It} {S : SetI} (hC : RepI C S) (hs : C.Pairwise ltI) (hno : ∀ n, n < Ls.length → Ls.getD n noS ≠ S) (hok : ∀ t ∈ C, OkIt R t) : SDk R (OL ++ [C]) (Ls ++ [S]) := by
  have hl := h.len
  have cas : ∀ i, i < (OL ++ [C]).length → (i < OL.length ∧ (OL ++ [C]).getD i [] = OL.getD i [] ∧ (Ls ++ [S]).getD i noS = Ls.getD i noS) ∨ (i = OL.length ∧ (OL ++ [C]).getD i [] = C ∧ (Ls ++ [S]).getD i noS = S) := fun i hi => by
    simp only [List.length_append, List.length_cons, List.length_nil] at hi
    rcases Nat.lt_succ_iff_lt_or_eq.1 hi with hi | hi
    · exact .inl ⟨hi, getD_app hi, getD_app (by omega)⟩
    · exact .inr ⟨hi, getD_app_last hi, getD_app_last (by omega)⟩
  refine ⟨by simp [hl], fun i hi => ?_, fun i hi => ?_, fun i j hi hj e => ?_, fun i hi => ?_⟩
  · rcases cas i hi with ⟨h1, h2, h3⟩ | ⟨h1, h2, h3⟩
    · rw [h2, h3]; exact h.rep i h1
    · rw [h2, h3]; exact hC
  · rcases cas i hi with ⟨h1, h2, _⟩ | ⟨_, h2, _⟩
    · rw [h2]; exact h.srt i h1
    · rw [h2]; exact hs
  · have hi' : i < (OL ++ [C]).length := by simp only [List.length_append, List.length_cons, List.length_nil] at hi ⊢; omega
    have hj' : j < (OL ++ [C]).length := by simp only [List.length_append, List.length_cons, List.length_nil] at hj ⊢; omega
    rcases cas i hi' with ⟨h1, _, h3⟩ | ⟨h1, _, h3⟩ <;> rcases cas j hj' with ⟨k1, _, k3⟩ | ⟨k1, _, k3⟩
    · rw [h3, k3] at e; exact h.dist i j (by omega) (by omega) e
    · rw [h3, k3] at e; exact absurd e (hno i (by omega))
    · rw [h3, k3] at e; exact absurd e.symm (hno j (by omega))
    · omega
  · rcases cas i hi with ⟨h1, h2, _⟩ | ⟨_, h2, _⟩
    · rw [h2]; exact h.ok i h1
    · rw [h2]; exact hok

theorem sdk_none (R : List Ru) : SDk R [] [] := ⟨rfl, fun _ hi => absurd hi (Nat.not_lt_zero _), fun _ hi => absurd hi (Nat.not_lt_zero _), fun _ _ hi => absurd hi (Nat.not_lt_zero _), fun _ hi => absurd hi (Nat.not_lt_zero _)⟩

/-- The state 0. -/
theorem sdk_start {C : List It} (hs : C.Pairwise ltI) (hC : ∀ i, i ∈ C ↔ Cl R (· ∈ [(R.length, 0)]) i) : SDk R [C] [Cl R fun i => i = (R.length, 0)] := by
  have e : (fun i : It => i ∈ [(R.length, 0)]) = fun i => i = (R.length, 0) := funext fun i => by simp
  rw [e] at hC
  exact (sdk_none R).push (C := C) ⟨ltI_nodup hs, hC⟩ hs (fun n hn => absurd hn (Nat.not_lt_zero _)) (fun t ht => cl_ok (S := fun i => i = (R.length, 0)) (fun i hi => by rw [hi]; exact ⟨Nat.le_refl _, Nat.zero_le _⟩) ((hC t).1 ht))

/-- What is looked for: the state of a list of items. -/
theorem SDk.same (h : SDk R OL Ls) {n : Nat} (hn : n < OL.length) {C : List It} {S : SetI} (hC : RepI C S) (hs : C.Pairwise ltI) : OL.getD n [] = C ↔ Ls.getD n noS = S := by
  constructor
  · intro e
    have := h.rep n hn
    rw [e] at this
    exact this.eq hC
  · intro e
    have := h.rep n hn
    rw [e] at this
    exact sorted_unique ltI_trans ltI_irrefl (h.srt n hn) hs fun i => (this.mem i).trans (hC.mem i).symm

/-- What becomes of the states when one of them is asked for: its number, the states. -/
def StTo (OL : List (List It)) (C : List It) (n : Nat) (OL' : List (List It)) : Prop :=
  (n < OL.length ∧ OL.getD n [] = C ∧ OL' = OL) ∨ ((∀ j, j < OL.length → OL.getD j [] ≠ C) ∧ n = OL.length ∧ OL' = OL ++ [C])

theorem SDk.visit (h : SDk R OL Ls) (hk : k < OL.length) (hne : kernL T R (OL.getD k []) x (OL.getD k []).length ≠ []) {C : List It} (hs : C.Pairwise ltI) (hC : ∀ i, i ∈ C ↔ Cl R (· ∈ kernL T R (OL.getD k []) x (OL.getD k []).length) i)
    {n : Nat} {OL' : List (List It)} (ht : StTo OL C n OL') : (Proofs.Ytgcpllnjdnahjaa.visit T R Ls k x).1 = n ∧ SDk R OL' (Proofs.Ytgcpllnjdnahjaa.visit T R Ls k x).2 := by
  have hrep := rep_goto (h.rep k hk) (ltI_nodup hs) hC
  have hex : ∃ i, Ls.getD k noS i ∧ nextIs T R i x := Classical.byContradiction fun hno => hne ((kernL_nil (h.rep k hk)).2 hno)
  rcases ht with ⟨h1, h2, rfl⟩ | ⟨h1, rfl, rfl⟩
  · rw [visit_old h.dist hex (by rw [← h.len]; exact h1) ((h.same h1 hrep hs).1 h2)]
    exact ⟨rfl, h⟩
  · have hno : ∀ n, n < Ls.length → Ls.getD n noS ≠ gotoS T R (Ls.getD k noS) x := fun n hnl e =>
      h1 n (by rw [h.len]; exact hnl) ((h.same (by rw [h.len]; exact hnl) hrep hs).2 e)
    have hokK : ∀ i, kernS T R (Ls.getD k noS) x i → OkIt R i := kern_ok fun i hi => h.ok k hk i (((h.rep k hk).mem i).2 hi)
    rw [visit_new hex hno]
    exact ⟨by rw [h.len], h.push hrep hs hno (fun t ht => cl_ok hokK ((hrep.mem t).1 ht))⟩

theorem SDk.visitNone (h : SDk R OL Ls) (hk : k < OL.length) (he : kernL T R (OL.getD k []) x (OL.getD k []).length = []) : Proofs.Ytgcpllnjdnahjaa.visit T R Ls k x = (-1, Ls) :=
  visit_none ((kernL_nil (h.rep k hk)).1 he)

theorem SDk.kernOk (h : SDk R OL Ls) (hk : k < OL.length) {j : Nat} : ∀ i ∈ kernL T R (OL.getD k []) x j, OkIt R i ∧ i.2 ≠ 0 := fun i hi => by
  unfold kernL at hi
  obtain ⟨b, hb, rfl⟩ := List.mem_map.1 hi
  rw [List.mem_filter] at hb
  have hbo := h.ok k hk b (List.mem_of_mem_take hb.1)
  obtain ⟨s, h2, _⟩ : nextIs T R b x := by simpa using hb.2
  have := (List.getElem?_eq_some_iff.1 h2).1
  exact ⟨⟨hbo.1, by simp only; omega⟩, by simp⟩
end

/-! ### Symbols, and where states go on -/

def symN (T x : Nat) : Sy := if x < T then (true, (x : Int)) else (false, ((x - T : Nat) : Int))
theorem num_symN (T x : Nat) : numF T (symN T x) = x := by
  unfold symN numF
  split
  · simp
  · simp; omega
theorem symN_inj {T x y : Nat} (h : symN T x = symN T y) : x = y := by
  have h1 := num_symN T x
  rw [h, num_symN] at h1
  omega
theorem symN_num {T N : Nat} {s : Sy} (h1 : s.1 = true → 0 ≤ s.2 ∧ s.2 < (T : Int)) (h2 : s.1 = false → 0 ≤ s.2 ∧ s.2 < (N : Int)) : symN T (numF T s).toNat = s ∧ (numF T s).toNat < T + N := by
  obtain ⟨b, v⟩ := s
  cases b with
  | true =>
    have := h1 rfl
    simp only at this
    simp only [numF, symN, if_true]
    rw [if_pos (by omega)]
    refine ⟨?_, by omega⟩
    congr 1
    omega
  | false =>
    have := h2 rfl
    simp only at this
    simp only [numF, symN, Bool.false_eq_true, if_false]
    rw [if_neg (by omega)]
    refine ⟨?_, by omega⟩
    congr 1
    omega

theorem nextIs_sym {T N : Nat} {R : List Ru} {i : It} {x : Nat} (hR : ∀ s ∈ rightF R i.1, (s.1 = true → 0 ≤ s.2 ∧ s.2 < (T : Int)) ∧ (s.1 = false → 0 ≤ s.2 ∧ s.2 < (N : Int))) : nextIs T R i x ↔ (rightF R i.1)[i.2]? = some (symN T x) := by
  unfold nextIs
  constructor
  · rintro ⟨s, h1, h2⟩
    obtain ⟨e, _⟩ := symN_num (hR s (List.mem_of_getElem? h1)).1 (hR s (List.mem_of_getElem? h1)).2
    rw [h1, ← e, h2]
    simp
  · intro h
    exact ⟨_, h, num_symN T x⟩

abbrev Wy := Nat × Sy
/-- What the map of ways says, the rows being NL. -/
noncomputable def goM (T : Nat) (NL : List (List Int)) : Wy → Option Value := fun p =>
  if ∃ x, x < (NL.getD p.1 []).length ∧ p.2 = symN T x ∧ 0 ≤ (NL.getD p.1 []).getD x 0 then some (.int .i64 ((NL.getD p.1 []).getD (numF T p.2).toNat 0)) else none

section
variable {T : Nat} {NL : List (List Int)}

theorem goM_nil (T : Nat) : goM T [] = fun _ => none := by
  funext p
  unfold goM
  rw [if_neg]
  rintro ⟨x, h, _⟩
  simp [List.getD] at h

theorem goM_at {k x : Nat} (hx : x < (NL.getD k []).length) : goM T NL (k, symN T x) = if 0 ≤ (NL.getD k []).getD x 0 then some (.int .i64 ((NL.getD k []).getD x 0)) else none := by
  unfold goM
  simp only [num_symN, Int.toNat_natCast]
  by_cases h : 0 ≤ (NL.getD k []).getD x 0
  · rw [if_pos h, if_pos ⟨x, hx, rfl, h⟩]
  · rw [if_neg h, if_neg]
    rintro ⟨y, h1, h2, h3⟩
    rw [symN_inj h2] at h
    exact h h3

theorem goM_end {k : Nat} {s : Sy} (hs : ∀ x, s ≠ symN T x) : goM T NL (k, s) = none := by
  unfold goM
  rw [if_neg]
  rintro ⟨x, _, h, _⟩
  exact hs x h

theorem goM_row : goM T (NL ++ [[]]) = goM T NL := by
  funext p
  unfold goM
  have e : (NL ++ [[]]).getD p.1 [] = NL.getD p.1 [] := by
    by_cases h : p.1 < NL.length
    · simp [List.getD, List.getElem?_append_left h]
    · rw [List.getD, List.getD, List.getElem?_append_right (by omega), List.getElem?_eq_none (show NL.length ≤ p.1 by omega)]
      cases h2 : p.1 - NL.length <;> simp
  rw [e]

theorem goM_add {row : List Int} {z : Int} : goM T (NL ++ [row ++ [z]]) = if 0 ≤ z then setM (goM T (NL ++ [row])) (NL.length, symN T row.length) (.int .i64 z) else goM T (NL ++ [row]) := by
  have gk : ∀ r : List Int, (NL ++ [r]).getD NL.length [] = r := fun r => by simp [List.getD]
  have go : ∀ (r : List Int) (k : Nat), k ≠ NL.length → (NL ++ [r]).getD k [] = NL.getD k [] := fun r k hk => by
    by_cases h : k < NL.length
    · simp [List.getD, List.getElem?_append_left h]
    · rw [List.getD, List.getD, List.getElem?_append_right (by omega), List.getElem?_eq_none (show NL.length ≤ k by omega)]
      rw [List.getElem?_eq_none (by simp; omega)]
  have rlast : (row ++ [z]).getD row.length 0 = z := by simp [List.getD]
  have rold : ∀ x, x < row.length → (row ++ [z]).getD x 0 = row.getD x 0 := fun x hx => by simp [List.getD, List.getElem?_append_left hx]
  -- what another way says
  have other : ∀ k s, (k, s) ≠ (NL.length, symN T row.length) → goM T (NL ++ [row ++ [z]]) (k, s) = goM T (NL ++ [row]) (k, s) := fun k s hne => by
    by_cases hk : k = NL.length
    · subst hk
      have hs : s ≠ symN T row.length := fun e => hne (by rw [e])
      by_cases hex : ∃ x, s = symN T x
      · obtain ⟨x, rfl⟩ := hex
        have hx : x ≠ row.length := fun e => hs (by rw [e])
        by_cases hl : x < row.length
        · rw [goM_at (by rw [gk]; simp; omega), goM_at (by rw [gk]; exact hl), gk, gk, rold x hl]
        · unfold goM
          rw [if_neg, if_neg]
          · rintro ⟨y, h1, h2, _⟩
            rw [gk] at h1
            have := symN_inj h2
            omega
          · rintro ⟨y, h1, h2, _⟩
            rw [gk] at h1
            simp only [List.length_append, List.length_cons, List.length_nil] at h1
            have := symN_inj h2
            omega
      · rw [goM_end (fun x e => hex ⟨x, e⟩), goM_end (fun x e => hex ⟨x, e⟩)]
    · unfold goM
      simp only [go _ k hk]
  by_cases hz : 0 ≤ z
  · rw [if_pos hz]
    funext p
    by_cases hp : p = (NL.length, symN T row.length)
    · subst hp
      rw [goM_at (by rw [gk]; simp), gk, rlast, if_pos hz]
      simp [setM]
    · rw [other p.1 p.2 hp]
      simp [setM, hp]
  · rw [if_neg hz]
    funext p
    by_cases hp : p = (NL.length, symN T row.length)
    · subst hp
      rw [goM_at (by rw [gk]; simp), gk, rlast, if_neg hz]
      unfold goM
      rw [if_neg]
      rintro ⟨y, h1, h2, _⟩
      simp only [gk] at h1
      have := symN_inj h2
      omega
    · exact other p.1 p.2 hp
end

end Go.Proofs.Ytgcpllnjdnahjaa

/- Plain: lookaheads by a list of what is to be looked at (F2), as the program's package table does. No program. -/
namespace Go.Proofs.Ytgcpllnjdnahjaa
open Classical

/-- A state, and an item of it. -/
abbrev Spo := Nat × It
def InS (OL : List (List It)) (s : Spo) : Prop := s.1 < OL.length ∧ s.2 ∈ OL.getD s.1 []

/-- The automaton is whole. -/
structure AutD (T N : Nat) (R : List Ru) (OL : List (List It)) (NL : List (List Int)) (Ls : List SetI) : Prop where
  sok : SDk R OL Ls
  go : ∀ k, k < OL.length → ∀ x, x < T + N → (NL.getD k []).length = T + N ∧ GoOk T R Ls k x ((NL.getD k []).getD x 0)
  cl : ∀ k, k < OL.length → ClosedS R (Ls.getD k noS)
  sym : ∀ r, r ≤ R.length → ∀ s ∈ rightF R r, (s.1 = true → 0 ≤ s.2 ∧ s.2 < (T : Int)) ∧ (s.1 = false → 0 ≤ s.2 ∧ s.2 < (N : Int))
  zero : InS OL (0, (R.length, 0))

section
variable {T N : Nat} {R : List Ru} {OL : List (List It)} {NL : List (List Int)} {Ls : List SetI} {Nu : List Bool} {Fi : List (List Bool)}

theorem AutD.item (A : AutD T N R OL NL Ls) {p : Spo} (hp : InS OL p) : Ls.getD p.1 noS p.2 ∧ OkIt R p.2 := ⟨((A.sok.rep p.1 hp.1).mem _).1 hp.2, A.sok.ok p.1 hp.1 _ hp.2⟩
theorem AutD.on (A : AutD T N R OL NL Ls) {p : Spo} (hp : InS OL p) {s : Sy} (hs : (rightF R p.2.1)[p.2.2]? = some s) :
    (NL.getD p.1 []).getD (numF T s).toNat 0 = ((toN NL T p.1 s : Nat) : Int) ∧ InS OL (toN NL T p.1 s, (p.2.1, p.2.2 + 1)) := by
  obtain ⟨h2, h3⟩ := A.item hp
  have hsy := A.sym _ h3.1 s (List.mem_of_getElem? hs)
  obtain ⟨e0, hx⟩ := symN_num hsy.1 hsy.2
  have hcast : ((numF T s).toNat : Int) = numF T s := by
    have := num_symN T (numF T s).toNat
    rw [e0] at this
    omega
  obtain ⟨_, hg⟩ := A.go p.1 hp.1 _ hx
  obtain ⟨n, e1, e2, e3⟩ := hg.some ⟨_, h2, s, hs, hcast.symm⟩
  have et : toN NL T p.1 s = n := by unfold toN; rw [e1]; simp
  rw [et, e1]
  have hn' : n < OL.length := by rw [A.sok.len]; exact e2
  refine ⟨rfl, hn', ((A.sok.rep n hn').mem _).2 ?_⟩
  rw [e3]
  exact goto_item h2 hs hcast.symm
theorem AutD.close (A : AutD T N R OL NL Ls) {p : Spo} (hp : InS OL p) {m : Int} (hs : (rightF R p.2.1)[p.2.2]? = some (false, m)) {n : Nat} (hn : n < R.length) (hL : (R.getD n (0, [])).1 = m) : InS OL (p.1, (n, 0)) :=
  ⟨hp.1, ((A.sok.rep p.1 hp.1).mem _).2 (closed_step (A.cl p.1 hp.1) (A.item hp).1 hs hn hL)⟩
end

/-! ### Masks -/

def maskN (L : List Bool) : Nat → Nat
  | 0 => 0
  | n + 1 => if L.getD n false then maskN L n ||| 2 ^ n else maskN L n

theorem mask_bit (L : List Bool) (n t : Nat) : (maskN L n).testBit t = (decide (t < n) && L.getD t false) := by
  induction n with
  | zero => simp [maskN]
  | succ n ih =>
    unfold maskN
    by_cases h : L.getD n false = true
    · rw [if_pos h, Nat.testBit_or, ih, Nat.testBit_two_pow]
      by_cases e : n = t
      · subst e; rw [h]; simp
      · have e1 : decide (t < n + 1) = decide (t < n) := by rw [decide_eq_decide]; omega
        rw [e1]; simp [e]
    · rw [if_neg h, ih]
      by_cases e : n = t
      · subst e
        have : L.getD n false = false := by simpa using h
        rw [this]; simp
      · have e1 : decide (t < n + 1) = decide (t < n) := by rw [decide_eq_decide]; omega
        rw [e1]

def firM (Fi : List (List Bool)) (s : Sy) : Nat := if s.1 then 2 ^ s.2.toNat else maskN (Fi.getD s.2.toNat []) (Fi.getD s.2.toNat []).length
def behM (Nu : List Bool) (Fi : List (List Bool)) : Nat → List Sy → Nat × Bool
  | a, [] => (a, true)
  | a, s :: l => if s.1 || !Nu.getD s.2.toNat false then (a ||| firM Fi s, false) else behM Nu Fi (a ||| firM Fi s) l

/-- Symbols of a grammar. -/
def SyIn (T N : Nat) (l : List Sy) : Prop := ∀ s ∈ l, (s.1 = true → 0 ≤ s.2 ∧ s.2 < (T : Int)) ∧ (s.1 = false → 0 ≤ s.2 ∧ s.2 < (N : Int))

section
variable {T N : Nat} {Nu : List Bool} {Fi : List (List Bool)}

theorem row_bit {L : List Bool} (hL : L.length ≤ T) (t : Nat) : (decide (t < L.length) && L.getD t false) = (decide (t < T) && L.getD t false) := by
  by_cases h : t < L.length
  · have : t < T := by omega
    simp [h, this]
  · have e : L.getD t false = false := by simp [List.getD, List.getElem?_eq_none (show L.length ≤ t by omega)]
    rw [e]; simp

theorem beh_bit (hF : ∀ n, (Fi.getD n []).length ≤ T) (t : Nat) : ∀ (l : List Sy) (a : Nat), SyIn T N l → (behM Nu Fi a l).1.testBit t = (a.testBit t || begF Nu Fi T l t) ∧ (behM Nu Fi a l).2 = nulF Nu l := by
  intro l
  induction l with
  | nil => intro a _; simp [behM, begF, behF, nulF]
  | cons s l ih =>
    intro a hl
    have hs := hl s (by simp)
    have hl' : SyIn T N l := fun x hx => hl x (List.mem_cons_of_mem _ hx)
    obtain ⟨b, v⟩ := s
    cases b with
    | true =>
      have hv := hs.1 rfl
      simp only at hv
      simp only [behM, Bool.true_or, if_true, firM, begF, behF]
      refine ⟨?_, by simp [nulF]⟩
      rw [Nat.testBit_or, Nat.testBit_two_pow]
      congr 1
      rw [decide_eq_decide]
      omega
    | false =>
      have hfir : (firM Fi (false, v)).testBit t = (decide (t < T) && (Fi.getD v.toNat []).getD t false) := by
        simp only [firM, Bool.false_eq_true, if_false]
        rw [mask_bit]
        exact row_bit (hF _) t
      have hbeg : begF Nu Fi T ((false, v) :: l) t = ((decide (t < T) && (Fi.getD v.toNat []).getD t false) || (Nu.getD v.toNat false && begF Nu Fi T l t)) := by
        simp only [begF, behF]
        by_cases h1 : (decide (t < T) && (Fi.getD v.toNat []).getD t false) = true
        · rw [if_pos h1, h1]; simp
        · rw [if_neg h1]
          have h1' : (decide (t < T) && (Fi.getD v.toNat []).getD t false) = false := by simpa using h1
          rw [h1']
          by_cases h2 : Nu.getD v.toNat false = true
          · rw [if_pos h2, h2]; simp
          · rw [if_neg h2]
            have h2' : Nu.getD v.toNat false = false := by simpa using h2
            rw [h2']; simp
      have hnul : nulF Nu ((false, v) :: l) = (Nu.getD v.toNat false && nulF Nu l) := by
        show (((false, v) :: l).all fun s => !s.1 && Nu.getD s.2.toNat false) = _
        rw [List.all_cons]
        rfl
      cases hn : Nu.getD v.toNat false with
      | true =>
        have e : behM Nu Fi a ((false, v) :: l) = behM Nu Fi (a ||| firM Fi (false, v)) l := by
          rw [behM]; simp only; rw [hn]; simp
        obtain ⟨i1, i2⟩ := ih (a ||| firM Fi (false, v)) hl'
        rw [e, i1, i2, hbeg, hnul, hn, Nat.testBit_or, hfir]
        simp [Bool.or_assoc]
      | false =>
        have e : behM Nu Fi a ((false, v) :: l) = (a ||| firM Fi (false, v), false) := by
          rw [behM]; simp only; rw [hn]; simp
        rw [e, hbeg, hnul, hn, Nat.testBit_or, hfir]
        simp

theorem beg_le {t : Nat} : ∀ {l : List Sy}, SyIn T N l → begF Nu Fi T l t = true → t ≤ T := by
  intro l
  induction l with
  | nil => intro _ h; simp [begF, behF] at h
  | cons s l ih =>
    intro hl h
    have hs := hl s (by simp)
    obtain ⟨b, v⟩ := s
    cases b with
    | true =>
      have hv := hs.1 rfl
      simp only at hv
      simp only [begF, behF, decide_eq_true_eq] at h
      omega
    | false =>
      simp only [begF, behF] at h
      split at h
      · rename_i h1
        simp only [Bool.and_eq_true, decide_eq_true_eq] at h1
        omega
      · split at h
        · exact ih (fun x hx => hl x (List.mem_cons_of_mem _ hx)) h
        · cases h
end

/-! ### What is given -/

def rulesL (R : List Ru) (m : Int) : List Nat := (List.range R.length).filter fun n => decide ((R.getD n (0, [])).1 = m)
def behindM (R : List Ru) (Nu : List Bool) (Fi : List (List Bool)) (i : It) : Nat × Bool := behM Nu Fi 0 ((rightF R i.1).drop (i.2 + 1))
def nexM (R : List Ru) (Nu : List Bool) (Fi : List (List Bool)) (i : It) (h : Nat) : Nat := if (behindM R Nu Fi i).2 then (behindM R Nu Fi i).1 ||| h else (behindM R Nu Fi i).1
/-- What an item of a state gives, that has h: to whom, and what. -/
def givesL (T : Nat) (R : List Ru) (NL : List (List Int)) (Nu : List Bool) (Fi : List (List Bool)) (p : Spo) (h : Nat) : List (Spo × Nat) :=
  match (rightF R p.2.1)[p.2.2]? with
  | none => []
  | some s => ((toN NL T p.1 s, (p.2.1, p.2.2 + 1)), h) :: (if s.1 then [] else (rulesL R s.2).map fun r => ((p.1, (r, 0)), nexM R Nu Fi p.2 h))

/-- What there is; what is to be looked at; how often something was won. -/
structure LS where
  lk : Spo → Nat
  O : List Spo
  c : Nat

def giveF (g : Spo × Nat) (st : LS) : LS := if st.lk g.1 ||| g.2 = st.lk g.1 then st else ⟨fun s => if s = g.1 then st.lk g.1 ||| g.2 else st.lk s, st.O ++ [g.1], st.c + 1⟩
def givesF (L : List (Spo × Nat)) (st : LS) : LS := L.foldl (fun st g => giveF g st) st
def lookF (T : Nat) (R : List Ru) (NL : List (List Int)) (Nu : List Bool) (Fi : List (List Bool)) (p : Spo) (st : LS) : LS := givesF (givesL T R NL Nu Fi p (st.lk p)) st

def spotsL (OL : List (List It)) : List Spo := (List.range OL.length).flatMap fun k => (OL.getD k []).map fun i => (k, i)
theorem mem_spots {OL : List (List It)} {s : Spo} : s ∈ spotsL OL ↔ InS OL s := by
  unfold spotsL InS
  rw [List.mem_flatMap]
  constructor
  · rintro ⟨k, hk, hs⟩
    obtain ⟨i, hi, rfl⟩ := List.mem_map.1 hs
    exact ⟨List.mem_range.1 hk, hi⟩
  · rintro ⟨h1, h2⟩
    exact ⟨s.1, List.mem_range.2 h1, List.mem_map.2 ⟨s.2, h2, rfl⟩⟩
def bitsL (OL : List (List It)) (T : Nat) : List (Spo × Nat) := (spotsL OL).flatMap fun s => (List.range (T + 1)).map fun t => (s, t)
theorem mem_bits {OL : List (List It)} {T : Nat} {s : Spo} {t : Nat} (hs : InS OL s) (ht : t ≤ T) : (s, t) ∈ bitsL OL T := by
  unfold bitsL
  rw [List.mem_flatMap]
  exact ⟨s, mem_spots.2 hs, List.mem_map.2 ⟨t, List.mem_range.2 (by omega), rfl⟩⟩
def leftL (OL : List (List It)) (T : Nat) (lk : Spo → Nat) : Nat := ((bitsL OL T).filter fun q => !(lk q.1).testBit q.2).length
/-- It never grows; it falls when something is taken off the list. -/
def phiL (OL : List (List It)) (T : Nat) (st : LS) : Nat := 2 * leftL OL T st.lk + st.O.length + st.c

section
variable {T N : Nat} {R : List Ru} {OL : List (List It)} {NL : List (List Int)} {Ls : List SetI} {Nu : List Bool} {Fi : List (List Bool)}

/-- It is told rightly. -/
def ZM (T : Nat) (R : List Ru) (Nu : List Bool) (Fi : List (List Bool)) (NL : List (List Int)) (Ls : List SetI) (s : Spo) (t : Nat) : Prop := t ≤ T ∧ LookQ T R Nu Fi NL Ls s.1 s.2 t
def OkG (T : Nat) (R : List Ru) (Nu : List Bool) (Fi : List (List Bool)) (NL : List (List Int)) (Ls : List SetI) (OL : List (List It)) (g : Spo × Nat) : Prop := InS OL g.1 ∧ ∀ t, g.2.testBit t = true → ZM T R Nu Fi NL Ls g.1 t

theorem gives_ok (A : AutD T N R OL NL Ls) (hF : ∀ n, (Fi.getD n []).length ≤ T) {p : Spo} (hp : InS OL p) {h : Nat} (hh : ∀ t, h.testBit t = true → ZM T R Nu Fi NL Ls p t) : ∀ g ∈ givesL T R NL Nu Fi p h, OkG T R Nu Fi NL Ls OL g := by
  intro g hg
  unfold givesL at hg
  cases hs : (rightF R p.2.1)[p.2.2]? with
  | none => rw [hs] at hg; cases hg
  | some s =>
    rw [hs] at hg
    simp only [List.mem_cons] at hg
    rcases hg with rfl | hg
    · obtain ⟨h1, h2⟩ := A.on hp hs
      exact ⟨h2, fun t ht => ⟨(hh t ht).1, LookP.on (i := p.2) (hh t ht).2 hs h1⟩⟩
    · obtain ⟨b, v⟩ := s
      cases b with
      | true => simp at hg
      | false =>
        simp only [Bool.false_eq_true, if_false] at hg
        obtain ⟨r, hr, rfl⟩ := List.mem_map.1 hg
        unfold rulesL at hr
        rw [List.mem_filter, List.mem_range] at hr
        have hr2 : (R.getD r (0, [])).1 = v := by simpa using hr.2
        refine ⟨A.close hp hs hr.1 hr2, fun t ht => ?_⟩
        have hin : SyIn T N ((rightF R p.2.1).drop (p.2.2 + 1)) := fun x hx => A.sym _ (A.item hp).2.1 x (List.mem_of_mem_drop hx)
        obtain ⟨b1, b2⟩ := beh_bit (Nu := Nu) hF t _ 0 hin
        have beg : begF Nu Fi T ((rightF R p.2.1).drop (p.2.2 + 1)) t = true → ZM T R Nu Fi NL Ls (p.1, (r, 0)) t := fun hb =>
          ⟨beg_le hin hb, LookP.begins (i := p.2) (by rw [← A.sok.len]; exact hp.1) (A.item hp).1 hs hr.1 hr2 (beg_le hin hb) hb⟩
        unfold nexM behindM at ht
        simp only [Nat.zero_testBit, Bool.false_or] at b1
        split at ht
        · rename_i hn
          simp only [Nat.testBit_or, b1, Bool.or_eq_true] at ht
          rcases ht with ht | ht
          · exact beg ht
          · exact ⟨(hh t ht).1, LookP.nothing (i := p.2) (hh t ht).2 hs hr.1 hr2 (by rw [← b2]; exact hn)⟩
        · simp only [b1] at ht
          exact beg ht

/-- While a list of gives is gone through, of the item p, that had h. -/
structure LkF (T : Nat) (R : List Ru) (OL : List (List It)) (NL : List (List Int)) (Ls : List SetI) (Nu : List Bool) (Fi : List (List Bool)) (p : Spo) (h : Nat) (dn : List (Spo × Nat)) (st : LS) : Prop where
  snd : ∀ s t, (st.lk s).testBit t = true → InS OL s ∧ ZM T R Nu Fi NL Ls s t
  opn : ∀ s ∈ st.O, InS OL s
  cls : ∀ s, InS OL s → s ≠ p → s ∈ st.O ∨ ∀ g ∈ givesL T R NL Nu Fi s (st.lk s), st.lk g.1 ||| g.2 = st.lk g.1
  self : st.lk p = h ∨ p ∈ st.O
  don : ∀ g ∈ dn, st.lk g.1 ||| g.2 = st.lk g.1
/-- What is so of each item: it is yet to be looked at, or all that it gives is there. -/
structure LkI (T : Nat) (R : List Ru) (OL : List (List It)) (NL : List (List Int)) (Ls : List SetI) (Nu : List Bool) (Fi : List (List Bool)) (st : LS) : Prop where
  snd : ∀ s t, (st.lk s).testBit t = true → InS OL s ∧ ZM T R Nu Fi NL Ls s t
  opn : ∀ s ∈ st.O, InS OL s
  cls : ∀ s, InS OL s → s ∈ st.O ∨ ∀ g ∈ givesL T R NL Nu Fi s (st.lk s), st.lk g.1 ||| g.2 = st.lk g.1

theorem or_more {a m x : Nat} (h : a ||| m = a) : (a ||| x) ||| m = a ||| x := by
  rw [Nat.or_assoc, Nat.or_comm x m, ← Nat.or_assoc, h]

theorem LkF.give {p : Spo} {h : Nat} {dn : List (Spo × Nat)} {st : LS} (H : LkF T R OL NL Ls Nu Fi p h dn st) {g : Spo × Nat} (hg : OkG T R Nu Fi NL Ls OL g) : LkF T R OL NL Ls Nu Fi p h (dn ++ [g]) (giveF g st) := by
  unfold giveF
  split
  · rename_i he
    exact ⟨H.snd, H.opn, H.cls, H.self, fun g' hg' => by
      rcases List.mem_append.1 hg' with hg' | hg'
      · exact H.don g' hg'
      · simp only [List.mem_singleton] at hg'; subst hg'; exact he⟩
  · have up : ∀ (a : Spo) (m : Nat), st.lk a ||| m = st.lk a → (if a = g.1 then st.lk g.1 ||| g.2 else st.lk a) ||| m = (if a = g.1 then st.lk g.1 ||| g.2 else st.lk a) := fun a m hm => by
      by_cases ha : a = g.1
      · subst ha; rw [if_pos rfl]; exact or_more hm
      · rw [if_neg ha]; exact hm
    refine ⟨fun s t ht => ?_, fun s hs => ?_, fun s hs hne => ?_, ?_, fun g' hg' => ?_⟩
    · simp only at ht
      by_cases e : s = g.1
      · subst e
        simp only [if_true, Nat.testBit_or, Bool.or_eq_true] at ht
        rcases ht with ht | ht
        · exact H.snd _ t ht
        · exact ⟨hg.1, hg.2 t ht⟩
      · rw [if_neg e] at ht
        exact H.snd s t ht
    · rcases List.mem_append.1 hs with hs | hs
      · exact H.opn s hs
      · simp only [List.mem_singleton] at hs; subst hs; exact hg.1
    · by_cases e : s = g.1
      · exact .inl (by subst e; simp)
      · rcases H.cls s hs hne with h1 | h1
        · exact .inl (List.mem_append_left _ h1)
        · refine .inr fun g' hg' => ?_
          simp only [if_neg e] at hg'
          exact up g'.1 g'.2 (h1 g' hg')
    · rcases H.self with h1 | h1
      · by_cases e : p = g.1
        · exact .inr (by subst e; simp)
        · exact .inl (by simp only; rw [if_neg e]; exact h1)
      · exact .inr (List.mem_append_left _ h1)
    · rcases List.mem_append.1 hg' with hg' | hg'
      · exact up g'.1 g'.2 (H.don g' hg')
      · simp only [List.mem_singleton] at hg'
        subst hg'
        simp only [if_true]
        rw [Nat.or_assoc, Nat.or_self]

theorem LkF.gives {p : Spo} {h : Nat} : ∀ (L dn : List (Spo × Nat)) (st : LS), LkF T R OL NL Ls Nu Fi p h dn st → (∀ g ∈ L, OkG T R Nu Fi NL Ls OL g) → LkF T R OL NL Ls Nu Fi p h (dn ++ L) (givesF L st) := by
  intro L
  induction L with
  | nil => intro dn st H _; simpa [givesF] using H
  | cons g L ih =>
    intro dn st H hL
    have := ih (dn ++ [g]) (giveF g st) (H.give (hL g (by simp))) (fun g' hg' => hL g' (List.mem_cons_of_mem _ hg'))
    rw [List.append_assoc] at this
    exact this

theorem LkI.look (A : AutD T N R OL NL Ls) (hF : ∀ n, (Fi.getD n []).length ≤ T) {lk : Spo → Nat} {O : List Spo} {p : Spo} {c : Nat} (H : LkI T R OL NL Ls Nu Fi ⟨lk, O ++ [p], c⟩) : LkI T R OL NL Ls Nu Fi (lookF T R NL Nu Fi p ⟨lk, O, c⟩) := by
  have hp : InS OL p := H.opn p (by simp)
  have H0 : LkF T R OL NL Ls Nu Fi p (lk p) [] ⟨lk, O, c⟩ := ⟨H.snd, fun s hs => H.opn s (List.mem_append_left _ hs), fun s hs hne => by
    rcases H.cls s hs with h1 | h1
    · rcases List.mem_append.1 h1 with h1 | h1
      · exact .inl h1
      · simp only [List.mem_singleton] at h1; exact absurd h1 hne
    · exact .inr h1, .inl rfl, fun g hg => by cases hg⟩
  have H1 := H0.gives _ _ _ (gives_ok A hF hp fun t ht => (H.snd p t ht).2)
  refine ⟨H1.snd, H1.opn, fun s hs => ?_⟩
  by_cases e : s = p
  · subst e
    rcases H1.self with h1 | h1
    · refine .inr fun g hg => ?_
      have h2 : (lookF T R NL Nu Fi s ⟨lk, O, c⟩).lk s = lk s := h1
      rw [h2] at hg
      exact H1.don g (by simpa using hg)
    · exact .inl h1
  · exact H1.cls s hs e

theorem LkI.give {st : LS} (H : LkI T R OL NL Ls Nu Fi st) {g : Spo × Nat} (hg : OkG T R Nu Fi NL Ls OL g) : LkI T R OL NL Ls Nu Fi (giveF g st) := by
  have key : ∀ p, LkF T R OL NL Ls Nu Fi p (st.lk p) [] st := fun p => ⟨H.snd, H.opn, fun s hs _ => H.cls s hs, .inl rfl, fun g hg => by cases hg⟩
  have h1 := (key g.1).give hg
  refine ⟨h1.snd, h1.opn, fun s hs => ?_⟩
  by_cases e : s = g.1
  · -- the one that is given: if it has won nothing, it is as it was
    unfold giveF
    split
    · exact H.cls s hs
    · exact .inl (by subst e; simp)
  · exact h1.cls s hs e

theorem lki_start (OL : List (List It)) : LkI T R OL NL Ls Nu Fi ⟨fun _ => 0, spotsL OL, 0⟩ :=
  ⟨fun s t h => by simp at h, fun s hs => mem_spots.1 hs, fun s hs => .inl (mem_spots.2 hs)⟩

theorem give_mono {g : Spo × Nat} {st : LS} {s : Spo} {t : Nat} (h : (st.lk s).testBit t = true) : ((giveF g st).lk s).testBit t = true := by
  unfold giveF
  split
  · exact h
  · simp only
    by_cases e : s = g.1
    · subst e; rw [if_pos rfl, Nat.testBit_or, h]; rfl
    · rw [if_neg e]; exact h
theorem gives_mono {s : Spo} {t : Nat} : ∀ (L : List (Spo × Nat)) (st : LS), (st.lk s).testBit t = true → ((givesF L st).lk s).testBit t = true := by
  intro L
  induction L with
  | nil => intro st h; exact h
  | cons g L ih => intro st h; exact ih _ (give_mono h)

/-! ### It ends -/

theorem give_left {g : Spo × Nat} {st : LS} (hg : InS OL g.1 ∧ ∀ t, g.2.testBit t = true → t ≤ T) : phiL OL T (giveF g st) ≤ phiL OL T st := by
  unfold giveF
  split
  · exact Nat.le_refl _
  · rename_i hne
    obtain ⟨t, ht⟩ : ∃ t, (st.lk g.1 ||| g.2).testBit t ≠ (st.lk g.1).testBit t := Classical.byContradiction fun hn => hne (Nat.eq_of_testBit_eq fun t => Classical.byContradiction fun h => hn ⟨t, h⟩)
    rw [Nat.testBit_or] at ht
    have h1 : (st.lk g.1).testBit t = false := by cases h : (st.lk g.1).testBit t <;> simp [h] at ht ⊢
    have h2 : g.2.testBit t = true := by rw [h1] at ht; cases h : g.2.testBit t <;> simp [h] at ht ⊢
    have hlt : leftL OL T (fun s => if s = g.1 then st.lk g.1 ||| g.2 else st.lk s) < leftL OL T st.lk := by
      unfold leftL
      refine (filter_lt _ _ (fun q hq => ?_) (bitsL OL T)).2 ⟨(g.1, t), mem_bits hg.1 (hg.2 t h2), ?_, ?_⟩
      · by_cases e : q.1 = g.1
        · simp only [e, if_true, Nat.testBit_or] at hq
          rw [e]
          cases h : (st.lk g.1).testBit q.2 <;> simp [h] at hq ⊢
        · simp only [if_neg e] at hq; exact hq
      · simp [h1]
      · simp [Nat.testBit_or, h2]
    unfold phiL
    simp only [List.length_append, List.length_cons, List.length_nil]
    omega
theorem gives_left : ∀ (L : List (Spo × Nat)) (st : LS), (∀ g ∈ L, InS OL g.1 ∧ ∀ t, g.2.testBit t = true → t ≤ T) → phiL OL T (givesF L st) ≤ phiL OL T st := by
  intro L
  induction L with
  | nil => intro st _; exact Nat.le_refl _
  | cons g L ih => intro st h; exact Nat.le_trans (ih _ fun g' hg' => h g' (List.mem_cons_of_mem _ hg')) (give_left (h g (by simp)))
theorem look_left (A : AutD T N R OL NL Ls) (hF : ∀ n, (Fi.getD n []).length ≤ T) {lk : Spo → Nat} {O : List Spo} {p : Spo} {c : Nat} (H : LkI T R OL NL Ls Nu Fi ⟨lk, O ++ [p], c⟩) : phiL OL T (lookF T R NL Nu Fi p ⟨lk, O, c⟩) < phiL OL T ⟨lk, O ++ [p], c⟩ := by
  have h1 := gives_left (OL := OL) (T := T) (givesL T R NL Nu Fi p (lk p)) ⟨lk, O, c⟩ fun g hg => by
    obtain ⟨a, b⟩ := gives_ok A hF (H.opn p (by simp)) (fun t ht => (H.snd p t ht).2) g hg
    exact ⟨a, fun t ht => (b t ht).1⟩
  have h2 : phiL OL T ⟨lk, O ++ [p], c⟩ = phiL OL T ⟨lk, O, c⟩ + 1 := by
    unfold phiL
    simp only [List.length_append, List.length_cons, List.length_nil]
    omega
  show phiL OL T (givesF (givesL T R NL Nu Fi p (lk p)) ⟨lk, O, c⟩) < _
  omega

/-! ### All is found -/

theorem or_bit {a m t : Nat} (h : a ||| m = a) (hm : m.testBit t = true) : a.testBit t = true := by
  rw [← h, Nat.testBit_or, hm, Bool.or_true]

theorem looks_found (A : AutD T N R OL NL Ls) (hF : ∀ n, (Fi.getD n []).length ≤ T) {st : LS} (H : LkI T R OL NL Ls Nu Fi st) (hO : st.O = []) (h0 : (st.lk (0, (R.length, 0))).testBit T = true) {k : Nat} {i : It} {t : Nat} (hl : LookQ T R Nu Fi NL Ls k i t) : InS OL (k, i) ∧ (st.lk (k, i)).testBit t = true := by
  have cls : ∀ s, InS OL s → ∀ g ∈ givesL T R NL Nu Fi s (st.lk s), st.lk g.1 ||| g.2 = st.lk g.1 := fun s hs => by
    rcases H.cls s hs with h | h
    · rw [hO] at h; cases h
    · exact h
  have bits : ∀ {k : Nat} {i : It}, InS OL (k, i) → ∀ (t : Nat), (behindM R Nu Fi i).1.testBit t = begF Nu Fi T ((rightF R i.1).drop (i.2 + 1)) t ∧ (behindM R Nu Fi i).2 = nulF Nu ((rightF R i.1).drop (i.2 + 1)) := fun {k i} hi t => by
    have hin : SyIn T N ((rightF R i.1).drop (i.2 + 1)) := fun x hx => A.sym _ (A.item hi).2.1 x (List.mem_of_mem_drop hx)
    obtain ⟨b1, b2⟩ := beh_bit (Nu := Nu) hF t _ 0 hin
    simp only [Nat.zero_testBit, Bool.false_or] at b1
    exact ⟨b1, b2⟩
  have rule : ∀ {k : Nat} {i : It} {m : Int} {n : Nat}, InS OL (k, i) → (rightF R i.1)[i.2]? = some (false, m) → n < R.length → (R.getD n (0, [])).1 = m → st.lk (k, (n, 0)) ||| nexM R Nu Fi i (st.lk (k, i)) = st.lk (k, (n, 0)) := fun {k i m n} hi h1 h2 h3 => by
    refine cls (k, i) hi ((k, (n, 0)), nexM R Nu Fi i (st.lk (k, i))) ?_
    unfold givesL
    simp only
    rw [h1]
    simp only [Bool.false_eq_true, if_false]
    refine List.mem_cons_of_mem _ (List.mem_map.2 ⟨n, ?_, rfl⟩)
    unfold rulesL
    rw [List.mem_filter, List.mem_range]
    exact ⟨h2, by simpa using h3⟩
  induction hl with
  | start => exact ⟨A.zero, h0⟩
  | on _ h1 h2 ih =>
    rename_i k i t s n _
    obtain ⟨a1, a2⟩ := ih
    obtain ⟨o1, o2⟩ := A.on a1 h1
    have et : toN NL T k s = n := by
      simp only at o1
      rw [h2] at o1
      omega
    have hg := cls (k, i) a1 ((toN NL T k s, (i.1, i.2 + 1)), st.lk (k, i)) (by unfold givesL; simp only; rw [h1]; simp)
    simp only [et] at hg o2
    exact ⟨o2, or_bit hg a2⟩
  | begins hk hi h1 h2 h3 ht h4 =>
    rename_i k i t m n
    have a1 : InS OL (k, i) := ⟨by rw [A.sok.len]; exact hk, ((A.sok.rep k (by rw [A.sok.len]; exact hk)).mem i).2 hi⟩
    refine ⟨A.close a1 h1 h2 h3, or_bit (rule a1 h1 h2 h3) ?_⟩
    unfold nexM
    split
    · rw [Nat.testBit_or, (bits a1 t).1, h4]; rfl
    · rw [(bits a1 t).1, h4]
  | nothing _ h1 h2 h3 h4 ih =>
    rename_i k i t m n _
    obtain ⟨a1, a2⟩ := ih
    refine ⟨A.close a1 h1 h2 h3, or_bit (rule a1 h1 h2 h3) ?_⟩
    unfold nexM
    rw [if_pos (by rw [(bits a1 t).2]; exact h4), Nat.testBit_or, a2, Bool.or_true]

theorem looks_are (A : AutD T N R OL NL Ls) (hF : ∀ n, (Fi.getD n []).length ≤ T) {st : LS} (H : LkI T R OL NL Ls Nu Fi st) (hO : st.O = []) (h0 : (st.lk (0, (R.length, 0))).testBit T = true) (k : Nat) (i : It) (t : Nat) : (st.lk (k, i)).testBit t = true ↔ LookQ T R Nu Fi NL Ls k i t :=
  ⟨fun h => (H.snd _ t h).2.2, fun h => (looks_found A hF H hO h0 h).2⟩
end

end Go.Proofs.Ytgcpllnjdnahjaa
