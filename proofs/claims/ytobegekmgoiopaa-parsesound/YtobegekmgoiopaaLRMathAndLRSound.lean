import Derived.Test.YtobegekmgoiopaaTab6AndTkMath
import Derived.Test.YtobegekmgoiopaaTkOfAndFirstMath
/- Plain: what an automaton of states and a table whose cells each say but one thing make of tokens: each derivation is found, and no other one. No program. -/
namespace Go.Proofs.Ytobegekmgoiopaa

/-! ### Symbols and their numbers -/

def SyOk (T N : Nat) (s : Sy) : Prop := 0 ≤ s.2 ∧ s.2 < if s.1 then (T : Int) else (N : Int)

theorem numF_inj {T N : Nat} {s s' : Sy} (h : SyOk T N s) (h' : SyOk T N s') (e : numF T s = numF T s') : s = s' := by
  obtain ⟨b, v⟩ := s
  obtain ⟨b', v'⟩ := s'
  cases b <;> cases b' <;> simp_all [SyOk, numF] <;> omega

theorem numF_lt {T N : Nat} {s : Sy} (h : SyOk T N s) : 0 ≤ numF T s ∧ numF T s < (T : Int) + N := by
  obtain ⟨b, v⟩ := s
  cases b <;> simp_all [SyOk, numF] <;> omega

theorem right_ok {T N : Nat} {R : List Ru} (hf : Fine T N R) {r : Nat} (hr : r ≤ R.length) : ∀ s ∈ rightF R r, SyOk T N s := fun s hs => by
  unfold rightF at hs
  split at hs
  · simp only [List.mem_singleton] at hs
    subst hs
    have := hf.some
    simp [SyOk]
    omega
  · have hm : R.getD r (0, []) ∈ R := by simp [List.getD, show r < R.length by omega]
    obtain ⟨b, v⟩ := s
    cases b with
    | true => have := hf.term _ hm _ hs rfl; simpa [SyOk] using this
    | false => have := hf.name _ hm _ hs rfl; simpa [SyOk] using this

theorem right_rule {R : List Ru} {r : Nat} (h : r < R.length) : rightF R r = (R.getD r (0, [])).2 := by
  unfold rightF
  rw [if_neg (by omega)]

/-- The automaton: states, where they go on. -/
structure LRok (T N : Nat) (R : List Ru) (NL : List (List Int)) (Ls : List SetI) : Prop where
  fine : Fine T N R
  pos : 0 < Ls.length
  zero : Ls.getD 0 noS = Cl R (fun i => i = (R.length, 0))
  go : ∀ k, k < Ls.length → ∀ x, x < T + N → GoOk T R Ls k x ((NL.getD k []).getD x 0)
  closed : ∀ k, k < Ls.length → ClosedS R (Ls.getD k noS)

theorem lr_of {T N : Nat} {R : List Ru} {K : Nat} (hf : Fine T N R) (h : Whole T N R K) (hK : 0 < K) : LRok T N R (allN T N R K).1 (allN T N R K).2 := by
  have hl : (allN T N R K).2.length = K := h
  refine ⟨hf, by omega, ?_, fun k hk x hx => (all_go (whole_reach h) k (by omega) x hx).2, fun k hk => all_closed (T := T) (N := N) K _ ?_⟩
  · obtain ⟨E, hE⟩ := all_pre (T := T) (N := N) (R := R) 0 K (Nat.zero_le _)
    rw [hE]
    rfl
  · simp [List.getD, hk]

section
variable {T N : Nat} {R : List Ru} {NL : List (List Int)} {Ls : List SetI}

/-- From the state k by the symbol s to the state n. -/
def GoesTo (T : Nat) (NL : List (List Int)) (k : Nat) (s : Sy) (n : Nat) : Prop := (NL.getD k []).getD (numF T s).toNat 0 = (n : Int)

theorem LRok.goes (h : LRok T N R NL Ls) {k : Nat} (hk : k < Ls.length) {i : It} (hi : Ls.getD k noS i) (hr : i.1 ≤ R.length) {s : Sy} (hs : (rightF R i.1)[i.2]? = some s) :
    ∃ n, GoesTo T NL k s n ∧ n < Ls.length ∧ Ls.getD n noS = gotoS T R (Ls.getD k noS) (numF T s).toNat ∧ Ls.getD n noS (i.1, i.2 + 1) := by
  have hok := numF_lt (right_ok h.fine hr s (List.mem_of_getElem? hs))
  have hx : (((numF T s).toNat : Nat) : Int) = numF T s := by omega
  obtain ⟨n, h1, h2, h3⟩ := (h.go k hk (numF T s).toNat (by omega)).some ⟨i, hi, s, hs, hx.symm⟩
  exact ⟨n, h1, h2, h3, by rw [h3]; exact goto_item hi hs hx.symm⟩

/-- All items of a state are of rules. -/
theorem cl_ruleR {S : SetI} (h : ∀ i, S i → i.1 ≤ R.length) : ∀ i, Cl R S i → i.1 ≤ R.length := by
  intro i hi
  induction hi with
  | base h1 => exact h _ h1
  | step _ _ h2 _ _ => exact Nat.le_of_lt h2

theorem cl_succ {S : SetI} {r d : Nat} (h : Cl R S (r, d + 1)) : S (r, d + 1) := by
  cases h with
  | base h => exact h

/-- What is begun with nothing read, and is no rule that was begun with: some item has its name next. -/
theorem cl_zero {S : SetI} {r : Nat} (h : Cl R S (r, 0)) : S (r, 0) ∨ (r < R.length ∧ ∃ i, Cl R S i ∧ (rightF R i.1)[i.2]? = some (false, (R.getD r (0, [])).1)) := by
  cases h with
  | base h => exact .inl h
  | step h1 h2 h3 h4 => exact .inr ⟨h3, _, h1, by rw [h4]; exact h2⟩

/-! ### What the parser does -/

/-- States; what each symbol that was read has become; how many tokens are read; how many rules are reduced. -/
structure PC where
  S : List Nat
  F : List (List Int)
  pos : Nat
  many : Nat
inductive PR where
  | go (c : PC)
  | fin (d : List Int)
  | no (n : Nat)

def nextT (T : Nat) (tok : List Int) (p : Nat) : Nat := if p < tok.length then (tok.getD p 0).toNat else T
def topS (c : PC) : Nat := c.S.getD (c.S.length - 1) 0

def redP (R : List Ru) (go : Nat → Nat → Int) (c : PC) (q : Int) : PC :=
  let r := R.getD q.toNat (0, [])
  let keep := c.F.length - r.2.length
  ⟨c.S.take (keep + 1) ++ [(go (c.S.getD keep 0) r.1.toNat).toNat], c.F.take keep ++ [q :: (c.F.drop keep).flatten], c.pos, c.many + 1⟩
def stepC (R : List Ru) (go : Nat → Nat → Int) (c : PC) (x : Ce) : PR :=
  if x.2.2 then .fin (c.F.getD 0 [])
  else if 0 ≤ x.1 then .go ⟨c.S ++ [x.1.toNat], c.F ++ [[]], c.pos + 1, c.many⟩
  else match x.2.1 with
    | [] => .no c.pos
    | q :: _ => .go (redP R go c q)
def stepP (T : Nat) (R : List Ru) (ce : Nat → Nat → Ce) (go : Nat → Nat → Int) (tok : List Int) (c : PC) : PR := stepC R go c (ce (topS c) (nextT T tok c.pos))

/-- So many steps lead from one to the other. -/
inductive Runs (T : Nat) (R : List Ru) (ce : Nat → Nat → Ce) (go : Nat → Nat → Int) (tok : List Int) : PC → PC → Prop
  | refl (c : PC) : Runs T R ce go tok c c
  | step {c c' c'' : PC} (h : stepP T R ce go tok c = .go c') (k : Runs T R ce go tok c' c'') : Runs T R ce go tok c c''

theorem Runs.trans {ce : Nat → Nat → Ce} {go : Nat → Nat → Int} {tok : List Int} {a b c : PC} (h : Runs T R ce go tok a b) (k : Runs T R ce go tok b c) : Runs T R ce go tok a c := by
  induction h with
  | refl => exact k
  | step h1 _ ih => exact .step h1 (ih k)

/-! ### What cells say, where each says but one thing -/

open Classical in
theorem cell_shift {k t n : Nat} (h1 : oneB (cellP T N R NL Ls k t) = true) (ht : t < T) (hn : (NL.getD k []).getD t 0 = (n : Int)) : (cellP T N R NL Ls k t).1 = (n : Int) ∧ (cellP T N R NL Ls k t).2.2 = false := by
  have e : (cellP T N R NL Ls k t).1 = (n : Int) := by unfold cellP; simp only [ht, if_true]; exact hn
  refine ⟨e, ?_⟩
  unfold oneB at h1
  rw [e] at h1
  have hd : decide ((n : Int) < 0) = false := decide_eq_false (by omega)
  rw [hd] at h1
  simp only [Bool.false_and, Bool.or_false, Bool.and_eq_true, Bool.not_eq_true'] at h1
  exact h1.2

open Classical in
theorem cell_done {k t q : Nat} (h1 : oneB (cellP T N R NL Ls k t) = true) (hq : q < R.length) (hd : DoneP T N R NL Ls k t q) : (cellP T N R NL Ls k t).1 < 0 ∧ (cellP T N R NL Ls k t).2.1 = [(q : Int)] ∧ (cellP T N R NL Ls k t).2.2 = false := by
  have hm : (q : Int) ∈ (cellP T N R NL Ls k t).2.1 := by
    unfold cellP
    simp only [List.mem_map, List.mem_filter, List.mem_range, decide_eq_true_eq]
    exact ⟨q, ⟨hq, hd⟩, rfl⟩
  obtain ⟨x, hx⟩ : ∃ x, cellP T N R NL Ls k t = x := ⟨_, rfl⟩
  rw [hx] at h1 hm ⊢
  obtain ⟨s, l, e⟩ := x
  simp only at hm ⊢
  unfold oneB at h1
  simp only at h1
  have hl : l.length ≠ 0 := fun h0 => by rw [List.length_eq_zero_iff] at h0; rw [h0] at hm; cases hm
  simp only [hl, decide_false, Bool.false_and, Bool.false_or, Bool.and_eq_true, decide_eq_true_eq, Bool.not_eq_true'] at h1
  obtain ⟨h2, h3, h4⟩ := h1
  obtain ⟨a, rfl⟩ := List.length_eq_one_iff.1 h3
  simp only [List.mem_singleton] at hm
  subst hm
  exact ⟨h2, rfl, h4⟩

open Classical in
theorem cell_end {k t : Nat} (hd : DoneP T N R NL Ls k t R.length) : (cellP T N R NL Ls k t).2.2 = true := by
  unfold cellP
  exact decide_eq_true hd
end

/-! ### What comes is foreseen -/

section
variable {T N : Nat} {R : List Ru} (hf : Fine T N R)
include hf

theorem derD_foreseen : ∀ (k : Nat) (n : Int) (d Z : List Int), DerDL R k n d Z → (Z = [] → NullP N R n) ∧ ∀ t z, Z = t :: z → FirstP N R t n := by
  intro k
  induction k with
  | zero => intro n d Z h; exact h.elim
  | succ k ih =>
    have seq : ∀ (l : List Sy) (d Z : List Int), SeqDD (DerDL R k) l d Z → Foreseen N R Z l := by
      intro l
      induction l with
      | nil => rintro d Z ⟨_, rfl⟩; exact ⟨fun _ s hs => (by cases hs), fun t z h => (by cases h)⟩
      | cons s l ihl =>
        intro d Z h
        obtain ⟨b, v⟩ := s
        cases b with
        | true =>
          obtain ⟨Z', rfl, _⟩ := h
          refine ⟨fun h => (by cases h), fun t z h => ?_⟩
          cases h
          exact ⟨0, (true, v), rfl, .inl ⟨rfl, rfl⟩, fun y hy => by simp at hy⟩
        | false =>
          obtain ⟨d1, d2, Z1, Z2, _, rfl, h3, h4⟩ := h
          obtain ⟨n1, t1⟩ := ih _ _ _ h3
          obtain ⟨n2, t2⟩ := ihl _ _ h4
          refine ⟨fun h => ?_, fun t z h => ?_⟩
          · obtain ⟨h5, h6⟩ := List.append_eq_nil_iff.1 h
            intro y hy
            rcases List.mem_cons.1 hy with rfl | hy
            · exact ⟨rfl, n1 h5⟩
            · exact n2 h6 y hy
          · cases Z1 with
            | nil => exact (t2 t z (by simpa using h)).cons rfl (n1 rfl)
            | cons a Z1 =>
              simp only [List.cons_append, List.cons.injEq] at h
              obtain ⟨rfl, _⟩ := h
              exact ⟨0, (false, v), rfl, .inr ⟨rfl, t1 a Z1 rfl⟩, fun y hy => by simp at hy⟩
    rintro n d Z ⟨q, hq, hL, d', _, hs⟩
    have hmem : R.getD q (0, []) ∈ R := by simp [List.getD, hq]
    obtain ⟨f1, f2⟩ := seq _ _ _ hs
    exact ⟨fun hz => Lv_closed (NullF_mono hf) _ ⟨_, hmem, hL, f1 hz⟩, fun t z hz => Lv_closed (FirstF_mono hf _ _) _ ⟨_, hmem, hL, f2 t z hz⟩⟩

theorem seqD_foreseen {k : Nat} : ∀ (l : List Sy) (d Z : List Int), SeqDD (DerDL R k) l d Z → (Z = [] → nulF (nullA R N) l = true) ∧ ∀ (t : Nat) z, t < T → Z = (t : Int) :: z → begF (nullA R N) (firstA R (nullA R N) T N) T l t = true := by
  have hnu := nullA_iff hf
  have hfi := firstA_iff hf hnu.2
  intro l
  induction l with
  | nil => rintro d Z ⟨_, rfl⟩; exact ⟨fun _ => rfl, fun t z _ h => (by cases h)⟩
  | cons s l ih =>
    intro d Z h
    obtain ⟨b, v⟩ := s
    cases b with
    | true =>
      obtain ⟨Z', rfl, _⟩ := h
      refine ⟨fun h => (by cases h), fun t z _ h => ?_⟩
      simp only [List.cons.injEq] at h
      simp [begF, behF, h.1]
    | false =>
      obtain ⟨d1, d2, Z1, Z2, _, rfl, h3, h4⟩ := h
      obtain ⟨n1, t1⟩ := derD_foreseen hf _ _ _ _ h3
      obtain ⟨n2, t2⟩ := ih _ _ h4
      refine ⟨fun h => ?_, fun t z ht h => ?_⟩
      · obtain ⟨h5, h6⟩ := List.append_eq_nil_iff.1 h
        have := ((hnu.2 v).2 (n1 h5)).2
        show (((false, v) :: l).all fun s => !s.1 && (nullA R N).getD s.2.toNat false) = true
        rw [List.all_cons]
        simp only [Bool.not_false, Bool.true_and]
        rw [this]
        exact n2 h6
      · unfold begF
        simp only [behF]
        split
        · rfl
        · rename_i hno
          cases Z1 with
          | nil =>
            have := ((hnu.2 v).2 (n1 rfl)).2
            rw [if_pos this]
            exact t2 t z ht (by simpa using h)
          | cons a Z1 =>
            simp only [List.cons_append, List.cons.injEq] at h
            obtain ⟨rfl, _⟩ := h
            have := ((hfi.2 t ht v).2 (t1 t Z1 rfl)).2
            refine absurd ?_ hno
            rw [this]
            simp [ht]
end

end Go.Proofs.Ytobegekmgoiopaa

/- Plain: one derivation, and no other one (G3): where each cell says but one thing, the parser comes to each derivation of the tokens. No program. -/
namespace Go.Proofs.Ytobegekmgoiopaa

abbrev goP (T : Nat) (NL : List (List Int)) (k n : Nat) : Int := (NL.getD k []).getD (T + n) 0

section
variable {T N : Nat} {R : List Ru} {NL : List (List Int)} {Ls : List SetI} {tok : List Int}

theorem top_snoc (S : List Nat) (q : Nat) (F : List (List Int)) (p many : Nat) : topS ⟨S ++ [q], F, p, many⟩ = q := by
  unfold topS
  simp [List.getD]

theorem nextT_le (htok : ∀ t ∈ tok, 0 ≤ t ∧ t < (T : Int)) (p : Nat) : nextT T tok p ≤ T := by
  unfold nextT
  split
  · rename_i h
    have := htok tok[p] (List.getElem_mem h)
    have e : tok.getD p 0 = tok[p] := by simp [List.getD, h]
    rw [e]
    omega
  · omega

theorem drop_next {p : Nat} {v : Int} {Z : List Int} (h : tok.drop p = v :: Z) : p < tok.length ∧ tok.getD p 0 = v ∧ tok.drop (p + 1) = Z := by
  have hp : p < tok.length := by
    rcases Nat.lt_or_ge p tok.length with h1 | h1
    · exact h1
    · rw [List.drop_eq_nil_of_le h1] at h; cases h
  rw [List.drop_eq_getElem_cons hp] at h
  simp only [List.cons.injEq] at h
  exact ⟨hp, by rw [← h.1]; simp [List.getD, hp], h.2⟩

/-- What a name of level k becomes is read, and found. -/
def NameRuns (T N : Nat) (R : List Ru) (NL : List (List Int)) (Ls : List SetI) (tok : List Int) (k : Nat) : Prop :=
  ∀ n d Z, DerDL R k n d Z → ∀ (S : List Nat) (q : Nat) (F : List (List Int)) (p many : Nat), S.length = F.length → q < Ls.length → (∃ i, Ls.getD q noS i ∧ i.1 ≤ R.length ∧ (rightF R i.1)[i.2]? = some (false, n)) → tok.drop p = Z ++ tok.drop (p + Z.length) →
    (∀ m, m < R.length → (R.getD m (0, [])).1 = n → LookQ T R (nullA R N) (firstA R (nullA R N) T N) NL Ls q (m, 0) (nextT T tok (p + Z.length))) →
    ∃ g, g < Ls.length ∧ GoesTo T NL q (false, n) g ∧ Runs T R (cellP T N R NL Ls) (goP T NL) tok ⟨S ++ [q], F, p, many⟩ ⟨S ++ [q] ++ [g], F ++ [d], p + Z.length, many + d.length⟩

theorem syms_run (lr : LRok T N R NL Ls) (hone : ∀ k, k < Ls.length → ∀ t, t ≤ T → oneB (cellP T N R NL Ls k t) = true) (htok : ∀ t ∈ tok, 0 ≤ t ∧ t < (T : Int)) {k : Nat} (hN : NameRuns T N R NL Ls tok k) {m : Nat} (hm : m ≤ R.length) :
    ∀ (l : List Sy) (j : Nat), (rightF R m).drop j = l → ∀ (d Z : List Int), SeqDD (DerDL R k) l d Z → ∀ (S : List Nat) (q : Nat) (F : List (List Int)) (p many : Nat), S.length = F.length → q < Ls.length → Ls.getD q noS (m, j) → LookQ T R (nullA R N) (firstA R (nullA R N) T N) NL Ls q (m, j) (nextT T tok (p + Z.length)) → j ≤ (rightF R m).length → tok.drop p = Z ++ tok.drop (p + Z.length) →
    ∃ (qs : List Nat) (fs : List (List Int)) (S' : List Nat) (e : Nat), S ++ [q] ++ qs = S' ++ [e] ∧ qs.length = l.length ∧ fs.length = l.length ∧ fs.flatten = d ∧ e < Ls.length ∧ Ls.getD e noS (m, (rightF R m).length) ∧ LookQ T R (nullA R N) (firstA R (nullA R N) T N) NL Ls e (m, (rightF R m).length) (nextT T tok (p + Z.length)) ∧
      Runs T R (cellP T N R NL Ls) (goP T NL) tok ⟨S ++ [q], F, p, many⟩ ⟨S ++ [q] ++ qs, F ++ fs, p + Z.length, many + d.length⟩ := by
  intro l
  induction l with
  | nil =>
    rintro j hj d Z ⟨rfl, rfl⟩ S q F p many _ hq hi hlk hjl _
    have hjr : j = (rightF R m).length := by
      have := congrArg List.length hj
      simp only [List.length_drop, List.length_nil] at this
      omega
    subst hjr
    exact ⟨[], [], S, q, by simp, rfl, rfl, rfl, hq, hi, hlk, by simpa using Runs.refl _⟩
  | cons s l ih =>
    intro j hj d Z hs S q F p many hSF hq hi hlk hjl htk
    have hjlt : j < (rightF R m).length := by
      rcases Nat.lt_or_ge j (rightF R m).length with h | h
      · exact h
      · rw [List.drop_eq_nil_of_le h] at hj; cases hj
    rw [List.drop_eq_getElem_cons hjlt] at hj
    simp only [List.cons.injEq] at hj
    obtain ⟨hjs, hjd⟩ := hj
    have hsome : (rightF R m)[j]? = some s := by rw [List.getElem?_eq_getElem hjlt, hjs]
    have hsok := right_ok lr.fine hm s (List.mem_of_getElem? hsome)
    obtain ⟨b, v⟩ := s
    cases b with
    | true =>
      obtain ⟨Z', rfl, hs'⟩ := hs
      simp only [List.cons_append, List.length_cons] at htk hlk
      obtain ⟨hp, hpv, hdr⟩ := drop_next htk
      have hv : 0 ≤ v ∧ v < (T : Int) := by simpa [SyOk] using hsok
      obtain ⟨n', g1, g2, g3, g4⟩ := lr.goes hq hi hm hsome
      have hnt : nextT T tok p = v.toNat := by unfold nextT; rw [if_pos hp, hpv]
      have hgo : (NL.getD q []).getD v.toNat 0 = (n' : Int) := by
        have := g1
        unfold GoesTo at this
        simpa [numF] using this
      obtain ⟨c1, c2⟩ := cell_shift (hone q hq v.toNat (by omega)) (by omega) hgo
      have hstep : stepP T R (cellP T N R NL Ls) (goP T NL) tok ⟨S ++ [q], F, p, many⟩ = .go ⟨S ++ [q] ++ [n'], F ++ [[]], p + 1, many⟩ := by
        unfold stepP
        rw [top_snoc]
        simp only
        rw [hnt]
        unfold stepC
        rw [c2, c1]
        simp
      have hlk' : LookQ T R (nullA R N) (firstA R (nullA R N) T N) NL Ls n' (m, j + 1) (nextT T tok (p + 1 + Z'.length)) := by
        rw [show p + 1 + Z'.length = p + (Z'.length + 1) by omega]
        exact LookP.on hlk hsome g1
      obtain ⟨qs, fs, S', e, e1, e2, e3, e4, e5, e6, e7, e8⟩ := ih (j + 1) hjd d Z' hs' (S ++ [q]) n' (F ++ [[]]) (p + 1) many (by simp [hSF]) g2 g4 hlk' hjlt (by rw [hdr, show p + 1 + Z'.length = p + (Z'.length + 1) by omega])
      refine ⟨n' :: qs, [] :: fs, S', e, by rw [← e1]; simp, by simp [e2], by simp [e3], by simpa using e4, e5, e6, ?_, ?_⟩
      · simp only [List.length_cons]
        rw [show p + (Z'.length + 1) = p + 1 + Z'.length by omega]
        exact e7
      · simp only [List.length_cons]
        rw [show p + (Z'.length + 1) = p + 1 + Z'.length by omega]
        refine .step hstep ?_
        have a1 : S ++ [q] ++ n' :: qs = S ++ [q] ++ [n'] ++ qs := by simp
        have a2 : F ++ [] :: fs = F ++ [[]] ++ fs := by simp
        rw [a1, a2]
        exact e8
    | false =>
      obtain ⟨d1, d2, Z1, Z2, rfl, rfl, h3, h4⟩ := hs
      have hpl : p + (Z1 ++ Z2).length = p + Z1.length + Z2.length := by simp; omega
      rw [hpl] at htk hlk
      have hd1 : tok.drop p = Z1 ++ tok.drop (p + Z1.length) := by
        have : tok.drop (p + Z1.length) = (tok.drop p).drop Z1.length := by rw [List.drop_drop]
        rw [this, htk, List.append_assoc]
        simp
      have hd2 : tok.drop (p + Z1.length) = Z2 ++ tok.drop (p + Z1.length + Z2.length) := by
        have : tok.drop (p + Z1.length) = (tok.drop p).drop Z1.length := by rw [List.drop_drop]
        rw [this, htk, List.append_assoc]
        simp
      have hfs := seqD_foreseen lr.fine l d2 Z2 h4
      have hdl : (rightF R m).drop (j + 1) = l := hjd
      have hclose : ∀ m', m' < R.length → (R.getD m' (0, [])).1 = v → LookQ T R (nullA R N) (firstA R (nullA R N) T N) NL Ls q (m', 0) (nextT T tok (p + Z1.length)) := fun m' hm' hL => by
        cases Z2 with
        | nil =>
          simp only [List.length_nil, Nat.add_zero] at hlk
          exact LookP.nothing hlk hsome hm' hL (by rw [hdl]; exact hfs.1 rfl)
        | cons t z =>
          simp only [List.cons_append] at hd2
          obtain ⟨hp, hpv, _⟩ := drop_next hd2
          have ht := htok t (by rw [← hpv]; simp [List.getD, hp])
          have hnt : nextT T tok (p + Z1.length) = t.toNat := by unfold nextT; rw [if_pos hp, hpv]
          rw [hnt]
          have htt : ((t.toNat : Nat) : Int) = t := by omega
          exact LookP.begins hq hi hsome hm' hL (by omega) (by rw [hdl]; exact hfs.2 t.toNat z (by omega) (by rw [htt]))
      obtain ⟨g, hg, g1, g2⟩ := hN v d1 Z1 h3 S q F p many hSF hq ⟨(m, j), hi, hm, hsome⟩ hd1 hclose
      obtain ⟨n', t1, t2, t3, t4⟩ := lr.goes hq hi hm hsome
      have hgn : n' = g := by
        unfold GoesTo at t1 g1
        rw [t1] at g1
        omega
      subst hgn
      obtain ⟨qs, fs, S', e, e1, e2, e3, e4, e5, e6, e7, e8⟩ := ih (j + 1) hdl d2 Z2 h4 (S ++ [q]) n' (F ++ [d1]) (p + Z1.length) (many + d1.length) (by simp [hSF]) hg t4 (LookP.on hlk hsome t1) hjlt hd2
      refine ⟨n' :: qs, d1 :: fs, S', e, by rw [← e1]; simp, by simp [e2], by simp [e3], by simp [e4], e5, e6, by rw [hpl]; exact e7, ?_⟩
      rw [hpl]
      refine g2.trans ?_
      have a1 : S ++ [q] ++ n' :: qs = S ++ [q] ++ [n'] ++ qs := by simp
      have a2 : F ++ d1 :: fs = F ++ [d1] ++ fs := by simp
      have a3 : many + (d1 ++ d2).length = many + d1.length + d2.length := by simp; omega
      rw [a1, a2, a3]
      exact e8

theorem name_runs (lr : LRok T N R NL Ls) (hone : ∀ k, k < Ls.length → ∀ t, t ≤ T → oneB (cellP T N R NL Ls k t) = true) (htok : ∀ t ∈ tok, 0 ≤ t ∧ t < (T : Int)) : ∀ k, NameRuns T N R NL Ls tok k := by
  intro k
  induction k with
  | zero => intro n d Z h; exact h.elim
  | succ k ih =>
    rintro n d Z ⟨m, hm, hL, d', rfl, hs⟩ S q F p many hSF hq ⟨i, hi, hir, hin⟩ htk hclose
    obtain ⟨g, g1, g2, _, _⟩ := lr.goes hq hi hir hin
    have hrr := right_rule hm
    have hcl : Ls.getD q noS (m, 0) := closed_step (lr.closed q hq) hi hin hm hL
    obtain ⟨qs, fs, S', e, e1, e2, e3, e4, e5, e6, e7, e8⟩ := syms_run lr hone htok ih (Nat.le_of_lt hm) (rightF R m) 0 (by simp) d' Z (by rw [hrr]; exact hs) S q F p many hSF hq hcl (hclose m hm hL) (Nat.zero_le _) htk
    refine ⟨g, g2, g1, e8.trans (.step (c' := ⟨S ++ [q] ++ [g], F ++ [(m : Int) :: d'], p + Z.length, many + ((m : Int) :: d').length⟩) ?_ (.refl _))⟩
    obtain ⟨c1, c2, c3⟩ := cell_done (hone e e5 _ (nextT_le htok (p + Z.length))) hm ⟨e6, e7⟩
    have hn0 : 0 ≤ n := by
      have := lr.fine.left (R.getD m (0, [])) (by simp [List.getD, hm])
      omega
    unfold stepP
    rw [e1, top_snoc]
    simp only
    unfold stepC
    rw [c3, c2]
    simp only [Bool.false_eq_true, if_false]
    rw [if_neg (by omega)]
    rw [← e1]
    unfold redP
    simp only [Int.toNat_natCast]
    have hk : (F ++ fs).length - (R.getD m (0, [])).2.length = F.length := by
      rw [List.length_append, e3, hrr]; omega
    rw [hk]
    have t1 : (S ++ [q] ++ qs).take (F.length + 1) = S ++ [q] := by
      rw [← hSF]
      have : (S ++ [q]).length = S.length + 1 := by simp
      rw [← this, List.take_left]
    have t2 : (S ++ [q] ++ qs).getD F.length 0 = q := by
      rw [← hSF, List.append_assoc]
      simp [List.getD]
    have t3 : (goP T NL q (R.getD m (0, [])).1.toNat).toNat = g := by
      unfold goP
      rw [hL]
      have hg := g1
      unfold GoesTo at hg
      have e : (numF T (false, n)).toNat = T + n.toNat := by simp [numF]; omega
      rw [e] at hg
      rw [hg]
      simp
    rw [t1, t2, t3, List.take_left, List.drop_left, e4]
    simp [Nat.add_assoc]

/-- Each derivation is found. -/
theorem lr_finds (lr : LRok T N R NL Ls) (hone : ∀ k, k < Ls.length → ∀ t, t ≤ T → oneB (cellP T N R NL Ls k t) = true) (htok : ∀ t ∈ tok, 0 ≤ t ∧ t < (T : Int)) {d : List Int} (h : DerD R 0 d tok) :
    ∃ g, Runs T R (cellP T N R NL Ls) (goP T NL) tok ⟨[0], [], 0, 0⟩ ⟨[0, g], [d], tok.length, d.length⟩ ∧ stepP T R (cellP T N R NL Ls) (goP T NL) tok ⟨[0, g], [d], tok.length, d.length⟩ = .fin d := by
  obtain ⟨k, hk⟩ := h
  have hi : Ls.getD 0 noS (R.length, 0) := by rw [lr.zero]; exact Cl.base rfl
  have hr : rightF R R.length = [(false, 0)] := by simp [rightF]
  have hin : (rightF R R.length)[0]? = some (false, 0) := by rw [hr]; rfl
  have hend : nextT T tok tok.length = T := by unfold nextT; rw [if_neg (by omega)]
  obtain ⟨g, g1, g2, g3⟩ := name_runs lr hone htok k 0 d tok hk [] 0 [] 0 0 rfl lr.pos ⟨(R.length, 0), hi, Nat.le_refl _, hin⟩ (by simp) (fun m hm hL => by
    rw [Nat.zero_add, hend]
    exact LookP.nothing LookP.start hin hm hL (by rw [hr]; rfl))
  refine ⟨g, by simpa using g3, ?_⟩
  obtain ⟨n', t1, t2, t3, t4⟩ := lr.goes lr.pos hi (Nat.le_refl _) hin
  have hgn : n' = g := by
    unfold GoesTo at t1 g2
    rw [t1] at g2
    omega
  subst hgn
  have hd : DoneP T N R NL Ls n' T R.length := by
    unfold DoneP
    rw [hr]
    exact ⟨t4, LookP.on LookP.start hin t1⟩
  unfold stepP
  have := top_snoc [0] n' [d] tok.length d.length
  simp only [List.cons_append, List.nil_append] at this
  rw [this]
  simp only
  rw [hend]
  unfold stepC
  rw [cell_end hd]
  rfl
end

end Go.Proofs.Ytobegekmgoiopaa

/- Plain: what the parser finds is a derivation of the tokens. No program. -/
namespace Go.Proofs.Ytobegekmgoiopaa

section
variable {T N : Nat} {R : List Ru} {NL : List (List Int)} {Ls : List SetI} {tok : List Int}

/-- What one symbol has become. -/
def One (R : List Ru) (s : Sy) (f z : List Int) : Prop := (s.1 = true ∧ f = [] ∧ z = [s.2]) ∨ (s.1 = false ∧ DerD R s.2 f z)

/-- The stack, its top first: states, symbols, what they have become, what was read. -/
inductive Stk (T N : Nat) (R : List Ru) (NL : List (List Int)) (Ls : List SetI) : List Nat → List Sy → List (List Int) → List Int → Prop
  | nil : Stk T N R NL Ls [0] [] [] []
  | push {S : List Nat} {X : List Sy} {F : List (List Int)} {Z : List Int} {q g : Nat} {s : Sy} {f z : List Int} (h : Stk T N R NL Ls (q :: S) X F Z) (hs : SyOk T N s) (hg : g < Ls.length) (he : Ls.getD g noS = gotoS T R (Ls.getD q noS) (numF T s).toNat) (h1 : One R s f z) : Stk T N R NL Ls (g :: q :: S) (s :: X) (f :: F) (Z ++ z)

theorem Stk.lens {S : List Nat} {X : List Sy} {F : List (List Int)} {Z : List Int} (h : Stk T N R NL Ls S X F Z) : S.length = F.length + 1 ∧ X.length = F.length := by
  induction h with
  | nil => exact ⟨rfl, rfl⟩
  | push _ _ _ _ _ ih => simp only [List.length_cons] at ih ⊢; omega

theorem Stk.lt (lr : LRok T N R NL Ls) {q : Nat} {S : List Nat} {X : List Sy} {F : List (List Int)} {Z : List Int} (h : Stk T N R NL Ls (q :: S) X F Z) : q < Ls.length := by
  cases h with
  | nil => exact lr.pos
  | push _ _ hg _ _ => exact hg

theorem Stk.rule (lr : LRok T N R NL Ls) : ∀ {S' : List Nat} {X : List Sy} {F : List (List Int)} {Z : List Int}, Stk T N R NL Ls S' X F Z → ∀ q S, S' = q :: S → ∀ i, Ls.getD q noS i → i.1 ≤ R.length := by
  intro S' X F Z h
  induction h with
  | nil =>
    intro q S e i hi
    injection e with e1
    subst e1
    rw [lr.zero] at hi
    exact cl_ruleR (fun i h => by rw [h]; exact Nat.le_refl _) i hi
  | push _ _ _ he _ ih =>
    intro q S e i hi
    injection e with e1
    subst e1
    rw [he] at hi
    refine cl_ruleR (fun i h => ?_) i hi
    obtain ⟨j, h1, _, rfl⟩ := h
    exact ih _ _ rfl j h1

theorem SeqDD_snoc {l : List Sy} {s : Sy} {d f Z z : List Int} (h : SeqDD (DerD R) l d Z) (h1 : One R s f z) : SeqDD (DerD R) (l ++ [s]) (d ++ f) (Z ++ z) := by
  refine SeqDD_append h ?_
  obtain ⟨b, v⟩ := s
  rcases h1 with ⟨hb, rfl, rfl⟩ | ⟨hb, h2⟩
  · simp only at hb
    subst hb
    exact ⟨[], rfl, rfl, rfl⟩
  · simp only at hb
    subst hb
    exact ⟨f, [], z, [], by simp, by simp, h2, rfl, rfl⟩

/-- What an item has read lies on the stack, and below it the item with nothing read. -/
theorem Stk.back (lr : LRok T N R NL Ls) {r : Nat} : ∀ (n : Nat) {e : Nat} {S : List Nat} {X : List Sy} {F : List (List Int)} {Z : List Int}, Stk T N R NL Ls (e :: S) X F Z → Ls.getD e noS (r, n) →
    ∃ (q : Nat) (S2 : List Nat) (X2 : List Sy) (F1 F2 : List (List Int)) (Z1 Z2 : List Int), (e :: S).drop n = q :: S2 ∧ F = F1 ++ F2 ∧ F1.length = n ∧ Z = Z2 ++ Z1 ∧ n ≤ (rightF R r).length ∧ SeqDD (DerD R) ((rightF R r).take n) F1.reverse.flatten Z1 ∧ Stk T N R NL Ls (q :: S2) X2 F2 Z2 ∧ Ls.getD q noS (r, 0) := by
  intro n
  induction n with
  | zero =>
    intro e S X F Z h hi
    exact ⟨e, S, X, [], F, [], Z, rfl, rfl, rfl, by simp, Nat.zero_le _, ⟨rfl, rfl⟩, h, hi⟩
  | succ n ih =>
    intro e S X F Z h hi
    cases h with
    | nil =>
      rw [lr.zero] at hi
      have := cl_succ hi
      simp at this
    | push h hs hg he h1 =>
      rename_i S X F Z q s f z
      rw [he] at hi
      obtain ⟨i, hq, ⟨s', hs', hx⟩, hie⟩ := cl_succ hi
      have hi' : i = (r, n) := by
        obtain ⟨a, b⟩ := i
        simp only [Prod.mk.injEq] at hie
        rw [hie.1, Nat.add_right_cancel hie.2]
      subst hi'
      have hrr := Stk.rule lr h _ _ rfl _ hq
      have hok := right_ok lr.fine hrr s' (List.mem_of_getElem? hs')
      have h0 := numF_lt hs
      have hse : s' = s := numF_inj hok hs (by rw [hx]; omega)
      subst hse
      have hlt : n < (rightF R r).length := by
        rcases Nat.lt_or_ge n (rightF R r).length with h | h
        · exact h
        · rw [List.getElem?_eq_none h] at hs'; cases hs'
      obtain ⟨q2, S2, X2, F1, F2, Z1, Z2, a1, a2, a3, a4, _, a5, a6, a7⟩ := ih h hq
      refine ⟨q2, S2, X2, f :: F1, F2, Z1 ++ z, Z2, by simpa using a1, by rw [a2]; rfl, by simp [a3], by rw [a4, List.append_assoc], hlt, ?_, a6, a7⟩
      have ht : (rightF R r).take (n + 1) = (rightF R r).take n ++ [s'] := by
        rw [List.take_succ_eq_append_getElem hlt]
        rw [List.getElem?_eq_getElem hlt] at hs'
        rw [Option.some.inj hs']
      rw [ht]
      have hfl : (f :: F1).reverse.flatten = F1.reverse.flatten ++ f := by simp
      rw [hfl]
      exact SeqDD_snoc a5 h1

/-- Where a rule begins on the stack its name is awaited. -/
theorem Stk.awaits (lr : LRok T N R NL Ls) {q : Nat} {S : List Nat} {X : List Sy} {F : List (List Int)} {Z : List Int} (h : Stk T N R NL Ls (q :: S) X F Z) {r : Nat} (hi : Ls.getD q noS (r, 0)) :
    (r = R.length ∧ S = [] ∧ X = [] ∧ F = [] ∧ Z = [] ∧ q = 0) ∨ (r < R.length ∧ ∃ i, Ls.getD q noS i ∧ i.1 ≤ R.length ∧ (rightF R i.1)[i.2]? = some (false, (R.getD r (0, [])).1)) := by
  cases h with
  | nil =>
    have hz := lr.zero
    rw [hz] at hi
    rcases cl_zero hi with h1 | ⟨h1, i, h2, h3⟩
    · simp only [Prod.mk.injEq] at h1
      exact .inl ⟨h1.1, rfl, rfl, rfl, rfl, rfl⟩
    · refine .inr ⟨h1, i, by rw [hz]; exact h2, cl_ruleR (fun i h => by rw [h]; exact Nat.le_refl _) i h2, h3⟩
  | push h hs hg he h1 =>
    rw [he] at hi
    rcases cl_zero hi with ⟨j, _, _, h2⟩ | ⟨h2, i, h3, h4⟩
    · simp at h2
    · refine .inr ⟨h2, i, by rw [he]; exact h3, cl_ruleR (fun i h' => ?_) i h3, h4⟩
      obtain ⟨j, h5, _, rfl⟩ := h'
      exact Stk.rule lr h _ _ rfl j h5

/-- The rule above has the end alone as lookahead. -/
theorem look_above {beg : List Sy → Nat → Bool} {nul : List Sy → Bool} {k t : Nat} {i : It} (h : LookP T R beg nul NL Ls k i t) (hi : i.1 = R.length) : t = T := by
  induction h with
  | start => rfl
  | on _ _ _ ih => exact ih hi
  | begins _ _ _ h2 _ _ _ => simp only at hi; omega
  | nothing _ _ h2 _ _ _ => simp only at hi; omega

/-- What holds of the parser at each step. -/
structure PInv (T N : Nat) (R : List Ru) (NL : List (List Int)) (Ls : List SetI) (tok : List Int) (c : PC) : Prop where
  ex : ∃ S X F, c.S = S.reverse ∧ c.F = F.reverse ∧ Stk T N R NL Ls S X F (tok.take c.pos)
  pos : c.pos ≤ tok.length

theorem pinv_start : PInv T N R NL Ls tok ⟨[0], [], 0, 0⟩ := ⟨⟨[0], [], [], rfl, rfl, by simpa using Stk.nil⟩, Nat.zero_le _⟩

theorem PInv.top {c : PC} {S : List Nat} {q : Nat} (h : c.S = (q :: S).reverse) : topS c = q := by
  unfold topS
  rw [h]
  simp [List.getD]

open Classical in
theorem rules_done {k t : Nat} {q : Int} (h : q ∈ (cellP T N R NL Ls k t).2.1) : ∃ m : Nat, q = m ∧ m < R.length ∧ DoneP T N R NL Ls k t m := by
  unfold cellP at h
  simp only [List.mem_map, List.mem_filter, List.mem_range, decide_eq_true_eq] at h
  obtain ⟨m, ⟨h1, h2⟩, rfl⟩ := h
  exact ⟨m, rfl, h1, h2⟩

/-- What is told to be done is a derivation of the tokens. -/
theorem PInv.fin (lr : LRok T N R NL Ls) (htok : ∀ t ∈ tok, 0 ≤ t ∧ t < (T : Int)) {c : PC} (h : PInv T N R NL Ls tok c) {d : List Int} (hs : stepP T R (cellP T N R NL Ls) (goP T NL) tok c = .fin d) : DerD R 0 d tok ∧ c.F = [d] := by
  obtain ⟨⟨S, X, F, h1, h2, h3⟩, hp⟩ := h
  cases S with
  | nil => cases h3
  | cons e S =>
  unfold stepP at hs
  rw [PInv.top h1] at hs
  unfold stepC at hs
  split at hs
  · rename_i hend
    have hdn : DoneP T N R NL Ls e (nextT T tok c.pos) R.length := by
      unfold cellP at hend
      simpa using hend
    have hr : rightF R R.length = [(false, 0)] := by simp [rightF]
    have hd1 := hdn.1
    rw [hr] at hd1
    obtain ⟨q, S2, X2, F1, F2, Z1, Z2, a1, a2, a3, a4, _, a5, a6, a7⟩ := h3.back lr 1 hd1
    rcases a6.awaits lr a7 with ⟨_, _, _, rfl, rfl, _⟩ | ⟨hlt, _⟩
    · simp only [List.append_nil, List.nil_append] at a2 a4
      subst a2
      obtain ⟨f, rfl⟩ := List.length_eq_one_iff.1 a3
      rw [hr] at a5
      simp only [List.take_succ_cons, List.take_zero, List.reverse_singleton, List.flatten_cons, List.flatten_nil, List.append_nil] at a5
      obtain ⟨d1, d2, Y1, Y2, b1, b2, b3, rfl, rfl⟩ := a5
      simp only [List.append_nil] at b1 b2
      subst b1
      subst b2
      have ht := look_above hdn.2 rfl
      have hpl : tok.length ≤ c.pos := by
        rcases Nat.lt_or_ge c.pos tok.length with h | h
        · exfalso
          unfold nextT at ht
          rw [if_pos h] at ht
          have e1 : tok.getD c.pos 0 = tok[c.pos] := by simp [List.getD, h]
          have := htok tok[c.pos] (List.getElem_mem h)
          rw [e1] at ht
          omega
        · exact h
      rw [List.take_of_length_le hpl] at a4
      rw [h2] at hs
      simp only [List.reverse_singleton] at hs
      injection hs with hs
      simp only [List.getD, List.getElem?_cons_zero, Option.getD_some] at hs
      rw [← hs, a4, h2]
      exact ⟨b3, rfl⟩
    · exact absurd hlt (Nat.lt_irrefl _)
  · split at hs
    · cases hs
    · split at hs <;> cases hs

theorem PInv.go (lr : LRok T N R NL Ls) (htok : ∀ t ∈ tok, 0 ≤ t ∧ t < (T : Int)) {c c' : PC} (h : PInv T N R NL Ls tok c) (hs : stepP T R (cellP T N R NL Ls) (goP T NL) tok c = .go c') : PInv T N R NL Ls tok c' := by
  obtain ⟨⟨S, X, F, h1, h2, h3⟩, hp⟩ := h
  cases S with
  | nil => cases h3
  | cons e S =>
  have he := h3.lt lr
  unfold stepP at hs
  rw [PInv.top h1] at hs
  unfold stepC at hs
  split at hs
  · cases hs
  · split at hs
    · rename_i hsh
      injection hs with hs
      have htT : nextT T tok c.pos < T := by
        rcases Nat.lt_or_ge (nextT T tok c.pos) T with h | h
        · exact h
        · exfalso
          unfold cellP at hsh
          simp only [show ¬ nextT T tok c.pos < T by omega, if_false] at hsh
          omega
      have hpl : c.pos < tok.length := by
        rcases Nat.lt_or_ge c.pos tok.length with h | h
        · exact h
        · exfalso
          unfold nextT at htT
          rw [if_neg (by omega)] at htT
          omega
      have hc1 : (cellP T N R NL Ls e (nextT T tok c.pos)).1 = (NL.getD e []).getD (nextT T tok c.pos) 0 := by unfold cellP; simp only [htT, if_true]
      rw [hc1] at hs hsh
      have hgo := lr.go e he (nextT T tok c.pos) (by omega)
      have hex : ∃ i, Ls.getD e noS i ∧ nextIs T R i (nextT T tok c.pos) := Classical.byContradiction fun hn => by
        have := hgo.none hn
        omega
      obtain ⟨n, g1, g2, g3⟩ := hgo.some hex
      obtain ⟨i, hi, s, hs1, hs2⟩ := hex
      have hok := right_ok lr.fine (Stk.rule lr h3 _ _ rfl i hi) s (List.mem_of_getElem? hs1)
      have hte : ((nextT T tok c.pos : Nat) : Int) = tok.getD c.pos 0 := by
        unfold nextT
        rw [if_pos hpl]
        have e1 : tok.getD c.pos 0 = tok[c.pos] := by simp [List.getD, hpl]
        have := htok tok[c.pos] (List.getElem_mem hpl)
        rw [e1]
        omega
      have hst : s = (true, tok.getD c.pos 0) := by
        obtain ⟨b, v⟩ := s
        cases b with
        | true => simp only [numF, if_true] at hs2; rw [hs2, hte]
        | false =>
          simp only [numF, SyOk, Bool.false_eq_true, if_false] at hs2 hok
          omega
      subst hst
      have hnum : (numF T (true, tok.getD c.pos 0)).toNat = nextT T tok c.pos := by rw [hs2]; simp
      rw [g1] at hs
      subst hs
      refine ⟨⟨n :: e :: S, (true, tok.getD c.pos 0) :: X, [] :: F, by simp [h1], by simp [h2], ?_⟩, hpl⟩
      have := Stk.push h3 hok g2 (by rw [hnum]; exact g3) (f := []) (z := [tok.getD c.pos 0]) (.inl ⟨rfl, rfl, rfl⟩)
      have e2 : tok.take (c.pos + 1) = tok.take c.pos ++ [tok.getD c.pos 0] := by
        rw [List.take_succ_eq_append_getElem hpl]
        simp [List.getD, hpl]
      simp only
      rw [e2]
      exact this
    · split at hs
      · cases hs
      · rename_i q0 rest hrl
        injection hs with hs
        obtain ⟨m, rfl, hm, hdn⟩ := rules_done (q := q0) (by rw [hrl]; simp)
        have hd1 := hdn.1
        obtain ⟨q, S2, X2, F1, F2, Z1, Z2, a1, a2, a3, a4, _, a5, a6, a7⟩ := h3.back lr _ hd1
        rw [List.take_length, right_rule hm] at a5
        have hder := DerD_step hm a5
        rcases a6.awaits lr a7 with ⟨h0, _⟩ | ⟨_, i, hi, hir, hin⟩
        · omega
        · have hq := a6.lt lr
          obtain ⟨g, g1, g2, g3, _⟩ := lr.goes hq hi hir hin
          have hok := right_ok lr.fine hir _ (List.mem_of_getElem? hin)
          have hlens := h3.lens
          have hfl : F.length = F1.length + F2.length := by rw [a2]; simp
          have hrl' : (R.getD m (0, [])).2.length = F1.length := by rw [a3, right_rule hm]
          have hSd : e :: S = (e :: S).take F1.length ++ (q :: S2) := by
            rw [a3, ← a1, List.take_append_drop]
          have hl2 := a6.lens
          unfold redP at hs
          simp only [Int.toNat_natCast] at hs
          have hk : c.F.length - (R.getD m (0, [])).2.length = F2.length := by rw [h2, List.length_reverse, hrl', hfl]; omega
          rw [hk] at hs
          have hrev : c.S = (q :: S2).reverse ++ ((e :: S).take F1.length).reverse := by
            rw [h1]
            conv => lhs; rw [hSd]
            rw [List.reverse_append]
          have hrevF : c.F = F2.reverse ++ F1.reverse := by rw [h2, a2, List.reverse_append]
          have hlq : (q :: S2).reverse.length = F2.length + 1 := by rw [List.length_reverse]; exact hl2.1
          have t1 : c.S.take (F2.length + 1) = (q :: S2).reverse := by rw [hrev, ← hlq, List.take_left]
          have t2 : c.S.getD F2.length 0 = q := by
            rw [hrev]
            have hlS : S2.reverse.length = F2.length := by
              have := hl2.1
              simp only [List.length_cons, List.length_reverse] at this ⊢
              omega
            simp only [List.reverse_cons, List.append_assoc]
            rw [← hlS]
            simp [List.getD]
          have t3 : (goP T NL q (R.getD m (0, [])).1.toNat).toNat = g := by
            unfold goP
            have hg := g1
            unfold GoesTo at hg
            have h0 : 0 ≤ (R.getD m (0, [])).1 := (lr.fine.left (R.getD m (0, [])) (by simp [List.getD, hm])).1
            have e1 : (numF T (false, (R.getD m (0, [])).1)).toNat = T + (R.getD m (0, [])).1.toNat := by simp only [numF, Bool.false_eq_true, if_false]; omega
            rw [e1] at hg
            rw [hg]
            simp
          have t4 : c.F.take F2.length = F2.reverse := by rw [hrevF, ← List.length_reverse, List.take_left]
          have t5 : c.F.drop F2.length = F1.reverse := by rw [hrevF, ← List.length_reverse, List.drop_left]
          rw [t1, t2, t3, t4, t5] at hs
          subst hs
          refine ⟨⟨g :: q :: S2, (false, (R.getD m (0, [])).1) :: X2, ((m : Int) :: F1.reverse.flatten) :: F2, by simp, by simp, ?_⟩, hp⟩
          simp only
          rw [a4]
          exact Stk.push a6 hok g2 g3 (.inr ⟨rfl, hder⟩)
end

end Go.Proofs.Ytobegekmgoiopaa
