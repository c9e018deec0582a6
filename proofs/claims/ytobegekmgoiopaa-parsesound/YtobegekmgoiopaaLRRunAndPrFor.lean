import Derived.Test.YtobegekmgoiopaaLRMathAndLRSound
import Derived.Test.YtobegekmgoiopaaBuildMathAndMayFine
import Derived.Test.YtobegekmgoiopaaTkOfAndFirstMath
import Derived.Test.YtobegekmgoiopaaMayGAndSetsPut
import Derived.Deep.DeepCutAuto
/- Plain: the parser as a function, of at most so many rules; what it answers (G1 to G3). No program. -/
namespace Go.Proofs.Ytobegekmgoiopaa

inductive PRes where
  | done (d : List Int)
  | none (n : Nat)
  | size

def runP (T : Nat) (R : List Ru) (ce : Nat → Nat → Ce) (go : Nat → Nat → Int) (tok : List Int) : Nat → PC → PRes
  | 0, _ => .size
  | f + 1, c => if c.many ≤ 400 then (match stepP T R ce go tok c with | .go c' => runP T R ce go tok f c' | .fin d => .done d | .no n => .none n) else .size
def pc0 : PC := ⟨[0], [], 0, 0⟩
/-- G1, G2, where nothing is wrong, and nothing clashes. -/
noncomputable def parseN (T N : Nat) (R : List Ru) (NL : List (List Int)) (Ls : List SetI) (tok : List Int) : PRes := runP T R (cellP T N R NL Ls) (goP T NL) tok (tok.length + 402) pc0

section
variable {T N : Nat} {R : List Ru} {NL : List (List Int)} {Ls : List SetI} {tok : List Int} {ce : Nat → Nat → Ce} {go : Nat → Nat → Int}

theorem step_sum {c c' : PC} (h : stepP T R ce go tok c = .go c') : c'.pos + c'.many = c.pos + c.many + 1 ∧ c.many ≤ c'.many ∧ c.pos ≤ c'.pos := by
  unfold stepP stepC at h
  split at h
  · cases h
  · split at h
    · injection h with h; subst h; simp only; omega
    · split at h
      · cases h
      · injection h with h; subst h; unfold redP; simp only; omega

theorem run_step {c c' : PC} (h : stepP T R ce go tok c = .go c') (hm : c.many ≤ 400) (f : Nat) : runP T R ce go tok (f + 1) c = runP T R ce go tok f c' := by
  rw [runP, if_pos hm]
  simp only [h]

theorem runs_le {c c' : PC} (h : Runs T R ce go tok c c') : c.many ≤ c'.many ∧ c.pos ≤ c'.pos := by
  induction h with
  | refl => exact ⟨Nat.le_refl _, Nat.le_refl _⟩
  | step h _ ih => have := step_sum h; omega

theorem run_runs {c c' : PC} (h : Runs T R ce go tok c c') : c'.many ≤ 400 → ∀ f, runP T R ce go tok (f + (c'.pos + c'.many - (c.pos + c.many))) c = runP T R ce go tok f c' := by
  induction h with
  | refl => intro _ f; simp
  | step h k ih =>
    intro hm f
    rename_i a b c
    have h1 := step_sum h
    have h2 := runs_le k
    have e : f + (c.pos + c.many - (a.pos + a.many)) = f + (c.pos + c.many - (b.pos + b.many)) + 1 := by omega
    rw [e, run_step h (by omega), ih hm f]

theorem run_size {c c' : PC} (h : Runs T R ce go tok c c') (hb : 400 < c'.many) : ∀ f, runP T R ce go tok f c = .size := by
  induction h with
  | refl =>
    intro f
    cases f with
    | zero => rfl
    | succ f => rw [runP, if_neg (by omega)]
  | step h k ih =>
    intro f
    rename_i a b c
    cases f with
    | zero => rfl
    | succ f =>
      by_cases hm : a.many ≤ 400
      · rw [run_step h hm]; exact ih hb f
      · rw [runP, if_neg hm]

/-- So many rules are reduced as stand in what was found. -/
def Sum (c : PC) : Prop := (c.F.map List.length).sum = c.many

theorem len_flatten (L : List (List Int)) : L.flatten.length = (L.map List.length).sum := by
  induction L with
  | nil => rfl
  | cons a L ih => simp

theorem sum_step {c c' : PC} (h : stepP T R ce go tok c = .go c') (hs : Sum c) : Sum c' := by
  unfold Sum at hs ⊢
  unfold stepP stepC at h
  split at h
  · cases h
  · split at h
    · injection h with h; subst h; simpa using hs
    · split at h
      · cases h
      · rename_i q _ _
        injection h with h
        subst h
        unfold redP
        simp only [List.map_append, List.map_cons, List.map_nil, List.sum_append, List.sum_cons, List.sum_nil, List.length_cons, len_flatten]
        have e : (c.F.map List.length).sum = ((c.F.take (c.F.length - (R.getD q.toNat (0, [])).2.length)).map List.length).sum + ((c.F.drop (c.F.length - (R.getD q.toNat (0, [])).2.length)).map List.length).sum := by
          rw [← List.sum_append, ← List.map_append, List.take_append_drop]
        omega

theorem run_sound (lr : LRok T N R NL Ls) (htok : ∀ t ∈ tok, 0 ≤ t ∧ t < (T : Int)) : ∀ (f : Nat) (c : PC), PInv T N R NL Ls tok c → Sum c →
    (∀ d, runP T R (cellP T N R NL Ls) (goP T NL) tok f c = .done d → DerD R 0 d tok ∧ d.length ≤ 400) ∧ ∀ n, runP T R (cellP T N R NL Ls) (goP T NL) tok f c = .none n → n ≤ tok.length := by
  intro f
  induction f with
  | zero => intro c _ _; exact ⟨fun d h => (by cases h), fun n h => (by cases h)⟩
  | succ f ih =>
    intro c hP hS
    rw [runP]
    by_cases hm : c.many ≤ 400
    · rw [if_pos hm]
      cases hst : stepP T R (cellP T N R NL Ls) (goP T NL) tok c with
      | go c' => exact ih c' (hP.go lr htok hst) (sum_step hst hS)
      | fin d =>
        obtain ⟨h1, h2⟩ := hP.fin lr htok hst
        refine ⟨fun d' h => ?_, fun n h => by cases h⟩
        injection h with h
        subst h
        unfold Sum at hS
        rw [h2] at hS
        simp only [List.map_cons, List.map_nil, List.sum_cons, List.sum_nil] at hS
        exact ⟨h1, by omega⟩
      | no n =>
        refine ⟨fun d' h => (by cases h), fun n' h => ?_⟩
        injection h with h
        subst h
        unfold stepP stepC at hst
        split at hst
        · cases hst
        · split at hst
          · cases hst
          · split at hst
            · injection hst with hst; rw [← hst]; exact hP.pos
            · cases hst
    · rw [if_neg hm]
      exact ⟨fun d h => (by cases h), fun n h => (by cases h)⟩

/-- G3, and its other side: where each cell says but one thing. -/
theorem parse_finds (lr : LRok T N R NL Ls) (hone : ∀ k, k < Ls.length → ∀ t, t ≤ T → oneB (cellP T N R NL Ls k t) = true) (htok : ∀ t ∈ tok, 0 ≤ t ∧ t < (T : Int)) {d : List Int} (h : DerD R 0 d tok) :
    (d.length ≤ 400 → parseN T N R NL Ls tok = .done d) ∧ (400 < d.length → parseN T N R NL Ls tok = .size) := by
  obtain ⟨g, h1, h2⟩ := lr_finds lr hone htok h
  refine ⟨fun hl => ?_, fun hl => run_size h1 hl _⟩
  unfold parseN
  have := run_runs h1 hl (402 - d.length)
  simp only [Nat.add_zero, Nat.sub_zero] at this
  have e : 402 - d.length + (tok.length + d.length) = tok.length + 402 := by omega
  rw [e] at this
  unfold pc0
  rw [this, show 402 - d.length = (401 - d.length) + 1 by omega, runP, if_pos hl]
  simp only [h2]

theorem parse_sound (lr : LRok T N R NL Ls) (hone : ∀ k, k < Ls.length → ∀ t, t ≤ T → oneB (cellP T N R NL Ls k t) = true) (htok : ∀ t ∈ tok, 0 ≤ t ∧ t < (T : Int)) :
    (∀ d, parseN T N R NL Ls tok = .done d → DerD R 0 d tok ∧ d.length ≤ 400) ∧ ∀ n, parseN T N R NL Ls tok = .none n → n ≤ tok.length ∧ ¬ Der R 0 tok := by
  obtain ⟨h1, h2⟩ := run_sound lr htok (tok.length + 402) pc0 pinv_start rfl
  refine ⟨h1, fun n hn => ⟨h2 n hn, fun hd => ?_⟩⟩
  obtain ⟨d, hd⟩ := Der_iff.1 hd
  obtain ⟨h3, h4⟩ := parse_finds lr hone htok hd
  rcases Nat.lt_or_ge 400 d.length with hl | hl
  · rw [h4 hl] at hn; cases hn
  · rw [h3 hl] at hn; cases hn
end

end Go.Proofs.Ytobegekmgoiopaa

/- Plain: what a walk through the parser leans on: what lies on the stack; the table's lists. No program. -/
namespace Go.Proofs.Ytobegekmgoiopaa

section
variable {T N : Nat} {R : List Ru} {NL : List (List Int)} {Ls : List SetI} {tok : List Int}

theorem Stk.all_lt (lr : LRok T N R NL Ls) {S : List Nat} {X : List Sy} {F : List (List Int)} {Z : List Int} (h : Stk T N R NL Ls S X F Z) : ∀ s ∈ S, s < Ls.length := by
  induction h with
  | nil => intro s hs; simp only [List.mem_singleton] at hs; rw [hs]; exact lr.pos
  | push _ _ hg _ _ ih =>
    intro s hs
    rcases List.mem_cons.1 hs with rfl | hs
    · exact hg
    · exact ih s hs

theorem PInv.shape (lr : LRok T N R NL Ls) {c : PC} (h : PInv T N R NL Ls tok c) : c.S.length = c.F.length + 1 ∧ topS c < Ls.length ∧ ∀ s ∈ c.S, s < Ls.length := by
  obtain ⟨⟨S, X, F, h1, h2, h3⟩, _⟩ := h
  have hl := h3.lens
  have ha := h3.all_lt lr
  cases S with
  | nil => cases h3
  | cons e S =>
    refine ⟨by rw [h1, h2, List.length_reverse, List.length_reverse]; exact hl.1, by rw [PInv.top h1]; exact ha e (by simp), fun s hs => ha s ?_⟩
    rw [h1] at hs
    exact List.mem_reverse.1 hs

/-- What a rule that is reduced finds on the stack. -/
theorem PInv.red (lr : LRok T N R NL Ls) {c : PC} (h : PInv T N R NL Ls tok c) {t m : Nat} (hm : (m : Int) ∈ (cellP T N R NL Ls (topS c) t).2.1) :
    m < R.length ∧ (R.getD m (0, [])).2.length ≤ c.F.length ∧ c.S.getD (c.F.length - (R.getD m (0, [])).2.length) 0 < Ls.length ∧ ∃ g : Nat, goP T NL (c.S.getD (c.F.length - (R.getD m (0, [])).2.length) 0) (R.getD m (0, [])).1.toNat = (g : Int) := by
  obtain ⟨⟨S, X, F, h1, h2, h3⟩, _⟩ := h
  cases S with
  | nil => cases h3
  | cons e S =>
  rw [PInv.top h1] at hm
  obtain ⟨m', hme, hmR, hdn⟩ := rules_done hm
  have : m = m' := by omega
  subst this
  obtain ⟨q, S2, X2, F1, F2, Z1, Z2, a1, a2, a3, a4, _, a5, a6, a7⟩ := h3.back lr _ hdn.1
  have hfl : F.length = F1.length + F2.length := by rw [a2]; simp
  have hrl : (R.getD m (0, [])).2.length = F1.length := by rw [a3, right_rule hmR]
  have hk : c.F.length - (R.getD m (0, [])).2.length = F2.length := by rw [h2, List.length_reverse, hrl, hfl]; omega
  have hl2 := a6.lens
  have hSd : e :: S = (e :: S).take F1.length ++ (q :: S2) := by rw [a3, ← a1, List.take_append_drop]
  have hrev : c.S = (q :: S2).reverse ++ ((e :: S).take F1.length).reverse := by
    rw [h1]
    conv => lhs; rw [hSd]
    rw [List.reverse_append]
  have t2 : c.S.getD F2.length 0 = q := by
    rw [hrev]
    have hlS : S2.reverse.length = F2.length := by
      have := hl2.1
      simp only [List.length_cons, List.length_reverse] at this ⊢
      omega
    simp only [List.reverse_cons, List.append_assoc]
    rw [← hlS]
    simp [List.getD]
  rcases a6.awaits lr a7 with ⟨h0, _⟩ | ⟨_, i, hi, hir, hin⟩
  · omega
  · have hq := a6.lt lr
    obtain ⟨g, g1, g2, g3, _⟩ := lr.goes hq hi hir hin
    refine ⟨hmR, by rw [h2, List.length_reverse, hrl, hfl]; omega, by rw [hk, t2]; exact hq, g, ?_⟩
    rw [hk, t2]
    unfold goP
    have hg := g1
    unfold GoesTo at hg
    have h0 : 0 ≤ (R.getD m (0, [])).1 := (lr.fine.left (R.getD m (0, [])) (by simp [List.getD, hmR])).1
    have e1 : (numF T (false, (R.getD m (0, [])).1)).toNat = T + (R.getD m (0, [])).1.toNat := by simp only [numF, Bool.false_eq_true, if_false]; omega
    rw [e1] at hg
    exact hg
end

/-! ### The table's lists -/

section
variable {T N : Nat} {R : List Ru} {K : Nat}

theorem tabC_row {k : Nat} (hk : k < K) : (tabC T N R K).getD k [] = rowP T N R (allN T N R K).1 (allN T N R K).2 k := by
  unfold tabC
  simp [List.getD, hk]
theorem tabC_len : (tabC T N R K).length = K := by simp [tabC]
theorem rowP_len {NL : List (List Int)} {Ls : List SetI} {k : Nat} : (rowP T N R NL Ls k).length = T + 1 := by simp [rowP]
theorem rowP_at {NL : List (List Int)} {Ls : List SetI} {k t : Nat} (ht : t ≤ T) : (rowP T N R NL Ls k).getD t (0, [], false) = cellP T N R NL Ls k t := by
  unfold rowP
  simp [List.getD, show t < T + 1 by omega]
theorem tabG_row {k : Nat} (hk : k < K) : (tabG T N R K).getD k [] = ((allN T N R K).1.getD k []).drop T := by
  unfold tabG
  simp [List.getD, hk]
theorem tabG_len : (tabG T N R K).length = K := by simp [tabG]
theorem tabG_at {k n : Nat} (hk : k < K) : ((tabG T N R K).getD k []).getD n 0 = goP T (allN T N R K).1 k n := by
  rw [tabG_row hk]
  simp [goP, List.getD, List.getElem?_drop]

/-- Where nothing clashes each cell says but one thing. -/
theorem clash_one (h : clashN (tabC T N R K) = 0) : ∀ k, k < K → ∀ t, t ≤ T → oneB (cellP T N R (allN T N R K).1 (allN T N R K).2 k t) = true := by
  intro k hk t ht
  unfold clashN at h
  have h1 : clashR ((tabC T N R K).getD k []) = 0 := by
    have hm : clashR ((tabC T N R K).getD k []) ∈ (tabC T N R K).map clashR := List.mem_map.2 ⟨_, by simp [List.getD, tabC_len, hk], rfl⟩
    exact (List.sum_eq_zero_iff_forall_eq_nat.1 h) _ hm
  rw [tabC_row hk] at h1
  unfold clashR at h1
  rw [List.length_eq_zero_iff, List.filter_eq_nil_iff] at h1
  have h2 := h1 (cellP T N R (allN T N R K).1 (allN T N R K).2 k t) (by unfold rowP; exact List.mem_map.2 ⟨t, by simp; omega, rfl⟩)
  simpa using h2
theorem one_clash (h : ∀ k, k < K → ∀ t, t ≤ T → oneB (cellP T N R (allN T N R K).1 (allN T N R K).2 k t) = true) : clashN (tabC T N R K) = 0 := by
  unfold clashN
  rw [List.sum_eq_zero_iff_forall_eq_nat]
  intro x hx
  obtain ⟨row, hrow, rfl⟩ := List.mem_map.1 hx
  unfold tabC at hrow
  obtain ⟨k, hk, rfl⟩ := List.mem_map.1 hrow
  unfold clashR
  rw [List.length_eq_zero_iff, List.filter_eq_nil_iff]
  intro c hc
  unfold rowP at hc
  obtain ⟨t, ht, rfl⟩ := List.mem_map.1 hc
  rw [h k (by simpa using hk) t (by simp at ht; omega)]
  simp

/-- There are just so many states: one number. -/
theorem whole_one {K' : Nat} (h : Whole T N R K) (h' : Whole T N R K') : K = K' := by
  rcases Nat.lt_trichotomy K K' with hlt | heq | hlt
  · have := whole_reach h' K hlt
    unfold Whole at h
    omega
  · exact heq
  · have := whole_reach h K' hlt
    unfold Whole at h'
    omega
theorem whole_pos (h : Whole T N R K) : 0 < K := by
  obtain ⟨E, hE⟩ := all_pre (T := T) (N := N) (R := R) 0 K (Nat.zero_le _)
  unfold Whole at h
  rw [hE] at h
  have : (allN T N R 0).2.length = 1 := rfl
  rw [List.length_append, this] at h
  omega
end

end Go.Proofs.Ytobegekmgoiopaa

/- What is wrong with tokens; what is derived is made of terms. No walk. -/
namespace Go.Proofs.Ytobegekmgoiopaa

/-- All tokens are terms. -/
def inB (T : Int) (tok : List Int) : Bool := tok.all fun t => decide (0 ≤ t) && decide (t < T)
/-- E1: the first that applies. -/
def wrongE (T N : Int) (R : List Ru) (tok : List Int) : Int := if mayB T N R = false then 2 else if 30 < tok.length then 1 else if inB T tok = false then 3 else 0

/-- Of a grammar that may be. -/
theorem may_FineR {T N : Nat} {R : List Ru} (h : mayB T N R = true) : Fine T N R := by
  obtain ⟨_, h1, _, _, h5⟩ := may_fine h
  have mem : ∀ r ∈ R, 0 ≤ r.1 ∧ r.1 < (N : Int) ∧ ∀ s ∈ r.2, 0 ≤ s.2 ∧ s.2 < if s.1 then (T : Int) else (N : Int) := fun r hr => by
    obtain ⟨q, hq, rfl⟩ := List.getElem_of_mem hr
    have e : R.getD q (0, []) = R[q] := by simp [List.getD, hq]
    rw [← e]
    exact ⟨(h5 q hq).1, (h5 q hq).2.1, (h5 q hq).2.2.2⟩
  refine ⟨fun r hr => ⟨(mem r hr).1, (mem r hr).2.1⟩, fun r hr s hs hb => ?_, fun r hr s hs hb => ?_, h1⟩
  · have := (mem r hr).2.2 s hs; rw [hb] at this; simpa using this
  · have := (mem r hr).2.2 s hs; rw [hb] at this; simpa using this

end Go.Proofs.Ytobegekmgoiopaa

/- Plain: what a parse answers (G1, G2). No program. -/
namespace Go.Proofs.Ytobegekmgoiopaa

def ansP : PRes → List Int × Int × Int
  | .done d => (d, -1, 0)
  | .none n => ([], n, 0)
  | .size => ([], 0, 1)

/-- G1, G2: what is answered. -/
def ParseIs (T N : Nat) (R : List Ru) (tok : List Int) (a : List Int × Int × Int) : Prop :=
  (More T N R 150 ∧ a = ([], 0, 1)) ∨ ∃ K, Whole T N R K ∧ K ≤ 150 ∧
    ((wrongE T N R tok ≠ 0 ∧ a = ([], 0, wrongE T N R tok)) ∨ (wrongE T N R tok = 0 ∧ 0 < clashN (tabC T N R K) ∧ a = ([], 0, 4)) ∨
     (wrongE T N R tok = 0 ∧ clashN (tabC T N R K) = 0 ∧ a = ansP (parseN T N R (allN T N R K).1 (allN T N R K).2 tok)))

theorem ParseIs.one {T N : Nat} {R : List Ru} {tok : List Int} {a b : List Int × Int × Int} (h : ParseIs T N R tok a) (k : ParseIs T N R tok b) : a = b := by
  rcases h with ⟨h1, rfl⟩ | ⟨K, h1, h2, h3⟩
  · rcases k with ⟨_, rfl⟩ | ⟨K', k1, k2, _⟩
    · rfl
    · exact absurd h1 (whole_or k1 k2)
  · rcases k with ⟨k1, _⟩ | ⟨K', k1, k2, k3⟩
    · exact absurd k1 (whole_or h1 h2)
    · have := whole_one h1 k1
      subst this
      rcases h3 with ⟨h3, rfl⟩ | ⟨h3, h4, rfl⟩ | ⟨h3, h4, rfl⟩ <;> rcases k3 with ⟨k3, rfl⟩ | ⟨k3, k4, rfl⟩ | ⟨k3, k4, rfl⟩
      · rfl
      · exact absurd k3 h3
      · exact absurd k3 h3
      · exact absurd h3 k3
      · rfl
      · omega
      · exact absurd h3 k3
      · omega
      · rfl

theorem goto_row {T N : Nat} {R : List Ru} {K qs : Nat} (h : Whole T N R K) (hq : qs < K) (hN : 0 < N) : ((tabG T N R K).getD qs []).length = N := by
  rw [tabG_row hq, List.length_drop, (all_go (whole_reach h) qs hq 0 (by omega)).1]
  omega

/-- Where there are no more than so many states, there are just so many. -/
theorem not_more {T N : Nat} {R : List Ru} {m : Nat} (hm : 0 < m) (h : ¬ More T N R m) : ∃ K, Whole T N R K ∧ K ≤ m := by
  have f0 : (allN T N R 0).2.length = 1 := rfl
  have whole : ∀ k, 0 < k → k ≤ m → k - 1 < (allN T N R (k - 1)).2.length → ¬ k < (allN T N R k).2.length → ∃ K, Whole T N R K ∧ K ≤ m := fun k hk hkm h1 h2 => by
    have h3 := all_le (T := T) (N := N) (R := R) (show k - 1 ≤ k by omega)
    exact ⟨k, by unfold Whole; omega, hkm⟩
  have step : ∀ k, k ≤ m → (∀ j, j < k → j < (allN T N R j).2.length) ∨ ∃ K, Whole T N R K ∧ K ≤ m := by
    intro k
    induction k with
    | zero => exact fun _ => .inl fun j hj => absurd hj (Nat.not_lt_zero _)
    | succ k ih =>
      intro hk
      rcases ih (by omega) with h1 | h1
      · by_cases hlt : k < (allN T N R k).2.length
        · refine .inl fun j hj => ?_
          rcases Nat.lt_succ_iff_lt_or_eq.1 hj with hj | rfl
          · exact h1 j hj
          · exact hlt
        · have hk0 : 0 < k := by
            rcases Nat.eq_zero_or_pos k with h0 | h0
            · rw [h0] at hlt; omega
            · exact h0
          exact .inr (whole k hk0 (by omega) (h1 (k - 1) (by omega)) hlt)
      · exact .inr h1
  rcases step m (Nat.le_refl _) with h1 | h1
  · by_cases hlt : m < (allN T N R m).2.length
    · exfalso
      refine h ⟨m - 1, T + N, h1 (m - 1) (by omega), Nat.le_refl _, ?_⟩
      have e : allN T N R (m - 1 + 1) = allS T N R (m - 1) (allN T N R (m - 1)) := rfl
      rw [show m - 1 + 1 = m by omega] at e
      rw [e, allS] at hlt
      exact hlt
    · exact whole m hm (Nat.le_refl _) (h1 (m - 1) (by omega)) hlt
  · exact h1

theorem tok_of {T : Nat} {tok : List Int} (hin : inB T tok = true) : ∀ t ∈ tok, 0 ≤ t ∧ t < (T : Int) := fun t ht => by
  unfold inB at hin
  simpa using List.all_eq_true.1 hin t ht
theorem right_of {T N : Nat} {R : List Ru} {tok : List Int} (hm : mayB T N R = true) (h : wrongE T N R tok = 0) : tok.length ≤ 30 ∧ inB T tok = true := by
  unfold wrongE at h
  rw [hm] at h
  simp only [Bool.true_eq_false, if_false] at h
  split at h
  · cases h
  · split at h
    · cases h
    · rename_i h1 h2
      exact ⟨by omega, by simpa using h2⟩

/-- What is answered is not long. -/
theorem ParseIs.len {T N : Nat} {R : List Ru} {tok : List Int} {D : List Int} {a x : Int} (hm : mayB T N R = true) (h : ParseIs T N R tok (D, a, x)) : D.length ≤ 400 := by
  rcases h with ⟨_, h2⟩ | ⟨K, h1, _, ⟨_, h2⟩ | ⟨_, _, h2⟩ | ⟨h3, h4, h2⟩⟩
  · cases h2; simp
  · cases h2; simp
  · cases h2; simp
  · have hf := may_FineR hm
    have hs := (parse_sound (lr_of hf h1 (whole_pos h1)) (by rw [show (allN T N R K).2.length = K from h1]; exact clash_one h4) (tok_of (right_of hm h3).2)).1
    cases he : parseN T N R (allN T N R K).1 (allN T N R K).2 tok with
    | done d => rw [he] at h2; cases h2; exact (hs _ he).2
    | none n => rw [he] at h2; cases h2; simp
    | size => rw [he] at h2; cases h2; simp

end Go.Proofs.Ytobegekmgoiopaa

/- The contracts of package parse's tableFor (with slices.ContainsFunc, slices.IndexFunc). -/
namespace Go.Proofs.Ytobegekmgoiopaa
open Go.RowKit

set_option maxRecDepth 100000 in
theorem pr_isWrong {w : World} {gb : Nat} {T x : Int} (hg : w.cell? ⟨gb, 0, none⟩ = some (.int .i64 T)) :
    Calls Try.prog 16 #[.int .i64 x, .pointer (some ⟨gb, 0, none⟩)] w fun e w' => e = .returned (.bool (!(decide (0 ≤ x) && decide (x < T)))) ∧ Below w.heap.size w w' := by
  by_cases h0 : x < 0
  · have e : (!(decide (0 ≤ x) && decide (x < T))) = true := by simp; omega
    rw [e]
    clear e
    go_enter Try.func16, Try.ntmps16
    go_wp2_with fail
    go_ret
    exact ⟨rfl, Below.refl _ _⟩
  · have hd : decide (x < 0) = false := decide_eq_false h0
    by_cases h1 : T ≤ x
    · have e : (!(decide (0 ≤ x) && decide (x < T))) = true := by simp; omega
      rw [e]
      clear e
      go_enter Try.func16, Try.ntmps16
      go_wp2_with fail
      go_ret
      exact ⟨rfl, Below.refl _ _⟩
    · have e : (!(decide (0 ≤ x) && decide (x < T))) = false := by simp; omega
      have hd1 : decide (T ≤ x) = false := decide_eq_false h1
      rw [e]
      clear e
      go_enter Try.func16, Try.ntmps16
      go_wp2_with fail
      go_ret
      exact ⟨rfl, Below.refl _ _⟩

set_option maxRecDepth 100000 in
set_option maxHeartbeats 1600000 in
theorem pr_index {w : World} {gb lim : Nat} {T : Int} {tv : Value} {tok : List Int} (hg : w.cell? ⟨gb, 0, none⟩ = some (.int .i64 T)) (ht : ListAt w lim tv tok) (hlim : lim ≤ w.heap.size) (h30 : tok.length ≤ 1000) :
    Calls Try.prog 34 #[tv, .func (.func 16) #[] #[.pointer (some ⟨gb, 0, none⟩)]] w fun e w' => ∃ z : Int, e = .returned (.int .i64 z) ∧ decide (0 ≤ z) = (!inB T tok) ∧ Below w.heap.size w w' := by
  obtain ⟨ta, tc, htv⟩ := ht.1
  subst htv
  have HT : Hid (ListAt w w.heap.size (.slice ta tok.length tc) tok) := ht.mono hlim
  have HG : Hid (w.cell? ⟨gb, 0, none⟩ = some (.int .i64 T)) := hg
  clear ht hg hlim
  go_enter Try.func34, Try.ntmps34
  go_wp2_with fail
  go_loopw [8] (fun s wr => ∃ k : Nat, s = .int .i64 k ∧ k ≤ tok.length ∧ Below w.heap.size w wr ∧ inB T (tok.take k) = true) (fun s _ => tok.length - (intOf s).toNat)
  case atStart => exact ⟨0, rfl, Nat.zero_le _, Below.refl _ _, rfl⟩
  case round =>
    obtain ⟨k, rfl, hk, hB, hIn⟩ := hrel
    have HB : Hid (Below w.heap.size w wr) := hB
    have HIn : Hid (inB T (tok.take k) = true) := hIn
    by_cases hlt : k < tok.length
    · obtain ⟨b, o, c, hv, hbl, q0⟩ := HT.out.2 k hlt
      cases hv
      have q1 := (hB.cell (p := ⟨b, o + k, none⟩) hbl).trans q0
      obtain ⟨x, hx⟩ : ∃ x, tok.getD k 0 = x := ⟨_, rfl⟩
      rw [hx] at q1
      have isw := pr_isWrong (x := x) ((hB.cell (World.block_lt_of_cell? _ _ HG.out)).trans HG.out)
      have hxe : tok[k] = x := by rw [← hx]; simp [List.getD, hlt]
      have i0 : (0 : Int) ≤ (k : Int) := Int.natCast_nonneg _
      have i1 : (k : Int) < (tok.length : Int) := by omega
      clear hB hIn q0 hx
      cases hw : (decide (0 ≤ x) && decide (x < T)) with
      | false =>
        rw [hw] at isw
        have HE : Hid (inB T tok = false) := by
          show inB T tok = false
          unfold inB
          rw [List.all_eq_false]
          exact ⟨tok[k], List.getElem_mem hlt, by rw [hxe, hw]; simp⟩
        clear hxe hw
        simp only [Bool.not_false] at isw
        go_wp2_with (go_at_call 16; refine isw.mono ?_; rintro e w1 ⟨rfl, hB1⟩)
        go_ret
        exact ⟨k, rfl, by rw [HE.out]; simp, HB.out.trans (hB1.mono HB.out.size)⟩
      | true =>
        rw [hw] at isw
        have HE : Hid (inB T (tok.take (k + 1)) = true) := by
          show inB T (tok.take (k + 1)) = true
          have := HIn.out
          unfold inB at this ⊢
          rw [List.take_succ_eq_append_getElem hlt, List.all_append, this, hxe]
          simpa using hw
        clear hxe hw
        simp only [Bool.not_true] at isw
        go_wp2_with (go_at_call 16; refine isw.mono ?_; rintro e w1 ⟨rfl, hB1⟩)
        go_roundw
        case rel => exact ⟨k + 1, by go_num, by omega, HB.out.trans (hB1.mono HB.out.size), HE.out⟩
        case measure => simp [intOf]; omega
    · have HE : Hid (inB T tok = true) := by
        show inB T tok = true
        have := HIn.out
        rwa [List.take_of_length_le (by omega)] at this
      clear hB hIn
      go_wp2_with fail
      go_ret
      exact ⟨-1, rfl, by rw [HE.out]; rfl, HB.out⟩

set_option maxRecDepth 100000 in
theorem pr_contains {w : World} {gb lim : Nat} {T : Int} {tv : Value} {tok : List Int} (hg : w.cell? ⟨gb, 0, none⟩ = some (.int .i64 T)) (ht : ListAt w lim tv tok) (hlim : lim ≤ w.heap.size) (h30 : tok.length ≤ 1000) :
    Calls Try.prog 17 #[tv, .func (.func 16) #[] #[.pointer (some ⟨gb, 0, none⟩)]] w fun e w' => e = .returned (.bool (!inB T tok)) ∧ Below w.heap.size w w' := by
  have ix := pr_index hg ht hlim h30
  obtain ⟨ta, tc, htv⟩ := ht.1
  subst htv
  clear hg ht hlim
  go_enter Try.func17, Try.ntmps17
  go_wp2_with (go_at_call 34; refine ix.mono ?_; rintro e w1 ⟨z, rfl, hz, hB1⟩)
  go_ret
  exact ⟨rfl, hB1⟩

end Go.Proofs.Ytobegekmgoiopaa

/- The contract of package parse's tableFor. -/
namespace Go.Proofs.Ytobegekmgoiopaa
open Go.RowKit

/-- What can be read all the while: the grammar's box, the result's, what came in. -/
structure TFx (w : World) (T N : Int) (ra : Option Addr) (rc : Nat) (ta : Option Addr) (tc : Nat) (R : List Ru) (tok : List Int) (wq : World) : Prop where
  b0 : wq.cell? ⟨w.heap.size, 0, none⟩ = some (.int .i64 T)
  b1 : wq.cell? ⟨w.heap.size, 1, none⟩ = some (.int .i64 N)
  b2 : wq.cell? ⟨w.heap.size, 2, none⟩ = some (.slice ra R.length rc)
  x0 : wq.cell? ⟨w.heap.size + 1, 0, none⟩ = some (.slice none 0 0)
  x1 : wq.cell? ⟨w.heap.size + 1, 1, none⟩ = some (.slice none 0 0)
  xf0 : wq.frozen? ⟨w.heap.size + 1, 0, none⟩ = false
  xf1 : wq.frozen? ⟨w.heap.size + 1, 1, none⟩ = false
  rules : RulesAt wq wq.heap.size (.slice ra R.length rc) R
  toks : ListAt wq w.heap.size (.slice ta tok.length tc) tok
  below : Below w.heap.size w wq
  size : w.heap.size + 2 ≤ wq.heap.size

theorem TFx.later {w : World} {T N : Int} {ra : Option Addr} {rc : Nat} {ta : Option Addr} {tc : Nat} {R : List Ru} {tok : List Int} {wq w' : World} (h : TFx w T N ra rc ta tc R tok wq) (hb : Below wq.heap.size wq w') : TFx w T N ra rc ta tc R tok w' := by
  have hs := h.size
  have hB := h.below.trans (hb.mono (by omega))
  exact ⟨(hb.cell (by simp only; omega)).trans h.b0, (hb.cell (by simp only; omega)).trans h.b1, (hb.cell (by simp only; omega)).trans h.b2, (hb.cell (by simp only; omega)).trans h.x0, (hb.cell (by simp only; omega)).trans h.x1, (hb.frozen (by simp only; omega)).trans h.xf0, (hb.frozen (by simp only; omega)).trans h.xf1, (h.rules.below hb).mono hb.size, h.toks.below (hb.mono (by omega)), hB, Nat.le_trans hs hb.size⟩

theorem tfx_start {w : World} {T N : Int} {ra : Option Addr} {rc : Nat} {ta : Option Addr} {tc : Nat} {R : List Ru} {tok : List Int} (hr : RulesAt w w.heap.size (.slice ra R.length rc) R) (ht : ListAt w w.heap.size (.slice ta tok.length tc) tok) :
    TFx w T N ra rc ta tc R tok ((w.alloc (.cells #[.int .i64 T, .int .i64 N, .slice ra R.length rc] 24)).alloc (.cells #[.slice none 0 0, .slice none 0 0] 41)) := by
  have hB : Below w.heap.size w ((w.alloc (.cells #[.int .i64 T, .int .i64 N, .slice ra R.length rc] 24)).alloc (.cells #[.slice none 0 0, .slice none 0 0] 41)) := ((Below.refl _ _).alloc (Nat.le_refl _) _).alloc (by simp) _
  exact ⟨by simp [go_sem], by simp [go_sem], by simp [go_sem], by simp [go_sem], by simp [go_sem], by simp [go_sem], by simp [go_sem], (hr.below hB).mono hB.size, ht.below hB, hB, by simp⟩

/-- A table that is none, and what is wrong. -/
abbrev errT (e : Int) : Value := .tuple #[.agg #[.slice none 0 0, .slice none 0 0], .int .i64 e]

set_option maxRecDepth 100000 in
set_option maxHeartbeats 1600000 in
theorem tf_form {w : World} {T N : Int} {rv tv : Value} {R : List Ru} {tok : List Int} (hr : RulesAt w w.heap.size rv R) (ht : ListAt w w.heap.size tv tok) (hm : mayB T N R = false) :
    Calls Try.prog 8 #[.agg #[.int .i64 T, .int .i64 N, rv], tv] w fun e w' => e = .returned (errT 2) ∧ Below w.heap.size w w' := by
  obtain ⟨ra, rc, hrv⟩ := hr.1
  obtain ⟨ta, tc, htv⟩ := ht.1
  subst hrv
  subst htv
  have HX : Hid (TFx w T N ra rc ta tc R tok ((w.alloc (.cells #[.int .i64 T, .int .i64 N, .slice ra R.length rc] 24)).alloc (.cells #[.slice none 0 0, .slice none 0 0] 41))) := tfx_start hr ht
  have may := mayG_any (T := T) (N := N) HX.out.rules
  rw [hm] at may
  clear hr ht hm
  go_enter Try.func8, Try.ntmps8
  go_wp2_with
    (go_at_call 10; refine may.mono ?_; rintro e w1 ⟨rfl, hB1⟩
     have hX := HX.out.later hB1
     have x0 := hX.x0
     have x1 := hX.x1
     have xf0 := hX.xf0
     have xf1 := hX.xf1
     have HB : Hid (Below w.heap.size w w1) := hX.below
     clear hX hB1 may)
  refine bodyPost_ret (v := errT 2) (by simp [results, Try.results8, go_sem, x0, x1]) rfl ⟨rfl, (HB.out.setCell (by simp) _).setCell (by simp) _⟩

set_option maxRecDepth 100000 in
set_option maxHeartbeats 1600000 in
theorem tf_long {w : World} {T N : Int} {rv tv : Value} {R : List Ru} {tok : List Int} (hr : RulesAt w w.heap.size rv R) (ht : ListAt w w.heap.size tv tok) (hm : mayB T N R = true) (h30 : 30 < tok.length) :
    Calls Try.prog 8 #[.agg #[.int .i64 T, .int .i64 N, rv], tv] w fun e w' => e = .returned (errT 1) ∧ Below w.heap.size w w' := by
  obtain ⟨ra, rc, hrv⟩ := hr.1
  obtain ⟨ta, tc, htv⟩ := ht.1
  subst hrv
  subst htv
  have HX : Hid (TFx w T N ra rc ta tc R tok ((w.alloc (.cells #[.int .i64 T, .int .i64 N, .slice ra R.length rc] 24)).alloc (.cells #[.slice none 0 0, .slice none 0 0] 41))) := tfx_start hr ht
  have may := mayG_any (T := T) (N := N) HX.out.rules
  rw [hm] at may
  have j0 : (30 : Int) < (tok.length : Int) := by omega
  clear hr ht hm
  go_enter Try.func8, Try.ntmps8
  go_wp2_with
    (go_at_call 10; refine may.mono ?_; rintro e w1 ⟨rfl, hB1⟩
     have hX := HX.out.later hB1
     have x0 := hX.x0
     have x1 := hX.x1
     have xf0 := hX.xf0
     have xf1 := hX.xf1
     have HB : Hid (Below w.heap.size w w1) := hX.below
     clear hX hB1 may)
  refine bodyPost_ret (v := errT 1) (by simp [results, Try.results8, go_sem, x0, x1]) rfl ⟨rfl, (HB.out.setCell (by simp) _).setCell (by simp) _⟩

set_option maxRecDepth 100000 in
set_option maxHeartbeats 1600000 in
theorem tf_more {w : World} {T N : Nat} {rv tv : Value} {R : List Ru} {tok : List Int} (hr : RulesAt w w.heap.size rv R) (ht : ListAt w w.heap.size tv tok) (hm : mayB T N R = true) (h30 : tok.length ≤ 30) (hmo : More T N R 150) :
    Calls Try.prog 8 #[.agg #[.int .i64 T, .int .i64 N, rv], tv] w fun e w' => e = .returned (errT 1) ∧ Below w.heap.size w w' := by
  obtain ⟨ra, rc, hrv⟩ := hr.1
  obtain ⟨ta, tc, htv⟩ := ht.1
  subst hrv
  subst htv
  have HX : Hid (TFx w T N ra rc ta tc R tok ((w.alloc (.cells #[.int .i64 T, .int .i64 N, .slice ra R.length rc] 24)).alloc (.cells #[.slice none 0 0, .slice none 0 0] 41))) := tfx_start hr ht
  have may := mayG_any (T := T) (N := N) HX.out.rules
  rw [hm] at may
  have HM : Hid (mayB T N R = true) := hm
  have HMo : Hid (More T N R 150) := hmo
  have j0 : decide ((30 : Int) < (tok.length : Int)) = false := decide_eq_false (by omega)
  clear hr ht hm hmo
  go_enter Try.func8, Try.ntmps8
  go_wp2_with
    (first
     | (go_at_call 10; refine may.mono ?_; rintro e w1 ⟨rfl, hB1⟩
        have hX := HX.out.later hB1
        have b0 := hX.b0
        have b1 := hX.b1
        have b2 := hX.b2
        have HX1 : Hid (TFx w T N ra rc ta tc R tok w1) := hX
        have tof := (tkOf_may (T := T) (N := N) hX.rules HM.out).mono (R' := fun e w' => e = .returned (.tuple #[.agg #[.slice none 0 0, .slice none 0 0], .int .i64 1]) ∧ Below w1.heap.size w1 w') fun e w' h => by
          rcases h with ⟨h1, h2, _⟩ | ⟨K, cv, gv, _, _, h3, h4, _⟩
          · exact ⟨h1, h2⟩
          · exact absurd HMo.out (whole_or h3 h4)
        clear hX hB1 may)
     | (go_at_call 15; refine tof.mono ?_; rintro e w2 ⟨rfl, hB2⟩
        have hX := (HX1.out.later hB2).later ((Below.refl _ _).alloc (Nat.le_refl _) (.cells #[.slice none 0 0, .slice none 0 0] 41))
        have x0 := hX.x0
        have x1 := hX.x1
        have xf0 := hX.xf0
        have xf1 := hX.xf1
        have HB : Hid (Below w.heap.size w (w2.alloc (.cells #[.slice none 0 0, .slice none 0 0] 41))) := hX.below
        clear hX hB2 tof))
  refine bodyPost_ret (v := errT 1) (by simp [results, Try.results8, go_sem, x0, x1]) rfl ⟨rfl, (HB.out.setCell (by simp) _).setCell (by simp) _⟩

set_option maxRecDepth 100000 in
set_option maxHeartbeats 3200000 in
theorem tf_whole {w : World} {T N : Nat} {rv tv : Value} {R : List Ru} {tok : List Int} (hr : RulesAt w w.heap.size rv R) (ht : ListAt w w.heap.size tv tok) (hm : mayB T N R = true) (h30 : tok.length ≤ 30) (hmo : ¬ More T N R 150) :
    Calls Try.prog 8 #[.agg #[.int .i64 T, .int .i64 N, rv], tv] w fun e w' => ∃ K, Whole T N R K ∧ K ≤ 150 ∧ Below w.heap.size w w' ∧ ((inB T tok = false ∧ e = .returned (errT 3)) ∨ (inB T tok = true ∧ 0 < clashN (tabC T N R K) ∧ e = .returned (errT 4)) ∨
      (inB T tok = true ∧ clashN (tabC T N R K) = 0 ∧ ∃ ca cc ga gc, e = .returned (.tuple #[.agg #[.slice ca K cc, .slice ga K gc], .int .i64 0]) ∧ TabAt w' (.slice ca K cc) (.slice ga K gc) (tabC T N R K) (tabG T N R K))) := by
  obtain ⟨hT, hN1, hN, hRl, hfine⟩ := may_fine hm
  obtain ⟨ra, rc, hrv⟩ := hr.1
  obtain ⟨ta, tc, htv⟩ := ht.1
  subst hrv
  subst htv
  have HX : Hid (TFx w T N ra rc ta tc R tok ((w.alloc (.cells #[.int .i64 T, .int .i64 N, .slice ra R.length rc] 24)).alloc (.cells #[.slice none 0 0, .slice none 0 0] 41))) := tfx_start hr ht
  have may := mayG_any (T := T) (N := N) HX.out.rules
  rw [hm] at may
  have HM : Hid (mayB T N R = true) := hm
  have HMo : Hid (¬ More T N R 150) := hmo
  have HRl : Hid (R.length ≤ 1000) := by show R.length ≤ 1000; omega
  have HT8 : Hid (T ≤ 900) := by show T ≤ 900; omega
  have j0 : decide ((30 : Int) < (tok.length : Int)) = false := decide_eq_false (by omega)
  clear hr ht hm hmo hfine
  go_enter Try.func8, Try.ntmps8
  go_upto_region 9 with
    (first
     | (go_at_call 10; refine may.mono ?_; rintro e w1 ⟨rfl, hB1⟩
        have hX := HX.out.later hB1
        have b0 := hX.b0
        have b1 := hX.b1
        have b2 := hX.b2
        have HX1 : Hid (TFx w T N ra rc ta tc R tok w1) := hX
        have tof := (tkOf_far (T := T) (N := N) hX.rules HM.out).mono (R' := fun e w' => ∃ K ca cc ga gc, e = .returned (.tuple #[.agg #[.slice ca K cc, .slice ga K gc], .int .i64 0]) ∧ Below w1.heap.size w1 w' ∧ Whole T N R K ∧ K ≤ 150 ∧ ∀ w'' : World, (∀ b, w1.heap.size ≤ b → b < w'.heap.size → w''.heap[b]? = w'.heap[b]?) → TabAt w'' (.slice ca K cc) (.slice ga K gc) (tabC T N R K) (tabG T N R K)) fun e w' h => by
          rcases h with ⟨_, _, h2⟩ | ⟨K, cv, gv, h1, h2, h3, h4, h5⟩
          · exact absurd h2 HMo.out
          · have h6 := h5 w' fun _ _ _ => rfl
            obtain ⟨ca, cc, hcv⟩ := h6.cells.1
            obtain ⟨ga, gc, hgv⟩ := h6.goto.1
            rw [tabC_len] at hcv
            rw [tabG_len] at hgv
            subst hcv
            subst hgv
            exact ⟨K, ca, cc, ga, gc, h1, h2, h3, h4, h5⟩
        clear hX hB1 may)
     | (go_at_call 15; refine tof.mono ?_; rintro e w2 ⟨K, ca, cc, ga, gc, rfl, hB2, hW, hK, hTb⟩
        have HX2 : Hid (TFx w T N ra rc ta tc R tok (w2.alloc (.cells #[.slice ca K cc, .slice ga K gc] 41))) := (HX1.out.later hB2).later ((Below.refl _ _).alloc (Nat.le_refl _) (.cells #[.slice ca K cc, .slice ga K gc] 41))
        have HWh : Hid (Whole T N R K) := hW
        have hs2 : w1.heap.size ≤ w2.heap.size := hB2.size
        have HTb : Hid (∀ w'' : World, (∀ b, w1.heap.size ≤ b → b < w2.heap.size → w''.heap[b]? = w2.heap[b]?) → TabAt w'' (.slice ca K cc) (.slice ga K gc) (tabC T N R K) (tabG T N R K)) := hTb
        clear hB2 tof hW hTb))
  obtain ⟨W4, hW4⟩ : ∃ W, w2.alloc (.cells #[.slice ca K cc, .slice ga K gc] 41) = W := ⟨_, rfl⟩
  have t0 : W4.cell? ⟨w2.heap.size, 0, none⟩ = some (.slice ca K cc) := by rw [← hW4]; simp [go_sem]
  have t1 : W4.cell? ⟨w2.heap.size, 1, none⟩ = some (.slice ga K gc) := by rw [← hW4]; simp [go_sem]
  have hs4 : w2.heap.size < W4.heap.size := by rw [← hW4]; simp
  have HO4 : Hid (∀ b, b < w2.heap.size → W4.heap[b]? = w2.heap[b]?) := fun b hb => by rw [← hW4]; exact heap_alloc_old w2 _ hb
  rw [hW4] at HX2 ⊢
  have con := pr_contains HX2.out.b0 HX2.out.toks (by have := HX2.out.size; omega) (by omega)
  have HSz : Hid (w.heap.size + 2 ≤ w1.heap.size) := HX1.out.size
  clear hW4 b0 b1 b2 HX HX1
  have HTab : Hid (∀ wq, Below W4.heap.size W4 wq → TFx w T N ra rc ta tc R tok wq ∧ wq.cell? ⟨w2.heap.size, 0, none⟩ = some (.slice ca K cc) ∧ wq.cell? ⟨w2.heap.size, 1, none⟩ = some (.slice ga K gc) ∧ (∀ b, b < w2.heap.size → wq.heap[b]? = w2.heap[b]?)) := fun wq hq =>
    ⟨HX2.out.later hq, (hq.cell (by simp only; omega)).trans t0, (hq.cell (by simp only; omega)).trans t1, fun b hb => (hq.block b (by omega)).trans (HO4.out b hb)⟩
  clear t0 t1
  cases hin : inB T tok with
  | false =>
    rw [hin] at con
    simp only [Bool.not_false] at con
    have HIN : Hid (inB T tok = false) := hin
    clear hin
    go_wp2_with
      (go_at_call 17; refine con.mono ?_; rintro e w5 ⟨rfl, hB5⟩
       obtain ⟨hX, -, -, -⟩ := HTab.out w5 hB5
       have x0 := hX.x0
       have x1 := hX.x1
       have xf0 := hX.xf0
       have xf1 := hX.xf1
       have HB : Hid (Below w.heap.size w w5) := hX.below
       clear hX hB5 con)
    refine bodyPost_ret (v := errT 3) (by simp [results, Try.results8, go_sem, x0, x1]) rfl ⟨K, HWh.out, hK, (HB.out.setCell (by simp) _).setCell (by simp) _, .inl ⟨HIN.out, rfl⟩⟩
  | true =>
    rw [hin] at con
    simp only [Bool.not_true] at con
    have HIN : Hid (inB T tok = true) := hin
    clear hin
    obtain ⟨cn, hcn⟩ : ∃ cn, clashN (tabC T N R K) = cn := ⟨_, rfl⟩
    have HCN : Hid (clashN (tabC T N R K) = cn) := hcn
    have HCl : Hid (∀ wq, Below W4.heap.size W4 wq → Calls Try.prog 18 #[.agg #[.slice ca K cc, .slice ga K gc]] wq fun e w' => e = .returned (.int .i64 cn) ∧ Below wq.heap.size wq w') := fun wq hq => by
      have h1 := HTb.out wq fun b _ hb2 => (HTab.out wq hq).2.2.2 b hb2
      have h2 := tk_clashes h1 (by rw [tabC_len]; omega) (fun i hi => by rw [tabC_len] at hi; rw [tabC_row hi, rowP_len]; have := HT8.out; omega) (fun i k hi hk => by
        rw [tabC_len] at hi
        rw [tabC_row hi, rowP_len] at hk
        rw [tabC_row hi, rowP_at (by omega)]
        unfold cellP
        simp only [List.length_map]
        have := List.length_filter_le (fun n => @decide (DoneP T N R (allN T N R K).1 (allN T N R K).2 i k n) (Classical.propDecidable _)) (List.range R.length)
        simp only [List.length_range] at this
        have := HRl.out
        omega)
      rw [HCN.out] at h2
      exact h2
    clear hcn
    by_cases hc0 : cn = 0
    · subst hc0
      have hz0 : decide ((0 : Int) < ((0 : Nat) : Int)) = false := by decide
      go_wp2_with
        (first
         | (go_at_call 17; refine con.mono ?_; rintro e w5 ⟨rfl, hB5⟩
            obtain ⟨-, t0, t1, -⟩ := HTab.out w5 hB5
            have cl := HCl.out w5 hB5
            have HB5 : Hid (Below W4.heap.size W4 w5) := hB5
            clear hB5 con)
         | (go_at_call 18; refine cl.mono ?_; rintro e w6 ⟨rfl, hB6⟩
            have hb6 : Below W4.heap.size W4 w6 := HB5.out.trans (hB6.mono HB5.out.size)
            obtain ⟨hX, u0, u1, hO6⟩ := HTab.out w6 hb6
            have x0 := hX.x0
            have x1 := hX.x1
            have xf0 := hX.xf0
            have xf1 := hX.xf1
            have HB : Hid (Below w.heap.size w w6) := hX.below
            have HO6 : Hid (∀ b, b < w2.heap.size → w6.heap[b]? = w2.heap[b]?) := hO6
            clear hX hB6 cl hb6 hO6))
      refine bodyPost_ret (v := .tuple #[.agg #[.slice ca K cc, .slice ga K gc], .int .i64 0]) (by simp [results, Try.results8, go_sem, x0, x1]) rfl ⟨K, HWh.out, hK, (HB.out.setCell (by simp) _).setCell (by simp) _, .inr (.inr ⟨HIN.out, HCN.out, ca, cc, ga, gc, rfl, HTb.out _ fun b hb1 hb2 => ?_⟩)⟩
      have h6 := HSz.out
      rw [Below.heap_setCell _ _ _ _ (by simp only; omega), Below.heap_setCell _ _ _ _ (by simp only; omega)]
      exact HO6.out b hb2
    · have hz0 : decide ((0 : Int) < (cn : Int)) = true := decide_eq_true (by omega)
      go_wp2_with
        (first
         | (go_at_call 17; refine con.mono ?_; rintro e w5 ⟨rfl, hB5⟩
            obtain ⟨-, t0, t1, -⟩ := HTab.out w5 hB5
            have cl := HCl.out w5 hB5
            have HB5 : Hid (Below W4.heap.size W4 w5) := hB5
            clear hB5 con)
         | (go_at_call 18; refine cl.mono ?_; rintro e w6 ⟨rfl, hB6⟩
            have hb6 : Below W4.heap.size W4 w6 := HB5.out.trans (hB6.mono HB5.out.size)
            obtain ⟨hX, u0, u1, -⟩ := HTab.out w6 hb6
            have x0 := hX.x0
            have x1 := hX.x1
            have xf0 := hX.xf0
            have xf1 := hX.xf1
            have HB : Hid (Below w.heap.size w w6) := hX.below
            clear hX hB6 cl hb6))
      refine bodyPost_ret (v := errT 4) (by simp [results, Try.results8, go_sem, x0, x1]) rfl ⟨K, HWh.out, hK, (HB.out.setCell (by simp) _).setCell (by simp) _, .inr (.inl ⟨HIN.out, by have := HCN.out; omega, rfl⟩)⟩

end Go.Proofs.Ytobegekmgoiopaa
