import Derived.Test.YtikjekfpgklbdaaStCatAndStepEx
/- Plain: SInline, SSwap, SPrune: each derivation is carried over, and back (H2, H3). No program. -/
namespace Go.Proofs.Ytikjekfpgklbdaa

def headF : Fo → Nat
  | .no => 0
  | .nd q _ _ => q

theorem drop_app_of {t u : Fo} {i : Nat} (h : lenF t = i) : dropF i (appF t u) = u := by rw [← h, drop_app]

/-! ### SInline -/

def inlF (a i : Nat) (sh ush rk : Nat → Nat) : Fo → Fo
  | .no => .no
  | .nd q ks ts => .nd (if q = a then rk (ush (headF (dropF i (inlF a i sh ush rk ks)))) else sh q) (if q = a then outF i (inlF a i sh ush rk ks) else inlF a i sh ush rk ks) (inlF a i sh ush rk ts)
def inlB (a i : Nat) (ush : Nat → Nat) (isIn : Nat → Option Nat) (m : Nat → Nat) : Fo → Fo
  | .no => .no
  | .nd q ks ts => .nd (if (isIn q).isSome then a else ush q) (if (isIn q).isSome then inF i (m ((isIn q).getD 0)) ((isIn q).getD 0) (inlB a i ush isIn m ks) else inlB a i ush isIn m ks) (inlB a i ush isIn m ts)
theorem inlF_app (a i : Nat) (sh ush rk : Nat → Nat) : ∀ (t u : Fo), inlF a i sh ush rk (appF t u) = appF (inlF a i sh ush rk t) (inlF a i sh ush rk u)
  | .no, u => rfl
  | .nd q ks ts, u => by rw [appF, inlF, inlF, appF, inlF_app a i sh ush rk ts u]
theorem inlB_app (a i : Nat) (ush : Nat → Nat) (isIn : Nat → Option Nat) (m : Nat → Nat) : ∀ (t u : Fo), inlB a i ush isIn m (appF t u) = appF (inlB a i ush isIn m t) (inlB a i ush isIn m u)
  | .no, u => rfl
  | .nd q ks ts, u => by rw [appF, inlB, inlB, appF, inlB_app a i ush isIn m ts u]
theorem inlF_len (a i : Nat) (sh ush rk : Nat → Nat) : ∀ t : Fo, lenF (inlF a i sh ush rk t) = lenF t
  | .no => rfl
  | .nd q ks ts => by rw [inlF, lenF, lenF, inlF_len a i sh ush rk ts]
theorem inlB_len (a i : Nat) (ush : Nat → Nat) (isIn : Nat → Option Nat) (m : Nat → Nat) : ∀ t : Fo, lenF (inlB a i ush isIn m t) = lenF t
  | .no => rfl
  | .nd q ks ts => by rw [inlB, lenF, lenF, inlB_len a i ush isIn m ts]

/-- R' is R, with rules for the rule a: one for each rule of X, in the place of an X; where rules have gone to. -/
structure InIs (R R' : List Ru) (a : Nat) (l1 l3 : List Sy) (X : Int) (sh ush rk : Nat → Nat) (isIn : Nat → Option Nat) (m : Nat → Nat) : Prop where
  lt : a < R.length
  cut : (R.getD a (0, [])).2 = l1 ++ (false, X) :: l3
  ne : (R.getD a (0, [])).1 ≠ X
  stays : ∀ q, q < R.length → q ≠ a → sh q < R'.length ∧ R'.getD (sh q) (0, []) = R.getD q (0, []) ∧ ush (sh q) = q ∧ isIn (sh q) = none
  made : ∀ j, j < R.length → (R.getD j (0, [])).1 = X → rk j < R'.length ∧ R'.getD (rk j) (0, []) = ((R.getD a (0, [])).1, l1 ++ ((R.getD j (0, [])).2 ++ l3)) ∧ isIn (rk j) = some j
  all : ∀ p, p < R'.length → (∃ q, q < R.length ∧ q ≠ a ∧ p = sh q) ∨ ∃ j, j < R.length ∧ (R.getD j (0, [])).1 = X ∧ p = rk j
  many : ∀ j, m j = (namesS (R.getD j (0, [])).2).length

section
variable {R R' : List Ru} {a : Nat} {l1 l3 : List Sy} {X : Int} {sh ush rk : Nat → Nat} {isIn : Nat → Option Nat} {m : Nat → Nat}

theorem in_back (h : InIs R R' a l1 l3 X sh ush rk isIn m) : ∀ (z : Nat) (t : Fo) (ns : List Int), (flatFo t).length < z → okF R' t ns → okF R (inlB a (namesS l1).length ush isIn m t) ns ∧ yldF R (inlB a (namesS l1).length ush isIn m t) = yldF R' t ∧ inlF a (namesS l1).length sh ush rk (inlB a (namesS l1).length ush isIn m t) = t := by
  intro z
  induction z with
  | zero => intro t ns h; omega
  | succ z ih =>
    intro t ns hz hok
    cases t with
    | no => cases hok; exact ⟨rfl, rfl, rfl⟩
    | nd p ks ts =>
      obtain ⟨n, ns', rfl, h1, h2, h3, h4⟩ := hok
      rw [flatFo, List.length_cons, List.length_append] at hz
      obtain ⟨b1, b2, b3⟩ := ih ts ns' (by omega) h4
      rcases h.all p h1 with ⟨q, hq1, hq, rfl⟩ | ⟨j, d1, d2, rfl⟩
      · obtain ⟨s1, s2, s3, s4⟩ := h.stays q hq1 hq
        rw [s2] at h2 h3
        obtain ⟨a1, a2, a3⟩ := ih ks _ (by omega) h3
        have e : inlB a (namesS l1).length ush isIn m (.nd (sh q) ks ts) = .nd q (inlB a (namesS l1).length ush isIn m ks) (inlB a (namesS l1).length ush isIn m ts) := by
          rw [inlB, s4, s3]
          simp
        rw [e]
        refine ⟨⟨n, ns', rfl, hq1, h2, a1, b1⟩, ?_, ?_⟩
        · rw [yldF, yldF, b2, s2, a2]
        · rw [inlF, if_neg hq, if_neg hq, a3, b3]
      · obtain ⟨m1, m2, m3⟩ := h.made j d1 d2
        have hj : j ≠ a := fun e => h.ne (by rw [← e]; exact d2)
        obtain ⟨s1, s2, s3, s4⟩ := h.stays j d1 hj
        rw [m2, names_app, names_app] at h3
        rw [m2] at h2
        obtain ⟨k1, kk, rfl, c1, c2⟩ := ok_split _ _ _ h3
        obtain ⟨k2, k3, rfl, c2, c3⟩ := ok_split _ _ _ c2
        rw [flat_app, flat_app, List.length_append, List.length_append] at hz
        obtain ⟨p1, p2, p3⟩ := ih k1 _ (by omega) c1
        obtain ⟨q1, q2, q3⟩ := ih k2 _ (by omega) c2
        obtain ⟨r1, r2, r3⟩ := ih k3 _ (by omega) c3
        have hl1 : lenF (inlB a (namesS l1).length ush isIn m k1) = (namesS l1).length := by rw [inlB_len]; exact ok_lenF _ _ c1
        have hl2 : lenF (inlB a (namesS l1).length ush isIn m k2) = m j := by rw [inlB_len, h.many]; exact ok_lenF _ _ c2
        have e : inlB a (namesS l1).length ush isIn m (.nd (rk j) (appF k1 (appF k2 k3)) ts) = .nd a (appF (inlB a (namesS l1).length ush isIn m k1) (.nd j (inlB a (namesS l1).length ush isIn m k2) (inlB a (namesS l1).length ush isIn m k3))) (inlB a (namesS l1).length ush isIn m ts) := by
          rw [inlB, m3]
          simp only [Option.isSome_some, if_true, Option.getD_some]
          rw [inlB_app, inlB_app, inF_app j hl1 hl2]
        rw [e]
        refine ⟨⟨n, ns', rfl, h.lt, h2, ?_, b1⟩, ?_, ?_⟩
        · rw [h.cut, names_app]
          exact ok_app _ _ _ _ p1 ⟨_, _, rfl, d1, d2, q1, r1⟩
        · rw [yldF, yldF, b2, m2, h.cut, yld_app, yldF, p2, q2, r2, yld_app, yld_app]
          congr 1
          rw [weave_app _ _ _ _ (okF_len _ _ c1), weave_app _ _ _ _ (okF_len _ _ c1), weave_app _ _ _ _ (okF_len _ _ c2)]
          rfl
        · have e1 : inlF a (namesS l1).length sh ush rk (appF (inlB a (namesS l1).length ush isIn m k1) (.nd j (inlB a (namesS l1).length ush isIn m k2) (inlB a (namesS l1).length ush isIn m k3))) = appF k1 (.nd (sh j) k2 k3) := by
            rw [inlF_app, inlF, if_neg hj, if_neg hj, p3, q3, r3]
          have hl3 : lenF k1 = (namesS l1).length := ok_lenF _ _ c1
          have e3 : headF (dropF (namesS l1).length (appF k1 (.nd (sh j) k2 k3))) = sh j := by
            rw [← hl3, drop_app]; rfl
          rw [inlF, if_pos rfl, if_pos rfl, e1, e3, s3, outF_app hl3, b3]
end

/-! ### SPrune: rules stay, under other numbers -/

def renF (f : Nat → Nat) : Fo → Fo
  | .no => .no
  | .nd q ks ts => .nd (f q) (renF f ks) (renF f ts)
theorem renF_flat (f : Nat → Nat) : ∀ t : Fo, (flatFo (renF f t)).length = (flatFo t).length
  | .no => rfl
  | .nd q ks ts => by rw [renF, flatFo, flatFo, List.length_cons, List.length_cons, List.length_append, List.length_append, renF_flat f ks, renF_flat f ts]

/-- Of the names that are of use (C), rules stay that can be used. -/
structure PrIs (R R' : List Ru) (M C : Int → Prop) (sh ush : Nat → Nat) : Prop where
  makes : ∀ q, q < R.length → (∀ n ∈ namesS (R.getD q (0, [])).2, M n) → M (R.getD q (0, [])).1
  stays : ∀ q, q < R.length → C (R.getD q (0, [])).1 → (∀ n ∈ namesS (R.getD q (0, [])).2, M n) → sh q < R'.length ∧ R'.getD (sh q) (0, []) = R.getD q (0, []) ∧ ush (sh q) = q ∧ ∀ n ∈ namesS (R.getD q (0, [])).2, C n
  all : ∀ p, p < R'.length → ush p < R.length ∧ R.getD (ush p) (0, []) = R'.getD p (0, []) ∧ sh (ush p) = p

section
variable {R R' : List Ru} {M C : Int → Prop} {sh ush : Nat → Nat}
theorem pr_makes (h : PrIs R R' M C sh ush) : ∀ (t : Fo) (ns : List Int), okF R t ns → ∀ n ∈ ns, M n := by
  intro t
  induction t with
  | no => intro ns h n hn; cases h; cases hn
  | nd q ks ts ihk iht =>
    rintro ns ⟨n, ns', rfl, h1, h2, h3, h4⟩ x hx
    rcases List.mem_cons.1 hx with rfl | hx
    · rw [← h2]; exact h.makes q h1 (ihk _ h3)
    · exact iht _ h4 x hx
theorem pr_back (h : PrIs R R' M C sh ush) : ∀ (t : Fo) (ns : List Int), okF R' t ns → okF R (renF ush t) ns ∧ yldF R (renF ush t) = yldF R' t ∧ renF sh (renF ush t) = t := by
  intro t
  induction t with
  | no => intro ns h; cases h; exact ⟨rfl, rfl, rfl⟩
  | nd p ks ts ihk iht =>
    rintro ns ⟨n, ns', rfl, h1, h2, h3, h4⟩
    obtain ⟨s1, s2, s3⟩ := h.all p h1
    obtain ⟨a1, a2, a3⟩ := ihk _ h3
    obtain ⟨b1, b2, b3⟩ := iht _ h4
    rw [renF]
    exact ⟨⟨n, ns', rfl, s1, by rw [s2]; exact h2, by rw [s2]; exact a1, b1⟩, by rw [yldF, yldF, s2, a2, b2], by rw [renF, s3, a3, b3]⟩
end

/-! ### SSwap: the trees stay -/

theorem swap_names (f : Int → Int) (g : Sy → Sy) (hg : ∀ s, g s = if s.1 then s else (false, f s.2)) : ∀ l : List Sy, namesS (l.map g) = (namesS l).map f
  | [] => rfl
  | (true, v) :: l => by rw [List.map_cons, hg]; exact swap_names f g hg l
  | (false, n) :: l => by rw [List.map_cons, hg, namesS, List.map_cons, ← swap_names f g hg l]; rfl
theorem swap_weave (f : Int → Int) (g : Sy → Sy) (hg : ∀ s, g s = if s.1 then s else (false, f s.2)) : ∀ (l : List Sy) (ys : List (List Int)), weave (l.map g) ys = weave l ys
  | [], ys => rfl
  | (true, v) :: l, ys => by rw [List.map_cons, hg, weave, ← swap_weave f g hg l ys]; rfl
  | (false, n) :: l, ys => by rw [List.map_cons, hg, weave, ← swap_weave f g hg l ys.tail]; rfl
theorem sw_fwd {R R' : List Ru} (f : Int → Int) (g : Sy → Sy) (hg : ∀ s, g s = if s.1 then s else (false, f s.2)) (hl : R'.length = R.length) (hr : ∀ q, q < R.length → R'.getD q (0, []) = (f (R.getD q (0, [])).1, (R.getD q (0, [])).2.map g)) : ∀ (t : Fo) (ns : List Int), okF R t ns → okF R' t (ns.map f) ∧ yldF R' t = yldF R t := by
  intro t
  induction t with
  | no => intro ns h; cases h; exact ⟨rfl, rfl⟩
  | nd q ks ts ihk iht =>
    rintro ns ⟨n, ns', rfl, h1, h2, h3, h4⟩
    obtain ⟨a1, a2⟩ := ihk _ h3
    obtain ⟨b1, b2⟩ := iht _ h4
    rw [yldF, yldF, hr q h1, b2, a2]
    refine ⟨⟨f n, ns'.map f, rfl, by omega, by rw [hr q h1, h2], ?_, b1⟩, by rw [swap_weave f g hg]⟩
    rw [hr q h1, swap_names f g hg]
    exact a1

end Go.Proofs.Ytikjekfpgklbdaa

/- Plain: SLeft: each derivation is carried over, and back (H2, H3). No program. -/
namespace Go.Proofs.Ytikjekfpgklbdaa

def setRest : Fo → Fo → Fo
  | .no, u => u
  | .nd p ks _, u => .nd p ks u
/-- All but the last. -/
def initF : Fo → Fo
  | .no => .no
  | .nd _ _ .no => .no
  | .nd q ks (.nd q' ks' ts') => .nd q ks (initF (.nd q' ks' ts'))
theorem init_app : ∀ (t : Fo) (q : Nat) (ks : Fo), initF (appF t (.nd q ks .no)) = t
  | .no, q, ks => rfl
  | .nd p k .no, q, ks => rfl
  | .nd p k (.nd p' k' t'), q, ks => by
    have := init_app (.nd p' k' t') q ks
    rw [appF] at this ⊢
    rw [appF, initF, this]
theorem setRest_app (x u : Fo) : setRest x u = appF (setRest x .no) u := by cases x <;> rfl

/-- The row is carried over; its first tree, if it is of the name, goes on with the chain c. -/
def leG (L : Nat) (own isA : Nat → Bool) : Fo → Fo → Fo
  | .no, _ => .no
  | .nd q ks ts, c =>
    if own q then setRest (leG L own isA ks (.nd q (appF (restF (leG L own isA ks (.nd L .no .no))) c) .no)) (leG L own isA ts (.nd L .no .no))
    else if isA q then .nd q (appF (leG L own isA ks (.nd L .no .no)) c) (leG L own isA ts (.nd L .no .no))
    else .nd q (leG L own isA ks (.nd L .no .no)) (leG L own isA ts (.nd L .no .no))

/-- The row is carried back; and its last tree, as a chain, unrolls upon what is given. -/
def leH (L : Nat) (own isA : Nat → Bool) : Fo → Fo × (Fo → Fo)
  | .no => (.no, fun acc => acc)
  | .nd q ks ts =>
    (if isA q && !own q then appF ((leH L own isA ks).2 (.nd q (initF (leH L own isA ks).1) .no)) (leH L own isA ts).1 else .nd q (leH L own isA ks).1 (leH L own isA ts).1,
     if lenF ts = 0 then fun acc => if q = L then acc else (leH L own isA ks).2 (.nd q (appF acc (initF (leH L own isA ks).1)) .no) else (leH L own isA ts).2)

/-- R' is R, with A's rules that begin with A as the new name's, and A's others with that name behind them. -/
structure LeIs (N : Nat) (R R' : List Ru) (A : Int) (own isA : Nat → Bool) : Prop where
  len : R'.length = R.length + 1
  isNew : A ≠ (N : Int)
  low : ∀ r ∈ R, r.1 < (N : Int) ∧ ∀ s ∈ r.2, s.1 = false → s.2 < (N : Int)
  last : R'.getD R.length (0, []) = ((N : Int), [])
  lastA : isA R.length = false
  ofA : ∀ q, q < R.length → (isA q = true ↔ (R.getD q (0, [])).1 = A)
  own1 : ∀ q, q < R.length → own q = true → (R.getD q (0, [])).1 = A ∧ ∃ l, (R.getD q (0, [])).2 = (false, A) :: l ∧ R'.getD q (0, []) = ((N : Int), l ++ [(false, (N : Int))])
  base : ∀ q, q < R.length → own q = false → (R.getD q (0, [])).1 = A → R'.getD q (0, []) = (A, (R.getD q (0, [])).2 ++ [(false, (N : Int))])
  other : ∀ q, q < R.length → (R.getD q (0, [])).1 ≠ A → R'.getD q (0, []) = R.getD q (0, [])

theorem ok_single {R : List Ru} {t : Fo} {n : Int} (h : okF R t [n]) : ∃ q ks, t = .nd q ks .no := by
  obtain ⟨q, ks, ts, rfl, _, _, _, h4⟩ := okF_cons h
  cases okF_no h4
  exact ⟨q, ks, rfl⟩
theorem weave_one (l : List Sy) (n : Int) (ys : List (List Int)) (y : List Int) (h : ys.length = (namesS l).length) : weave (l ++ [(false, n)]) (ys ++ [y]) = weave l ys ++ y := by
  rw [weave_app _ _ _ _ h, weave, weave, List.headD_cons, List.append_nil]

section
variable {N : Nat} {R R' : List Ru} {A : Int} {own isA : Nat → Bool} {L : Nat}

theorem leG_cons (q : Nat) (ks ts c : Fo) : leG L own isA (.nd q ks ts) c = appF (leG L own isA (.nd q ks .no) c) (leG L own isA ts (.nd L .no .no)) := by
  rw [leG, leG]
  split
  · rw [setRest_app]; rfl
  · split <;> rfl
theorem leG_app : ∀ (t u : Fo), leG L own isA (appF t u) (.nd L .no .no) = appF (leG L own isA t (.nd L .no .no)) (leG L own isA u (.nd L .no .no))
  | .no, u => rfl
  | .nd q ks ts, u => by rw [appF, leG_cons, leG_app ts u, leG_cons q ks ts, app_assoc]
theorem leH_app : ∀ (t u : Fo), (leH L own isA (appF t u)).1 = appF (leH L own isA t).1 (leH L own isA u).1
  | .no, u => rfl
  | .nd q ks ts, u => by
    rw [appF, leH, leH]
    simp only
    rw [leH_app ts u]
    split
    · rw [app_assoc]
    · rfl
theorem leH_last : ∀ (t : Fo) (q : Nat) (ks : Fo), (leH L own isA (appF t (.nd q ks .no))).2 = (leH L own isA (.nd q ks .no)).2
  | .no, q, ks => rfl
  | .nd p k t, q, ks => by
    have h0 : ¬ lenF (appF t (.nd q ks .no)) = 0 := by cases t <;> simp [appF, lenF]
    rw [appF, leH]
    simp only
    rw [if_neg h0, leH_last t q ks]
theorem leH_chain (q : Nat) (ks acc : Fo) : (leH L own isA (.nd q ks .no)).2 acc = if q = L then acc else (leH L own isA ks).2 (.nd q (appF acc (initF (leH L own isA ks).1)) .no) := by
  rw [leH]
  simp only
  rw [if_pos (by rfl)]

/-- A chain's rule is no rule of A. -/
theorem chain_form (h : LeIs N R R' A own isA) {c : Fo} (hc : okF R' c [(N : Int)]) : ∃ q ks, c = .nd q ks .no ∧ (isA q && !own q) = false ∧ ((q = R.length ∧ ks = .no) ∨ (q < R.length ∧ own q = true)) := by
  obtain ⟨q, ks, ts, rfl, h1, h2, h3, h4⟩ := okF_cons hc
  cases okF_no h4
  refine ⟨q, ks, rfl, ?_⟩
  have hlen := h.len
  by_cases hq : q = R.length
  · subst hq
    rw [h.last] at h3
    exact ⟨by rw [h.lastA]; rfl, .inl ⟨rfl, okF_no h3⟩⟩
  · have hq' : q < R.length := by omega
    have ho : own q = true := by
      cases ho : own q with
      | true => rfl
      | false =>
        exfalso
        by_cases hA : (R.getD q (0, [])).1 = A
        · rw [h.base q hq' ho hA] at h2
          exact h.isNew h2
        · rw [h.other q hq' hA] at h2
          have := (h.low _ (mem_getD hq')).1
          omega
    exact ⟨by rw [ho]; simp, .inr ⟨hq', ho⟩⟩
theorem chain_init (h : LeIs N R R' A own isA) {c X : Fo} (hc : okF R' c [(N : Int)]) : initF (leH R.length own isA (appF X c)).1 = (leH R.length own isA X).1 ∧ (leH R.length own isA (appF X c)).2 = (leH R.length own isA c).2 := by
  obtain ⟨q, ks, rfl, hb, _⟩ := chain_form h hc
  refine ⟨?_, leH_last X q ks⟩
  rw [leH_app]
  have : (leH R.length own isA (.nd q ks .no)).1 = .nd q (leH R.length own isA ks).1 .no := by
    rw [leH]
    simp only
    rw [if_neg (by rw [hb]; simp)]
    rfl
  rw [this, init_app]

/-- A rule that begins with A. -/
theorem leG_own {q p : Nat} {k0 kr c : Fo} (ho : own q = true) (h0 : ∀ c, ∃ p' K, leG L own isA (.nd p k0 .no) c = .nd p' K .no) : leG L own isA (.nd q (.nd p k0 kr) .no) c = leG L own isA (.nd p k0 .no) (.nd q (appF (leG L own isA kr (.nd L .no .no)) c) .no) := by
  obtain ⟨p1, K1, e1⟩ := h0 (.nd L .no .no)
  have er : restF (leG L own isA (.nd p k0 kr) (.nd L .no .no)) = leG L own isA kr (.nd L .no .no) := by rw [leG_cons, e1]; rfl
  rw [leG, if_pos ho, er, leG_cons p k0 kr]
  obtain ⟨p2, K2, e2⟩ := h0 (.nd q (appF (leG L own isA kr (.nd L .no .no)) c) .no)
  rw [e2]
  rfl

/-- One tree becomes one tree. -/
theorem leG_single (h : LeIs N R R' A own isA) : ∀ (z : Nat) (q : Nat) (ks : Fo) (n : Int), (flatFo ks).length < z → okF R (.nd q ks .no) [n] → ∀ c, ∃ p K, leG R.length own isA (.nd q ks .no) c = .nd p K .no := by
  intro z
  induction z with
  | zero => intro q ks n h; omega
  | succ z ih =>
    rintro q ks n hz ⟨n', ns', e, h1, h2, h3, h4⟩ c
    cases ho : own q with
    | true =>
      obtain ⟨hA, l, hl, _⟩ := h.own1 q h1 ho
      rw [hl, namesS] at h3
      obtain ⟨p, k0, kr, rfl, d1, d2, d3, d4⟩ := okF_cons h3
      rw [flatFo, List.length_cons, List.length_append] at hz
      have hs := ih p k0 A (by omega) ⟨A, [], rfl, d1, d2, d3, rfl⟩
      rw [leG_own ho hs]
      exact hs _
    | false =>
      rw [leG, if_neg (by rw [ho]; simp)]
      split
      · exact ⟨_, _, rfl⟩
      · exact ⟨_, _, rfl⟩

theorem le_back (h : LeIs N R R' A own isA) : ∀ z : Nat,
    (∀ (t : Fo) (ns : List Int), (flatFo t).length < z → (∀ n ∈ ns, n < (N : Int)) → okF R' t ns → okF R (leH R.length own isA t).1 ns ∧ yldF R (leH R.length own isA t).1 = yldF R' t ∧ leG R.length own isA (leH R.length own isA t).1 (.nd R.length .no .no) = t) ∧
    (∀ c : Fo, (flatFo c).length < z → okF R' c [(N : Int)] → ∀ (acc : Fo) (y yc : List Int), okF R acc [A] → yldF R acc = [y] → yldF R' c = [yc] → okF R ((leH R.length own isA c).2 acc) [A] ∧ yldF R ((leH R.length own isA c).2 acc) = [y ++ yc] ∧ leG R.length own isA ((leH R.length own isA c).2 acc) (.nd R.length .no .no) = leG R.length own isA acc c) := by
  have hlen := h.len
  have names_low : ∀ {r : Ru} {l : List Sy}, r ∈ R → (∀ s ∈ l, s ∈ r.2) → ∀ x ∈ namesS l, x < (N : Int) := fun {r} {l} hr hl x hx => by
    have : (false, x) ∈ l := by
      clear hl
      induction l with
      | nil => cases hx
      | cons s l ihl =>
        obtain ⟨b, y⟩ := s
        cases b with
        | true => exact List.mem_cons_of_mem _ (ihl hx)
        | false =>
          rcases List.mem_cons.1 hx with rfl | hx
          · exact List.mem_cons_self ..
          · exact List.mem_cons_of_mem _ (ihl hx)
    exact (h.low r hr).2 _ (hl _ this) rfl
  intro z
  induction z with
  | zero => exact ⟨fun t ns h => by omega, fun c h => by omega⟩
  | succ z ih =>
    constructor
    · intro t ns hz hns hok
      cases t with
      | no => cases hok; exact ⟨rfl, rfl, rfl⟩
      | nd p ks ts =>
        obtain ⟨n, ns', rfl, h1, h2, h3, h4⟩ := hok
        rw [flatFo, List.length_cons, List.length_append] at hz
        obtain ⟨b1, b2, b3⟩ := ih.1 ts ns' (by omega) (fun x hx => hns x (List.mem_cons_of_mem _ hx)) h4
        have hn := hns n (List.mem_cons_self ..)
        have hpL : p ≠ R.length := fun e => by
          rw [e, h.last] at h2
          simp only at h2
          omega
        have hp : p < R.length := by omega
        have hr := mem_getD (R := R) hp
        have ho : own p = false := by
          cases ho : own p with
          | false => rfl
          | true =>
            obtain ⟨_, l, _, hR'⟩ := h.own1 p hp ho
            rw [hR'] at h2
            simp only at h2
            omega
        by_cases hA : (R.getD p (0, [])).1 = A
        · have hb := h.base p hp ho hA
          have hiA : isA p = true := (h.ofA p hp).2 hA
          rw [hb] at h2 h3
          simp only at h2
          subst h2
          rw [names_app] at h3
          obtain ⟨X, c, rfl, c1, c2⟩ := ok_split _ _ _ h3
          rw [flat_app, List.length_append] at hz
          obtain ⟨x1, x2, x3⟩ := ih.1 X _ (by omega) (names_low hr fun s hs => hs) c1
          have hacc : okF R (.nd p (leH R.length own isA X).1 .no) [A] := ⟨_, _, rfl, hp, hA, x1, rfl⟩
          obtain ⟨qc, kc, rfl, _⟩ := chain_form h c2
          obtain ⟨u1, u2, u3⟩ := ih.2 _ (by omega) c2 _ _ _ hacc (by rw [yldF, yldF]) (by rw [yldF, yldF])
          have e1 : (leH R.length own isA (.nd p (appF X (.nd qc kc .no)) ts)).1 = appF ((leH R.length own isA (.nd qc kc .no)).2 (.nd p (leH R.length own isA X).1 .no)) (leH R.length own isA ts).1 := by
            rw [leH]
            simp only
            rw [if_pos (by rw [hiA, ho]; rfl), (chain_init h c2).1, (chain_init h c2).2]
          rw [e1]
          refine ⟨ok_app _ _ _ _ u1 b1, ?_, ?_⟩
          · rw [yld_app, u2, b2, yldF, hb, yld_app, x2]
            rw [yldF, yldF, weave_one _ _ _ _ (okF_len _ _ c1)]
            rfl
          · rw [leG_app, u3, b3, leG, if_neg (by rw [ho]; simp), if_pos hiA, x3, leG]
            rfl
        · have hR' := h.other p hp hA
          have hiA : isA p = false := by
            cases hi : isA p with
            | false => rfl
            | true => exact absurd ((h.ofA p hp).1 hi) hA
          rw [hR'] at h2 h3
          obtain ⟨a1, a2, a3⟩ := ih.1 ks _ (by omega) (names_low hr fun s hs => hs) h3
          have e1 : (leH R.length own isA (.nd p ks ts)).1 = .nd p (leH R.length own isA ks).1 (leH R.length own isA ts).1 := by
            rw [leH]
            simp only
            rw [if_neg (by rw [hiA]; simp)]
          rw [e1]
          refine ⟨⟨n, ns', rfl, hp, h2, a1, b1⟩, ?_, ?_⟩
          · rw [yldF, yldF, hR', a2, b2]
          · rw [leG, if_neg (by rw [ho]; simp), if_neg (by rw [hiA]; simp), a3, b3]
    · intro c hz hc acc y yc hacc hy hyc
      obtain ⟨q, ks, rfl, _, ⟨rfl, rfl⟩ | ⟨hq, ho⟩⟩ := chain_form h hc
      · rw [leH_chain, if_pos rfl]
        rw [yldF, h.last] at hyc
        injection hyc with hyc
        have hyc : yc = [] := hyc.symm
        rw [hyc, List.append_nil]
        exact ⟨hacc, hy, rfl⟩
      · obtain ⟨hA, l, hl, hR'⟩ := h.own1 q hq ho
        have hr := mem_getD (R := R) hq
        obtain ⟨n', ns', e, h1, h2, h3, h4⟩ := hc
        rw [hR', names_app] at h3
        obtain ⟨X, c1, rfl, x, hc1⟩ := ok_split _ _ _ h3
        rw [flatFo, flat_app, List.length_cons, List.length_append, List.length_append] at hz
        obtain ⟨x1, x2, x3⟩ := ih.1 X _ (by omega) (names_low hr fun s hs => by rw [hl]; exact List.mem_cons_of_mem _ hs) x
        obtain ⟨qc, kc, rfl, _⟩ := chain_form h hc1
        rw [leH_chain, if_neg (by omega), (chain_init h hc1).1, (chain_init h hc1).2]
        obtain ⟨pa, ka, rfl⟩ := ok_single hacc
        have hacc' : okF R (.nd q (appF (.nd pa ka .no) (leH R.length own isA X).1) .no) [A] := ⟨_, _, rfl, hq, hA, by rw [hl, namesS]; exact ok_app _ _ [A] _ hacc x1, rfl⟩
        have hy' : yldF R (.nd q (appF (.nd pa ka .no) (leH R.length own isA X).1) .no) = [y ++ weave l (yldF R' X)] := by
          rw [yldF, yld_app, hy, x2, hl, yldF]
          rfl
        obtain ⟨u1, u2, u3⟩ := ih.2 _ (by omega) hc1 _ _ _ hacc' hy' (by rw [yldF, yldF])
        refine ⟨u1, ?_, ?_⟩
        · rw [u2]
          rw [yldF, hR', yld_app, yldF, yldF, yldF, weave_one _ _ _ _ (okF_len _ _ x)] at hyc
          injection hyc with hyc
          rw [← hyc, List.append_assoc]
        · rw [u3]
          have hsing := leG_single h _ pa ka A (Nat.lt_succ_self _) hacc
          have := leG_own (kr := (leH R.length own isA X).1) (c := .nd qc kc .no) ho hsing
          rw [x3] at this
          exact this
end

end Go.Proofs.Ytikjekfpgklbdaa

/- Plain: where the rules lie in what comes of SSwap, SExtract, SLeft; how many rules a derivation has that is carried over. No program. -/
namespace Go.Proofs.Ytikjekfpgklbdaa

section
variable {T N : Nat} {R : List Ru} {s : Stp}

theorem flatMap_single {f : Nat → List Ru} {h : Nat → Ru} (he : ∀ k, f k = [h k]) : ∀ L : List Nat, L.flatMap f = L.map h
  | [] => rfl
  | k :: L => by rw [List.flatMap_cons, he, List.map_cons, flatMap_single he L]; rfl
theorem doR_one {h : Nat → Ru} (he : ∀ k, oneR N R s k = [h k]) : doR N R s = (List.range R.length).map h ++ lastR N R s := by
  unfold doR
  rw [flatMap_single he]
theorem doR_len {h : Nat → Ru} (he : ∀ k, oneR N R s k = [h k]) : (doR N R s).length = R.length + (lastR N R s).length := by
  rw [doR_one he, List.length_append, List.length_map, List.length_range]
theorem doR_at {h : Nat → Ru} (he : ∀ k, oneR N R s k = [h k]) {q : Nat} (hq : q < R.length) : (doR N R s).getD q (0, []) = h q := by
  rw [doR_one he, List.getD, List.getElem?_append_left (by rw [List.length_map, List.length_range]; exact hq), List.getElem?_map, List.getElem?_range hq]
  rfl
theorem doR_last {h : Nat → Ru} (he : ∀ k, oneR N R s k = [h k]) {x : Ru} (hl : lastR N R s = [x]) : (doR N R s).getD R.length (0, []) = x := by
  rw [doR_one he, hl, List.getD, List.getElem?_append_right (by rw [List.length_map, List.length_range]; exact Nat.le_refl _), List.length_map, List.length_range, Nat.sub_self]
  rfl

theorem swap_at {a b c : Int} : (doR N R ⟨1, a, b, c⟩).length = R.length ∧ ∀ q, q < R.length → (doR N R ⟨1, a, b, c⟩).getD q (0, []) = (swapN a b (R.getD q (0, [])).1, (R.getD q (0, [])).2.map (swapS a b)) := by
  have he : ∀ k, oneR N R ⟨1, a, b, c⟩ k = [(swapN a b (R.getD k (0, [])).1, (R.getD k (0, [])).2.map (swapS a b))] := fun k => by
    unfold oneR
    simp only
    rw [if_pos trivial]
  have hl : lastR N R ⟨1, a, b, c⟩ = [] := by unfold lastR; simp only; rw [if_neg (by decide), if_neg (by decide)]
  refine ⟨by rw [doR_len he, hl]; rfl, fun q hq => doR_at he hq⟩
theorem swapS_is (a b : Int) (x : Sy) : swapS a b x = if x.1 then x else (false, swapN a b x.2) := by
  unfold swapS
  cases x.1 <;> rfl

theorem extract_is (hf : Fine T N R) {a b c : Int} (hs : stepB N R ⟨2, a, b, c⟩ = true) : ExIs N R (doR N R ⟨2, a, b, c⟩) a.toNat ((R.getD a.toNat (0, [])).2.take b.toNat) (((R.getD a.toNat (0, [])).2.take c.toNat).drop b.toNat) ((R.getD a.toNat (0, [])).2.drop c.toNat) := by
  have hst : 0 ≤ a ∧ a < (R.length : Int) ∧ 0 ≤ b ∧ b < c ∧ c ≤ ((R.getD a.toNat (0, [])).2.length : Int) := by
    unfold stepB at hs
    simp only at hs
    rw [if_neg (by decide), if_pos trivial] at hs
    simp only [Bool.and_eq_true, decide_eq_true_eq] at hs
    omega
  have he : ∀ k, oneR N R ⟨2, a, b, c⟩ k = [if k = a.toNat then ((R.getD a.toNat (0, [])).1, (R.getD a.toNat (0, [])).2.take b.toNat ++ (false, (N : Int)) :: (R.getD a.toNat (0, [])).2.drop c.toNat) else R.getD k (0, [])] := fun k => by
    unfold oneR
    simp only
    rw [if_neg (by decide), if_pos trivial]
    by_cases hk : k = a.toNat
    · rw [if_pos (by omega), if_pos hk, hk]
    · rw [if_neg (by omega), if_neg hk]
  have hl : lastR N R ⟨2, a, b, c⟩ = [((N : Int), ((R.getD a.toNat (0, [])).2.take c.toNat).drop b.toNat)] := by unfold lastR; simp only; rw [if_pos trivial]
  have ha : a.toNat < R.length := by omega
  refine ⟨ha, by rw [doR_len he, hl]; rfl, ?_, ?_, doR_last he hl, fun q hq hqa => ?_, fun r hr => ⟨(hf.left r hr).2, fun x hx hb => (hf.name r hr x hx hb).2⟩⟩
  · rw [← List.append_assoc]; exact (mid_split _ (by omega)).symm
  · rw [doR_at he ha, if_pos rfl]
  · rw [doR_at he hq, if_neg hqa]

theorem left_is (hf : Fine T N R) {a b c : Int} (hs : stepB N R ⟨4, a, b, c⟩ = true) : LeIs N R (doR N R ⟨4, a, b, c⟩) a (fun q => decide (q < R.length) && ownA a (R.getD q (0, []))) (fun q => decide (q < R.length) && decide ((R.getD q (0, [])).1 = a)) := by
  have haN : a ≠ (N : Int) := by
    unfold stepB at hs
    simp only at hs
    rw [if_neg (by decide), if_neg (by decide), if_neg (by decide), if_pos trivial] at hs
    simp only [Bool.and_eq_true, decide_eq_true_eq, leftB, List.any_eq_true, ownA] at hs
    obtain ⟨_, ⟨r, hr, h1, _⟩, _⟩ := hs
    have := (hf.left r hr).2
    omega
  have hl : lastR N R ⟨4, a, b, c⟩ = [((N : Int), [])] := by unfold lastR; simp only; rw [if_neg (by decide), if_pos trivial]
  have he : ∀ k, oneR N R ⟨4, a, b, c⟩ k = [if (R.getD k (0, [])).1 = a then (if ownR (R.getD k (0, [])) then ((N : Int), (R.getD k (0, [])).2.drop 1 ++ [(false, (N : Int))]) else ((R.getD k (0, [])).1, (R.getD k (0, [])).2 ++ [(false, (N : Int))])) else R.getD k (0, [])] := fun k => by
    unfold oneR
    simp only
    rw [if_neg (by decide), if_neg (by decide), if_neg (by decide), if_pos trivial]
  refine ⟨by rw [doR_len he, hl]; rfl, haN, fun r hr => ⟨(hf.left r hr).2, fun x hx hb => (hf.name r hr x hx hb).2⟩, doR_last he hl, by simp, fun q hq => by simp [hq], fun q hq ho => ?_, fun q hq ho hA => ?_, fun q hq hA => ?_⟩
  · simp only [ownA, Bool.and_eq_true, decide_eq_true_eq] at ho
    obtain ⟨_, hA, ho⟩ := ho
    obtain ⟨l, hl⟩ := ownR_form ho
    refine ⟨hA, l, by rw [hl, hA], ?_⟩
    rw [doR_at he hq, if_pos hA, if_pos ho, hl]
    rfl
  · have ho' : ownR (R.getD q (0, [])) = false := by
      cases hx : ownR (R.getD q (0, [])) with
      | false => rfl
      | true =>
        have : (decide (q < R.length) && ownA a (R.getD q (0, []))) = true := by unfold ownA; rw [hx]; simp only [hq, hA, decide_true, Bool.and_true]
        rw [this] at ho
        cases ho
    rw [doR_at he hq, if_pos hA, if_neg (by rw [ho']; simp), hA]
  · rw [doR_at he hq, if_neg hA]
end

/-! ### How many rules -/

theorem take_drop_flat : ∀ (i : Nat) (t : Fo), (flatFo (takeF i t)).length + (flatFo (dropF i t)).length = (flatFo t).length
  | 0, t => by rw [takeF, dropF, flatFo]; simp
  | i + 1, .no => rfl
  | i + 1, .nd q ks ts => by
    have := take_drop_flat i ts
    rw [takeF, dropF, flatFo, flatFo, List.length_cons, List.length_cons, List.length_append, List.length_append]
    omega
theorem inF_flat (i m L : Nat) (t : Fo) : (flatFo (inF i m L t)).length = (flatFo t).length + 1 := by
  have h1 := take_drop_flat i t
  have h2 := take_drop_flat m (dropF i t)
  unfold inF
  rw [flat_app, List.length_append, flatFo, List.length_cons, List.length_append]
  omega
theorem outF_flat (i : Nat) (t : Fo) : (flatFo (outF i t)).length ≤ (flatFo t).length := by
  have h1 := take_drop_flat i t
  have h2 : (flatFo (kidsF (dropF i t))).length + (flatFo (restF (dropF i t))).length ≤ (flatFo (dropF i t)).length := by
    cases dropF i t with
    | no => exact Nat.le_refl _
    | nd q ks ts =>
      rw [kidsF, restF, flatFo, List.length_cons, List.length_append]
      omega
  unfold outF
  rw [flat_app, flat_app, List.length_append, List.length_append]
  omega
theorem exB_flat (a i : Nat) : ∀ t : Fo, (flatFo (exB a i t)).length ≤ (flatFo t).length
  | .no => Nat.le_refl _
  | .nd q ks ts => by
    have h1 := exB_flat a i ks
    have h2 := exB_flat a i ts
    have h3 := outF_flat i (exB a i ks)
    rw [exB, flatFo, flatFo, List.length_cons, List.length_cons, List.length_append, List.length_append]
    split <;> omega
theorem inlB_flat (a i : Nat) (ush : Nat → Nat) (isIn : Nat → Option Nat) (m : Nat → Nat) : ∀ t : Fo, (flatFo (inlB a i ush isIn m t)).length ≤ 2 * (flatFo t).length
  | .no => Nat.le_refl _
  | .nd q ks ts => by
    have h1 := inlB_flat a i ush isIn m ks
    have h2 := inlB_flat a i ush isIn m ts
    rw [inlB, flatFo, flatFo, List.length_cons, List.length_cons, List.length_append, List.length_append]
    split
    · rw [inF_flat]; omega
    · omega

section
variable {N : Nat} {R R' : List Ru} {A : Int} {own isA : Nat → Bool}
/-- SLeft: no fewer rules, and at most twice as many. -/
theorem leG_flat (h : LeIs N R R' A own isA) : ∀ z : Nat,
    (∀ (t : Fo) (ns : List Int), (flatFo t).length < z → okF R t ns → (flatFo t).length ≤ (flatFo (leG R.length own isA t (.nd R.length .no .no))).length ∧ (flatFo (leG R.length own isA t (.nd R.length .no .no))).length ≤ 2 * (flatFo t).length) ∧
    (∀ (q : Nat) (ks : Fo), (flatFo ks).length + 1 < z → okF R (.nd q ks .no) [A] → ∀ c : Fo, (flatFo ks).length + 1 + (flatFo c).length ≤ (flatFo (leG R.length own isA (.nd q ks .no) c)).length ∧ (flatFo (leG R.length own isA (.nd q ks .no) c)).length ≤ 2 * (flatFo ks).length + 1 + (flatFo c).length) := by
  intro z
  induction z with
  | zero => exact ⟨fun t ns h => by omega, fun q ks h => by omega⟩
  | succ z ih =>
    have tree : ∀ (q : Nat) (ks : Fo), (flatFo ks).length < z → okF R (.nd q ks .no) [A] → ∀ c : Fo, (flatFo ks).length + 1 + (flatFo c).length ≤ (flatFo (leG R.length own isA (.nd q ks .no) c)).length ∧ (flatFo (leG R.length own isA (.nd q ks .no) c)).length ≤ 2 * (flatFo ks).length + 1 + (flatFo c).length := by
      intro q ks hz hok c
      obtain ⟨n', ns', e, h1, h2, h3, h4⟩ := hok
      injection e with e1 e2
      subst e1
      cases ho : own q with
      | true =>
        obtain ⟨hA, l, hl, hR'⟩ := h.own1 q h1 ho
        rw [hl, namesS] at h3
        obtain ⟨p, k0, kr, rfl, d1, d2, d3, d4⟩ := okF_cons h3
        rw [flatFo, List.length_cons, List.length_append] at hz
        have hk0 : okF R (.nd p k0 .no) [A] := ⟨A, [], rfl, d1, d2, d3, rfl⟩
        obtain ⟨r1, r2⟩ := ih.1 kr _ (by omega) d4
        obtain ⟨t1, t2⟩ := ih.2 p k0 (by omega) hk0 (.nd q (appF (leG R.length own isA kr (.nd R.length .no .no)) c) .no)
        rw [leG_own ho (leG_single h _ p k0 A (Nat.lt_succ_self _) hk0)]
        rw [flatFo, flatFo, List.append_nil, List.length_cons, flat_app, List.length_append] at t1 t2
        rw [flatFo, List.length_cons, List.length_append]
        omega
      | false =>
        obtain ⟨r1, r2⟩ := ih.1 ks _ (by omega) h3
        have hA : isA q = true := (h.ofA q h1).2 h2
        have e1 : leG R.length own isA (.nd q ks .no) c = .nd q (appF (leG R.length own isA ks (.nd R.length .no .no)) c) .no := by
          rw [leG, if_neg (by rw [ho]; simp), if_pos hA, leG]
        rw [e1, flatFo, flatFo, List.append_nil, List.length_cons, flat_app, List.length_append]
        omega
    refine ⟨fun t ns hz hok => ?_, fun q ks hz => tree q ks (by omega)⟩
    cases t with
    | no => exact ⟨Nat.le_refl _, Nat.le_refl _⟩
    | nd q ks ts =>
      obtain ⟨n, ns', rfl, h1, h2, h3, h4⟩ := hok
      rw [flatFo, List.length_cons, List.length_append] at hz ⊢
      obtain ⟨b1, b2⟩ := ih.1 ts ns' (by omega) h4
      by_cases hA : n = A
      · subst hA
        obtain ⟨t1, t2⟩ := tree q ks (by omega) ⟨_, _, rfl, h1, h2, h3, rfl⟩ (.nd R.length .no .no)
        have e1 : (flatFo (.nd R.length .no .no)).length = 1 := rfl
        rw [leG_cons, flat_app, List.length_append]
        omega
      · have hnA : (R.getD q (0, [])).1 ≠ A := by rw [h2]; exact hA
        have ho : own q = false := by
          cases ho : own q with
          | false => rfl
          | true => exact absurd (h.own1 q h1 ho).1 hnA
        have hiA : isA q = false := by
          cases hi : isA q with
          | false => rfl
          | true => exact absurd ((h.ofA q h1).1 hi) hnA
        obtain ⟨r1, r2⟩ := ih.1 ks _ (by omega) h3
        rw [leG, if_neg (by rw [ho]; simp), if_neg (by rw [hiA]; simp), flatFo, List.length_cons, List.length_append]
        omega
end

end Go.Proofs.Ytikjekfpgklbdaa
