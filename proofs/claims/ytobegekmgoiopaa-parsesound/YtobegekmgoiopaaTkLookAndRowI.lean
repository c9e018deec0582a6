import Derived.Test.YtobegekmgoiopaaTab6AndTkMath
import Derived.Test.YtobegekmgoiopaaBuildMathAndMayFine
/- Plain: lookaheads by a list of what is to be looked at (F2), as the program's package table does. No program. -/
namespace Go.Proofs.Ytobegekmgoiopaa
open Classical

/-- A state, and an item of it. -/
abbrev Spo := Nat × It
def InS (OL : List (List It)) (s : Spo) : Prop := s.1 < OL.length ∧ s.2 ∈ OL.getD s.1 []

/-- The automaton is whole. -/
structure AutD (T N : Nat) (R : List Ru) (OL : List (List It)) (NL : List (List Int)) (Ls : List SetI) : Prop where
  sok : SDk R OL Ls
  go : ∀ k, k < OL.length → ∀ x, x < T + N → (NL.getD k []).length = T + N ∧ GoOk T R Ls k x ((NL.getD k []).getD x 0)
  cl : ∀ k, k < OL.length → ClosedS R (Ls.getD k noS)
  sym : ∀ r, r ≤ R.length → ∀ s ∈ rightF R r, (s.1 = true → 0 ≤ s.2 ∧ s.2 < (T : Int)) ∧ (s.1 = false → 0 ≤ s.2 ∧ s.2 < (N : Int))
  zero : InS OL (0, (R.length, 0))

section
variable {T N : Nat} {R : List Ru} {OL : List (List It)} {NL : List (List Int)} {Ls : List SetI} {Nu : List Bool} {Fi : List (List Bool)}

theorem AutD.item (A : AutD T N R OL NL Ls) {p : Spo} (hp : InS OL p) : Ls.getD p.1 noS p.2 ∧ OkIt R p.2 := ⟨((A.sok.rep p.1 hp.1).mem _).1 hp.2, A.sok.ok p.1 hp.1 _ hp.2⟩
theorem AutD.on (A : AutD T N R OL NL Ls) {p : Spo} (hp : InS OL p) {s : Sy} (hs : (rightF R p.2.1)[p.2.2]? = some s) :
    (NL.getD p.1 []).getD (numF T s).toNat 0 = ((toN NL T p.1 s : Nat) : Int) ∧ InS OL (toN NL T p.1 s, (p.2.1, p.2.2 + 1)) := by
  obtain ⟨h2, h3⟩ := A.item hp
  have hsy := A.sym _ h3.1 s (List.mem_of_getElem? hs)
  obtain ⟨e0, hx⟩ := symN_num hsy.1 hsy.2
  have hcast : ((numF T s).toNat : Int) = numF T s := by
    have := num_symN T (numF T s).toNat
    rw [e0] at this
    omega
  obtain ⟨_, hg⟩ := A.go p.1 hp.1 _ hx
  obtain ⟨n, e1, e2, e3⟩ := hg.some ⟨_, h2, s, hs, hcast.symm⟩
  have et : toN NL T p.1 s = n := by unfold toN; rw [e1]; simp
  rw [et, e1]
  have hn' : n < OL.length := by rw [A.sok.len]; exact e2
  refine ⟨rfl, hn', ((A.sok.rep n hn').mem _).2 ?_⟩
  rw [e3]
  exact goto_item h2 hs hcast.symm
theorem AutD.close (A : AutD T N R OL NL Ls) {p : Spo} (hp : InS OL p) {m : Int} (hs : (rightF R p.2.1)[p.2.2]? = some (false, m)) {n : Nat} (hn : n < R.length) (hL : (R.getD n (0, [])).1 = m) : InS OL (p.1, (n, 0)) :=
  ⟨hp.1, ((A.sok.rep p.1 hp.1).mem _).2 (closed_step (A.cl p.1 hp.1) (A.item hp).1 hs hn hL)⟩
end

/-! ### Masks -/

def maskN (L : List Bool) : Nat → Nat
  | 0 => 0
  | n + 1 => if L.getD n false then maskN L n ||| 2 ^ n else maskN L n

theorem mask_bit (L : List Bool) (n t : Nat) : (maskN L n).testBit t = (decide (t < n) && L.getD t false) := by
  induction n with
  | zero => simp [maskN]
  | succ n ih =>
    unfold maskN
    by_cases h : L.getD n false = true
    · rw [if_pos h, Nat.testBit_or, ih, Nat.testBit_two_pow]
      by_cases e : n = t
      · subst e; rw [h]; simp
      · have e1 : decide (t < n + 1) = decide (t < n) := by rw [decide_eq_decide]; omega
        rw [e1]; simp [e]
    · rw [if_neg h, ih]
      by_cases e : n = t
      · subst e
        have : L.getD n false = false := by simpa using h
        rw [this]; simp
      · have e1 : decide (t < n + 1) = decide (t < n) := by rw [decide_eq_decide]; omega
        rw [e1]

def firM (Fi : List (List Bool)) (s : Sy) : Nat := if s.1 then 2 ^ s.2.toNat else maskN (Fi.getD s.2.toNat []) (Fi.getD s.2.toNat []).length
def behM (Nu : List Bool) (Fi : List (List Bool)) : Nat → List Sy → Nat × Bool
  | a, [] => (a, true)
  | a, s :: l => if s.1 || !Nu.getD s.2.toNat false then (a ||| firM Fi s, false) else behM Nu Fi (a ||| firM Fi s) l

/-- Symbols of a grammar. -/
def SyIn (T N : Nat) (l : List Sy) : Prop := ∀ s ∈ l, (s.1 = true → 0 ≤ s.2 ∧ s.2 < (T : Int)) ∧ (s.1 = false → 0 ≤ s.2 ∧ s.2 < (N : Int))

section
variable {T N : Nat} {Nu : List Bool} {Fi : List (List Bool)}

theorem row_bit {L : List Bool} (hL : L.length ≤ T) (t : Nat) : (decide (t < L.length) && L.getD t false) = (decide (t < T) && L.getD t false) := by
  by_cases h : t < L.length
  · have : t < T := by omega
    simp [h, this]
  · have e : L.getD t false = false := by simp [List.getD, List.getElem?_eq_none (show L.length ≤ t by omega)]
    rw [e]; simp

theorem beh_bit (hF : ∀ n, (Fi.getD n []).length ≤ T) (t : Nat) : ∀ (l : List Sy) (a : Nat), SyIn T N l → (behM Nu Fi a l).1.testBit t = (a.testBit t || begF Nu Fi T l t) ∧ (behM Nu Fi a l).2 = nulF Nu l := by
  intro l
  induction l with
  | nil => intro a _; simp [behM, begF, behF, nulF]
  | cons s l ih =>
    intro a hl
    have hs := hl s (by simp)
    have hl' : SyIn T N l := fun x hx => hl x (List.mem_cons_of_mem _ hx)
    obtain ⟨b, v⟩ := s
    cases b with
    | true =>
      have hv := hs.1 rfl
      simp only at hv
      simp only [behM, Bool.true_or, if_true, firM, begF, behF]
      refine ⟨?_, by simp [nulF]⟩
      rw [Nat.testBit_or, Nat.testBit_two_pow]
      congr 1
      rw [decide_eq_decide]
      omega
    | false =>
      have hfir : (firM Fi (false, v)).testBit t = (decide (t < T) && (Fi.getD v.toNat []).getD t false) := by
        simp only [firM, Bool.false_eq_true, if_false]
        rw [mask_bit]
        exact row_bit (hF _) t
      have hbeg : begF Nu Fi T ((false, v) :: l) t = ((decide (t < T) && (Fi.getD v.toNat []).getD t false) || (Nu.getD v.toNat false && begF Nu Fi T l t)) := by
        simp only [begF, behF]
        by_cases h1 : (decide (t < T) && (Fi.getD v.toNat []).getD t false) = true
        · rw [if_pos h1, h1]; simp
        · rw [if_neg h1]
          have h1' : (decide (t < T) && (Fi.getD v.toNat []).getD t false) = false := by simpa using h1
          rw [h1']
          by_cases h2 : Nu.getD v.toNat false = true
          · rw [if_pos h2, h2]; simp
          · rw [if_neg h2]
            have h2' : Nu.getD v.toNat false = false := by simpa using h2
            rw [h2']; simp
      have hnul : nulF Nu ((false, v) :: l) = (Nu.getD v.toNat false && nulF Nu l) := by
        show (((false, v) :: l).all fun s => !s.1 && Nu.getD s.2.toNat false) = _
        rw [List.all_cons]
        rfl
      cases hn : Nu.getD v.toNat false with
      | true =>
        have e : behM Nu Fi a ((false, v) :: l) = behM Nu Fi (a ||| firM Fi (false, v)) l := by
          rw [behM]; simp only; rw [hn]; simp
        obtain ⟨i1, i2⟩ := ih (a ||| firM Fi (false, v)) hl'
        rw [e, i1, i2, hbeg, hnul, hn, Nat.testBit_or, hfir]
        simp [Bool.or_assoc]
      | false =>
        have e : behM Nu Fi a ((false, v) :: l) = (a ||| firM Fi (false, v), false) := by
          rw [behM]; simp only; rw [hn]; simp
        rw [e, hbeg, hnul, hn, Nat.testBit_or, hfir]
        simp

theorem beg_le {t : Nat} : ∀ {l : List Sy}, SyIn T N l → begF Nu Fi T l t = true → t ≤ T := by
  intro l
  induction l with
  | nil => intro _ h; simp [begF, behF] at h
  | cons s l ih =>
    intro hl h
    have hs := hl s (by simp)
    obtain ⟨b, v⟩ := s
    cases b with
    | true =>
      have hv := hs.1 rfl
      simp only at hv
      simp only [begF, behF, decide_eq_true_eq] at h
      omega
    | false =>
      simp only [begF, behF] at h
      split at h
      · rename_i h1
        simp only [Bool.and_eq_true, decide_eq_true_eq] at h1
        omega
      · split at h
        · exact ih (fun x hx => hl x (List.mem_cons_of_mem _ hx)) h
        · cases h
end

/-! ### What is given -/

def rulesL (R : List Ru) (m : Int) : List Nat := (List.range R.length).filter fun n => decide ((R.getD n (0, [])).1 = m)
def behindM (R : List Ru) (Nu : List Bool) (Fi : List (List Bool)) (i : It) : Nat × Bool := behM Nu Fi 0 ((rightF R i.1).drop (i.2 + 1))
def nexM (R : List Ru) (Nu : List Bool) (Fi : List (List Bool)) (i : It) (h : Nat) : Nat := if (behindM R Nu Fi i).2 then (behindM R Nu Fi i).1 ||| h else (behindM R Nu Fi i).1
/-- What an item of a state gives, that has h: to whom, and what. -/
def givesL (T : Nat) (R : List Ru) (NL : List (List Int)) (Nu : List Bool) (Fi : List (List Bool)) (p : Spo) (h : Nat) : List (Spo × Nat) :=
  match (rightF R p.2.1)[p.2.2]? with
  | none => []
  | some s => ((toN NL T p.1 s, (p.2.1, p.2.2 + 1)), h) :: (if s.1 then [] else (rulesL R s.2).map fun r => ((p.1, (r, 0)), nexM R Nu Fi p.2 h))

/-- What there is; what is to be looked at; how often something was won. -/
structure LS where
  lk : Spo → Nat
  O : List Spo
  c : Nat

def giveF (g : Spo × Nat) (st : LS) : LS := if st.lk g.1 ||| g.2 = st.lk g.1 then st else ⟨fun s => if s = g.1 then st.lk g.1 ||| g.2 else st.lk s, st.O ++ [g.1], st.c + 1⟩
def givesF (L : List (Spo × Nat)) (st : LS) : LS := L.foldl (fun st g => giveF g st) st
def lookF (T : Nat) (R : List Ru) (NL : List (List Int)) (Nu : List Bool) (Fi : List (List Bool)) (p : Spo) (st : LS) : LS := givesF (givesL T R NL Nu Fi p (st.lk p)) st

def spotsL (OL : List (List It)) : List Spo := (List.range OL.length).flatMap fun k => (OL.getD k []).map fun i => (k, i)
theorem mem_spots {OL : List (List It)} {s : Spo} : s ∈ spotsL OL ↔ InS OL s := by
  unfold spotsL InS
  rw [List.mem_flatMap]
  constructor
  · rintro ⟨k, hk, hs⟩
    obtain ⟨i, hi, rfl⟩ := List.mem_map.1 hs
    exact ⟨List.mem_range.1 hk, hi⟩
  · rintro ⟨h1, h2⟩
    exact ⟨s.1, List.mem_range.2 h1, List.mem_map.2 ⟨s.2, h2, rfl⟩⟩
def bitsL (OL : List (List It)) (T : Nat) : List (Spo × Nat) := (spotsL OL).flatMap fun s => (List.range (T + 1)).map fun t => (s, t)
theorem mem_bits {OL : List (List It)} {T : Nat} {s : Spo} {t : Nat} (hs : InS OL s) (ht : t ≤ T) : (s, t) ∈ bitsL OL T := by
  unfold bitsL
  rw [List.mem_flatMap]
  exact ⟨s, mem_spots.2 hs, List.mem_map.2 ⟨t, List.mem_range.2 (by omega), rfl⟩⟩
def leftL (OL : List (List It)) (T : Nat) (lk : Spo → Nat) : Nat := ((bitsL OL T).filter fun q => !(lk q.1).testBit q.2).length
/-- It never grows; it falls when something is taken off the list. -/
def phiL (OL : List (List It)) (T : Nat) (st : LS) : Nat := 2 * leftL OL T st.lk + st.O.length + st.c

section
variable {T N : Nat} {R : List Ru} {OL : List (List It)} {NL : List (List Int)} {Ls : List SetI} {Nu : List Bool} {Fi : List (List Bool)}

/-- It is told rightly. -/
def ZMk (T : Nat) (R : List Ru) (Nu : List Bool) (Fi : List (List Bool)) (NL : List (List Int)) (Ls : List SetI) (s : Spo) (t : Nat) : Prop := t ≤ T ∧ LookQ T R Nu Fi NL Ls s.1 s.2 t
def OkG (T : Nat) (R : List Ru) (Nu : List Bool) (Fi : List (List Bool)) (NL : List (List Int)) (Ls : List SetI) (OL : List (List It)) (g : Spo × Nat) : Prop := InS OL g.1 ∧ ∀ t, g.2.testBit t = true → ZMk T R Nu Fi NL Ls g.1 t

theorem gives_ok (A : AutD T N R OL NL Ls) (hF : ∀ n, (Fi.getD n []).length ≤ T) {p : Spo} (hp : InS OL p) {h : Nat} (hh : ∀ t, h.testBit t = true → ZMk T R Nu Fi NL Ls p t) : ∀ g ∈ givesL T R NL Nu Fi p h, OkG T R Nu Fi NL Ls OL g := by
  intro g hg
  unfold givesL at hg
  cases hs : (rightF R p.2.1)[p.2.2]? with
  | none => rw [hs] at hg; cases hg
  | some s =>
    rw [hs] at hg
    simp only [List.mem_cons] at hg
    rcases hg with rfl | hg
    · obtain ⟨h1, h2⟩ := A.on hp hs
      exact ⟨h2, fun t ht => ⟨(hh t ht).1, LookP.on (i := p.2) (hh t ht).2 hs h1⟩⟩
    · obtain ⟨b, v⟩ := s
      cases b with
      | true => simp at hg
      | false =>
        simp only [Bool.false_eq_true, if_false] at hg
        obtain ⟨r, hr, rfl⟩ := List.mem_map.1 hg
        unfold rulesL at hr
        rw [List.mem_filter, List.mem_range] at hr
        have hr2 : (R.getD r (0, [])).1 = v := by simpa using hr.2
        refine ⟨A.close hp hs hr.1 hr2, fun t ht => ?_⟩
        have hin : SyIn T N ((rightF R p.2.1).drop (p.2.2 + 1)) := fun x hx => A.sym _ (A.item hp).2.1 x (List.mem_of_mem_drop hx)
        obtain ⟨b1, b2⟩ := beh_bit (Nu := Nu) hF t _ 0 hin
        have beg : begF Nu Fi T ((rightF R p.2.1).drop (p.2.2 + 1)) t = true → ZMk T R Nu Fi NL Ls (p.1, (r, 0)) t := fun hb =>
          ⟨beg_le hin hb, LookP.begins (i := p.2) (by rw [← A.sok.len]; exact hp.1) (A.item hp).1 hs hr.1 hr2 (beg_le hin hb) hb⟩
        unfold nexM behindM at ht
        simp only [Nat.zero_testBit, Bool.false_or] at b1
        split at ht
        · rename_i hn
          simp only [Nat.testBit_or, b1, Bool.or_eq_true] at ht
          rcases ht with ht | ht
          · exact beg ht
          · exact ⟨(hh t ht).1, LookP.nothing (i := p.2) (hh t ht).2 hs hr.1 hr2 (by rw [← b2]; exact hn)⟩
        · simp only [b1] at ht
          exact beg ht

/-- While a list of gives is gone through, of the item p, that had h. -/
structure LkF (T : Nat) (R : List Ru) (OL : List (List It)) (NL : List (List Int)) (Ls : List SetI) (Nu : List Bool) (Fi : List (List Bool)) (p : Spo) (h : Nat) (dn : List (Spo × Nat)) (st : LS) : Prop where
  snd : ∀ s t, (st.lk s).testBit t = true → InS OL s ∧ ZMk T R Nu Fi NL Ls s t
  opn : ∀ s ∈ st.O, InS OL s
  cls : ∀ s, InS OL s → s ≠ p → s ∈ st.O ∨ ∀ g ∈ givesL T R NL Nu Fi s (st.lk s), st.lk g.1 ||| g.2 = st.lk g.1
  self : st.lk p = h ∨ p ∈ st.O
  don : ∀ g ∈ dn, st.lk g.1 ||| g.2 = st.lk g.1
/-- What is so of each item: it is yet to be looked at, or all that it gives is there. -/
structure LkI (T : Nat) (R : List Ru) (OL : List (List It)) (NL : List (List Int)) (Ls : List SetI) (Nu : List Bool) (Fi : List (List Bool)) (st : LS) : Prop where
  snd : ∀ s t, (st.lk s).testBit t = true → InS OL s ∧ ZMk T R Nu Fi NL Ls s t
  opn : ∀ s ∈ st.O, InS OL s
  cls : ∀ s, InS OL s → s ∈ st.O ∨ ∀ g ∈ givesL T R NL Nu Fi s (st.lk s), st.lk g.1 ||| g.2 = st.lk g.1

theorem or_more {a m x : Nat} (h : a ||| m = a) : (a ||| x) ||| m = a ||| x := by
  rw [Nat.or_assoc, Nat.or_comm x m, ← Nat.or_assoc, h]

theorem LkF.give {p : Spo} {h : Nat} {dn : List (Spo × Nat)} {st : LS} (H : LkF T R OL NL Ls Nu Fi p h dn st) {g : Spo × Nat} (hg : OkG T R Nu Fi NL Ls OL g) : LkF T R OL NL Ls Nu Fi p h (dn ++ [g]) (giveF g st) := by
  unfold giveF
  split
  · rename_i he
    exact ⟨H.snd, H.opn, H.cls, H.self, fun g' hg' => by
      rcases List.mem_append.1 hg' with hg' | hg'
      · exact H.don g' hg'
      · simp only [List.mem_singleton] at hg'; subst hg'; exact he⟩
  · have up : ∀ (a : Spo) (m : Nat), st.lk a ||| m = st.lk a → (if a = g.1 then st.lk g.1 ||| g.2 else st.lk a) ||| m = (if a = g.1 then st.lk g.1 ||| g.2 else st.lk a) := fun a m hm => by
      by_cases ha : a = g.1
      · subst ha; rw [if_pos rfl]; exact or_more hm
      · rw [if_neg ha]; exact hm
    refine ⟨fun s t ht => ?_, fun s hs => ?_, fun s hs hne => ?_, ?_, fun g' hg' => ?_⟩
    · simp only at ht
      by_cases e : s = g.1
      · subst e
        simp only [if_true, Nat.testBit_or, Bool.or_eq_true] at ht
        rcases ht with ht | ht
        · exact H.snd _ t ht
        · exact ⟨hg.1, hg.2 t ht⟩
      · rw [if_neg e] at ht
        exact H.snd s t ht
    · rcases List.mem_append.1 hs with hs | hs
      · exact H.opn s hs
      · simp only [List.mem_singleton] at hs; subst hs; exact hg.1
    · by_cases e : s = g.1
      · exact .inl (by subst e; simp)
      · rcases H.cls s hs hne with h1 | h1
        · exact .inl (List.mem_append_left _ h1)
        · refine .inr fun g' hg' => ?_
          simp only [if_neg e] at hg'
          exact up g'.1 g'.2 (h1 g' hg')
    · rcases H.self with h1 | h1
      · by_cases e : p = g.1
        · exact .inr (by subst e; simp)
        · exact .inl (by simp only; rw [if_neg e]; exact h1)
      · exact .inr (List.mem_append_left _ h1)
    · rcases List.mem_append.1 hg' with hg' | hg'
      · exact up g'.1 g'.2 (H.don g' hg')
      · simp only [List.mem_singleton] at hg'
        subst hg'
        simp only [if_true]
        rw [Nat.or_assoc, Nat.or_self]

theorem LkF.gives {p : Spo} {h : Nat} : ∀ (L dn : List (Spo × Nat)) (st : LS), LkF T R OL NL Ls Nu Fi p h dn st → (∀ g ∈ L, OkG T R Nu Fi NL Ls OL g) → LkF T R OL NL Ls Nu Fi p h (dn ++ L) (givesF L st) := by
  intro L
  induction L with
  | nil => intro dn st H _; simpa [givesF] using H
  | cons g L ih =>
    intro dn st H hL
    have := ih (dn ++ [g]) (giveF g st) (H.give (hL g (by simp))) (fun g' hg' => hL g' (List.mem_cons_of_mem _ hg'))
    rw [List.append_assoc] at this
    exact this

theorem LkI.look (A : AutD T N R OL NL Ls) (hF : ∀ n, (Fi.getD n []).length ≤ T) {lk : Spo → Nat} {O : List Spo} {p : Spo} {c : Nat} (H : LkI T R OL NL Ls Nu Fi ⟨lk, O ++ [p], c⟩) : LkI T R OL NL Ls Nu Fi (lookF T R NL Nu Fi p ⟨lk, O, c⟩) := by
  have hp : InS OL p := H.opn p (by simp)
  have H0 : LkF T R OL NL Ls Nu Fi p (lk p) [] ⟨lk, O, c⟩ := ⟨H.snd, fun s hs => H.opn s (List.mem_append_left _ hs), fun s hs hne => by
    rcases H.cls s hs with h1 | h1
    · rcases List.mem_append.1 h1 with h1 | h1
      · exact .inl h1
      · simp only [List.mem_singleton] at h1; exact absurd h1 hne
    · exact .inr h1, .inl rfl, fun g hg => by cases hg⟩
  have H1 := H0.gives _ _ _ (gives_ok A hF hp fun t ht => (H.snd p t ht).2)
  refine ⟨H1.snd, H1.opn, fun s hs => ?_⟩
  by_cases e : s = p
  · subst e
    rcases H1.self with h1 | h1
    · refine .inr fun g hg => ?_
      have h2 : (lookF T R NL Nu Fi s ⟨lk, O, c⟩).lk s = lk s := h1
      rw [h2] at hg
      exact H1.don g (by simpa using hg)
    · exact .inl h1
  · exact H1.cls s hs e

theorem LkI.give {st : LS} (H : LkI T R OL NL Ls Nu Fi st) {g : Spo × Nat} (hg : OkG T R Nu Fi NL Ls OL g) : LkI T R OL NL Ls Nu Fi (giveF g st) := by
  have key : ∀ p, LkF T R OL NL Ls Nu Fi p (st.lk p) [] st := fun p => ⟨H.snd, H.opn, fun s hs _ => H.cls s hs, .inl rfl, fun g hg => by cases hg⟩
  have h1 := (key g.1).give hg
  refine ⟨h1.snd, h1.opn, fun s hs => ?_⟩
  by_cases e : s = g.1
  · -- the one that is given: if it has won nothing, it is as it was
    unfold giveF
    split
    · exact H.cls s hs
    · exact .inl (by subst e; simp)
  · exact h1.cls s hs e

theorem lki_start (OL : List (List It)) : LkI T R OL NL Ls Nu Fi ⟨fun _ => 0, spotsL OL, 0⟩ :=
  ⟨fun s t h => by simp at h, fun s hs => mem_spots.1 hs, fun s hs => .inl (mem_spots.2 hs)⟩

theorem give_mono {g : Spo × Nat} {st : LS} {s : Spo} {t : Nat} (h : (st.lk s).testBit t = true) : ((giveF g st).lk s).testBit t = true := by
  unfold giveF
  split
  · exact h
  · simp only
    by_cases e : s = g.1
    · subst e; rw [if_pos rfl, Nat.testBit_or, h]; rfl
    · rw [if_neg e]; exact h
theorem gives_mono {s : Spo} {t : Nat} : ∀ (L : List (Spo × Nat)) (st : LS), (st.lk s).testBit t = true → ((givesF L st).lk s).testBit t = true := by
  intro L
  induction L with
  | nil => intro st h; exact h
  | cons g L ih => intro st h; exact ih _ (give_mono h)

/-! ### It ends -/

theorem give_left {g : Spo × Nat} {st : LS} (hg : InS OL g.1 ∧ ∀ t, g.2.testBit t = true → t ≤ T) : phiL OL T (giveF g st) ≤ phiL OL T st := by
  unfold giveF
  split
  · exact Nat.le_refl _
  · rename_i hne
    obtain ⟨t, ht⟩ : ∃ t, (st.lk g.1 ||| g.2).testBit t ≠ (st.lk g.1).testBit t := Classical.byContradiction fun hn => hne (Nat.eq_of_testBit_eq fun t => Classical.byContradiction fun h => hn ⟨t, h⟩)
    rw [Nat.testBit_or] at ht
    have h1 : (st.lk g.1).testBit t = false := by cases h : (st.lk g.1).testBit t <;> simp [h] at ht ⊢
    have h2 : g.2.testBit t = true := by rw [h1] at ht; cases h : g.2.testBit t <;> simp [h] at ht ⊢
    have hlt : leftL OL T (fun s => if s = g.1 then st.lk g.1 ||| g.2 else st.lk s) < leftL OL T st.lk := by
      unfold leftL
      refine (filter_lt _ _ (fun q hq => ?_) (bitsL OL T)).2 ⟨(g.1, t), mem_bits hg.1 (hg.2 t h2), ?_, ?_⟩
      · by_cases e : q.1 = g.1
        · simp only [e, if_true, Nat.testBit_or] at hq
          rw [e]
          cases h : (st.lk g.1).testBit q.2 <;> simp [h] at hq ⊢
        · simp only [if_neg e] at hq; exact hq
      · simp [h1]
      · simp [Nat.testBit_or, h2]
    unfold phiL
    simp only [List.length_append, List.length_cons, List.length_nil]
    omega
theorem gives_left : ∀ (L : List (Spo × Nat)) (st : LS), (∀ g ∈ L, InS OL g.1 ∧ ∀ t, g.2.testBit t = true → t ≤ T) → phiL OL T (givesF L st) ≤ phiL OL T st := by
  intro L
  induction L with
  | nil => intro st _; exact Nat.le_refl _
  | cons g L ih => intro st h; exact Nat.le_trans (ih _ fun g' hg' => h g' (List.mem_cons_of_mem _ hg')) (give_left (h g (by simp)))
theorem look_left (A : AutD T N R OL NL Ls) (hF : ∀ n, (Fi.getD n []).length ≤ T) {lk : Spo → Nat} {O : List Spo} {p : Spo} {c : Nat} (H : LkI T R OL NL Ls Nu Fi ⟨lk, O ++ [p], c⟩) : phiL OL T (lookF T R NL Nu Fi p ⟨lk, O, c⟩) < phiL OL T ⟨lk, O ++ [p], c⟩ := by
  have h1 := gives_left (OL := OL) (T := T) (givesL T R NL Nu Fi p (lk p)) ⟨lk, O, c⟩ fun g hg => by
    obtain ⟨a, b⟩ := gives_ok A hF (H.opn p (by simp)) (fun t ht => (H.snd p t ht).2) g hg
    exact ⟨a, fun t ht => (b t ht).1⟩
  have h2 : phiL OL T ⟨lk, O ++ [p], c⟩ = phiL OL T ⟨lk, O, c⟩ + 1 := by
    unfold phiL
    simp only [List.length_append, List.length_cons, List.length_nil]
    omega
  show phiL OL T (givesF (givesL T R NL Nu Fi p (lk p)) ⟨lk, O, c⟩) < _
  omega

/-! ### All is found -/

theorem or_bit {a m t : Nat} (h : a ||| m = a) (hm : m.testBit t = true) : a.testBit t = true := by
  rw [← h, Nat.testBit_or, hm, Bool.or_true]

theorem looks_found (A : AutD T N R OL NL Ls) (hF : ∀ n, (Fi.getD n []).length ≤ T) {st : LS} (H : LkI T R OL NL Ls Nu Fi st) (hO : st.O = []) (h0 : (st.lk (0, (R.length, 0))).testBit T = true) {k : Nat} {i : It} {t : Nat} (hl : LookQ T R Nu Fi NL Ls k i t) : InS OL (k, i) ∧ (st.lk (k, i)).testBit t = true := by
  have cls : ∀ s, InS OL s → ∀ g ∈ givesL T R NL Nu Fi s (st.lk s), st.lk g.1 ||| g.2 = st.lk g.1 := fun s hs => by
    rcases H.cls s hs with h | h
    · rw [hO] at h; cases h
    · exact h
  have bits : ∀ {k : Nat} {i : It}, InS OL (k, i) → ∀ (t : Nat), (behindM R Nu Fi i).1.testBit t = begF Nu Fi T ((rightF R i.1).drop (i.2 + 1)) t ∧ (behindM R Nu Fi i).2 = nulF Nu ((rightF R i.1).drop (i.2 + 1)) := fun {k i} hi t => by
    have hin : SyIn T N ((rightF R i.1).drop (i.2 + 1)) := fun x hx => A.sym _ (A.item hi).2.1 x (List.mem_of_mem_drop hx)
    obtain ⟨b1, b2⟩ := beh_bit (Nu := Nu) hF t _ 0 hin
    simp only [Nat.zero_testBit, Bool.false_or] at b1
    exact ⟨b1, b2⟩
  have rule : ∀ {k : Nat} {i : It} {m : Int} {n : Nat}, InS OL (k, i) → (rightF R i.1)[i.2]? = some (false, m) → n < R.length → (R.getD n (0, [])).1 = m → st.lk (k, (n, 0)) ||| nexM R Nu Fi i (st.lk (k, i)) = st.lk (k, (n, 0)) := fun {k i m n} hi h1 h2 h3 => by
    refine cls (k, i) hi ((k, (n, 0)), nexM R Nu Fi i (st.lk (k, i))) ?_
    unfold givesL
    simp only
    rw [h1]
    simp only [Bool.false_eq_true, if_false]
    refine List.mem_cons_of_mem _ (List.mem_map.2 ⟨n, ?_, rfl⟩)
    unfold rulesL
    rw [List.mem_filter, List.mem_range]
    exact ⟨h2, by simpa using h3⟩
  induction hl with
  | start => exact ⟨A.zero, h0⟩
  | on _ h1 h2 ih =>
    rename_i k i t s n _
    obtain ⟨a1, a2⟩ := ih
    obtain ⟨o1, o2⟩ := A.on a1 h1
    have et : toN NL T k s = n := by
      simp only at o1
      rw [h2] at o1
      omega
    have hg := cls (k, i) a1 ((toN NL T k s, (i.1, i.2 + 1)), st.lk (k, i)) (by unfold givesL; simp only; rw [h1]; simp)
    simp only [et] at hg o2
    exact ⟨o2, or_bit hg a2⟩
  | begins hk hi h1 h2 h3 ht h4 =>
    rename_i k i t m n
    have a1 : InS OL (k, i) := ⟨by rw [A.sok.len]; exact hk, ((A.sok.rep k (by rw [A.sok.len]; exact hk)).mem i).2 hi⟩
    refine ⟨A.close a1 h1 h2 h3, or_bit (rule a1 h1 h2 h3) ?_⟩
    unfold nexM
    split
    · rw [Nat.testBit_or, (bits a1 t).1, h4]; rfl
    · rw [(bits a1 t).1, h4]
  | nothing _ h1 h2 h3 h4 ih =>
    rename_i k i t m n _
    obtain ⟨a1, a2⟩ := ih
    refine ⟨A.close a1 h1 h2 h3, or_bit (rule a1 h1 h2 h3) ?_⟩
    unfold nexM
    rw [if_pos (by rw [(bits a1 t).2]; exact h4), Nat.testBit_or, a2, Bool.or_true]

theorem looks_are (A : AutD T N R OL NL Ls) (hF : ∀ n, (Fi.getD n []).length ≤ T) {st : LS} (H : LkI T R OL NL Ls Nu Fi st) (hO : st.O = []) (h0 : (st.lk (0, (R.length, 0))).testBit T = true) (k : Nat) (i : It) (t : Nat) : (st.lk (k, i)).testBit t = true ↔ LookQ T R Nu Fi NL Ls k i t :=
  ⟨fun h => (H.snd _ t h).2.2, fun h => (looks_found A hF H hO h0 h).2⟩
end

end Go.Proofs.Ytobegekmgoiopaa

/- A row of numbers that a call has made. No walk. -/
namespace Go.Proofs.Ytobegekmgoiopaa
open Go.RowKit

theorem Try.infoInt : (Try.prog.info? 3).map (fun i => (i.zero, i.size, i.bytes)) = some (some (.int .i64 0), 1, 8) := by kernel_rfl

theorem make_ints (n : Nat) (hn : n ≤ 1000000) (u : World) : (Instr.makeSlice 25 (.int .i64 n) (.int .i64 n)).run Try.prog u = .ok (.slice (some ⟨u.heap.size, 0, none⟩) n n) (u.alloc (.cells (madeCells #[.int .i64 0] n) 3)) := by
  obtain ⟨i0, hi, hz0, hz1, hz2⟩ := info_parts Try.infoInt
  have h := run_make (P := Try.prog) u 25 3 i0 (.int .i64 0) Try.underlying25 hi hz0 .i64 .i64 n n (by omega) (Int.le_refl _) (by rw [hz2]; omega) (by omega)
  simpa [hz1, Value.cells] using h

/-- A row of N numbers of the call's own, at block g. -/
def RowI (w : World) (B g N : Nat) (O : List Int) : Prop := w.ownsRow B 3 1 (.slice (some ⟨g, 0, none⟩) N N) N (O.map (Value.int .i64))

section
variable {w w' : World} {B g N : Nat} {O : List Int}
theorem RowI.len (h : RowI w B g N O) : O.length = N := by
  have : (O.map (Value.int .i64)).length = N * 1 := h.1
  simpa using this
theorem RowI.cell (h : RowI w B g N O) {m : Nat} (hm : m < N) : w.cell? ⟨g, m, none⟩ = some (.int .i64 (O.getD m 0)) ∧ w.frozen? ⟨g, m, none⟩ = false := by
  have hl := h.len
  refine ⟨?_, World.ownsRow.frozenAt h m⟩
  rw [World.ownsRow.cellAt h m (by omega)]
  simp [List.getD, show m < O.length by omega]
theorem RowI.set (h : RowI w B g N O) (m : Nat) (v : Int) : RowI (w.setCell ⟨g, m, none⟩ (.int .i64 v)) B g N (O.set m v) := by
  have := (World.ownsRow.stored h m (.int .i64 v)).1
  unfold RowI
  rwa [List.map_set]
theorem RowI.below (h : RowI w B g N O) (hb : Below w.heap.size w w') : RowI w' B g N O := own_below h hb fun k hk => (World.ownsRow.lt h k hk).2
theorem RowI.mono {B' : Nat} (h : RowI w B g N O) (hB : B' ≤ B) : RowI w B' g N O := own_mono h hB
theorem RowI.list (h : RowI w B g N O) : ListAt w w.heap.size (.slice (some ⟨g, 0, none⟩) N N) O := by
  have hl := h.len
  refine ⟨⟨_, _, by rw [hl]⟩, fun i hi => ⟨g, 0, N, by rw [hl], ?_, ?_⟩⟩
  · exact World.block_lt_of_cell? w _ (h.cell (m := i) (by omega)).1
  · rw [Nat.zero_add]
    exact (h.cell (by omega)).1
end

theorem rowI_made (w : World) {N : Nat} (hN : N ≤ maxLen) : RowI (w.alloc (.cells (madeCells #[.int .i64 0] N) 3)) w.heap.size w.heap.size N (List.replicate N 0) := by
  have := World.ownsRow_lit (base := w.heap.size) (e := 3) (size := 1) w (madeCells #[.int .i64 0] N) N (Nat.le_refl _) hN (by simp [size_madeCells])
  rw [toList_madeCells_one] at this
  unfold RowI
  simpa using this

end Go.Proofs.Ytobegekmgoiopaa
