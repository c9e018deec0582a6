import Derived.Test.YtobegekmgoiopaaMathAndBits
import Derived.Test.YtobegekmgoiopaaRows
import Derived.WalkKit
import Derived.WalkSpells
import Derived.Deep.Cut
import Derived.Deep.CutRange
import Derived.Deep.RegionLaw
import Derived.Deep.RegionWith
import Derived.Deep.DrawnRows
/- Plain: the states of a grammar (F1), as sets of items in the order in which they are found; what lists of items stand for them. -/
namespace Go.Proofs.Ytobegekmgoiopaa
open Classical

abbrev SetI := It → Prop
/-- The symbol with the number x is the next one of an item. -/
def nextIs (T : Nat) (R : List Ru) (i : It) (x : Nat) : Prop := ∃ s, (rightF R i.1)[i.2]? = some s ∧ numF T s = (x : Int)
def kernS (T : Nat) (R : List Ru) (S : SetI) (x : Nat) : SetI := fun j => ∃ i, S i ∧ nextIs T R i x ∧ j = (i.1, i.2 + 1)
def gotoS (T : Nat) (R : List Ru) (S : SetI) (x : Nat) : SetI := Cl R (kernS T R S x)
def noS : SetI := fun _ => False

/-- From the state k by the symbol x: the state's number (-1: none), and the states, one more if it was not there. -/
noncomputable def visit (T : Nat) (R : List Ru) (L : List SetI) (k x : Nat) : Int × List SetI :=
  if ∃ i, L.getD k noS i ∧ nextIs T R i x then
    if h : ∃ n, n < L.length ∧ L.getD n noS = gotoS T R (L.getD k noS) x then (((Classical.choose h : Nat) : Int), L) else ((L.length : Int), L ++ [gotoS T R (L.getD k noS) x])
  else (-1, L)
noncomputable def rowS (T : Nat) (R : List Ru) (k x : Nat) (p : List Int × List SetI) : List Int × List SetI := (p.1 ++ [(visit T R p.2 k x).1], (visit T R p.2 k x).2)
/-- The state k by so many symbols. -/
noncomputable def rowN (T : Nat) (R : List Ru) (k x : Nat) (L : List SetI) : List Int × List SetI := loopN x (rowS T R k) ([], L)
noncomputable def allS (T N : Nat) (R : List Ru) (k : Nat) (p : List (List Int) × List SetI) : List (List Int) × List SetI := (p.1 ++ [(rowN T R k (T + N) p.2).1], (rowN T R k (T + N) p.2).2)
/-- So many states done. -/
noncomputable def allN (T N : Nat) (R : List Ru) (k : Nat) : List (List Int) × List SetI := loopN k (allS T N R) ([], [Cl R fun i => i = (R.length, 0)])

/-- No two states are one. -/
def Dist (L : List SetI) : Prop := ∀ i j, i < L.length → j < L.length → L.getD i noS = L.getD j noS → i = j

section
variable {T N : Nat} {R : List Ru} {L : List SetI} {k x : Nat}

theorem visit_none (h : ¬ ∃ i, L.getD k noS i ∧ nextIs T R i x) : visit T R L k x = (-1, L) := by unfold visit; rw [if_neg h]
theorem visit_old (hd : Dist L) (h : ∃ i, L.getD k noS i ∧ nextIs T R i x) {n : Nat} (hn : n < L.length) (he : L.getD n noS = gotoS T R (L.getD k noS) x) : visit T R L k x = ((n : Int), L) := by
  unfold visit
  have h2 : ∃ n, n < L.length ∧ L.getD n noS = gotoS T R (L.getD k noS) x := ⟨n, hn, he⟩
  rw [if_pos h, dif_pos h2]
  have := Classical.choose_spec h2
  have e := hd _ _ this.1 hn (this.2.trans he.symm)
  rw [e]
theorem visit_new (h : ∃ i, L.getD k noS i ∧ nextIs T R i x) (hno : ∀ n, n < L.length → L.getD n noS ≠ gotoS T R (L.getD k noS) x) : visit T R L k x = ((L.length : Int), L ++ [gotoS T R (L.getD k noS) x]) := by
  unfold visit
  rw [if_pos h, dif_neg (fun ⟨n, hn, he⟩ => hno n hn he)]

theorem visit_len : L.length ≤ (visit T R L k x).2.length := by
  unfold visit
  split
  · split
    · exact Nat.le_refl _
    · simp
  · exact Nat.le_refl _
end

/-- Lists of items that stand for sets. -/
structure RepI (O : List It) (S : SetI) : Prop where
  nod : O.Nodup
  mem : ∀ i, i ∈ O ↔ S i

theorem RepI.eq {O : List It} {S S' : SetI} (h : RepI O S) (h' : RepI O S') : S = S' := funext fun i => propext ((h.mem i).symm.trans (h'.mem i))
/-- What is read on: of the items below j. -/
noncomputable def kernL (T : Nat) (R : List Ru) (O : List It) (x j : Nat) : List It := ((O.take j).filter fun i => decide (nextIs T R i x)).map fun i => (i.1, i.2 + 1)

theorem kernL_nodup {T : Nat} {R : List Ru} {O : List It} {x j : Nat} (h : O.Nodup) : (kernL T R O x j).Nodup := by
  unfold kernL
  have h1 : ((O.take j).filter fun i => decide (nextIs T R i x)).Nodup := (h.sublist (List.take_sublist _ _)).sublist List.filter_sublist
  generalize ((O.take j).filter fun i => decide (nextIs T R i x)) = A at h1
  induction A with
  | nil => simp
  | cons a A ih =>
    rw [List.nodup_cons] at h1
    rw [List.map_cons, List.nodup_cons]
    refine ⟨fun hm => ?_, ih h1.2⟩
    obtain ⟨b, hb, e⟩ := List.mem_map.1 hm
    simp only [Prod.mk.injEq, Nat.add_right_cancel_iff] at e
    exact h1.1 (by rw [show a = b from Prod.ext e.1.symm e.2.symm]; exact hb)

theorem kernL_mem {T : Nat} {R : List Ru} {O : List It} {x : Nat} {S : SetI} (h : RepI O S) : ∀ i, i ∈ kernL T R O x O.length ↔ kernS T R S x i := fun i => by
  unfold kernL kernS
  rw [List.take_length]
  constructor
  · intro hi
    obtain ⟨b, hb, rfl⟩ := List.mem_map.1 hi
    rw [List.mem_filter] at hb
    exact ⟨b, (h.mem b).1 hb.1, by simpa using hb.2, rfl⟩
  · rintro ⟨b, h1, h2, rfl⟩
    exact List.mem_map.2 ⟨b, List.mem_filter.2 ⟨(h.mem b).2 h1, by simpa using h2⟩, rfl⟩

theorem kernL_step {T : Nat} {R : List Ru} {O : List It} {x j : Nat} (hj : j < O.length) : kernL T R O x (j + 1) = kernL T R O x j ++ (if nextIs T R (O.getD j (0, 0)) x then [((O.getD j (0, 0)).1, (O.getD j (0, 0)).2 + 1)] else []) := by
  unfold kernL
  have e : O.getD j (0, 0) = O[j] := by simp [List.getD, hj]
  rw [List.take_succ_eq_append_getElem hj, List.filter_append, List.map_append, e]
  congr 1
  by_cases h : nextIs T R O[j] x
  · simp [h]
  · simp [h]

theorem kernL_nil {T : Nat} {R : List Ru} {O : List It} {x : Nat} {S : SetI} (h : RepI O S) : kernL T R O x O.length = [] ↔ ¬ ∃ i, S i ∧ nextIs T R i x := by
  constructor
  · rintro e ⟨i, h1, h2⟩
    have : (i.1, i.2 + 1) ∈ kernL T R O x O.length := (kernL_mem h _).2 ⟨i, h1, h2, rfl⟩
    rw [e] at this
    cases this
  · intro hn
    refine List.eq_nil_iff_forall_not_mem.2 fun i hi => ?_
    obtain ⟨b, h1, h2, _⟩ := (kernL_mem h i).1 hi
    exact hn ⟨b, h1, h2⟩

/-- Closing what is read on is the next state. -/
theorem rep_goto {T : Nat} {R : List Ru} {O C : List It} {x : Nat} {S : SetI} (h : RepI O S) (hn : C.Nodup) (hC : ∀ i, i ∈ C ↔ Cl R (· ∈ kernL T R O x O.length) i) : RepI C (gotoS T R S x) := by
  refine ⟨hn, fun i => (hC i).trans ?_⟩
  have e : (fun i => i ∈ kernL T R O x O.length) = kernS T R S x := funext fun i => propext (kernL_mem h i)
  unfold gotoS
  rw [← e]

/-! ### Items are small -/

/-- A rule's number, and no more read than there is. -/
def OkIt (R : List Ru) (i : It) : Prop := i.1 ≤ R.length ∧ i.2 ≤ (rightF R i.1).length
def allIt (R : List Ru) : List It := (List.range (R.length + 1)).flatMap fun r => (List.range ((rightF R r).length + 1)).map fun d => (r, d)

theorem okIt_mem {R : List Ru} {i : It} (h : OkIt R i) : i ∈ allIt R := by
  unfold allIt
  rw [List.mem_flatMap]
  exact ⟨i.1, List.mem_range.2 (by have := h.1; omega), List.mem_map.2 ⟨i.2, List.mem_range.2 (by have := h.2; omega), rfl⟩⟩

theorem allIt_len {R : List Ru} (h8 : ∀ r, r ≤ R.length → (rightF R r).length ≤ 8) : (allIt R).length ≤ (R.length + 1) * 9 := by
  unfold allIt
  have : ∀ n, n ≤ R.length + 1 → ((List.range n).flatMap fun r => (List.range ((rightF R r).length + 1)).map fun d => ((r, d) : It)).length ≤ n * 9 := by
    intro n
    induction n with
    | zero => simp
    | succ n ih =>
      intro hn
      rw [List.range_succ, List.flatMap_append, List.length_append]
      have h1 := ih (by omega)
      have h2 := h8 n (by omega)
      simp only [List.flatMap_cons, List.flatMap_nil, List.append_nil, List.length_map, List.length_range]
      omega
  exact this _ (Nat.le_refl _)

theorem ok_len {R : List Ru} (h8 : ∀ r, r ≤ R.length → (rightF R r).length ≤ 8) {O : List It} (hn : O.Nodup) (ho : ∀ i ∈ O, OkIt R i) : O.length ≤ (R.length + 1) * 9 :=
  Nat.le_trans (nodup_sub_length hn fun i hi => okIt_mem (ho i hi)) (allIt_len h8)

theorem cl_ok {R : List Ru} {S : SetI} (hS : ∀ i, S i → OkIt R i) {i : It} (h : Cl R S i) : OkIt R i := by
  induction h with
  | base hb => exact hS _ hb
  | step _ _ h2 _ _ => exact ⟨Nat.le_of_lt h2, Nat.zero_le _⟩

theorem kern_ok {T : Nat} {R : List Ru} {S : SetI} {x : Nat} (hS : ∀ i, S i → OkIt R i) : ∀ i, kernS T R S x i → OkIt R i := by
  rintro i ⟨b, h1, ⟨s, h2, _⟩, rfl⟩
  have := (List.getElem?_eq_some_iff.1 h2).1
  exact ⟨(hS b h1).1, by simp only; omega⟩

end Go.Proofs.Ytobegekmgoiopaa

/- Plain: the lists of items that stand for the states while these are found (F1). -/
namespace Go.Proofs.Ytobegekmgoiopaa
open Classical

/-- Lists of items stand for states, of which no two are one. -/
structure SOk (R : List Ru) (OL : List (List It)) (Ls : List SetI) : Prop where
  len : OL.length = Ls.length
  rep : ∀ i, i < OL.length → RepI (OL.getD i []) (Ls.getD i noS)
  dist : Dist Ls
  ok : ∀ i, i < OL.length → ∀ t ∈ OL.getD i [], OkIt R t
  ne : ∀ i, i < OL.length → OL.getD i [] ≠ []
  head : 0 < OL.length → (OL.getD 0 []).getD 0 (0, 0) = (R.length, 0)

section
variable {T N : Nat} {R : List Ru} {OL : List (List It)} {Ls : List SetI} {k x : Nat}

theorem getD_app {α : Type} {L : List α} {y d : α} {i : Nat} (hi : i < L.length) : (L ++ [y]).getD i d = L.getD i d := by simp [List.getD, List.getElem?_append_left hi]
theorem getD_app_last {α : Type} {L : List α} {y d : α} {i : Nat} (hi : i = L.length) : (L ++ [y]).getD i d = y := by subst hi; simp [List.getD]

theorem SOk.push (h : SOk R OL Ls) {C : List It} {S : SetI} (hC : RepI C S) (hno : ∀ n, n < Ls.length → Ls.getD n noS ≠ S) (hok : ∀ t ∈ C, OkIt R t) (hne : C ≠ []) (hh : OL = [] → C.getD 0 (0, 0) = (R.length, 0)) : SOk R (OL ++ [C]) (Ls ++ [S]) := by
  have hl := h.len
  have cas : ∀ i, i < (OL ++ [C]).length → (i < OL.length ∧ (OL ++ [C]).getD i [] = OL.getD i [] ∧ (Ls ++ [S]).getD i noS = Ls.getD i noS) ∨ (i = OL.length ∧ (OL ++ [C]).getD i [] = C ∧ (Ls ++ [S]).getD i noS = S) := fun i hi => by
    simp only [List.length_append, List.length_cons, List.length_nil] at hi
    rcases Nat.lt_succ_iff_lt_or_eq.1 hi with hi | hi
    · exact .inl ⟨hi, getD_app hi, getD_app (by omega)⟩
    · exact .inr ⟨hi, getD_app_last hi, getD_app_last (by omega)⟩
  refine ⟨by simp [hl], fun i hi => ?_, fun i j hi hj e => ?_, fun i hi => ?_, fun i hi => ?_, fun _ => ?_⟩
  · rcases cas i hi with ⟨h1, h2, h3⟩ | ⟨h1, h2, h3⟩
    · rw [h2, h3]; exact h.rep i h1
    · rw [h2, h3]; exact hC
  · have hi' : i < (OL ++ [C]).length := by simp only [List.length_append, List.length_cons, List.length_nil] at hi ⊢; omega
    have hj' : j < (OL ++ [C]).length := by simp only [List.length_append, List.length_cons, List.length_nil] at hj ⊢; omega
    rcases cas i hi' with ⟨h1, _, h3⟩ | ⟨h1, _, h3⟩ <;> rcases cas j hj' with ⟨k1, _, k3⟩ | ⟨k1, _, k3⟩
    · rw [h3, k3] at e; exact h.dist i j (by omega) (by omega) e
    · rw [h3, k3] at e; exact absurd e (hno i (by omega))
    · rw [h3, k3] at e; exact absurd e.symm (hno j (by omega))
    · omega
  · rcases cas i hi with ⟨h1, h2, _⟩ | ⟨_, h2, _⟩
    · rw [h2]; exact h.ok i h1
    · rw [h2]; exact hok
  · rcases cas i hi with ⟨h1, h2, _⟩ | ⟨_, h2, _⟩
    · rw [h2]; exact h.ne i h1
    · rw [h2]; exact hne
  · cases hO : OL with
    | nil => exact hh hO
    | cons o l =>
      have := h.head (by rw [hO]; simp)
      rw [hO] at this
      exact this

/-- What was looked for among the states below n: the row's cell. -/
def Found (OL : List (List It)) (C : List It) (n : Nat) (z : Int) : Prop :=
  (z = -1 ∧ ∀ i, i < n → alikeF (OL.getD i []) C = false) ∨ ∃ i : Nat, i < n ∧ z = i ∧ alikeF (OL.getD i []) C = true

theorem Found.hit {C : List It} {n : Nat} (ha : alikeF (OL.getD n []) C = true) : Found OL C (n + 1) n := .inr ⟨n, Nat.lt_succ_self _, rfl, ha⟩
theorem Found.range {C : List It} {n : Nat} {z : Int} (h : Found OL C n z) : -1 ≤ z ∧ z < n := by
  rcases h with ⟨rfl, _⟩ | ⟨i, h1, rfl, _⟩ <;> omega

theorem kernL_len {O : List It} {j : Nat} : (kernL T R O x j).length ≤ O.length := by
  unfold kernL
  rw [List.length_map]
  refine Nat.le_trans (List.length_filter_le _ _) ?_
  rw [List.length_take]
  omega

theorem kernL_yes {O : List It} {j r d : Nat} (hj : j < O.length) (he : O.getD j (0, 0) = (r, d)) (h : nextIs T R (r, d) x) : kernL T R O x (j + 1) = kernL T R O x j ++ [(r, d + 1)] := by
  rw [kernL_step hj, he, if_pos h]
theorem kernL_no {O : List It} {j r d : Nat} (hj : j < O.length) (he : O.getD j (0, 0) = (r, d)) (h : ¬ nextIs T R (r, d) x) : kernL T R O x (j + 1) = kernL T R O x j := by
  rw [kernL_step hj, he, if_neg h, List.append_nil]
theorem getD_in {α : Type} {L : List α} {j : Nat} {d : α} (h : j < L.length) : L.getD j d ∈ L := by simp [List.getD, h]

/-! ### What is there stays there -/

theorem visit_pre (L : List SetI) (k x : Nat) : ∃ E, (visit T R L k x).2 = L ++ E := by
  unfold visit
  split
  · split
    · exact ⟨[], by simp⟩
    · exact ⟨_, rfl⟩
  · exact ⟨[], by simp⟩
theorem row_len (k x : Nat) (L : List SetI) : (rowN T R k x L).1.length = x := by
  induction x with
  | zero => rfl
  | succ x ih =>
    have e : rowN T R k (x + 1) L = rowS T R k x (rowN T R k x L) := rfl
    rw [e, rowS]
    simp [ih]
theorem row_pre (k x : Nat) (L : List SetI) : ∃ E, (rowN T R k x L).2 = L ++ E := by
  induction x with
  | zero => exact ⟨[], by simp [rowN, loopN]⟩
  | succ x ih =>
    obtain ⟨E, hE⟩ := ih
    have e : rowN T R k (x + 1) L = rowS T R k x (rowN T R k x L) := rfl
    obtain ⟨F, hF⟩ := visit_pre (T := T) (R := R) (rowN T R k x L).2 k x
    exact ⟨E ++ F, by rw [e, rowS]; simp only; rw [hF, hE, List.append_assoc]⟩
theorem row_le {k x y : Nat} {L : List SetI} (h : x ≤ y) : (rowN T R k x L).2.length ≤ (rowN T R k y L).2.length := by
  induction h with
  | refl => exact Nat.le_refl _
  | step _ ih =>
    rename_i m _
    have e : rowN T R k (m + 1) L = rowS T R k m (rowN T R k m L) := rfl
    rw [e, rowS]
    exact Nat.le_trans ih visit_len
theorem all_len (k : Nat) : (allN T N R k).1.length = k := by
  induction k with
  | zero => rfl
  | succ k ih =>
    have e : allN T N R (k + 1) = allS T N R k (allN T N R k) := rfl
    rw [e, allS]
    simp [ih]
theorem all_le {j k : Nat} (h : j ≤ k) : (allN T N R j).2.length ≤ (allN T N R k).2.length := by
  induction h with
  | refl => exact Nat.le_refl _
  | step _ ih =>
    rename_i m _
    have e : allN T N R (m + 1) = allS T N R m (allN T N R m) := rfl
    obtain ⟨E, hE⟩ := row_pre (T := T) (R := R) m (T + N) (allN T N R m).2
    rw [e, allS]
    simp only
    rw [hE, List.length_append]
    omega

/-- There are just so many states. -/
def Whole (T N : Nat) (R : List Ru) (K : Nat) : Prop := (allN T N R K).2.length = K
/-- There are more than so many. -/
def More (T N : Nat) (R : List Ru) (m : Nat) : Prop := ∃ k x, k < (allN T N R k).2.length ∧ x ≤ T + N ∧ m < (rowN T R k x (allN T N R k).2).2.length

theorem whole_or {K m : Nat} (h : Whole T N R K) (hK : K ≤ m) : ¬ More T N R m := by
  rintro ⟨k, x, h1, h2, h3⟩
  by_cases hk : k < K
  · have e : allN T N R (k + 1) = allS T N R k (allN T N R k) := rfl
    have l1 := row_le (T := T) (R := R) (k := k) (L := (allN T N R k).2) h2
    have l2 : (rowN T R k (T + N) (allN T N R k).2).2.length = (allN T N R (k + 1)).2.length := by rw [e, allS]
    have l3 := all_le (T := T) (N := N) (R := R) (show k + 1 ≤ K by omega)
    unfold Whole at h
    omega
  · -- beyond the last state nothing is there to go on
    have hfix : ∀ j, K ≤ j → (allN T N R j).2.length = K := by
      intro j hj
      induction hj with
      | refl => exact h
      | step hj ih =>
        rename_i j
        have e : allN T N R (j + 1) = allS T N R j (allN T N R j) := rfl
        have hno : ∀ y L, L.length = K → (rowN T R j y L).2 = L := by
          intro y L hL
          induction y with
          | zero => rfl
          | succ y ihy =>
            have e2 : rowN T R j (y + 1) L = rowS T R j y (rowN T R j y L) := rfl
            rw [e2, rowS]
            simp only
            rw [ihy, visit_none]
            rintro ⟨i, hi, _⟩
            rw [List.getD, List.getElem?_eq_none (by have hj' : K ≤ j := hj; omega)] at hi
            exact hi
        rw [e, allS]
        simp only
        rw [hno _ _ ih]
        exact ih
    have := hfix k (by omega)
    omega
end

end Go.Proofs.Ytobegekmgoiopaa

/- Plain: where states go on (F1): of all states that were found; and lookaheads (F2) as the least sets. -/
namespace Go.Proofs.Ytobegekmgoiopaa
open Classical

section
variable {T N : Nat} {R : List Ru}

/-- From the state k by the symbol x one comes to z. -/
structure GoOk (T : Nat) (R : List Ru) (Ls : List SetI) (k x : Nat) (z : Int) : Prop where
  some : (∃ i, Ls.getD k noS i ∧ nextIs T R i x) → ∃ n : Nat, z = n ∧ n < Ls.length ∧ Ls.getD n noS = gotoS T R (Ls.getD k noS) x
  none : (¬ ∃ i, Ls.getD k noS i ∧ nextIs T R i x) → z = -1

theorem getD_pre {L E : List SetI} {n : Nat} (h : n < L.length) : (L ++ E).getD n noS = L.getD n noS := by simp [List.getD, List.getElem?_append_left h]

theorem GoOk.more {Ls : List SetI} {k x : Nat} {z : Int} (h : GoOk T R Ls k x z) (hk : k < Ls.length) (E : List SetI) : GoOk T R (Ls ++ E) k x z := by
  refine ⟨fun hx => ?_, fun hx => ?_⟩
  · rw [getD_pre hk] at hx ⊢
    obtain ⟨n, h1, h2, h3⟩ := h.some hx
    exact ⟨n, h1, by simp; omega, by rw [getD_pre h2]; exact h3⟩
  · rw [getD_pre hk] at hx
    exact h.none hx

theorem visit_go {L : List SetI} {k x : Nat} (hk : k < L.length) : GoOk T R (visit T R L k x).2 k x (visit T R L k x).1 := by
  unfold visit
  by_cases h : ∃ i, L.getD k noS i ∧ nextIs T R i x
  · rw [if_pos h]
    by_cases h2 : ∃ n, n < L.length ∧ L.getD n noS = gotoS T R (L.getD k noS) x
    · rw [dif_pos h2]
      exact ⟨fun _ => ⟨_, rfl, (Classical.choose_spec h2).1, (Classical.choose_spec h2).2⟩, fun hn => absurd h hn⟩
    · rw [dif_neg h2]
      refine ⟨fun _ => ⟨L.length, rfl, by simp, ?_⟩, fun hn => ?_⟩
      · rw [getD_pre hk]; simp [List.getD]
      · rw [getD_pre hk] at hn; exact absurd h hn
  · rw [if_neg h]
    exact ⟨fun hh => absurd hh h, fun _ => rfl⟩

theorem row_go {L : List SetI} {k : Nat} (hk : k < L.length) (x : Nat) : ∀ y, y < x → GoOk T R (rowN T R k x L).2 k y ((rowN T R k x L).1.getD y 0) := by
  induction x with
  | zero => intro y hy; exact absurd hy (Nat.not_lt_zero _)
  | succ x ih =>
    intro y hy
    have e : rowN T R k (x + 1) L = rowS T R k x (rowN T R k x L) := rfl
    obtain ⟨E, hE⟩ := row_pre (T := T) (R := R) k x L
    have hk' : k < (rowN T R k x L).2.length := by rw [hE, List.length_append]; omega
    have hl := row_len (T := T) (R := R) k x L
    rw [e, rowS]
    simp only
    rcases Nat.lt_succ_iff_lt_or_eq.1 hy with hy | rfl
    · obtain ⟨F, hF⟩ := visit_pre (T := T) (R := R) (rowN T R k x L).2 k x
      rw [hF]
      have := (ih y hy).more hk' F
      have e2 : ((rowN T R k x L).1 ++ [(visit T R (rowN T R k x L).2 k x).1]).getD y 0 = (rowN T R k x L).1.getD y 0 := by simp [List.getD, List.getElem?_append_left (show y < (rowN T R k x L).1.length by omega)]
      rw [e2]
      exact this
    · have e2 : ((rowN T R k y L).1 ++ [(visit T R (rowN T R k y L).2 k y).1]).getD y 0 = (visit T R (rowN T R k y L).2 k y).1 := by
        rw [List.getD, List.getElem?_append_right (by omega), hl]; simp
      rw [e2]
      exact visit_go hk'

theorem all_pre (j k : Nat) (h : j ≤ k) : ∃ E, (allN T N R k).2 = (allN T N R j).2 ++ E := by
  induction h with
  | refl => exact ⟨[], by simp⟩
  | step _ ih =>
    rename_i m _
    obtain ⟨E, hE⟩ := ih
    obtain ⟨F, hF⟩ := row_pre (T := T) (R := R) m (T + N) (allN T N R m).2
    have e : allN T N R (m + 1) = allS T N R m (allN T N R m) := rfl
    exact ⟨E ++ F, by rw [e, allS]; simp only; rw [hF, hE, List.append_assoc]⟩

/-- Of all states done: where they go on. -/
theorem all_go {K : Nat} (hK : ∀ k, k < K → k < (allN T N R k).2.length) : ∀ k, k < K → ∀ x, x < T + N → ((allN T N R K).1.getD k []).length = T + N ∧ GoOk T R (allN T N R K).2 k x (((allN T N R K).1.getD k []).getD x 0) := by
  induction K with
  | zero => intro k hk; exact absurd hk (Nat.not_lt_zero _)
  | succ K ih =>
    intro k hk x hx
    have e : allN T N R (K + 1) = allS T N R K (allN T N R K) := rfl
    have hl := all_len (T := T) (N := N) (R := R) K
    obtain ⟨F, hF⟩ := row_pre (T := T) (R := R) K (T + N) (allN T N R K).2
    rw [e, allS]
    simp only
    rcases Nat.lt_succ_iff_lt_or_eq.1 hk with hk | rfl
    · obtain ⟨h1, h2⟩ := ih (fun k hk => hK k (by omega)) k hk x hx
      have e2 : ((allN T N R K).1 ++ [(rowN T R K (T + N) (allN T N R K).2).1]).getD k [] = (allN T N R K).1.getD k [] := by simp [List.getD, List.getElem?_append_left (show k < (allN T N R K).1.length by omega)]
      have hkl : k < (allN T N R K).2.length := Nat.lt_of_lt_of_le (hK k (by omega)) (all_le (by omega))
      rw [e2, hF]
      exact ⟨h1, h2.more hkl F⟩
    · have e2 : ((allN T N R k).1 ++ [(rowN T R k (T + N) (allN T N R k).2).1]).getD k [] = (rowN T R k (T + N) (allN T N R k).2).1 := by
        rw [List.getD, List.getElem?_append_right (by omega), hl]; simp
      rw [e2]
      exact ⟨row_len _ _ _, row_go (hK k (by omega)) (T + N) x hx⟩

/-- Where there are just K states, each of them is there when its turn comes. -/
theorem whole_reach {K : Nat} (h : Whole T N R K) : ∀ k, k < K → k < (allN T N R k).2.length := by
  intro k hk
  refine Classical.byContradiction fun hn => ?_
  have hfix : ∀ j, k ≤ j → (allN T N R j).2.length ≤ k := by
    intro j hj
    induction hj with
    | refl => omega
    | step hj ih =>
      rename_i j
      have e : allN T N R (j + 1) = allS T N R j (allN T N R j) := rfl
      have hno : ∀ y L, L.length ≤ k → (rowN T R j y L).2 = L := by
        intro y L hL
        induction y with
        | zero => rfl
        | succ y ihy =>
          have e2 : rowN T R j (y + 1) L = rowS T R j y (rowN T R j y L) := rfl
          rw [e2, rowS]
          simp only
          rw [ihy, visit_none]
          rintro ⟨i, hi, _⟩
          rw [List.getD, List.getElem?_eq_none (by have hj' : k ≤ j := hj; omega)] at hi
          exact hi
      rw [e, allS]
      simp only
      rw [hno _ _ ih]
      exact ih
  have := hfix K (by omega)
  unfold Whole at h
  omega

/-- Each state is what closes something. -/
def ClosedS (R : List Ru) (S : SetI) : Prop := ∃ S0, S = Cl R S0
theorem visit_closed {L : List SetI} {k x : Nat} (h : ∀ S ∈ L, ClosedS R S) : ∀ S ∈ (visit T R L k x).2, ClosedS R S := by
  unfold visit
  split
  · split
    · exact h
    · intro S hS
      rcases List.mem_append.1 hS with hS | hS
      · exact h S hS
      · simp only [List.mem_singleton] at hS
        exact ⟨_, hS⟩
  · exact h
theorem all_closed (k : Nat) : ∀ S ∈ (allN T N R k).2, ClosedS R S := by
  induction k with
  | zero => intro S hS; simp only [allN, loopN, List.mem_singleton] at hS; exact ⟨_, hS⟩
  | succ k ih =>
    have e : allN T N R (k + 1) = allS T N R k (allN T N R k) := rfl
    rw [e, allS]
    simp only
    have : ∀ x L, (∀ S ∈ L, ClosedS R S) → ∀ S ∈ (rowN T R k x L).2, ClosedS R S := by
      intro x L hL
      induction x with
      | zero => exact hL
      | succ x ihx =>
        have e : rowN T R k (x + 1) L = rowS T R k x (rowN T R k x L) := rfl
        rw [e, rowS]
        exact visit_closed ihx
    exact this _ _ ih

/-- A state holds what closes it. -/
theorem closed_step {S : SetI} (h : ClosedS R S) {i : It} (hi : S i) {m : Int} (h1 : (rightF R i.1)[i.2]? = some (false, m)) {n : Nat} (h2 : n < R.length) (h3 : (R.getD n (0, [])).1 = m) : S (n, 0) := by
  obtain ⟨S0, rfl⟩ := h
  exact Cl.step (r := i.1) (d := i.2) hi h1 h2 h3

/-- An item that is read on is in the next state. -/
theorem goto_item {S : SetI} {i : It} (hi : S i) {s : Sy} {x : Nat} (h1 : (rightF R i.1)[i.2]? = some s) (h2 : numF T s = x) : gotoS T R S x (i.1, i.2 + 1) := Cl.base ⟨i, hi, ⟨s, h1, h2⟩, rfl⟩
end

/-! ### Lookaheads -/

/-- beg, nul: what symbols may begin with; whether they may be nothing. -/
inductive LookP (T : Nat) (R : List Ru) (beg : List Sy → Nat → Bool) (nul : List Sy → Bool) (NL : List (List Int)) (Ls : List SetI) : Nat → It → Nat → Prop
  | start : LookP T R beg nul NL Ls 0 (R.length, 0) T
  | on {k : Nat} {i : It} {t : Nat} {s : Sy} {n : Nat} (h : LookP T R beg nul NL Ls k i t) (h1 : (rightF R i.1)[i.2]? = some s) (h2 : (NL.getD k []).getD (numF T s).toNat 0 = (n : Int)) : LookP T R beg nul NL Ls n (i.1, i.2 + 1) t
  | begins {k : Nat} {i : It} {t : Nat} {m : Int} {n : Nat} (hk : k < Ls.length) (h : Ls.getD k noS i) (h1 : (rightF R i.1)[i.2]? = some (false, m)) (h2 : n < R.length) (h3 : (R.getD n (0, [])).1 = m) (ht : t ≤ T) (h4 : beg ((rightF R i.1).drop (i.2 + 1)) t = true) : LookP T R beg nul NL Ls k (n, 0) t
  | nothing {k : Nat} {i : It} {t : Nat} {m : Int} {n : Nat} (h : LookP T R beg nul NL Ls k i t) (h1 : (rightF R i.1)[i.2]? = some (false, m)) (h2 : n < R.length) (h3 : (R.getD n (0, [])).1 = m) (h4 : nul ((rightF R i.1).drop (i.2 + 1)) = true) : LookP T R beg nul NL Ls k (n, 0) t

end Go.Proofs.Ytobegekmgoiopaa

/- The contract of pollardingref6's behind. -/
namespace Go.Proofs.Ytobegekmgoiopaa
open Go.RowKit

/-- May a term (or the end) begin symbols; may they all be nothing? -/
def behF (Nu : List Bool) (Fi : List (List Bool)) (T t : Nat) : List Sy → Bool × Bool
  | [] => (false, true)
  | (true, v) :: _ => (decide (v = (t : Int)), false)
  | (false, v) :: l => if decide (t < T) && (Fi.getD v.toNat []).getD t false then (true, false) else if Nu.getD v.toNat false then behF Nu Fi T t l else (false, false)

end Go.Proofs.Ytobegekmgoiopaa

/- Plain: lookaheads that are spread, step by step, till nothing grows (F2). -/
namespace Go.Proofs.Ytobegekmgoiopaa

abbrev LkX := Nat × Nat → List Bool
abbrev LkS := LkX × Bool

/-- Nothing is lost; the mark tells whether something was won. -/
structure UpL (dom : Nat × Nat → Option Nat) (X Y : LkX) (g : Bool) : Prop where
  shp : ∀ p n, dom p = some n → (Y p).length = n
  up : ∀ p m, bit X p m = true → bit Y p m = true
  still : g = false → Y = X
  grew : g = true → ∃ p m n, dom p = some n ∧ m < n ∧ bit X p m = false ∧ bit Y p m = true
def putL (p : Nat × Nat) (t : Nat) (s : LkS) : LkS := if bit s.1 p t then s else (setX s.1 p t true, true)
/-- A step that tells whether it has won something, behind others. -/
def acc (F : Nat → LkX → LkS) (i : Nat) (s : LkS) : LkS := ((F i s.1).1, s.2 || (F i s.1).2)

section
variable {dom : Nat × Nat → Option Nat} {Z : Nat × Nat → Nat → Prop} {X Y W : LkX} {g h : Bool}

theorem UpL.refl (hs : ∀ p n, dom p = some n → (X p).length = n) : UpL dom X X false := ⟨hs, fun _ _ h => h, fun _ => rfl, fun h => (nomatch h)⟩
theorem UpL.trans (a : UpL dom X Y g) (b : UpL dom Y W h) : UpL dom X W (g || h) := by
  refine ⟨b.shp, fun p m hm => b.up p m (a.up p m hm), fun e => ?_, fun e => ?_⟩
  · rw [Bool.or_eq_false_iff] at e
    rw [b.still e.2, a.still e.1]
  · cases g with
    | true =>
      obtain ⟨p, m, n, h1, h2, h3, h4⟩ := a.grew rfl
      exact ⟨p, m, n, h1, h2, h3, b.up p m h4⟩
    | false =>
      obtain ⟨p, m, n, h1, h2, h3, h4⟩ := b.grew (by simpa using e)
      rw [a.still rfl] at h3
      exact ⟨p, m, n, h1, h2, h3, h4⟩

end

/-! ### One step -/

section
variable (OL : List (List It)) (NL : List (List Int)) (R : List Ru) (T : Nat) (Nu : List Bool) (Fi : List (List Bool))

/-- The state that an item is read on in; where it stands there. -/
def toN (k : Nat) (s : Sy) : Nat := ((NL.getD k []).getD (numF T s).toNat 0).toNat
def itemN (k j : Nat) : It := (OL.getD k []).getD j (0, 0)
end

/-- What the steps lean on: the states, where they go on, how long the rows are. -/
structure AutoOk (T N : Nat) (R : List Ru) (OL : List (List It)) (NL : List (List Int)) (Ls : List SetI) (dom : Nat × Nat → Option Nat) : Prop where
  sok : SOk R OL Ls
  len : NL.length = OL.length
  go : ∀ k, k < OL.length → ∀ x, x < T + N → (NL.getD k []).length = T + N ∧ GoOk T R Ls k x ((NL.getD k []).getD x 0)
  cl : ∀ k, k < OL.length → ClosedS R (Ls.getD k noS)
  dom : ∀ k j, dom (k, j) = if k < OL.length ∧ j < (OL.getD k []).length then some (T + 1) else none
  num : ∀ r, r ≤ R.length → ∀ s ∈ rightF R r, 0 ≤ numF T s ∧ numF T s < (T : Int) + N

section
variable {T N : Nat} {R : List Ru} {OL : List (List It)} {NL : List (List Int)} {Ls : List SetI} {dom : Nat × Nat → Option Nat} {Nu : List Bool} {Fi : List (List Bool)} {k j t : Nat} {X : LkX}

theorem AutoOk.item (h : AutoOk T N R OL NL Ls dom) (hk : k < OL.length) (hj : j < (OL.getD k []).length) : itemN OL k j ∈ OL.getD k [] ∧ Ls.getD k noS (itemN OL k j) ∧ OkIt R (itemN OL k j) := by
  have hm : itemN OL k j ∈ OL.getD k [] := getD_in hj
  exact ⟨hm, ((h.sok.rep k hk).mem _).1 hm, h.sok.ok k hk _ hm⟩
/-- Reading on: there is a state, and the item is in it. -/
theorem AutoOk.on (h : AutoOk T N R OL NL Ls dom) (hk : k < OL.length) (hj : j < (OL.getD k []).length) {s : Sy} (hs : (rightF R (itemN OL k j).1)[(itemN OL k j).2]? = some s) :
    (NL.getD k []).getD (numF T s).toNat 0 = ((toN NL T k s : Nat) : Int) ∧ toN NL T k s < OL.length ∧ ((itemN OL k j).1, (itemN OL k j).2 + 1) ∈ OL.getD (toN NL T k s) [] ∧ (numF T s).toNat < T + N ∧ ((numF T s).toNat : Int) = numF T s := by
  obtain ⟨h1, h2, h3⟩ := h.item hk hj
  have hn := h.num _ h3.1 s (List.mem_of_getElem? hs)
  have hx : (numF T s).toNat < T + N := by omega
  have hcast : ((numF T s).toNat : Int) = numF T s := by omega
  obtain ⟨hl, hg⟩ := h.go k hk _ hx
  obtain ⟨n, e1, e2, e3⟩ := hg.some ⟨_, h2, s, hs, hcast.symm⟩
  have et : toN NL T k s = n := by unfold toN; rw [e1]; simp
  rw [et, e1]
  have hn' : n < OL.length := by rw [h.sok.len]; exact e2
  refine ⟨rfl, hn', ((h.sok.rep n hn').mem _).2 ?_, hx, hcast⟩
  rw [e3]
  exact goto_item h2 hs hcast.symm
/-- Closing: the rule is in the state. -/
theorem AutoOk.close (h : AutoOk T N R OL NL Ls dom) (hk : k < OL.length) (hj : j < (OL.getD k []).length) {m : Int} (hs : (rightF R (itemN OL k j).1)[(itemN OL k j).2]? = some (false, m)) {n : Nat} (hn : n < R.length) (hL : (R.getD n (0, [])).1 = m) : (n, 0) ∈ OL.getD k [] :=
  ((h.sok.rep k hk).mem _).2 (closed_step (h.cl k hk) (h.item hk hj).2.1 hs hn hL)

end

end Go.Proofs.Ytobegekmgoiopaa

/- Plain: the least set that an operator holds, by rounds. No program, no memory. -/
namespace Go.Proofs.Ytobegekmgoiopaa
open Classical

/-- What so many rounds of an operator make. -/
def Lv (F : (Int → Prop) → Int → Prop) : Nat → Int → Prop
  | 0, _ => False
  | k + 1, n => F (Lv F k) n

/-- An operator that grows, on the numbers from 0 to below N. -/
structure Mono (N : Nat) (F : (Int → Prop) → Int → Prop) : Prop where
  mono : ∀ A B : Int → Prop, (∀ n, A n → B n) → ∀ n, F A n → F B n
  bound : ∀ A n, F A n → 0 ≤ n ∧ n < (N : Int)

theorem Lv_succ {N : Nat} {F : (Int → Prop) → Int → Prop} (h : Mono N F) : ∀ k n, Lv F k n → Lv F (k + 1) n := by
  intro k
  induction k with
  | zero => intro n hn; exact hn.elim
  | succ k ih => intro n hn; exact h.mono _ _ ih n hn

theorem Lv_le {N : Nat} {F : (Int → Prop) → Int → Prop} (h : Mono N F) {k m : Nat} (hkm : k ≤ m) : ∀ n, Lv F k n → Lv F m n := by
  induction hkm with
  | refl => intro n hn; exact hn
  | step _ ih => intro n hn; exact Lv_succ h _ n (ih n hn)

noncomputable def cnt (N : Nat) (A : Int → Prop) : Nat := ((List.range N).filter fun i => decide (A (i : Nat))).length

theorem cnt_le (N : Nat) (A : Int → Prop) : cnt N A ≤ N := by
  have := List.length_filter_le (fun i : Nat => decide (A i)) (List.range N)
  simpa [cnt] using this

theorem filter_lt {α : Type} (p q : α → Bool) (h : ∀ x, p x = true → q x = true) : ∀ (l : List α),
    (l.filter p).length ≤ (l.filter q).length ∧ ((∃ x ∈ l, q x = true ∧ p x = false) → (l.filter p).length < (l.filter q).length) := by
  intro l
  induction l with
  | nil => simp
  | cons a r ih =>
    obtain ⟨ih1, ih2⟩ := ih
    cases hp : p a with
    | true =>
      have hq := h a hp
      simp only [List.filter_cons, hp, hq, if_true, List.length_cons]
      refine ⟨by omega, ?_⟩
      rintro ⟨x, hx, h1, h2⟩
      have : x ∈ r := by
        rcases List.mem_cons.1 hx with rfl | hx
        · rw [hp] at h2; cases h2
        · exact hx
      have := ih2 ⟨x, this, h1, h2⟩
      omega
    | false =>
      cases hq : q a with
      | true =>
        simp only [List.filter_cons, hp, hq, if_true, List.length_cons, Bool.false_eq_true, if_false]
        exact ⟨by omega, fun _ => by omega⟩
      | false =>
        simp only [List.filter_cons, hp, hq, Bool.false_eq_true, if_false]
        refine ⟨ih1, ?_⟩
        rintro ⟨x, hx, h1, h2⟩
        have : x ∈ r := by
          rcases List.mem_cons.1 hx with rfl | hx
          · rw [hq] at h1; cases h1
          · exact hx
        exact ih2 ⟨x, this, h1, h2⟩

theorem cnt_lt {N : Nat} {A B : Int → Prop} (h : ∀ n, A n → B n) {n : Int} (h0 : 0 ≤ n) (h1 : n < (N : Int)) (hb : B n) (ha : ¬ A n) : cnt N A < cnt N B := by
  obtain ⟨k, rfl⟩ : ∃ k : Nat, n = k := ⟨n.toNat, by omega⟩
  refine (filter_lt (fun i : Nat => decide (A i)) (fun i : Nat => decide (B i)) (fun x hx => ?_) (List.range N)).2 ⟨k, List.mem_range.2 (by omega), ?_, ?_⟩
  · simp only [decide_eq_true_eq] at hx ⊢; exact h _ hx
  · simpa using hb
  · simpa using ha

/-- N rounds are enough. -/
theorem Lv_stop {N : Nat} {F : (Int → Prop) → Int → Prop} (h : Mono N F) : ∀ m n, Lv F m n → Lv F N n := by
  have ex : ∃ k, k ≤ N ∧ ∀ n, Lv F (k + 1) n → Lv F k n := by
    refine byContradiction fun hno => ?_
    have grow : ∀ k, k ≤ N + 1 → k ≤ cnt N (Lv F k) := by
      intro k
      induction k with
      | zero => intro _; exact Nat.zero_le _
      | succ k ih =>
        intro hk
        have h1 := ih (by omega)
        have h2 : ∃ n, Lv F (k + 1) n ∧ ¬ Lv F k n := by
          refine byContradiction fun hn => hno ⟨k, by omega, fun n hn' => byContradiction fun hc => hn ⟨n, hn', hc⟩⟩
        obtain ⟨n, h3, h4⟩ := h2
        have hb := h.bound _ n h3
        have := cnt_lt (Lv_succ h k) hb.1 hb.2 h3 h4
        omega
    have h1 := grow (N + 1) (Nat.le_refl _)
    have h2 := cnt_le N (Lv F (N + 1))
    omega
  obtain ⟨k, hk, hstop⟩ := ex
  have all : ∀ m n, Lv F m n → Lv F k n := by
    intro m
    induction m with
    | zero => intro n hn; exact hn.elim
    | succ m ih => intro n hn; exact hstop n (h.mono _ _ ih n hn)
  exact fun m n hn => Lv_le h hk n (all m n hn)

/-- What N rounds make is held. -/
theorem Lv_closed {N : Nat} {F : (Int → Prop) → Int → Prop} (h : Mono N F) : ∀ n, F (Lv F N) n → Lv F N n := fun n hn => Lv_stop h (N + 1) n hn

/-- .. and in whatever is held. -/
theorem Lv_least {F : (Int → Prop) → Int → Prop} (mono : ∀ A B : Int → Prop, (∀ n, A n → B n) → ∀ n, F A n → F B n) {A : Int → Prop} (hA : ∀ n, F A n → A n) : ∀ k n, Lv F k n → A n := by
  intro k
  induction k with
  | zero => intro n hn; exact hn.elim
  | succ k ih => intro n hn; exact hA n (mono _ _ ih n hn)

/-! ### Sets of grammars -/

/-- All symbols are names of A. -/
def AllN (A : Int → Prop) (l : List Sy) : Prop := ∀ s ∈ l, s.1 = false ∧ A s.2
def NullF (R : List Ru) (A : Int → Prop) (n : Int) : Prop := ∃ r ∈ R, r.1 = n ∧ AllN A r.2
/-- Symbols may begin with the term t, where names of A may, and those of Nu be nothing. -/
def Beg (Nu A : Int → Prop) (t : Int) (l : List Sy) : Prop := ∃ i s, l[i]? = some s ∧ ((s.1 = true ∧ s.2 = t) ∨ (s.1 = false ∧ A s.2)) ∧ AllN Nu (l.take i)
def FirstF (R : List Ru) (Nu : Int → Prop) (t : Int) (A : Int → Prop) (n : Int) : Prop := ∃ r ∈ R, r.1 = n ∧ Beg Nu A t r.2
def FollowF (R : List Ru) (Nu : Int → Prop) (Fi : Int → Int → Prop) (T t : Int) (A : Int → Prop) (n : Int) : Prop :=
  (n = 0 ∧ t = T) ∨ ∃ r ∈ R, ∃ k, r.2[k]? = some (false, n) ∧ ((t < T ∧ Beg Nu (Fi t) t (r.2.drop (k + 1))) ∨ (AllN Nu (r.2.drop (k + 1)) ∧ A r.1))

theorem AllN.mono {A B : Int → Prop} (h : ∀ n, A n → B n) {l : List Sy} (hl : AllN A l) : AllN B l := fun s hs => ⟨(hl s hs).1, h _ (hl s hs).2⟩
theorem Beg.mono {Nu A B : Int → Prop} {t : Int} (h : ∀ n, A n → B n) {l : List Sy} (hl : Beg Nu A t l) : Beg Nu B t l := by
  obtain ⟨i, s, h1, h2, h3⟩ := hl
  refine ⟨i, s, h1, ?_, h3⟩
  rcases h2 with h2 | ⟨h2, h4⟩
  · exact .inl h2
  · exact .inr ⟨h2, h _ h4⟩

theorem NullF_up (R : List Ru) (A B : Int → Prop) (h : ∀ n, A n → B n) (n : Int) (hn : NullF R A n) : NullF R B n := by
  obtain ⟨r, h1, h2, h3⟩ := hn
  exact ⟨r, h1, h2, h3.mono h⟩
theorem FirstF_up (R : List Ru) (Nu : Int → Prop) (t : Int) (A B : Int → Prop) (h : ∀ n, A n → B n) (n : Int) (hn : FirstF R Nu t A n) : FirstF R Nu t B n := by
  obtain ⟨r, h1, h2, h3⟩ := hn
  exact ⟨r, h1, h2, h3.mono h⟩
theorem FollowF_up (R : List Ru) (Nu : Int → Prop) (Fi : Int → Int → Prop) (T t : Int) (A B : Int → Prop) (h : ∀ n, A n → B n) (n : Int) (hn : FollowF R Nu Fi T t A n) : FollowF R Nu Fi T t B n := by
  rcases hn with hn | ⟨r, h1, k, h2, h3⟩
  · exact .inl hn
  · refine .inr ⟨r, h1, k, h2, ?_⟩
    rcases h3 with h3 | ⟨h3, h4⟩
    · exact .inl h3
    · exact .inr ⟨h3, h _ h4⟩

/-- What A1 says of a rule's names. -/
structure Fine (T N : Nat) (R : List Ru) : Prop where
  left : ∀ r ∈ R, 0 ≤ r.1 ∧ r.1 < (N : Int)
  name : ∀ r ∈ R, ∀ s ∈ r.2, s.1 = false → 0 ≤ s.2 ∧ s.2 < (N : Int)
  term : ∀ r ∈ R, ∀ s ∈ r.2, s.1 = true → 0 ≤ s.2 ∧ s.2 < (T : Int)
  some : 1 ≤ N

section
variable {T N : Nat} {R : List Ru} (h : Fine T N R)
include h

theorem NullF_mono : Mono N (NullF R) := ⟨fun A B => NullF_up R A B, fun A n hn => by obtain ⟨r, h1, rfl, _⟩ := hn; exact h.left r h1⟩
theorem FirstF_mono (Nu : Int → Prop) (t : Int) : Mono N (FirstF R Nu t) := ⟨fun A B => FirstF_up R Nu t A B, fun A n hn => by obtain ⟨r, h1, rfl, _⟩ := hn; exact h.left r h1⟩
theorem FollowF_mono (Nu : Int → Prop) (Fi : Int → Int → Prop) (t : Int) : Mono N (FollowF R Nu Fi T t) := ⟨fun A B => FollowF_up R Nu Fi T t A B, fun A n hn => by
  rcases hn with ⟨rfl, _⟩ | ⟨r, h1, k, h2, _⟩
  · have := h.some; omega
  · exact h.name r h1 _ (List.mem_of_getElem? h2) rfl⟩
end

/-- B1: Null, First, Follow. -/
def NullP (N : Nat) (R : List Ru) : Int → Prop := Lv (NullF R) N
def FirstP (N : Nat) (R : List Ru) (t : Int) : Int → Prop := Lv (FirstF R (NullP N R) t) N
def FollowP (T N : Nat) (R : List Ru) (t : Int) : Int → Prop := Lv (FollowF R (NullP N R) (FirstP N R) T t) N

end Go.Proofs.Ytobegekmgoiopaa

/- Plain: where nothing grows any more, lookaheads are the least sets (F2). -/
namespace Go.Proofs.Ytobegekmgoiopaa

def nulF (Nu : List Bool) (l : List Sy) : Bool := l.all fun s => !s.1 && Nu.getD s.2.toNat false
def begF (Nu : List Bool) (Fi : List (List Bool)) (T : Nat) (l : List Sy) (t : Nat) : Bool := (behF Nu Fi T t l).1

section
variable {T N : Nat} {R : List Ru} {OL : List (List It)} {NL : List (List Int)} {Ls : List SetI} {dom : Nat × Nat → Option Nat} {Nu : List Bool} {Fi : List (List Bool)} {X : LkX}

abbrev LookQ (T : Nat) (R : List Ru) (Nu : List Bool) (Fi : List (List Bool)) (NL : List (List Int)) (Ls : List SetI) := LookP T R (begF Nu Fi T) (nulF Nu) NL Ls
end

/-! ### The rounds -/

section
variable (OL : List (List It)) (NL : List (List Int)) (R : List Ru) (T : Nat) (Nu : List Bool) (Fi : List (List Bool))
end

section
variable {T N : Nat} {R : List Ru} {OL : List (List It)} {NL : List (List Int)} {Ls : List SetI} {dom : Nat × Nat → Option Nat} {Nu : List Bool} {Fi : List (List Bool)} {X : LkX}

end

end Go.Proofs.Ytobegekmgoiopaa

/- The contract of pollardingref1.May: it tells what the plain function mayB tells. -/
namespace Go.Proofs.Ytobegekmgoiopaa
open Go.RowKit

def symB (T N : Int) (s : Sy) : Bool := decide (0 ≤ s.2 ∧ s.2 < if s.1 then T else N)
def ruleB (T N : Int) (r : Ru) : Bool := decide (0 ≤ r.1 ∧ r.1 < N ∧ r.2.length ≤ 8) && r.2.all (symB T N)
def headB (T N : Int) (n : Nat) : Bool := decide (0 ≤ T ∧ T ≤ 8 ∧ 1 ≤ N ∧ N ≤ 12 ∧ n ≤ 40)
/-- A1: may a grammar be? -/
def mayB (T N : Int) (R : List Ru) : Bool := headB T N R.length && R.all (ruleB T N)

theorem all_take_succ {α : Type} (f : α → Bool) (l : List α) (d : α) (j : Nat) (h : j < l.length) : (l.take (j + 1)).all f = ((l.take j).all f && f (l.getD j d)) := by
  rw [List.take_succ_eq_append_getElem h, List.all_append]
  simp [List.getD, h]

theorem all_of_take {α : Type} (f : α → Bool) (l : List α) (j : Nat) (h : l.length ≤ j) : (l.take j).all f = l.all f := by
  rw [List.take_of_length_le h]

theorem not_all {α : Type} (f : α → Bool) (l : List α) (d : α) (j : Nat) (h : j < l.length) (hf : f (l.getD j d) = false) : l.all f = false := by
  rw [List.all_eq_false]
  refine ⟨l[j], List.getElem_mem h, ?_⟩
  simpa [List.getD, h] using hf

theorem rule_bad {T N : Int} {R : List Ru} {j : Nat} (hj : j < R.length) (h : ruleB T N (R.getD j (0, [])) = false) : R.all (ruleB T N) = false := not_all _ R (0, []) j hj h

end Go.Proofs.Ytobegekmgoiopaa

/- What may be, as bounds. No walk. -/
namespace Go.Proofs.Ytobegekmgoiopaa
open Go.RowKit

/-- What may be, as bounds. -/
theorem may_fine {T N : Nat} {R : List Ru} (h : mayB T N R = true) : T ≤ 8 ∧ 1 ≤ N ∧ N ≤ 12 ∧ R.length ≤ 40 ∧
    ∀ i, i < R.length → 0 ≤ (R.getD i (0, [])).1 ∧ (R.getD i (0, [])).1 < (N : Int) ∧ (R.getD i (0, [])).2.length ≤ 8 ∧
      ∀ s ∈ (R.getD i (0, [])).2, 0 ≤ s.2 ∧ s.2 < if s.1 then (T : Int) else (N : Int) := by
  simp only [mayB, headB, Bool.and_eq_true, decide_eq_true_eq] at h
  obtain ⟨⟨h1, h2, h3, h4, h5⟩, h6⟩ := h
  refine ⟨by omega, by omega, by omega, h5, fun i hi => ?_⟩
  have h7 := List.all_eq_true.1 h6 (R.getD i (0, [])) (by simp [List.getD, hi])
  simp only [ruleB, Bool.and_eq_true, decide_eq_true_eq] at h7
  refine ⟨h7.1.1, h7.1.2.1, h7.1.2.2, fun s hs => ?_⟩
  have h8 := List.all_eq_true.1 h7.2 s hs
  simpa [symB] using h8

end Go.Proofs.Ytobegekmgoiopaa
