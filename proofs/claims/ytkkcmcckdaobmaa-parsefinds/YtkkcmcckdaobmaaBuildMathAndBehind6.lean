import Derived.Test.YtkkcmcckdaobmaaAuto6AndBits
/- Plain: the states of a grammar (F1), as sets of items in the order in which they are found; what lists of items stand for them. -/
namespace Go.Proofs.Ytkkcmcckdaobmaa
open Classical

abbrev SetI := It → Prop
/-- The symbol with the number x is the next one of an item. -/
def nextIs (T : Nat) (R : List Ru) (i : It) (x : Nat) : Prop := ∃ s, (rightF R i.1)[i.2]? = some s ∧ numF T s = (x : Int)
def kernS (T : Nat) (R : List Ru) (S : SetI) (x : Nat) : SetI := fun j => ∃ i, S i ∧ nextIs T R i x ∧ j = (i.1, i.2 + 1)
def gotoS (T : Nat) (R : List Ru) (S : SetI) (x : Nat) : SetI := Cl R (kernS T R S x)
def noS : SetI := fun _ => False

/-- From the state k by the symbol x: the state's number (-1: none), and the states, one more if it was not there. -/
noncomputable def visit (T : Nat) (R : List Ru) (L : List SetI) (k x : Nat) : Int × List SetI :=
  if ∃ i, L.getD k noS i ∧ nextIs T R i x then
    if h : ∃ n, n < L.length ∧ L.getD n noS = gotoS T R (L.getD k noS) x then (((Classical.choose h : Nat) : Int), L) else ((L.length : Int), L ++ [gotoS T R (L.getD k noS) x])
  else (-1, L)
noncomputable def rowS (T : Nat) (R : List Ru) (k x : Nat) (p : List Int × List SetI) : List Int × List SetI := (p.1 ++ [(visit T R p.2 k x).1], (visit T R p.2 k x).2)
/-- The state k by so many symbols. -/
noncomputable def rowN (T : Nat) (R : List Ru) (k x : Nat) (L : List SetI) : List Int × List SetI := loopN x (rowS T R k) ([], L)
noncomputable def allS (T N : Nat) (R : List Ru) (k : Nat) (p : List (List Int) × List SetI) : List (List Int) × List SetI := (p.1 ++ [(rowN T R k (T + N) p.2).1], (rowN T R k (T + N) p.2).2)
/-- So many states done. -/
noncomputable def allN (T N : Nat) (R : List Ru) (k : Nat) : List (List Int) × List SetI := loopN k (allS T N R) ([], [Cl R fun i => i = (R.length, 0)])

/-- No two states are one. -/
def Dist (L : List SetI) : Prop := ∀ i j, i < L.length → j < L.length → L.getD i noS = L.getD j noS → i = j

section
variable {T N : Nat} {R : List Ru} {L : List SetI} {k x : Nat}

theorem visit_none (h : ¬ ∃ i, L.getD k noS i ∧ nextIs T R i x) : visit T R L k x = (-1, L) := by unfold visit; rw [if_neg h]
theorem visit_old (hd : Dist L) (h : ∃ i, L.getD k noS i ∧ nextIs T R i x) {n : Nat} (hn : n < L.length) (he : L.getD n noS = gotoS T R (L.getD k noS) x) : visit T R L k x = ((n : Int), L) := by
  unfold visit
  have h2 : ∃ n, n < L.length ∧ L.getD n noS = gotoS T R (L.getD k noS) x := ⟨n, hn, he⟩
  rw [if_pos h, dif_pos h2]
  have := Classical.choose_spec h2
  have e := hd _ _ this.1 hn (this.2.trans he.symm)
  rw [e]
theorem visit_new (h : ∃ i, L.getD k noS i ∧ nextIs T R i x) (hno : ∀ n, n < L.length → L.getD n noS ≠ gotoS T R (L.getD k noS) x) : visit T R L k x = ((L.length : Int), L ++ [gotoS T R (L.getD k noS) x]) := by
  unfold visit
  rw [if_pos h, dif_neg (fun ⟨n, hn, he⟩ => hno n hn he)]

theorem visit_len : L.length ≤ (visit T R L k x).2.length := by
  unfold visit
  split
  · split
    · exact Nat.le_refl _
    · simp
  · exact Nat.le_refl _
end

/-- Lists of items that stand for sets. -/
structure RepI (O : List It) (S : SetI) : Prop where
  nod : O.Nodup
  mem : ∀ i, i ∈ O ↔ S i

theorem RepI.eq {O : List It} {S S' : SetI} (h : RepI O S) (h' : RepI O S') : S = S' := funext fun i => propext ((h.mem i).symm.trans (h'.mem i))
theorem alike_sets {A B : List It} {S S' : SetI} (h : RepI A S) (h' : RepI B S') : alikeF A B = true ↔ S = S' := by
  rw [alikeF_iff h.nod]
  constructor
  · rintro ⟨_, h2⟩
    exact funext fun i => propext ((h.mem i).symm.trans ((h2 i).trans (h'.mem i)))
  · rintro rfl
    have hm : ∀ i, i ∈ A ↔ i ∈ B := fun i => (h.mem i).trans (h'.mem i).symm
    exact ⟨Nat.le_antisymm (nodup_sub_length h.nod fun i hi => (hm i).1 hi) (nodup_sub_length h'.nod fun i hi => (hm i).2 hi), hm⟩

/-- What is read on: of the items below j. -/
noncomputable def kernL (T : Nat) (R : List Ru) (O : List It) (x j : Nat) : List It := ((O.take j).filter fun i => decide (nextIs T R i x)).map fun i => (i.1, i.2 + 1)

theorem kernL_nodup {T : Nat} {R : List Ru} {O : List It} {x j : Nat} (h : O.Nodup) : (kernL T R O x j).Nodup := by
  unfold kernL
  have h1 : ((O.take j).filter fun i => decide (nextIs T R i x)).Nodup := (h.sublist (List.take_sublist _ _)).sublist List.filter_sublist
  generalize ((O.take j).filter fun i => decide (nextIs T R i x)) = A at h1
  induction A with
  | nil => simp
  | cons a A ih =>
    rw [List.nodup_cons] at h1
    rw [List.map_cons, List.nodup_cons]
    refine ⟨fun hm => ?_, ih h1.2⟩
    obtain ⟨b, hb, e⟩ := List.mem_map.1 hm
    simp only [Prod.mk.injEq, Nat.add_right_cancel_iff] at e
    exact h1.1 (by rw [show a = b from Prod.ext e.1.symm e.2.symm]; exact hb)

theorem kernL_mem {T : Nat} {R : List Ru} {O : List It} {x : Nat} {S : SetI} (h : RepI O S) : ∀ i, i ∈ kernL T R O x O.length ↔ kernS T R S x i := fun i => by
  unfold kernL kernS
  rw [List.take_length]
  constructor
  · intro hi
    obtain ⟨b, hb, rfl⟩ := List.mem_map.1 hi
    rw [List.mem_filter] at hb
    exact ⟨b, (h.mem b).1 hb.1, by simpa using hb.2, rfl⟩
  · rintro ⟨b, h1, h2, rfl⟩
    exact List.mem_map.2 ⟨b, List.mem_filter.2 ⟨(h.mem b).2 h1, by simpa using h2⟩, rfl⟩

theorem kernL_step {T : Nat} {R : List Ru} {O : List It} {x j : Nat} (hj : j < O.length) : kernL T R O x (j + 1) = kernL T R O x j ++ (if nextIs T R (O.getD j (0, 0)) x then [((O.getD j (0, 0)).1, (O.getD j (0, 0)).2 + 1)] else []) := by
  unfold kernL
  have e : O.getD j (0, 0) = O[j] := by simp [List.getD, hj]
  rw [List.take_succ_eq_append_getElem hj, List.filter_append, List.map_append, e]
  congr 1
  by_cases h : nextIs T R O[j] x
  · simp [h]
  · simp [h]

theorem kernL_nil {T : Nat} {R : List Ru} {O : List It} {x : Nat} {S : SetI} (h : RepI O S) : kernL T R O x O.length = [] ↔ ¬ ∃ i, S i ∧ nextIs T R i x := by
  constructor
  · rintro e ⟨i, h1, h2⟩
    have : (i.1, i.2 + 1) ∈ kernL T R O x O.length := (kernL_mem h _).2 ⟨i, h1, h2, rfl⟩
    rw [e] at this
    cases this
  · intro hn
    refine List.eq_nil_iff_forall_not_mem.2 fun i hi => ?_
    obtain ⟨b, h1, h2, _⟩ := (kernL_mem h i).1 hi
    exact hn ⟨b, h1, h2⟩

/-- Closing what is read on is the next state. -/
theorem rep_goto {T : Nat} {R : List Ru} {O C : List It} {x : Nat} {S : SetI} (h : RepI O S) (hn : C.Nodup) (hC : ∀ i, i ∈ C ↔ Cl R (· ∈ kernL T R O x O.length) i) : RepI C (gotoS T R S x) := by
  refine ⟨hn, fun i => (hC i).trans ?_⟩
  have e : (fun i => i ∈ kernL T R O x O.length) = kernS T R S x := funext fun i => propext (kernL_mem h i)
  unfold gotoS
  rw [← e]

/-! ### Items are small -/

/-- A rule's number, and no more read than there is. -/
def OkIt (R : List Ru) (i : It) : Prop := i.1 ≤ R.length ∧ i.2 ≤ (rightF R i.1).length
def allIt (R : List Ru) : List It := (List.range (R.length + 1)).flatMap fun r => (List.range ((rightF R r).length + 1)).map fun d => (r, d)

theorem okIt_mem {R : List Ru} {i : It} (h : OkIt R i) : i ∈ allIt R := by
  unfold allIt
  rw [List.mem_flatMap]
  exact ⟨i.1, List.mem_range.2 (by have := h.1; omega), List.mem_map.2 ⟨i.2, List.mem_range.2 (by have := h.2; omega), rfl⟩⟩

theorem allIt_len {R : List Ru} (h8 : ∀ r, r ≤ R.length → (rightF R r).length ≤ 8) : (allIt R).length ≤ (R.length + 1) * 9 := by
  unfold allIt
  have : ∀ n, n ≤ R.length + 1 → ((List.range n).flatMap fun r => (List.range ((rightF R r).length + 1)).map fun d => ((r, d) : It)).length ≤ n * 9 := by
    intro n
    induction n with
    | zero => simp
    | succ n ih =>
      intro hn
      rw [List.range_succ, List.flatMap_append, List.length_append]
      have h1 := ih (by omega)
      have h2 := h8 n (by omega)
      simp only [List.flatMap_cons, List.flatMap_nil, List.append_nil, List.length_map, List.length_range]
      omega
  exact this _ (Nat.le_refl _)

theorem ok_len {R : List Ru} (h8 : ∀ r, r ≤ R.length → (rightF R r).length ≤ 8) {O : List It} (hn : O.Nodup) (ho : ∀ i ∈ O, OkIt R i) : O.length ≤ (R.length + 1) * 9 :=
  Nat.le_trans (nodup_sub_length hn fun i hi => okIt_mem (ho i hi)) (allIt_len h8)

theorem cl_ok {R : List Ru} {S : SetI} (hS : ∀ i, S i → OkIt R i) {i : It} (h : Cl R S i) : OkIt R i := by
  induction h with
  | base hb => exact hS _ hb
  | step _ _ h2 _ _ => exact ⟨Nat.le_of_lt h2, Nat.zero_le _⟩

theorem kern_ok {T : Nat} {R : List Ru} {S : SetI} {x : Nat} (hS : ∀ i, S i → OkIt R i) : ∀ i, kernS T R S x i → OkIt R i := by
  rintro i ⟨b, h1, ⟨s, h2, _⟩, rfl⟩
  have := (List.getElem?_eq_some_iff.1 h2).1
  exact ⟨(hS b h1).1, by simp only; omega⟩

end Go.Proofs.Ytkkcmcckdaobmaa

/- Plain: the lists of items that stand for the states while these are found (F1). -/
namespace Go.Proofs.Ytkkcmcckdaobmaa
open Classical

/-- Lists of items stand for states, of which no two are one. -/
structure SOk (R : List Ru) (OL : List (List It)) (Ls : List SetI) : Prop where
  len : OL.length = Ls.length
  rep : ∀ i, i < OL.length → RepI (OL.getD i []) (Ls.getD i noS)
  dist : Dist Ls
  ok : ∀ i, i < OL.length → ∀ t ∈ OL.getD i [], OkIt R t
  ne : ∀ i, i < OL.length → OL.getD i [] ≠ []
  head : 0 < OL.length → (OL.getD 0 []).getD 0 (0, 0) = (R.length, 0)

section
variable {T N : Nat} {R : List Ru} {OL : List (List It)} {Ls : List SetI} {k x : Nat}

theorem getD_app {α : Type} {L : List α} {y d : α} {i : Nat} (hi : i < L.length) : (L ++ [y]).getD i d = L.getD i d := by simp [List.getD, List.getElem?_append_left hi]
theorem getD_app_last {α : Type} {L : List α} {y d : α} {i : Nat} (hi : i = L.length) : (L ++ [y]).getD i d = y := by subst hi; simp [List.getD]

theorem SOk.push (h : SOk R OL Ls) {C : List It} {S : SetI} (hC : RepI C S) (hno : ∀ n, n < Ls.length → Ls.getD n noS ≠ S) (hok : ∀ t ∈ C, OkIt R t) (hne : C ≠ []) (hh : OL = [] → C.getD 0 (0, 0) = (R.length, 0)) : SOk R (OL ++ [C]) (Ls ++ [S]) := by
  have hl := h.len
  have cas : ∀ i, i < (OL ++ [C]).length → (i < OL.length ∧ (OL ++ [C]).getD i [] = OL.getD i [] ∧ (Ls ++ [S]).getD i noS = Ls.getD i noS) ∨ (i = OL.length ∧ (OL ++ [C]).getD i [] = C ∧ (Ls ++ [S]).getD i noS = S) := fun i hi => by
    simp only [List.length_append, List.length_cons, List.length_nil] at hi
    rcases Nat.lt_succ_iff_lt_or_eq.1 hi with hi | hi
    · exact .inl ⟨hi, getD_app hi, getD_app (by omega)⟩
    · exact .inr ⟨hi, getD_app_last hi, getD_app_last (by omega)⟩
  refine ⟨by simp [hl], fun i hi => ?_, fun i j hi hj e => ?_, fun i hi => ?_, fun i hi => ?_, fun _ => ?_⟩
  · rcases cas i hi with ⟨h1, h2, h3⟩ | ⟨h1, h2, h3⟩
    · rw [h2, h3]; exact h.rep i h1
    · rw [h2, h3]; exact hC
  · have hi' : i < (OL ++ [C]).length := by simp only [List.length_append, List.length_cons, List.length_nil] at hi ⊢; omega
    have hj' : j < (OL ++ [C]).length := by simp only [List.length_append, List.length_cons, List.length_nil] at hj ⊢; omega
    rcases cas i hi' with ⟨h1, _, h3⟩ | ⟨h1, _, h3⟩ <;> rcases cas j hj' with ⟨k1, _, k3⟩ | ⟨k1, _, k3⟩
    · rw [h3, k3] at e; exact h.dist i j (by omega) (by omega) e
    · rw [h3, k3] at e; exact absurd e (hno i (by omega))
    · rw [h3, k3] at e; exact absurd e.symm (hno j (by omega))
    · omega
  · rcases cas i hi with ⟨h1, h2, _⟩ | ⟨_, h2, _⟩
    · rw [h2]; exact h.ok i h1
    · rw [h2]; exact hok
  · rcases cas i hi with ⟨h1, h2, _⟩ | ⟨_, h2, _⟩
    · rw [h2]; exact h.ne i h1
    · rw [h2]; exact hne
  · cases hO : OL with
    | nil => exact hh hO
    | cons o l =>
      have := h.head (by rw [hO]; simp)
      rw [hO] at this
      exact this

/-- The state 0. -/
theorem sok_start {C : List It} (hn : C.Nodup) (hC : ∀ i, i ∈ C ↔ Cl R (fun i => i = (R.length, 0)) i) (hh : C.getD 0 (0, 0) = (R.length, 0)) : SOk R [C] [Cl R fun i => i = (R.length, 0)] := by
  have h0 : SOk R [] [] := ⟨rfl, fun i hi => absurd hi (Nat.not_lt_zero _), fun i j hi => absurd hi (Nat.not_lt_zero _), fun i hi => absurd hi (Nat.not_lt_zero _), fun i hi => absurd hi (Nat.not_lt_zero _), fun h => absurd h (Nat.not_lt_zero _)⟩
  have hbase : (R.length, 0) ∈ C := (hC _).2 (.base rfl)
  exact h0.push (C := C) ⟨hn, hC⟩ (fun n hn => absurd hn (Nat.not_lt_zero _)) (fun t ht => cl_ok (S := fun i => i = (R.length, 0)) (fun i hi => by rw [hi]; exact ⟨Nat.le_refl _, Nat.zero_le _⟩) ((hC t).1 ht)) (List.ne_nil_of_mem hbase) (fun _ => hh)

/-- What was looked for among the states below n: the row's cell. -/
def Found (OL : List (List It)) (C : List It) (n : Nat) (z : Int) : Prop :=
  (z = -1 ∧ ∀ i, i < n → alikeF (OL.getD i []) C = false) ∨ ∃ i : Nat, i < n ∧ z = i ∧ alikeF (OL.getD i []) C = true

theorem found_start (OL : List (List It)) (C : List It) : Found OL C 0 (-1) := .inl ⟨rfl, fun _ hi => absurd hi (Nat.not_lt_zero _)⟩
theorem Found.hit {C : List It} {n : Nat} (ha : alikeF (OL.getD n []) C = true) : Found OL C (n + 1) n := .inr ⟨n, Nat.lt_succ_self _, rfl, ha⟩
theorem Found.miss {C : List It} {n : Nat} {z : Int} (h : Found OL C n z) (ha : alikeF (OL.getD n []) C = false) : Found OL C (n + 1) z := by
  rcases h with ⟨rfl, h⟩ | ⟨i, h1, h2, h3⟩
  · refine .inl ⟨rfl, fun i hi => ?_⟩
    rcases Nat.lt_succ_iff_lt_or_eq.1 hi with hi | rfl
    · exact h i hi
    · exact ha
  · exact .inr ⟨i, by omega, h2, h3⟩
theorem Found.range {C : List It} {n : Nat} {z : Int} (h : Found OL C n z) : -1 ≤ z ∧ z < n := by
  rcases h with ⟨rfl, _⟩ | ⟨i, h1, rfl, _⟩ <;> omega

/-- Nothing is read on. -/
theorem visit_nothing (h : SOk R OL Ls) (hk : k < OL.length) (he : kernL T R (OL.getD k []) x (OL.getD k []).length = []) : visit T R Ls k x = (-1, Ls) :=
  visit_none ((kernL_nil (h.rep k hk)).1 he)

/-- A state that was there. -/
theorem visit_there (h : SOk R OL Ls) (hk : k < OL.length) (hne : kernL T R (OL.getD k []) x (OL.getD k []).length ≠ []) {C : List It} (hn : C.Nodup) (hC : ∀ i, i ∈ C ↔ Cl R (· ∈ kernL T R (OL.getD k []) x (OL.getD k []).length) i)
    {z : Int} (hf : Found OL C OL.length z) (hz : 0 ≤ z) : visit T R Ls k x = (z, Ls) := by
  have hrep := rep_goto (h.rep k hk) hn hC
  rcases hf with ⟨rfl, _⟩ | ⟨i, h1, rfl, h3⟩
  · omega
  · have hex : ∃ i, Ls.getD k noS i ∧ nextIs T R i x := Classical.byContradiction fun hno => hne ((kernL_nil (h.rep k hk)).2 hno)
    exact visit_old h.dist hex (by rw [← h.len]; exact h1) ((alike_sets (h.rep i h1) hrep).1 h3)

/-- A new one. -/
theorem visit_fresh (h : SOk R OL Ls) (hk : k < OL.length) (hne : kernL T R (OL.getD k []) x (OL.getD k []).length ≠ []) {C : List It} (hn : C.Nodup) (hC : ∀ i, i ∈ C ↔ Cl R (· ∈ kernL T R (OL.getD k []) x (OL.getD k []).length) i)
    {z : Int} (hf : Found OL C OL.length z) (hz : z < 0) : visit T R Ls k x = ((OL.length : Int), Ls ++ [gotoS T R (Ls.getD k noS) x]) ∧ SOk R (OL ++ [C]) (Ls ++ [gotoS T R (Ls.getD k noS) x]) := by
  have hrep := rep_goto (h.rep k hk) hn hC
  have hno : ∀ n, n < Ls.length → Ls.getD n noS ≠ gotoS T R (Ls.getD k noS) x := fun n hnl e => by
    rcases hf with ⟨_, h2⟩ | ⟨i, _, rfl, _⟩
    · have h3 := h2 n (by rw [h.len]; exact hnl)
      rw [(alike_sets (h.rep n (by rw [h.len]; exact hnl)) hrep).2 e] at h3
      cases h3
    · omega
  have hex : ∃ i, Ls.getD k noS i ∧ nextIs T R i x := Classical.byContradiction fun h0 => hne ((kernL_nil (h.rep k hk)).2 h0)
  have hokK : ∀ i, kernS T R (Ls.getD k noS) x i → OkIt R i := kern_ok fun i hi => h.ok k hk i (((h.rep k hk).mem i).2 hi)
  refine ⟨by rw [visit_new hex hno, h.len], h.push hrep hno (fun t ht => cl_ok hokK ((hrep.mem t).1 ht)) ?_ (fun e => absurd hk (by rw [e]; exact Nat.not_lt_zero _))⟩
  obtain ⟨i, hi1, hi2⟩ := hex
  exact List.ne_nil_of_mem ((hrep.mem (i.1, i.2 + 1)).2 (.base ⟨i, hi1, hi2, rfl⟩))

/-- What is read on is in the grammar, and no more than the state has. -/
theorem kernL_ok (h : SOk R OL Ls) (hk : k < OL.length) {j : Nat} : ∀ i ∈ kernL T R (OL.getD k []) x j, OkIt R i := fun i hi => by
  unfold kernL at hi
  obtain ⟨b, hb, rfl⟩ := List.mem_map.1 hi
  rw [List.mem_filter] at hb
  have hbo := h.ok k hk b (List.mem_of_mem_take hb.1)
  obtain ⟨s, h2, _⟩ : nextIs T R b x := by simpa using hb.2
  have := (List.getElem?_eq_some_iff.1 h2).1
  exact ⟨hbo.1, by simp only; omega⟩
theorem kernL_len {O : List It} {j : Nat} : (kernL T R O x j).length ≤ O.length := by
  unfold kernL
  rw [List.length_map]
  refine Nat.le_trans (List.length_filter_le _ _) ?_
  rw [List.length_take]
  omega

theorem kernL_yes {O : List It} {j r d : Nat} (hj : j < O.length) (he : O.getD j (0, 0) = (r, d)) (h : nextIs T R (r, d) x) : kernL T R O x (j + 1) = kernL T R O x j ++ [(r, d + 1)] := by
  rw [kernL_step hj, he, if_pos h]
theorem kernL_no {O : List It} {j r d : Nat} (hj : j < O.length) (he : O.getD j (0, 0) = (r, d)) (h : ¬ nextIs T R (r, d) x) : kernL T R O x (j + 1) = kernL T R O x j := by
  rw [kernL_step hj, he, if_neg h, List.append_nil]
theorem getD_in {α : Type} {L : List α} {j : Nat} {d : α} (h : j < L.length) : L.getD j d ∈ L := by simp [List.getD, h]

/-! ### What is there stays there -/

theorem visit_pre (L : List SetI) (k x : Nat) : ∃ E, (visit T R L k x).2 = L ++ E := by
  unfold visit
  split
  · split
    · exact ⟨[], by simp⟩
    · exact ⟨_, rfl⟩
  · exact ⟨[], by simp⟩
theorem row_len (k x : Nat) (L : List SetI) : (rowN T R k x L).1.length = x := by
  induction x with
  | zero => rfl
  | succ x ih =>
    have e : rowN T R k (x + 1) L = rowS T R k x (rowN T R k x L) := rfl
    rw [e, rowS]
    simp [ih]
theorem row_pre (k x : Nat) (L : List SetI) : ∃ E, (rowN T R k x L).2 = L ++ E := by
  induction x with
  | zero => exact ⟨[], by simp [rowN, loopN]⟩
  | succ x ih =>
    obtain ⟨E, hE⟩ := ih
    have e : rowN T R k (x + 1) L = rowS T R k x (rowN T R k x L) := rfl
    obtain ⟨F, hF⟩ := visit_pre (T := T) (R := R) (rowN T R k x L).2 k x
    exact ⟨E ++ F, by rw [e, rowS]; simp only; rw [hF, hE, List.append_assoc]⟩
theorem row_le {k x y : Nat} {L : List SetI} (h : x ≤ y) : (rowN T R k x L).2.length ≤ (rowN T R k y L).2.length := by
  induction h with
  | refl => exact Nat.le_refl _
  | step _ ih =>
    rename_i m _
    have e : rowN T R k (m + 1) L = rowS T R k m (rowN T R k m L) := rfl
    rw [e, rowS]
    exact Nat.le_trans ih visit_len
theorem all_len (k : Nat) : (allN T N R k).1.length = k := by
  induction k with
  | zero => rfl
  | succ k ih =>
    have e : allN T N R (k + 1) = allS T N R k (allN T N R k) := rfl
    rw [e, allS]
    simp [ih]
theorem all_le {j k : Nat} (h : j ≤ k) : (allN T N R j).2.length ≤ (allN T N R k).2.length := by
  induction h with
  | refl => exact Nat.le_refl _
  | step _ ih =>
    rename_i m _
    have e : allN T N R (m + 1) = allS T N R m (allN T N R m) := rfl
    obtain ⟨E, hE⟩ := row_pre (T := T) (R := R) m (T + N) (allN T N R m).2
    rw [e, allS]
    simp only
    rw [hE, List.length_append]
    omega

/-- There are just so many states. -/
def Whole (T N : Nat) (R : List Ru) (K : Nat) : Prop := (allN T N R K).2.length = K
/-- There are more than so many. -/
def More (T N : Nat) (R : List Ru) (m : Nat) : Prop := ∃ k x, k < (allN T N R k).2.length ∧ x ≤ T + N ∧ m < (rowN T R k x (allN T N R k).2).2.length

theorem whole_or {K m : Nat} (h : Whole T N R K) (hK : K ≤ m) : ¬ More T N R m := by
  rintro ⟨k, x, h1, h2, h3⟩
  by_cases hk : k < K
  · have e : allN T N R (k + 1) = allS T N R k (allN T N R k) := rfl
    have l1 := row_le (T := T) (R := R) (k := k) (L := (allN T N R k).2) h2
    have l2 : (rowN T R k (T + N) (allN T N R k).2).2.length = (allN T N R (k + 1)).2.length := by rw [e, allS]
    have l3 := all_le (T := T) (N := N) (R := R) (show k + 1 ≤ K by omega)
    unfold Whole at h
    omega
  · -- beyond the last state nothing is there to go on
    have hfix : ∀ j, K ≤ j → (allN T N R j).2.length = K := by
      intro j hj
      induction hj with
      | refl => exact h
      | step hj ih =>
        rename_i j
        have e : allN T N R (j + 1) = allS T N R j (allN T N R j) := rfl
        have hno : ∀ y L, L.length = K → (rowN T R j y L).2 = L := by
          intro y L hL
          induction y with
          | zero => rfl
          | succ y ihy =>
            have e2 : rowN T R j (y + 1) L = rowS T R j y (rowN T R j y L) := rfl
            rw [e2, rowS]
            simp only
            rw [ihy, visit_none]
            rintro ⟨i, hi, _⟩
            rw [List.getD, List.getElem?_eq_none (by have hj' : K ≤ j := hj; omega)] at hi
            exact hi
        rw [e, allS]
        simp only
        rw [hno _ _ ih]
        exact ih
    have := hfix k (by omega)
    omega
end

end Go.Proofs.Ytkkcmcckdaobmaa

/- Plain: where states go on (F1): of all states that were found; and lookaheads (F2) as the least sets. -/
namespace Go.Proofs.Ytkkcmcckdaobmaa
open Classical

section
variable {T N : Nat} {R : List Ru}

/-- From the state k by the symbol x one comes to z. -/
structure GoOk (T : Nat) (R : List Ru) (Ls : List SetI) (k x : Nat) (z : Int) : Prop where
  some : (∃ i, Ls.getD k noS i ∧ nextIs T R i x) → ∃ n : Nat, z = n ∧ n < Ls.length ∧ Ls.getD n noS = gotoS T R (Ls.getD k noS) x
  none : (¬ ∃ i, Ls.getD k noS i ∧ nextIs T R i x) → z = -1

theorem getD_pre {L E : List SetI} {n : Nat} (h : n < L.length) : (L ++ E).getD n noS = L.getD n noS := by simp [List.getD, List.getElem?_append_left h]

theorem GoOk.more {Ls : List SetI} {k x : Nat} {z : Int} (h : GoOk T R Ls k x z) (hk : k < Ls.length) (E : List SetI) : GoOk T R (Ls ++ E) k x z := by
  refine ⟨fun hx => ?_, fun hx => ?_⟩
  · rw [getD_pre hk] at hx ⊢
    obtain ⟨n, h1, h2, h3⟩ := h.some hx
    exact ⟨n, h1, by simp; omega, by rw [getD_pre h2]; exact h3⟩
  · rw [getD_pre hk] at hx
    exact h.none hx

theorem visit_go {L : List SetI} {k x : Nat} (hk : k < L.length) : GoOk T R (visit T R L k x).2 k x (visit T R L k x).1 := by
  unfold visit
  by_cases h : ∃ i, L.getD k noS i ∧ nextIs T R i x
  · rw [if_pos h]
    by_cases h2 : ∃ n, n < L.length ∧ L.getD n noS = gotoS T R (L.getD k noS) x
    · rw [dif_pos h2]
      exact ⟨fun _ => ⟨_, rfl, (Classical.choose_spec h2).1, (Classical.choose_spec h2).2⟩, fun hn => absurd h hn⟩
    · rw [dif_neg h2]
      refine ⟨fun _ => ⟨L.length, rfl, by simp, ?_⟩, fun hn => ?_⟩
      · rw [getD_pre hk]; simp [List.getD]
      · rw [getD_pre hk] at hn; exact absurd h hn
  · rw [if_neg h]
    exact ⟨fun hh => absurd hh h, fun _ => rfl⟩

theorem row_go {L : List SetI} {k : Nat} (hk : k < L.length) (x : Nat) : ∀ y, y < x → GoOk T R (rowN T R k x L).2 k y ((rowN T R k x L).1.getD y 0) := by
  induction x with
  | zero => intro y hy; exact absurd hy (Nat.not_lt_zero _)
  | succ x ih =>
    intro y hy
    have e : rowN T R k (x + 1) L = rowS T R k x (rowN T R k x L) := rfl
    obtain ⟨E, hE⟩ := row_pre (T := T) (R := R) k x L
    have hk' : k < (rowN T R k x L).2.length := by rw [hE, List.length_append]; omega
    have hl := row_len (T := T) (R := R) k x L
    rw [e, rowS]
    simp only
    rcases Nat.lt_succ_iff_lt_or_eq.1 hy with hy | rfl
    · obtain ⟨F, hF⟩ := visit_pre (T := T) (R := R) (rowN T R k x L).2 k x
      rw [hF]
      have := (ih y hy).more hk' F
      have e2 : ((rowN T R k x L).1 ++ [(visit T R (rowN T R k x L).2 k x).1]).getD y 0 = (rowN T R k x L).1.getD y 0 := by simp [List.getD, List.getElem?_append_left (show y < (rowN T R k x L).1.length by omega)]
      rw [e2]
      exact this
    · have e2 : ((rowN T R k y L).1 ++ [(visit T R (rowN T R k y L).2 k y).1]).getD y 0 = (visit T R (rowN T R k y L).2 k y).1 := by
        rw [List.getD, List.getElem?_append_right (by omega), hl]; simp
      rw [e2]
      exact visit_go hk'

theorem all_pre (j k : Nat) (h : j ≤ k) : ∃ E, (allN T N R k).2 = (allN T N R j).2 ++ E := by
  induction h with
  | refl => exact ⟨[], by simp⟩
  | step _ ih =>
    rename_i m _
    obtain ⟨E, hE⟩ := ih
    obtain ⟨F, hF⟩ := row_pre (T := T) (R := R) m (T + N) (allN T N R m).2
    have e : allN T N R (m + 1) = allS T N R m (allN T N R m) := rfl
    exact ⟨E ++ F, by rw [e, allS]; simp only; rw [hF, hE, List.append_assoc]⟩

/-- Of all states done: where they go on. -/
theorem all_go {K : Nat} (hK : ∀ k, k < K → k < (allN T N R k).2.length) : ∀ k, k < K → ∀ x, x < T + N → ((allN T N R K).1.getD k []).length = T + N ∧ GoOk T R (allN T N R K).2 k x (((allN T N R K).1.getD k []).getD x 0) := by
  induction K with
  | zero => intro k hk; exact absurd hk (Nat.not_lt_zero _)
  | succ K ih =>
    intro k hk x hx
    have e : allN T N R (K + 1) = allS T N R K (allN T N R K) := rfl
    have hl := all_len (T := T) (N := N) (R := R) K
    obtain ⟨F, hF⟩ := row_pre (T := T) (R := R) K (T + N) (allN T N R K).2
    rw [e, allS]
    simp only
    rcases Nat.lt_succ_iff_lt_or_eq.1 hk with hk | rfl
    · obtain ⟨h1, h2⟩ := ih (fun k hk => hK k (by omega)) k hk x hx
      have e2 : ((allN T N R K).1 ++ [(rowN T R K (T + N) (allN T N R K).2).1]).getD k [] = (allN T N R K).1.getD k [] := by simp [List.getD, List.getElem?_append_left (show k < (allN T N R K).1.length by omega)]
      have hkl : k < (allN T N R K).2.length := Nat.lt_of_lt_of_le (hK k (by omega)) (all_le (by omega))
      rw [e2, hF]
      exact ⟨h1, h2.more hkl F⟩
    · have e2 : ((allN T N R k).1 ++ [(rowN T R k (T + N) (allN T N R k).2).1]).getD k [] = (rowN T R k (T + N) (allN T N R k).2).1 := by
        rw [List.getD, List.getElem?_append_right (by omega), hl]; simp
      rw [e2]
      exact ⟨row_len _ _ _, row_go (hK k (by omega)) (T + N) x hx⟩

/-- Where there are just K states, each of them is there when its turn comes. -/
theorem whole_reach {K : Nat} (h : Whole T N R K) : ∀ k, k < K → k < (allN T N R k).2.length := by
  intro k hk
  refine Classical.byContradiction fun hn => ?_
  have hfix : ∀ j, k ≤ j → (allN T N R j).2.length ≤ k := by
    intro j hj
    induction hj with
    | refl => omega
    | step hj ih =>
      rename_i j
      have e : allN T N R (j + 1) = allS T N R j (allN T N R j) := rfl
      have hno : ∀ y L, L.length ≤ k → (rowN T R j y L).2 = L := by
        intro y L hL
        induction y with
        | zero => rfl
        | succ y ihy =>
          have e2 : rowN T R j (y + 1) L = rowS T R j y (rowN T R j y L) := rfl
          rw [e2, rowS]
          simp only
          rw [ihy, visit_none]
          rintro ⟨i, hi, _⟩
          rw [List.getD, List.getElem?_eq_none (by have hj' : k ≤ j := hj; omega)] at hi
          exact hi
      rw [e, allS]
      simp only
      rw [hno _ _ ih]
      exact ih
  have := hfix K (by omega)
  unfold Whole at h
  omega

/-- Each state is what closes something. -/
def ClosedS (R : List Ru) (S : SetI) : Prop := ∃ S0, S = Cl R S0
theorem visit_closed {L : List SetI} {k x : Nat} (h : ∀ S ∈ L, ClosedS R S) : ∀ S ∈ (visit T R L k x).2, ClosedS R S := by
  unfold visit
  split
  · split
    · exact h
    · intro S hS
      rcases List.mem_append.1 hS with hS | hS
      · exact h S hS
      · simp only [List.mem_singleton] at hS
        exact ⟨_, hS⟩
  · exact h
theorem all_closed (k : Nat) : ∀ S ∈ (allN T N R k).2, ClosedS R S := by
  induction k with
  | zero => intro S hS; simp only [allN, loopN, List.mem_singleton] at hS; exact ⟨_, hS⟩
  | succ k ih =>
    have e : allN T N R (k + 1) = allS T N R k (allN T N R k) := rfl
    rw [e, allS]
    simp only
    have : ∀ x L, (∀ S ∈ L, ClosedS R S) → ∀ S ∈ (rowN T R k x L).2, ClosedS R S := by
      intro x L hL
      induction x with
      | zero => exact hL
      | succ x ihx =>
        have e : rowN T R k (x + 1) L = rowS T R k x (rowN T R k x L) := rfl
        rw [e, rowS]
        exact visit_closed ihx
    exact this _ _ ih

/-- A state holds what closes it. -/
theorem closed_step {S : SetI} (h : ClosedS R S) {i : It} (hi : S i) {m : Int} (h1 : (rightF R i.1)[i.2]? = some (false, m)) {n : Nat} (h2 : n < R.length) (h3 : (R.getD n (0, [])).1 = m) : S (n, 0) := by
  obtain ⟨S0, rfl⟩ := h
  exact Cl.step (r := i.1) (d := i.2) hi h1 h2 h3

/-- An item that is read on is in the next state. -/
theorem goto_item {S : SetI} {i : It} (hi : S i) {s : Sy} {x : Nat} (h1 : (rightF R i.1)[i.2]? = some s) (h2 : numF T s = x) : gotoS T R S x (i.1, i.2 + 1) := Cl.base ⟨i, hi, ⟨s, h1, h2⟩, rfl⟩
end

/-! ### Lookaheads -/

/-- beg, nul: what symbols may begin with; whether they may be nothing. -/
inductive LookP (T : Nat) (R : List Ru) (beg : List Sy → Nat → Bool) (nul : List Sy → Bool) (NL : List (List Int)) (Ls : List SetI) : Nat → It → Nat → Prop
  | start : LookP T R beg nul NL Ls 0 (R.length, 0) T
  | on {k : Nat} {i : It} {t : Nat} {s : Sy} {n : Nat} (h : LookP T R beg nul NL Ls k i t) (h1 : (rightF R i.1)[i.2]? = some s) (h2 : (NL.getD k []).getD (numF T s).toNat 0 = (n : Int)) : LookP T R beg nul NL Ls n (i.1, i.2 + 1) t
  | begins {k : Nat} {i : It} {t : Nat} {m : Int} {n : Nat} (hk : k < Ls.length) (h : Ls.getD k noS i) (h1 : (rightF R i.1)[i.2]? = some (false, m)) (h2 : n < R.length) (h3 : (R.getD n (0, [])).1 = m) (ht : t ≤ T) (h4 : beg ((rightF R i.1).drop (i.2 + 1)) t = true) : LookP T R beg nul NL Ls k (n, 0) t
  | nothing {k : Nat} {i : It} {t : Nat} {m : Int} {n : Nat} (h : LookP T R beg nul NL Ls k i t) (h1 : (rightF R i.1)[i.2]? = some (false, m)) (h2 : n < R.length) (h3 : (R.getD n (0, [])).1 = m) (h4 : nul ((rightF R i.1).drop (i.2 + 1)) = true) : LookP T R beg nul NL Ls k (n, 0) t

end Go.Proofs.Ytkkcmcckdaobmaa

/- The contract of pollardingref6's behind. -/
namespace Go.Proofs.Ytkkcmcckdaobmaa
open Go.RowKit

/-- May a term (or the end) begin symbols; may they all be nothing? -/
def behF (Nu : List Bool) (Fi : List (List Bool)) (T t : Nat) : List Sy → Bool × Bool
  | [] => (false, true)
  | (true, v) :: _ => (decide (v = (t : Int)), false)
  | (false, v) :: l => if decide (t < T) && (Fi.getD v.toNat []).getD t false then (true, false) else if Nu.getD v.toNat false then behF Nu Fi T t l else (false, false)

set_option maxRecDepth 100000 in
set_option maxHeartbeats 1600000 in
theorem behind6_any {w : World} {ab T N t : Nat} {nv fv lv : Value} {Nu : List Bool} {Fi : List (List Bool)} {l : List Sy} (a0 : w.cell? ⟨ab, 0, none⟩ = some (.int .i64 T)) (a3 : w.cell? ⟨ab, 3, none⟩ = some nv) (a4 : w.cell? ⟨ab, 4, none⟩ = some fv)
    (hn : BoolsAt w nv Nu) (hfi : MatAt w fv Fi) (hl : SymsAt w lv l) (hN : Nu.length = N) (hF : Fi.length = N) (hFl : ∀ i, i < N → (Fi.getD i []).length = T) (ht : t ≤ T) (hin : ∀ s ∈ l, s.1 = false → 0 ≤ s.2 ∧ s.2 < (N : Int)) (h8 : l.length ≤ 1000) :
    Calls Try.prog 40 #[.pointer (some ⟨ab, 0, none⟩), lv, .int .i64 t] w fun e w' => e = .returned (.tuple #[.bool (behF Nu Fi T t l).1, .bool (behF Nu Fi T t l).2]) ∧ ∃ m, w' = w.drewN m := by
  obtain ⟨na, nc, hnv⟩ := hn.1
  obtain ⟨fa, fc, hfv⟩ := hfi.1
  obtain ⟨la, lc, hlv, _⟩ := hl.1
  subst hnv
  subst hfv
  subst hlv
  have HN : Hid (BoolsAt w (.slice na Nu.length nc) Nu) := hn
  have HFi : Hid (MatAt w (.slice fa Fi.length fc) Fi) := hfi
  have HL : Hid (SymsAt w (.slice la l.length lc) l) := hl
  have HI : Hid (∀ s ∈ l, s.1 = false → 0 ≤ s.2 ∧ s.2 < (N : Int)) := hin
  have HFl : Hid (∀ i, i < N → (Fi.getD i []).length = T) := hFl
  have HA : Hid (w.cell? ⟨ab, 0, none⟩ = some (.int .i64 T) ∧ w.cell? ⟨ab, 3, none⟩ = some (.slice na Nu.length nc) ∧ w.cell? ⟨ab, 4, none⟩ = some (.slice fa Fi.length fc)) := ⟨a0, a3, a4⟩
  have HNF : Hid (Nu.length = N ∧ Fi.length = N) := ⟨hN, hF⟩
  clear hn hfi hl hin hFl a0 a3 a4 hN hF
  go_enter Try.func40, Try.ntmps40
  go_wp2_with fail
  go_loopw [8] (fun s wr => ∃ k m : Nat, s = .int .i64 k ∧ k ≤ l.length ∧ wr = w.drewN m ∧ behF Nu Fi T t l = behF Nu Fi T t (l.drop k)) (fun s _ => l.length - (intOf s).toNat)
  case atStart => exact ⟨0, 0, rfl, Nat.zero_le _, rfl, rfl⟩
  case round =>
    obtain ⟨k, m, rfl, hk, rfl, hb⟩ := hrel
    have HB : Hid (behF Nu Fi T t l = behF Nu Fi T t (l.drop k)) := hb
    obtain ⟨a0, a3, a4⟩ := HA.out
    clear hb
    by_cases hlt : k < l.length
    · obtain ⟨b, o, c, hve, k1, k2⟩ := HL.out.2 k hlt
      cases hve
      have hmem : l.getD k (false, 0) ∈ l := by simp [List.getD, hlt]
      have hr := HI.out _ hmem
      have hdrop : l.drop k = l.getD k (false, 0) :: l.drop (k + 1) := by rw [List.drop_eq_getElem_cons hlt]; simp [List.getD, hlt]
      obtain ⟨⟨x, v⟩, hs⟩ : ∃ x, l.getD k (false, 0) = x := ⟨_, rfl⟩
      rw [hs] at k1 k2 hr hdrop
      simp only at k1 k2
      have HD : Hid (l.drop k = (x, v) :: l.drop (k + 1)) := hdrop
      have i0 : (0 : Int) ≤ (k : Int) := Int.natCast_nonneg _
      have i1 : (k : Int) < (l.length : Int) := by omega
      clear hmem hs hdrop
      cases x with
      | true =>
        have HE : Hid (behF Nu Fi T t l = (decide (v = (t : Int)), false)) := by show behF Nu Fi T t l = _; rw [HB.out, HD.out]; rfl
        clear hr
        obtain ⟨z, hz⟩ : ∃ z, (v == (t : Int)) = z := ⟨_, rfl⟩
        have HZ : Hid (decide (v = (t : Int)) = z) := by show decide (v = (t : Int)) = z; rw [← hz, Bool.eq_iff_iff]; simp
        go_wp2_with fail
        refine bodyPost_ret (v := .tuple #[.bool z, .bool false]) (by simp [results, Try.results40, go_sem]) rfl ⟨by rw [HE.out, HZ.out], m, rfl⟩
      | false =>
        have hv : 0 ≤ v ∧ v < (N : Int) := hr rfl
        clear hr
        obtain ⟨y, rfl⟩ : ∃ y : Nat, v = y := ⟨v.toNat, by omega⟩
        obtain ⟨g1, o1, c1, hv1, d1⟩ := HN.out.2 y (by have := HNF.out.1; omega)
        cases hv1
        obtain ⟨g2, o2, c2, rv, hv2, d2, hrow⟩ := HFi.out.2 y (by have := HNF.out.2; omega)
        cases hv2
        obtain ⟨ra, rc, hrv⟩ := hrow.1
        have hrl := HFl.out y (by omega)
        rw [hrl] at hrv
        subst hrv
        have j0 : (0 : Int) ≤ (y : Int) := Int.natCast_nonneg _
        have j1 : (y : Int) < (Nu.length : Int) := by have := HNF.out.1; omega
        have j2 : (y : Int) < (Fi.length : Int) := by have := HNF.out.2; omega
        have j3 : (0 : Int) ≤ (t : Int) := Int.natCast_nonneg _
        obtain ⟨nu, hnu⟩ : ∃ z, Nu.getD y false = z := ⟨_, rfl⟩
        rw [hnu] at d1
        have HNu : Hid (Nu.getD y false = nu) := hnu
        clear hnu
        have HS : Hid (behF Nu Fi T t l = if decide (t < T) && (Fi.getD y []).getD t false then (true, false) else if Nu.getD y false then behF Nu Fi T t (l.drop (k + 1)) else (false, false)) := by show behF Nu Fi T t l = _; rw [HB.out, HD.out]; simp [behF]
        by_cases htT : t < T
        · have e1 : (t : Int) < (T : Int) := by omega
          obtain ⟨g3, o3, c3, hv3, d3⟩ := hrow.2 t (by omega)
          rw [hrl] at hv3
          cases hv3
          obtain ⟨fi, hfi'⟩ : ∃ z, (Fi.getD y []).getD t false = z := ⟨_, rfl⟩
          rw [hfi'] at d3
          have HFi' : Hid ((Fi.getD y []).getD t false = fi) := hfi'
          clear hfi' hrow hrl
          cases fi with
          | true =>
            have HE : Hid (behF Nu Fi T t l = (true, false)) := by show behF Nu Fi T t l = _; rw [HS.out, HFi'.out]; simp [htT]
            go_wp2_with fail
            go_big_quiet (fail)
            go_wp2_with fail
            refine bodyPost_ret (v := .tuple #[.bool true, .bool false]) (by simp [results, Try.results40, go_sem]) rfl ⟨by rw [HE.out], _, World.drewN_drewN _ _ _⟩
          | false =>
            have HS2 : Hid (behF Nu Fi T t l = if nu then behF Nu Fi T t (l.drop (k + 1)) else (false, false)) := by show behF Nu Fi T t l = _; rw [HS.out, HFi'.out, HNu.out]; simp
            cases nu with
            | true =>
              have HE : Hid (behF Nu Fi T t l = behF Nu Fi T t (l.drop (k + 1))) := HS2.out
              go_wp2_with fail
              go_big_quiet (fail)
              go_wp2_with fail
              go_big_quiet (fail)
              go_wp2_with fail
              go_roundw
              case rel => exact ⟨k + 1, _, by go_num, by omega, rfl, HE.out⟩
              case measure => simp [intOf]; omega
            | false =>
              have HE : Hid (behF Nu Fi T t l = (false, false)) := HS2.out
              go_wp2_with fail
              go_big_quiet (fail)
              go_wp2_with fail
              go_big_quiet (fail)
              go_wp2_with fail
              refine bodyPost_ret (v := .tuple #[.bool false, .bool false]) (by simp [results, Try.results40, go_sem]) rfl ⟨by rw [HE.out], _, by rw [World.drewN_drewN, World.drewN_drewN]⟩
        · have e1 : decide ((t : Int) < (T : Int)) = false := decide_eq_false (by omega)
          have HS2 : Hid (behF Nu Fi T t l = if nu then behF Nu Fi T t (l.drop (k + 1)) else (false, false)) := by show behF Nu Fi T t l = _; rw [HS.out, HNu.out]; simp [htT]
          clear hrow hrl
          cases nu with
          | true =>
            have HE : Hid (behF Nu Fi T t l = behF Nu Fi T t (l.drop (k + 1))) := HS2.out
            go_wp2_with fail
            go_big_quiet (fail)
            go_wp2_with fail
            go_big_quiet (fail)
            go_wp2_with fail
            go_roundw
            case rel => exact ⟨k + 1, _, by go_num, by omega, rfl, HE.out⟩
            case measure => simp [intOf]; omega
          | false =>
            have HE : Hid (behF Nu Fi T t l = (false, false)) := HS2.out
            go_wp2_with fail
            go_big_quiet (fail)
            go_wp2_with fail
            go_big_quiet (fail)
            go_wp2_with fail
            refine bodyPost_ret (v := .tuple #[.bool false, .bool false]) (by simp [results, Try.results40, go_sem]) rfl ⟨by rw [HE.out], _, by rw [World.drewN_drewN, World.drewN_drewN]⟩
    · have HE : Hid (behF Nu Fi T t l = (false, true)) := by show behF Nu Fi T t l = _; rw [HB.out, List.drop_of_length_le (by omega)]; rfl
      go_wp2_with fail
      refine bodyPost_ret (v := .tuple #[.bool false, .bool true]) (by simp [results, Try.results40, go_sem]) rfl ⟨by rw [HE.out], m, rfl⟩

end Go.Proofs.Ytkkcmcckdaobmaa
