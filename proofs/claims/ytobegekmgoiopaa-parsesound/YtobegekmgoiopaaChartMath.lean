/- Plain: the chart of package recog, as functions; that it tells just what the grammar has; that it comes to an end. No program. -/
import Derived.Test.YtobegekmgoiopaaTkOfAndFirstMath
namespace Go.Proofs.Ytobegekmgoiopaa

/-- An item: a rule, how many symbols of its Right are read, from where, to where. -/
structure Itm where
  rule : Nat
  read : Nat
  fr : Nat
  upto : Nat
  deriving DecidableEq
/-- A name, and where it begins. -/
abbrev Spt := Int × Nat

structure ChS where
  I : List Itm
  O : List Itm
  W : Spt → List Itm
  E : Spt → List Nat
  c : Nat

def setS {α : Type} (f : Spt → α) (s : Spt) (x : α) : Spt → α := fun t => if t = s then x else f t
theorem setS_same {α : Type} (f : Spt → α) (s : Spt) (x : α) : setS f s x s = x := by simp [setS]
theorem setS_other {α : Type} (f : Spt → α) {s t : Spt} (h : t ≠ s) (x : α) : setS f s x t = f t := by simp [setS, h]

def adv (it : Itm) (j : Nat) : Itm := ⟨it.rule, it.read + 1, it.fr, j⟩
def putF (st : ChS) (it : Itm) : ChS := if it ∈ st.I then st else { st with I := st.I ++ [it], O := st.O ++ [it] }
def beginF (R : List Ru) (s : Spt) : Nat → ChS → ChS
  | 0, st => st
  | k + 1, st => if (R.getD k (0, [])).1 = s.1 then putF (beginF R s k st) ⟨k, 0, s.2, s.2⟩ else beginF R s k st
def onE (it : Itm) (L : List Nat) (st : ChS) : ChS := L.foldl (fun st j => putF st (adv it j)) st
def onW (j : Nat) (L : List Itm) (st : ChS) : ChS := L.foldl (fun st it => putF st (adv it j)) st
def addW (s : Spt) (it : Itm) (st : ChS) : ChS := { st with W := setS st.W s (st.W s ++ [it]) }
def addE (s : Spt) (j : Nat) (st : ChS) : ChS := { st with E := setS st.E s (st.E s ++ [j]) }
def waitF (R : List Ru) (s : Spt) (it : Itm) (st : ChS) : ChS :=
  let st1 := if st.W s = [] then beginF R s R.length st else st
  onE it (st.E s) (addW s it st1)
def endF (s : Spt) (j : Nat) (st : ChS) : ChS := if j ∈ st.E s then st else onW j (st.W s) (addE s j st)
def chLookF (R : List Ru) (tok : List Int) (it : Itm) (st : ChS) : ChS :=
  if it.read = (R.getD it.rule (0, [])).2.length then endF ((R.getD it.rule (0, [])).1, it.fr) it.upto st
  else if ((R.getD it.rule (0, [])).2.getD it.read (false, 0)).1 = false then waitF R (((R.getD it.rule (0, [])).2.getD it.read (false, 0)).2, it.upto) it st
  else if it.upto < tok.length ∧ tok.getD it.upto 0 = ((R.getD it.rule (0, [])).2.getD it.read (false, 0)).2 then putF st (adv it (it.upto + 1)) else st

/-! ### There are only so many items -/

def chAllIt : List Itm := (List.range 40).flatMap fun a => (List.range 9).flatMap fun b => (List.range 31).flatMap fun c => (List.range 31).map fun d => ⟨a, b, c, d⟩
theorem mem_allIt {it : Itm} (h1 : it.rule < 40) (h2 : it.read < 9) (h3 : it.fr < 31) (h4 : it.upto < 31) : it ∈ chAllIt := by
  unfold chAllIt
  simp only [List.mem_flatMap, List.mem_map, List.mem_range]
  exact ⟨_, h1, _, h2, _, h3, _, h4, rfl⟩
theorem sum_const (k : Nat) : ∀ n : Nat, ((List.range n).map fun _ => k).sum = n * k := by
  intro n
  induction n with
  | zero => simp
  | succ n ih => rw [List.range_succ, List.map_append, List.sum_append, ih, Nat.add_mul]; simp
theorem len_allIt : chAllIt.length = 345960 := by
  unfold chAllIt
  simp only [List.length_flatMap, List.length_map, List.length_range, sum_const]

def chTogo (I : List Itm) : Nat := (chAllIt.filter fun x => decide (x ∉ I)).length

theorem filter_less {x : Itm} {I : List Itm} (hI : x ∉ I) : ∀ U : List Itm, x ∈ U → (U.filter fun y => decide (y ∉ I ++ [x])).length + 1 ≤ (U.filter fun y => decide (y ∉ I)).length := by
  have mono : ∀ U : List Itm, (U.filter fun y => decide (y ∉ I ++ [x])).length ≤ (U.filter fun y => decide (y ∉ I)).length := by
    intro U
    induction U with
    | nil => simp
    | cons a U ih =>
      by_cases h1 : a ∈ I
      · have h2 : a ∈ I ++ [x] := by simp [h1]
        simpa [List.filter_cons, h1] using ih
      · by_cases h2 : a = x
        · subst h2
          have h3 : a ∈ I ++ [a] := by simp
          simp only [List.filter_cons, h1, h3, not_true_eq_false, not_false_eq_true, decide_true, decide_false, if_true, List.length_cons]
          simp only [Bool.false_eq_true, if_false]
          omega
        · have h3 : a ∉ I ++ [x] := by simp [h1, h2]
          simp only [List.filter_cons, h1, h3, not_false_eq_true, decide_true, if_true, List.length_cons]
          omega
  intro U
  induction U with
  | nil => intro h; cases h
  | cons a U ih =>
    intro h
    by_cases h2 : a = x
    · subst h2
      have h3 : a ∈ I ++ [a] := by simp
      simp only [List.filter_cons, hI, h3, not_true_eq_false, not_false_eq_true, decide_true, decide_false, if_true, List.length_cons]
      simp only [Bool.false_eq_true, if_false]
      have := mono U
      omega
    · have hU : x ∈ U := by
        rcases List.mem_cons.1 h with h | h
        · exact absurd h.symm h2
        · exact h
      have := ih hU
      by_cases h1 : a ∈ I
      · have h3 : a ∈ I ++ [x] := by simp [h1]
        simpa [List.filter_cons, h1] using this
      · have h3 : a ∉ I ++ [x] := by simp [h1, h2]
        simp only [List.filter_cons, h1, h3, not_false_eq_true, decide_true, if_true, List.length_cons]
        omega

theorem togo_put {x : Itm} {I : List Itm} (hI : x ∉ I) (hU : x ∈ chAllIt) : chTogo (I ++ [x]) + 1 ≤ chTogo I := filter_less hI _ hU

/-! ### What puts do -/

/-- Items of which Q holds have been put, and nothing else was done. -/
structure Puts (Q : Itm → Prop) (st st' : ChS) : Prop where
  W : st'.W = st.W
  E : st'.E = st.E
  c : st'.c = st.c
  mono : ∀ x ∈ st.I, x ∈ st'.I
  back : ∀ x ∈ st'.I, x ∉ st'.O → x ∈ st.I ∧ x ∉ st.O
  new : ∀ x ∈ st'.I, x ∈ st.I ∨ Q x
  sub : (∀ x ∈ st.O, x ∈ st.I) → ∀ x ∈ st'.O, x ∈ st'.I
  cnt : st'.O.length + st.I.length = st.O.length + st'.I.length
  fit : (∀ x, Q x → x ∈ chAllIt) → st'.I.length + chTogo st'.I ≤ st.I.length + chTogo st.I
  len : st.I.length ≤ st'.I.length

section
variable {Q : Itm → Prop} {st st' : ChS}
theorem Puts.refl (Q : Itm → Prop) (st : ChS) : Puts Q st st := ⟨rfl, rfl, rfl, fun _ h => h, fun _ h1 h2 => ⟨h1, h2⟩, fun _ h => .inl h, fun h => h, rfl, fun _ => Nat.le_refl _, Nat.le_refl _⟩
theorem Puts.trans {st'' : ChS} (h : Puts Q st st') (k : Puts Q st' st'') : Puts Q st st'' :=
  ⟨k.W.trans h.W, k.E.trans h.E, k.c.trans h.c, fun x hx => k.mono x (h.mono x hx), fun x h1 h2 => by obtain ⟨a, b⟩ := k.back x h1 h2; exact h.back x a b,
    fun x hx => by rcases k.new x hx with a | a; exact h.new x a; exact .inr a, fun hs => k.sub (h.sub hs), by have := h.cnt; have := k.cnt; omega, fun hq => by have := h.fit hq; have := k.fit hq; omega, Nat.le_trans h.len k.len⟩
theorem Puts.put {it : Itm} (hq : Q it) : Puts Q st (putF st it) := by
  unfold putF
  split
  · exact Puts.refl _ _
  · rename_i hn
    refine ⟨rfl, rfl, rfl, fun x hx => by simp [hx], fun x h1 h2 => ?_, fun x hx => ?_, fun hs x hx => ?_, by simp; omega, fun hU => ?_, by simp⟩
    · simp only [List.mem_append, List.mem_singleton, not_or] at h1 h2
      rcases h1 with h1 | h1
      · exact ⟨h1, h2.1⟩
      · exact absurd h1 h2.2
    · simp only [List.mem_append, List.mem_singleton] at hx
      rcases hx with hx | rfl
      · exact .inl hx
      · exact .inr hq
    · simp only [List.mem_append, List.mem_singleton] at hx ⊢
      rcases hx with hx | hx
      · exact .inl (hs x hx)
      · exact .inr hx
    · have := togo_put hn (hU _ hq)
      simp only [List.length_append, List.length_singleton]
      omega
theorem mem_put (st : ChS) (it : Itm) : it ∈ (putF st it).I := by
  unfold putF
  split
  · assumption
  · simp
theorem Puts.onE {it : Itm} : ∀ {L : List Nat} {st : ChS}, (∀ j ∈ L, Q (adv it j)) → Puts Q st (onE it L st) := by
  intro L
  induction L with
  | nil => intro st _; exact Puts.refl _ _
  | cons j L ih =>
    intro st h
    exact (Puts.put (h j (by simp))).trans (ih (st := putF st (adv it j)) fun i hi => h i (by simp [hi]))
theorem Puts.onW {j : Nat} : ∀ {L : List Itm} {st : ChS}, (∀ it ∈ L, Q (adv it j)) → Puts Q st (onW j L st) := by
  intro L
  induction L with
  | nil => intro st _; exact Puts.refl _ _
  | cons it L ih =>
    intro st h
    exact (Puts.put (h it (by simp))).trans (ih (st := putF st (adv it j)) fun i hi => h i (by simp [hi]))
theorem mem_onE {it : Itm} : ∀ {L : List Nat} {st : ChS} {j : Nat}, j ∈ L → adv it j ∈ (onE it L st).I := by
  intro L
  induction L with
  | nil => intro st j h; cases h
  | cons i L ih =>
    intro st j h
    rcases List.mem_cons.1 h with rfl | h
    · exact (Puts.onE (Q := fun _ => True) (L := L) (st := putF st (adv it j)) fun _ _ => trivial).mono _ (mem_put _ _)
    · exact ih h
theorem mem_onW {j : Nat} : ∀ {L : List Itm} {st : ChS} {it : Itm}, it ∈ L → adv it j ∈ (onW j L st).I := by
  intro L
  induction L with
  | nil => intro st it h; cases h
  | cons i L ih =>
    intro st it h
    rcases List.mem_cons.1 h with rfl | h
    · exact (Puts.onW (Q := fun _ => True) (L := L) (st := putF st (adv it j)) fun _ _ => trivial).mono _ (mem_put _ _)
    · exact ih h
theorem Puts.begin {R : List Ru} {s : Spt} : ∀ {k : Nat} {st : ChS}, (∀ q, q < k → (R.getD q (0, [])).1 = s.1 → Q ⟨q, 0, s.2, s.2⟩) → Puts Q st (beginF R s k st) := by
  intro k
  induction k with
  | zero => intro st _; exact Puts.refl _ _
  | succ k ih =>
    intro st h
    have h0 := ih (st := st) fun q hq => h q (by omega)
    unfold beginF
    split
    · rename_i he
      exact h0.trans (Puts.put (h k (by omega) he))
    · exact h0
theorem mem_begin {R : List Ru} {s : Spt} : ∀ {k : Nat} {st : ChS} {q : Nat}, q < k → (R.getD q (0, [])).1 = s.1 → (⟨q, 0, s.2, s.2⟩ : Itm) ∈ (beginF R s k st).I := by
  intro k
  induction k with
  | zero => intro st q h; omega
  | succ k ih =>
    intro st q h he
    unfold beginF
    by_cases hk : q = k
    · subst hk
      rw [if_pos he]
      exact mem_put _ _
    · have := ih (st := st) (q := q) (by omega) he
      split
      · exact (Puts.put (Q := fun _ => True) trivial).mono _ this
      · exact this
end

/-! ### What holds of a chart -/

section
variable {R : List Ru} {tok : List Int}

def rightOf (R : List Ru) (it : Itm) : List Sy := (R.getD it.rule (0, [])).2

/-- What an item says is so. -/
structure ItOk (R : List Ru) (tok : List Int) (it : Itm) : Prop where
  rule : it.rule < R.length
  read : it.read ≤ (rightOf R it).length
  le : it.fr ≤ it.upto
  len : it.upto ≤ tok.length
  seq : SeqD (Der R) ((rightOf R it).take it.read) (part tok it.fr it.upto)

theorem ItOk.all {it : Itm} (h : ItOk R tok it) (hR : R.length ≤ 40) (hr : ∀ q, q < R.length → (R.getD q (0, [])).2.length ≤ 8) (ht : tok.length ≤ 30) : it ∈ chAllIt := by
  have h1 := h.rule
  have h2 := h.read
  have h3 := hr _ h.rule
  have h4 := h.le
  have h5 := h.len
  unfold rightOf at h2
  exact mem_allIt (by omega) (by omega) (by omega) (by omega)

/-- What the next symbol of an item asks for is done. -/
def Done (R : List Ru) (tok : List Int) (st : ChS) (it : Itm) : Prop :=
  if it.read = (rightOf R it).length then it.upto ∈ st.E ((R.getD it.rule (0, [])).1, it.fr)
  else if ((rightOf R it).getD it.read (false, 0)).1 = false then it ∈ st.W (((rightOf R it).getD it.read (false, 0)).2, it.upto)
  else it.upto < tok.length ∧ tok.getD it.upto 0 = ((rightOf R it).getD it.read (false, 0)).2 → adv it (it.upto + 1) ∈ st.I

def Begun (R : List Ru) (st : ChS) (s : Spt) : Prop := ∀ q, q < R.length → (R.getD q (0, [])).1 = s.1 → (⟨q, 0, s.2, s.2⟩ : Itm) ∈ st.I

/-- A chart, of whose items those of X alone may not yet have been looked at though they are not open. -/
structure Cht (R : List Ru) (tok : List Int) (X : Itm → Prop) (st : ChS) : Prop where
  ok : ∀ it ∈ st.I, ItOk R tok it
  sub : ∀ it ∈ st.O, it ∈ st.I
  wok : ∀ s it, it ∈ st.W s → it ∈ st.I ∧ it.read < (rightOf R it).length ∧ (rightOf R it).getD it.read (false, 0) = (false, s.1) ∧ it.upto = s.2
  eok : ∀ s j, j ∈ st.E s → s.2 ≤ j ∧ j ≤ tok.length ∧ Der R s.1 (part tok s.2 j)
  done : ∀ it ∈ st.I, it ∉ st.O → X it ∨ Done R tok st it
  meet : ∀ s it j, it ∈ st.W s → j ∈ st.E s → adv it j ∈ st.I
  begun : ∀ s, st.W s ≠ [] → Begun R st s

theorem Done.mono {st st' : ChS} {it : Itm} (h : Done R tok st it) (hI : ∀ x ∈ st.I, x ∈ st'.I) (hW : ∀ s, ∀ x ∈ st.W s, x ∈ st'.W s) (hE : ∀ s, ∀ x ∈ st.E s, x ∈ st'.E s) : Done R tok st' it := by
  unfold Done at h ⊢
  split
  · rename_i h1; rw [if_pos h1] at h; exact hE _ _ h
  · rename_i h1
    rw [if_neg h1] at h
    split
    · rename_i h2; rw [if_pos h2] at h; exact hW _ _ h
    · rename_i h2; rw [if_neg h2] at h; exact fun h3 => hI _ (h h3)

theorem SeqD_append {A : Int → List Int → Prop} : ∀ {l m : List Sy} {Z Z' : List Int}, SeqD A l Z → SeqD A m Z' → SeqD A (l ++ m) (Z ++ Z') := by
  intro l
  induction l with
  | nil => intro m Z Z' h h'; have e : Z = [] := h; subst e; exact h'
  | cons s l ih =>
    intro m Z Z' h h'
    obtain ⟨b, n⟩ := s
    cases b with
    | true => obtain ⟨Y, h1, h2⟩ := h; exact ⟨Y ++ Z', by rw [h1]; rfl, ih h2 h'⟩
    | false => obtain ⟨Z1, Z2, h1, h2, h3⟩ := h; exact ⟨Z1, Z2 ++ Z', by rw [h1, List.append_assoc], h2, ih h3 h'⟩

theorem take_next {l : List Sy} {k : Nat} (h : k < l.length) : l.take (k + 1) = l.take k ++ [l.getD k (false, 0)] := by
  rw [List.take_succ_eq_append_getElem h]
  simp [List.getD, h]

theorem ok_begin {q : Nat} {i : Nat} (hq : q < R.length) (hi : i ≤ tok.length) : ItOk R tok ⟨q, 0, i, i⟩ :=
  ⟨hq, Nat.zero_le _, Nat.le_refl _, hi, by simp only [List.take_zero]; exact part_self _ _⟩

theorem ok_name {it : Itm} (h : ItOk R tok it) {n : Int} {j : Nat} (hr : it.read < (rightOf R it).length) (hs : (rightOf R it).getD it.read (false, 0) = (false, n)) (h1 : it.upto ≤ j) (h2 : j ≤ tok.length) (hd : Der R n (part tok it.upto j)) : ItOk R tok (adv it j) := by
  refine ⟨h.rule, hr, Nat.le_trans h.le h1, h2, ?_⟩
  show SeqD (Der R) ((rightOf R it).take (it.read + 1)) (part tok it.fr j)
  rw [take_next hr, hs, part_append h.le h1]
  exact SeqD_append h.seq ⟨_, [], by simp, hd, rfl⟩

theorem ok_term {it : Itm} (h : ItOk R tok it) (hr : it.read < (rightOf R it).length) (hs : ((rightOf R it).getD it.read (false, 0)).1 = true) (h1 : it.upto < tok.length) (h2 : tok.getD it.upto 0 = ((rightOf R it).getD it.read (false, 0)).2) : ItOk R tok (adv it (it.upto + 1)) := by
  refine ⟨h.rule, hr, Nat.le_succ_of_le h.le, h1, ?_⟩
  show SeqD (Der R) ((rightOf R it).take (it.read + 1)) (part tok it.fr (it.upto + 1))
  rw [take_next hr, part_append h.le (Nat.le_succ _), part_cons (Nat.lt_succ_self _) h1, part_self, h2]
  obtain ⟨⟨b, v⟩, hx⟩ : ∃ x, (rightOf R it).getD it.read (false, 0) = x := ⟨_, rfl⟩
  rw [hx] at hs ⊢
  simp only at hs
  subst hs
  exact SeqD_append h.seq ⟨[], rfl, rfl⟩

theorem ok_whole {it : Itm} (h : ItOk R tok it) (hr : it.read = (rightOf R it).length) : Der R (R.getD it.rule (0, [])).1 (part tok it.fr it.upto) := by
  have := h.seq
  rw [hr, List.take_length] at this
  exact Der_step (by simp [List.getD, h.rule]) this

theorem Cht.puts {X : Itm → Prop} {st st' : ChS} (h : Cht R tok X st) (k : Puts (ItOk R tok) st st') : Cht R tok X st' := by
  refine ⟨fun it hi => ?_, k.sub h.sub, fun s it hw => ?_, fun s j hj => h.eok s j (by rw [← k.E]; exact hj), fun it hi ho => ?_, fun s it j hw hj => ?_, fun s hs q hq he => ?_⟩
  · rcases k.new it hi with h1 | h1
    · exact h.ok it h1
    · exact h1
  · rw [k.W] at hw
    obtain ⟨a, b⟩ := h.wok s it hw
    exact ⟨k.mono _ a, b⟩
  · obtain ⟨a, b⟩ := k.back it hi ho
    rcases h.done it a b with h1 | h1
    · exact .inl h1
    · exact .inr (h1.mono k.mono (fun s x hx => by rw [k.W]; exact hx) (fun s x hx => by rw [k.E]; exact hx))
  · rw [k.W] at hw
    rw [k.E] at hj
    exact k.mono _ (h.meet s it j hw hj)
  · rw [k.W] at hs
    exact k.mono _ (h.begun s hs q hq he)

/-- What a look does: puts, and at most one item that waits, and one end. -/
theorem Cht.wait {it : Itm} {st : ChS} (h : Cht R tok (fun x => x = it) st) (hit : it ∈ st.I) {n : Int} (hr : it.read < (rightOf R it).length) (hs : (rightOf R it).getD it.read (false, 0) = (false, n)) :
    Cht R tok (fun _ => False) (waitF R (n, it.upto) it st) := by
  have hok := h.ok it hit
  obtain ⟨st1, h1⟩ : ∃ st1, (if st.W (n, it.upto) = [] then beginF R (n, it.upto) R.length st else st) = st1 := ⟨_, rfl⟩
  have hp1 : Puts (ItOk R tok) st st1 := by
    rw [← h1]
    split
    · exact Puts.begin fun q hq _ => ok_begin hq hok.len
    · exact Puts.refl _ _
  have hB : Begun R st1 (n, it.upto) := by
    rw [← h1]
    split
    · exact fun q hq he => mem_begin hq he
    · rename_i hne
      exact h.begun _ hne
  have hc1 := h.puts hp1
  have hQ : ∀ j ∈ st.E (n, it.upto), ItOk R tok (adv it j) := fun j hj => by
    obtain ⟨a, b, c⟩ := h.eok _ j hj
    exact ok_name hok hr hs a b c
  have hp2 : Puts (ItOk R tok) (addW (n, it.upto) it st1) (onE it (st.E (n, it.upto)) (addW (n, it.upto) it st1)) := Puts.onE hQ
  have hcond : ∀ s x, x ∈ (addW (n, it.upto) it st1).W s → x ∈ st1.W s ∨ (s = (n, it.upto) ∧ x = it) := by
    intro s x hx
    unfold addW at hx
    simp only at hx
    by_cases e : s = (n, it.upto)
    · rw [e, setS_same, List.mem_append, List.mem_singleton] at hx
      rcases hx with hx | hx
      · rw [e]; exact .inl hx
      · exact .inr ⟨e, hx⟩
    · rw [setS_other _ e] at hx
      exact .inl hx
  have hup : ∀ s x, x ∈ st1.W s → x ∈ (addW (n, it.upto) it st1).W s := by
    intro s x hx
    unfold addW
    simp only
    by_cases e : s = (n, it.upto)
    · subst e; rw [setS_same]; simp [hx]
    · rw [setS_other _ e]; exact hx
  have hin : it ∈ (addW (n, it.upto) it st1).W (n, it.upto) := by
    unfold addW
    simp [setS_same]
  unfold waitF
  simp only [h1]
  obtain ⟨st3, h3⟩ : ∃ st3, onE it (st.E (n, it.upto)) (addW (n, it.upto) it st1) = st3 := ⟨_, rfl⟩
  have hmo : ∀ x ∈ st1.I, x ∈ st3.I := by rw [← h3]; exact hp2.mono
  have hW3 : st3.W = (addW (n, it.upto) it st1).W := by rw [← h3]; exact hp2.W
  have hE3 : st3.E = st1.E := by rw [← h3]; exact hp2.E
  have hme : ∀ j ∈ st.E (n, it.upto), adv it j ∈ st3.I := fun j hj => by rw [← h3]; exact mem_onE hj
  have hback := hp2.back
  have hnew := hp2.new
  have hsub := hp2.sub hc1.sub
  rw [h3] at hback hnew hsub ⊢
  refine ⟨fun x hx => ?_, hsub, fun s x hx => ?_, fun s j hj => hc1.eok s j (by rw [← hE3]; exact hj), fun x hx ho => ?_, fun s x j hx hj => ?_, fun s hs' q hq he => ?_⟩
  · rcases hnew x hx with h4 | h4
    · exact hc1.ok x h4
    · exact h4
  · rw [hW3] at hx
    rcases hcond s x hx with h4 | ⟨rfl, rfl⟩
    · obtain ⟨a, b⟩ := hc1.wok s x h4
      exact ⟨hmo _ a, b⟩
    · exact ⟨hmo _ (hp1.mono _ hit), hr, hs, rfl⟩
  · right
    obtain ⟨a, b⟩ := hback x hx ho
    rcases hc1.done x a b with h4 | h4
    · subst h4
      unfold Done
      rw [if_neg (by omega), hs]
      simp only [if_true]
      rw [hW3]
      exact hin
    · exact h4.mono hmo (fun s x hx => by rw [hW3]; exact hup s x hx) (fun s x hx => by rw [hE3]; exact hx)
  · rw [hW3] at hx
    rw [hE3] at hj
    rcases hcond s x hx with h4 | ⟨rfl, rfl⟩
    · exact hmo _ (hc1.meet s x j h4 hj)
    · rw [hp1.E] at hj
      exact hme j hj
  · rw [hW3] at hs'
    by_cases e : s = (n, it.upto)
    · subst e; exact hmo _ (hB q hq he)
    · unfold addW at hs'
      simp only at hs'
      rw [setS_other _ e] at hs'
      exact hmo _ (hc1.begun s hs' q hq he)

theorem Cht.ende {it : Itm} {st : ChS} (h : Cht R tok (fun x => x = it) st) (hit : it ∈ st.I) (hr : it.read = (rightOf R it).length) :
    Cht R tok (fun _ => False) (endF ((R.getD it.rule (0, [])).1, it.fr) it.upto st) := by
  have hok := h.ok it hit
  have hd := ok_whole hok hr
  obtain ⟨n, hn⟩ : ∃ n, (R.getD it.rule (0, [])).1 = n := ⟨_, rfl⟩
  rw [hn] at hd
  unfold endF
  rw [hn]
  split
  · rename_i hin
    refine ⟨h.ok, h.sub, h.wok, h.eok, fun x hx ho => ?_, h.meet, h.begun⟩
    rcases h.done x hx ho with rfl | h4
    · right
      unfold Done
      rw [if_pos hr, hn]
      exact hin
    · exact .inr h4
  · have hQ : ∀ x ∈ st.W (n, it.fr), ItOk R tok (adv x it.upto) := fun x hx => by
      obtain ⟨a, b, c, d⟩ := h.wok _ x hx
      have e : x.upto = it.fr := d
      exact ok_name (h.ok x a) b c (by rw [e]; exact hok.le) hok.len (by rw [e]; exact hd)
    have hp2 : Puts (ItOk R tok) (addE (n, it.fr) it.upto st) (onW it.upto (st.W (n, it.fr)) (addE (n, it.fr) it.upto st)) := Puts.onW hQ
    have hcond : ∀ s j, j ∈ (addE (n, it.fr) it.upto st).E s → j ∈ st.E s ∨ (s = (n, it.fr) ∧ j = it.upto) := by
      intro s x hx
      unfold addE at hx
      simp only at hx
      by_cases e : s = (n, it.fr)
      · rw [e, setS_same, List.mem_append, List.mem_singleton] at hx
        rcases hx with hx | hx
        · rw [e]; exact .inl hx
        · exact .inr ⟨e, hx⟩
      · rw [setS_other _ e] at hx
        exact .inl hx
    have hup : ∀ s j, j ∈ st.E s → j ∈ (addE (n, it.fr) it.upto st).E s := by
      intro s x hx
      unfold addE
      simp only
      by_cases e : s = (n, it.fr)
      · subst e; rw [setS_same]; simp [hx]
      · rw [setS_other _ e]; exact hx
    have hin : it.upto ∈ (addE (n, it.fr) it.upto st).E (n, it.fr) := by
      unfold addE
      simp [setS_same]
    obtain ⟨st3, h3⟩ : ∃ st3, onW it.upto (st.W (n, it.fr)) (addE (n, it.fr) it.upto st) = st3 := ⟨_, rfl⟩
    have hmo : ∀ x ∈ st.I, x ∈ st3.I := by rw [← h3]; exact hp2.mono
    have hE3 : st3.E = (addE (n, it.fr) it.upto st).E := by rw [← h3]; exact hp2.E
    have hW3 : st3.W = st.W := by rw [← h3]; exact hp2.W
    have hme : ∀ x ∈ st.W (n, it.fr), adv x it.upto ∈ st3.I := fun x hx => by rw [← h3]; exact mem_onW hx
    have hback := hp2.back
    have hnew := hp2.new
    have hsub := hp2.sub h.sub
    rw [h3] at hback hnew hsub ⊢
    refine ⟨fun x hx => ?_, hsub, fun s x hx => ?_, fun s j hj => ?_, fun x hx ho => ?_, fun s x j hx hj => ?_, fun s hs' q hq he => ?_⟩
    · rcases hnew x hx with h4 | h4
      · exact h.ok x h4
      · exact h4
    · rw [hW3] at hx
      obtain ⟨a, b⟩ := h.wok s x hx
      exact ⟨hmo _ a, b⟩
    · rw [hE3] at hj
      rcases hcond s j hj with h4 | ⟨rfl, rfl⟩
      · exact h.eok s j h4
      · exact ⟨hok.le, hok.len, hd⟩
    · right
      obtain ⟨a, b⟩ := hback x hx ho
      rcases h.done x a b with h4 | h4
      · subst h4
        unfold Done
        rw [if_pos hr, hn, hE3]
        exact hin
      · exact h4.mono hmo (fun s x hx => by rw [hW3]; exact hx) (fun s x hx => by rw [hE3]; exact hup s x hx)
    · rw [hW3] at hx
      rw [hE3] at hj
      rcases hcond s j hj with h4 | ⟨rfl, rfl⟩
      · exact hmo _ (h.meet s x j hx h4)
      · exact hme x hx
    · rw [hW3] at hs'
      exact hmo _ (h.begun s hs' q hq he)

theorem Cht.look {it : Itm} {st : ChS} (h : Cht R tok (fun x => x = it) st) (hit : it ∈ st.I) : Cht R tok (fun _ => False) (chLookF R tok it st) := by
  have hok := h.ok it hit
  have hread := hok.read
  unfold chLookF
  split
  · rename_i hr
    exact h.ende hit hr
  · rename_i hr
    have hr' : it.read < (rightOf R it).length := by unfold rightOf at hread ⊢; omega
    split
    · rename_i hs
      refine h.wait hit hr' ?_
      unfold rightOf
      exact Prod.ext hs rfl
    · rename_i hs
      have hs' : ((rightOf R it).getD it.read (false, 0)).1 = true := by unfold rightOf; simpa using hs
      split
      · rename_i hc
        have hp : Puts (ItOk R tok) st (putF st (adv it (it.upto + 1))) := Puts.put (ok_term hok hr' hs' hc.1 hc.2)
        have := h.puts hp
        refine ⟨this.ok, this.sub, this.wok, this.eok, fun x hx ho => ?_, this.meet, this.begun⟩
        right
        rcases this.done x hx ho with rfl | h4
        · unfold Done
          rw [if_neg (by omega), if_neg (by rw [hs']; simp)]
          exact fun _ => mem_put _ _
        · exact h4
      · rename_i hc
        refine ⟨h.ok, h.sub, h.wok, h.eok, fun x hx ho => ?_, h.meet, h.begun⟩
        right
        rcases h.done x hx ho with rfl | h4
        · unfold Done
          rw [if_neg (by omega), if_neg (by rw [hs']; simp)]
          exact fun hc' => absurd hc' hc
        · exact h4

/-! ### Where nothing is open, all is found -/

theorem Cht.find {st : ChS} (h : Cht R tok (fun _ => False) st) (hO : st.O = []) : ∀ k (s : Spt) (j : Nat), Begun R st s → s.2 ≤ j → j ≤ tok.length → DerL R k s.1 (part tok s.2 j) → j ∈ st.E s := by
  have hdone : ∀ it ∈ st.I, Done R tok st it := fun it hi => by
    rcases h.done it hi (by rw [hO]; simp) with h1 | h1
    · exact h1.elim
    · exact h1
  intro k
  induction k with
  | zero => intro s j _ _ _ hd; exact hd.elim
  | succ k ih =>
    have inner : ∀ (m : Nat) (it : Itm), it ∈ st.I → (rightOf R it).length - it.read = m → ∀ j, it.upto ≤ j → j ≤ tok.length → SeqD (DerL R k) ((rightOf R it).drop it.read) (part tok it.upto j) → j ∈ st.E ((R.getD it.rule (0, [])).1, it.fr) := by
      intro m
      induction m with
      | zero =>
        intro it hi hm j h1 h2 hd
        have hread := (h.ok it hi).read
        have he : it.read = (rightOf R it).length := by omega
        rw [he, List.drop_length] at hd
        have hd' : part tok it.upto j = [] := hd
        have hl := part_len (tok := tok) h1 h2
        rw [hd'] at hl
        simp only [List.length_nil] at hl
        have hj : j = it.upto := by omega
        subst hj
        have := hdone it hi
        unfold Done at this
        rw [if_pos he] at this
        exact this
      | succ m ihm =>
        intro it hi hm j h1 h2 hd
        have hr : it.read < (rightOf R it).length := by omega
        rw [List.drop_eq_getElem_cons hr] at hd
        have hg : (rightOf R it)[it.read] = (rightOf R it).getD it.read (false, 0) := by simp [List.getD, hr]
        rw [hg] at hd
        have hDn := hdone it hi
        unfold Done at hDn
        rw [if_neg (by omega)] at hDn
        obtain ⟨⟨b, v⟩, hsy⟩ : ∃ x, (rightOf R it).getD it.read (false, 0) = x := ⟨_, rfl⟩
        rw [hsy] at hd hDn
        cases b with
        | true =>
          rw [if_neg (by simp)] at hDn
          obtain ⟨Z', e1, e2⟩ := hd
          have hl := part_len (tok := tok) h1 h2
          rw [e1] at hl
          simp only [List.length_cons] at hl
          have hlt : it.upto < j := by omega
          rw [part_cons hlt h2] at e1
          simp only [List.cons.injEq] at e1
          obtain ⟨e3, rfl⟩ := e1
          have hin := hDn ⟨by omega, e3⟩
          exact ihm (adv it (it.upto + 1)) hin (by show (rightOf R it).length - (it.read + 1) = m; omega) j hlt h2 e2
        | false =>
          rw [if_pos rfl] at hDn
          obtain ⟨Z1, Z2, e1, e2, e3⟩ := hd
          obtain ⟨a1, a2, a3⟩ := part_split h1 h2 e1
          rw [a2] at e2
          rw [a3] at e3
          have hW : st.W (v, it.upto) ≠ [] := fun e => by
            have h5 : it ∈ st.W (v, it.upto) := hDn
            rw [e] at h5
            cases h5
          have hj := ih (v, it.upto) (it.upto + Z1.length) (h.begun _ hW) (by show it.upto ≤ _; omega) (by omega) (by simpa using e2)
          have hin := h.meet _ it _ hDn hj
          exact ihm (adv it (it.upto + Z1.length)) hin (by show (rightOf R it).length - (it.read + 1) = m; omega) j a1 h2 e3
    rintro s j hb h1 h2 ⟨r, hr, he, hd⟩
    obtain ⟨q, hq, hqe⟩ := List.getElem_of_mem hr
    have hg : R.getD q (0, []) = r := by simp [List.getD, hq, hqe]
    have hin := hb q hq (by rw [hg]; exact he)
    have := inner _ ⟨q, 0, s.2, s.2⟩ hin rfl j h1 h2 (by
      show SeqD (DerL R k) ((rightOf R ⟨q, 0, s.2, s.2⟩).drop 0) (part tok s.2 j)
      unfold rightOf
      rw [List.drop_zero]
      simp only
      rw [hg]
      exact hd)
    simp only at this
    rw [hg, he] at this
    exact this

/-- Where nothing is open: the name 0 has become all tokens just where the grammar has them. -/
theorem Cht.tells {st : ChS} (h : Cht R tok (fun _ => False) st) (hO : st.O = []) (hb : Begun R st (0, 0)) : tok.length ∈ st.E (0, 0) ↔ Der R 0 tok := by
  constructor
  · intro hj
    have := (h.eok _ _ hj).2.2
    rw [part_all] at this
    exact this
  · rintro ⟨k, hk⟩
    exact h.find hO k (0, 0) tok.length hb (Nat.zero_le _) (Nat.le_refl _) (by simp only; rw [part_all]; exact hk)

/-! ### It comes to an end -/

/-- What bounds a chart. -/
structure Bnd (st : ChS) : Prop where
  cnt : st.c + st.O.length = st.I.length
  fit : st.I.length + chTogo st.I ≤ 345960
  wl : ∀ s, (st.W s).length ≤ st.c
  el : ∀ s, (st.E s).length ≤ st.c

theorem Bnd.puts {Q : Itm → Prop} {st st' : ChS} (h : Bnd st) (k : Puts Q st st') (hQ : ∀ x, Q x → x ∈ chAllIt) : Bnd st' :=
  ⟨by have := h.cnt; have := k.cnt; have := k.c; omega, Nat.le_trans (k.fit hQ) h.fit, fun s => by rw [k.W, k.c]; exact h.wl s, fun s => by rw [k.E, k.c]; exact h.el s⟩

/-- The last open item is taken. -/
def popF (st : ChS) : ChS := { st with O := st.O.dropLast, c := st.c + 1 }

def lastO (st : ChS) : Itm := st.O.getD (st.O.length - 1) ⟨0, 0, 0, 0⟩

theorem O_last {st : ChS} (h : 0 < st.O.length) : st.O = st.O.dropLast ++ [lastO st] := by
  have hne : st.O ≠ [] := fun e => by rw [e] at h; simp at h
  have e : lastO st = st.O.getLast hne := by
    unfold lastO
    rw [List.getLast_eq_getElem]
    simp [List.getD, show st.O.length - 1 < st.O.length by omega]
  rw [e]
  exact (List.dropLast_concat_getLast hne).symm

theorem Cht.pop {st : ChS} (h : Cht R tok (fun _ => False) st) (hO : 0 < st.O.length) : lastO st ∈ st.I ∧ Cht R tok (fun x => x = lastO st) (popF st) := by
  have e := O_last hO
  refine ⟨h.sub _ (by rw [e]; simp), h.ok, fun x hx => h.sub x (by rw [e]; exact List.mem_append_left _ hx), h.wok, h.eok, fun x hx ho => ?_, h.meet, h.begun⟩
  by_cases hx' : x = lastO st
  · exact .inl hx'
  · rcases h.done x hx (by rw [e]; simp only [List.mem_append, List.mem_singleton, not_or]; exact ⟨ho, hx'⟩) with h1 | h1
    · exact h1.elim
    · exact .inr h1

theorem len_setS {α : Type} {f : Spt → List α} {s t : Spt} {x : α} {c : Nat} (h : ∀ s, (f s).length ≤ c) : (setS f s (f s ++ [x]) t).length ≤ c + 1 := by
  by_cases e : t = s
  · subst e; rw [setS_same]; have := h t; simp; omega
  · rw [setS_other _ e]; have := h t; omega

/-- What a look does, as to bounds: from the popped chart. -/
structure Less (st st' : ChS) : Prop where
  bnd : Bnd st'
  less : 2 * chTogo st'.I + st'.O.length < 2 * chTogo st.I + st.O.length
  mono : ∀ x ∈ st.I, x ∈ st'.I
  c : st'.c = st.c + 1

theorem less_of {st st' : ChS} {O : List Itm} (h : Bnd st) (hO : st.O.length = O.length + 1) (hI : st'.I.length + chTogo st'.I ≤ st.I.length + chTogo st.I) (hc : st'.c = st.c + 1) (hl : st'.O.length + st.I.length = O.length + st'.I.length)
    (hw : ∀ s, (st'.W s).length ≤ st.c + 1) (he : ∀ s, (st'.E s).length ≤ st.c + 1) (hm : ∀ x ∈ st.I, x ∈ st'.I) (hle : st.I.length ≤ st'.I.length) : Less st st' := by
  have := h.cnt
  have := h.fit
  exact ⟨⟨by omega, by omega, fun s => by rw [hc]; exact hw s, fun s => by rw [hc]; exact he s⟩, by omega, hm, hc⟩

theorem look_less {st : ChS} (hb : Bnd st) (h : Cht R tok (fun _ => False) st) (hO : 0 < st.O.length) (hall : ∀ it, ItOk R tok it → it ∈ chAllIt) : Less st (chLookF R tok (lastO st) (popF st)) := by
  obtain ⟨hit, hc⟩ := h.pop hO
  have hok := h.ok _ hit
  have hread := hok.read
  have hOl : st.O.length = st.O.dropLast.length + 1 := by simp; omega
  have hW := hb.wl
  have hE := hb.el
  unfold chLookF
  split
  · rename_i hr
    have hd := ok_whole hok hr
    unfold endF
    split
    · exact less_of hb hOl (Nat.le_refl _) rfl rfl (fun s => Nat.le_succ_of_le (hW s)) (fun s => Nat.le_succ_of_le (hE s)) (fun _ h => h) (Nat.le_refl _)
    · have hp := Puts.onW (Q := ItOk R tok) (j := (lastO st).upto) (L := (popF st).W ((R.getD (lastO st).rule (0, [])).1, (lastO st).fr)) (st := addE ((R.getD (lastO st).rule (0, [])).1, (lastO st).fr) (lastO st).upto (popF st)) fun x hx => by
        obtain ⟨a, b, c, d⟩ := hc.wok _ x hx
        have e : x.upto = (lastO st).fr := d
        exact ok_name (hc.ok x a) b c (by rw [e]; exact hok.le) hok.len (by rw [e]; exact hd)
      exact less_of hb hOl (hp.fit hall) hp.c hp.cnt (fun s => by rw [hp.W]; exact Nat.le_succ_of_le (hW s)) (fun s => by rw [hp.E]; exact len_setS hE) hp.mono hp.len
  · rename_i hr
    have hr' : (lastO st).read < (rightOf R (lastO st)).length := by unfold rightOf at hread ⊢; omega
    split
    · rename_i hs
      obtain ⟨st1, h1⟩ : ∃ st1, (if (popF st).W (((R.getD (lastO st).rule (0, [])).2.getD (lastO st).read (false, 0)).2, (lastO st).upto) = [] then beginF R (((R.getD (lastO st).rule (0, [])).2.getD (lastO st).read (false, 0)).2, (lastO st).upto) R.length (popF st) else popF st) = st1 := ⟨_, rfl⟩
      have hp1 : Puts (ItOk R tok) (popF st) st1 := by
        rw [← h1]
        split
        · exact Puts.begin fun q hq _ => ok_begin hq hok.len
        · exact Puts.refl _ _
      unfold waitF
      simp only [h1]
      have hp := Puts.onE (Q := ItOk R tok) (it := lastO st) (L := (popF st).E (((R.getD (lastO st).rule (0, [])).2.getD (lastO st).read (false, 0)).2, (lastO st).upto)) (st := addW (((R.getD (lastO st).rule (0, [])).2.getD (lastO st).read (false, 0)).2, (lastO st).upto) (lastO st) st1) fun j hj => by
        obtain ⟨a, b, c⟩ := hc.eok _ j hj
        exact ok_name hok hr' (Prod.ext hs rfl) a b c
      have f1 := hp1.fit hall
      have f2 := hp.fit hall
      have n1 := hp1.cnt
      have n2 := hp.cnt
      exact less_of hb hOl (Nat.le_trans f2 f1) (hp.c.trans hp1.c) (by have e1 : (popF st).O = st.O.dropLast := rfl; have e2 : (popF st).I = st.I := rfl; rw [e1, e2] at n1; have e3 : ∀ s, (addW s (lastO st) st1).O = st1.O := fun _ => rfl; have e4 : ∀ s, (addW s (lastO st) st1).I = st1.I := fun _ => rfl; rw [e3, e4] at n2; omega)
        (fun s => by
          rw [hp.W]
          have : ∀ s, (st1.W s).length ≤ st.c := fun s => by rw [hp1.W]; exact hW s
          exact len_setS this) (fun s => by rw [hp.E]; show (st1.E s).length ≤ _; rw [hp1.E]; exact Nat.le_succ_of_le (hE s)) (fun x hx => hp.mono x (hp1.mono x hx)) (Nat.le_trans hp1.len hp.len)
    · rename_i hs
      have hs' : ((rightOf R (lastO st)).getD (lastO st).read (false, 0)).1 = true := by unfold rightOf; simpa using hs
      split
      · rename_i hcd
        have hp : Puts (ItOk R tok) (popF st) (putF (popF st) (adv (lastO st) ((lastO st).upto + 1))) := Puts.put (ok_term hok hr' hs' hcd.1 hcd.2)
        exact less_of hb hOl (hp.fit hall) hp.c hp.cnt (fun s => by rw [hp.W]; exact Nat.le_succ_of_le (hW s)) (fun s => by rw [hp.E]; exact Nat.le_succ_of_le (hE s)) hp.mono hp.len
      · exact less_of hb hOl (Nat.le_refl _) rfl rfl (fun s => Nat.le_succ_of_le (hW s)) (fun s => Nat.le_succ_of_le (hE s)) (fun _ h => h) (Nat.le_refl _)

/-! ### At the beginning -/

def cs0 : ChS := ⟨[], [], fun _ => [], fun _ => [], 0⟩

theorem cht_start (R : List Ru) (tok : List Int) : Cht R tok (fun _ => False) (beginF R (0, 0) R.length cs0) ∧ Begun R (beginF R (0, 0) R.length cs0) (0, 0) ∧ Puts (ItOk R tok) cs0 (beginF R (0, 0) R.length cs0) := by
  have hp : Puts (ItOk R tok) cs0 (beginF R (0, 0) R.length cs0) := Puts.begin fun q hq _ => ok_begin hq (Nat.zero_le _)
  have h0 : Cht R tok (fun _ => False) cs0 := ⟨fun _ h => (by cases h), fun _ h => (by cases h), fun _ _ h => (by cases h), fun _ _ h => (by cases h), fun _ h => (by cases h), fun _ _ _ h => (by cases h), fun _ h => absurd rfl h⟩
  exact ⟨h0.puts hp, fun q hq he => mem_begin hq he, hp⟩

theorem bnd_start {R : List Ru} {tok : List Int} (hall : ∀ it, ItOk R tok it → it ∈ chAllIt) : Bnd (beginF R (0, 0) R.length cs0) := by
  have h1 : chTogo cs0.I ≤ 345960 := by
    unfold chTogo
    rw [← len_allIt]
    exact List.length_filter_le _ _
  have h0 : Bnd cs0 := ⟨rfl, by rw [show cs0.I.length = 0 from rfl, Nat.zero_add]; exact h1, fun _ => Nat.le_refl _, fun _ => Nat.le_refl _⟩
  exact h0.puts (cht_start R tok).2.2 hall
end

end Go.Proofs.Ytobegekmgoiopaa
