/- Plain: a derivation read by a stack of what is still to come is read as by recursion. No program, no memory. -/
import Derived.Test.YtgkikliaadjmiaaMath
namespace Go.Proofs.Ytgkikliaadjmiaa

/-- What is still to come: a symbol, or the end of the rule of a span. -/
inductive Jt where
  | sym (s : Sy)
  | close (k : Nat)

/-- Where a span ends is written. -/
def St.shut (st : St) (k : Nat) : St := { st with S := st.S.set k ((st.S.getD k (0, 0, 0)).1, (st.S.getD k (0, 0, 0)).2.1, st.Y.length) }

/-- What comes of all that is still to come, the next one first. -/
def fin (R : List Ru) (D : List Int) : List Jt → St → Option St
  | [], st => some st
  | .close k :: K, st => fin R D K (st.shut k)
  | .sym (true, v) :: K, st => fin R D K { st with Y := st.Y ++ [v] }
  | .sym (false, n) :: K, st =>
    match nameF R D (D.length - st.pos) n st with
    | none => none
    | some st' => fin R D K st'

theorem symsF_congr {f g : Int → St → Option St} (p : St → Prop) (hp : ∀ st n st', p st → f n st = some st' → p st') (hY : ∀ st Y, p st → p { st with Y := Y }) (h : ∀ n st, p st → f n st = g n st) :
    ∀ (l : List Sy) (st : St), p st → symsF f l st = symsF g l st := by
  intro l
  induction l with
  | nil => intro st _; rfl
  | cons s r ih =>
    intro st hst
    obtain ⟨b, v⟩ := s
    cases b with
    | true => simp only [symsF]; exact ih _ (hY _ _ hst)
    | false =>
      simp only [symsF]
      rw [← h v st hst]
      cases hf : f v st with
      | none => rfl
      | some st' => exact ih _ (hp _ _ _ hst hf)

theorem nameF_pos {R : List Ru} {D : List Int} {k : Nat} {n : Int} {st st' : St} (h : nameF R D k n st = some st') : st.pos < st'.pos :=
  (nameF_grew (M := ((R.map fun r => r.2.length).foldr max 0)) (fun q => by
    by_cases hq : q < R.length
    · have : R.getD q (0, []) ∈ R := by simp [List.getD, hq]
      generalize R.getD q (0, []) = r at this
      clear hq h
      induction R with
      | nil => cases this
      | cons a t ih =>
        simp only [List.map_cons, List.foldr_cons]
        cases this with
        | head => exact Nat.le_max_left _ _
        | tail _ hm => exact Nat.le_trans (ih hm) (Nat.le_max_right _ _)
    · simp [List.getD, List.getElem?_eq_none (by omega : R.length ≤ q)]) k n st st' h).2.1

theorem nameF_past {R : List Ru} {D : List Int} {n : Int} {st : St} (h : D.length ≤ st.pos) : ∀ k, nameF R D k n st = none := by
  intro k
  cases k with
  | zero => rfl
  | succ k =>
    have hn : nextF R D n st.pos = none := by simp [nextF, List.getElem?_eq_none h]
    simp [nameF, hn]

/-- More fuel tells no more. -/
theorem nameF_fuel {R : List Ru} {D : List Int} : ∀ (k k' : Nat) (n : Int) (st : St), D.length - st.pos ≤ k → D.length - st.pos ≤ k' → nameF R D k n st = nameF R D k' n st := by
  intro k
  induction k with
  | zero =>
    intro k' n st h _
    rw [nameF_past (by omega), nameF_past (by omega)]
  | succ k ih =>
    intro k' n st h h'
    cases k' with
    | zero => rw [nameF_past (by omega), nameF_past (by omega)]
    | succ k' =>
      simp only [nameF]
      cases hq : nextF R D n st.pos with
      | none => rfl
      | some q =>
        simp only
        rw [symsF_congr (f := nameF R D k) (g := nameF R D k') (fun x => D.length - x.pos ≤ k ∧ D.length - x.pos ≤ k') ?_ ?_ ?_ _ _ ?_]
        · intro x n' x' hx hf
          have := nameF_pos hf
          omega
        · intro x Y hx; exact hx
        · intro n' x hx
          exact ih k' n' x hx.1 hx.2
        · simp only; omega

theorem fin_syms {R : List Ru} {D : List Int} (k : Nat) : ∀ (l : List Sy) (K : List Jt) (st : St), D.length - st.pos ≤ k →
    fin R D (l.map Jt.sym ++ K) st = match symsF (nameF R D k) l st with
      | none => none
      | some st' => fin R D K st' := by
  intro l
  induction l with
  | nil => intro K st _; simp [symsF]
  | cons s r ih =>
    intro K st h
    obtain ⟨b, v⟩ := s
    cases b with
    | true =>
      simp only [List.map_cons, List.cons_append, fin, symsF]
      exact ih K _ h
    | false =>
      simp only [List.map_cons, List.cons_append, fin, symsF]
      rw [nameF_fuel (D.length - st.pos) k v st (Nat.le_refl _) h]
      cases hf : nameF R D k v st with
      | none => rfl
      | some st' =>
        have := nameF_pos hf
        exact ih K st' (by omega)

theorem maxR (R : List Ru) : ∀ q, (R.getD q (0, [])).2.length ≤ ((R.map fun r => r.2.length).foldr max 0) := fun q => by
  by_cases hq : q < R.length
  · have : R.getD q (0, []) ∈ R := by simp [List.getD, hq]
    generalize R.getD q (0, []) = r at this
    clear hq
    induction R with
    | nil => cases this
    | cons a t ih =>
      simp only [List.map_cons, List.foldr_cons]
      cases this with
      | head => exact Nat.le_max_left _ _
      | tail _ hm => exact Nat.le_trans (ih hm) (Nat.le_max_right _ _)
  · simp [List.getD, List.getElem?_eq_none (by omega : R.length ≤ q)]

/-- One rule is opened. -/
theorem fin_open {R : List Ru} {D : List Int} {n : Int} {q : Nat} {K : List Jt} {st : St} (hq : nextF R D n st.pos = some q) (hS : st.S.length = st.pos) :
    fin R D (.sym (false, n) :: K) st = fin R D ((R.getD q (0, [])).2.map Jt.sym ++ .close st.pos :: K) { pos := st.pos + 1, Y := st.Y, S := st.S ++ [((q : Int), st.Y.length, 0)] } := by
  have hlt : st.pos < D.length := by
    obtain ⟨h1, _, _⟩ := nextF_some hq
    rcases Nat.lt_or_ge st.pos D.length with h | h
    · exact h
    · rw [List.getElem?_eq_none h] at h1; cases h1
  obtain ⟨k, hk⟩ : ∃ k, D.length - st.pos = k + 1 := ⟨D.length - st.pos - 1, by omega⟩
  rw [fin, hk, fin_syms k _ _ _ (by simp only; omega)]
  cases hs : symsF (nameF R D k) (R.getD q (0, [])).2 { pos := st.pos + 1, Y := st.Y, S := st.S ++ [((q : Int), st.Y.length, 0)] } with
  | none => rw [nameF_none hq rfl hs]
  | some st' =>
    rw [nameF_some hq rfl hs]
    simp only [fin]
    have g := symsF_grew (M := ((R.map fun r => r.2.length).foldr max 0)) (D := D) (f := nameF R D k) (fun n st st' h => ?_) _ _ _ hs
    · obtain ⟨T, hT, _, _⟩ := g.seg
      simp only [List.append_assoc, List.singleton_append] at hT
      have hp : st'.S[st.S.length]? = some ((q : Int), st.Y.length, 0) := by rw [hT]; simp
      have : st'.shut st.pos = { st' with S := st'.S.set st.S.length ((q : Int), st.Y.length, st'.Y.length) } := by
        unfold St.shut
        rw [← hS]
        simp [List.getD, hp]
      rw [this]
    · exact (nameF_grew (maxR R) k n st st' h).1

theorem fin_stuck {R : List Ru} {D : List Int} {n : Int} {K : List Jt} {st : St} (hq : nextF R D n st.pos = none) : fin R D (.sym (false, n) :: K) st = none := by
  rw [fin]
  cases h : D.length - st.pos with
  | zero => rfl
  | succ k => simp [nameF, hq]

/-- What the stack tells of the whole is what readF tells. -/
theorem readF_fin {R : List Ru} {D : List Int} (hD : D.length ≤ 400) : readF R D = match fin R D [.sym (false, 0)] { pos := 0, Y := [], S := [] } with
    | none => none
    | some st => if st.pos < D.length then none else some st := by
  unfold readF
  rw [if_neg (by omega), fin, Nat.sub_zero]
  cases nameF R D D.length 0 { pos := 0, Y := [], S := [] } <;> rfl

end Go.Proofs.Ytgkikliaadjmiaa
