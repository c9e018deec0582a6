/- Plain lists and numbers: what the reader of package gram makes of a list of rules' numbers, and what is true of the spans that it lays. No program, no memory. -/
namespace Go.Proofs.Ytkmdbhajoabggaa

/-- A symbol: is it a term; its number. -/
abbrev Sy := Bool × Int
/-- A rule: its Left; its Right. -/
abbrev Ru := Int × List Sy
/-- A span: rule, from, to. -/
abbrev Sp := Int × Nat × Nat

/-- What a reader has done so far: how many numbers it has taken, the yield, the spans. -/
structure St where
  pos : Nat
  Y : List Int
  S : List Sp

/-- The next number, if it is that of a rule of the name n. -/
def nextF (R : List Ru) (D : List Int) (n : Int) (p : Nat) : Option Nat :=
  match D[p]? with
  | none => none
  | some q =>
    if 0 ≤ q ∧ q < R.length then
      (if (R.getD q.toNat (0, [])).1 = n then some q.toNat else none)
    else none

def symsF (f : Int → St → Option St) : List Sy → St → Option St
  | [], st => some st
  | (true, v) :: r, st => symsF f r { st with Y := st.Y ++ [v] }
  | (false, n) :: r, st =>
    match f n st with
    | none => none
    | some st' => symsF f r st'

def nameF (R : List Ru) (D : List Int) : Nat → Int → St → Option St
  | 0, _, _ => none
  | k + 1, n, st =>
    match nextF R D n st.pos with
    | none => none
    | some q =>
      match symsF (nameF R D k) (R.getD q (0, [])).2 { pos := st.pos + 1, Y := st.Y, S := st.S ++ [((q : Int), st.Y.length, 0)] } with
      | none => none
      | some st' => some { st' with S := st'.S.set st.S.length ((q : Int), st.Y.length, st'.Y.length) }

def readF (R : List Ru) (D : List Int) : Option St :=
  if 400 < D.length then none
  else
    match nameF R D D.length 0 { pos := 0, Y := [], S := [] } with
    | none => none
    | some st => if st.pos < D.length then none else some st

/-- What holds of the spans T that were laid while the numbers from a on were taken, and the yield grew from lo to hi. -/
def Seg (D : List Int) (a lo hi : Nat) (T : List Sp) : Prop :=
  ∀ i t, T[i]? = some t → D[a + i]? = some t.1 ∧ lo ≤ t.2.1 ∧ t.2.1 ≤ t.2.2 ∧ t.2.2 ≤ hi ∧ ∀ j u, j + 1 = i → T[j]? = some u → u.2.1 ≤ t.2.1

theorem Seg.nil (D : List Int) (a lo hi : Nat) : Seg D a lo hi [] := by
  intro i t h
  simp at h

theorem Seg.wide {D : List Int} {a lo hi hi' : Nat} {T : List Sp} (h : Seg D a lo hi T) (hh : hi ≤ hi') : Seg D a lo hi' T := by
  intro i t ht
  obtain ⟨h1, h2, h3, h4, h5⟩ := h i t ht
  exact ⟨h1, h2, h3, by omega, h5⟩

theorem Seg.append {D : List Int} {a lo mid hi : Nat} {T U : List Sp} (h : Seg D a lo mid T) (k : Seg D (a + T.length) mid hi U) (h1 : lo ≤ mid) (h2 : mid ≤ hi) : Seg D a lo hi (T ++ U) := by
  intro i t ht
  by_cases hi' : i < T.length
  · rw [List.getElem?_append_left hi'] at ht
    obtain ⟨a1, a2, a3, a4, a5⟩ := h i t ht
    refine ⟨a1, a2, a3, by omega, fun j u hj hu => a5 j u hj ?_⟩
    rwa [List.getElem?_append_left (by omega)] at hu
  · rw [List.getElem?_append_right (by omega)] at ht
    obtain ⟨a1, a2, a3, a4, a5⟩ := k _ t ht
    refine ⟨by rw [← a1]; congr 1; omega, by omega, a3, a4, fun j u hj hu => ?_⟩
    by_cases hj' : j < T.length
    · rw [List.getElem?_append_left hj'] at hu
      obtain ⟨_, _, b3, b4, _⟩ := h j u hu
      omega
    · rw [List.getElem?_append_right (by omega)] at hu
      exact a5 _ u (by omega) hu

theorem Seg.cons {D : List Int} {a lo hi : Nat} {q : Int} {T : List Sp} (hq : D[a]? = some q) (h : Seg D (a + 1) lo hi T) (h1 : lo ≤ hi) : Seg D a lo hi ((q, lo, hi) :: T) := by
  intro i t ht
  cases i with
  | zero =>
    simp only [List.getElem?_cons_zero, Option.some.injEq] at ht
    subst ht
    exact ⟨by simpa using hq, Nat.le_refl _, h1, Nat.le_refl _, fun j u hj _ => by omega⟩
  | succ i =>
    simp only [List.getElem?_cons_succ] at ht
    obtain ⟨a1, a2, a3, a4, a5⟩ := h i t ht
    refine ⟨by rw [← a1]; congr 1; omega, a2, a3, a4, fun j u hj hu => ?_⟩
    cases j with
    | zero =>
      simp only [List.getElem?_cons_zero, Option.some.injEq] at hu
      subst hu
      exact a2
    | succ j =>
      simp only [List.getElem?_cons_succ] at hu
      exact a5 j u (by omega) hu

theorem nextF_some {R : List Ru} {D : List Int} {n : Int} {p q : Nat} (h : nextF R D n p = some q) :
    D[p]? = some (q : Int) ∧ q < R.length ∧ (R.getD q (0, [])).1 = n := by
  unfold nextF at h
  split at h
  · cases h
  · rename_i x hx
    split at h
    · rename_i hb
      split at h
      · rename_i hn
        cases h
        refine ⟨?_, by omega, hn⟩
        rw [hx]
        congr 1
        omega
      · cases h
    · cases h

theorem nameF_some {R : List Ru} {D : List Int} {k q : Nat} {n : Int} {st st' : St} {Rt : List Sy} (hq : nextF R D n st.pos = some q) (hR : (R.getD q (0, [])).2 = Rt)
    (h : symsF (nameF R D k) Rt { pos := st.pos + 1, Y := st.Y, S := st.S ++ [((q : Int), st.Y.length, 0)] } = some st') :
    nameF R D (k + 1) n st = some { st' with S := st'.S.set st.S.length ((q : Int), st.Y.length, st'.Y.length) } := by
  subst hR
  rw [nameF, hq]
  simp only [h]

theorem nameF_none {R : List Ru} {D : List Int} {k q : Nat} {n : Int} {st : St} {Rt : List Sy} (hq : nextF R D n st.pos = some q) (hR : (R.getD q (0, [])).2 = Rt)
    (h : symsF (nameF R D k) Rt { pos := st.pos + 1, Y := st.Y, S := st.S ++ [((q : Int), st.Y.length, 0)] } = none) :
    nameF R D (k + 1) n st = none := by
  subst hR
  rw [nameF, hq]
  simp only [h]

/-- What a derivation that is read leaves. -/
structure Grew (D : List Int) (M : Nat) (st st' : St) (extra : Nat) : Prop where
  pos : st.pos ≤ st'.pos
  top : st.pos ≤ D.length → st'.pos ≤ D.length
  yl : st.Y.length ≤ st'.Y.length
  pot : st.pos ≤ D.length → st'.Y.length + (D.length - st'.pos) * M ≤ st.Y.length + extra + (D.length - st.pos) * M
  seg : ∃ T, st'.S = st.S ++ T ∧ T.length = st'.pos - st.pos ∧ Seg D st.pos st.Y.length st'.Y.length T

theorem symsF_grew {D : List Int} {M : Nat} {f : Int → St → Option St} (hf : ∀ n st st', f n st = some st' → Grew D M st st' 0) :
    ∀ (l : List Sy) (st st' : St), symsF f l st = some st' → Grew D M st st' l.length := by
  intro l
  induction l with
  | nil =>
    intro st st' h
    simp only [symsF, Option.some.injEq] at h
    subst h
    exact ⟨Nat.le_refl _, fun h => h, Nat.le_refl _, fun _ => by simp, [], by simp, by simp, Seg.nil _ _ _ _⟩
  | cons s r ih =>
    intro st st' h
    obtain ⟨b, v⟩ := s
    cases b with
    | true =>
      simp only [symsF] at h
      have g := ih _ _ h
      obtain ⟨T, h1, h2, h3⟩ := g.seg
      have gy := g.yl
      simp only [List.length_append, List.length_cons, List.length_nil] at gy
      refine ⟨g.pos, g.top, by omega, fun hp => ?_, T, h1, h2, ?_⟩
      · have := g.pot hp
        simp only [List.length_append, List.length_cons, List.length_nil] at this ⊢
        omega
      · intro i t ht
        obtain ⟨a1, a2, a3, a4, a5⟩ := h3 i t ht
        simp only [List.length_append, List.length_cons, List.length_nil] at a2
        exact ⟨a1, by omega, a3, a4, a5⟩
    | false =>
      simp only [symsF] at h
      split at h
      · cases h
      · rename_i st1 hst1
        have g1 := hf _ _ _ hst1
        have g2 := ih _ _ h
        obtain ⟨T, h1, h2, h3⟩ := g1.seg
        obtain ⟨U, k1, k2, k3⟩ := g2.seg
        have p1 := g1.pos
        have p2 := g2.pos
        have y1 := g1.yl
        have y2 := g2.yl
        refine ⟨by omega, fun hp => g2.top (g1.top hp), by omega, fun hp => ?_, T ++ U, ?_, ?_, ?_⟩
        · have q1 := g1.pot hp
          have q2 := g2.pot (g1.top hp)
          simp only [List.length_cons]
          omega
        · rw [k1, h1, List.append_assoc]
        · rw [List.length_append]; omega
        · refine h3.append ?_ y1 y2
          rw [show st.pos + T.length = st1.pos by omega]
          exact k3

theorem nameF_grew {R : List Ru} {D : List Int} {M : Nat} (hM : ∀ q, (R.getD q (0, [])).2.length ≤ M) :
    ∀ (k : Nat) (n : Int) (st st' : St), nameF R D k n st = some st' →
      Grew D M st st' 0 ∧ st.pos < st'.pos ∧ ∃ q T, st'.S = st.S ++ (q, st.Y.length, st'.Y.length) :: T := by
  intro k
  induction k with
  | zero =>
    intro n st st' h
    simp [nameF] at h
  | succ k ih =>
    intro n st st' h
    simp only [nameF] at h
    split at h
    · cases h
    · rename_i q hq
      split at h
      · cases h
      · rename_i st1 hst1
        cases h
        obtain ⟨d1, d2, d3⟩ := nextF_some hq
        have g := symsF_grew (M := M) (fun n st st' h => (ih n st st' h).1) _ _ _ hst1
        obtain ⟨T, h1, h2, h3⟩ := g.seg
        have gp := g.pos
        have gy := g.yl
        have hlt : st.pos < D.length := by
          rcases Nat.lt_or_ge st.pos D.length with h | h
          · exact h
          · rw [List.getElem?_eq_none h] at d1; cases d1
        simp only at gp gy h1 h2 h3
        have hS : st1.S.set st.S.length ((q : Int), st.Y.length, st1.Y.length) = st.S ++ ((q : Int), st.Y.length, st1.Y.length) :: T := by
          rw [h1, List.append_assoc, List.singleton_append, List.set_append_right _ _ (Nat.le_refl _)]
          simp
        refine ⟨⟨by simp only; omega, fun _ => g.top (by simp only; omega), by simp only; omega, fun hp => ?_, ((q : Int), st.Y.length, st1.Y.length) :: T, hS, ?_, ?_⟩, by simp only; omega, _, T, hS⟩
        · have hm := hM q
          have hpot := g.pot (by simp only; omega)
          simp only at hpot ⊢
          have e : D.length - st.pos = (D.length - (st.pos + 1)) + 1 := by omega
          rw [e, Nat.add_mul, Nat.one_mul]
          omega
        · simp only [List.length_cons]; omega
        · exact Seg.cons d1 h3 gy

/-- WHAT IS TOLD OF A DERIVATION, where it is one. -/
theorem readF_good {R : List Ru} {D : List Int} {M : Nat} (hM : ∀ q, (R.getD q (0, [])).2.length ≤ M) {st : St} (h : readF R D = some st) :
    D.length ≤ 400 ∧ st.pos = D.length ∧ st.S.length = D.length ∧ 0 < D.length ∧ Seg D 0 0 st.Y.length st.S ∧ (∃ q T, st.S = (q, 0, st.Y.length) :: T) ∧ st.Y.length ≤ D.length * M := by
  unfold readF at h
  split at h
  · cases h
  · split at h
    · cases h
    · rename_i hl st1 h1
      split at h
      · cases h
      · rename_i hp
        cases h
        obtain ⟨g, hpos, q, T, hS⟩ := nameF_grew hM _ _ _ _ h1
        obtain ⟨U, u1, u2, u3⟩ := g.seg
        have ht := g.top (by simp)
        have hpot := g.pot (by simp)
        simp only [List.nil_append, List.length_nil] at u1 u2 u3 hS hpot
        refine ⟨by omega, by omega, ?_, by omega, ?_, ⟨q, T, hS⟩, ?_⟩
        · rw [u1, u2]; omega
        · rw [u1]; exact u3
        · have : D.length - st.pos = 0 := by omega
          rw [this] at hpot
          simpa using hpot

end Go.Proofs.Ytkmdbhajoabggaa
