import Derived.WalkKit
import Derived.Deep.AppendLies
import Derived.Deep.Draws
import Derived.WalkSmall
import Derived.Test.YtikjekfpgklbdaaRows
import Derived.WalkSpells
import Derived.Deep.QuietTactic
import Derived.BigQuiet
import Derived.Deep.RegionWith
import Derived.Deep.Cut
import Derived.Deep.CutRange
import Derived.Deep.DrawnRows
import Derived.OwnWalk
/- Plain lists and numbers: what the reader of package gram makes of a list of rules' numbers, and what is true of the spans that it lays. No program, no memory. -/
namespace Go.Proofs.Ytikjekfpgklbdaa

/-- A symbol: is it a term; its number. -/
abbrev Sy := Bool × Int
/-- A rule: its Left; its Right. -/
abbrev Ru := Int × List Sy
/-- A span: rule, from, to. -/
abbrev Sp := Int × Nat × Nat

/-- What a reader has done so far: how many numbers it has taken, the yield, the spans. -/
structure St where
  pos : Nat
  Y : List Int
  S : List Sp

/-- The next number, if it is that of a rule of the name n. -/
def nextF (R : List Ru) (D : List Int) (n : Int) (p : Nat) : Option Nat :=
  match D[p]? with
  | none => none
  | some q =>
    if 0 ≤ q ∧ q < R.length then
      (if (R.getD q.toNat (0, [])).1 = n then some q.toNat else none)
    else none

def symsF (f : Int → St → Option St) : List Sy → St → Option St
  | [], st => some st
  | (true, v) :: r, st => symsF f r { st with Y := st.Y ++ [v] }
  | (false, n) :: r, st =>
    match f n st with
    | none => none
    | some st' => symsF f r st'

def nameF (R : List Ru) (D : List Int) : Nat → Int → St → Option St
  | 0, _, _ => none
  | k + 1, n, st =>
    match nextF R D n st.pos with
    | none => none
    | some q =>
      match symsF (nameF R D k) (R.getD q (0, [])).2 { pos := st.pos + 1, Y := st.Y, S := st.S ++ [((q : Int), st.Y.length, 0)] } with
      | none => none
      | some st' => some { st' with S := st'.S.set st.S.length ((q : Int), st.Y.length, st'.Y.length) }

def readF (R : List Ru) (D : List Int) : Option St :=
  if 400 < D.length then none
  else
    match nameF R D D.length 0 { pos := 0, Y := [], S := [] } with
    | none => none
    | some st => if st.pos < D.length then none else some st

/-- What holds of the spans T that were laid while the numbers from a on were taken, and the yield grew from lo to hi. -/
def Seg (D : List Int) (a lo hi : Nat) (T : List Sp) : Prop :=
  ∀ i t, T[i]? = some t → D[a + i]? = some t.1 ∧ lo ≤ t.2.1 ∧ t.2.1 ≤ t.2.2 ∧ t.2.2 ≤ hi ∧ ∀ j u, j + 1 = i → T[j]? = some u → u.2.1 ≤ t.2.1

theorem Seg.nil (D : List Int) (a lo hi : Nat) : Seg D a lo hi [] := by
  intro i t h
  simp at h

theorem Seg.append {D : List Int} {a lo mid hi : Nat} {T U : List Sp} (h : Seg D a lo mid T) (k : Seg D (a + T.length) mid hi U) (h1 : lo ≤ mid) (h2 : mid ≤ hi) : Seg D a lo hi (T ++ U) := by
  intro i t ht
  by_cases hi' : i < T.length
  · rw [List.getElem?_append_left hi'] at ht
    obtain ⟨a1, a2, a3, a4, a5⟩ := h i t ht
    refine ⟨a1, a2, a3, by omega, fun j u hj hu => a5 j u hj ?_⟩
    rwa [List.getElem?_append_left (by omega)] at hu
  · rw [List.getElem?_append_right (by omega)] at ht
    obtain ⟨a1, a2, a3, a4, a5⟩ := k _ t ht
    refine ⟨by rw [← a1]; congr 1; omega, by omega, a3, a4, fun j u hj hu => ?_⟩
    by_cases hj' : j < T.length
    · rw [List.getElem?_append_left hj'] at hu
      obtain ⟨_, _, b3, b4, _⟩ := h j u hu
      omega
    · rw [List.getElem?_append_right (by omega)] at hu
      exact a5 _ u (by omega) hu

theorem Seg.cons {D : List Int} {a lo hi : Nat} {q : Int} {T : List Sp} (hq : D[a]? = some q) (h : Seg D (a + 1) lo hi T) (h1 : lo ≤ hi) : Seg D a lo hi ((q, lo, hi) :: T) := by
  intro i t ht
  cases i with
  | zero =>
    simp only [List.getElem?_cons_zero, Option.some.injEq] at ht
    subst ht
    exact ⟨by simpa using hq, Nat.le_refl _, h1, Nat.le_refl _, fun j u hj _ => by omega⟩
  | succ i =>
    simp only [List.getElem?_cons_succ] at ht
    obtain ⟨a1, a2, a3, a4, a5⟩ := h i t ht
    refine ⟨by rw [← a1]; congr 1; omega, a2, a3, a4, fun j u hj hu => ?_⟩
    cases j with
    | zero =>
      simp only [List.getElem?_cons_zero, Option.some.injEq] at hu
      subst hu
      exact a2
    | succ j =>
      simp only [List.getElem?_cons_succ] at hu
      exact a5 j u (by omega) hu

theorem nextF_some {R : List Ru} {D : List Int} {n : Int} {p q : Nat} (h : nextF R D n p = some q) :
    D[p]? = some (q : Int) ∧ q < R.length ∧ (R.getD q (0, [])).1 = n := by
  unfold nextF at h
  split at h
  · cases h
  · rename_i x hx
    split at h
    · rename_i hb
      split at h
      · rename_i hn
        cases h
        refine ⟨?_, by omega, hn⟩
        rw [hx]
        congr 1
        omega
      · cases h
    · cases h

theorem nameF_some {R : List Ru} {D : List Int} {k q : Nat} {n : Int} {st st' : St} {Rt : List Sy} (hq : nextF R D n st.pos = some q) (hR : (R.getD q (0, [])).2 = Rt)
    (h : symsF (nameF R D k) Rt { pos := st.pos + 1, Y := st.Y, S := st.S ++ [((q : Int), st.Y.length, 0)] } = some st') :
    nameF R D (k + 1) n st = some { st' with S := st'.S.set st.S.length ((q : Int), st.Y.length, st'.Y.length) } := by
  subst hR
  rw [nameF, hq]
  simp only [h]

theorem nameF_none {R : List Ru} {D : List Int} {k q : Nat} {n : Int} {st : St} {Rt : List Sy} (hq : nextF R D n st.pos = some q) (hR : (R.getD q (0, [])).2 = Rt)
    (h : symsF (nameF R D k) Rt { pos := st.pos + 1, Y := st.Y, S := st.S ++ [((q : Int), st.Y.length, 0)] } = none) :
    nameF R D (k + 1) n st = none := by
  subst hR
  rw [nameF, hq]
  simp only [h]

/-- What a derivation that is read leaves. -/
structure Grew (D : List Int) (M : Nat) (st st' : St) (extra : Nat) : Prop where
  pos : st.pos ≤ st'.pos
  top : st.pos ≤ D.length → st'.pos ≤ D.length
  yl : st.Y.length ≤ st'.Y.length
  pot : st.pos ≤ D.length → st'.Y.length + (D.length - st'.pos) * M ≤ st.Y.length + extra + (D.length - st.pos) * M
  seg : ∃ T, st'.S = st.S ++ T ∧ T.length = st'.pos - st.pos ∧ Seg D st.pos st.Y.length st'.Y.length T

theorem symsF_grew {D : List Int} {M : Nat} {f : Int → St → Option St} (hf : ∀ n st st', f n st = some st' → Grew D M st st' 0) :
    ∀ (l : List Sy) (st st' : St), symsF f l st = some st' → Grew D M st st' l.length := by
  intro l
  induction l with
  | nil =>
    intro st st' h
    simp only [symsF, Option.some.injEq] at h
    subst h
    exact ⟨Nat.le_refl _, fun h => h, Nat.le_refl _, fun _ => by simp, [], by simp, by simp, Seg.nil _ _ _ _⟩
  | cons s r ih =>
    intro st st' h
    obtain ⟨b, v⟩ := s
    cases b with
    | true =>
      simp only [symsF] at h
      have g := ih _ _ h
      obtain ⟨T, h1, h2, h3⟩ := g.seg
      have gy := g.yl
      simp only [List.length_append, List.length_cons, List.length_nil] at gy
      refine ⟨g.pos, g.top, by omega, fun hp => ?_, T, h1, h2, ?_⟩
      · have := g.pot hp
        simp only [List.length_append, List.length_cons, List.length_nil] at this ⊢
        omega
      · intro i t ht
        obtain ⟨a1, a2, a3, a4, a5⟩ := h3 i t ht
        simp only [List.length_append, List.length_cons, List.length_nil] at a2
        exact ⟨a1, by omega, a3, a4, a5⟩
    | false =>
      simp only [symsF] at h
      split at h
      · cases h
      · rename_i st1 hst1
        have g1 := hf _ _ _ hst1
        have g2 := ih _ _ h
        obtain ⟨T, h1, h2, h3⟩ := g1.seg
        obtain ⟨U, k1, k2, k3⟩ := g2.seg
        have p1 := g1.pos
        have p2 := g2.pos
        have y1 := g1.yl
        have y2 := g2.yl
        refine ⟨by omega, fun hp => g2.top (g1.top hp), by omega, fun hp => ?_, T ++ U, ?_, ?_, ?_⟩
        · have q1 := g1.pot hp
          have q2 := g2.pot (g1.top hp)
          simp only [List.length_cons]
          omega
        · rw [k1, h1, List.append_assoc]
        · rw [List.length_append]; omega
        · refine h3.append ?_ y1 y2
          rw [show st.pos + T.length = st1.pos by omega]
          exact k3

theorem nameF_grew {R : List Ru} {D : List Int} {M : Nat} (hM : ∀ q, (R.getD q (0, [])).2.length ≤ M) :
    ∀ (k : Nat) (n : Int) (st st' : St), nameF R D k n st = some st' →
      Grew D M st st' 0 ∧ st.pos < st'.pos ∧ ∃ q T, st'.S = st.S ++ (q, st.Y.length, st'.Y.length) :: T := by
  intro k
  induction k with
  | zero =>
    intro n st st' h
    simp [nameF] at h
  | succ k ih =>
    intro n st st' h
    simp only [nameF] at h
    split at h
    · cases h
    · rename_i q hq
      split at h
      · cases h
      · rename_i st1 hst1
        cases h
        obtain ⟨d1, d2, d3⟩ := nextF_some hq
        have g := symsF_grew (M := M) (fun n st st' h => (ih n st st' h).1) _ _ _ hst1
        obtain ⟨T, h1, h2, h3⟩ := g.seg
        have gp := g.pos
        have gy := g.yl
        have hlt : st.pos < D.length := by
          rcases Nat.lt_or_ge st.pos D.length with h | h
          · exact h
          · rw [List.getElem?_eq_none h] at d1; cases d1
        simp only at gp gy h1 h2 h3
        have hS : st1.S.set st.S.length ((q : Int), st.Y.length, st1.Y.length) = st.S ++ ((q : Int), st.Y.length, st1.Y.length) :: T := by
          rw [h1, List.append_assoc, List.singleton_append, List.set_append_right _ _ (Nat.le_refl _)]
          simp
        refine ⟨⟨by simp only; omega, fun _ => g.top (by simp only; omega), by simp only; omega, fun hp => ?_, ((q : Int), st.Y.length, st1.Y.length) :: T, hS, ?_, ?_⟩, by simp only; omega, _, T, hS⟩
        · have hm := hM q
          have hpot := g.pot (by simp only; omega)
          simp only at hpot ⊢
          have e : D.length - st.pos = (D.length - (st.pos + 1)) + 1 := by omega
          rw [e, Nat.add_mul, Nat.one_mul]
          omega
        · simp only [List.length_cons]; omega
        · exact Seg.cons d1 h3 gy

/-- WHAT IS TOLD OF A DERIVATION, where it is one. -/
theorem readF_good {R : List Ru} {D : List Int} {M : Nat} (hM : ∀ q, (R.getD q (0, [])).2.length ≤ M) {st : St} (h : readF R D = some st) :
    D.length ≤ 400 ∧ st.pos = D.length ∧ st.S.length = D.length ∧ 0 < D.length ∧ Seg D 0 0 st.Y.length st.S ∧ (∃ q T, st.S = (q, 0, st.Y.length) :: T) ∧ st.Y.length ≤ D.length * M := by
  unfold readF at h
  split at h
  · cases h
  · split at h
    · cases h
    · rename_i hl st1 h1
      split at h
      · cases h
      · rename_i hp
        cases h
        obtain ⟨g, hpos, q, T, hS⟩ := nameF_grew hM _ _ _ _ h1
        obtain ⟨U, u1, u2, u3⟩ := g.seg
        have ht := g.top (by simp)
        have hpot := g.pot (by simp)
        simp only [List.nil_append, List.length_nil] at u1 u2 u3 hS hpot
        refine ⟨by omega, by omega, ?_, by omega, ?_, ⟨q, T, hS⟩, ?_⟩
        · rw [u1, u2]; omega
        · rw [u1]; exact u3
        · have : D.length - st.pos = 0 := by omega
          rw [this] at hpot
          simpa using hpot

end Go.Proofs.Ytikjekfpgklbdaa

/- Plain: are all names of symbols so? -/
namespace Go.Proofs.Ytikjekfpgklbdaa

def allB (X : List Bool) (l : List Sy) : Bool := l.all fun s => s.1 || X.getD s.2.toNat false

theorem allB_take (X : List Bool) (l : List Sy) (i : Nat) (h : i < l.length) : allB X (l.take (i + 1)) = (allB X (l.take i) && ((l.getD i (false, 0)).1 || X.getD (l.getD i (false, 0)).2.toNat false)) := by
  unfold allB
  rw [List.take_succ_eq_append_getElem h, List.all_append]
  simp [List.getD, h]

theorem allB_bad (X : List Bool) (l : List Sy) (i : Nat) (h : i < l.length) (hb : ((l.getD i (false, 0)).1 || X.getD (l.getD i (false, 0)).2.toNat false) = false) : allB X l = false := by
  unfold allB
  rw [List.all_eq_false]
  refine ⟨l[i], List.getElem_mem h, ?_⟩
  have e : l.getD i (false, 0) = l[i] := by simp [List.getD, h]
  rw [e] at hb
  rw [hb]
  simp

end Go.Proofs.Ytikjekfpgklbdaa

/- How a grammar's rules and a list of numbers lie in memory. No walk. -/
namespace Go.Proofs.Ytikjekfpgklbdaa
open Go.RowKit

/-- The rules R lie in memory below block number lim, at the slice value rv. -/
def RulesAt (w : World) (lim : Nat) (rv : Value) (R : List Ru) : Prop :=
  (∃ ra rc, rv = .slice ra R.length rc) ∧
  ∀ q, q < R.length → ∃ b o rc qa qc, rv = .slice (some ⟨b, o, none⟩) R.length rc ∧ b < lim ∧
    w.cell? ⟨b, o + q * 2, none⟩ = some (.int .i64 (R.getD q (0, [])).1) ∧
    w.cell? ⟨b, o + (q * 2 + 1), none⟩ = some (.slice qa (R.getD q (0, [])).2.length qc) ∧ (R.getD q (0, [])).2.length ≤ qc ∧
    ∀ j, j < (R.getD q (0, [])).2.length → ∃ b' o', qa = some ⟨b', o', none⟩ ∧ b' < lim ∧
      w.cell? ⟨b', o' + j * 2, none⟩ = some (.bool ((R.getD q (0, [])).2.getD j (false, 0)).1) ∧
      w.cell? ⟨b', o' + (j * 2 + 1), none⟩ = some (.int .i64 ((R.getD q (0, [])).2.getD j (false, 0)).2)

/-- The numbers D lie in memory below block number lim, at the slice value dv. -/
def ListAt (w : World) (lim : Nat) (dv : Value) (D : List Int) : Prop :=
  (∃ da dc, dv = .slice da D.length dc) ∧
  ∀ p, p < D.length → ∃ b o dc, dv = .slice (some ⟨b, o, none⟩) D.length dc ∧ b < lim ∧ w.cell? ⟨b, o + p, none⟩ = some (.int .i64 (D.getD p 0))

theorem RulesAt.below {B : Nat} {w w' : World} {rv : Value} {R : List Ru} (h : RulesAt w B rv R) (hb : Below B w w') : RulesAt w' B rv R := by
  refine ⟨h.1, fun q hq => ?_⟩
  obtain ⟨b, o, rc, qa, qc, h1, h2, h3, h4, h6, h5⟩ := h.2 q hq
  refine ⟨b, o, rc, qa, qc, h1, h2, (hb.cell h2).trans h3, (hb.cell h2).trans h4, h6, fun j hj => ?_⟩
  obtain ⟨b', o', k1, k2, k3, k4⟩ := h5 j hj
  exact ⟨b', o', k1, k2, (hb.cell k2).trans k3, (hb.cell k2).trans k4⟩

theorem ListAt.below {B : Nat} {w w' : World} {dv : Value} {D : List Int} (h : ListAt w B dv D) (hb : Below B w w') : ListAt w' B dv D := by
  refine ⟨h.1, fun p hp => ?_⟩
  obtain ⟨b, o, dc, h1, h2, h3⟩ := h.2 p hp
  exact ⟨b, o, dc, h1, h2, (hb.cell h2).trans h3⟩

theorem RulesAt.mono {B B' : Nat} {w : World} {rv : Value} {R : List Ru} (h : RulesAt w B rv R) (hb : B ≤ B') : RulesAt w B' rv R := by
  refine ⟨h.1, fun q hq => ?_⟩
  obtain ⟨b, o, rc, qa, qc, h1, h2, h3, h4, h6, h5⟩ := h.2 q hq
  refine ⟨b, o, rc, qa, qc, h1, by omega, h3, h4, h6, fun j hj => ?_⟩
  obtain ⟨b', o', k1, k2, k3, k4⟩ := h5 j hj
  exact ⟨b', o', k1, by omega, k3, k4⟩

theorem ListAt.mono {B B' : Nat} {w : World} {dv : Value} {D : List Int} (h : ListAt w B dv D) (hb : B ≤ B') : ListAt w B' dv D := by
  refine ⟨h.1, fun p hp => ?_⟩
  obtain ⟨b, o, dc, h1, h2, h3⟩ := h.2 p hp
  exact ⟨b, o, dc, h1, by omega, h3⟩

theorem own_form {w : World} {base : Nat} {e : TypeId} {size : Nat} {v : Value} {n : Nat} {xs : List Value} (h : w.ownsRow base e size v n xs) : ∃ a c, v = .slice a n c := by
  rcases h.2 with ⟨rfl, rfl⟩ | ⟨g, cap, _, rfl, _⟩
  · exact ⟨_, _, rfl⟩
  · exact ⟨_, _, rfl⟩

theorem own_mono {w : World} {base base' : Nat} {e : TypeId} {size : Nat} {v : Value} {n : Nat} {xs : List Value} (h : w.ownsRow base e size v n xs) (hb : base' ≤ base) : w.ownsRow base' e size v n xs := by
  refine ⟨h.1, ?_⟩
  rcases h.2 with h2 | ⟨g, cap, cur, h1, h2, h3⟩
  · exact .inl h2
  · exact .inr ⟨g, cap, cur, h1, by omega, h3⟩

theorem own_below {B base : Nat} {e : TypeId} {size : Nat} {v : Value} {n : Nat} {xs : List Value} {w w' : World} (h : w.ownsRow base e size v n xs) (hb : Below B w w') (hv : ∀ g, v.ownBlock = some g → g < B) : w'.ownsRow base e size v n xs := by
  refine ⟨h.1, ?_⟩
  rcases h.2 with h2 | ⟨g, cap, cur, rfl, h2, h3, h4⟩
  · exact .inl h2
  · exact .inr ⟨g, cap, cur, rfl, h2, (hb.block g (hv g rfl)).trans h3, h4⟩

theorem RulesAt.boxed {w : World} {rv : Value} {R : List Ru} (h : RulesAt w w.heap.size rv R) (o : Obj) : RulesAt (w.alloc o) (w.alloc o).heap.size rv R :=
  (h.below ((Below.refl _ _).alloc (Nat.le_refl _) o)).mono (by simp)
theorem ListAt.boxed {w : World} {dv : Value} {D : List Int} (h : ListAt w w.heap.size dv D) (o : Obj) : ListAt (w.alloc o) (w.alloc o).heap.size dv D :=
  (h.below ((Below.refl _ _).alloc (Nat.le_refl _) o)).mono (by simp)

theorem getD_of_some {α : Type} {l : List α} {i : Nat} {x d : α} (h : l[i]? = some x) : l.getD i d = x := by simp [List.getD, h]

theorem cell_set_other {w : World} {a c : Addr} {u : Value} (h : a.block ≠ c.block ∨ a.off ≠ c.off) : (w.setCell c u).cell? a = w.cell? a := by
  rw [World.cell?_setCell_other]
  intro e
  subst e
  rcases h with h | h <;> exact h rfl

/-- The symbols Rt lie in memory, below block number lim. -/
def RightAt (w : World) (lim : Nat) (qa : Option Addr) (Rt : List Sy) : Prop :=
  ∀ j, j < Rt.length → ∃ b' o', qa = some ⟨b', o', none⟩ ∧ b' < lim ∧
      w.cell? ⟨b', o' + j * 2, none⟩ = some (.bool (Rt.getD j (false, 0)).1) ∧
      w.cell? ⟨b', o' + (j * 2 + 1), none⟩ = some (.int .i64 (Rt.getD j (false, 0)).2)

theorem RightAt.below {B : Nat} {w w' : World} {qa : Option Addr} {Rt : List Sy} (h : RightAt w B qa Rt) (hb : Below B w w') : RightAt w' B qa Rt := fun j hj => by
  obtain ⟨b', o', k1, k2, k3, k4⟩ := h j hj
  exact ⟨b', o', k1, k2, (hb.cell k2).trans k3, (hb.cell k2).trans k4⟩
theorem RightAt.mono {B B' : Nat} {w : World} {qa : Option Addr} {Rt : List Sy} (h : RightAt w B qa Rt) (hb : B ≤ B') : RightAt w B' qa Rt := fun j hj => by
  obtain ⟨b', o', k1, k2, k3, k4⟩ := h j hj
  exact ⟨b', o', k1, by omega, k3, k4⟩

end Go.Proofs.Ytikjekfpgklbdaa

/- The contracts of pollardingref2.null and pollardingref2.begins. -/
namespace Go.Proofs.Ytikjekfpgklbdaa
open Go.RowKit

/-- Truths that can be read at a slice value. -/
def BoolsAt (w : World) (v : Value) (X : List Bool) : Prop :=
  (∃ a c, v = .slice a X.length c) ∧ ∀ i, i < X.length → ∃ g o c, v = .slice (some ⟨g, o, none⟩) X.length c ∧ w.cell? ⟨g, o + i, none⟩ = some (.bool (X.getD i false))
/-- Rows of truths that can be read at a slice value. -/
def MatAt (w : World) (v : Value) (X : List (List Bool)) : Prop :=
  (∃ a c, v = .slice a X.length c) ∧ ∀ i, i < X.length → ∃ g o c rv, v = .slice (some ⟨g, o, none⟩) X.length c ∧ w.cell? ⟨g, o + i, none⟩ = some rv ∧ BoolsAt w rv (X.getD i [])
/-- Symbols that can be read at a slice value. -/
def SymsAt (w : World) (v : Value) (l : List Sy) : Prop :=
  (∃ a c, v = .slice a l.length c ∧ l.length ≤ c) ∧ ∀ j, j < l.length → ∃ b o c, v = .slice (some ⟨b, o, none⟩) l.length c ∧ w.cell? ⟨b, o + j * 2, none⟩ = some (.bool (l.getD j (false, 0)).1) ∧
    w.cell? ⟨b, o + j * 2 + 1, none⟩ = some (.int .i64 (l.getD j (false, 0)).2)

/-- The same cells hold the same. -/
theorem BoolsAt.same {w w' : World} {v : Value} {X : List Bool} (h : BoolsAt w v X) (hw : ∀ b o, b < w.heap.size → w'.cell? ⟨b, o, none⟩ = w.cell? ⟨b, o, none⟩) : BoolsAt w' v X :=
  ⟨h.1, fun i hi => let ⟨g, o, c, h1, h2⟩ := h.2 i hi; ⟨g, o, c, h1, (hw g _ (World.block_lt_of_cell? w _ h2)).trans h2⟩⟩
theorem MatAt.same {w w' : World} {v : Value} {X : List (List Bool)} (h : MatAt w v X) (hw : ∀ b o, b < w.heap.size → w'.cell? ⟨b, o, none⟩ = w.cell? ⟨b, o, none⟩) : MatAt w' v X :=
  ⟨h.1, fun i hi => let ⟨g, o, c, rv, h1, h2, h3⟩ := h.2 i hi; ⟨g, o, c, rv, h1, (hw g _ (World.block_lt_of_cell? w _ h2)).trans h2, h3.same hw⟩⟩
theorem SymsAt.same {w w' : World} {v : Value} {l : List Sy} (h : SymsAt w v l) (hw : ∀ b o, b < w.heap.size → w'.cell? ⟨b, o, none⟩ = w.cell? ⟨b, o, none⟩) : SymsAt w' v l :=
  ⟨h.1, fun j hj => let ⟨b, o, c, h1, h2, h3⟩ := h.2 j hj; ⟨b, o, c, h1, (hw b _ (World.block_lt_of_cell? w _ h2)).trans h2, (hw b _ (World.block_lt_of_cell? w _ h3)).trans h3⟩⟩

/-- A rule of a grammar in memory: its Left, and its Right's symbols. -/
theorem RulesAt.syms {w : World} {B : Nat} {rv : Value} {R : List Ru} (h : RulesAt w B rv R) {q : Nat} (hq : q < R.length) : ∃ b o rc qa qc, rv = .slice (some ⟨b, o, none⟩) R.length rc ∧ b < B ∧
    w.cell? ⟨b, o + q * 2, none⟩ = some (.int .i64 (R.getD q (0, [])).1) ∧ w.cell? ⟨b, o + q * 2 + 1, none⟩ = some (.slice qa (R.getD q (0, [])).2.length qc) ∧ SymsAt w (.slice qa (R.getD q (0, [])).2.length qc) (R.getD q (0, [])).2 := by
  obtain ⟨b, o, rc, qa, qc, h1, h2, h3, h4, h6, h5⟩ := h.2 q hq
  refine ⟨b, o, rc, qa, qc, h1, h2, h3, by rw [Nat.add_assoc]; exact h4, ⟨_, _, rfl, h6⟩, fun j hj => ?_⟩
  obtain ⟨b', o', rfl, _, k1, k2⟩ := h5 j hj
  exact ⟨b', o', qc, rfl, k1, by rw [Nat.add_assoc]; exact k2⟩

theorem same_alloc (w : World) (o' : Obj) : ∀ b o, b < w.heap.size → (w.alloc o').cell? ⟨b, o, none⟩ = w.cell? ⟨b, o, none⟩ := fun _ _ hb => World.cell?_alloc_past _ _ _ hb
theorem same_below {w w' : World} (h : Below w.heap.size w w') : ∀ b o, b < w.heap.size → w'.cell? ⟨b, o, none⟩ = w.cell? ⟨b, o, none⟩ := fun _ _ hb => h.cell hb

theorem SymsAt.take {w : World} {b o c : Nat} {l : List Sy} (h : SymsAt w (.slice (some ⟨b, o, none⟩) l.length c) l) (i : Nat) (hi : i ≤ l.length) : SymsAt w (.slice (some ⟨b, o, none⟩) i c) (l.take i) := by
  have hl : (l.take i).length = i := by simp; omega
  obtain ⟨a', c', e, hc⟩ := h.1
  cases e
  refine ⟨⟨_, _, by rw [hl], by omega⟩, fun j hj => ?_⟩
  rw [hl] at hj
  obtain ⟨b', o', c', e, h1, h2⟩ := h.2 j (by omega)
  cases e
  have hg : (l.take i).getD j (false, 0) = l.getD j (false, 0) := by simp [List.getD, hj]
  exact ⟨b, o, c, by rw [hl], by rw [hg]; exact h1, by rw [hg]; exact h2⟩

theorem SymsAt.drop {w : World} {b o c : Nat} {l : List Sy} (h : SymsAt w (.slice (some ⟨b, o, none⟩) l.length c) l) (n : Nat) (hn : n ≤ l.length) :
    SymsAt w (.slice (if c = n then some ⟨b, o, none⟩ else some ⟨b, o + n * 2, none⟩) (l.length - n) (c - n)) (l.drop n) := by
  have hl : (l.drop n).length = l.length - n := by simp
  obtain ⟨a', c', e, hc⟩ := h.1
  cases e
  refine ⟨⟨_, _, by rw [hl], by omega⟩, fun j hj => ?_⟩
  rw [hl] at hj
  obtain ⟨b', o', c', e, h1, h2⟩ := h.2 (n + j) (by omega)
  cases e
  have hg : (l.drop n).getD j (false, 0) = l.getD (n + j) (false, 0) := by simp [List.getD]
  refine ⟨b, o + n * 2, c - n, by rw [hl, if_neg (by omega)], ?_, ?_⟩
  · rw [hg, ← h1]; congr 2; omega
  · rw [hg, ← h2]; congr 2; omega

end Go.Proofs.Ytikjekfpgklbdaa

/- The contract of pollardingref1.May: it tells what the plain function mayB tells. -/
namespace Go.Proofs.Ytikjekfpgklbdaa
open Go.RowKit

def symB (T N : Int) (s : Sy) : Bool := decide (0 ≤ s.2 ∧ s.2 < if s.1 then T else N)
def ruleB (T N : Int) (r : Ru) : Bool := decide (0 ≤ r.1 ∧ r.1 < N ∧ r.2.length ≤ 8) && r.2.all (symB T N)
def headB (T N : Int) (n : Nat) : Bool := decide (0 ≤ T ∧ T ≤ 8 ∧ 1 ≤ N ∧ N ≤ 12 ∧ n ≤ 40)
/-- A1: may a grammar be? -/
def mayB (T N : Int) (R : List Ru) : Bool := headB T N R.length && R.all (ruleB T N)

theorem all_take_succ {α : Type} (f : α → Bool) (l : List α) (d : α) (j : Nat) (h : j < l.length) : (l.take (j + 1)).all f = ((l.take j).all f && f (l.getD j d)) := by
  rw [List.take_succ_eq_append_getElem h, List.all_append]
  simp [List.getD, h]

theorem all_of_take {α : Type} (f : α → Bool) (l : List α) (j : Nat) (h : l.length ≤ j) : (l.take j).all f = l.all f := by
  rw [List.take_of_length_le h]

theorem not_all {α : Type} (f : α → Bool) (l : List α) (d : α) (j : Nat) (h : j < l.length) (hf : f (l.getD j d) = false) : l.all f = false := by
  rw [List.all_eq_false]
  refine ⟨l[j], List.getElem_mem h, ?_⟩
  simpa [List.getD, h] using hf

theorem rule_bad {T N : Int} {R : List Ru} {j : Nat} (hj : j < R.length) (h : ruleB T N (R.getD j (0, [])) = false) : R.all (ruleB T N) = false := not_all _ R (0, []) j hj h

theorem sym_bad {T N : Int} {r : Ru} {i : Nat} (hi : i < r.2.length) (h : symB T N (r.2.getD i (false, 0)) = false) : ruleB T N r = false := by
  unfold ruleB
  rw [not_all _ r.2 (false, 0) i hi h, Bool.and_false]

set_option maxRecDepth 100000 in
set_option maxHeartbeats 3200000 in
theorem may1_any {w : World} {T N : Int} {rv : Value} {R : List Ru} (hr : RulesAt w w.heap.size rv R) :
    Calls Try.prog 9 #[.agg #[.int .i64 T, .int .i64 N, rv]] w fun e w' => e = .returned (.bool (mayB T N R)) ∧ Below w.heap.size w w' := by
  obtain ⟨ra, rc, hrv⟩ := hr.1
  by_cases hh : headB T N R.length = true
  · have hh' := hh
    simp only [headB, decide_eq_true_eq] at hh'
    obtain ⟨h1, h2, h3, h4, h5⟩ := hh'
    have HR : Hid (RulesAt w w.heap.size rv R) := hr
    have HM : Hid (mayB T N R = R.all (ruleB T N)) := by show mayB T N R = _; simp [mayB, hh]
    clear hr hh
    subst hrv
    go_enter Try.func9, Try.ntmps9
    go_wp2_with fail
    go_loopw [3] (fun i wr => ∃ j : Nat, i = .int .i64 j ∧ j ≤ R.length ∧ (R.take j).all (ruleB T N) = true ∧ Below (w.heap.size + 1) (w.alloc (.cells #[.int .i64 T, .int .i64 N, .slice ra R.length rc] 24)) wr)
      (fun i _ => R.length - (intOf i).toNat)
    case atStart => exact ⟨0, rfl, Nat.zero_le _, rfl, Below.refl _ _⟩
    case round =>
      obtain ⟨j, rfl, hj, hall, hB⟩ := hrel
      have HA : Hid ((R.take j).all (ruleB T N) = true) := hall
      have b0 : wr.cell? ⟨w.heap.size, 0, none⟩ = some (.int .i64 T) := (hB.cell (by simp)).trans (by simp [go_sem])
      have b1 : wr.cell? ⟨w.heap.size, 1, none⟩ = some (.int .i64 N) := (hB.cell (by simp)).trans (by simp [go_sem])
      have b2 : wr.cell? ⟨w.heap.size, 2, none⟩ = some (.slice ra R.length rc) := (hB.cell (by simp)).trans (by simp [go_sem])
      have hBw : Below w.heap.size w wr := ((Below.refl _ _).alloc (Nat.le_refl _) _).trans (hB.mono (by omega))
      have HB : Hid (Below w.heap.size w wr) := hBw
      have HB1 : Hid (Below (w.heap.size + 1) (w.alloc (.cells #[.int .i64 T, .int .i64 N, .slice ra R.length rc] 24)) wr) := hB
      have hsz := hB.size
      simp only [World.size_alloc] at hsz
      clear hall hB hBw
      by_cases hlt : j < R.length
      · obtain ⟨b, o, rc', qa, qc, hv, hb, k1, k2, _, k3⟩ := HR.out.2 j hlt
        cases hv
        obtain ⟨⟨L, Rt⟩, hru⟩ : ∃ x, R.getD j (0, []) = x := ⟨_, rfl⟩
        rw [hru] at k1 k2 k3
        have k1' := (HB.out.cell (p := ⟨b, o + j * 2, none⟩) hb).trans k1
        have k2' : wr.cell? ⟨b, o + j * 2 + 1, none⟩ = some (.slice qa Rt.length qc) := by rw [Nat.add_assoc]; exact (HB.out.cell (p := ⟨b, o + (j * 2 + 1), none⟩) hb).trans k2
        have HU : Hid (R.getD j (0, []) = (L, Rt)) := hru
        have HK : Hid (∀ i, i < Rt.length → ∃ b' o', qa = some ⟨b', o', none⟩ ∧ b' < w.heap.size ∧ w.cell? ⟨b', o' + i * 2, none⟩ = some (.bool (Rt.getD i (false, 0)).1) ∧ w.cell? ⟨b', o' + (i * 2 + 1), none⟩ = some (.int .i64 (Rt.getD i (false, 0)).2)) := k3
        have n0 : (wr.alloc (.cells #[.int .i64 L, .slice qa Rt.length qc] 44)).cell? ⟨w.heap.size, 0, none⟩ = some (.int .i64 T) := by rw [World.cell?_alloc_past _ _ _ (by omega)]; exact b0
        have n1 : (wr.alloc (.cells #[.int .i64 L, .slice qa Rt.length qc] 44)).cell? ⟨w.heap.size, 1, none⟩ = some (.int .i64 N) := by rw [World.cell?_alloc_past _ _ _ (by omega)]; exact b1
        clear k1 k2 k3 hru
        have bad : (¬ (0 ≤ L ∧ L < N ∧ Rt.length ≤ 8)) → mayB T N R = false := fun h => by
          rw [HM.out]
          refine rule_bad hlt ?_
          rw [HU.out]
          unfold ruleB
          rw [decide_eq_false h, Bool.false_and]
        have HX : Hid ((¬ (0 ≤ L ∧ L < N ∧ Rt.length ≤ 8)) → mayB T N R = false) := bad
        have HE : Hid (Below w.heap.size w (wr.alloc (.cells #[.int .i64 L, .slice qa Rt.length qc] 44))) := HB.out.alloc (by omega) _
        clear bad
        by_cases l1 : L < 0
        · go_wp2_with fail
          go_ret
          exact ⟨by rw [HX.out (by omega)]; rfl, HE.out⟩
        by_cases l2 : N ≤ L
        · go_wp2_with fail
          go_ret
          exact ⟨by rw [HX.out (by omega)]; rfl, HE.out⟩
        by_cases l3 : 8 < Rt.length
        · go_wp2_with fail
          go_ret
          exact ⟨by rw [HX.out (by omega)]; rfl, HE.out⟩
        clear b0 b1
        go_wp2_with fail
        go_loop [5] (fun k => ∃ i : Nat, k = .int .i64 i ∧ i ≤ Rt.length ∧ (Rt.take i).all (symB T N) = true) (fun k => Rt.length - (intOf k).toNat)
        case atStart => exact ⟨0, rfl, Nat.zero_le _, rfl⟩
        case round =>
          obtain ⟨i, rfl, hi, hall⟩ := hrel
          have HI : Hid ((Rt.take i).all (symB T N) = true) := hall
          clear hall
          by_cases hi' : i < Rt.length
          · obtain ⟨b', o', hqa, hb', k3, k4⟩ := HK.out i hi'
            subst hqa
            obtain ⟨⟨t, v⟩, hsy⟩ : ∃ x, Rt.getD i (false, 0) = x := ⟨_, rfl⟩
            rw [hsy] at k3 k4
            have hlb : b' < wr.heap.size := by omega
            have k3' : (wr.alloc (.cells #[.int .i64 L, .slice (some ⟨b', o', none⟩) Rt.length qc] 44)).cell? ⟨b', o' + i * 2, none⟩ = some (.bool t) := by
              rw [World.cell?_alloc_past _ _ _ hlb]; exact (HB.out.cell (p := ⟨b', o' + i * 2, none⟩) hb').trans k3
            have k4' : (wr.alloc (.cells #[.int .i64 L, .slice (some ⟨b', o', none⟩) Rt.length qc] 44)).cell? ⟨b', o' + i * 2 + 1, none⟩ = some (.int .i64 v) := by
              rw [World.cell?_alloc_past _ _ _ hlb, Nat.add_assoc]; exact (HB.out.cell (p := ⟨b', o' + (i * 2 + 1), none⟩) hb').trans k4
            have HS : Hid (Rt.getD i (false, 0) = (t, v)) := hsy
            have HT : Hid ((Rt.take (i + 1)).all (symB T N) = symB T N (t, v)) := by
              show (Rt.take (i + 1)).all (symB T N) = _
              rw [all_take_succ _ Rt (false, 0) i hi', HI.out, hsy, Bool.true_and]
            have HF : Hid (symB T N (t, v) = false → mayB T N R = false) := fun h => by
              rw [HM.out]
              refine rule_bad hlt ?_
              rw [HU.out]
              exact sym_bad (r := (L, Rt)) hi' (by rw [hsy]; exact h)
            clear k3 k4 hsy
            cases t with
            | true =>
              by_cases v1 : v < 0
              · go_wp2_with fail
                go_ret
                exact ⟨by rw [HF.out (by simp [symB]; omega)]; rfl, HE.out⟩
              by_cases v2 : T ≤ v
              · go_wp2_with fail
                go_ret
                exact ⟨by rw [HF.out (by simp [symB]; omega)]; rfl, HE.out⟩
              go_wp2_with fail
              go_round
              case rel => exact ⟨i + 1, by go_num, by omega, by rw [HT.out]; simp [symB]; omega⟩
              case measure => simp [intOf]; omega
            | false =>
              by_cases v1 : v < 0
              · go_wp2_with fail
                go_ret
                exact ⟨by rw [HF.out (by simp [symB]; omega)]; rfl, HE.out⟩
              by_cases v2 : N ≤ v
              · go_wp2_with fail
                go_ret
                exact ⟨by rw [HF.out (by simp [symB]; omega)]; rfl, HE.out⟩
              go_wp2_with fail
              go_round
              case rel => exact ⟨i + 1, by go_num, by omega, by rw [HT.out]; simp [symB]; omega⟩
              case measure => simp [intOf]; omega
          · have HJ : Hid ((R.take (j + 1)).all (ruleB T N) = true) := by
              show (R.take (j + 1)).all (ruleB T N) = true
              rw [all_take_succ _ R (0, []) j hlt, HA.out, HU.out, Bool.true_and]
              unfold ruleB
              rw [← all_of_take _ Rt i (by omega), HI.out, Bool.and_true]
              simp; omega
            go_wp2_with fail
            go_roundw
            case rel => exact ⟨j + 1, by go_num, by omega, HJ.out, HB1.out.alloc (by omega) _⟩
            case measure => simp [intOf]; omega
      · have HZ : mayB T N R = true := by rw [HM.out, ← all_of_take _ R j (by omega)]; exact HA.out
        have HZ' : Hid (mayB T N R = true) := HZ
        clear HZ
        go_wp2_with fail
        go_ret
        exact ⟨by rw [HZ'.out]; rfl, HB.out⟩
  · have hm : mayB T N R = false := by simp [mayB, hh]
    simp only [headB, decide_eq_true_eq] at hh
    subst hrv
    clear hr
    rw [hm]
    clear hm
    by_cases h1 : T < 0
    · go_enter Try.func9, Try.ntmps9
      go_wp2_with fail
      go_ret
      exact ⟨rfl, (Below.refl _ _).alloc (Nat.le_refl _) _⟩
    by_cases h2 : 8 < T
    · go_enter Try.func9, Try.ntmps9
      go_wp2_with fail
      go_ret
      exact ⟨rfl, (Below.refl _ _).alloc (Nat.le_refl _) _⟩
    by_cases h3 : N < 1
    · go_enter Try.func9, Try.ntmps9
      go_wp2_with fail
      go_ret
      exact ⟨rfl, (Below.refl _ _).alloc (Nat.le_refl _) _⟩
    by_cases h4 : 12 < N
    · go_enter Try.func9, Try.ntmps9
      go_wp2_with fail
      go_ret
      exact ⟨rfl, (Below.refl _ _).alloc (Nat.le_refl _) _⟩
    have h5 : 40 < R.length := by omega
    go_enter Try.func9, Try.ntmps9
    go_wp2_with fail
    go_ret
    exact ⟨rfl, (Below.refl _ _).alloc (Nat.le_refl _) _⟩

end Go.Proofs.Ytikjekfpgklbdaa

/- Memory that a call has made: rows, each in a block of its own, each under an index. No program. -/
namespace Go.Proofs.Ytikjekfpgklbdaa
open Go.RowKit

/-- A slice value that owns a row: n elements of type e, size cells each, the cells xs. -/
structure Row where
  v : Value
  e : TypeId
  size : Nat
  n : Nat
  xs : List Value

/-- Each row of P is owned, from block number base on, and no two lie in one block. -/
structure Owns {ι : Type} (w : World) (base : Nat) (P : ι → Option Row) : Prop where
  own : ∀ i r, P i = some r → w.ownsRow base r.e r.size r.v r.n r.xs
  apart : ∀ i j a b, i ≠ j → P i = some a → P j = some b → ∀ g, a.v.ownBlock = some g → b.v.ownBlock = some g → False

/-- The row under i is r. -/
def upd {ι : Type} [DecidableEq ι] (P : ι → Option Row) (i : ι) (r : Row) : ι → Option Row := fun j => if j = i then some r else P j

section
variable {ι : Type} {w : World} {base : Nat} {P : ι → Option Row}

theorem Owns.drewN (h : Owns w base P) (m : Nat) : Owns (w.drewN m) base P := ⟨h.own, h.apart⟩
theorem Owns.drew (h : Owns w base P) : Owns w.drew base P := ⟨h.own, h.apart⟩

theorem Owns.alloc (h : Owns w base P) (o : Obj) : Owns (w.alloc o) base P := ⟨fun i r hr => (h.own i r hr).alloc o, h.apart⟩

theorem Owns.mono (h : Owns w base P) {base' : Nat} (hb : base' ≤ base) : Owns w base' P := ⟨fun i r hr => own_mono (h.own i r hr) hb, h.apart⟩

theorem Owns.lt (h : Owns w base P) {i : ι} {r : Row} (hi : P i = some r) {g : Nat} (hg : r.v.ownBlock = some g) : base ≤ g ∧ g < w.heap.size := (h.own i r hi).lt g hg

/-- Nothing below B has turned, and all rows lie there. -/
theorem Owns.below (h : Owns w base P) {B : Nat} {w' : World} (hb : Below B w w') (hB : w.heap.size ≤ B) : Owns w' base P :=
  ⟨fun _ _ hr => own_below (h.own _ _ hr) hb fun _ hg => Nat.lt_of_lt_of_le (h.lt hr hg).2 hB, h.apart⟩

variable [DecidableEq ι]

theorem upd_same (P : ι → Option Row) (i : ι) (r : Row) : upd P i r i = some r := by simp [upd]
theorem upd_other (P : ι → Option Row) {i j : ι} (h : j ≠ i) (r : Row) : upd P i r j = P j := by simp [upd, h]

theorem upd_cases {P : ι → Option Row} {i j : ι} {r a : Row} (h : upd P i r j = some a) : (j = i ∧ a = r) ∨ (j ≠ i ∧ P j = some a) := by
  unfold upd at h
  split at h
  · rename_i e
    exact .inl ⟨e, by simpa using h.symm⟩
  · rename_i e
    exact .inr ⟨e, h⟩

theorem Owns.put (h : Owns w base P) {i : ι} {r' : Row} {w' : World} (hown : w'.ownsRow base r'.e r'.size r'.v r'.n r'.xs)
    (hkeep : ∀ j a, j ≠ i → P j = some a → w'.ownsRow base a.e a.size a.v a.n a.xs)
    (hfresh : ∀ j a, j ≠ i → P j = some a → ∀ g, a.v.ownBlock = some g → r'.v.ownBlock = some g → False) : Owns w' base (upd P i r') := by
  refine ⟨fun j a ha => ?_, fun j k a b hjk ha hb g h1 h2 => ?_⟩
  · rcases upd_cases ha with ⟨_, rfl⟩ | ⟨hj, ha⟩
    · exact hown
    · exact hkeep j a hj ha
  · rcases upd_cases ha with ⟨hj, e1⟩ | ⟨hj, ha'⟩
    · rcases upd_cases hb with ⟨hk, _⟩ | ⟨hk, hb'⟩
      · exact hjk (by rw [hj, hk])
      · subst e1
        exact hfresh k b hk hb' g h2 h1
    · rcases upd_cases hb with ⟨hk, e1⟩ | ⟨hk, hb'⟩
      · subst e1
        exact hfresh j a hj ha' g h1 h2
      · exact h.apart j k a b hjk ha' hb' g h1 h2

/-- A new row. -/
theorem Owns.new (h : Owns w base P) (i : ι) {w' : World} {r : Row} (hg : w.grownBy w' none) (hown : w'.ownsRow base r.e r.size r.v r.n r.xs) (hv : ∀ g, r.v.ownBlock = some g → g = w.heap.size) : Owns w' base (upd P i r) := by
  refine h.put hown (fun j a _ ha => (h.own j a ha).kept hg ?_) (fun j a _ ha g h1 h2 => ?_)
  · cases a.v.ownBlock <;> simp
  · have := (h.lt ha h1).2
    have := hv g h2
    omega

/-- One row turns into another one, in its own block or in a new one. -/
theorem Owns.turn (h : Owns w base P) {i : ι} {r r' : Row} (hi : P i = some r) {w' : World} (hg : w.grownBy w' r.v.ownBlock) (hown : w'.ownsRow base r'.e r'.size r'.v r'.n r'.xs)
    (hat : ∀ g, r'.v.ownBlock = some g → r.v.ownBlock = some g ∨ g = w.heap.size) : Owns w' base (upd P i r') := by
  refine h.put hown (fun j a hj ha => (h.own j a ha).kept hg ?_) (fun j a hj ha g h1 h2 => ?_)
  · cases e : a.v.ownBlock with
    | none => exact .inl rfl
    | some g => exact .inr fun e' => h.apart j i a r hj ha hi g e e'.symm
  · rcases hat g h2 with e | e
    · exact h.apart j i a r hj ha hi g h1 e
    · have := (h.lt ha h1).2; omega

/-- A cell of a row is written. -/
theorem Owns.store (h : Owns w base P) {i : ι} {g n cap e size : Nat} {xs : List Value} (hi : P i = some ⟨.slice (some ⟨g, 0, none⟩) n cap, e, size, n, xs⟩) (j : Nat) (u : Value) :
    Owns (w.setCell ⟨g, j, none⟩ u) base (upd P i ⟨.slice (some ⟨g, 0, none⟩) n cap, e, size, n, xs.set j u⟩) := by
  obtain ⟨h1, h2⟩ := (h.own i _ hi).stored j u
  exact h.turn (r' := ⟨.slice (some ⟨g, 0, none⟩) n cap, e, size, n, xs.set j u⟩) hi h2 h1 fun g' hg' => .inl hg'

omit [DecidableEq ι] in
/-- A cell of a row is read. -/
theorem Owns.cell (h : Owns w base P) {i : ι} {g n cap e size : Nat} {xs : List Value} (hi : P i = some ⟨.slice (some ⟨g, 0, none⟩) n cap, e, size, n, xs⟩) (j : Nat) (hj : j < n * size) :
    w.cell? ⟨g, j, none⟩ = xs[j]? ∧ w.frozen? ⟨g, j, none⟩ = false :=
  ⟨(h.own i _ hi).cellAt j hj, (h.own i _ hi).frozenAt j⟩

omit [DecidableEq ι] in
/-- A row that owns something: what its value looks like. -/
theorem Owns.form (h : Owns w base P) {i : ι} {r : Row} (hi : P i = some r) (hn : 0 < r.n) : ∃ g cap, r.v = .slice (some ⟨g, 0, none⟩) r.n cap ∧ base ≤ g ∧ g < w.heap.size := (h.own i r hi).form hn

omit [DecidableEq ι] in
theorem Owns.slice (h : Owns w base P) {i : ι} {r : Row} (hi : P i = some r) : ∃ a c, r.v = .slice a r.n c := own_form (h.own i r hi)
end

end Go.Proofs.Ytikjekfpgklbdaa
