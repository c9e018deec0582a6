import Derived.WalkKit
import Derived.Deep.AppendLies
import Derived.Deep.Draws
import Derived.WalkSmall
import Derived.Test.YtobegekmgoiopaaRows
import Derived.WalkSpells
import Derived.Deep.QuietTactic
import Derived.BigQuiet
import Derived.Deep.RegionWith
import Derived.Deep.Cut
import Derived.Deep.CutRange
import Derived.Deep.DrawnRows
import Derived.OwnWalk
import Derived.StillTailTactics
/- Plain lists and numbers: what the reader of package gram makes of a list of rules' numbers, and what is true of the spans that it lays. No program, no memory. -/
namespace Go.Proofs.Ytobegekmgoiopaa

/-- A symbol: is it a term; its number. -/
abbrev Sy := Bool × Int
/-- A rule: its Left; its Right. -/
abbrev Ru := Int × List Sy
/-- A span: rule, from, to. -/
abbrev Sp := Int × Nat × Nat

/-- What a reader has done so far: how many numbers it has taken, the yield, the spans. -/
structure St where
  pos : Nat
  Y : List Int
  S : List Sp

/-- The next number, if it is that of a rule of the name n. -/
def nextF (R : List Ru) (D : List Int) (n : Int) (p : Nat) : Option Nat :=
  match D[p]? with
  | none => none
  | some q =>
    if 0 ≤ q ∧ q < R.length then
      (if (R.getD q.toNat (0, [])).1 = n then some q.toNat else none)
    else none

def symsF (f : Int → St → Option St) : List Sy → St → Option St
  | [], st => some st
  | (true, v) :: r, st => symsF f r { st with Y := st.Y ++ [v] }
  | (false, n) :: r, st =>
    match f n st with
    | none => none
    | some st' => symsF f r st'

def nameF (R : List Ru) (D : List Int) : Nat → Int → St → Option St
  | 0, _, _ => none
  | k + 1, n, st =>
    match nextF R D n st.pos with
    | none => none
    | some q =>
      match symsF (nameF R D k) (R.getD q (0, [])).2 { pos := st.pos + 1, Y := st.Y, S := st.S ++ [((q : Int), st.Y.length, 0)] } with
      | none => none
      | some st' => some { st' with S := st'.S.set st.S.length ((q : Int), st.Y.length, st'.Y.length) }

def readF (R : List Ru) (D : List Int) : Option St :=
  if 400 < D.length then none
  else
    match nameF R D D.length 0 { pos := 0, Y := [], S := [] } with
    | none => none
    | some st => if st.pos < D.length then none else some st

/-- What holds of the spans T that were laid while the numbers from a on were taken, and the yield grew from lo to hi. -/
def Seg (D : List Int) (a lo hi : Nat) (T : List Sp) : Prop :=
  ∀ i t, T[i]? = some t → D[a + i]? = some t.1 ∧ lo ≤ t.2.1 ∧ t.2.1 ≤ t.2.2 ∧ t.2.2 ≤ hi ∧ ∀ j u, j + 1 = i → T[j]? = some u → u.2.1 ≤ t.2.1

theorem Seg.nil (D : List Int) (a lo hi : Nat) : Seg D a lo hi [] := by
  intro i t h
  simp at h

theorem Seg.append {D : List Int} {a lo mid hi : Nat} {T U : List Sp} (h : Seg D a lo mid T) (k : Seg D (a + T.length) mid hi U) (h1 : lo ≤ mid) (h2 : mid ≤ hi) : Seg D a lo hi (T ++ U) := by
  intro i t ht
  by_cases hi' : i < T.length
  · rw [List.getElem?_append_left hi'] at ht
    obtain ⟨a1, a2, a3, a4, a5⟩ := h i t ht
    refine ⟨a1, a2, a3, by omega, fun j u hj hu => a5 j u hj ?_⟩
    rwa [List.getElem?_append_left (by omega)] at hu
  · rw [List.getElem?_append_right (by omega)] at ht
    obtain ⟨a1, a2, a3, a4, a5⟩ := k _ t ht
    refine ⟨by rw [← a1]; congr 1; omega, by omega, a3, a4, fun j u hj hu => ?_⟩
    by_cases hj' : j < T.length
    · rw [List.getElem?_append_left hj'] at hu
      obtain ⟨_, _, b3, b4, _⟩ := h j u hu
      omega
    · rw [List.getElem?_append_right (by omega)] at hu
      exact a5 _ u (by omega) hu

theorem Seg.cons {D : List Int} {a lo hi : Nat} {q : Int} {T : List Sp} (hq : D[a]? = some q) (h : Seg D (a + 1) lo hi T) (h1 : lo ≤ hi) : Seg D a lo hi ((q, lo, hi) :: T) := by
  intro i t ht
  cases i with
  | zero =>
    simp only [List.getElem?_cons_zero, Option.some.injEq] at ht
    subst ht
    exact ⟨by simpa using hq, Nat.le_refl _, h1, Nat.le_refl _, fun j u hj _ => by omega⟩
  | succ i =>
    simp only [List.getElem?_cons_succ] at ht
    obtain ⟨a1, a2, a3, a4, a5⟩ := h i t ht
    refine ⟨by rw [← a1]; congr 1; omega, a2, a3, a4, fun j u hj hu => ?_⟩
    cases j with
    | zero =>
      simp only [List.getElem?_cons_zero, Option.some.injEq] at hu
      subst hu
      exact a2
    | succ j =>
      simp only [List.getElem?_cons_succ] at hu
      exact a5 j u (by omega) hu

theorem nextF_some {R : List Ru} {D : List Int} {n : Int} {p q : Nat} (h : nextF R D n p = some q) :
    D[p]? = some (q : Int) ∧ q < R.length ∧ (R.getD q (0, [])).1 = n := by
  unfold nextF at h
  split at h
  · cases h
  · rename_i x hx
    split at h
    · rename_i hb
      split at h
      · rename_i hn
        cases h
        refine ⟨?_, by omega, hn⟩
        rw [hx]
        congr 1
        omega
      · cases h
    · cases h

theorem nameF_some {R : List Ru} {D : List Int} {k q : Nat} {n : Int} {st st' : St} {Rt : List Sy} (hq : nextF R D n st.pos = some q) (hR : (R.getD q (0, [])).2 = Rt)
    (h : symsF (nameF R D k) Rt { pos := st.pos + 1, Y := st.Y, S := st.S ++ [((q : Int), st.Y.length, 0)] } = some st') :
    nameF R D (k + 1) n st = some { st' with S := st'.S.set st.S.length ((q : Int), st.Y.length, st'.Y.length) } := by
  subst hR
  rw [nameF, hq]
  simp only [h]

theorem nameF_none {R : List Ru} {D : List Int} {k q : Nat} {n : Int} {st : St} {Rt : List Sy} (hq : nextF R D n st.pos = some q) (hR : (R.getD q (0, [])).2 = Rt)
    (h : symsF (nameF R D k) Rt { pos := st.pos + 1, Y := st.Y, S := st.S ++ [((q : Int), st.Y.length, 0)] } = none) :
    nameF R D (k + 1) n st = none := by
  subst hR
  rw [nameF, hq]
  simp only [h]

/-- What a derivation that is read leaves. -/
structure Grew (D : List Int) (M : Nat) (st st' : St) (extra : Nat) : Prop where
  pos : st.pos ≤ st'.pos
  top : st.pos ≤ D.length → st'.pos ≤ D.length
  yl : st.Y.length ≤ st'.Y.length
  pot : st.pos ≤ D.length → st'.Y.length + (D.length - st'.pos) * M ≤ st.Y.length + extra + (D.length - st.pos) * M
  seg : ∃ T, st'.S = st.S ++ T ∧ T.length = st'.pos - st.pos ∧ Seg D st.pos st.Y.length st'.Y.length T

theorem symsF_grew {D : List Int} {M : Nat} {f : Int → St → Option St} (hf : ∀ n st st', f n st = some st' → Grew D M st st' 0) :
    ∀ (l : List Sy) (st st' : St), symsF f l st = some st' → Grew D M st st' l.length := by
  intro l
  induction l with
  | nil =>
    intro st st' h
    simp only [symsF, Option.some.injEq] at h
    subst h
    exact ⟨Nat.le_refl _, fun h => h, Nat.le_refl _, fun _ => by simp, [], by simp, by simp, Seg.nil _ _ _ _⟩
  | cons s r ih =>
    intro st st' h
    obtain ⟨b, v⟩ := s
    cases b with
    | true =>
      simp only [symsF] at h
      have g := ih _ _ h
      obtain ⟨T, h1, h2, h3⟩ := g.seg
      have gy := g.yl
      simp only [List.length_append, List.length_cons, List.length_nil] at gy
      refine ⟨g.pos, g.top, by omega, fun hp => ?_, T, h1, h2, ?_⟩
      · have := g.pot hp
        simp only [List.length_append, List.length_cons, List.length_nil] at this ⊢
        omega
      · intro i t ht
        obtain ⟨a1, a2, a3, a4, a5⟩ := h3 i t ht
        simp only [List.length_append, List.length_cons, List.length_nil] at a2
        exact ⟨a1, by omega, a3, a4, a5⟩
    | false =>
      simp only [symsF] at h
      split at h
      · cases h
      · rename_i st1 hst1
        have g1 := hf _ _ _ hst1
        have g2 := ih _ _ h
        obtain ⟨T, h1, h2, h3⟩ := g1.seg
        obtain ⟨U, k1, k2, k3⟩ := g2.seg
        have p1 := g1.pos
        have p2 := g2.pos
        have y1 := g1.yl
        have y2 := g2.yl
        refine ⟨by omega, fun hp => g2.top (g1.top hp), by omega, fun hp => ?_, T ++ U, ?_, ?_, ?_⟩
        · have q1 := g1.pot hp
          have q2 := g2.pot (g1.top hp)
          simp only [List.length_cons]
          omega
        · rw [k1, h1, List.append_assoc]
        · rw [List.length_append]; omega
        · refine h3.append ?_ y1 y2
          rw [show st.pos + T.length = st1.pos by omega]
          exact k3

theorem nameF_grew {R : List Ru} {D : List Int} {M : Nat} (hM : ∀ q, (R.getD q (0, [])).2.length ≤ M) :
    ∀ (k : Nat) (n : Int) (st st' : St), nameF R D k n st = some st' →
      Grew D M st st' 0 ∧ st.pos < st'.pos ∧ ∃ q T, st'.S = st.S ++ (q, st.Y.length, st'.Y.length) :: T := by
  intro k
  induction k with
  | zero =>
    intro n st st' h
    simp [nameF] at h
  | succ k ih =>
    intro n st st' h
    simp only [nameF] at h
    split at h
    · cases h
    · rename_i q hq
      split at h
      · cases h
      · rename_i st1 hst1
        cases h
        obtain ⟨d1, d2, d3⟩ := nextF_some hq
        have g := symsF_grew (M := M) (fun n st st' h => (ih n st st' h).1) _ _ _ hst1
        obtain ⟨T, h1, h2, h3⟩ := g.seg
        have gp := g.pos
        have gy := g.yl
        have hlt : st.pos < D.length := by
          rcases Nat.lt_or_ge st.pos D.length with h | h
          · exact h
          · rw [List.getElem?_eq_none h] at d1; cases d1
        simp only at gp gy h1 h2 h3
        have hS : st1.S.set st.S.length ((q : Int), st.Y.length, st1.Y.length) = st.S ++ ((q : Int), st.Y.length, st1.Y.length) :: T := by
          rw [h1, List.append_assoc, List.singleton_append, List.set_append_right _ _ (Nat.le_refl _)]
          simp
        refine ⟨⟨by simp only; omega, fun _ => g.top (by simp only; omega), by simp only; omega, fun hp => ?_, ((q : Int), st.Y.length, st1.Y.length) :: T, hS, ?_, ?_⟩, by simp only; omega, _, T, hS⟩
        · have hm := hM q
          have hpot := g.pot (by simp only; omega)
          simp only at hpot ⊢
          have e : D.length - st.pos = (D.length - (st.pos + 1)) + 1 := by omega
          rw [e, Nat.add_mul, Nat.one_mul]
          omega
        · simp only [List.length_cons]; omega
        · exact Seg.cons d1 h3 gy

end Go.Proofs.Ytobegekmgoiopaa

/- How a grammar's rules and a list of numbers lie in memory. No walk. -/
namespace Go.Proofs.Ytobegekmgoiopaa
open Go.RowKit

/-- The rules R lie in memory below block number lim, at the slice value rv. -/
def RulesAt (w : World) (lim : Nat) (rv : Value) (R : List Ru) : Prop :=
  (∃ ra rc, rv = .slice ra R.length rc) ∧
  ∀ q, q < R.length → ∃ b o rc qa qc, rv = .slice (some ⟨b, o, none⟩) R.length rc ∧ b < lim ∧
    w.cell? ⟨b, o + q * 2, none⟩ = some (.int .i64 (R.getD q (0, [])).1) ∧
    w.cell? ⟨b, o + (q * 2 + 1), none⟩ = some (.slice qa (R.getD q (0, [])).2.length qc) ∧ (R.getD q (0, [])).2.length ≤ qc ∧
    ∀ j, j < (R.getD q (0, [])).2.length → ∃ b' o', qa = some ⟨b', o', none⟩ ∧ b' < lim ∧
      w.cell? ⟨b', o' + j * 2, none⟩ = some (.bool ((R.getD q (0, [])).2.getD j (false, 0)).1) ∧
      w.cell? ⟨b', o' + (j * 2 + 1), none⟩ = some (.int .i64 ((R.getD q (0, [])).2.getD j (false, 0)).2)

/-- The numbers D lie in memory below block number lim, at the slice value dv. -/
def ListAt (w : World) (lim : Nat) (dv : Value) (D : List Int) : Prop :=
  (∃ da dc, dv = .slice da D.length dc) ∧
  ∀ p, p < D.length → ∃ b o dc, dv = .slice (some ⟨b, o, none⟩) D.length dc ∧ b < lim ∧ w.cell? ⟨b, o + p, none⟩ = some (.int .i64 (D.getD p 0))

theorem RulesAt.below {B : Nat} {w w' : World} {rv : Value} {R : List Ru} (h : RulesAt w B rv R) (hb : Below B w w') : RulesAt w' B rv R := by
  refine ⟨h.1, fun q hq => ?_⟩
  obtain ⟨b, o, rc, qa, qc, h1, h2, h3, h4, h6, h5⟩ := h.2 q hq
  refine ⟨b, o, rc, qa, qc, h1, h2, (hb.cell h2).trans h3, (hb.cell h2).trans h4, h6, fun j hj => ?_⟩
  obtain ⟨b', o', k1, k2, k3, k4⟩ := h5 j hj
  exact ⟨b', o', k1, k2, (hb.cell k2).trans k3, (hb.cell k2).trans k4⟩

theorem ListAt.below {B : Nat} {w w' : World} {dv : Value} {D : List Int} (h : ListAt w B dv D) (hb : Below B w w') : ListAt w' B dv D := by
  refine ⟨h.1, fun p hp => ?_⟩
  obtain ⟨b, o, dc, h1, h2, h3⟩ := h.2 p hp
  exact ⟨b, o, dc, h1, h2, (hb.cell h2).trans h3⟩

theorem RulesAt.mono {B B' : Nat} {w : World} {rv : Value} {R : List Ru} (h : RulesAt w B rv R) (hb : B ≤ B') : RulesAt w B' rv R := by
  refine ⟨h.1, fun q hq => ?_⟩
  obtain ⟨b, o, rc, qa, qc, h1, h2, h3, h4, h6, h5⟩ := h.2 q hq
  refine ⟨b, o, rc, qa, qc, h1, by omega, h3, h4, h6, fun j hj => ?_⟩
  obtain ⟨b', o', k1, k2, k3, k4⟩ := h5 j hj
  exact ⟨b', o', k1, by omega, k3, k4⟩

theorem ListAt.mono {B B' : Nat} {w : World} {dv : Value} {D : List Int} (h : ListAt w B dv D) (hb : B ≤ B') : ListAt w B' dv D := by
  refine ⟨h.1, fun p hp => ?_⟩
  obtain ⟨b, o, dc, h1, h2, h3⟩ := h.2 p hp
  exact ⟨b, o, dc, h1, by omega, h3⟩

theorem own_form {w : World} {base : Nat} {e : TypeId} {size : Nat} {v : Value} {n : Nat} {xs : List Value} (h : w.ownsRow base e size v n xs) : ∃ a c, v = .slice a n c := by
  rcases h.2 with ⟨rfl, rfl⟩ | ⟨g, cap, _, rfl, _⟩
  · exact ⟨_, _, rfl⟩
  · exact ⟨_, _, rfl⟩

theorem own_mono {w : World} {base base' : Nat} {e : TypeId} {size : Nat} {v : Value} {n : Nat} {xs : List Value} (h : w.ownsRow base e size v n xs) (hb : base' ≤ base) : w.ownsRow base' e size v n xs := by
  refine ⟨h.1, ?_⟩
  rcases h.2 with h2 | ⟨g, cap, cur, h1, h2, h3⟩
  · exact .inl h2
  · exact .inr ⟨g, cap, cur, h1, by omega, h3⟩

theorem own_below {B base : Nat} {e : TypeId} {size : Nat} {v : Value} {n : Nat} {xs : List Value} {w w' : World} (h : w.ownsRow base e size v n xs) (hb : Below B w w') (hv : ∀ g, v.ownBlock = some g → g < B) : w'.ownsRow base e size v n xs := by
  refine ⟨h.1, ?_⟩
  rcases h.2 with h2 | ⟨g, cap, cur, rfl, h2, h3, h4⟩
  · exact .inl h2
  · exact .inr ⟨g, cap, cur, rfl, h2, (hb.block g (hv g rfl)).trans h3, h4⟩

theorem RulesAt.boxed {w : World} {rv : Value} {R : List Ru} (h : RulesAt w w.heap.size rv R) (o : Obj) : RulesAt (w.alloc o) (w.alloc o).heap.size rv R :=
  (h.below ((Below.refl _ _).alloc (Nat.le_refl _) o)).mono (by simp)
theorem ListAt.boxed {w : World} {dv : Value} {D : List Int} (h : ListAt w w.heap.size dv D) (o : Obj) : ListAt (w.alloc o) (w.alloc o).heap.size dv D :=
  (h.below ((Below.refl _ _).alloc (Nat.le_refl _) o)).mono (by simp)

theorem getD_of_some {α : Type} {l : List α} {i : Nat} {x d : α} (h : l[i]? = some x) : l.getD i d = x := by simp [List.getD, h]

theorem cell_set_other {w : World} {a c : Addr} {u : Value} (h : a.block ≠ c.block ∨ a.off ≠ c.off) : (w.setCell c u).cell? a = w.cell? a := by
  rw [World.cell?_setCell_other]
  intro e
  subst e
  rcases h with h | h <;> exact h rfl

/-- The symbols Rt lie in memory, below block number lim. -/
def RightAt (w : World) (lim : Nat) (qa : Option Addr) (Rt : List Sy) : Prop :=
  ∀ j, j < Rt.length → ∃ b' o', qa = some ⟨b', o', none⟩ ∧ b' < lim ∧
      w.cell? ⟨b', o' + j * 2, none⟩ = some (.bool (Rt.getD j (false, 0)).1) ∧
      w.cell? ⟨b', o' + (j * 2 + 1), none⟩ = some (.int .i64 (Rt.getD j (false, 0)).2)

theorem RightAt.below {B : Nat} {w w' : World} {qa : Option Addr} {Rt : List Sy} (h : RightAt w B qa Rt) (hb : Below B w w') : RightAt w' B qa Rt := fun j hj => by
  obtain ⟨b', o', k1, k2, k3, k4⟩ := h j hj
  exact ⟨b', o', k1, k2, (hb.cell k2).trans k3, (hb.cell k2).trans k4⟩
theorem RightAt.mono {B B' : Nat} {w : World} {qa : Option Addr} {Rt : List Sy} (h : RightAt w B qa Rt) (hb : B ≤ B') : RightAt w B' qa Rt := fun j hj => by
  obtain ⟨b', o', k1, k2, k3, k4⟩ := h j hj
  exact ⟨b', o', k1, by omega, k3, k4⟩

end Go.Proofs.Ytobegekmgoiopaa

/- The contracts of pollardingref2.null and pollardingref2.begins. -/
namespace Go.Proofs.Ytobegekmgoiopaa
open Go.RowKit

/-- Truths that can be read at a slice value. -/
def BoolsAt (w : World) (v : Value) (X : List Bool) : Prop :=
  (∃ a c, v = .slice a X.length c) ∧ ∀ i, i < X.length → ∃ g o c, v = .slice (some ⟨g, o, none⟩) X.length c ∧ w.cell? ⟨g, o + i, none⟩ = some (.bool (X.getD i false))
/-- Rows of truths that can be read at a slice value. -/
def MatAt (w : World) (v : Value) (X : List (List Bool)) : Prop :=
  (∃ a c, v = .slice a X.length c) ∧ ∀ i, i < X.length → ∃ g o c rv, v = .slice (some ⟨g, o, none⟩) X.length c ∧ w.cell? ⟨g, o + i, none⟩ = some rv ∧ BoolsAt w rv (X.getD i [])
/-- Symbols that can be read at a slice value. -/
def SymsAt (w : World) (v : Value) (l : List Sy) : Prop :=
  (∃ a c, v = .slice a l.length c ∧ l.length ≤ c) ∧ ∀ j, j < l.length → ∃ b o c, v = .slice (some ⟨b, o, none⟩) l.length c ∧ w.cell? ⟨b, o + j * 2, none⟩ = some (.bool (l.getD j (false, 0)).1) ∧
    w.cell? ⟨b, o + j * 2 + 1, none⟩ = some (.int .i64 (l.getD j (false, 0)).2)

/-- The same cells hold the same. -/
theorem BoolsAt.same {w w' : World} {v : Value} {X : List Bool} (h : BoolsAt w v X) (hw : ∀ b o, b < w.heap.size → w'.cell? ⟨b, o, none⟩ = w.cell? ⟨b, o, none⟩) : BoolsAt w' v X :=
  ⟨h.1, fun i hi => let ⟨g, o, c, h1, h2⟩ := h.2 i hi; ⟨g, o, c, h1, (hw g _ (World.block_lt_of_cell? w _ h2)).trans h2⟩⟩
theorem MatAt.same {w w' : World} {v : Value} {X : List (List Bool)} (h : MatAt w v X) (hw : ∀ b o, b < w.heap.size → w'.cell? ⟨b, o, none⟩ = w.cell? ⟨b, o, none⟩) : MatAt w' v X :=
  ⟨h.1, fun i hi => let ⟨g, o, c, rv, h1, h2, h3⟩ := h.2 i hi; ⟨g, o, c, rv, h1, (hw g _ (World.block_lt_of_cell? w _ h2)).trans h2, h3.same hw⟩⟩
theorem SymsAt.same {w w' : World} {v : Value} {l : List Sy} (h : SymsAt w v l) (hw : ∀ b o, b < w.heap.size → w'.cell? ⟨b, o, none⟩ = w.cell? ⟨b, o, none⟩) : SymsAt w' v l :=
  ⟨h.1, fun j hj => let ⟨b, o, c, h1, h2, h3⟩ := h.2 j hj; ⟨b, o, c, h1, (hw b _ (World.block_lt_of_cell? w _ h2)).trans h2, (hw b _ (World.block_lt_of_cell? w _ h3)).trans h3⟩⟩

/-- A rule of a grammar in memory: its Left, and its Right's symbols. -/
theorem RulesAt.syms {w : World} {B : Nat} {rv : Value} {R : List Ru} (h : RulesAt w B rv R) {q : Nat} (hq : q < R.length) : ∃ b o rc qa qc, rv = .slice (some ⟨b, o, none⟩) R.length rc ∧ b < B ∧
    w.cell? ⟨b, o + q * 2, none⟩ = some (.int .i64 (R.getD q (0, [])).1) ∧ w.cell? ⟨b, o + q * 2 + 1, none⟩ = some (.slice qa (R.getD q (0, [])).2.length qc) ∧ SymsAt w (.slice qa (R.getD q (0, [])).2.length qc) (R.getD q (0, [])).2 := by
  obtain ⟨b, o, rc, qa, qc, h1, h2, h3, h4, h6, h5⟩ := h.2 q hq
  refine ⟨b, o, rc, qa, qc, h1, h2, h3, by rw [Nat.add_assoc]; exact h4, ⟨_, _, rfl, h6⟩, fun j hj => ?_⟩
  obtain ⟨b', o', rfl, _, k1, k2⟩ := h5 j hj
  exact ⟨b', o', qc, rfl, k1, by rw [Nat.add_assoc]; exact k2⟩

theorem same_below {w w' : World} (h : Below w.heap.size w w') : ∀ b o, b < w.heap.size → w'.cell? ⟨b, o, none⟩ = w.cell? ⟨b, o, none⟩ := fun _ _ hb => h.cell hb

def nullB (X : List Bool) (l : List Sy) : Bool := l.all fun s => !s.1 && X.getD s.2.toNat false

theorem SymsAt.take {w : World} {b o c : Nat} {l : List Sy} (h : SymsAt w (.slice (some ⟨b, o, none⟩) l.length c) l) (i : Nat) (hi : i ≤ l.length) : SymsAt w (.slice (some ⟨b, o, none⟩) i c) (l.take i) := by
  have hl : (l.take i).length = i := by simp; omega
  obtain ⟨a', c', e, hc⟩ := h.1
  cases e
  refine ⟨⟨_, _, by rw [hl], by omega⟩, fun j hj => ?_⟩
  rw [hl] at hj
  obtain ⟨b', o', c', e, h1, h2⟩ := h.2 j (by omega)
  cases e
  have hg : (l.take i).getD j (false, 0) = l.getD j (false, 0) := by simp [List.getD, hj]
  exact ⟨b, o, c, by rw [hl], by rw [hg]; exact h1, by rw [hg]; exact h2⟩

theorem SymsAt.drop {w : World} {b o c : Nat} {l : List Sy} (h : SymsAt w (.slice (some ⟨b, o, none⟩) l.length c) l) (n : Nat) (hn : n ≤ l.length) :
    SymsAt w (.slice (if c = n then some ⟨b, o, none⟩ else some ⟨b, o + n * 2, none⟩) (l.length - n) (c - n)) (l.drop n) := by
  have hl : (l.drop n).length = l.length - n := by simp
  obtain ⟨a', c', e, hc⟩ := h.1
  cases e
  refine ⟨⟨_, _, by rw [hl], by omega⟩, fun j hj => ?_⟩
  rw [hl] at hj
  obtain ⟨b', o', c', e, h1, h2⟩ := h.2 (n + j) (by omega)
  cases e
  have hg : (l.drop n).getD j (false, 0) = l.getD (n + j) (false, 0) := by simp [List.getD]
  refine ⟨b, o + n * 2, c - n, by rw [hl, if_neg (by omega)], ?_, ?_⟩
  · rw [hg, ← h1]; congr 2; omega
  · rw [hg, ← h2]; congr 2; omega

def hitB (F : List (List Bool)) (t : Nat) (s : Sy) : Bool := if s.1 then decide (s.2 = (t : Int)) else (F.getD s.2.toNat []).getD t false
def begB (X : List Bool) (F : List (List Bool)) (t : Nat) (l : List Sy) : Bool := (List.range l.length).any fun i => nullB X (l.take i) && hitB F t (l.getD i (false, 0))

end Go.Proofs.Ytobegekmgoiopaa

/- The contracts of pollardingref6's small functions: right, number, has, alike, ints. -/
namespace Go.Proofs.Ytobegekmgoiopaa
open Go.RowKit

/-- An item: a rule's number (that of the rule above: as many as there are), how much of it is read. -/
abbrev It := Nat × Nat
def rightF (R : List Ru) (r : Nat) : List Sy := if r = R.length then [(false, 0)] else (R.getD r (0, [])).2

/-- Items lie in memory, below block number lim. -/
def ItemsAt (w : World) (lim : Nat) (v : Value) (L : List It) : Prop :=
  (∃ a c, v = .slice a L.length c) ∧ ∀ k, k < L.length → ∃ b o c, v = .slice (some ⟨b, o, none⟩) L.length c ∧ b < lim ∧
    w.cell? ⟨b, o + k * 2, none⟩ = some (.int .i64 (L.getD k (0, 0)).1) ∧ w.cell? ⟨b, o + (k * 2 + 1), none⟩ = some (.int .i64 (L.getD k (0, 0)).2)
theorem ItemsAt.below {B : Nat} {w w' : World} {v : Value} {L : List It} (h : ItemsAt w B v L) (hb : Below B w w') : ItemsAt w' B v L :=
  ⟨h.1, fun k hk => let ⟨b, o, c, h1, h2, h3, h4⟩ := h.2 k hk; ⟨b, o, c, h1, h2, (hb.cell h2).trans h3, (hb.cell h2).trans h4⟩⟩
theorem ItemsAt.mono {B B' : Nat} {w : World} {v : Value} {L : List It} (h : ItemsAt w B v L) (hB : B ≤ B') : ItemsAt w B' v L :=
  ⟨h.1, fun k hk => let ⟨b, o, c, h1, h2, h3, h4⟩ := h.2 k hk; ⟨b, o, c, h1, by omega, h3, h4⟩⟩

/-- The automaton's grammar lies at its pointer. -/
structure AutoG (w : World) (lim ab : Nat) (T N : Nat) (rv : Value) (R : List Ru) : Prop where
  t : w.cell? ⟨ab, 0, none⟩ = some (.int .i64 T)
  n : w.cell? ⟨ab, 1, none⟩ = some (.int .i64 N)
  r : w.cell? ⟨ab, 2, none⟩ = some rv
  rules : RulesAt w lim rv R
  le : lim ≤ w.heap.size
  lt : ab < w.heap.size
theorem AutoG.below {w w' : World} {lim ab T N B : Nat} {rv : Value} {R : List Ru} (h : AutoG w lim ab T N rv R) (hb : Below B w w') (hl : lim ≤ B) (ha : ab < B) : AutoG w' lim ab T N rv R :=
  ⟨(hb.cell ha).trans h.t, (hb.cell ha).trans h.n, (hb.cell ha).trans h.r, h.rules.below (hb.mono hl), Nat.le_trans h.le hb.size, Nat.lt_of_lt_of_le h.lt hb.size⟩

/-- A symbol's number: terms, then names. -/
def numF (T : Nat) (s : Sy) : Int := if s.1 then s.2 else (T : Int) + s.2

/-- Where an item stands among items, from k on; below 0: it does not. -/
def hasF (L : List It) (i : It) : Int := match L.findIdx? (fun x => decide (x = i)) with | some k => k | none => -1

/-- Are two sets of items (without doubles) the same? -/
def alikeF (A B : List It) : Bool := decide (A.length = B.length) && A.all fun x => decide (0 ≤ hasF B x)

end Go.Proofs.Ytobegekmgoiopaa

/- Plain: closed sets of items (F1); lists without doubles. -/
namespace Go.Proofs.Ytobegekmgoiopaa

/-- What closes a set of items. -/
inductive Cl (R : List Ru) (S : It → Prop) : It → Prop
  | base {i : It} (h : S i) : Cl R S i
  | step {r d n : Nat} {m : Int} (h : Cl R S (r, d)) (h1 : (rightF R r)[d]? = some (false, m)) (h2 : n < R.length) (h3 : (R.getD n (0, [])).1 = m) : Cl R S (n, 0)

section
variable {α : Type} [DecidableEq α]

theorem nodup_sub_length {A B : List α} (hA : A.Nodup) (h : ∀ x ∈ A, x ∈ B) : A.length ≤ B.length := by
  induction A generalizing B with
  | nil => simp
  | cons a A ih =>
    rw [List.nodup_cons] at hA
    have ha := h a (by simp)
    have := ih hA.2 (B := B.erase a) fun x hx => (List.mem_erase_of_ne (fun e => hA.1 (by rw [← e]; exact hx))).2 (h x (by simp [hx]))
    rw [List.length_erase_of_mem ha] at this
    have := List.length_pos_of_mem ha
    simp only [List.length_cons]
    omega

end

/-- While a set is closed: all items below k, and of item k what the rules below n ask. -/
structure CI (R : List Ru) (l O : List It) (k n : Nat) : Prop where
  pre : ∃ E, O = l ++ E ∧ ∀ i ∈ E, ∃ q, q < R.length ∧ i = (q, 0)
  nod : O.Nodup
  snd : ∀ i ∈ O, Cl R (· ∈ l) i
  cls : ∀ j, (j < k ∧ j < O.length) → ∀ m q, (rightF R (O.getD j (0, 0)).1)[(O.getD j (0, 0)).2]? = some (false, m) → q < R.length → (R.getD q (0, [])).1 = m → (q, 0) ∈ O
  cur : k < O.length → ∀ m q, (rightF R (O.getD k (0, 0)).1)[(O.getD k (0, 0)).2]? = some (false, m) → q < n → q < R.length → (R.getD q (0, [])).1 = m → (q, 0) ∈ O

section
variable {R : List Ru} {l O : List It} {k n : Nat}

theorem CI.len (h : CI R l O k n) : O.length ≤ l.length + R.length := by
  obtain ⟨E, rfl, hE⟩ := h.pre
  have hn : E.Nodup := (List.nodup_append.1 h.nod).2.1
  have := nodup_sub_length (B := (List.range R.length).map fun q => ((q, 0) : It)) hn fun i hi => by
    obtain ⟨q, hq, rfl⟩ := hE i hi
    exact List.mem_map.2 ⟨q, List.mem_range.2 hq, rfl⟩
  simp only [List.length_map, List.length_range] at this
  simp only [List.length_append]
  omega

theorem CI.none (h : CI R l O k 0) (hno : k < O.length → ∀ m, (rightF R (O.getD k (0, 0)).1)[(O.getD k (0, 0)).2]? ≠ some (false, m)) : CI R l O (k + 1) 0 :=
  ⟨h.pre, h.nod, h.snd, fun j hj m q h1 h2 h3 => by
    rcases Nat.lt_succ_iff_lt_or_eq.1 hj.1 with hj' | rfl
    · exact h.cls j ⟨hj', hj.2⟩ m q h1 h2 h3
    · exact absurd h1 (hno hj.2 m), fun _ m q _ hq => by omega⟩

theorem CI.done (h : CI R l O k n) (hn : R.length ≤ n) : CI R l O (k + 1) 0 :=
  ⟨h.pre, h.nod, h.snd, fun j hj m q h1 h2 h3 => by
    rcases Nat.lt_succ_iff_lt_or_eq.1 hj.1 with hj' | rfl
    · exact h.cls j ⟨hj', hj.2⟩ m q h1 h2 h3
    · exact h.cur hj.2 m q h1 (by omega) h2 h3, fun _ m q _ hq => by omega⟩

theorem CI.push (h : CI R l O k n) (hk : k < O.length) {m : Int} (h1 : (rightF R (O.getD k (0, 0)).1)[(O.getD k (0, 0)).2]? = some (false, m)) (hn : n < R.length) (h2 : (R.getD n (0, [])).1 = m) (h3 : (n, 0) ∉ O) : CI R l (O ++ [(n, 0)]) k (n + 1) := by
  have get : ∀ j, j < O.length → (O ++ [(n, 0)]).getD j (0, 0) = O.getD j (0, 0) := fun j hj => by simp [List.getD, List.getElem?_append_left hj]
  have hO : O.getD k (0, 0) ∈ O := by simp [List.getD, hk]
  refine ⟨?_, ?_, fun i hi => ?_, fun j hj m' q e1 e2 e3 => ?_, fun _ m' q e1 e2 e3 e4 => ?_⟩
  · obtain ⟨E, rfl, hE⟩ := h.pre
    refine ⟨E ++ [(n, 0)], by simp, fun i hi => ?_⟩
    rcases List.mem_append.1 hi with hi | hi
    · exact hE i hi
    · exact ⟨n, hn, by simpa using hi⟩
  · rw [List.nodup_append]
    refine ⟨h.nod, by simp, fun a ha b hb e => ?_⟩
    have hb' : b = (n, 0) := by simpa using hb
    rw [e, hb'] at ha
    exact h3 ha
  · rcases List.mem_append.1 hi with hi | hi
    · exact h.snd i hi
    · have : i = (n, 0) := by simpa using hi
      subst this
      exact .step (h.snd _ hO) h1 hn h2
  · have hjO : j < O.length := by omega
    rw [get j hjO] at e1
    exact List.mem_append_left _ (h.cls j ⟨hj.1, hjO⟩ m' q e1 e2 e3)
  · rw [get k hk] at e1
    rcases Nat.lt_succ_iff_lt_or_eq.1 e2 with e2 | rfl
    · exact List.mem_append_left _ (h.cur hk m' q e1 e2 e3 e4)
    · simp

/-- All items are closed: just what closes the first ones is there. -/
theorem CI.all (h : CI R l O k n) (hk : O.length ≤ k) : ∀ i, i ∈ O ↔ Cl R (· ∈ l) i := fun i => by
  refine ⟨h.snd i, fun hc => ?_⟩
  induction hc with
  | base hb =>
    obtain ⟨E, rfl, _⟩ := h.pre
    exact List.mem_append_left _ hb
  | step _ h1 h2 h3 ih =>
    obtain ⟨j, hj, he⟩ := List.getElem_of_mem ih
    have e : O.getD j (0, 0) = O[j] := by simp [List.getD, hj]
    exact h.cls j ⟨by omega, hj⟩ _ _ (by rw [e, he]; exact h1) h2 h3
end

end Go.Proofs.Ytobegekmgoiopaa

/- Memory that a call has made: rows, each in a block of its own, each under an index. No program. -/
namespace Go.Proofs.Ytobegekmgoiopaa
open Go.RowKit

/-- A slice value that owns a row: n elements of type e, size cells each, the cells xs. -/
structure Row where
  v : Value
  e : TypeId
  size : Nat
  n : Nat
  xs : List Value

/-- Each row of P is owned, from block number base on, and no two lie in one block. -/
structure Owns {ι : Type} (w : World) (base : Nat) (P : ι → Option Row) : Prop where
  own : ∀ i r, P i = some r → w.ownsRow base r.e r.size r.v r.n r.xs
  apart : ∀ i j a b, i ≠ j → P i = some a → P j = some b → ∀ g, a.v.ownBlock = some g → b.v.ownBlock = some g → False

/-- The row under i is r. -/
def upd {ι : Type} [DecidableEq ι] (P : ι → Option Row) (i : ι) (r : Row) : ι → Option Row := fun j => if j = i then some r else P j

section
variable {ι : Type} {w : World} {base : Nat} {P : ι → Option Row}

theorem Owns.drewN (h : Owns w base P) (m : Nat) : Owns (w.drewN m) base P := ⟨h.own, h.apart⟩
theorem Owns.drew (h : Owns w base P) : Owns w.drew base P := ⟨h.own, h.apart⟩

theorem Owns.alloc (h : Owns w base P) (o : Obj) : Owns (w.alloc o) base P := ⟨fun i r hr => (h.own i r hr).alloc o, h.apart⟩

theorem Owns.mono (h : Owns w base P) {base' : Nat} (hb : base' ≤ base) : Owns w base' P := ⟨fun i r hr => own_mono (h.own i r hr) hb, h.apart⟩

theorem Owns.lt (h : Owns w base P) {i : ι} {r : Row} (hi : P i = some r) {g : Nat} (hg : r.v.ownBlock = some g) : base ≤ g ∧ g < w.heap.size := (h.own i r hi).lt g hg

/-- Nothing below B has turned, and all rows lie there. -/
theorem Owns.below (h : Owns w base P) {B : Nat} {w' : World} (hb : Below B w w') (hB : w.heap.size ≤ B) : Owns w' base P :=
  ⟨fun _ _ hr => own_below (h.own _ _ hr) hb fun _ hg => Nat.lt_of_lt_of_le (h.lt hr hg).2 hB, h.apart⟩

/-- A cell outside all rows is written. -/
theorem Owns.setOther (h : Owns w base P) {a : Addr} (ha : ∀ i r, P i = some r → r.v.ownBlock ≠ some a.block) (u : Value) : Owns (w.setCell a u) base P := by
  refine ⟨fun i r hr => ?_, h.apart⟩
  obtain ⟨h1, h2⟩ := h.own i r hr
  refine ⟨h1, ?_⟩
  rcases h2 with h2 | ⟨g, cap, cur, hv, hg, hh, rest⟩
  · exact .inl h2
  · refine .inr ⟨g, cap, cur, hv, hg, ?_, rest⟩
    rw [Below.heap_setCell _ _ _ _ (fun e => ha i r hr (by rw [hv, e]; rfl))]
    exact hh

/-- A cell below all rows is written. -/
theorem Owns.setBelow (h : Owns w base P) {a : Addr} (ha : a.block < base) (u : Value) : Owns (w.setCell a u) base P :=
  h.setOther (fun _ _ hr e => by have := (h.lt hr e).1; omega) u

variable [DecidableEq ι]

theorem upd_same (P : ι → Option Row) (i : ι) (r : Row) : upd P i r i = some r := by simp [upd]
theorem upd_other (P : ι → Option Row) {i j : ι} (h : j ≠ i) (r : Row) : upd P i r j = P j := by simp [upd, h]

theorem upd_cases {P : ι → Option Row} {i j : ι} {r a : Row} (h : upd P i r j = some a) : (j = i ∧ a = r) ∨ (j ≠ i ∧ P j = some a) := by
  unfold upd at h
  split at h
  · rename_i e
    exact .inl ⟨e, by simpa using h.symm⟩
  · rename_i e
    exact .inr ⟨e, h⟩

theorem Owns.put (h : Owns w base P) {i : ι} {r' : Row} {w' : World} (hown : w'.ownsRow base r'.e r'.size r'.v r'.n r'.xs)
    (hkeep : ∀ j a, j ≠ i → P j = some a → w'.ownsRow base a.e a.size a.v a.n a.xs)
    (hfresh : ∀ j a, j ≠ i → P j = some a → ∀ g, a.v.ownBlock = some g → r'.v.ownBlock = some g → False) : Owns w' base (upd P i r') := by
  refine ⟨fun j a ha => ?_, fun j k a b hjk ha hb g h1 h2 => ?_⟩
  · rcases upd_cases ha with ⟨_, rfl⟩ | ⟨hj, ha⟩
    · exact hown
    · exact hkeep j a hj ha
  · rcases upd_cases ha with ⟨hj, e1⟩ | ⟨hj, ha'⟩
    · rcases upd_cases hb with ⟨hk, _⟩ | ⟨hk, hb'⟩
      · exact hjk (by rw [hj, hk])
      · subst e1
        exact hfresh k b hk hb' g h2 h1
    · rcases upd_cases hb with ⟨hk, e1⟩ | ⟨hk, hb'⟩
      · subst e1
        exact hfresh j a hj ha' g h1 h2
      · exact h.apart j k a b hjk ha' hb' g h1 h2

/-- A new row. -/
theorem Owns.new (h : Owns w base P) (i : ι) {w' : World} {r : Row} (hg : w.grownBy w' none) (hown : w'.ownsRow base r.e r.size r.v r.n r.xs) (hv : ∀ g, r.v.ownBlock = some g → g = w.heap.size) : Owns w' base (upd P i r) := by
  refine h.put hown (fun j a _ ha => (h.own j a ha).kept hg ?_) (fun j a _ ha g h1 h2 => ?_)
  · cases a.v.ownBlock <;> simp
  · have := (h.lt ha h1).2
    have := hv g h2
    omega

/-- One row turns into another one, in its own block or in a new one. -/
theorem Owns.turn (h : Owns w base P) {i : ι} {r r' : Row} (hi : P i = some r) {w' : World} (hg : w.grownBy w' r.v.ownBlock) (hown : w'.ownsRow base r'.e r'.size r'.v r'.n r'.xs)
    (hat : ∀ g, r'.v.ownBlock = some g → r.v.ownBlock = some g ∨ g = w.heap.size) : Owns w' base (upd P i r') := by
  refine h.put hown (fun j a hj ha => (h.own j a ha).kept hg ?_) (fun j a hj ha g h1 h2 => ?_)
  · cases e : a.v.ownBlock with
    | none => exact .inl rfl
    | some g => exact .inr fun e' => h.apart j i a r hj ha hi g e e'.symm
  · rcases hat g h2 with e | e
    · exact h.apart j i a r hj ha hi g h1 e
    · have := (h.lt ha h1).2; omega

/-- A cell of a row is written. -/
theorem Owns.store (h : Owns w base P) {i : ι} {g n cap e size : Nat} {xs : List Value} (hi : P i = some ⟨.slice (some ⟨g, 0, none⟩) n cap, e, size, n, xs⟩) (j : Nat) (u : Value) :
    Owns (w.setCell ⟨g, j, none⟩ u) base (upd P i ⟨.slice (some ⟨g, 0, none⟩) n cap, e, size, n, xs.set j u⟩) := by
  obtain ⟨h1, h2⟩ := (h.own i _ hi).stored j u
  exact h.turn (r' := ⟨.slice (some ⟨g, 0, none⟩) n cap, e, size, n, xs.set j u⟩) hi h2 h1 fun g' hg' => .inl hg'

omit [DecidableEq ι] in
/-- A cell of a row is read. -/
theorem Owns.cell (h : Owns w base P) {i : ι} {g n cap e size : Nat} {xs : List Value} (hi : P i = some ⟨.slice (some ⟨g, 0, none⟩) n cap, e, size, n, xs⟩) (j : Nat) (hj : j < n * size) :
    w.cell? ⟨g, j, none⟩ = xs[j]? ∧ w.frozen? ⟨g, j, none⟩ = false :=
  ⟨(h.own i _ hi).cellAt j hj, (h.own i _ hi).frozenAt j⟩

omit [DecidableEq ι] in
/-- A row that owns something: what its value looks like. -/
theorem Owns.form (h : Owns w base P) {i : ι} {r : Row} (hi : P i = some r) (hn : 0 < r.n) : ∃ g cap, r.v = .slice (some ⟨g, 0, none⟩) r.n cap ∧ base ≤ g ∧ g < w.heap.size := (h.own i r hi).form hn

omit [DecidableEq ι] in
theorem Owns.slice (h : Owns w base P) {i : ι} {r : Row} (hi : P i = some r) : ∃ a c, r.v = .slice a r.n c := own_form (h.own i r hi)
end

end Go.Proofs.Ytobegekmgoiopaa

/- Tables of truths that a call owns, and what a call that may write them alone keeps. No program. -/
namespace Go.Proofs.Ytobegekmgoiopaa
open Go.RowKit

/-- A region that draws its order, whose operations only read but those behind the first n, which can but follow: one walk. -/
theorem wp_region_tail {P : Program} {id : Nat} {Q : Exit → Act → World → Prop} {a : Act} {w : World} {l : List Oper} (n : Nat) (hm : P.follows .mixedOrders = true) (hB : Region.lexTailB .any l.toArray n = true)
    (h : wpStill P l.toArray w.drew (fun a' => wpList P l.toArray Q (l.drop n) a' w.drew) (l.take n) a) : (Code.region id l.toArray true).wp P Q a w := wp_region_still_tail n hm hB h

/-- All blocks that were there but those of K are as they were. -/
structure Kept (K : Nat → Prop) (w w' : World) : Prop where
  os : w'.os = w.os
  tape : w'.tape = w.tape
  output : w'.output = w.output
  size : w.heap.size ≤ w'.heap.size
  block : ∀ k, k < w.heap.size → ¬ K k → w'.heap[k]? = w.heap[k]?

section
variable {K : Nat → Prop} {a w w' : World}

theorem Kept.refl (K : Nat → Prop) (w : World) : Kept K w w := ⟨rfl, rfl, rfl, Nat.le_refl _, fun _ _ _ => rfl⟩
theorem Kept.trans {b c : World} (h : Kept K a b) (k : Kept K b c) : Kept K a c :=
  ⟨k.os.trans h.os, k.tape.trans h.tape, k.output.trans h.output, Nat.le_trans h.size k.size, fun i hi hK => (k.block i (Nat.lt_of_lt_of_le hi h.size) hK).trans (h.block i hi hK)⟩
theorem Kept.drew (h : Kept K a w) : Kept K a w.drew := ⟨h.os, h.tape, h.output, h.size, h.block⟩
theorem Kept.drewN (h : Kept K a w) (n : Nat) : Kept K a (w.drewN n) := ⟨h.os, h.tape, h.output, h.size, h.block⟩
theorem Kept.ofBelow (h : Below w.heap.size w w') : Kept K w w' := ⟨h.os, h.tape, h.output, h.size, fun k hk _ => h.block k hk⟩
theorem Kept.alloc (h : Kept K a w) (o : Obj) : Kept K a (w.alloc o) := h.trans (Kept.ofBelow ((Below.refl _ _).alloc (Nat.le_refl _) o))
theorem Kept.setCell (h : Kept K a w) {p : Addr} (hp : K p.block) (u : Value) : Kept K a (w.setCell p u) :=
  h.trans ⟨rfl, rfl, rfl, by simp [World.setCell], fun k _ hK => Below.heap_setCell _ _ _ _ (fun e => hK (e ▸ hp))⟩
theorem Kept.below (h : Kept K a w) {B : Nat} (hB : ∀ b, K b → B ≤ b) (hs : B ≤ a.heap.size) : Below B a w :=
  ⟨h.os, h.tape, h.output, h.size, fun k hk => h.block k (by omega) (fun e => by have := hB k e; omega)⟩
theorem Kept.cell (h : Kept K w w') {p : Addr} {v : Value} (hp : ¬ K p.block) (hc : w.cell? p = some v) : w'.cell? p = some v :=
  (World.cell?_of_block (w := w) (h.block p.block (World.block_lt_of_cell? w _ hc) hp)).trans hc
theorem Kept.frozen (h : Kept K w w') {p : Addr} (hp : ¬ K p.block) (hs : p.block < w.heap.size) : w'.frozen? p = w.frozen? p :=
  World.frozen?_of_block (w := w) (h.block p.block hs hp)
end

/-- n rounds, each told its number. -/
def loopN {α : Type} (n : Nat) (f : Nat → α → α) (x : α) : α :=
  match n with
  | 0 => x
  | k + 1 => f k (loopN k f x)

theorem loopN_inv {α : Type} (P : Nat → α → Prop) {n : Nat} {f : Nat → α → α} {x : α} (h0 : P 0 x) (hs : ∀ i, i < n → ∀ y, P i y → P (i + 1) (f i y)) : P n (loopN n f x) := by
  induction n with
  | zero => exact h0
  | succ n ih => exact hs n (Nat.lt_succ_self n) _ (ih fun i hi => hs i (Nat.lt_succ_of_lt hi))

/-- Where rows of truths lie, and how long they are. -/
structure Tab (ι : Type) where
  V : ι → Value
  dom : ι → Option Nat

section
variable {ι : Type}

def Tab.P (c : Tab ι) (X : ι → List Bool) (i : ι) : Option Row := (c.dom i).map fun n => ⟨c.V i, 4, 1, n, (X i).map Value.bool⟩
def Tab.K (c : Tab ι) (b : Nat) : Prop := ∃ i n, c.dom i = some n ∧ (c.V i).ownBlock = some b
def bit (X : ι → List Bool) (i : ι) (m : Nat) : Bool := (X i).getD m false
def setX [DecidableEq ι] (X : ι → List Bool) (i : ι) (m : Nat) (v : Bool) : ι → List Bool := fun j => if j = i then (X i).set m v else X j

/-- The truths X lie in the rows of c, owned from block B on. -/
def Bt (w : World) (B : Nat) (c : Tab ι) (X : ι → List Bool) : Prop := Owns w B (c.P X)

variable {w : World} {B : Nat} {c : Tab ι} {X : ι → List Bool} {i : ι} {n : Nat}

theorem Tab.P_some (hd : c.dom i = some n) : c.P X i = some ⟨c.V i, 4, 1, n, (X i).map Value.bool⟩ := by simp [Tab.P, hd]
theorem Bt.own (h : Bt w B c X) (hd : c.dom i = some n) : w.ownsRow B 4 1 (c.V i) n ((X i).map Value.bool) := Owns.own h i _ (Tab.P_some hd)
theorem Bt.len (h : Bt w B c X) (hd : c.dom i = some n) : (X i).length = n := by simpa using (h.own hd).1
theorem Bt.slice (h : Bt w B c X) (hd : c.dom i = some n) : ∃ a cap, c.V i = .slice a n cap := own_form (h.own hd)
theorem Bt.form (h : Bt w B c X) (hd : c.dom i = some n) (hn : 0 < n) : ∃ g cap, c.V i = .slice (some ⟨g, 0, none⟩) n cap ∧ B ≤ g ∧ g < w.heap.size := (h.own hd).form hn
theorem Bt.cell (h : Bt w B c X) (hd : c.dom i = some n) {g cap m : Nat} (hv : c.V i = .slice (some ⟨g, 0, none⟩) n cap) (hm : m < n) :
    w.cell? ⟨g, m, none⟩ = some (.bool (bit X i m)) ∧ w.frozen? ⟨g, m, none⟩ = false := by
  have hl := h.len hd
  have ho := h.own hd
  rw [hv] at ho
  refine ⟨?_, ho.frozenAt m⟩
  rw [ho.cellAt m (by omega)]
  simp [bit, List.getD, show m < (X i).length by omega]
theorem Bt.alloc (h : Bt w B c X) (o : Obj) : Bt (w.alloc o) B c X := Owns.alloc h o
theorem Bt.drew (h : Bt w B c X) : Bt w.drew B c X := Owns.drew h
theorem Bt.drewN (h : Bt w B c X) (n : Nat) : Bt (w.drewN n) B c X := Owns.drewN h n
theorem Bt.below (h : Bt w B c X) {w' : World} (hb : Below w.heap.size w w') : Bt w' B c X := Owns.below h hb (Nat.le_refl _)
theorem Bt.ge (h : Bt w B c X) {b : Nat} (hK : c.K b) : B ≤ b := by
  obtain ⟨i, n, hd, hb⟩ := hK
  exact ((h.own hd).lt b hb).1
theorem Bt.lt (h : Bt w B c X) {b : Nat} (hK : c.K b) : b < w.heap.size := by
  obtain ⟨i, n, hd, hb⟩ := hK
  exact ((h.own hd).lt b hb).2
theorem Bt.notK (h : Bt w B c X) {b : Nat} (hb : w.heap.size ≤ b) : ¬ c.K b := fun hK => by have := h.lt hK; omega
theorem Tab.inK (hd : c.dom i = some n) {g cap : Nat} (hv : c.V i = .slice (some ⟨g, 0, none⟩) n cap) : c.K g := ⟨i, n, hd, by rw [hv]; rfl⟩
theorem Bt.apart (h : Bt w B c X) {j : ι} {k : Nat} (hij : i ≠ j) (hd : c.dom i = some n) (hd' : c.dom j = some k) {g g' cap cap' : Nat} (hv : c.V i = .slice (some ⟨g, 0, none⟩) n cap) (hv' : c.V j = .slice (some ⟨g', 0, none⟩) k cap') : g ≠ g' := fun e =>
  Owns.apart h i j _ _ hij (Tab.P_some hd) (Tab.P_some hd') g (by rw [hv]; rfl) (by rw [hv', e]; rfl)

variable [DecidableEq ι]

theorem Bt.set (h : Bt w B c X) (hd : c.dom i = some n) {g cap : Nat} (hv : c.V i = .slice (some ⟨g, 0, none⟩) n cap) (m : Nat) (v : Bool) : Bt (w.setCell ⟨g, m, none⟩ (.bool v)) B c (setX X i m v) := by
  have := Owns.store h (i := i) (g := g) (n := n) (cap := cap) (e := 4) (size := 1) (xs := (X i).map Value.bool) (by rw [Tab.P_some hd, hv]) m (.bool v)
  have e : upd (c.P X) i ⟨.slice (some ⟨g, 0, none⟩) n cap, 4, 1, n, ((X i).map Value.bool).set m (.bool v)⟩ = c.P (setX X i m v) := by
    funext j
    by_cases hj : j = i
    · subst hj
      simp [upd, Tab.P, hd, setX, hv, List.map_set]
    · simp [upd, Tab.P, setX, hj]
  show Owns _ _ _
  rwa [e] at this

omit [DecidableEq ι] in
theorem bit_lt {m : Nat} (h : bit X i m = true) : m < (X i).length := by
  unfold bit at h
  by_cases hm : m < (X i).length
  · exact hm
  · simp [List.getD, List.getElem?_eq_none (show (X i).length ≤ m by omega)] at h

theorem bit_set {j : ι} {m q : Nat} {v : Bool} (hm : m < (X i).length) : bit (setX X i m v) j q = if j = i ∧ q = m then v else bit X j q := by
  unfold bit setX
  by_cases hj : j = i
  · subst hj
    simp only [if_true, true_and]
    by_cases hq : q = m
    · subst hq; simp [List.getD, hm]
    · rw [if_neg hq]; simp [List.getD, List.getElem?_set_ne (fun h => hq h.symm)]
  · simp [hj]

theorem len_set {j : ι} {m : Nat} {v : Bool} : (setX X i m v j).length = (X j).length := by
  unfold setX
  by_cases hj : j = i
  · subst hj; simp
  · simp [hj]
end

end Go.Proofs.Ytobegekmgoiopaa
