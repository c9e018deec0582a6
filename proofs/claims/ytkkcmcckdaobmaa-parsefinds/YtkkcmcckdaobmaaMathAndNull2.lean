import Derived.WalkKit
import Derived.Deep.AppendLies
import Derived.Deep.Draws
import Derived.WalkSmall
import Derived.Test.YtkkcmcckdaobmaaRows
import Derived.WalkSpells
import Derived.Deep.QuietTactic
import Derived.BigQuiet
import Derived.Deep.RegionWith
import Derived.Deep.Cut
import Derived.Deep.CutRange
import Derived.Deep.DrawnRows
/- Plain lists and numbers: what the reader of package gram makes of a list of rules' numbers, and what is true of the spans that it lays. No program, no memory. -/
namespace Go.Proofs.Ytkkcmcckdaobmaa

/-- A symbol: is it a term; its number. -/
abbrev Sy := Bool × Int
/-- A rule: its Left; its Right. -/
abbrev Ru := Int × List Sy
/-- A span: rule, from, to. -/
abbrev Sp := Int × Nat × Nat

/-- What a reader has done so far: how many numbers it has taken, the yield, the spans. -/
structure St where
  pos : Nat
  Y : List Int
  S : List Sp

/-- The next number, if it is that of a rule of the name n. -/
def nextF (R : List Ru) (D : List Int) (n : Int) (p : Nat) : Option Nat :=
  match D[p]? with
  | none => none
  | some q =>
    if 0 ≤ q ∧ q < R.length then
      (if (R.getD q.toNat (0, [])).1 = n then some q.toNat else none)
    else none

def symsF (f : Int → St → Option St) : List Sy → St → Option St
  | [], st => some st
  | (true, v) :: r, st => symsF f r { st with Y := st.Y ++ [v] }
  | (false, n) :: r, st =>
    match f n st with
    | none => none
    | some st' => symsF f r st'

def nameF (R : List Ru) (D : List Int) : Nat → Int → St → Option St
  | 0, _, _ => none
  | k + 1, n, st =>
    match nextF R D n st.pos with
    | none => none
    | some q =>
      match symsF (nameF R D k) (R.getD q (0, [])).2 { pos := st.pos + 1, Y := st.Y, S := st.S ++ [((q : Int), st.Y.length, 0)] } with
      | none => none
      | some st' => some { st' with S := st'.S.set st.S.length ((q : Int), st.Y.length, st'.Y.length) }

def readF (R : List Ru) (D : List Int) : Option St :=
  if 400 < D.length then none
  else
    match nameF R D D.length 0 { pos := 0, Y := [], S := [] } with
    | none => none
    | some st => if st.pos < D.length then none else some st

/-- What holds of the spans T that were laid while the numbers from a on were taken, and the yield grew from lo to hi. -/
def Seg (D : List Int) (a lo hi : Nat) (T : List Sp) : Prop :=
  ∀ i t, T[i]? = some t → D[a + i]? = some t.1 ∧ lo ≤ t.2.1 ∧ t.2.1 ≤ t.2.2 ∧ t.2.2 ≤ hi ∧ ∀ j u, j + 1 = i → T[j]? = some u → u.2.1 ≤ t.2.1

theorem Seg.nil (D : List Int) (a lo hi : Nat) : Seg D a lo hi [] := by
  intro i t h
  simp at h

theorem Seg.append {D : List Int} {a lo mid hi : Nat} {T U : List Sp} (h : Seg D a lo mid T) (k : Seg D (a + T.length) mid hi U) (h1 : lo ≤ mid) (h2 : mid ≤ hi) : Seg D a lo hi (T ++ U) := by
  intro i t ht
  by_cases hi' : i < T.length
  · rw [List.getElem?_append_left hi'] at ht
    obtain ⟨a1, a2, a3, a4, a5⟩ := h i t ht
    refine ⟨a1, a2, a3, by omega, fun j u hj hu => a5 j u hj ?_⟩
    rwa [List.getElem?_append_left (by omega)] at hu
  · rw [List.getElem?_append_right (by omega)] at ht
    obtain ⟨a1, a2, a3, a4, a5⟩ := k _ t ht
    refine ⟨by rw [← a1]; congr 1; omega, by omega, a3, a4, fun j u hj hu => ?_⟩
    by_cases hj' : j < T.length
    · rw [List.getElem?_append_left hj'] at hu
      obtain ⟨_, _, b3, b4, _⟩ := h j u hu
      omega
    · rw [List.getElem?_append_right (by omega)] at hu
      exact a5 _ u (by omega) hu

theorem Seg.cons {D : List Int} {a lo hi : Nat} {q : Int} {T : List Sp} (hq : D[a]? = some q) (h : Seg D (a + 1) lo hi T) (h1 : lo ≤ hi) : Seg D a lo hi ((q, lo, hi) :: T) := by
  intro i t ht
  cases i with
  | zero =>
    simp only [List.getElem?_cons_zero, Option.some.injEq] at ht
    subst ht
    exact ⟨by simpa using hq, Nat.le_refl _, h1, Nat.le_refl _, fun j u hj _ => by omega⟩
  | succ i =>
    simp only [List.getElem?_cons_succ] at ht
    obtain ⟨a1, a2, a3, a4, a5⟩ := h i t ht
    refine ⟨by rw [← a1]; congr 1; omega, a2, a3, a4, fun j u hj hu => ?_⟩
    cases j with
    | zero =>
      simp only [List.getElem?_cons_zero, Option.some.injEq] at hu
      subst hu
      exact a2
    | succ j =>
      simp only [List.getElem?_cons_succ] at hu
      exact a5 j u (by omega) hu

theorem nextF_some {R : List Ru} {D : List Int} {n : Int} {p q : Nat} (h : nextF R D n p = some q) :
    D[p]? = some (q : Int) ∧ q < R.length ∧ (R.getD q (0, [])).1 = n := by
  unfold nextF at h
  split at h
  · cases h
  · rename_i x hx
    split at h
    · rename_i hb
      split at h
      · rename_i hn
        cases h
        refine ⟨?_, by omega, hn⟩
        rw [hx]
        congr 1
        omega
      · cases h
    · cases h

theorem nameF_some {R : List Ru} {D : List Int} {k q : Nat} {n : Int} {st st' : St} {Rt : List Sy} (hq : nextF R D n st.pos = some q) (hR : (R.getD q (0, [])).2 = Rt)
    (h : symsF (nameF R D k) Rt { pos := st.pos + 1, Y := st.Y, S := st.S ++ [((q : Int), st.Y.length, 0)] } = some st') :
    nameF R D (k + 1) n st = some { st' with S := st'.S.set st.S.length ((q : Int), st.Y.length, st'.Y.length) } := by
  subst hR
  rw [nameF, hq]
  simp only [h]

theorem nameF_none {R : List Ru} {D : List Int} {k q : Nat} {n : Int} {st : St} {Rt : List Sy} (hq : nextF R D n st.pos = some q) (hR : (R.getD q (0, [])).2 = Rt)
    (h : symsF (nameF R D k) Rt { pos := st.pos + 1, Y := st.Y, S := st.S ++ [((q : Int), st.Y.length, 0)] } = none) :
    nameF R D (k + 1) n st = none := by
  subst hR
  rw [nameF, hq]
  simp only [h]

/-- What a derivation that is read leaves. -/
structure Grew (D : List Int) (M : Nat) (st st' : St) (extra : Nat) : Prop where
  pos : st.pos ≤ st'.pos
  top : st.pos ≤ D.length → st'.pos ≤ D.length
  yl : st.Y.length ≤ st'.Y.length
  pot : st.pos ≤ D.length → st'.Y.length + (D.length - st'.pos) * M ≤ st.Y.length + extra + (D.length - st.pos) * M
  seg : ∃ T, st'.S = st.S ++ T ∧ T.length = st'.pos - st.pos ∧ Seg D st.pos st.Y.length st'.Y.length T

theorem symsF_grew {D : List Int} {M : Nat} {f : Int → St → Option St} (hf : ∀ n st st', f n st = some st' → Grew D M st st' 0) :
    ∀ (l : List Sy) (st st' : St), symsF f l st = some st' → Grew D M st st' l.length := by
  intro l
  induction l with
  | nil =>
    intro st st' h
    simp only [symsF, Option.some.injEq] at h
    subst h
    exact ⟨Nat.le_refl _, fun h => h, Nat.le_refl _, fun _ => by simp, [], by simp, by simp, Seg.nil _ _ _ _⟩
  | cons s r ih =>
    intro st st' h
    obtain ⟨b, v⟩ := s
    cases b with
    | true =>
      simp only [symsF] at h
      have g := ih _ _ h
      obtain ⟨T, h1, h2, h3⟩ := g.seg
      have gy := g.yl
      simp only [List.length_append, List.length_cons, List.length_nil] at gy
      refine ⟨g.pos, g.top, by omega, fun hp => ?_, T, h1, h2, ?_⟩
      · have := g.pot hp
        simp only [List.length_append, List.length_cons, List.length_nil] at this ⊢
        omega
      · intro i t ht
        obtain ⟨a1, a2, a3, a4, a5⟩ := h3 i t ht
        simp only [List.length_append, List.length_cons, List.length_nil] at a2
        exact ⟨a1, by omega, a3, a4, a5⟩
    | false =>
      simp only [symsF] at h
      split at h
      · cases h
      · rename_i st1 hst1
        have g1 := hf _ _ _ hst1
        have g2 := ih _ _ h
        obtain ⟨T, h1, h2, h3⟩ := g1.seg
        obtain ⟨U, k1, k2, k3⟩ := g2.seg
        have p1 := g1.pos
        have p2 := g2.pos
        have y1 := g1.yl
        have y2 := g2.yl
        refine ⟨by omega, fun hp => g2.top (g1.top hp), by omega, fun hp => ?_, T ++ U, ?_, ?_, ?_⟩
        · have q1 := g1.pot hp
          have q2 := g2.pot (g1.top hp)
          simp only [List.length_cons]
          omega
        · rw [k1, h1, List.append_assoc]
        · rw [List.length_append]; omega
        · refine h3.append ?_ y1 y2
          rw [show st.pos + T.length = st1.pos by omega]
          exact k3

theorem nameF_grew {R : List Ru} {D : List Int} {M : Nat} (hM : ∀ q, (R.getD q (0, [])).2.length ≤ M) :
    ∀ (k : Nat) (n : Int) (st st' : St), nameF R D k n st = some st' →
      Grew D M st st' 0 ∧ st.pos < st'.pos ∧ ∃ q T, st'.S = st.S ++ (q, st.Y.length, st'.Y.length) :: T := by
  intro k
  induction k with
  | zero =>
    intro n st st' h
    simp [nameF] at h
  | succ k ih =>
    intro n st st' h
    simp only [nameF] at h
    split at h
    · cases h
    · rename_i q hq
      split at h
      · cases h
      · rename_i st1 hst1
        cases h
        obtain ⟨d1, d2, d3⟩ := nextF_some hq
        have g := symsF_grew (M := M) (fun n st st' h => (ih n st st' h).1) _ _ _ hst1
        obtain ⟨T, h1, h2, h3⟩ := g.seg
        have gp := g.pos
        have gy := g.yl
        have hlt : st.pos < D.length := by
          rcases Nat.lt_or_ge st.pos D.length with h | h
          · exact h
          · rw [List.getElem?_eq_none h] at d1; cases d1
        simp only at gp gy h1 h2 h3
        have hS : st1.S.set st.S.length ((q : Int), st.Y.length, st1.Y.length) = st.S ++ ((q : Int), st.Y.length, st1.Y.length) :: T := by
          rw [h1, List.append_assoc, List.singleton_append, List.set_append_right _ _ (Nat.le_refl _)]
          simp
        refine ⟨⟨by simp only; omega, fun _ => g.top (by simp only; omega), by simp only; omega, fun hp => ?_, ((q : Int), st.Y.length, st1.Y.length) :: T, hS, ?_, ?_⟩, by simp only; omega, _, T, hS⟩
        · have hm := hM q
          have hpot := g.pot (by simp only; omega)
          simp only at hpot ⊢
          have e : D.length - st.pos = (D.length - (st.pos + 1)) + 1 := by omega
          rw [e, Nat.add_mul, Nat.one_mul]
          omega
        · simp only [List.length_cons]; omega
        · exact Seg.cons d1 h3 gy

end Go.Proofs.Ytkkcmcckdaobmaa

/- How a grammar's rules and a list of numbers lie in memory. No walk. -/
namespace Go.Proofs.Ytkkcmcckdaobmaa
open Go.RowKit

/-- The rules R lie in memory below block number lim, at the slice value rv. -/
def RulesAt (w : World) (lim : Nat) (rv : Value) (R : List Ru) : Prop :=
  (∃ ra rc, rv = .slice ra R.length rc) ∧
  ∀ q, q < R.length → ∃ b o rc qa qc, rv = .slice (some ⟨b, o, none⟩) R.length rc ∧ b < lim ∧
    w.cell? ⟨b, o + q * 2, none⟩ = some (.int .i64 (R.getD q (0, [])).1) ∧
    w.cell? ⟨b, o + (q * 2 + 1), none⟩ = some (.slice qa (R.getD q (0, [])).2.length qc) ∧ (R.getD q (0, [])).2.length ≤ qc ∧
    ∀ j, j < (R.getD q (0, [])).2.length → ∃ b' o', qa = some ⟨b', o', none⟩ ∧ b' < lim ∧
      w.cell? ⟨b', o' + j * 2, none⟩ = some (.bool ((R.getD q (0, [])).2.getD j (false, 0)).1) ∧
      w.cell? ⟨b', o' + (j * 2 + 1), none⟩ = some (.int .i64 ((R.getD q (0, [])).2.getD j (false, 0)).2)

/-- The numbers D lie in memory below block number lim, at the slice value dv. -/
def ListAt (w : World) (lim : Nat) (dv : Value) (D : List Int) : Prop :=
  (∃ da dc, dv = .slice da D.length dc) ∧
  ∀ p, p < D.length → ∃ b o dc, dv = .slice (some ⟨b, o, none⟩) D.length dc ∧ b < lim ∧ w.cell? ⟨b, o + p, none⟩ = some (.int .i64 (D.getD p 0))

theorem RulesAt.below {B : Nat} {w w' : World} {rv : Value} {R : List Ru} (h : RulesAt w B rv R) (hb : Below B w w') : RulesAt w' B rv R := by
  refine ⟨h.1, fun q hq => ?_⟩
  obtain ⟨b, o, rc, qa, qc, h1, h2, h3, h4, h6, h5⟩ := h.2 q hq
  refine ⟨b, o, rc, qa, qc, h1, h2, (hb.cell h2).trans h3, (hb.cell h2).trans h4, h6, fun j hj => ?_⟩
  obtain ⟨b', o', k1, k2, k3, k4⟩ := h5 j hj
  exact ⟨b', o', k1, k2, (hb.cell k2).trans k3, (hb.cell k2).trans k4⟩

theorem ListAt.below {B : Nat} {w w' : World} {dv : Value} {D : List Int} (h : ListAt w B dv D) (hb : Below B w w') : ListAt w' B dv D := by
  refine ⟨h.1, fun p hp => ?_⟩
  obtain ⟨b, o, dc, h1, h2, h3⟩ := h.2 p hp
  exact ⟨b, o, dc, h1, h2, (hb.cell h2).trans h3⟩

theorem RulesAt.mono {B B' : Nat} {w : World} {rv : Value} {R : List Ru} (h : RulesAt w B rv R) (hb : B ≤ B') : RulesAt w B' rv R := by
  refine ⟨h.1, fun q hq => ?_⟩
  obtain ⟨b, o, rc, qa, qc, h1, h2, h3, h4, h6, h5⟩ := h.2 q hq
  refine ⟨b, o, rc, qa, qc, h1, by omega, h3, h4, h6, fun j hj => ?_⟩
  obtain ⟨b', o', k1, k2, k3, k4⟩ := h5 j hj
  exact ⟨b', o', k1, by omega, k3, k4⟩

theorem ListAt.mono {B B' : Nat} {w : World} {dv : Value} {D : List Int} (h : ListAt w B dv D) (hb : B ≤ B') : ListAt w B' dv D := by
  refine ⟨h.1, fun p hp => ?_⟩
  obtain ⟨b, o, dc, h1, h2, h3⟩ := h.2 p hp
  exact ⟨b, o, dc, h1, by omega, h3⟩

theorem own_form {w : World} {base : Nat} {e : TypeId} {size : Nat} {v : Value} {n : Nat} {xs : List Value} (h : w.ownsRow base e size v n xs) : ∃ a c, v = .slice a n c := by
  rcases h.2 with ⟨rfl, rfl⟩ | ⟨g, cap, _, rfl, _⟩
  · exact ⟨_, _, rfl⟩
  · exact ⟨_, _, rfl⟩

theorem own_mono {w : World} {base base' : Nat} {e : TypeId} {size : Nat} {v : Value} {n : Nat} {xs : List Value} (h : w.ownsRow base e size v n xs) (hb : base' ≤ base) : w.ownsRow base' e size v n xs := by
  refine ⟨h.1, ?_⟩
  rcases h.2 with h2 | ⟨g, cap, cur, h1, h2, h3⟩
  · exact .inl h2
  · exact .inr ⟨g, cap, cur, h1, by omega, h3⟩

theorem own_below {B base : Nat} {e : TypeId} {size : Nat} {v : Value} {n : Nat} {xs : List Value} {w w' : World} (h : w.ownsRow base e size v n xs) (hb : Below B w w') (hv : ∀ g, v.ownBlock = some g → g < B) : w'.ownsRow base e size v n xs := by
  refine ⟨h.1, ?_⟩
  rcases h.2 with h2 | ⟨g, cap, cur, rfl, h2, h3, h4⟩
  · exact .inl h2
  · exact .inr ⟨g, cap, cur, rfl, h2, (hb.block g (hv g rfl)).trans h3, h4⟩

theorem RulesAt.boxed {w : World} {rv : Value} {R : List Ru} (h : RulesAt w w.heap.size rv R) (o : Obj) : RulesAt (w.alloc o) (w.alloc o).heap.size rv R :=
  (h.below ((Below.refl _ _).alloc (Nat.le_refl _) o)).mono (by simp)
theorem ListAt.boxed {w : World} {dv : Value} {D : List Int} (h : ListAt w w.heap.size dv D) (o : Obj) : ListAt (w.alloc o) (w.alloc o).heap.size dv D :=
  (h.below ((Below.refl _ _).alloc (Nat.le_refl _) o)).mono (by simp)

theorem getD_of_some {α : Type} {l : List α} {i : Nat} {x d : α} (h : l[i]? = some x) : l.getD i d = x := by simp [List.getD, h]

theorem cell_set_other {w : World} {a c : Addr} {u : Value} (h : a.block ≠ c.block ∨ a.off ≠ c.off) : (w.setCell c u).cell? a = w.cell? a := by
  rw [World.cell?_setCell_other]
  intro e
  subst e
  rcases h with h | h <;> exact h rfl

/-- The symbols Rt lie in memory, below block number lim. -/
def RightAt (w : World) (lim : Nat) (qa : Option Addr) (Rt : List Sy) : Prop :=
  ∀ j, j < Rt.length → ∃ b' o', qa = some ⟨b', o', none⟩ ∧ b' < lim ∧
      w.cell? ⟨b', o' + j * 2, none⟩ = some (.bool (Rt.getD j (false, 0)).1) ∧
      w.cell? ⟨b', o' + (j * 2 + 1), none⟩ = some (.int .i64 (Rt.getD j (false, 0)).2)

theorem RightAt.below {B : Nat} {w w' : World} {qa : Option Addr} {Rt : List Sy} (h : RightAt w B qa Rt) (hb : Below B w w') : RightAt w' B qa Rt := fun j hj => by
  obtain ⟨b', o', k1, k2, k3, k4⟩ := h j hj
  exact ⟨b', o', k1, k2, (hb.cell k2).trans k3, (hb.cell k2).trans k4⟩
theorem RightAt.mono {B B' : Nat} {w : World} {qa : Option Addr} {Rt : List Sy} (h : RightAt w B qa Rt) (hb : B ≤ B') : RightAt w B' qa Rt := fun j hj => by
  obtain ⟨b', o', k1, k2, k3, k4⟩ := h j hj
  exact ⟨b', o', k1, by omega, k3, k4⟩

end Go.Proofs.Ytkkcmcckdaobmaa

/- The contracts of pollardingref2.null and pollardingref2.begins. -/
namespace Go.Proofs.Ytkkcmcckdaobmaa
open Go.RowKit

/-- Truths that can be read at a slice value. -/
def BoolsAt (w : World) (v : Value) (X : List Bool) : Prop :=
  (∃ a c, v = .slice a X.length c) ∧ ∀ i, i < X.length → ∃ g o c, v = .slice (some ⟨g, o, none⟩) X.length c ∧ w.cell? ⟨g, o + i, none⟩ = some (.bool (X.getD i false))
/-- Rows of truths that can be read at a slice value. -/
def MatAt (w : World) (v : Value) (X : List (List Bool)) : Prop :=
  (∃ a c, v = .slice a X.length c) ∧ ∀ i, i < X.length → ∃ g o c rv, v = .slice (some ⟨g, o, none⟩) X.length c ∧ w.cell? ⟨g, o + i, none⟩ = some rv ∧ BoolsAt w rv (X.getD i [])
/-- Symbols that can be read at a slice value. -/
def SymsAt (w : World) (v : Value) (l : List Sy) : Prop :=
  (∃ a c, v = .slice a l.length c ∧ l.length ≤ c) ∧ ∀ j, j < l.length → ∃ b o c, v = .slice (some ⟨b, o, none⟩) l.length c ∧ w.cell? ⟨b, o + j * 2, none⟩ = some (.bool (l.getD j (false, 0)).1) ∧
    w.cell? ⟨b, o + j * 2 + 1, none⟩ = some (.int .i64 (l.getD j (false, 0)).2)

/-- The same cells hold the same. -/
theorem BoolsAt.same {w w' : World} {v : Value} {X : List Bool} (h : BoolsAt w v X) (hw : ∀ b o, b < w.heap.size → w'.cell? ⟨b, o, none⟩ = w.cell? ⟨b, o, none⟩) : BoolsAt w' v X :=
  ⟨h.1, fun i hi => let ⟨g, o, c, h1, h2⟩ := h.2 i hi; ⟨g, o, c, h1, (hw g _ (World.block_lt_of_cell? w _ h2)).trans h2⟩⟩
theorem MatAt.same {w w' : World} {v : Value} {X : List (List Bool)} (h : MatAt w v X) (hw : ∀ b o, b < w.heap.size → w'.cell? ⟨b, o, none⟩ = w.cell? ⟨b, o, none⟩) : MatAt w' v X :=
  ⟨h.1, fun i hi => let ⟨g, o, c, rv, h1, h2, h3⟩ := h.2 i hi; ⟨g, o, c, rv, h1, (hw g _ (World.block_lt_of_cell? w _ h2)).trans h2, h3.same hw⟩⟩
theorem SymsAt.same {w w' : World} {v : Value} {l : List Sy} (h : SymsAt w v l) (hw : ∀ b o, b < w.heap.size → w'.cell? ⟨b, o, none⟩ = w.cell? ⟨b, o, none⟩) : SymsAt w' v l :=
  ⟨h.1, fun j hj => let ⟨b, o, c, h1, h2, h3⟩ := h.2 j hj; ⟨b, o, c, h1, (hw b _ (World.block_lt_of_cell? w _ h2)).trans h2, (hw b _ (World.block_lt_of_cell? w _ h3)).trans h3⟩⟩

/-- A rule of a grammar in memory: its Left, and its Right's symbols. -/
theorem RulesAt.syms {w : World} {B : Nat} {rv : Value} {R : List Ru} (h : RulesAt w B rv R) {q : Nat} (hq : q < R.length) : ∃ b o rc qa qc, rv = .slice (some ⟨b, o, none⟩) R.length rc ∧ b < B ∧
    w.cell? ⟨b, o + q * 2, none⟩ = some (.int .i64 (R.getD q (0, [])).1) ∧ w.cell? ⟨b, o + q * 2 + 1, none⟩ = some (.slice qa (R.getD q (0, [])).2.length qc) ∧ SymsAt w (.slice qa (R.getD q (0, [])).2.length qc) (R.getD q (0, [])).2 := by
  obtain ⟨b, o, rc, qa, qc, h1, h2, h3, h4, h6, h5⟩ := h.2 q hq
  refine ⟨b, o, rc, qa, qc, h1, h2, h3, by rw [Nat.add_assoc]; exact h4, ⟨_, _, rfl, h6⟩, fun j hj => ?_⟩
  obtain ⟨b', o', rfl, _, k1, k2⟩ := h5 j hj
  exact ⟨b', o', qc, rfl, k1, by rw [Nat.add_assoc]; exact k2⟩

theorem same_alloc (w : World) (o' : Obj) : ∀ b o, b < w.heap.size → (w.alloc o').cell? ⟨b, o, none⟩ = w.cell? ⟨b, o, none⟩ := fun _ _ hb => World.cell?_alloc_past _ _ _ hb
theorem same_below {w w' : World} (h : Below w.heap.size w w') : ∀ b o, b < w.heap.size → w'.cell? ⟨b, o, none⟩ = w.cell? ⟨b, o, none⟩ := fun _ _ hb => h.cell hb

def nullB (X : List Bool) (l : List Sy) : Bool := l.all fun s => !s.1 && X.getD s.2.toNat false

theorem nullB_take (X : List Bool) (l : List Sy) (i : Nat) (h : i < l.length) : nullB X (l.take (i + 1)) = (nullB X (l.take i) && (!(l.getD i (false, 0)).1 && X.getD (l.getD i (false, 0)).2.toNat false)) := by
  unfold nullB
  rw [List.take_succ_eq_append_getElem h, List.all_append]
  simp [List.getD, h]

theorem nullB_bad (X : List Bool) (l : List Sy) (i : Nat) (h : i < l.length) (hb : (!(l.getD i (false, 0)).1 && X.getD (l.getD i (false, 0)).2.toNat false) = false) : nullB X l = false := by
  unfold nullB
  rw [List.all_eq_false]
  refine ⟨l[i], List.getElem_mem h, ?_⟩
  have e : l.getD i (false, 0) = l[i] := by simp [List.getD, h]
  rw [e] at hb
  rw [hb]
  simp

set_option maxRecDepth 100000 in
set_option maxHeartbeats 1600000 in
theorem null2_any {w : World} {nv lv : Value} {fa ga : Option Addr} {fl fc gl gc : Nat} {X : List Bool} {l : List Sy} (hX : BoolsAt w nv X) (hl : SymsAt w lv l)
    (hin : ∀ s ∈ l, s.1 = false → 0 ≤ s.2 ∧ s.2 < (X.length : Int)) (h8 : l.length ≤ 1000) :
    Calls Try.prog 25 #[.agg #[nv, .slice fa fl fc, .slice ga gl gc], lv] w fun e w' => e = .returned (.bool (nullB X l)) ∧ Below w.heap.size w w' := by
  obtain ⟨na, nc, hnv⟩ := hX.1
  obtain ⟨la, lc, hlv, _⟩ := hl.1
  have HX : Hid (BoolsAt w nv X) := hX
  have HL : Hid (SymsAt w lv l) := hl
  have HI : Hid (∀ s ∈ l, s.1 = false → 0 ≤ s.2 ∧ s.2 < (X.length : Int)) := hin
  clear hX hl hin
  subst hnv
  subst hlv
  go_enter Try.func25, Try.ntmps25
  go_wp2_with fail
  go_loopw [5] (fun k wr => ∃ i m : Nat, k = .int .i64 i ∧ i ≤ l.length ∧ nullB X (l.take i) = true ∧ wr = (w.alloc (.cells #[.slice na X.length nc, .slice fa fl fc, .slice ga gl gc] 65)).drewN m) (fun k _ => l.length - (intOf k).toNat)
  case atStart => exact ⟨0, 0, rfl, Nat.zero_le _, rfl, rfl⟩
  case round =>
    obtain ⟨i, m, rfl, hi, hn, rfl⟩ := hrel
    have HN : Hid (nullB X (l.take i) = true) := hn
    clear hn
    by_cases hlt : i < l.length
    · obtain ⟨b, o, c, hv, k1, k2⟩ := HL.out.2 i hlt
      simp only [Value.slice.injEq, true_and] at hv
      obtain ⟨rfl, rfl⟩ := hv
      have hmem : l.getD i (false, 0) ∈ l := by simp [List.getD, hlt]
      have hr := HI.out _ hmem
      obtain ⟨⟨t, v⟩, hs⟩ : ∃ x, l.getD i (false, 0) = x := ⟨_, rfl⟩
      have HT := nullB_take X l i hlt
      have HB := nullB_bad X l i hlt
      rw [hs] at k1 k2 hr HT HB
      rw [HN.out, Bool.true_and] at HT
      have HT' : Hid (nullB X (l.take (i + 1)) = (!t && X.getD v.toNat false)) := HT
      have HB' : Hid ((!t && X.getD v.toNat false) = false → nullB X l = false) := HB
      have c1 : (w.alloc (.cells #[.slice na X.length nc, .slice fa fl fc, .slice ga gl gc] 65)).cell? ⟨b, o + i * 2, none⟩ = some (.bool t) := (same_alloc w _ b _ (World.block_lt_of_cell? w _ k1)).trans k1
      have c2 : (w.alloc (.cells #[.slice na X.length nc, .slice fa fl fc, .slice ga gl gc] 65)).cell? ⟨b, o + i * 2 + 1, none⟩ = some (.int .i64 v) := (same_alloc w _ b _ (World.block_lt_of_cell? w _ k2)).trans k2
      have j0 : (0 : Int) ≤ (i : Int) := Int.natCast_nonneg _
      have j1 : (i : Int) < (l.length : Int) := by omega
      clear hs hmem HT HB k1 k2
      cases t with
      | true =>
        go_wp2_with fail
        go_big_quiet (fail)
        go_wp2_with fail
        go_ret
        exact ⟨by rw [HB'.out (by simp)]; rfl, below_drewN (below_drewN ((Below.refl _ _).alloc (Nat.le_refl _) _) _) _⟩
      | false =>
        have hr' : 0 ≤ v ∧ v < (X.length : Int) := hr rfl
        clear hr
        obtain ⟨y, rfl⟩ : ∃ y : Nat, v = y := ⟨v.toNat, by omega⟩
        obtain ⟨g, o2, c', hv, k3⟩ := HX.out.2 y (by omega)
        simp only [Value.slice.injEq, true_and] at hv
        obtain ⟨rfl, rfl⟩ := hv
        have c3 : (w.alloc (.cells #[.slice (some ⟨g, o2, none⟩) X.length nc, .slice fa fl fc, .slice ga gl gc] 65)).cell? ⟨g, o2 + y, none⟩ = some (.bool (X.getD y false)) := (same_alloc w _ g _ (World.block_lt_of_cell? w _ k3)).trans k3
        have j2 : (0 : Int) ≤ (y : Int) := Int.natCast_nonneg _
        have j3 : (y : Int) < (X.length : Int) := by omega
        obtain ⟨z, hz⟩ : ∃ z, X.getD y false = z := ⟨_, rfl⟩
        rw [hz] at c3
        simp only [Int.toNat_natCast, hz] at HT' HB'
        clear hz k3 hr'
        cases z with
        | true =>
          go_wp2_with fail
          go_big_quiet (fail)
          go_wp2_with fail
          go_roundw
          case rel => exact ⟨i + 1, _, by go_num, by omega, by rw [HT'.out]; rfl, rfl⟩
          case measure => simp [intOf]; omega
        | false =>
          go_wp2_with fail
          go_big_quiet (fail)
          go_wp2_with fail
          go_ret
          exact ⟨by rw [HB'.out (by simp)]; rfl, below_drewN (below_drewN ((Below.refl _ _).alloc (Nat.le_refl _) _) _) _⟩
    · go_wp2_with fail
      go_ret
      exact ⟨by rw [← HN.out, List.take_of_length_le (by omega)]; rfl, below_drewN ((Below.refl _ _).alloc (Nat.le_refl _) _) _⟩

theorem SymsAt.take {w : World} {b o c : Nat} {l : List Sy} (h : SymsAt w (.slice (some ⟨b, o, none⟩) l.length c) l) (i : Nat) (hi : i ≤ l.length) : SymsAt w (.slice (some ⟨b, o, none⟩) i c) (l.take i) := by
  have hl : (l.take i).length = i := by simp; omega
  obtain ⟨a', c', e, hc⟩ := h.1
  cases e
  refine ⟨⟨_, _, by rw [hl], by omega⟩, fun j hj => ?_⟩
  rw [hl] at hj
  obtain ⟨b', o', c', e, h1, h2⟩ := h.2 j (by omega)
  cases e
  have hg : (l.take i).getD j (false, 0) = l.getD j (false, 0) := by simp [List.getD, hj]
  exact ⟨b, o, c, by rw [hl], by rw [hg]; exact h1, by rw [hg]; exact h2⟩

theorem SymsAt.drop {w : World} {b o c : Nat} {l : List Sy} (h : SymsAt w (.slice (some ⟨b, o, none⟩) l.length c) l) (n : Nat) (hn : n ≤ l.length) :
    SymsAt w (.slice (if c = n then some ⟨b, o, none⟩ else some ⟨b, o + n * 2, none⟩) (l.length - n) (c - n)) (l.drop n) := by
  have hl : (l.drop n).length = l.length - n := by simp
  obtain ⟨a', c', e, hc⟩ := h.1
  cases e
  refine ⟨⟨_, _, by rw [hl], by omega⟩, fun j hj => ?_⟩
  rw [hl] at hj
  obtain ⟨b', o', c', e, h1, h2⟩ := h.2 (n + j) (by omega)
  cases e
  have hg : (l.drop n).getD j (false, 0) = l.getD (n + j) (false, 0) := by simp [List.getD]
  refine ⟨b, o + n * 2, c - n, by rw [hl, if_neg (by omega)], ?_, ?_⟩
  · rw [hg, ← h1]; congr 2; omega
  · rw [hg, ← h2]; congr 2; omega

def hitB (F : List (List Bool)) (t : Nat) (s : Sy) : Bool := if s.1 then decide (s.2 = (t : Int)) else (F.getD s.2.toNat []).getD t false
def begB (X : List Bool) (F : List (List Bool)) (t : Nat) (l : List Sy) : Bool := (List.range l.length).any fun i => nullB X (l.take i) && hitB F t (l.getD i (false, 0))

theorem any_range_succ (f : Nat → Bool) (n : Nat) : (List.range (n + 1)).any f = ((List.range n).any f || f n) := by
  rw [List.range_succ, List.any_append]
  simp

theorem nullB_longer (X : List Bool) (l : List Sy) {i j : Nat} (hij : i ≤ j) (h : nullB X (l.take i) = false) : nullB X (l.take j) = false := by
  unfold nullB at *
  rw [List.all_eq_false] at *
  obtain ⟨x, hx, hp⟩ := h
  exact ⟨x, (List.take_subset_take_left l hij) hx, hp⟩

theorem begB_stop {X : List Bool} {F : List (List Bool)} {t : Nat} {l : List Sy} {i : Nat} (h : (List.range i).any (fun i => nullB X (l.take i) && hitB F t (l.getD i (false, 0))) = false) (hn : nullB X (l.take i) = false) : begB X F t l = false := by
  unfold begB
  rw [List.any_eq_false] at *
  intro j _
  by_cases hj : j < i
  · exact h j (List.mem_range.2 hj)
  · have := nullB_longer X l (j := j) (by omega) hn
    simp [this]

theorem begB_hit {X : List Bool} {F : List (List Bool)} {t : Nat} {l : List Sy} {i : Nat} (hi : i < l.length) (hn : nullB X (l.take i) = true) (h : hitB F t (l.getD i (false, 0)) = true) : begB X F t l = true := by
  unfold begB
  rw [List.any_eq_true]
  exact ⟨i, List.mem_range.2 hi, by simp only [hn, h, Bool.and_self]⟩

set_option maxRecDepth 100000 in
set_option maxHeartbeats 3200000 in
theorem begins2_any {w : World} {nv fv lv : Value} {ga : Option Addr} {gl gc : Nat} {X : List Bool} {F : List (List Bool)} {l : List Sy} {t : Nat} (hX : BoolsAt w nv X) (hF : MatAt w fv F) (hl : SymsAt w lv l)
    (hin : ∀ s ∈ l, s.1 = false → 0 ≤ s.2 ∧ s.2 < (X.length : Int)) (hXF : F.length = X.length) (hT : ∀ i, i < F.length → t < (F.getD i []).length) (h8 : l.length ≤ 1000) :
    Calls Try.prog 26 #[.agg #[nv, fv, .slice ga gl gc], lv, .int .i64 t] w fun e w' => e = .returned (.bool (begB X F t l)) ∧ Below w.heap.size w w' := by
  obtain ⟨na, nc, hnv⟩ := hX.1
  obtain ⟨fa, fc, hfv⟩ := hF.1
  obtain ⟨la, lc, hlv, hlc⟩ := hl.1
  have HX : Hid (BoolsAt w nv X) := hX
  have HF : Hid (MatAt w fv F) := hF
  have HL : Hid (SymsAt w lv l) := hl
  have HI : Hid (∀ s ∈ l, s.1 = false → 0 ≤ s.2 ∧ s.2 < (X.length : Int)) := hin
  have HXF : Hid (F.length = X.length) := hXF
  have HTT : Hid (∀ i, i < F.length → t < (F.getD i []).length) := hT
  clear hX hl hin hF hXF hT
  subst hnv
  subst hfv
  subst hlv
  go_enter Try.func26, Try.ntmps26
  go_wp2_with fail
  go_loopw [7] (fun k wr => ∃ i : Nat, k = .int .i64 i ∧ i ≤ l.length ∧ (List.range i).any (fun i => nullB X (l.take i) && hitB F t (l.getD i (false, 0))) = false ∧
      Below (w.heap.size + 1) (w.alloc (.cells #[.slice na X.length nc, .slice fa F.length fc, .slice ga gl gc] 65)) wr) (fun k _ => l.length - (intOf k).toNat)
  case atStart => exact ⟨0, rfl, Nat.zero_le _, rfl, Below.refl _ _⟩
  case round =>
    obtain ⟨i, rfl, hi, hn, hB⟩ := hrel
    have HA : Hid ((List.range i).any (fun i => nullB X (l.take i) && hitB F t (l.getD i (false, 0))) = false) := hn
    have hBw : Below w.heap.size w wr := ((Below.refl _ _).alloc (Nat.le_refl _) _).trans (hB.mono (by omega))
    have HB : Hid (Below w.heap.size w wr) := hBw
    have HB1 : Hid (Below (w.heap.size + 1) (w.alloc (.cells #[.slice na X.length nc, .slice fa F.length fc, .slice ga gl gc] 65)) wr) := hB
    have hsz := hB.size
    simp only [World.size_alloc] at hsz
    have b0 : wr.cell? ⟨w.heap.size, 0, none⟩ = some (.slice na X.length nc) := (hB.cell (by simp)).trans (by simp [go_sem])
    have b1 : wr.cell? ⟨w.heap.size, 1, none⟩ = some (.slice fa F.length fc) := (hB.cell (by simp)).trans (by simp [go_sem])
    have b2 : wr.cell? ⟨w.heap.size, 2, none⟩ = some (.slice ga gl gc) := (hB.cell (by simp)).trans (by simp [go_sem])
    clear hn hB hBw
    by_cases hlt : i < l.length
    · obtain ⟨b, o, c, hv, k1, k2⟩ := HL.out.2 i hlt
      simp only [Value.slice.injEq, true_and] at hv
      obtain ⟨rfl, rfl⟩ := hv
      have hmem : l.getD i (false, 0) ∈ l := by simp [List.getD, hlt]
      have hr := HI.out _ hmem
      have call := null2_any (w := wr.drew) (fa := fa) (fl := F.length) (fc := fc) (ga := ga) (gl := gl) (gc := gc) (HX.out.same (same_below HB.out.drew)) ((HL.out.take i (by omega)).same (same_below HB.out.drew))
        (fun s hs hf => HI.out s (List.mem_of_mem_take hs) hf) (by simp; omega)
      obtain ⟨⟨t', v⟩, hs⟩ : ∃ x, l.getD i (false, 0) = x := ⟨_, rfl⟩
      rw [hs] at k1 k2 hr
      have HS : Hid (l.getD i (false, 0) = (t', v)) := hs
      have j0 : (0 : Int) ≤ (i : Int) := Int.natCast_nonneg _
      have j1 : (i : Int) < (l.length : Int) := by omega
      have j2 : (i : Int) ≤ (lc : Int) := by omega
      have k1' := (HB.out.cell (p := ⟨b, o + i * 2, none⟩) (World.block_lt_of_cell? w _ k1)).trans k1
      have k2' := (HB.out.cell (p := ⟨b, o + i * 2 + 1, none⟩) (World.block_lt_of_cell? w _ k2)).trans k2
      have hbw := World.block_lt_of_cell? w _ k1
      simp only at hbw
      clear hmem hs k1 k2
      go_upto_region 4 with fail
      go_cut [19] from 8 to 55 (fun s19 wx => s19 = .bool (!nullB X (l.take i)) ∧ Below (w.heap.size + 1) wr wx)
      case first =>
        go_region_with (go_at_call 25; refine call.mono ?_; rintro e w2 ⟨rfl, hB2⟩)
        all_goals
          go_wp2_with fail
          go_meet
          case rel => exact ⟨rfl, (Below.refl _ _).drew.trans (hB2.mono (by simp; omega))⟩
      case rest =>
        obtain ⟨rfl, hC⟩ := hcut
        clear call
        have k3 := (hC.cell (p := ⟨b, o + i * 2, none⟩) (by simp; omega)).trans k1'
        have k4 := (hC.cell (p := ⟨b, o + i * 2 + 1, none⟩) (by simp; omega)).trans k2'
        have b3 := (hC.cell (p := ⟨w.heap.size, 1, none⟩) (by simp)).trans b1
        have HC : Hid (Below (w.heap.size + 1) (w.alloc (.cells #[.slice na X.length nc, .slice fa F.length fc, .slice ga gl gc] 65)) wc) := HB1.out.trans hC
        have HE : Hid (Below w.heap.size w wc) := HB.out.trans (hC.mono (by omega))
        clear hC k1' k2' b0 b1 b2
        cases hnb : nullB X (l.take i) with
        | false =>
          have HZ : Hid (begB X F t l = false) := begB_stop HA.out hnb
          clear hnb
          go_wp2_with fail
          go_ret
          exact ⟨by rw [HZ.out]; rfl, HE.out⟩
        | true =>
          have HNB : Hid (nullB X (l.take i) = true) := hnb
          clear hnb
          cases t' with
          | true =>
            by_cases hvt : v = (t : Int)
            · have e1 : (v == (t : Int)) = true := by simpa using hvt
              have HZ : Hid (begB X F t l = true) := begB_hit hlt HNB.out (by rw [HS.out]; simp [hitB, hvt])
              clear hvt
              go_wp2_with fail
              go_big_quiet (fail)
              go_wp2_with fail
              go_ret
              exact ⟨by rw [HZ.out]; rfl, below_drewN HE.out _⟩
            · have e1 : (v == (t : Int)) = false := by simpa using hvt
              have HZ : Hid ((List.range (i + 1)).any (fun i => nullB X (l.take i) && hitB F t (l.getD i (false, 0))) = false) := by
                show (List.range (i + 1)).any _ = false
                rw [any_range_succ, HA.out, HS.out]
                simp [hitB, hvt]
              clear hvt
              go_wp2_with fail
              go_big_quiet (fail)
              go_wp2_with fail
              go_roundw
              case rel => exact ⟨i + 1, by go_num, by omega, HZ.out, below_drewN HC.out _⟩
              case measure => simp [intOf]; omega
          | false =>
            have hr' : 0 ≤ v ∧ v < (X.length : Int) := hr rfl
            obtain ⟨y, rfl⟩ : ∃ y : Nat, v = y := ⟨v.toNat, by omega⟩
            have hyF : y < F.length := by rw [HXF.out]; omega
            obtain ⟨g, o2, c', rv, hv, k5, hrv⟩ := HF.out.2 y hyF
            simp only [Value.slice.injEq, true_and] at hv
            obtain ⟨rfl, rfl⟩ := hv
            obtain ⟨rg, ro, rc, hv, k6⟩ := hrv.2 t (HTT.out y hyF)
            have k5' := (HE.out.cell (p := ⟨g, o2 + y, none⟩) (World.block_lt_of_cell? w _ k5)).trans k5
            have k6' := (HE.out.cell (p := ⟨rg, ro + t, none⟩) (World.block_lt_of_cell? w _ k6)).trans k6
            rw [hv] at k5'
            have j3 : (0 : Int) ≤ (y : Int) := Int.natCast_nonneg _
            have j4 : (y : Int) < (F.length : Int) := by omega
            have j5 : (0 : Int) ≤ (t : Int) := Int.natCast_nonneg _
            have j6 : (t : Int) < ((F.getD y []).length : Int) := by have := HTT.out y hyF; omega
            obtain ⟨Fy, hFy⟩ : ∃ Fy, F.getD y [] = Fy := ⟨_, rfl⟩
            rw [hFy] at k5' k6' j6
            obtain ⟨z, hz⟩ : ∃ z, Fy.getD t false = z := ⟨_, rfl⟩
            rw [hz] at k6'
            have HH : Hid (hitB F t (l.getD i (false, 0)) = z) := by
              show hitB F t (l.getD i (false, 0)) = z
              rw [HS.out]
              simp only [hitB, Bool.false_eq_true, if_false, Int.toNat_natCast]
              rw [hFy, hz]
            clear hrv hv k5 k6 hr hr' hFy hz hyF
            cases z with
            | true =>
              have HZ : Hid (begB X F t l = true) := begB_hit hlt HNB.out HH.out
              go_wp2_with fail
              go_big_quiet (fail)
              go_wp2_with fail
              go_ret
              exact ⟨by rw [HZ.out]; rfl, below_drewN HE.out _⟩
            | false =>
              have HZ : Hid ((List.range (i + 1)).any (fun i => nullB X (l.take i) && hitB F t (l.getD i (false, 0))) = false) := by
                show (List.range (i + 1)).any _ = false
                rw [any_range_succ, HA.out, HH.out]
                simp
              go_wp2_with fail
              go_big_quiet (fail)
              go_wp2_with fail
              go_roundw
              case rel => exact ⟨i + 1, by go_num, by omega, HZ.out, below_drewN HC.out _⟩
              case measure => simp [intOf]; omega
    · go_wp2_with fail
      go_ret
      exact ⟨by
        have e : begB X F t l = false := by unfold begB; rw [show l.length = i by omega]; exact HA.out
        rw [e]; rfl, HB.out⟩

end Go.Proofs.Ytkkcmcckdaobmaa
