/- How a reader of package gram lies in memory while it reads, and that each of its steps keeps it so. No walk. -/
import Derived.Test.YtkmdbhajoabggaaMath
import Derived.WalkKit
import Derived.Deep.AppendLies
import Derived.Deep.Draws
import Derived.WalkSmall
namespace Go.Proofs.Ytkmdbhajoabggaa
open Go.RowKit

/-- The rules R lie in memory below block number lim, at the slice value rv. -/
def RulesAt (w : World) (lim : Nat) (rv : Value) (R : List Ru) : Prop :=
  (∃ ra rc, rv = .slice ra R.length rc) ∧
  ∀ q, q < R.length → ∃ b o rc qa qc, rv = .slice (some ⟨b, o, none⟩) R.length rc ∧ b < lim ∧
    w.cell? ⟨b, o + q * 2, none⟩ = some (.int .i64 (R.getD q (0, [])).1) ∧
    w.cell? ⟨b, o + (q * 2 + 1), none⟩ = some (.slice qa (R.getD q (0, [])).2.length qc) ∧
    ∀ j, j < (R.getD q (0, [])).2.length → ∃ b' o', qa = some ⟨b', o', none⟩ ∧ b' < lim ∧
      w.cell? ⟨b', o' + j * 2, none⟩ = some (.bool ((R.getD q (0, [])).2.getD j (false, 0)).1) ∧
      w.cell? ⟨b', o' + (j * 2 + 1), none⟩ = some (.int .i64 ((R.getD q (0, [])).2.getD j (false, 0)).2)

/-- The numbers D lie in memory below block number lim, at the slice value dv. -/
def ListAt (w : World) (lim : Nat) (dv : Value) (D : List Int) : Prop :=
  (∃ da dc, dv = .slice da D.length dc) ∧
  ∀ p, p < D.length → ∃ b o dc, dv = .slice (some ⟨b, o, none⟩) D.length dc ∧ b < lim ∧ w.cell? ⟨b, o + p, none⟩ = some (.int .i64 (D.getD p 0))

theorem RulesAt.below {B : Nat} {w w' : World} {rv : Value} {R : List Ru} (h : RulesAt w B rv R) (hb : Below B w w') : RulesAt w' B rv R := by
  refine ⟨h.1, fun q hq => ?_⟩
  obtain ⟨b, o, rc, qa, qc, h1, h2, h3, h4, h5⟩ := h.2 q hq
  refine ⟨b, o, rc, qa, qc, h1, h2, (hb.cell h2).trans h3, (hb.cell h2).trans h4, fun j hj => ?_⟩
  obtain ⟨b', o', k1, k2, k3, k4⟩ := h5 j hj
  exact ⟨b', o', k1, k2, (hb.cell k2).trans k3, (hb.cell k2).trans k4⟩

theorem ListAt.below {B : Nat} {w w' : World} {dv : Value} {D : List Int} (h : ListAt w B dv D) (hb : Below B w w') : ListAt w' B dv D := by
  refine ⟨h.1, fun p hp => ?_⟩
  obtain ⟨b, o, dc, h1, h2, h3⟩ := h.2 p hp
  exact ⟨b, o, dc, h1, h2, (hb.cell h2).trans h3⟩

theorem RulesAt.mono {B B' : Nat} {w : World} {rv : Value} {R : List Ru} (h : RulesAt w B rv R) (hb : B ≤ B') : RulesAt w B' rv R := by
  refine ⟨h.1, fun q hq => ?_⟩
  obtain ⟨b, o, rc, qa, qc, h1, h2, h3, h4, h5⟩ := h.2 q hq
  refine ⟨b, o, rc, qa, qc, h1, by omega, h3, h4, fun j hj => ?_⟩
  obtain ⟨b', o', k1, k2, k3, k4⟩ := h5 j hj
  exact ⟨b', o', k1, by omega, k3, k4⟩

theorem ListAt.mono {B B' : Nat} {w : World} {dv : Value} {D : List Int} (h : ListAt w B dv D) (hb : B ≤ B') : ListAt w B' dv D := by
  refine ⟨h.1, fun p hp => ?_⟩
  obtain ⟨b, o, dc, h1, h2, h3⟩ := h.2 p hp
  exact ⟨b, o, dc, h1, by omega, h3⟩

/-- A list of spans as cells. -/
def flat (S : List Sp) : List Value := S.flatMap fun t => [.int .i64 t.1, .int .i64 t.2.1, .int .i64 t.2.2]

theorem flat_length (S : List Sp) : (flat S).length = S.length * 3 := by
  unfold flat
  induction S with
  | nil => rfl
  | cons a r ih => simp only [List.flatMap_cons, List.length_append, List.length_cons, List.length_nil, ih]; omega

theorem flat_append (S T : List Sp) : flat (S ++ T) = flat S ++ flat T := by simp [flat]

theorem flat_get {S : List Sp} {i : Nat} {t : Sp} (h : S[i]? = some t) :
    (flat S)[i * 3]? = some (.int .i64 t.1) ∧ (flat S)[i * 3 + 1]? = some (.int .i64 t.2.1) ∧ (flat S)[i * 3 + 2]? = some (.int .i64 t.2.2) := by
  induction S generalizing i with
  | nil => simp at h
  | cons a r ih =>
    cases i with
    | zero =>
      simp only [List.getElem?_cons_zero, Option.some.injEq] at h
      subst h
      simp [flat]
    | succ i =>
      simp only [List.getElem?_cons_succ] at h
      obtain ⟨h1, h2, h3⟩ := ih h
      have e : flat (a :: r) = [.int .i64 a.1, .int .i64 a.2.1, .int .i64 a.2.2] ++ flat r := by simp [flat]
      rw [e]
      refine ⟨?_, ?_, ?_⟩
      · rw [List.getElem?_append_right (by simp; omega), ← h1]; congr 1; simp; omega
      · rw [List.getElem?_append_right (by simp; omega), ← h2]; congr 1; simp; omega
      · rw [List.getElem?_append_right (by simp; omega), ← h3]; congr 1; simp; omega

theorem flat_set {S : List Sp} {i : Nat} {t : Sp} (v : Nat) (h : S[i]? = some t) : (flat S).set (i * 3 + 2) (.int .i64 v) = flat (S.set i (t.1, t.2.1, v)) := by
  induction S generalizing i with
  | nil => simp at h
  | cons a r ih =>
    have e : ∀ a r, flat (a :: r) = [.int .i64 a.1, .int .i64 a.2.1, .int .i64 a.2.2] ++ flat r := fun a r => by simp [flat]
    cases i with
    | zero =>
      simp only [List.getElem?_cons_zero, Option.some.injEq] at h
      subst h
      simp [flat]
    | succ i =>
      simp only [List.getElem?_cons_succ] at h
      rw [List.set_cons_succ, e, e, List.set_append_right _ _ (by simp; omega), ← ih h]
      congr 2
      simp; omega

/-- A reader at block rb (its 'ok' at rb + 1), reading the rules rv and the list dv, has done st; nothing below B has turned since W. -/
structure Inv (W : World) (B rb : Nat) (tv nv rv dv : Value) (w : World) (st : St) (yv sv : Value) : Prop where
  below : Below B W w
  le : B ≤ rb
  lt : rb + 1 < w.heap.size
  c0 : w.cell? ⟨rb, 0, none⟩ = some tv
  c1 : w.cell? ⟨rb, 1, none⟩ = some nv
  c2 : w.cell? ⟨rb, 2, none⟩ = some rv
  c3 : w.cell? ⟨rb, 3, none⟩ = some dv
  c4 : w.cell? ⟨rb, 4, none⟩ = some (.int .i64 st.pos)
  c5 : w.cell? ⟨rb, 5, none⟩ = some yv
  c6 : w.cell? ⟨rb, 6, none⟩ = some sv
  fr : ∀ o, w.frozen? ⟨rb, o, none⟩ = false
  ok : w.cell? ⟨rb + 1, 0, none⟩ = some (.bool false)
  okf : w.frozen? ⟨rb + 1, 0, none⟩ = false
  ownY : w.ownsRow (rb + 2) 3 1 yv st.Y.length (st.Y.map (Value.int .i64))
  ownS : w.ownsRow (rb + 2) 35 3 sv st.S.length (flat st.S)
  apart : ∀ g, yv.ownBlock = some g → sv.ownBlock = some g → False

/-- What is left to be known of it when it has given up. -/
structure Weak (W : World) (B rb : Nat) (w : World) : Prop where
  below : Below B W w
  le : B ≤ rb
  lt : rb + 1 < w.heap.size
  cs : ∀ o, o < 7 → ∃ v, w.cell? ⟨rb, o, none⟩ = some v
  fr : ∀ o, w.frozen? ⟨rb, o, none⟩ = false
  ok : w.cell? ⟨rb + 1, 0, none⟩ = some (.bool false)
  okf : w.frozen? ⟨rb + 1, 0, none⟩ = false

section
variable {W : World} {B rb : Nat} {tv nv rv dv : Value} {w : World} {st : St} {yv sv : Value}

theorem Inv.weak (h : Inv W B rb tv nv rv dv w st yv sv) : Weak W B rb w :=
  ⟨h.below, h.le, h.lt, fun o ho => by
    match o, ho with
    | 0, _ => exact ⟨_, h.c0⟩
    | 1, _ => exact ⟨_, h.c1⟩
    | 2, _ => exact ⟨_, h.c2⟩
    | 3, _ => exact ⟨_, h.c3⟩
    | 4, _ => exact ⟨_, h.c4⟩
    | 5, _ => exact ⟨_, h.c5⟩
    | 6, _ => exact ⟨_, h.c6⟩, h.fr, h.ok, h.okf⟩

theorem Weak.drewN (h : Weak W B rb w) (m : Nat) : Weak W B rb (w.drewN m) :=
  ⟨below_drewN h.below m, h.le, h.lt, h.cs, h.fr, h.ok, h.okf⟩

theorem Inv.drewN (h : Inv W B rb tv nv rv dv w st yv sv) (m : Nat) : Inv W B rb tv nv rv dv (w.drewN m) st yv sv :=
  ⟨below_drewN h.below m, h.le, h.lt, h.c0, h.c1, h.c2, h.c3, h.c4, h.c5, h.c6, h.fr, h.ok, h.okf, h.ownY, h.ownS, h.apart⟩

theorem Inv.drew (h : Inv W B rb tv nv rv dv w st yv sv) : Inv W B rb tv nv rv dv w.drew st yv sv := h.drewN 1

theorem Inv.ltY (h : Inv W B rb tv nv rv dv w st yv sv) {g : Nat} (hg : yv.ownBlock = some g) : rb + 2 ≤ g ∧ g < w.heap.size := h.ownY.lt g hg
theorem Inv.ltS (h : Inv W B rb tv nv rv dv w st yv sv) {g : Nat} (hg : sv.ownBlock = some g) : rb + 2 ≤ g ∧ g < w.heap.size := h.ownS.lt g hg

/-- A step that writes to no block of the reader's. -/
theorem Inv.grown (h : Inv W B rb tv nv rv dv w st yv sv) {w' : World} {row : Option Nat} (hg : w.grownBy w' row) (hr : ∀ k, row = some k → rb + 2 ≤ k)
    (hy : yv.ownBlock = none ∨ yv.ownBlock ≠ row) (hs : sv.ownBlock = none ∨ sv.ownBlock ≠ row) : Inv W B rb tv nv rv dv w' st yv sv := by
  have hle := h.le
  have hlt := h.lt
  have hsz := hg.size
  have far : ∀ b o, b ≤ rb + 1 → w'.cell? ⟨b, o, none⟩ = w.cell? ⟨b, o, none⟩ ∧ w'.frozen? ⟨b, o, none⟩ = w.frozen? ⟨b, o, none⟩ := fun b o hb =>
    have hne : some b ≠ row := fun e => by have := hr b e.symm; omega
    ⟨hg.cell_far _ (by simp only; omega) hne, hg.frozen_far _ (by simp only; omega) hne⟩
  refine ⟨h.below.grown hg (by omega) (fun k hk => by have := hr k hk; omega), h.le, by omega, ?_, ?_, ?_, ?_, ?_, ?_, ?_, fun o => ?_, ?_, ?_, h.ownY.kept hg hy, h.ownS.kept hg hs, h.apart⟩
  · rw [(far rb _ (by omega)).1, h.c0]
  · rw [(far rb _ (by omega)).1, h.c1]
  · rw [(far rb _ (by omega)).1, h.c2]
  · rw [(far rb _ (by omega)).1, h.c3]
  · rw [(far rb _ (by omega)).1, h.c4]
  · rw [(far rb _ (by omega)).1, h.c5]
  · rw [(far rb _ (by omega)).1, h.c6]
  · rw [(far rb _ (by omega)).2, h.fr]
  · rw [(far _ _ (by omega)).1, h.ok]
  · rw [(far _ _ (by omega)).2, h.okf]

theorem Inv.alloc (h : Inv W B rb tv nv rv dv w st yv sv) (o : Obj) : Inv W B rb tv nv rv dv (w.alloc o) st yv sv :=
  h.grown (World.grownBy_alloc w o none) (fun _ e => by cases e) (by cases yv.ownBlock <;> simp) (by cases sv.ownBlock <;> simp)

theorem cell_set_other {w : World} {a c : Addr} {u : Value} (h : a.block ≠ c.block ∨ a.off ≠ c.off) : (w.setCell c u).cell? a = w.cell? a := by
  rw [World.cell?_setCell_other]
  intro e
  subst e
  rcases h with h | h <;> exact h rfl

/-- A number of the reader's own is written. -/
theorem Inv.setPos (h : Inv W B rb tv nv rv dv w st yv sv) (p : Nat) : Inv W B rb tv nv rv dv (w.setCell ⟨rb, 4, none⟩ (.int .i64 p)) { st with pos := p } yv sv := by
  have hne : ∀ o, o ≠ 4 → (w.setCell ⟨rb, 4, none⟩ (.int .i64 p)).cell? ⟨rb, o, none⟩ = w.cell? ⟨rb, o, none⟩ := fun o ho => cell_set_other (.inr ho)
  refine ⟨h.below.setCell h.le _, h.le, by simpa using h.lt, ?_, ?_, ?_, ?_, ?_, ?_, ?_, fun o => ?_, ?_, ?_, ownsRow_setCell_below h.ownY (by simp only; omega) _, ownsRow_setCell_below h.ownS (by simp only; omega) _, h.apart⟩
  · rw [hne _ (by omega), h.c0]
  · rw [hne _ (by omega), h.c1]
  · rw [hne _ (by omega), h.c2]
  · rw [hne _ (by omega), h.c3]
  · exact World.cell?_setCell_same _ _ _ h.c4
  · rw [hne _ (by omega), h.c5]
  · rw [hne _ (by omega), h.c6]
  · rw [World.frozen?_setCell]; exact h.fr o
  · rw [cell_set_other (.inl (by simp only; omega)), h.ok]
  · rw [World.frozen?_setCell]; exact h.okf

theorem Inv.far (h : Inv W B rb tv nv rv dv w st yv sv) {w' : World} {row : Option Nat} (hg : w.grownBy w' row) (hr : ∀ k, row = some k → rb + 2 ≤ k) (b o : Nat) (hb : b ≤ rb + 1) :
    w'.cell? ⟨b, o, none⟩ = w.cell? ⟨b, o, none⟩ ∧ w'.frozen? ⟨b, o, none⟩ = w.frozen? ⟨b, o, none⟩ :=
  have hlt := h.lt
  have hne : some b ≠ row := fun e => by have := hr b e.symm; omega
  ⟨hg.cell_far _ (by simp only; omega) hne, hg.frozen_far _ (by simp only; omega) hne⟩

/-- A number is appended to the yield, and the new slice is laid into the reader. -/
theorem Inv.pushY (h : Inv W B rb tv nv rv dv w st yv sv) {w1 : World} {g cap : Nat} {x : Int} (hg : w.grownBy w1 yv.ownBlock)
    (hown : w1.ownsRow (rb + 2) 3 1 (.slice (some ⟨g, 0, none⟩) (st.Y.length + 1) cap) (st.Y.length + 1) (st.Y.map (Value.int .i64) ++ [.int .i64 x]))
    (hat : yv.ownBlock = some g ∨ g = w.heap.size) :
    Inv W B rb tv nv rv dv (w1.setCell ⟨rb, 5, none⟩ (.slice (some ⟨g, 0, none⟩) (st.Y.length + 1) cap)) { st with Y := st.Y ++ [x] } (.slice (some ⟨g, 0, none⟩) (st.Y.length + 1) cap) sv := by
  have hr : ∀ k, yv.ownBlock = some k → rb + 2 ≤ k := fun k hk => (h.ltY hk).1
  have far := h.far hg hr
  have hle := h.le
  have hlt := h.lt
  have hsz := hg.size
  have hne : ∀ o u, o ≠ 5 → (w1.setCell ⟨rb, 5, none⟩ u).cell? ⟨rb, o, none⟩ = w.cell? ⟨rb, o, none⟩ := fun o u ho => (cell_set_other (.inr ho)).trans (far rb o (by omega)).1
  have hsk : sv.ownBlock = none ∨ sv.ownBlock ≠ yv.ownBlock := by
    cases e : sv.ownBlock with
    | none => exact .inl rfl
    | some k => exact .inr fun e' => h.apart k e'.symm e
  refine ⟨(h.below.grown hg (by omega) (fun k hk => by have := hr k hk; omega)).setCell h.le _, h.le, by simp; omega, ?_, ?_, ?_, ?_, ?_, ?_, ?_, fun o => ?_, ?_, ?_, ?_, ownsRow_setCell_below (h.ownS.kept hg hsk) (by simp only; omega) _, fun k h1 h2 => ?_⟩
  · rw [hne _ _ (by omega), h.c0]
  · rw [hne _ _ (by omega), h.c1]
  · rw [hne _ _ (by omega), h.c2]
  · rw [hne _ _ (by omega), h.c3]
  · rw [hne _ _ (by omega), h.c4]
  · exact World.cell?_setCell_same _ _ _ ((far rb 5 (by omega)).1.trans h.c5)
  · rw [hne _ _ (by omega), h.c6]
  · rw [World.frozen?_setCell, (far rb o (by omega)).2]; exact h.fr o
  · rw [cell_set_other (.inl (by simp only; omega)), (far _ _ (by omega)).1, h.ok]
  · rw [World.frozen?_setCell, (far _ _ (by omega)).2]; exact h.okf
  · simpa using ownsRow_setCell_below hown (a := ⟨rb, 5, none⟩) (by simp only; omega) _
  · simp only [Value.ownBlock, Option.some.injEq] at h1
    subst h1
    rcases hat with hat | hat
    · exact h.apart _ hat h2
    · have := (h.ltS h2).2; omega

/-- A span is appended, and the new slice is laid into the reader. -/
theorem Inv.pushS (h : Inv W B rb tv nv rv dv w st yv sv) {w1 : World} {g cap : Nat} {t : Sp} (hg : w.grownBy w1 sv.ownBlock)
    (hown : w1.ownsRow (rb + 2) 35 3 (.slice (some ⟨g, 0, none⟩) (st.S.length + 1) cap) (st.S.length + 1) (flat st.S ++ [.int .i64 t.1, .int .i64 t.2.1, .int .i64 t.2.2]))
    (hat : sv.ownBlock = some g ∨ g = w.heap.size) :
    Inv W B rb tv nv rv dv (w1.setCell ⟨rb, 6, none⟩ (.slice (some ⟨g, 0, none⟩) (st.S.length + 1) cap)) { st with S := st.S ++ [t] } yv (.slice (some ⟨g, 0, none⟩) (st.S.length + 1) cap) := by
  have hr : ∀ k, sv.ownBlock = some k → rb + 2 ≤ k := fun k hk => (h.ltS hk).1
  have far := h.far hg hr
  have hle := h.le
  have hlt := h.lt
  have hsz := hg.size
  have hne : ∀ o u, o ≠ 6 → (w1.setCell ⟨rb, 6, none⟩ u).cell? ⟨rb, o, none⟩ = w.cell? ⟨rb, o, none⟩ := fun o u ho => (cell_set_other (.inr ho)).trans (far rb o (by omega)).1
  have hyk : yv.ownBlock = none ∨ yv.ownBlock ≠ sv.ownBlock := by
    cases e : yv.ownBlock with
    | none => exact .inl rfl
    | some k => exact .inr fun e' => h.apart k e e'.symm
  refine ⟨(h.below.grown hg (by omega) (fun k hk => by have := hr k hk; omega)).setCell h.le _, h.le, by simp; omega, ?_, ?_, ?_, ?_, ?_, ?_, ?_, fun o => ?_, ?_, ?_, ownsRow_setCell_below (h.ownY.kept hg hyk) (by simp only; omega) _, ?_, fun k h1 h2 => ?_⟩
  · rw [hne _ _ (by omega), h.c0]
  · rw [hne _ _ (by omega), h.c1]
  · rw [hne _ _ (by omega), h.c2]
  · rw [hne _ _ (by omega), h.c3]
  · rw [hne _ _ (by omega), h.c4]
  · rw [hne _ _ (by omega), h.c5]
  · exact World.cell?_setCell_same _ _ _ ((far rb 6 (by omega)).1.trans h.c6)
  · rw [World.frozen?_setCell, (far rb o (by omega)).2]; exact h.fr o
  · rw [cell_set_other (.inl (by simp only; omega)), (far _ _ (by omega)).1, h.ok]
  · rw [World.frozen?_setCell, (far _ _ (by omega)).2]; exact h.okf
  · have := ownsRow_setCell_below hown (a := ⟨rb, 6, none⟩) (by simp only; omega) (.slice (some ⟨g, 0, none⟩) (st.S.length + 1) cap)
    rw [flat_append]
    simpa [flat] using this
  · simp only [Value.ownBlock, Option.some.injEq] at h2
    subst h2
    rcases hat with hat | hat
    · exact h.apart _ h1 hat
    · have := (h.ltY h1).2; omega

/-- Where a span ends is written. -/
theorem Inv.setTo {g n cap : Nat} (h : Inv W B rb tv nv rv dv w st yv (.slice (some ⟨g, 0, none⟩) n cap)) {i v : Nat} {t : Sp} (ht : st.S[i]? = some t) :
    Inv W B rb tv nv rv dv (w.setCell ⟨g, i * 3 + 2, none⟩ (.int .i64 v)) { st with S := st.S.set i (t.1, t.2.1, v) } yv (.slice (some ⟨g, 0, none⟩) n cap) := by
  have hn : n = st.S.length := by
    rcases h.ownS.2 with ⟨h', _⟩ | ⟨_, _, _, h', _⟩
    · cases h'
    · simp only [Value.slice.injEq] at h'; exact h'.2.1
  subst hn
  have hgr := (h.ltS (g := g) rfl).1
  obtain ⟨hown, hg⟩ := h.ownS.stored (i * 3 + 2) (.int .i64 v)
  have hr : ∀ k, (some g : Option Nat) = some k → rb + 2 ≤ k := fun k hk => by cases hk; exact hgr
  have far := h.far hg hr
  have hle := h.le
  have hlt := h.lt
  have hyk : yv.ownBlock = none ∨ yv.ownBlock ≠ some g := by
    cases e : yv.ownBlock with
    | none => exact .inl rfl
    | some k => exact .inr fun e' => h.apart k e e'.symm
  refine ⟨h.below.grown hg (by omega) (fun k hk => by have := hr k hk; omega), h.le, by simpa using h.lt, ?_, ?_, ?_, ?_, ?_, ?_, ?_, fun o => ?_, ?_, ?_, h.ownY.kept hg hyk, ?_, h.apart⟩
  · rw [(far rb _ (by omega)).1, h.c0]
  · rw [(far rb _ (by omega)).1, h.c1]
  · rw [(far rb _ (by omega)).1, h.c2]
  · rw [(far rb _ (by omega)).1, h.c3]
  · rw [(far rb _ (by omega)).1, h.c4]
  · rw [(far rb _ (by omega)).1, h.c5]
  · rw [(far rb _ (by omega)).1, h.c6]
  · rw [(far rb _ (by omega)).2, h.fr]
  · rw [(far _ _ (by omega)).1, h.ok]
  · rw [(far _ _ (by omega)).2, h.okf]
  · rw [flat_set v ht] at hown
    simpa using hown
end

end Go.Proofs.Ytkmdbhajoabggaa
