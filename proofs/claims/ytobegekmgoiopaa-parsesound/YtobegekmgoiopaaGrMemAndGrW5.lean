import Derived.Test.YtobegekmgoiopaaMathAndBits
import Derived.WalkKit
import Derived.Deep.AppendLies
import Derived.Deep.Draws
import Derived.WalkSmall
import Derived.Test.YtobegekmgoiopaaChartLookAndGrW1
import Derived.Deep.RegionHeld3
import Derived.Deep.RegionLaw
import Derived.Deep.Cut
import Derived.Deep.CutRange
import Derived.Deep.DrawnRows
import Derived.StillTactics
import Derived.OwnWalk
import Derived.Laws.Pointers
import Derived.Defers
import Derived.Recover
/- How a reader of the program's package gram lies in memory while it reads, and that each of its steps keeps it so. No walk. -/
namespace Go.Proofs.Ytobegekmgoiopaa
open Go.RowKit

/-- A list of spans as cells. -/
def flatG (S : List Sp) : List Value := S.flatMap fun t => [.int .i64 t.1, .int .i64 t.2.1, .int .i64 t.2.2]

theorem flatG_append (S T : List Sp) : flatG (S ++ T) = flatG S ++ flatG T := by simp [flatG]

theorem flatG_get {S : List Sp} {i : Nat} {t : Sp} (h : S[i]? = some t) :
    (flatG S)[i * 3]? = some (.int .i64 t.1) ∧ (flatG S)[i * 3 + 1]? = some (.int .i64 t.2.1) ∧ (flatG S)[i * 3 + 2]? = some (.int .i64 t.2.2) := by
  induction S generalizing i with
  | nil => simp at h
  | cons a r ih =>
    cases i with
    | zero =>
      simp only [List.getElem?_cons_zero, Option.some.injEq] at h
      subst h
      simp [flatG]
    | succ i =>
      simp only [List.getElem?_cons_succ] at h
      obtain ⟨h1, h2, h3⟩ := ih h
      have e : flatG (a :: r) = [.int .i64 a.1, .int .i64 a.2.1, .int .i64 a.2.2] ++ flatG r := by simp [flatG]
      rw [e]
      refine ⟨?_, ?_, ?_⟩
      · rw [List.getElem?_append_right (by simp; omega), ← h1]; congr 1; simp; omega
      · rw [List.getElem?_append_right (by simp; omega), ← h2]; congr 1; simp; omega
      · rw [List.getElem?_append_right (by simp; omega), ← h3]; congr 1; simp; omega

theorem flatG_set {S : List Sp} {i : Nat} {t : Sp} (v : Nat) (h : S[i]? = some t) : (flatG S).set (i * 3 + 2) (.int .i64 v) = flatG (S.set i (t.1, t.2.1, v)) := by
  induction S generalizing i with
  | nil => simp at h
  | cons a r ih =>
    have e : ∀ a r, flatG (a :: r) = [.int .i64 a.1, .int .i64 a.2.1, .int .i64 a.2.2] ++ flatG r := fun a r => by simp [flatG]
    cases i with
    | zero =>
      simp only [List.getElem?_cons_zero, Option.some.injEq] at h
      subst h
      simp [flatG]
    | succ i =>
      simp only [List.getElem?_cons_succ] at h
      rw [List.set_cons_succ, e, e, List.set_append_right _ _ (by simp; omega), ← ih h]
      congr 2
      simp; omega

/-- A reader at block rb (its 'ok' at rb + 1), reading the rules rv and the list dv, has done st; nothing below B has turned since W. -/
structure Inv (W : World) (B rb : Nat) (tv nv rv dv : Value) (w : World) (st : St) (yv sv : Value) : Prop where
  below : Below B W w
  le : B ≤ rb
  lt : rb + 1 < w.heap.size
  c0 : w.cell? ⟨rb, 0, none⟩ = some tv
  c1 : w.cell? ⟨rb, 1, none⟩ = some nv
  c2 : w.cell? ⟨rb, 2, none⟩ = some rv
  c3 : w.cell? ⟨rb, 3, none⟩ = some dv
  c4 : w.cell? ⟨rb, 4, none⟩ = some (.int .i64 st.pos)
  c5 : w.cell? ⟨rb, 5, none⟩ = some yv
  c6 : w.cell? ⟨rb, 6, none⟩ = some sv
  fr : ∀ o, w.frozen? ⟨rb, o, none⟩ = false
  ok : w.cell? ⟨rb + 1, 0, none⟩ = some (.bool false)
  okf : w.frozen? ⟨rb + 1, 0, none⟩ = false
  ownY : w.ownsRow (rb + 2) 3 1 yv st.Y.length (st.Y.map (Value.int .i64))
  ownS : w.ownsRow (rb + 2) 111 3 sv st.S.length (flatG st.S)
  apart : ∀ g, yv.ownBlock = some g → sv.ownBlock = some g → False

/-- What is left to be known of it when it has given up. -/
structure Weak (W : World) (B rb : Nat) (w : World) : Prop where
  below : Below B W w
  le : B ≤ rb
  lt : rb + 1 < w.heap.size
  cs : ∀ o, o < 7 → ∃ v, w.cell? ⟨rb, o, none⟩ = some v
  fr : ∀ o, w.frozen? ⟨rb, o, none⟩ = false
  ok : w.cell? ⟨rb + 1, 0, none⟩ = some (.bool false)
  okf : w.frozen? ⟨rb + 1, 0, none⟩ = false

section
variable {W : World} {B rb : Nat} {tv nv rv dv : Value} {w : World} {st : St} {yv sv : Value}

theorem Inv.weak (h : Inv W B rb tv nv rv dv w st yv sv) : Weak W B rb w :=
  ⟨h.below, h.le, h.lt, fun o ho => by
    match o, ho with
    | 0, _ => exact ⟨_, h.c0⟩
    | 1, _ => exact ⟨_, h.c1⟩
    | 2, _ => exact ⟨_, h.c2⟩
    | 3, _ => exact ⟨_, h.c3⟩
    | 4, _ => exact ⟨_, h.c4⟩
    | 5, _ => exact ⟨_, h.c5⟩
    | 6, _ => exact ⟨_, h.c6⟩, h.fr, h.ok, h.okf⟩

theorem Weak.drewN (h : Weak W B rb w) (m : Nat) : Weak W B rb (w.drewN m) :=
  ⟨below_drewN h.below m, h.le, h.lt, h.cs, h.fr, h.ok, h.okf⟩

theorem Inv.drewN (h : Inv W B rb tv nv rv dv w st yv sv) (m : Nat) : Inv W B rb tv nv rv dv (w.drewN m) st yv sv :=
  ⟨below_drewN h.below m, h.le, h.lt, h.c0, h.c1, h.c2, h.c3, h.c4, h.c5, h.c6, h.fr, h.ok, h.okf, h.ownY, h.ownS, h.apart⟩

theorem Inv.drew (h : Inv W B rb tv nv rv dv w st yv sv) : Inv W B rb tv nv rv dv w.drew st yv sv := h.drewN 1

theorem Inv.ltY (h : Inv W B rb tv nv rv dv w st yv sv) {g : Nat} (hg : yv.ownBlock = some g) : rb + 2 ≤ g ∧ g < w.heap.size := h.ownY.lt g hg
theorem Inv.ltS (h : Inv W B rb tv nv rv dv w st yv sv) {g : Nat} (hg : sv.ownBlock = some g) : rb + 2 ≤ g ∧ g < w.heap.size := h.ownS.lt g hg

/-- A step that writes to no block of the reader's. -/
theorem Inv.grown (h : Inv W B rb tv nv rv dv w st yv sv) {w' : World} {row : Option Nat} (hg : w.grownBy w' row) (hr : ∀ k, row = some k → rb + 2 ≤ k)
    (hy : yv.ownBlock = none ∨ yv.ownBlock ≠ row) (hs : sv.ownBlock = none ∨ sv.ownBlock ≠ row) : Inv W B rb tv nv rv dv w' st yv sv := by
  have hle := h.le
  have hlt := h.lt
  have hsz := hg.size
  have far : ∀ b o, b ≤ rb + 1 → w'.cell? ⟨b, o, none⟩ = w.cell? ⟨b, o, none⟩ ∧ w'.frozen? ⟨b, o, none⟩ = w.frozen? ⟨b, o, none⟩ := fun b o hb =>
    have hne : some b ≠ row := fun e => by have := hr b e.symm; omega
    ⟨hg.cell_far _ (by simp only; omega) hne, hg.frozen_far _ (by simp only; omega) hne⟩
  refine ⟨h.below.grown hg (by omega) (fun k hk => by have := hr k hk; omega), h.le, by omega, ?_, ?_, ?_, ?_, ?_, ?_, ?_, fun o => ?_, ?_, ?_, h.ownY.kept hg hy, h.ownS.kept hg hs, h.apart⟩
  · rw [(far rb _ (by omega)).1, h.c0]
  · rw [(far rb _ (by omega)).1, h.c1]
  · rw [(far rb _ (by omega)).1, h.c2]
  · rw [(far rb _ (by omega)).1, h.c3]
  · rw [(far rb _ (by omega)).1, h.c4]
  · rw [(far rb _ (by omega)).1, h.c5]
  · rw [(far rb _ (by omega)).1, h.c6]
  · rw [(far rb _ (by omega)).2, h.fr]
  · rw [(far _ _ (by omega)).1, h.ok]
  · rw [(far _ _ (by omega)).2, h.okf]

theorem Inv.alloc (h : Inv W B rb tv nv rv dv w st yv sv) (o : Obj) : Inv W B rb tv nv rv dv (w.alloc o) st yv sv :=
  h.grown (World.grownBy_alloc w o none) (fun _ e => by cases e) (by cases yv.ownBlock <;> simp) (by cases sv.ownBlock <;> simp)

/-- A number of the reader's own is written. -/
theorem Inv.setPos (h : Inv W B rb tv nv rv dv w st yv sv) (p : Nat) : Inv W B rb tv nv rv dv (w.setCell ⟨rb, 4, none⟩ (.int .i64 p)) { st with pos := p } yv sv := by
  have hne : ∀ o, o ≠ 4 → (w.setCell ⟨rb, 4, none⟩ (.int .i64 p)).cell? ⟨rb, o, none⟩ = w.cell? ⟨rb, o, none⟩ := fun o ho => cell_set_other (.inr ho)
  refine ⟨h.below.setCell h.le _, h.le, by simpa using h.lt, ?_, ?_, ?_, ?_, ?_, ?_, ?_, fun o => ?_, ?_, ?_, ownsRow_setCell_below h.ownY (by simp only; omega) _, ownsRow_setCell_below h.ownS (by simp only; omega) _, h.apart⟩
  · rw [hne _ (by omega), h.c0]
  · rw [hne _ (by omega), h.c1]
  · rw [hne _ (by omega), h.c2]
  · rw [hne _ (by omega), h.c3]
  · exact World.cell?_setCell_same _ _ _ h.c4
  · rw [hne _ (by omega), h.c5]
  · rw [hne _ (by omega), h.c6]
  · rw [World.frozen?_setCell]; exact h.fr o
  · rw [cell_set_other (.inl (by simp only; omega)), h.ok]
  · rw [World.frozen?_setCell]; exact h.okf

theorem Inv.far (h : Inv W B rb tv nv rv dv w st yv sv) {w' : World} {row : Option Nat} (hg : w.grownBy w' row) (hr : ∀ k, row = some k → rb + 2 ≤ k) (b o : Nat) (hb : b ≤ rb + 1) :
    w'.cell? ⟨b, o, none⟩ = w.cell? ⟨b, o, none⟩ ∧ w'.frozen? ⟨b, o, none⟩ = w.frozen? ⟨b, o, none⟩ :=
  have hlt := h.lt
  have hne : some b ≠ row := fun e => by have := hr b e.symm; omega
  ⟨hg.cell_far _ (by simp only; omega) hne, hg.frozen_far _ (by simp only; omega) hne⟩

/-- A number is appended to the yield, and the new slice is laid into the reader. -/
theorem Inv.pushY (h : Inv W B rb tv nv rv dv w st yv sv) {w1 : World} {g cap : Nat} {x : Int} (hg : w.grownBy w1 yv.ownBlock)
    (hown : w1.ownsRow (rb + 2) 3 1 (.slice (some ⟨g, 0, none⟩) (st.Y.length + 1) cap) (st.Y.length + 1) (st.Y.map (Value.int .i64) ++ [.int .i64 x]))
    (hat : yv.ownBlock = some g ∨ g = w.heap.size) :
    Inv W B rb tv nv rv dv (w1.setCell ⟨rb, 5, none⟩ (.slice (some ⟨g, 0, none⟩) (st.Y.length + 1) cap)) { st with Y := st.Y ++ [x] } (.slice (some ⟨g, 0, none⟩) (st.Y.length + 1) cap) sv := by
  have hr : ∀ k, yv.ownBlock = some k → rb + 2 ≤ k := fun k hk => (h.ltY hk).1
  have far := h.far hg hr
  have hle := h.le
  have hlt := h.lt
  have hsz := hg.size
  have hne : ∀ o u, o ≠ 5 → (w1.setCell ⟨rb, 5, none⟩ u).cell? ⟨rb, o, none⟩ = w.cell? ⟨rb, o, none⟩ := fun o u ho => (cell_set_other (.inr ho)).trans (far rb o (by omega)).1
  have hsk : sv.ownBlock = none ∨ sv.ownBlock ≠ yv.ownBlock := by
    cases e : sv.ownBlock with
    | none => exact .inl rfl
    | some k => exact .inr fun e' => h.apart k e'.symm e
  refine ⟨(h.below.grown hg (by omega) (fun k hk => by have := hr k hk; omega)).setCell h.le _, h.le, by simp; omega, ?_, ?_, ?_, ?_, ?_, ?_, ?_, fun o => ?_, ?_, ?_, ?_, ownsRow_setCell_below (h.ownS.kept hg hsk) (by simp only; omega) _, fun k h1 h2 => ?_⟩
  · rw [hne _ _ (by omega), h.c0]
  · rw [hne _ _ (by omega), h.c1]
  · rw [hne _ _ (by omega), h.c2]
  · rw [hne _ _ (by omega), h.c3]
  · rw [hne _ _ (by omega), h.c4]
  · exact World.cell?_setCell_same _ _ _ ((far rb 5 (by omega)).1.trans h.c5)
  · rw [hne _ _ (by omega), h.c6]
  · rw [World.frozen?_setCell, (far rb o (by omega)).2]; exact h.fr o
  · rw [cell_set_other (.inl (by simp only; omega)), (far _ _ (by omega)).1, h.ok]
  · rw [World.frozen?_setCell, (far _ _ (by omega)).2]; exact h.okf
  · simpa using ownsRow_setCell_below hown (a := ⟨rb, 5, none⟩) (by simp only; omega) _
  · simp only [Value.ownBlock, Option.some.injEq] at h1
    subst h1
    rcases hat with hat | hat
    · exact h.apart _ hat h2
    · have := (h.ltS h2).2; omega

/-- A span is appended, and the new slice is laid into the reader. -/
theorem Inv.pushS (h : Inv W B rb tv nv rv dv w st yv sv) {w1 : World} {g cap : Nat} {t : Sp} (hg : w.grownBy w1 sv.ownBlock)
    (hown : w1.ownsRow (rb + 2) 111 3 (.slice (some ⟨g, 0, none⟩) (st.S.length + 1) cap) (st.S.length + 1) (flatG st.S ++ [.int .i64 t.1, .int .i64 t.2.1, .int .i64 t.2.2]))
    (hat : sv.ownBlock = some g ∨ g = w.heap.size) :
    Inv W B rb tv nv rv dv (w1.setCell ⟨rb, 6, none⟩ (.slice (some ⟨g, 0, none⟩) (st.S.length + 1) cap)) { st with S := st.S ++ [t] } yv (.slice (some ⟨g, 0, none⟩) (st.S.length + 1) cap) := by
  have hr : ∀ k, sv.ownBlock = some k → rb + 2 ≤ k := fun k hk => (h.ltS hk).1
  have far := h.far hg hr
  have hle := h.le
  have hlt := h.lt
  have hsz := hg.size
  have hne : ∀ o u, o ≠ 6 → (w1.setCell ⟨rb, 6, none⟩ u).cell? ⟨rb, o, none⟩ = w.cell? ⟨rb, o, none⟩ := fun o u ho => (cell_set_other (.inr ho)).trans (far rb o (by omega)).1
  have hyk : yv.ownBlock = none ∨ yv.ownBlock ≠ sv.ownBlock := by
    cases e : yv.ownBlock with
    | none => exact .inl rfl
    | some k => exact .inr fun e' => h.apart k e e'.symm
  refine ⟨(h.below.grown hg (by omega) (fun k hk => by have := hr k hk; omega)).setCell h.le _, h.le, by simp; omega, ?_, ?_, ?_, ?_, ?_, ?_, ?_, fun o => ?_, ?_, ?_, ownsRow_setCell_below (h.ownY.kept hg hyk) (by simp only; omega) _, ?_, fun k h1 h2 => ?_⟩
  · rw [hne _ _ (by omega), h.c0]
  · rw [hne _ _ (by omega), h.c1]
  · rw [hne _ _ (by omega), h.c2]
  · rw [hne _ _ (by omega), h.c3]
  · rw [hne _ _ (by omega), h.c4]
  · rw [hne _ _ (by omega), h.c5]
  · exact World.cell?_setCell_same _ _ _ ((far rb 6 (by omega)).1.trans h.c6)
  · rw [World.frozen?_setCell, (far rb o (by omega)).2]; exact h.fr o
  · rw [cell_set_other (.inl (by simp only; omega)), (far _ _ (by omega)).1, h.ok]
  · rw [World.frozen?_setCell, (far _ _ (by omega)).2]; exact h.okf
  · have := ownsRow_setCell_below hown (a := ⟨rb, 6, none⟩) (by simp only; omega) (.slice (some ⟨g, 0, none⟩) (st.S.length + 1) cap)
    rw [flatG_append]
    simpa [flatG] using this
  · simp only [Value.ownBlock, Option.some.injEq] at h2
    subst h2
    rcases hat with hat | hat
    · exact h.apart _ h1 hat
    · have := (h.ltY h1).2; omega

/-- Where a span ends is written. -/
theorem Inv.setTo {g n cap : Nat} (h : Inv W B rb tv nv rv dv w st yv (.slice (some ⟨g, 0, none⟩) n cap)) {i v : Nat} {t : Sp} (ht : st.S[i]? = some t) :
    Inv W B rb tv nv rv dv (w.setCell ⟨g, i * 3 + 2, none⟩ (.int .i64 v)) { st with S := st.S.set i (t.1, t.2.1, v) } yv (.slice (some ⟨g, 0, none⟩) n cap) := by
  have hn : n = st.S.length := by
    rcases h.ownS.2 with ⟨h', _⟩ | ⟨_, _, _, h', _⟩
    · cases h'
    · simp only [Value.slice.injEq] at h'; exact h'.2.1
  subst hn
  have hgr := (h.ltS (g := g) rfl).1
  obtain ⟨hown, hg⟩ := h.ownS.stored (i * 3 + 2) (.int .i64 v)
  have hr : ∀ k, (some g : Option Nat) = some k → rb + 2 ≤ k := fun k hk => by cases hk; exact hgr
  have far := h.far hg hr
  have hle := h.le
  have hlt := h.lt
  have hyk : yv.ownBlock = none ∨ yv.ownBlock ≠ some g := by
    cases e : yv.ownBlock with
    | none => exact .inl rfl
    | some k => exact .inr fun e' => h.apart k e e'.symm
  refine ⟨h.below.grown hg (by omega) (fun k hk => by have := hr k hk; omega), h.le, by simpa using h.lt, ?_, ?_, ?_, ?_, ?_, ?_, ?_, fun o => ?_, ?_, ?_, h.ownY.kept hg hyk, ?_, h.apart⟩
  · rw [(far rb _ (by omega)).1, h.c0]
  · rw [(far rb _ (by omega)).1, h.c1]
  · rw [(far rb _ (by omega)).1, h.c2]
  · rw [(far rb _ (by omega)).1, h.c3]
  · rw [(far rb _ (by omega)).1, h.c4]
  · rw [(far rb _ (by omega)).1, h.c5]
  · rw [(far rb _ (by omega)).1, h.c6]
  · rw [(far rb _ (by omega)).2, h.fr]
  · rw [(far _ _ (by omega)).1, h.ok]
  · rw [(far _ _ (by omega)).2, h.okf]
  · rw [flatG_set v ht] at hown
    simpa using hown
end

end Go.Proofs.Ytobegekmgoiopaa

/- The contract of next, over a reader that lies in memory as Inv says. -/
namespace Go.Proofs.Ytobegekmgoiopaa
open Go.RowKit

theorem next_inv {W : World} {B rb : Nat} {tv nv rv dv : Value} {w : World} {st : St} {yv sv : Value} {R : List Ru} {D : List Int} (n : Int)
    (h : Inv W B rb tv nv rv dv w st yv sv) (hr : RulesAt W B rv R) (hd : ListAt W B dv D) (hD : D.length ≤ 400) :
    Calls Try.prog 43 #[.pointer (some ⟨rb, 0, none⟩), .int .i64 n] w fun e w' =>
      (∃ q, nextF R D n st.pos = some q ∧ e = .returned (.int .i64 q) ∧ Inv W B rb tv nv rv dv w' { st with pos := st.pos + 1 } yv sv) ∨
      (nextF R D n st.pos = none ∧ e = .panicked gaveUp ∧ Weak W B rb w') := by
  have hr' := hr.below h.below
  have hd' := hd.below h.below
  by_cases hp : st.pos < D.length
  · obtain ⟨b, o, dc, rfl, hb, hc⟩ := hd'.2 _ hp
    obtain ⟨x, hx⟩ : ∃ x, D[st.pos]? = some x := ⟨D[st.pos], by simp [hp]⟩
    rw [getD_of_some hx] at hc
    by_cases hq : 0 ≤ x ∧ x < R.length
    · obtain ⟨q, rfl⟩ : ∃ q : Nat, x = q := ⟨x.toNat, by omega⟩
      have hq' : q < R.length := by omega
      obtain ⟨b2, o2, rc, qa, qc, rfl, hb2, k1, _, _, _⟩ := hr'.2 q hq'
      by_cases hn : (R.getD q (0, [])).1 = n
      · rw [hn] at k1
        refine (next_ok rb b o dc R.length rc b2 o2 st.pos q D.length n w h.c2 h.c3 h.c4 (h.fr 4) hp (by unfold maxLen; omega) hc hq' k1).mono ?_
        rintro e w' ⟨rfl, m, rfl⟩
        refine .inl ⟨q, by simp only [nextF, hx]; rw [if_pos hq]; simp only [Int.toNat_natCast]; rw [if_pos hn], rfl, ?_⟩
        have := (h.drewN m).setPos (st.pos + 1)
        simpa using this
      · refine (next_other rb b o dc R.length rc b2 o2 st.pos q D.length _ n w h.c2 h.c3 h.c4 hp hc hq' k1 hn).mono ?_
        rintro e w' ⟨rfl, m, rfl⟩
        exact .inr ⟨by simp only [nextF, hx]; rw [if_pos hq]; simp only [Int.toNat_natCast]; rw [if_neg hn], rfl, h.weak.drewN m⟩
    · obtain ⟨ra, rc, rfl⟩ := hr'.1
      refine (next_out rb b o dc R.length rc st.pos ra x D.length n w h.c2 h.c3 h.c4 hp hc hq).mono ?_
      rintro e w' ⟨rfl, m, rfl⟩
      exact .inr ⟨by simp only [nextF, hx]; rw [if_neg hq], rfl, h.weak.drewN m⟩
  · obtain ⟨da, dc, rfl⟩ := hd'.1
    refine (next_end rb D.length dc st.pos da n w h.c3 h.c4 (by omega)).mono ?_
    rintro e w' ⟨rfl, m, rfl⟩
    exact .inr ⟨by simp [nextF, List.getElem?_eq_none (show D.length ≤ st.pos by omega)], rfl, h.weak.drewN m⟩

theorem next_some {W : World} {B rb : Nat} {tv nv rv dv : Value} {w : World} {st : St} {yv sv : Value} {R : List Ru} {D : List Int} {n : Int} {q : Nat}
    (h : Inv W B rb tv nv rv dv w st yv sv) (hr : RulesAt W B rv R) (hd : ListAt W B dv D) (hD : D.length ≤ 400) (hq : nextF R D n st.pos = some q) :
    Calls Try.prog 43 #[.pointer (some ⟨rb, 0, none⟩), .int .i64 n] w fun e w' => e = .returned (.int .i64 q) ∧ Inv W B rb tv nv rv dv w' { st with pos := st.pos + 1 } yv sv := by
  refine (next_inv n h hr hd hD).mono ?_
  rintro e w' (⟨q', hq', rfl, hI⟩ | ⟨hq', _⟩)
  · rw [hq] at hq'
    cases hq'
    exact ⟨rfl, hI⟩
  · rw [hq] at hq'
    cases hq'

theorem next_none {W : World} {B rb : Nat} {tv nv rv dv : Value} {w : World} {st : St} {yv sv : Value} {R : List Ru} {D : List Int} {n : Int}
    (h : Inv W B rb tv nv rv dv w st yv sv) (hr : RulesAt W B rv R) (hd : ListAt W B dv D) (hD : D.length ≤ 400) (hq : nextF R D n st.pos = none) :
    Calls Try.prog 43 #[.pointer (some ⟨rb, 0, none⟩), .int .i64 n] w fun e w' => e = .panicked gaveUp ∧ Weak W B rb w' := by
  refine (next_inv n h hr hd hD).mono ?_
  rintro e w' (⟨q', hq', _⟩ | ⟨_, rfl, hW⟩)
  · rw [hq] at hq'
    cases hq'
  · exact ⟨rfl, hW⟩

end Go.Proofs.Ytobegekmgoiopaa

/- The contract of name, which calls itself. -/
namespace Go.Proofs.Ytobegekmgoiopaa
open Go.RowKit
attribute [local go_sem ↓] Go.wp_at_zero Go.wp_at_succ

theorem Try.infoGrSp : (Try.prog.info? 111).map (fun i => (i.zero, i.size, i.bytes)) = some (some (.agg #[.int .i64 0, .int .i64 0, .int .i64 0]), 3, 24) := by kernel_rfl
theorem Try.infoGrI : (Try.prog.info? 3).map (fun i => (i.zero, i.size, i.bytes)) = some (some (.int .i64 0), 1, 8) := by kernel_rfl

/-- What the numbers must meet. -/
structure GrFits (D : List Int) (M : Nat) (st : St) (more : Nat) : Prop where
  pos : st.pos ≤ D.length
  len : st.S.length ≤ st.pos
  pot : st.Y.length + more + (D.length - st.pos) * M ≤ 1099511627776

theorem GrFits.grew {D : List Int} {M : Nat} {st st' : St} {more : Nat} (h : GrFits D M st more) (g : Grew D M st st' 0) : GrFits D M st' more := by
  obtain ⟨T, h1, h2, _⟩ := g.seg
  have := g.pot h.pos
  have := h.pot
  have := h.len
  have := g.pos
  refine ⟨g.top h.pos, by rw [h1, List.length_append]; omega, by omega⟩

theorem GrFits.push {D : List Int} {M : Nat} {st : St} {more : Nat} (h : GrFits D M st (more + 1)) (x : Int) : GrFits D M { st with Y := st.Y ++ [x] } more := by
  have := h.pot
  exact ⟨h.pos, h.len, by simp only [List.length_append, List.length_cons, List.length_nil]; omega⟩

theorem GrFits.next {D : List Int} {M : Nat} {st : St} (h : GrFits D M st 0) (hp : st.pos < D.length) {m : Nat} (hm : m ≤ M) (t : Sp) : GrFits D M { pos := st.pos + 1, Y := st.Y, S := st.S ++ [t] } m := by
  have := h.len
  have e : D.length - st.pos = (D.length - (st.pos + 1)) + 1 := by omega
  refine ⟨by simp only; omega, by simp only [List.length_append, List.length_cons, List.length_nil]; omega, ?_⟩
  have h1 := h.pot
  rw [e, Nat.add_mul, Nat.one_mul] at h1
  simp only
  omega

theorem GrFits.less {D : List Int} {M : Nat} {st : St} {a b : Nat} (h : GrFits D M st a) (hb : b ≤ a) : GrFits D M st b := by
  have := h.pot
  exact ⟨h.pos, h.len, by omega⟩

set_option maxRecDepth 100000 in
set_option maxHeartbeats 3200000 in
theorem name_any {W : World} {B rb : Nat} {tv nv rv dv : Value} {R : List Ru} {D : List Int} {M : Nat}
    (hr : RulesAt W B rv R) (hd : ListAt W B dv D) (hD : D.length ≤ 400) (hM : ∀ q, (R.getD q (0, [])).2.length ≤ M) (hM' : M ≤ 2147483648) : ∀ (k : Nat) (n : Int) (st : St) (w : World) (yv sv : Value),
    Inv W B rb tv nv rv dv w st yv sv → D.length - st.pos ≤ k → GrFits D M st 0 →
    Calls Try.prog 28 #[.pointer (some ⟨rb, 0, none⟩), .int .i64 n] w fun e w' =>
      (∃ st' yv' sv', nameF R D k n st = some st' ∧ e = .returned (.tuple #[]) ∧ Inv W B rb tv nv rv dv w' st' yv' sv') ∨
      (nameF R D k n st = none ∧ e = .panicked gaveUp ∧ Weak W B rb w') := by
  intro k
  induction k with
  | zero =>
    intro n st w yv sv hI hk hF
    have hp := hF.pos
    have hq : nextF R D n st.pos = none := by simp [nextF, List.getElem?_eq_none (show D.length ≤ st.pos by omega)]
    go_enter Try.func28, Try.ntmps28
    go_wp2_with (go_at_call 43; refine (next_none hI hr hd hD hq).mono ?_; rintro e w1 ⟨rfl, hW⟩)
    exact ⟨rfl, .inr ⟨rfl, rfl, hW⟩⟩
  | succ k ih =>
    intro n st w yv sv hI hk hF
    cases hq : nextF R D n st.pos with
    | none =>
      go_enter Try.func28, Try.ntmps28
      go_wp2_with (go_at_call 43; refine (next_none hI hr hd hD hq).mono ?_; rintro e w1 ⟨rfl, hW⟩)
      exact ⟨rfl, .inr ⟨by simp only [nameF, hq], rfl, hW⟩⟩
    | some q =>
      obtain ⟨sa, sc, rfl⟩ := own_form hI.ownS
      obtain ⟨ya, yc, rfl⟩ := own_form hI.ownY
      go_enter Try.func28, Try.ntmps28
      go_wp2_with (go_at_call 43; refine (next_some hI hr hd hD hq).mono ?_; rintro e w1 ⟨rfl, hI1⟩; have c2 := hI1.c2; have c5 := hI1.c5; have c6 := hI1.c6; have f6 := hI1.fr 6)
      have ownS := hI1.ownS
      have hne : ∀ g, (Value.slice sa st.S.length sc).ownBlock = some g → g ≠ rb := fun g hg => by have := (hI1.ltS hg).1; omega
      have ag : (Value.slice sa st.S.length sc).ownBlock ≠ some rb := fun e => hne rb e rfl
      have hlt1 := hI1.lt
      have hSl := hF.len
      have hSp := hF.pos
      have hn1 : st.S.length + 1 ≤ maxLen := by unfold maxLen; omega
      have hn2 : (st.S.length + 1) * 24 ≤ 140737488355328 := by omega
      have hI2 := (hI1.alloc (.cells #[.int .i64 q, .int .i64 st.Y.length, .int .i64 0] 111)).drew
      have a6 := (hI1.alloc (.cells #[.int .i64 q, .int .i64 st.Y.length, .int .i64 0] 111)).c6
      have a5 := (hI1.alloc (.cells #[.int .i64 q, .int .i64 st.Y.length, .int .i64 0] 111)).c5
      obtain ⟨i0, hi0, hz0, hz1, hz2⟩ := info_parts Try.infoGrSp
      go_cut [] from 8 (fun wx => ∃ g cap, Inv W B rb tv nv rv dv wx { pos := st.pos + 1, Y := st.Y, S := st.S ++ [((q : Int), st.Y.length, 0)] } (.slice ya st.Y.length yc) (.slice (some ⟨g, 0, none⟩) (st.S.length + 1) cap))
      case first =>
        go_region_law
          ((refine step_append_lies _ (by rfl) _ _ _ (by rfl) (rb + 2) 111 i0 _ 3 24 Try.underlying55 hi0 hz0 hz1 hz2 rfl (by omega) (.slice sa st.S.length sc) st.S.length (flatG st.S) (by rfl) ((ownS.alloc _).drew)
              ⟨w1.heap.size, 0, none⟩ 1 1 [.int .i64 q, .int .i64 st.Y.length, .int .i64 0] (by rfl) (by rfl) (World.news_of_block (cs := #[.int .i64 q, .int .i64 st.Y.length, .int .i64 0]) (t := 111) (fr := (0, 0)) (heap_alloc_new w1 _)) (by simp [Value.oneCell'])
              (by omega) hn1 hn2 (by simp; omega) (w1.heap.size + 1) (by simp) ?_; intro g cap w2 hown2 hgrow hat hlt; have c6' := (hgrow.cell_far ⟨rb, 6, none⟩ (by simp; omega) (Ne.symm ag)).trans hI2.c6; have f6' := (hgrow.frozen_far ⟨rb, 6, none⟩ (by simp; omega) (Ne.symm ag)).trans (hI2.fr 6)))
        all_goals
          go_wp2_with fail
          go_meet
          case rel => exact ⟨_, _, Inv.pushS (t := ((q : Int), st.Y.length, 0)) hI2 hgrow hown2 (by simpa using hat)⟩
      case rest =>
        obtain ⟨g, cap, hI3⟩ := hcut
        clear hI2 hI1 ownS ag hne a5 a6 c2 c5 c6 f6 hlt1 hn1 hn2 hi0 hz0 hz1 hz2
        obtain ⟨hdq, hqR, _⟩ := nextF_some hq
        obtain ⟨b, o, rc, qa, qc, hv, hbB, _, k2, _, k3⟩ := hr.2 q hqR
        obtain ⟨Rt, hRt⟩ : ∃ Rt, (R.getD q (0, [])).2 = Rt := ⟨_, rfl⟩
        rw [hRt] at k2 k3
        have hRtM : Rt.length ≤ M := by rw [← hRt]; exact hM q
        have hpD : st.pos < D.length := by
          rcases Nat.lt_or_ge st.pos D.length with h | h
          · exact h
          · rw [List.getElem?_eq_none h] at hdq; cases hdq
        have HF3 : GrFits D M { pos := st.pos + 1, Y := st.Y, S := st.S ++ [((q : Int), st.Y.length, 0)] } Rt.length := hF.next hpD hRtM _
        have HQ : Hid (nextF R D n st.pos = some q) := hq
        have HR : Hid ((R.getD q (0, [])).2 = Rt) := hRt
        have c2 := hI3.c2
        rw [hv] at c2
        have k2' : wc.cell? ⟨b, o + q * 2 + 1, none⟩ = some (.slice qa Rt.length qc) := by rw [Nat.add_assoc]; exact (hI3.below.cell hbB).trans k2
        clear hv hRt k2 hq hdq
        go_wp2_with fail
        clear c2 k2' hbB
        go_loopw [42] (fun i wr => ∃ (j : Nat) (st1 : St) (yv1 sv1 : Value), i = .int .i64 j ∧ j ≤ Rt.length ∧ st.pos + 1 ≤ st1.pos ∧ Inv W B rb tv nv rv dv wr st1 yv1 sv1 ∧ GrFits D M st1 (Rt.length - j) ∧
            symsF (nameF R D k) (Rt.drop j) st1 = symsF (nameF R D k) Rt { pos := st.pos + 1, Y := st.Y, S := st.S ++ [((q : Int), st.Y.length, 0)] })
          (fun i _ => Rt.length - (intOf i).toNat)
        case atStart => exact ⟨0, _, _, _, rfl, Nat.zero_le _, Nat.le_refl _, hI3, by simpa using HF3, by simp⟩
        case round =>
          obtain ⟨j, st1, yv1, sv1, rfl, hj, hp1, hI4, hF4, hsy⟩ := hrel
          have HS : Hid (symsF (nameF R D k) (Rt.drop j) st1 = symsF (nameF R D k) Rt { pos := st.pos + 1, Y := st.Y, S := st.S ++ [((q : Int), st.Y.length, 0)] }) := hsy
          clear hsy HF3 hI3 hI
          by_cases hlt : j < Rt.length
          · obtain ⟨b', o', hqa, hb', k4, k5⟩ := k3 j hlt
            have k4' := (hI4.below.cell (p := ⟨b', o' + j * 2, none⟩) hb').trans k4
            have k5' : wr.cell? ⟨b', o' + j * 2 + 1, none⟩ = some (.int .i64 (Rt.getD j (false, 0)).2) := by rw [Nat.add_assoc]; exact (hI4.below.cell (p := ⟨b', o' + (j * 2 + 1), none⟩) hb').trans k5
            obtain ⟨⟨t, v⟩, hsym⟩ : ∃ x, Rt.getD j (false, 0) = x := ⟨_, rfl⟩
            have hdrop : Rt.drop j = (t, v) :: Rt.drop (j + 1) := by
              rw [List.drop_eq_getElem_cons hlt]
              congr 1
              rw [← hsym]
              simp [List.getD, hlt]
            rw [hsym] at k4' k5'
            have HD : Hid (Rt.drop j = (t, v) :: Rt.drop (j + 1)) := hdrop
            clear k4 k5 k3 hsym hdrop
            subst hqa
            cases t with
            | true =>
              obtain ⟨ya1, yc1, rfl⟩ := own_form hI4.ownY
              have ag : (Value.slice ya1 st1.Y.length yc1).ownBlock ≠ some rb := fun e => by have := (hI4.ltY e).1; omega
              have hlt1 := hI4.lt
              have hpot := hF4.pot
              have hn1 : st1.Y.length + 1 ≤ maxLen := by unfold maxLen; omega
              have hn2 : (st1.Y.length + 1) * 8 ≤ 140737488355328 := by omega
              have HF5 : GrFits D M { st1 with Y := st1.Y ++ [v] } (Rt.length - (j + 1)) := GrFits.push (more := Rt.length - (j + 1)) (by rw [show Rt.length - (j + 1) + 1 = Rt.length - j by omega]; exact hF4) v
              have HX : Hid (symsF (nameF R D k) (Rt.drop j) st1 = symsF (nameF R D k) (Rt.drop (j + 1)) { st1 with Y := st1.Y ++ [v] }) := by
                show symsF (nameF R D k) (Rt.drop j) st1 = _
                rw [HD.out, symsF]
              clear hpot
              have hI5 := hI4.alloc (.cells #[.bool true, .int .i64 v] 102)
              have c5 := hI5.c5
              have f5 := hI5.fr 5
              have hI6 := hI5.alloc (.cells #[.int .i64 v] 3)
              have a5 := hI6.c5
              have ownY := hI6.ownY
              have hI7 := hI6.drew
              have hnb : ((wr.alloc (.cells #[.bool true, .int .i64 v] 102)).alloc (.cells #[.int .i64 v] 3)).drew.heap[wr.heap.size + 1]? = some (.cells #[.int .i64 v] 3 (0, 0)) := by
                show ((wr.alloc (.cells #[.bool true, .int .i64 v] 102)).alloc (.cells #[.int .i64 v] 3)).heap[wr.heap.size + 1]? = _
                simpa using heap_alloc_new (wr.alloc (.cells #[.bool true, .int .i64 v] 102)) (.cells #[.int .i64 v] 3)
              have HB : Hid (((wr.alloc (.cells #[.bool true, .int .i64 v] 102)).alloc (.cells #[.int .i64 v] 3)).drew.heap[wr.heap.size + 1]? = some (.cells #[.int .i64 v] 3 (0, 0))) := hnb
              clear hnb
              have s1 : ((wr.alloc (.cells #[.bool true, .int .i64 v] 102)).alloc (.cells #[.int .i64 v] 3)).cell? ⟨wr.heap.size, 1, none⟩ = some (.int .i64 v) := by
                rw [World.cell?_alloc_past _ _ _ (by simp)]
                simp [go_sem]
              obtain ⟨i0, hi0, hz0, hz1, hz2⟩ := info_parts Try.infoGrI
              go_wp2_with fail
              go_region_law
                ((refine step_append_lies _ (by rfl) _ _ _ (by rfl) (rb + 2) 3 i0 _ 1 8 Try.underlying25 hi0 hz0 hz1 hz2 rfl (by omega) (.slice ya1 st1.Y.length yc1) st1.Y.length (st1.Y.map (Value.int .i64)) (by rfl) (ownY.drew)
                    ⟨wr.heap.size + 1, 0, none⟩ 1 1 [.int .i64 v] (by rfl) (by rfl) (World.news_of_block (cs := #[.int .i64 v]) (t := 3) (fr := (0, 0)) HB.out) (by simp [Value.oneCell'])
                    (by omega) hn1 hn2 (by simp; omega) (wr.heap.size + 2) (by simp) ?_; intro g2 cap2 w2 hown2 hgrow hat hlt; have c5' := (hgrow.cell_far ⟨rb, 5, none⟩ (by simp; omega) (Ne.symm ag)).trans hI7.c5; have f5' := (hgrow.frozen_far ⟨rb, 5, none⟩ (by simp; omega) (Ne.symm ag)).trans (hI7.fr 5)))
              all_goals
                go_wp2_with fail
                go_roundw
                case rel => exact ⟨j + 1, { st1 with Y := st1.Y ++ [v] }, _, _, by go_num, by omega, hp1, Inv.pushY hI7 hgrow hown2 (by simpa using hat), HF5, HX.out.symm.trans HS.out⟩
                case measure => simp [intOf]; omega
            | false =>
              have hI5 := hI4.alloc (.cells #[.bool false, .int .i64 v] 102)
              cases hn : nameF R D k v st1 with
              | none =>
                have call : Calls Try.prog 28 #[.pointer (some ⟨rb, 0, none⟩), .int .i64 v] (wr.alloc (.cells #[.bool false, .int .i64 v] 102)) fun e w' => e = .panicked gaveUp ∧ Weak W B rb w' :=
                  (ih v st1 _ _ _ hI5 (by omega) (hF4.less (Nat.zero_le _))).mono (by
                    rintro e w' (⟨st2, _, _, h2, _⟩ | ⟨_, rfl, hW⟩)
                    · rw [hn] at h2; cases h2
                    · exact ⟨rfl, hW⟩)
                have HX : Hid (symsF (nameF R D k) (Rt.drop j) st1 = none) := by
                  show symsF (nameF R D k) (Rt.drop j) st1 = none
                  rw [HD.out, symsF, hn]
                clear hn hI5
                go_wp2_with (go_at_call 28; refine call.mono ?_; rintro e w2 ⟨rfl, hW⟩)
                exact ⟨rfl, .inr ⟨nameF_none HQ.out HR.out (HS.out.symm.trans HX.out), rfl, hW⟩⟩
              | some st2 =>
                have call : Calls Try.prog 28 #[.pointer (some ⟨rb, 0, none⟩), .int .i64 v] (wr.alloc (.cells #[.bool false, .int .i64 v] 102)) fun e w' => e = .returned (.tuple #[]) ∧ ∃ yv2 sv2, Inv W B rb tv nv rv dv w' st2 yv2 sv2 :=
                  (ih v st1 _ _ _ hI5 (by omega) (hF4.less (Nat.zero_le _))).mono (by
                    rintro e w' (⟨st3, yv2, sv2, h2, rfl, hI6⟩ | ⟨h2, _⟩)
                    · rw [hn] at h2; cases h2; exact ⟨rfl, yv2, sv2, hI6⟩
                    · rw [hn] at h2; cases h2)
                have HX : Hid (symsF (nameF R D k) (Rt.drop j) st1 = symsF (nameF R D k) (Rt.drop (j + 1)) st2) := by
                  show symsF (nameF R D k) (Rt.drop j) st1 = _
                  rw [HD.out, symsF, hn]
                obtain ⟨gr, grp, _⟩ := nameF_grew hM k v st1 st2 hn
                have HF5 : GrFits D M st2 (Rt.length - (j + 1)) := (hF4.less (by omega)).grew gr
                clear hn hI5 gr
                go_wp2_with (go_at_call 28; refine call.mono ?_; rintro e w2 ⟨rfl, yv2, sv2, hI6⟩)
                go_roundw
                case rel => exact ⟨j + 1, st2, yv2, sv2, by go_num, by omega, by omega, hI6, HF5, HX.out.symm.trans HS.out⟩
                case measure => simp [intOf]; omega
          · have hje : Rt.drop j = [] := List.drop_of_length_le (by omega)
            have HX : symsF (nameF R D k) Rt { pos := st.pos + 1, Y := st.Y, S := st.S ++ [((q : Int), st.Y.length, 0)] } = some st1 := by rw [← HS.out, hje, symsF]
            have gr := symsF_grew (M := M) (fun n st st' h => (nameF_grew hM k n st st' h).1) _ _ _ HX
            obtain ⟨T, hT, _, _⟩ := gr.seg
            simp only [List.append_assoc, List.singleton_append] at hT
            have hplace : st1.S[st.S.length]? = some ((q : Int), st.Y.length, 0) := by rw [hT]; simp
            have hpl : st.S.length < st1.S.length := by rw [hT]; simp
            obtain ⟨g1, cap1, rfl, _, _⟩ := hI4.ownS.form (by omega)
            obtain ⟨ya1, yc1, rfl⟩ := own_form hI4.ownY
            have HN := nameF_some HQ.out HR.out HX
            have HN' : Hid (nameF R D (k + 1) n st = some { st1 with S := st1.S.set st.S.length ((q : Int), st.Y.length, st1.Y.length) }) := HN
            have HI := (hI4.drew).setTo (v := st1.Y.length) hplace
            have c5 := hI4.c5
            have c6 := hI4.c6
            have cT : wr.cell? ⟨g1, st.S.length * 3 + 2, none⟩ = some (.int .i64 0) := by rw [hI4.ownS.cellAt _ (by omega)]; exact (flatG_get hplace).2.2
            have fT := hI4.ownS.frozenAt (st.S.length * 3 + 2)
            have hi1 : (st.S.length : Int) < (st1.S.length : Int) := by omega
            have hi2 : (0 : Int) ≤ (st.S.length : Int) := Int.natCast_nonneg _
            clear HN HX hje hT gr hplace
            go_wp2_with fail
            go_region
            all_goals
              go_end0
              exact .inl ⟨_, _, _, HN'.out, rfl, HI⟩

end Go.Proofs.Ytobegekmgoiopaa

/- The contracts of the deferred closure, of read, and of the two faces Yield and Spans. -/
namespace Go.Proofs.Ytobegekmgoiopaa
open Go.RowKit

/-- The reader's cells, and its 'ok', when they are laid anew. -/
def relay (w : World) (rb : Nat) (v0 v1 v2 v3 v4 v5 v6 v7 : Value) : World :=
  (((((((w.setCell ⟨rb, 0, none⟩ v0).setCell ⟨rb, 1, none⟩ v1).setCell ⟨rb, 2, none⟩ v2).setCell ⟨rb, 3, none⟩ v3).setCell ⟨rb, 4, none⟩ v4).setCell ⟨rb, 5, none⟩ v5).setCell ⟨rb, 6, none⟩ v6).setCell ⟨rb + 1, 0, none⟩ v7

theorem relay_below {W w : World} {B rb : Nat} (h : Below B W w) (hb : B ≤ rb) (v0 v1 v2 v3 v4 v5 v6 v7 : Value) : Below B W (relay w rb v0 v1 v2 v3 v4 v5 v6 v7) := by
  unfold relay
  exact (((((((h.setCell hb _).setCell hb _).setCell hb _).setCell hb _).setCell hb _).setCell hb _).setCell hb _).setCell (by simp only; omega) _

theorem relay_own {w : World} {rb : Nat} {e : TypeId} {size : Nat} {v : Value} {n : Nat} {xs : List Value} (h : w.ownsRow (rb + 2) e size v n xs) (v0 v1 v2 v3 v4 v5 v6 v7 : Value) :
    (relay w rb v0 v1 v2 v3 v4 v5 v6 v7).ownsRow (rb + 2) e size v n xs := by
  unfold relay
  exact ownsRow_setCell_below (ownsRow_setCell_below (ownsRow_setCell_below (ownsRow_setCell_below (ownsRow_setCell_below (ownsRow_setCell_below (ownsRow_setCell_below (ownsRow_setCell_below h
    (by simp only; omega) _) (by simp only; omega) _) (by simp only; omega) _) (by simp only; omega) _) (by simp only; omega) _) (by simp only; omega) _) (by simp only; omega) _) (by simp only; omega) _

theorem relay_cells {W w : World} {B rb : Nat} (h : Weak W B rb w) (v0 v1 v2 v3 v4 v5 v6 v7 : Value) :
    (relay w rb v0 v1 v2 v3 v4 v5 v6 v7).cell? ⟨rb, 0, none⟩ = some v0 ∧ (relay w rb v0 v1 v2 v3 v4 v5 v6 v7).cell? ⟨rb, 1, none⟩ = some v1 ∧ (relay w rb v0 v1 v2 v3 v4 v5 v6 v7).cell? ⟨rb, 2, none⟩ = some v2 ∧
    (relay w rb v0 v1 v2 v3 v4 v5 v6 v7).cell? ⟨rb, 3, none⟩ = some v3 ∧ (relay w rb v0 v1 v2 v3 v4 v5 v6 v7).cell? ⟨rb, 4, none⟩ = some v4 ∧ (relay w rb v0 v1 v2 v3 v4 v5 v6 v7).cell? ⟨rb, 5, none⟩ = some v5 ∧
    (relay w rb v0 v1 v2 v3 v4 v5 v6 v7).cell? ⟨rb, 6, none⟩ = some v6 ∧ (relay w rb v0 v1 v2 v3 v4 v5 v6 v7).cell? ⟨rb + 1, 0, none⟩ = some v7 := by
  obtain ⟨u0, c0⟩ := h.cs 0 (by omega)
  obtain ⟨u1, c1⟩ := h.cs 1 (by omega)
  obtain ⟨u2, c2⟩ := h.cs 2 (by omega)
  obtain ⟨u3, c3⟩ := h.cs 3 (by omega)
  obtain ⟨u4, c4⟩ := h.cs 4 (by omega)
  obtain ⟨u5, c5⟩ := h.cs 5 (by omega)
  obtain ⟨u6, c6⟩ := h.cs 6 (by omega)
  have c7 := h.ok
  unfold relay
  refine ⟨?_, ?_, ?_, ?_, ?_, ?_, ?_, ?_⟩ <;> simp [go_sem, c0, c1, c2, c3, c4, c5, c6, c7]

theorem catch_idle (rb : Nat) (w : World) :
    CallsD Try.prog 27 #[.pointer (some ⟨rb, 0, none⟩), .pointer (some ⟨rb + 1, 0, none⟩)] .returning w fun e u' w' => e = .returned (.tuple #[]) ∧ u' = .returning ∧ w' = w := by
  refine callsD_of_wpS Try.func27 rfl fun c₀ cs hu => ?_
  apply wpS_seq
  apply wpS_region
  simp [wpOpsS, go_sem, recoverD, hu, Try.ntmps27, Exit.thenS]
  refine wpS_cond (t := false) (by simp [Act.eval, Array.replicate]) ?_
  simp only [Bool.false_eq_true, if_false]
  refine wpS_of_wp (wp_skip ?_)
  cases c₀
  simp_all [bodyPostS, results, Try.results27 ]

end Go.Proofs.Ytobegekmgoiopaa

/- The contract of read. -/
namespace Go.Proofs.Ytobegekmgoiopaa
open Go.RowKit

/-- The world in which name is called first. -/
def laid (w : World) (T N : Int) (rv dv : Value) : World :=
  ((w.alloc (.cells #[.int .i64 T, .int .i64 N, rv] 24)).alloc (.cells #[.int .i64 T, .int .i64 N, rv, dv, .int .i64 0, .slice none 0 0, .slice none 0 0] 57)).alloc (.cells #[.bool false] 4)

theorem start_inv (w : World) (T N : Int) (rv dv : Value) :
    Inv w w.heap.size (w.heap.size + 1) (.int .i64 T) (.int .i64 N) rv dv (laid w T N rv dv) { pos := 0, Y := [], S := [] } (.slice none 0 0) (.slice none 0 0) := by
  unfold laid
  refine ⟨((((Below.refl _ _).alloc (Nat.le_refl _) _).alloc (by simp) _).alloc (by simp; omega) _), by omega, by simp, ?_, ?_, ?_, ?_, ?_, ?_, ?_, fun o => ?_, ?_, ?_, World.ownsRow_nil _ _ _ _, World.ownsRow_nil _ _ _ _, fun g h => by simp [Value.ownBlock] at h⟩ <;> simp [go_sem]

set_option maxRecDepth 100000 in
set_option maxHeartbeats 3200000 in
theorem read_done (T N : Int) (ra : Option Addr) (rl rc : Nat) (da : Option Addr) (L dc : Nat) (w : World) (hL : L ≤ 400) (st : St) (hp : ¬ st.pos < L)
    (call : Calls Try.prog 28 #[.pointer (some ⟨w.heap.size + 1, 0, none⟩), .int .i64 0] (laid w T N (.slice ra rl rc) (.slice da L dc)) fun e w' => e = .returned (.tuple #[]) ∧ ∃ yv sv, Inv w w.heap.size (w.heap.size + 1) (.int .i64 T) (.int .i64 N) (.slice ra rl rc) (.slice da L dc) w' st yv sv) :
    Calls Try.prog 14 #[.agg #[.int .i64 T, .int .i64 N, .slice ra rl rc], .slice da L dc] w fun e w' => ∃ yv sv,
      e = .returned (.tuple #[.agg #[.int .i64 T, .int .i64 N, .slice ra rl rc, .slice da L dc, .int .i64 st.pos, yv, sv], .bool true]) ∧ Below w.heap.size w w' ∧
      w'.ownsRow (w.heap.size + 3) 3 1 yv st.Y.length (st.Y.map (Value.int .i64)) ∧ w'.ownsRow (w.heap.size + 3) 111 3 sv st.S.length (flatG st.S) := by
  unfold laid at call
  have hmf : ∀ (fn : Fn) (first cap : Array Value) (w : World), (Instr.makeFunc fn first cap).run Try.prog w = .ok (.func fn first cap) w := fun _ _ _ _ => rfl
  go_enter_defers Try.func14, Try.ntmps14
  go_wp2_with (first
    | (go_at_call 28; refine call.mono ?_; rintro e w2 ⟨rfl, yv, sv, hI⟩; obtain ⟨ya, yc, rfl⟩ := own_form hI.ownY; obtain ⟨sa, sc, rfl⟩ := own_form hI.ownS; have c0 := hI.c0; have c1 := hI.c1; have c2 := hI.c2; have c3 := hI.c3; have c4 := hI.c4; have c5 := hI.c5; have c6 := hI.c6; have fr := hI.fr; have ok := hI.ok; have okf := hI.okf)
    | (go_at_call 29; refine (end_ok _ _ _ _ _ _ hI.c3 hI.c4 hp).mono ?_; rintro e w3 ⟨rfl, m, rfl⟩))
  have hW := hI.weak.drewN m
  refine leaves_cons (f := 27) (args := #[.pointer (some ⟨w.heap.size + 1, 0, none⟩), .pointer (some ⟨w.heap.size + 1 + 1, 0, none⟩)]) (by simp) (by simp [go_sem]) ?_
  refine (catch_idle (w.heap.size + 1) _).mono ?_
  rintro e u' w'' ⟨rfl, rfl, rfl⟩
  obtain ⟨d0, d1, d2, d3, d4, d5, d6, d7⟩ := relay_cells hW (.int .i64 T) (.int .i64 N) (.slice ra rl rc) (.slice da L dc) (.int .i64 st.pos) (.slice ya st.Y.length yc) (.slice sa st.S.length sc) (.bool true)
  have hB := relay_below hW.below hW.le (.int .i64 T) (.int .i64 N) (.slice ra rl rc) (.slice da L dc) (.int .i64 st.pos) (.slice ya st.Y.length yc) (.slice sa st.S.length sc) (.bool true)
  have hY := relay_own (hI.drewN m).ownY (.int .i64 T) (.int .i64 N) (.slice ra rl rc) (.slice da L dc) (.int .i64 st.pos) (.slice ya st.Y.length yc) (.slice sa st.S.length sc) (.bool true)
  have hS := relay_own (hI.drewN m).ownS (.int .i64 T) (.int .i64 N) (.slice ra rl rc) (.slice da L dc) (.int .i64 st.pos) (.slice ya st.Y.length yc) (.slice sa st.S.length sc) (.bool true)
  refine ⟨.tuple #[.agg #[.int .i64 T, .int .i64 N, .slice ra rl rc, .slice da L dc, .int .i64 st.pos, .slice ya st.Y.length yc, .slice sa st.S.length sc], .bool true], ?_, _, _, rfl, hB, hY, hS⟩
  change (results Try.f14 _).run Try.prog (relay (w2.drewN m) (w.heap.size + 1) (.int .i64 T) (.int .i64 N) (.slice ra rl rc) (.slice da L dc) (.int .i64 st.pos) (.slice ya st.Y.length yc) (.slice sa st.S.length sc) (.bool true)) = _
  simp [results, Try.results14, go_sem, d0, d1, d2, d3, d4, d5, d6, d7]
  rfl

end Go.Proofs.Ytobegekmgoiopaa
