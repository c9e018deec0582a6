import Derived.Test.YtobegekmgoiopaaBuildMathAndMayFine
import Derived.Test.YtobegekmgoiopaaMathAndBits
/- A row of truths that a call has made; tables of such rows. No walk. -/
namespace Go.Proofs.Ytobegekmgoiopaa
open Go.RowKit

theorem Try.infoBool : (Try.prog.info? 4).map (fun i => (i.zero, i.size, i.bytes)) = some (some (.bool false), 1, 1) := by kernel_rfl

theorem make_bools (n : Nat) (hn : n ≤ 1000000) (u : World) : (Instr.makeSlice 83 (.int .i64 n) (.int .i64 n)).run Try.prog u = .ok (.slice (some ⟨u.heap.size, 0, none⟩) n n) (u.alloc (.cells (madeCells #[.bool false] n) 4)) := by
  obtain ⟨i0, hi, hz0, hz1, hz2⟩ := info_parts Try.infoBool
  have h := run_make (P := Try.prog) u 83 4 i0 (.bool false) Try.underlying83 hi hz0 .i64 .i64 n n (by omega) (Int.le_refl _) (by rw [hz2]; omega) (by omega)
  simpa [hz1, Value.cells] using h

/-- A row of N truths of the call's own, at block g. -/
def RowB (w : World) (B g N : Nat) (X : List Bool) : Prop := w.ownsRow B 4 1 (.slice (some ⟨g, 0, none⟩) N N) N (X.map Value.bool)

section
variable {w : World} {B g N : Nat} {X : List Bool}
theorem RowB.len (h : RowB w B g N X) : X.length = N := by
  have : (X.map Value.bool).length = N * 1 := h.1
  simpa using this
theorem RowB.cell (h : RowB w B g N X) {m : Nat} (hm : m < N) : w.cell? ⟨g, m, none⟩ = some (.bool (X.getD m false)) ∧ w.frozen? ⟨g, m, none⟩ = false := by
  have hl := h.len
  refine ⟨?_, World.ownsRow.frozenAt h m⟩
  rw [World.ownsRow.cellAt h m (by omega)]
  simp [List.getD, show m < X.length by omega]
theorem RowB.set (h : RowB w B g N X) (m : Nat) (v : Bool) : RowB (w.setCell ⟨g, m, none⟩ (.bool v)) B g N (X.set m v) := by
  have := (World.ownsRow.stored h m (.bool v)).1
  unfold RowB
  rwa [List.map_set]
theorem RowB.ge (h : RowB w B g N X) : N ≠ 0 → B ≤ g := fun hN => by
  obtain ⟨g', c, e, h1, _⟩ := World.ownsRow.form h (by omega)
  cases e
  exact h1
end

theorem row_made (w : World) {N : Nat} (hN : N ≤ maxLen) : RowB (w.alloc (.cells (madeCells #[.bool false] N) 4)) w.heap.size w.heap.size N (List.replicate N false) := by
  have := World.ownsRow_lit (base := w.heap.size) (e := 4) (size := 1) w (madeCells #[.bool false] N) N (Nat.le_refl _) hN (by simp [size_madeCells])
  rw [toList_madeCells_one] at this
  unfold RowB
  simpa using this

theorem RowB.below {w w' : World} {B g N : Nat} {X : List Bool} (h : RowB w B g N X) (hb : Below w.heap.size w w') : RowB w' B g N X := own_below h hb fun k hk => (World.ownsRow.lt h k hk).2
theorem RowB.mono {w : World} {B B' g N : Nat} {X : List Bool} (h : RowB w B g N X) (hB : B' ≤ B) : RowB w B' g N X := own_mono h hB

section
variable {ι : Type} {w w' : World} {B : Nat} {c c' : Tab ι} {X X' : ι → List Bool}

end

end Go.Proofs.Ytobegekmgoiopaa

/- How sets lie in memory while they are made; what is made at first. No walk. -/
namespace Go.Proofs.Ytobegekmgoiopaa
open Go.RowKit

def set2 (F : List (List Bool)) (n t : Nat) : List (List Bool) := F.set n ((F.getD n []).set t true)

theorem set2_length (F : List (List Bool)) (n t : Nat) : (set2 F n t).length = F.length := by simp [set2]
theorem set2_get (F : List (List Bool)) (n t m : Nat) : (set2 F n t).getD m [] = if m = n ∧ n < F.length then (F.getD n []).set t true else F.getD m [] := by
  unfold set2
  by_cases h : m = n
  · subst h
    by_cases hl : m < F.length
    · simp [List.getD, hl]
    · simp [List.getD, hl]
  · have h' : n ≠ m := fun e => h e.symm
    simp [List.getD, List.getElem?_set_ne h', h]

/-- The rows of the sets. -/
inductive Ix where
  | st | null | fh | gh
  | f (n : Nat)
  | g (n : Nat)
  deriving DecidableEq

/-- The struct at block sb, its three slices, and their rows. m: how many rows of First, of Follow there are. -/
def Pset (sb T N mf mg : Nat) (nv fv gv : Value) (vf vg : Nat → Value) (Nu : List Bool) (Fi Fo : List (List Bool)) : Ix → Option Row
  | .st => some ⟨.slice (some ⟨sb, 0, none⟩) 1 1, 86, 3, 1, [nv, fv, gv]⟩
  | .null => some ⟨nv, 4, 1, N, Nu.map Value.bool⟩
  | .fh => some ⟨fv, 83, 1, mf, (List.range mf).map vf⟩
  | .gh => some ⟨gv, 83, 1, mg, (List.range mg).map vg⟩
  | .f n => if n < mf then some ⟨vf n, 4, 1, T, (Fi.getD n []).map Value.bool⟩ else none
  | .g n => if n < mg then some ⟨vg n, 4, 1, T + 1, (Fo.getD n []).map Value.bool⟩ else none

section
variable {w : World} {base sb T N mf mg : Nat} {nv fv gv : Value} {vf vg : Nat → Value} {Nu : List Bool} {Fi Fo : List (List Bool)}

/-- The three slices, in the struct. -/
theorem Owns.fields (h : Owns w base (Pset sb T N mf mg nv fv gv vf vg Nu Fi Fo)) :
    w.cell? ⟨sb, 0, none⟩ = some nv ∧ w.cell? ⟨sb, 1, none⟩ = some fv ∧ w.cell? ⟨sb, 2, none⟩ = some gv ∧ (∀ j, w.frozen? ⟨sb, j, none⟩ = false) := by
  have hh := h.own .st _ rfl
  simp only at hh
  exact ⟨hh.cellAt 0 (by omega), hh.cellAt 1 (by omega), hh.cellAt 2 (by omega), hh.frozenAt⟩

theorem Owns.setFollow (h : Owns w base (Pset sb T N mf mg nv fv gv vf vg Nu Fi Fo)) (hF : Fo.length = mg) {n fg fc : Nat} (hn : n < mg) (hv : vg n = .slice (some ⟨fg, 0, none⟩) (T + 1) fc) (t : Nat) :
    Owns (w.setCell ⟨fg, t, none⟩ (.bool true)) base (Pset sb T N mf mg nv fv gv vf vg Nu Fi (set2 Fo n t)) := by
  have := h.store (i := .g n) (g := fg) (n := T + 1) (cap := fc) (e := 4) (size := 1) (xs := (Fo.getD n []).map Value.bool) (by simp [Pset, hn, hv]) t (.bool true)
  have e : upd (Pset sb T N mf mg nv fv gv vf vg Nu Fi Fo) (.g n) ⟨.slice (some ⟨fg, 0, none⟩) (T + 1) fc, 4, 1, T + 1, ((Fo.getD n []).map Value.bool).set t (.bool true)⟩ = Pset sb T N mf mg nv fv gv vf vg Nu Fi (set2 Fo n t) := by
    funext x
    cases x with
    | g m =>
      by_cases hm : m = n
      · subst hm
        simp only [upd, Pset, if_true, hn]
        rw [set2_get, if_pos ⟨rfl, by omega⟩, List.map_set, hv]
      · have : Ix.g m ≠ Ix.g n := fun e => hm (by cases e; rfl)
        simp only [upd, Pset, if_neg this]
        have e2 : ∀ X : List (List Bool), (set2 X n t).getD m [] = X.getD m [] := fun X => by rw [set2_get, if_neg (fun e => hm e.1)]
        rw [e2]
    | _ => simp [upd, Pset]
  rwa [e] at this

theorem Owns.make {ι : Type} [DecidableEq ι] {w : World} {base : Nat} {P : ι → Option Row} (h : Owns w base P) (i : ι) (n : Nat) (hb : base ≤ w.heap.size) (hn : n ≤ maxLen) :
    Owns (w.alloc (.cells (madeCells #[.bool false] n) 4)) base (upd P i ⟨.slice (some ⟨w.heap.size, 0, none⟩) n n, 4, 1, n, (List.replicate n false).map Value.bool⟩) := by
  refine h.new i (World.grownBy_alloc w _ none) ?_ (fun g hg => by simpa [Value.ownBlock] using hg.symm)
  have := World.ownsRow_lit (base := base) (e := 4) (size := 1) w (madeCells #[.bool false] n) n hb hn (by simp [size_madeCells])
  rw [toList_madeCells_one] at this
  simpa using this

theorem Owns.pushFirst {m : Nat} (h : Owns w base (Pset sb T N m mg nv fv gv vf vg Nu Fi Fo)) (hF : Fi.length = m) (hb : base ≤ w.heap.size) (hT : T ≤ maxLen) {w1 : World} {o : Obj} {g cap : Nat}
    (hg : ((w.alloc (.cells (madeCells #[.bool false] T) 4)).alloc o).drew.grownBy w1 fv.ownBlock)
    (hown : w1.ownsRow base 83 1 (.slice (some ⟨g, 0, none⟩) (m + 1) cap) (m + 1) ((List.range m).map vf ++ [.slice (some ⟨w.heap.size, 0, none⟩) T T])) (hat : fv.ownBlock = some g ∨ g = w.heap.size + 2) :
    Owns (w1.setCell ⟨sb, 1, none⟩ (.slice (some ⟨g, 0, none⟩) (m + 1) cap)) base
      (Pset sb T N (m + 1) mg nv (.slice (some ⟨g, 0, none⟩) (m + 1) cap) gv (fun n => if n = m then .slice (some ⟨w.heap.size, 0, none⟩) T T else vf n) vg Nu (Fi ++ [List.replicate T false]) Fo) := by
  have h1 := ((h.make (.f m) T hb hT).alloc o).drew
  have h2 := h1.turn (i := .fh) (r := ⟨fv, 83, 1, m, (List.range m).map vf⟩) (r' := ⟨.slice (some ⟨g, 0, none⟩) (m + 1) cap, 83, 1, m + 1, (List.range m).map vf ++ [.slice (some ⟨w.heap.size, 0, none⟩) T T]⟩)
    (by rw [upd_other _ (by simp)]; rfl) hg hown (fun k hk => by
      simp only [Value.ownBlock, Option.some.injEq] at hk
      subst hk
      simpa using hat)
  have h3 := h2.store (i := .st) (g := sb) (n := 1) (cap := 1) (e := 86) (size := 3) (xs := [nv, fv, gv]) (by rw [upd_other _ (by simp), upd_other _ (by simp)]; rfl) 1 (.slice (some ⟨g, 0, none⟩) (m + 1) cap)
  have e : upd (upd (upd (Pset sb T N m mg nv fv gv vf vg Nu Fi Fo) (.f m) ⟨.slice (some ⟨w.heap.size, 0, none⟩) T T, 4, 1, T, (List.replicate T false).map Value.bool⟩) .fh
      ⟨.slice (some ⟨g, 0, none⟩) (m + 1) cap, 83, 1, m + 1, (List.range m).map vf ++ [.slice (some ⟨w.heap.size, 0, none⟩) T T]⟩) .st ⟨.slice (some ⟨sb, 0, none⟩) 1 1, 86, 3, 1, [nv, fv, gv].set 1 (.slice (some ⟨g, 0, none⟩) (m + 1) cap)⟩ =
      Pset sb T N (m + 1) mg nv (.slice (some ⟨g, 0, none⟩) (m + 1) cap) gv (fun n => if n = m then .slice (some ⟨w.heap.size, 0, none⟩) T T else vf n) vg Nu (Fi ++ [List.replicate T false]) Fo := by
    funext x
    cases x with
    | st => simp [upd, Pset]
    | null => simp [upd, Pset]
    | gh => simp [upd, Pset]
    | g n => simp [upd, Pset]
    | fh =>
      simp only [upd, Pset]
      simp only [reduceCtorEq, if_false, if_true]
      congr 2
      rw [List.range_succ, List.map_append]
      congr 1
      · refine List.map_congr_left fun a ha => ?_
        have := List.mem_range.1 ha
        rw [if_neg (by omega)]
      · simp
    | f n =>
      simp only [upd, Pset, reduceCtorEq, if_false, Ix.f.injEq]
      by_cases hn : n = m
      · subst hn
        simp [List.getD, hF]
      · by_cases hlt : n < m
        · rw [if_neg hn, if_pos hlt, if_pos (by omega), if_neg hn]
          simp [List.getD, List.getElem?_append_left (show n < Fi.length by omega)]
        · rw [if_neg hn, if_neg hlt, if_neg (by omega)]
  rwa [e] at h3

theorem Owns.pushFollow {m : Nat} (h : Owns w base (Pset sb T N mf m nv fv gv vf vg Nu Fi Fo)) (hF : Fo.length = m) (hb : base ≤ w.heap.size) (hT : T + 1 ≤ maxLen) {w1 : World} {o : Obj} {g cap : Nat}
    (hg : ((w.alloc (.cells (madeCells #[.bool false] (T + 1)) 4)).alloc o).drew.grownBy w1 gv.ownBlock)
    (hown : w1.ownsRow base 83 1 (.slice (some ⟨g, 0, none⟩) (m + 1) cap) (m + 1) ((List.range m).map vg ++ [.slice (some ⟨w.heap.size, 0, none⟩) (T + 1) (T + 1)])) (hat : gv.ownBlock = some g ∨ g = w.heap.size + 2) :
    Owns (w1.setCell ⟨sb, 2, none⟩ (.slice (some ⟨g, 0, none⟩) (m + 1) cap)) base
      (Pset sb T N mf (m + 1) nv fv (.slice (some ⟨g, 0, none⟩) (m + 1) cap) vf (fun n => if n = m then .slice (some ⟨w.heap.size, 0, none⟩) (T + 1) (T + 1) else vg n) Nu Fi (Fo ++ [List.replicate (T + 1) false])) := by
  have h1 := ((h.make (.g m) (T + 1) hb hT).alloc o).drew
  have h2 := h1.turn (i := .gh) (r := ⟨gv, 83, 1, m, (List.range m).map vg⟩) (r' := ⟨.slice (some ⟨g, 0, none⟩) (m + 1) cap, 83, 1, m + 1, (List.range m).map vg ++ [.slice (some ⟨w.heap.size, 0, none⟩) (T + 1) (T + 1)]⟩)
    (by rw [upd_other _ (by simp)]; rfl) hg hown (fun k hk => by
      simp only [Value.ownBlock, Option.some.injEq] at hk
      subst hk
      simpa using hat)
  have h3 := h2.store (i := .st) (g := sb) (n := 1) (cap := 1) (e := 86) (size := 3) (xs := [nv, fv, gv]) (by rw [upd_other _ (by simp), upd_other _ (by simp)]; rfl) 2 (.slice (some ⟨g, 0, none⟩) (m + 1) cap)
  have e : upd (upd (upd (Pset sb T N mf m nv fv gv vf vg Nu Fi Fo) (.g m) ⟨.slice (some ⟨w.heap.size, 0, none⟩) (T + 1) (T + 1), 4, 1, T + 1, (List.replicate (T + 1) false).map Value.bool⟩) .gh
      ⟨.slice (some ⟨g, 0, none⟩) (m + 1) cap, 83, 1, m + 1, (List.range m).map vg ++ [.slice (some ⟨w.heap.size, 0, none⟩) (T + 1) (T + 1)]⟩) .st ⟨.slice (some ⟨sb, 0, none⟩) 1 1, 86, 3, 1, [nv, fv, gv].set 2 (.slice (some ⟨g, 0, none⟩) (m + 1) cap)⟩ =
      Pset sb T N mf (m + 1) nv fv (.slice (some ⟨g, 0, none⟩) (m + 1) cap) vf (fun n => if n = m then .slice (some ⟨w.heap.size, 0, none⟩) (T + 1) (T + 1) else vg n) Nu Fi (Fo ++ [List.replicate (T + 1) false]) := by
    funext x
    cases x with
    | st => simp [upd, Pset]
    | null => simp [upd, Pset]
    | fh => simp [upd, Pset]
    | f n => simp [upd, Pset]
    | gh =>
      simp only [upd, Pset]
      simp only [reduceCtorEq, if_false, if_true]
      congr 2
      rw [List.range_succ, List.map_append]
      congr 1
      · refine List.map_congr_left fun a ha => ?_
        have := List.mem_range.1 ha
        rw [if_neg (by omega)]
      · simp
    | g n =>
      simp only [upd, Pset, reduceCtorEq, if_false, Ix.g.injEq]
      by_cases hn : n = m
      · subst hn
        simp [List.getD, hF]
      · by_cases hlt : n < m
        · rw [if_neg hn, if_pos hlt, if_pos (by omega), if_neg hn]
          simp [List.getD, List.getElem?_append_left (show n < Fo.length by omega)]
        · rw [if_neg hn, if_neg hlt, if_neg (by omega)]
  rwa [e] at h3
end

theorem Try.infoBools : (Try.prog.info? 83).map (fun i => (i.zero, i.size, i.bytes)) = some (some (.slice none 0 0), 1, 24) := by kernel_rfl

/-- The sets Nu, Fi, Fo lie in memory; nothing below B has turned since W. -/
def SR (W : World) (B sb T N mf mg : Nat) (Nu : List Bool) (Fi Fo : List (List Bool)) (wr : World) : Prop :=
  Below B W wr ∧ B ≤ wr.heap.size ∧ Fi.length = mf ∧ Fo.length = mg ∧ ∃ nv fv gv vf vg, Owns wr B (Pset sb T N mf mg nv fv gv vf vg Nu Fi Fo)

theorem start_sr (w : World) (T N : Nat) (hN : N ≤ maxLen) (o1 o2 : Obj) :
    SR ((w.alloc o1).alloc o2) (w.heap.size + 2) (w.heap.size + 1 + 1 + 1) T N 0 0 (List.replicate N false) [] []
      ((((w.alloc o1).alloc o2).alloc (.cells (madeCells #[.bool false] N) 4)).alloc (.cells #[.slice (some ⟨w.heap.size + 1 + 1, 0, none⟩) N N, .slice none 0 0, .slice none 0 0] 86)) := by
  refine ⟨((Below.refl _ _).alloc (by simp) _).alloc (by simp) _, by simp, rfl, rfl, .slice (some ⟨w.heap.size + 1 + 1, 0, none⟩) N N, .slice none 0 0, .slice none 0 0, fun _ => .nilIface, fun _ => .nilIface, ?_⟩
  have h0 : Owns ((w.alloc o1).alloc o2) (w.heap.size + 2) (fun _ : Ix => none) := ⟨fun i r h => (by cases h), fun i j a b _ h => (by cases h)⟩
  have h1 := h0.make .null N (by simp) hN
  have h2 := h1.new .st (r := ⟨.slice (some ⟨w.heap.size + 1 + 1 + 1, 0, none⟩) 1 1, 86, 3, 1, [.slice (some ⟨w.heap.size + 1 + 1, 0, none⟩) N N, .slice none 0 0, .slice none 0 0]⟩)
    (World.grownBy_alloc _ (.cells #[.slice (some ⟨w.heap.size + 1 + 1, 0, none⟩) N N, .slice none 0 0, .slice none 0 0] 86) none)
    (by
      have := World.ownsRow_lit (base := w.heap.size + 2) (e := 86) (size := 3) (((w.alloc o1).alloc o2).alloc (.cells (madeCells #[.bool false] N) 4)) #[.slice (some ⟨w.heap.size + 1 + 1, 0, none⟩) N N, .slice none 0 0, .slice none 0 0] 1 (by simp) (by unfold maxLen; omega) rfl
      simpa using this)
    (fun g hg => by simpa [Value.ownBlock] using hg.symm)
  refine ⟨fun i r hi => ?_, fun i j a b hij ha hb g h3 h4 => ?_⟩
  · cases i with
    | st => cases hi; exact h2.own .st _ (upd_same _ _ _)
    | null => cases hi; have := h2.own .null _ (by rw [upd_other _ (by simp)]; exact upd_same _ _ _); simpa using this
    | fh => cases hi; exact World.ownsRow_nil _ _ _ _
    | gh => cases hi; exact World.ownsRow_nil _ _ _ _
    | f n => simp [Pset] at hi
    | g n => simp [Pset] at hi
  · cases i with
    | f n => simp [Pset] at ha
    | g n => simp [Pset] at ha
    | fh => cases ha; simp [Value.ownBlock] at h3
    | gh => cases ha; simp [Value.ownBlock] at h3
    | st =>
      cases j with
      | f n => simp [Pset] at hb
      | g n => simp [Pset] at hb
      | fh => cases hb; simp [Value.ownBlock] at h4
      | gh => cases hb; simp [Value.ownBlock] at h4
      | st => exact hij rfl
      | null => cases ha; cases hb; simp only [Value.ownBlock, Option.some.injEq] at h3 h4; omega
    | null =>
      cases j with
      | f n => simp [Pset] at hb
      | g n => simp [Pset] at hb
      | fh => cases hb; simp [Value.ownBlock] at h4
      | gh => cases hb; simp [Value.ownBlock] at h4
      | null => exact hij rfl
      | st => cases ha; cases hb; simp only [Value.ownBlock, Option.some.injEq] at h3 h4; omega

theorem below_push {W wr w1 : World} {B sb j : Nat} {o1 o2 : Obj} {row : Option Nat} {v : Value} (hB : Below B W wr) (hle : B ≤ wr.heap.size) (hg : ((wr.alloc o1).alloc o2).drew.grownBy w1 row) (hr : ∀ k, row = some k → B ≤ k) (hsb : B ≤ sb) :
    Below B W (w1.setCell ⟨sb, j, none⟩ v) ∧ B ≤ (w1.setCell ⟨sb, j, none⟩ v).heap.size := by
  have h1 : Below B W ((wr.alloc o1).alloc o2).drew := ((hB.alloc hle o1).alloc (by simp; omega) o2).drew
  have hs := hg.size
  have h2 : B ≤ ((wr.alloc o1).alloc o2).drew.heap.size := by
    have : ((wr.alloc o1).alloc o2).drew.heap.size = wr.heap.size + 1 + 1 := by
      show ((wr.alloc o1).alloc o2).heap.size = _
      simp
    omega
  exact ⟨(h1.grown hg h2 hr).setCell hsb v, by simp; omega⟩

end Go.Proofs.Ytobegekmgoiopaa

/- How pollardingref2.Of's sets lie in memory while they grow; what it makes, as plain functions. No walk. -/
namespace Go.Proofs.Ytobegekmgoiopaa
open Go.RowKit

def nullS (R : List Ru) (i : Nat) (Nu : List Bool) : List Bool := if nullB Nu (R.getD i (0, [])).2 then Nu.set (R.getD i (0, [])).1.toNat true else Nu
def nullA (R : List Ru) (N : Nat) : List Bool := loopN (N + 1) (fun _ => loopN R.length (nullS R)) (List.replicate N false)
def firstS (R : List Ru) (Nu : List Bool) (i t : Nat) (Fi : List (List Bool)) : List (List Bool) := if begB Nu Fi t (R.getD i (0, [])).2 then set2 Fi (R.getD i (0, [])).1.toNat t else Fi
def firstA (R : List Ru) (Nu : List Bool) (T N : Nat) : List (List Bool) := loopN (N + 1) (fun _ => loopN R.length fun i => loopN T fun t => firstS R Nu i t) (List.replicate N (List.replicate T false))
def followS (R : List Ru) (Nu : List Bool) (Fi : List (List Bool)) (T i k t : Nat) (Fo : List (List Bool)) : List (List Bool) :=
  if (decide (t < T) && begB Nu Fi t ((R.getD i (0, [])).2.drop (k + 1))) || (nullB Nu ((R.getD i (0, [])).2.drop (k + 1)) && (Fo.getD (R.getD i (0, [])).1.toNat []).getD t false) then
    set2 Fo ((R.getD i (0, [])).2.getD k (false, 0)).2.toNat t
  else Fo
def followK (R : List Ru) (Nu : List Bool) (Fi : List (List Bool)) (T i k : Nat) (Fo : List (List Bool)) : List (List Bool) :=
  if ((R.getD i (0, [])).2.getD k (false, 0)).1 then Fo else loopN (T + 1) (fun t => followS R Nu Fi T i k t) Fo
def followA (R : List Ru) (Nu : List Bool) (Fi : List (List Bool)) (T N : Nat) : List (List Bool) :=
  loopN (N + 1) (fun _ => loopN R.length fun i => loopN (R.getD i (0, [])).2.length fun k => followK R Nu Fi T i k) (set2 (List.replicate N (List.replicate (T + 1) false)) 0 T)

section
variable {w : World} {base sb T N mf mg : Nat} {nv fv gv : Value} {vf vg : Nat → Value} {Nu : List Bool} {Fi Fo : List (List Bool)}

theorem own_bools {w : World} {base n : Nat} {v : Value} {X : List Bool} {e : TypeId} (h : w.ownsRow base e 1 v n (X.map Value.bool)) : BoolsAt w v X := by
  have hl : X.length = n := by simpa using h.1
  obtain ⟨a, c, hv⟩ := own_form h
  refine ⟨⟨a, c, by rw [hv, hl]⟩, fun i hi => ?_⟩
  obtain ⟨g, cap, rfl, _, _⟩ := h.form (by omega)
  refine ⟨g, 0, cap, by rw [hl], ?_⟩
  have := h.cellAt i (by omega)
  rw [Nat.zero_add, this]
  simp [List.getD, hi]

end

end Go.Proofs.Ytobegekmgoiopaa

/- Plain: what pollardingref2.Of makes are the least sets. -/
namespace Go.Proofs.Ytobegekmgoiopaa

/-- The table says so of the name n. -/
def hasN (X : List Bool) (n : Int) : Prop := 0 ≤ n ∧ X.getD n.toNat false = true
def has2 (F : List (List Bool)) (t : Nat) (n : Int) : Prop := 0 ≤ n ∧ (F.getD n.toNat []).getD t false = true

theorem hasN_set {X : List Bool} {l : Nat} (hl : l < X.length) {n : Int} : hasN (X.set l true) n ↔ n = (l : Int) ∨ hasN X n := by
  unfold hasN
  constructor
  · rintro ⟨h0, h1⟩
    by_cases e : n.toNat = l
    · exact .inl (by omega)
    · right
      refine ⟨h0, ?_⟩
      rw [← h1]
      simp [List.getD, List.getElem?_set_ne (fun h => e h.symm)]
  · rintro (rfl | ⟨h0, h1⟩)
    · exact ⟨by omega, by simp [List.getD, hl]⟩
    · refine ⟨h0, ?_⟩
      by_cases e : n.toNat = l
      · subst e; simp [List.getD, hl]
      · rw [← h1]; simp [List.getD, List.getElem?_set_ne (fun h => e h.symm)]

theorem has2_set {F : List (List Bool)} {l t : Nat} (hl : l < F.length) (ht : t < (F.getD l []).length) {u : Nat} {n : Int} : has2 (set2 F l t) u n ↔ (n = (l : Int) ∧ u = t) ∨ has2 F u n := by
  unfold has2
  rw [set2_get]
  by_cases e : n.toNat = l
  · rw [if_pos ⟨e, hl⟩]
    by_cases eu : u = t
    · subst eu
      constructor
      · rintro ⟨h0, _⟩; exact .inl ⟨by omega, rfl⟩
      · intro h
        have h0 : 0 ≤ n := by rcases h with ⟨rfl, _⟩ | ⟨h, _⟩ <;> omega
        exact ⟨h0, by generalize F.getD l [] = X at ht; simp [List.getD, ht]⟩
    · have : ((F.getD l []).set t true).getD u false = (F.getD l []).getD u false := by generalize F.getD l [] = X; simp [List.getD, List.getElem?_set_ne (fun h => eu h.symm)]
      rw [this, e]
      constructor
      · intro h; exact .inr h
      · rintro (⟨_, h⟩ | h)
        · exact absurd h eu
        · exact h
  · rw [if_neg (fun h => e h.1)]
    constructor
    · intro h; exact .inr h
    · rintro (⟨rfl, _⟩ | h)
      · exact absurd (by omega) e
      · exact h

theorem nullB_iff {X : List Bool} {l : List Sy} (h : ∀ s ∈ l, s.1 = false → 0 ≤ s.2) : nullB X l = true ↔ AllN (hasN X) l := by
  unfold nullB AllN hasN
  rw [List.all_eq_true]
  constructor
  · intro hh s hs
    have := hh s hs
    simp only [Bool.and_eq_true, Bool.not_eq_true'] at this
    exact ⟨this.1, h s hs this.1, this.2⟩
  · intro hh s hs
    obtain ⟨h1, _, h2⟩ := hh s hs
    rw [h1, h2]
    rfl

theorem begB_iff {X : List Bool} {F : List (List Bool)} {t : Nat} {l : List Sy} (h : ∀ s ∈ l, s.1 = false → 0 ≤ s.2) : begB X F t l = true ↔ Beg (hasN X) (has2 F t) t l := by
  unfold begB Beg
  rw [List.any_eq_true]
  constructor
  · rintro ⟨i, hi, hh⟩
    have hil : i < l.length := List.mem_range.1 hi
    simp only [Bool.and_eq_true] at hh
    have e : l.getD i (false, 0) = l[i] := by simp [List.getD, hil]
    rw [e] at hh
    refine ⟨i, l[i], by simp [hil], ?_, (nullB_iff fun s hs => h s (List.mem_of_mem_take hs)).1 hh.1⟩
    have hh2 := hh.2
    unfold hitB at hh2
    cases hb : (l[i]).1 with
    | true => rw [hb] at hh2; exact .inl ⟨rfl, by simpa using hh2⟩
    | false => rw [hb] at hh2; exact .inr ⟨rfl, h _ (List.getElem_mem hil) hb, by simpa using hh2⟩
  · rintro ⟨i, s, hs, hh, hn⟩
    have hil : i < l.length := (List.getElem?_eq_some_iff.1 hs).1
    have e : l.getD i (false, 0) = s := by simp [List.getD, hs]
    refine ⟨i, List.mem_range.2 hil, ?_⟩
    rw [(nullB_iff fun s hs => h s (List.mem_of_mem_take hs)).2 hn, e]
    unfold hitB
    rcases hh with ⟨h1, h2⟩ | ⟨h1, _, h2⟩
    · simp [h1, h2]
    · simp [h1]; simpa [List.getD] using h2

section
variable {T N : Nat} {R : List Ru} (hf : Fine T N R)
include hf

theorem rule_mem {i : Nat} (hi : i < R.length) : R.getD i (0, []) ∈ R := by
  have _ := hf.some
  simp [List.getD, hi]

theorem rule_pos {i : Nat} (hi : i < R.length) : ∀ s ∈ (R.getD i (0, [])).2, s.1 = false → 0 ≤ s.2 := fun s hs h => (hf.name _ (rule_mem hf hi) s hs h).1

/-- Null: the rounds make the least set. -/
theorem nullA_iff : (nullA R N).length = N ∧ ∀ n, hasN (nullA R N) n ↔ NullP N R n := by
  have hm := NullF_mono hf
  have main := loopN_inv (n := N + 1) (f := fun _ => loopN R.length (nullS R)) (x := List.replicate N false)
    (fun k X => X.length = N ∧ (∀ n, hasN X n → NullP N R n) ∧ ∀ n, Lv (NullF R) k n → hasN X n)
    ⟨by simp, fun n hn => by
      unfold hasN at hn
      have := hn.2
      by_cases h : n.toNat < N
      · simp [List.getD, h] at this
      · simp [List.getD, List.getElem?_eq_none (show (List.replicate N false).length ≤ n.toNat by simp; omega)] at this, fun n hn => hn.elim⟩
    (fun k _ X ⟨h1, h2, h3⟩ => by
      have inner := loopN_inv (n := R.length) (f := nullS R) (x := X)
        (fun i Y => Y.length = N ∧ (∀ n, hasN Y n → NullP N R n) ∧ (∀ n, Lv (NullF R) k n → hasN Y n) ∧ ∀ j, j < i → AllN (Lv (NullF R) k) (R.getD j (0, [])).2 → hasN Y (R.getD j (0, [])).1)
        ⟨h1, h2, h3, fun j hj => absurd hj (Nat.not_lt_zero _)⟩
        (fun i hi Y ⟨y1, y2, y3, y4⟩ => by
          have hL := hf.left _ (rule_mem hf hi)
          have hl : (R.getD i (0, [])).1.toNat < Y.length := by omega
          have hcast : (((R.getD i (0, [])).1.toNat : Nat) : Int) = (R.getD i (0, [])).1 := by omega
          unfold nullS
          cases hb : nullB Y (R.getD i (0, [])).2 with
          | true =>
            simp only [if_true]
            have hall := (nullB_iff (rule_pos hf hi)).1 hb
            refine ⟨by simp [y1], fun n hn => ?_, fun n hn => (hasN_set hl).2 (.inr (y3 n hn)), fun j hj ha => ?_⟩
            · rcases (hasN_set hl).1 hn with rfl | hn
              · rw [hcast]
                exact Lv_closed hm _ ⟨_, rule_mem hf hi, rfl, hall.mono y2⟩
              · exact y2 n hn
            · rcases Nat.lt_succ_iff_lt_or_eq.1 hj with hj | rfl
              · exact (hasN_set hl).2 (.inr (y4 j hj ha))
              · exact (hasN_set hl).2 (.inl hcast.symm)
          | false =>
            simp only [Bool.false_eq_true, if_false]
            refine ⟨y1, y2, y3, fun j hj ha => ?_⟩
            rcases Nat.lt_succ_iff_lt_or_eq.1 hj with hj | rfl
            · exact y4 j hj ha
            · rw [(nullB_iff (rule_pos hf hi)).2 (ha.mono y3)] at hb; cases hb)
      obtain ⟨z1, z2, _, z4⟩ := inner
      refine ⟨z1, z2, fun n hn => ?_⟩
      obtain ⟨r, hr, rfl, ha⟩ := hn
      obtain ⟨j, hj, rfl⟩ := List.getElem_of_mem hr
      have e : R.getD j (0, []) = R[j] := by simp [List.getD, hj]
      have := z4 j hj (by rw [e]; exact ha)
      rwa [e] at this)
  obtain ⟨m1, m2, m3⟩ := main
  exact ⟨m1, fun n => ⟨m2 n, fun hn => m3 n (Lv_succ hm N n hn)⟩⟩

/-- A table of N rows, each of w truths. -/
def Shape (N w : Nat) (F : List (List Bool)) : Prop := F.length = N ∧ ∀ n, n < N → (F.getD n []).length = w

omit hf in
theorem Shape.set2 {N w : Nat} {F : List (List Bool)} (h : Shape N w F) (l t : Nat) : Shape N w (set2 F l t) := by
  refine ⟨by rw [set2_length]; exact h.1, fun n hn => ?_⟩
  rw [set2_get]
  split
  · rename_i e
    rw [List.length_set, ← e.1]
    exact h.2 n hn
  · exact h.2 n hn

omit hf in
theorem Shape.replicate (N w : Nat) : Shape N w (List.replicate N (List.replicate w false)) := by
  refine ⟨by simp, fun n hn => ?_⟩
  simp [List.getD, hn]

omit hf in
theorem has2_replicate {N w t : Nat} {n : Int} : ¬ has2 (List.replicate N (List.replicate w false)) t n := by
  rintro ⟨_, h⟩
  by_cases h1 : n.toNat < N
  · by_cases h2 : t < w
    · simp [List.getD, h1, h2] at h
    · simp [List.getD, h1, h2] at h
  · simp [List.getD, h1] at h

/-- First: likewise. -/
theorem firstA_iff {Nu : List Bool} (hNu : ∀ n, hasN Nu n ↔ NullP N R n) : Shape N T (firstA R Nu T N) ∧ ∀ t, t < T → ∀ n, has2 (firstA R Nu T N) t n ↔ FirstP N R t n := by
  have hNe : hasN Nu = NullP N R := funext fun n => propext (hNu n)
  have hm := fun t : Int => FirstF_mono hf (NullP N R) t
  have main := loopN_inv (n := N + 1) (f := fun _ => loopN R.length fun i => loopN T fun t => firstS R Nu i t) (x := List.replicate N (List.replicate T false))
    (fun k X => Shape N T X ∧ (∀ t, t < T → ∀ n, has2 X t n → FirstP N R t n) ∧ ∀ t, t < T → ∀ n, Lv (FirstF R (NullP N R) t) k n → has2 X t n)
    ⟨Shape.replicate N T, fun t _ n hn => absurd hn has2_replicate, fun t _ n hn => hn.elim⟩
    (fun k _ X ⟨h1, h2, h3⟩ => by
      have inner := loopN_inv (n := R.length) (f := fun i => loopN T fun t => firstS R Nu i t) (x := X)
        (fun i Y => Shape N T Y ∧ (∀ t, t < T → ∀ n, has2 Y t n → FirstP N R t n) ∧ (∀ t, t < T → ∀ n, Lv (FirstF R (NullP N R) t) k n → has2 Y t n) ∧
          ∀ j, j < i → ∀ t, t < T → Beg (NullP N R) (Lv (FirstF R (NullP N R) t) k) t (R.getD j (0, [])).2 → has2 Y t (R.getD j (0, [])).1)
        ⟨h1, h2, h3, fun j hj => absurd hj (Nat.not_lt_zero _)⟩
        (fun i hi Y ⟨y1, y2, y3, y4⟩ => by
          have hL := hf.left _ (rule_mem hf hi)
          have hcast : (((R.getD i (0, [])).1.toNat : Nat) : Int) = (R.getD i (0, [])).1 := by omega
          have deep := loopN_inv (n := T) (f := fun t => firstS R Nu i t) (x := Y)
            (fun u Z => Shape N T Z ∧ (∀ t, t < T → ∀ n, has2 Z t n → FirstP N R t n) ∧ (∀ t n, has2 Y t n → has2 Z t n) ∧
              ∀ t, t < u → t < T → Beg (NullP N R) (Lv (FirstF R (NullP N R) t) k) t (R.getD i (0, [])).2 → has2 Z t (R.getD i (0, [])).1)
            ⟨y1, y2, fun _ _ h => h, fun t ht => absurd ht (Nat.not_lt_zero _)⟩
            (fun u hu Z ⟨z1, z2, z3, z4⟩ => by
              have hl : (R.getD i (0, [])).1.toNat < Z.length := by rw [z1.1]; omega
              have hw : u < (Z.getD (R.getD i (0, [])).1.toNat []).length := by rw [z1.2 _ (by omega)]; exact hu
              unfold firstS
              cases hb : begB Nu Z u (R.getD i (0, [])).2 with
              | true =>
                simp only [if_true]
                have hbeg := (begB_iff (rule_pos hf hi)).1 hb
                rw [hNe] at hbeg
                refine ⟨z1.set2 _ _, fun t ht n hn => ?_, fun t n hn => (has2_set hl hw).2 (.inr (z3 t n hn)), fun t ht htT ha => ?_⟩
                · rcases (has2_set hl hw).1 hn with ⟨rfl, rfl⟩ | hn
                  · rw [hcast]
                    exact Lv_closed (hm t) _ ⟨_, rule_mem hf hi, rfl, hbeg.mono (z2 t ht)⟩
                  · exact z2 t ht n hn
                · rcases Nat.lt_succ_iff_lt_or_eq.1 ht with ht | rfl
                  · exact (has2_set hl hw).2 (.inr (z4 t ht htT ha))
                  · exact (has2_set hl hw).2 (.inl ⟨hcast.symm, rfl⟩)
              | false =>
                simp only [Bool.false_eq_true, if_false]
                refine ⟨z1, z2, z3, fun t ht htT ha => ?_⟩
                rcases Nat.lt_succ_iff_lt_or_eq.1 ht with ht | rfl
                · exact z4 t ht htT ha
                · have : begB Nu Z t (R.getD i (0, [])).2 = true := (begB_iff (rule_pos hf hi)).2 (by rw [hNe]; exact ha.mono fun n hn => z3 t n (y3 t htT n hn))
                  rw [this] at hb; cases hb)
          obtain ⟨d1, d2, d3, d4⟩ := deep
          refine ⟨d1, d2, fun t ht n hn => d3 t n (y3 t ht n hn), fun j hj t ht ha => ?_⟩
          rcases Nat.lt_succ_iff_lt_or_eq.1 hj with hj | rfl
          · exact d3 t _ (y4 j hj t ht ha)
          · exact d4 t ht ht ha)
      obtain ⟨z1, z2, _, z4⟩ := inner
      refine ⟨z1, z2, fun t ht n hn => ?_⟩
      obtain ⟨r, hr, rfl, ha⟩ := hn
      obtain ⟨j, hj, rfl⟩ := List.getElem_of_mem hr
      have e : R.getD j (0, []) = R[j] := by simp [List.getD, hj]
      have := z4 j hj t ht (by rw [e]; exact ha)
      rwa [e] at this)
  obtain ⟨m1, m2, m3⟩ := main
  exact ⟨m1, fun t ht n => ⟨m2 t ht n, fun hn => m3 t ht n (Lv_succ (hm t) N n hn)⟩⟩

/-- Follow: likewise. -/
theorem followA_iff {Nu : List Bool} {Fi : List (List Bool)} (hNu : ∀ n, hasN Nu n ↔ NullP N R n) (hFi : ∀ t, t < T → ∀ n, has2 Fi t n ↔ FirstP N R t n) :
    Shape N (T + 1) (followA R Nu Fi T N) ∧ ∀ t, t < T + 1 → ∀ n, has2 (followA R Nu Fi T N) t n ↔ FollowP T N R t n := by
  have hNe : hasN Nu = NullP N R := funext fun n => propext (hNu n)
  have hFe : ∀ t, t < T → has2 Fi t = FirstP N R t := fun t ht => funext fun n => propext (hFi t ht n)
  have hm := fun t : Int => FollowF_mono hf (NullP N R) (FirstP N R) t
  have h1N := hf.some
  have s0 : Shape N (T + 1) (set2 (List.replicate N (List.replicate (T + 1) false)) 0 T) := (Shape.replicate N (T + 1)).set2 0 T
  have h00 : ∀ {u : Nat} {n : Int}, has2 (set2 (List.replicate N (List.replicate (T + 1) false)) 0 T) u n ↔ n = 0 ∧ u = T := by
    intro u n
    rw [has2_set (by simp; omega) (by rw [(Shape.replicate N (T + 1)).2 0 (by omega)]; omega)]
    constructor
    · rintro (⟨h1, h2⟩ | h)
      · exact ⟨by simpa using h1, h2⟩
      · exact absurd h has2_replicate
    · rintro ⟨h1, h2⟩; exact .inl ⟨by simpa using h1, h2⟩
  have main := loopN_inv (n := N + 1) (f := fun _ => loopN R.length fun i => loopN (R.getD i (0, [])).2.length fun k => followK R Nu Fi T i k) (x := set2 (List.replicate N (List.replicate (T + 1) false)) 0 T)
    (fun m X => Shape N (T + 1) X ∧ (∀ t, t < T + 1 → ∀ n, has2 X t n → FollowP T N R t n) ∧ (∀ t, t < T + 1 → ∀ n, Lv (FollowF R (NullP N R) (FirstP N R) T t) m n → has2 X t n) ∧ has2 X T 0)
    ⟨s0, fun t _ n hn => by
      obtain ⟨rfl, rfl⟩ := h00.1 hn
      exact Lv_closed (hm t) 0 (.inl ⟨rfl, rfl⟩), fun t _ n hn => hn.elim, h00.2 ⟨rfl, rfl⟩⟩
    (fun m _ X ⟨h1, h2, h3, h4⟩ => by
      have inner := loopN_inv (n := R.length) (f := fun i => loopN (R.getD i (0, [])).2.length fun k => followK R Nu Fi T i k) (x := X)
        (fun i Y => Shape N (T + 1) Y ∧ (∀ t, t < T + 1 → ∀ n, has2 Y t n → FollowP T N R t n) ∧ (∀ t n, has2 X t n → has2 Y t n) ∧
          ∀ j, j < i → ∀ k n, (R.getD j (0, [])).2[k]? = some (false, n) → ∀ t, t < T + 1 →
            (((t : Int) < T ∧ Beg (NullP N R) (FirstP N R t) t ((R.getD j (0, [])).2.drop (k + 1))) ∨ (AllN (NullP N R) ((R.getD j (0, [])).2.drop (k + 1)) ∧ Lv (FollowF R (NullP N R) (FirstP N R) T t) m (R.getD j (0, [])).1)) → has2 Y t n)
        ⟨h1, h2, fun _ _ h => h, fun j hj => absurd hj (Nat.not_lt_zero _)⟩
        (fun i hi Y ⟨y1, y2, y3, y4⟩ => by
          have hL := hf.left _ (rule_mem hf hi)
          have hcL : (((R.getD i (0, [])).1.toNat : Nat) : Int) = (R.getD i (0, [])).1 := by omega
          have mid := loopN_inv (n := (R.getD i (0, [])).2.length) (f := fun k => followK R Nu Fi T i k) (x := Y)
            (fun q Z => Shape N (T + 1) Z ∧ (∀ t, t < T + 1 → ∀ n, has2 Z t n → FollowP T N R t n) ∧ (∀ t n, has2 Y t n → has2 Z t n) ∧
              ∀ k, k < q → ∀ n, (R.getD i (0, [])).2[k]? = some (false, n) → ∀ t, t < T + 1 →
                (((t : Int) < T ∧ Beg (NullP N R) (FirstP N R t) t ((R.getD i (0, [])).2.drop (k + 1))) ∨ (AllN (NullP N R) ((R.getD i (0, [])).2.drop (k + 1)) ∧ Lv (FollowF R (NullP N R) (FirstP N R) T t) m (R.getD i (0, [])).1)) → has2 Z t n)
            ⟨y1, y2, fun _ _ h => h, fun k hk => absurd hk (Nat.not_lt_zero _)⟩
            (fun q hq Z ⟨z1, z2, z3, z4⟩ => by
              obtain ⟨⟨tb, v⟩, hs⟩ : ∃ s, (R.getD i (0, [])).2[q]? = some s := ⟨(R.getD i (0, [])).2[q], by simp⟩
              have hgs : (R.getD i (0, [])).2.getD q (false, 0) = (tb, v) := by generalize (R.getD i (0, [])).2 = l at *; simp [List.getD, hs]
              unfold followK
              rw [hgs]
              cases tb with
              | true =>
                simp only [if_true]
                refine ⟨z1, z2, z3, fun k hk n hn => ?_⟩
                rcases Nat.lt_succ_iff_lt_or_eq.1 hk with hk | rfl
                · exact z4 k hk n hn
                · rw [hs] at hn; cases hn
              | false =>
                simp only [Bool.false_eq_true, if_false]
                have hmem : (false, v) ∈ (R.getD i (0, [])).2 := List.mem_of_getElem? hs
                have hv := hf.name _ (rule_mem hf hi) _ hmem rfl
                simp only at hv
                have hcv : ((v.toNat : Nat) : Int) = v := by omega
                have hpos : ∀ s ∈ (R.getD i (0, [])).2.drop (q + 1), s.1 = false → 0 ≤ s.2 := fun s hs' => rule_pos hf hi s (List.mem_of_mem_drop hs')
                have deep := loopN_inv (n := T + 1) (f := fun t => followS R Nu Fi T i q t) (x := Z)
                  (fun u V => Shape N (T + 1) V ∧ (∀ t, t < T + 1 → ∀ n, has2 V t n → FollowP T N R t n) ∧ (∀ t n, has2 Z t n → has2 V t n) ∧
                    ∀ t, t < u → t < T + 1 → (((t : Int) < T ∧ Beg (NullP N R) (FirstP N R t) t ((R.getD i (0, [])).2.drop (q + 1))) ∨ (AllN (NullP N R) ((R.getD i (0, [])).2.drop (q + 1)) ∧ Lv (FollowF R (NullP N R) (FirstP N R) T t) m (R.getD i (0, [])).1)) → has2 V t v)
                  ⟨z1, z2, fun _ _ h => h, fun t ht => absurd ht (Nat.not_lt_zero _)⟩
                  (fun u hu V ⟨v1, v2, v3, v4⟩ => by
                    have hl : v.toNat < V.length := by rw [v1.1]; omega
                    have hw : u < (V.getD v.toNat []).length := by rw [v1.2 _ (by omega)]; exact hu
                    unfold followS
                    rw [hgs]
                    cases hb : ((decide (u < T) && begB Nu Fi u ((R.getD i (0, [])).2.drop (q + 1))) || (nullB Nu ((R.getD i (0, [])).2.drop (q + 1)) && (V.getD (R.getD i (0, [])).1.toNat []).getD u false)) with
                    | true =>
                      simp only [if_true]
                      have hprem : FollowF R (NullP N R) (FirstP N R) T u (FollowP T N R u) v := by
                        refine .inr ⟨_, rule_mem hf hi, q, hs, ?_⟩
                        simp only [Bool.or_eq_true, Bool.and_eq_true, decide_eq_true_eq] at hb
                        rcases hb with ⟨b1, b2⟩ | ⟨b1, b2⟩
                        · have := (begB_iff hpos).1 b2
                          rw [hNe, hFe u b1] at this
                          exact .inl ⟨by omega, this⟩
                        · have := (nullB_iff hpos).1 b1
                          rw [hNe] at this
                          exact .inr ⟨this, v2 u hu _ ⟨hL.1, b2⟩⟩
                      refine ⟨v1.set2 _ _, fun t ht n hn => ?_, fun t n hn => (has2_set hl hw).2 (.inr (v3 t n hn)), fun t ht htT ha => ?_⟩
                      · rcases (has2_set hl hw).1 hn with ⟨rfl, rfl⟩ | hn
                        · rw [hcv]
                          exact Lv_closed (hm t) _ hprem
                        · exact v2 t ht n hn
                      · rcases Nat.lt_succ_iff_lt_or_eq.1 ht with ht | rfl
                        · exact (has2_set hl hw).2 (.inr (v4 t ht htT ha))
                        · exact (has2_set hl hw).2 (.inl ⟨hcv.symm, rfl⟩)
                    | false =>
                      simp only [Bool.false_eq_true, if_false]
                      refine ⟨v1, v2, v3, fun t ht htT ha => ?_⟩
                      rcases Nat.lt_succ_iff_lt_or_eq.1 ht with ht | rfl
                      · exact v4 t ht htT ha
                      · exfalso
                        simp only [Bool.or_eq_false_iff] at hb
                        rcases ha with ⟨a1, a2⟩ | ⟨a1, a2⟩
                        · have ht' : t < T := by omega
                          have : begB Nu Fi t ((R.getD i (0, [])).2.drop (q + 1)) = true := (begB_iff hpos).2 (by rw [hNe, hFe t ht']; exact a2)
                          rw [this] at hb
                          simp [ht'] at hb
                        · have hn1 : nullB Nu ((R.getD i (0, [])).2.drop (q + 1)) = true := (nullB_iff hpos).2 (by rw [hNe]; exact a1)
                          have hn2 := (v3 t _ (z3 t _ (y3 t _ (h3 t htT _ a2)))).2
                          rw [hn1, hn2] at hb
                          simp at hb)
                obtain ⟨d1, d2, d3, d4⟩ := deep
                refine ⟨d1, d2, fun t n hn => d3 t n (z3 t n hn), fun k hk n hn t ht ha => ?_⟩
                rcases Nat.lt_succ_iff_lt_or_eq.1 hk with hk | rfl
                · exact d3 t n (z4 k hk n hn t ht ha)
                · rw [hs] at hn
                  cases hn
                  exact d4 t ht ht ha)
          obtain ⟨z1, z2, z3, z4⟩ := mid
          refine ⟨z1, z2, fun t n hn => z3 t n (y3 t n hn), fun j hj k n hn t ht ha => ?_⟩
          rcases Nat.lt_succ_iff_lt_or_eq.1 hj with hj | rfl
          · exact z3 t n (y4 j hj k n hn t ht ha)
          · exact z4 k (List.getElem?_eq_some_iff.1 hn).1 n hn t ht ha)
      obtain ⟨z1, z2, z3, z4⟩ := inner
      refine ⟨z1, z2, fun t ht n hn => ?_, z3 _ _ h4⟩
      rcases hn with ⟨rfl, hT⟩ | ⟨r, hr, k, hk, ha⟩
      · obtain rfl : t = T := by omega
        exact z3 _ _ h4
      · obtain ⟨j, hj, rfl⟩ := List.getElem_of_mem hr
        have e : R.getD j (0, []) = R[j] := by simp [List.getD, hj]
        exact z4 j hj k n (by rw [e]; exact hk) t ht (by rw [e]; exact ha))
  obtain ⟨m1, m2, m3, _⟩ := main
  exact ⟨m1, fun t ht n => ⟨m2 t ht n, fun hn => m3 t ht n (Lv_succ (hm t) N n hn)⟩⟩
end

end Go.Proofs.Ytobegekmgoiopaa
