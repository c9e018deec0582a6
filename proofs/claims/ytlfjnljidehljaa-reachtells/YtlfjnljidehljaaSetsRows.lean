/- How sets lie in memory while they are made; what is made at first. No walk. -/
import Derived.Test.YtlfjnljidehljaaRowB
namespace Go.Proofs.Ytlfjnljidehljaa
open Go.RowKit

def set2 (F : List (List Bool)) (n t : Nat) : List (List Bool) := F.set n ((F.getD n []).set t true)

theorem set2_length (F : List (List Bool)) (n t : Nat) : (set2 F n t).length = F.length := by simp [set2]
theorem set2_get (F : List (List Bool)) (n t m : Nat) : (set2 F n t).getD m [] = if m = n ∧ n < F.length then (F.getD n []).set t true else F.getD m [] := by
  unfold set2
  by_cases h : m = n
  · subst h
    by_cases hl : m < F.length
    · simp [List.getD, hl]
    · simp [List.getD, hl]
  · have h' : n ≠ m := fun e => h e.symm
    simp [List.getD, List.getElem?_set_ne h', h]

/-- The rows of the sets. -/
inductive Ix where
  | st | null | fh | gh
  | f (n : Nat)
  | g (n : Nat)
  deriving DecidableEq

/-- The struct at block sb, its three slices, and their rows. m: how many rows of First, of Follow there are. -/
def Pset (sb T N mf mg : Nat) (nv fv gv : Value) (vf vg : Nat → Value) (Nu : List Bool) (Fi Fo : List (List Bool)) : Ix → Option Row
  | .st => some ⟨.slice (some ⟨sb, 0, none⟩) 1 1, 43, 3, 1, [nv, fv, gv]⟩
  | .null => some ⟨nv, 4, 1, N, Nu.map Value.bool⟩
  | .fh => some ⟨fv, 25, 1, mf, (List.range mf).map vf⟩
  | .gh => some ⟨gv, 25, 1, mg, (List.range mg).map vg⟩
  | .f n => if n < mf then some ⟨vf n, 4, 1, T, (Fi.getD n []).map Value.bool⟩ else none
  | .g n => if n < mg then some ⟨vg n, 4, 1, T + 1, (Fo.getD n []).map Value.bool⟩ else none

section
variable {w : World} {base sb T N mf mg : Nat} {nv fv gv : Value} {vf vg : Nat → Value} {Nu : List Bool} {Fi Fo : List (List Bool)}

theorem Owns.nullLen (h : Owns w base (Pset sb T N mf mg nv fv gv vf vg Nu Fi Fo)) : Nu.length = N := by
  have := (h.own .null _ rfl).1
  simpa using this
theorem Owns.firstLen (h : Owns w base (Pset sb T N mf mg nv fv gv vf vg Nu Fi Fo)) {n : Nat} (hn : n < mf) : (Fi.getD n []).length = T := by
  have := (h.own (.f n) _ (by simp [Pset, hn]; rfl)).1
  simpa using this
theorem Owns.followLen (h : Owns w base (Pset sb T N mf mg nv fv gv vf vg Nu Fi Fo)) {n : Nat} (hn : n < mg) : (Fo.getD n []).length = T + 1 := by
  have := (h.own (.g n) _ (by simp [Pset, hn]; rfl)).1
  simpa using this

/-- The three slices, in the struct. -/
theorem Owns.fields (h : Owns w base (Pset sb T N mf mg nv fv gv vf vg Nu Fi Fo)) :
    w.cell? ⟨sb, 0, none⟩ = some nv ∧ w.cell? ⟨sb, 1, none⟩ = some fv ∧ w.cell? ⟨sb, 2, none⟩ = some gv ∧ (∀ j, w.frozen? ⟨sb, j, none⟩ = false) := by
  have hh := h.own .st _ rfl
  simp only at hh
  exact ⟨hh.cellAt 0 (by omega), hh.cellAt 1 (by omega), hh.cellAt 2 (by omega), hh.frozenAt⟩

theorem Owns.setNull {ng nc : Nat} (h : Owns w base (Pset sb T N mf mg (.slice (some ⟨ng, 0, none⟩) N nc) fv gv vf vg Nu Fi Fo)) (n : Nat) :
    Owns (w.setCell ⟨ng, n, none⟩ (.bool true)) base (Pset sb T N mf mg (.slice (some ⟨ng, 0, none⟩) N nc) fv gv vf vg (Nu.set n true) Fi Fo) := by
  have := h.store (i := .null) rfl n (.bool true)
  have e : upd (Pset sb T N mf mg (.slice (some ⟨ng, 0, none⟩) N nc) fv gv vf vg Nu Fi Fo) .null ⟨.slice (some ⟨ng, 0, none⟩) N nc, 4, 1, N, (Nu.map Value.bool).set n (.bool true)⟩ = Pset sb T N mf mg (.slice (some ⟨ng, 0, none⟩) N nc) fv gv vf vg (Nu.set n true) Fi Fo := by
    funext x
    cases x <;> simp [upd, Pset, List.map_set]
  rwa [e] at this

theorem Owns.setFirst (h : Owns w base (Pset sb T N mf mg nv fv gv vf vg Nu Fi Fo)) (hF : Fi.length = mf) {n fg fc : Nat} (hn : n < mf) (hv : vf n = .slice (some ⟨fg, 0, none⟩) T fc) (t : Nat) :
    Owns (w.setCell ⟨fg, t, none⟩ (.bool true)) base (Pset sb T N mf mg nv fv gv vf vg Nu (set2 Fi n t) Fo) := by
  have := h.store (i := .f n) (g := fg) (n := T) (cap := fc) (e := 4) (size := 1) (xs := (Fi.getD n []).map Value.bool) (by simp [Pset, hn, hv]) t (.bool true)
  have e : upd (Pset sb T N mf mg nv fv gv vf vg Nu Fi Fo) (.f n) ⟨.slice (some ⟨fg, 0, none⟩) T fc, 4, 1, T, ((Fi.getD n []).map Value.bool).set t (.bool true)⟩ = Pset sb T N mf mg nv fv gv vf vg Nu (set2 Fi n t) Fo := by
    funext x
    cases x with
    | f m =>
      by_cases hm : m = n
      · subst hm
        simp only [upd, Pset, if_true, hn]
        rw [set2_get, if_pos ⟨rfl, by omega⟩, List.map_set, hv]
      · have : Ix.f m ≠ Ix.f n := fun e => hm (by cases e; rfl)
        simp only [upd, Pset, if_neg this]
        have e2 : ∀ X : List (List Bool), (set2 X n t).getD m [] = X.getD m [] := fun X => by rw [set2_get, if_neg (fun e => hm e.1)]
        rw [e2]
    | _ => simp [upd, Pset]
  rwa [e] at this

theorem Owns.setFollow (h : Owns w base (Pset sb T N mf mg nv fv gv vf vg Nu Fi Fo)) (hF : Fo.length = mg) {n fg fc : Nat} (hn : n < mg) (hv : vg n = .slice (some ⟨fg, 0, none⟩) (T + 1) fc) (t : Nat) :
    Owns (w.setCell ⟨fg, t, none⟩ (.bool true)) base (Pset sb T N mf mg nv fv gv vf vg Nu Fi (set2 Fo n t)) := by
  have := h.store (i := .g n) (g := fg) (n := T + 1) (cap := fc) (e := 4) (size := 1) (xs := (Fo.getD n []).map Value.bool) (by simp [Pset, hn, hv]) t (.bool true)
  have e : upd (Pset sb T N mf mg nv fv gv vf vg Nu Fi Fo) (.g n) ⟨.slice (some ⟨fg, 0, none⟩) (T + 1) fc, 4, 1, T + 1, ((Fo.getD n []).map Value.bool).set t (.bool true)⟩ = Pset sb T N mf mg nv fv gv vf vg Nu Fi (set2 Fo n t) := by
    funext x
    cases x with
    | g m =>
      by_cases hm : m = n
      · subst hm
        simp only [upd, Pset, if_true, hn]
        rw [set2_get, if_pos ⟨rfl, by omega⟩, List.map_set, hv]
      · have : Ix.g m ≠ Ix.g n := fun e => hm (by cases e; rfl)
        simp only [upd, Pset, if_neg this]
        have e2 : ∀ X : List (List Bool), (set2 X n t).getD m [] = X.getD m [] := fun X => by rw [set2_get, if_neg (fun e => hm e.1)]
        rw [e2]
    | _ => simp [upd, Pset]
  rwa [e] at this

theorem Owns.make {ι : Type} [DecidableEq ι] {w : World} {base : Nat} {P : ι → Option Row} (h : Owns w base P) (i : ι) (n : Nat) (hb : base ≤ w.heap.size) (hn : n ≤ maxLen) :
    Owns (w.alloc (.cells (madeCells #[.bool false] n) 4)) base (upd P i ⟨.slice (some ⟨w.heap.size, 0, none⟩) n n, 4, 1, n, (List.replicate n false).map Value.bool⟩) := by
  refine h.new i (World.grownBy_alloc w _ none) ?_ (fun g hg => by simpa [Value.ownBlock] using hg.symm)
  have := World.ownsRow_lit (base := base) (e := 4) (size := 1) w (madeCells #[.bool false] n) n hb hn (by simp [size_madeCells])
  rw [toList_madeCells_one] at this
  simpa using this

theorem Owns.pushFirst {m : Nat} (h : Owns w base (Pset sb T N m mg nv fv gv vf vg Nu Fi Fo)) (hF : Fi.length = m) (hb : base ≤ w.heap.size) (hT : T ≤ maxLen) {w1 : World} {o : Obj} {g cap : Nat}
    (hg : ((w.alloc (.cells (madeCells #[.bool false] T) 4)).alloc o).drew.grownBy w1 fv.ownBlock)
    (hown : w1.ownsRow base 25 1 (.slice (some ⟨g, 0, none⟩) (m + 1) cap) (m + 1) ((List.range m).map vf ++ [.slice (some ⟨w.heap.size, 0, none⟩) T T])) (hat : fv.ownBlock = some g ∨ g = w.heap.size + 2) :
    Owns (w1.setCell ⟨sb, 1, none⟩ (.slice (some ⟨g, 0, none⟩) (m + 1) cap)) base
      (Pset sb T N (m + 1) mg nv (.slice (some ⟨g, 0, none⟩) (m + 1) cap) gv (fun n => if n = m then .slice (some ⟨w.heap.size, 0, none⟩) T T else vf n) vg Nu (Fi ++ [List.replicate T false]) Fo) := by
  have h1 := ((h.make (.f m) T hb hT).alloc o).drew
  have h2 := h1.turn (i := .fh) (r := ⟨fv, 25, 1, m, (List.range m).map vf⟩) (r' := ⟨.slice (some ⟨g, 0, none⟩) (m + 1) cap, 25, 1, m + 1, (List.range m).map vf ++ [.slice (some ⟨w.heap.size, 0, none⟩) T T]⟩)
    (by rw [upd_other _ (by simp)]; rfl) hg hown (fun k hk => by
      simp only [Value.ownBlock, Option.some.injEq] at hk
      subst hk
      simpa using hat)
  have h3 := h2.store (i := .st) (g := sb) (n := 1) (cap := 1) (e := 43) (size := 3) (xs := [nv, fv, gv]) (by rw [upd_other _ (by simp), upd_other _ (by simp)]; rfl) 1 (.slice (some ⟨g, 0, none⟩) (m + 1) cap)
  have e : upd (upd (upd (Pset sb T N m mg nv fv gv vf vg Nu Fi Fo) (.f m) ⟨.slice (some ⟨w.heap.size, 0, none⟩) T T, 4, 1, T, (List.replicate T false).map Value.bool⟩) .fh
      ⟨.slice (some ⟨g, 0, none⟩) (m + 1) cap, 25, 1, m + 1, (List.range m).map vf ++ [.slice (some ⟨w.heap.size, 0, none⟩) T T]⟩) .st ⟨.slice (some ⟨sb, 0, none⟩) 1 1, 43, 3, 1, [nv, fv, gv].set 1 (.slice (some ⟨g, 0, none⟩) (m + 1) cap)⟩ =
      Pset sb T N (m + 1) mg nv (.slice (some ⟨g, 0, none⟩) (m + 1) cap) gv (fun n => if n = m then .slice (some ⟨w.heap.size, 0, none⟩) T T else vf n) vg Nu (Fi ++ [List.replicate T false]) Fo := by
    funext x
    cases x with
    | st => simp [upd, Pset]
    | null => simp [upd, Pset]
    | gh => simp [upd, Pset]
    | g n => simp [upd, Pset]
    | fh =>
      simp only [upd, Pset]
      simp only [reduceCtorEq, if_false, if_true]
      congr 2
      rw [List.range_succ, List.map_append]
      congr 1
      · refine List.map_congr_left fun a ha => ?_
        have := List.mem_range.1 ha
        rw [if_neg (by omega)]
      · simp
    | f n =>
      simp only [upd, Pset, reduceCtorEq, if_false, Ix.f.injEq]
      by_cases hn : n = m
      · subst hn
        simp [List.getD, hF]
      · by_cases hlt : n < m
        · rw [if_neg hn, if_pos hlt, if_pos (by omega), if_neg hn]
          simp [List.getD, List.getElem?_append_left (show n < Fi.length by omega)]
        · rw [if_neg hn, if_neg hlt, if_neg (by omega)]
  rwa [e] at h3

theorem Owns.pushFollow {m : Nat} (h : Owns w base (Pset sb T N mf m nv fv gv vf vg Nu Fi Fo)) (hF : Fo.length = m) (hb : base ≤ w.heap.size) (hT : T + 1 ≤ maxLen) {w1 : World} {o : Obj} {g cap : Nat}
    (hg : ((w.alloc (.cells (madeCells #[.bool false] (T + 1)) 4)).alloc o).drew.grownBy w1 gv.ownBlock)
    (hown : w1.ownsRow base 25 1 (.slice (some ⟨g, 0, none⟩) (m + 1) cap) (m + 1) ((List.range m).map vg ++ [.slice (some ⟨w.heap.size, 0, none⟩) (T + 1) (T + 1)])) (hat : gv.ownBlock = some g ∨ g = w.heap.size + 2) :
    Owns (w1.setCell ⟨sb, 2, none⟩ (.slice (some ⟨g, 0, none⟩) (m + 1) cap)) base
      (Pset sb T N mf (m + 1) nv fv (.slice (some ⟨g, 0, none⟩) (m + 1) cap) vf (fun n => if n = m then .slice (some ⟨w.heap.size, 0, none⟩) (T + 1) (T + 1) else vg n) Nu Fi (Fo ++ [List.replicate (T + 1) false])) := by
  have h1 := ((h.make (.g m) (T + 1) hb hT).alloc o).drew
  have h2 := h1.turn (i := .gh) (r := ⟨gv, 25, 1, m, (List.range m).map vg⟩) (r' := ⟨.slice (some ⟨g, 0, none⟩) (m + 1) cap, 25, 1, m + 1, (List.range m).map vg ++ [.slice (some ⟨w.heap.size, 0, none⟩) (T + 1) (T + 1)]⟩)
    (by rw [upd_other _ (by simp)]; rfl) hg hown (fun k hk => by
      simp only [Value.ownBlock, Option.some.injEq] at hk
      subst hk
      simpa using hat)
  have h3 := h2.store (i := .st) (g := sb) (n := 1) (cap := 1) (e := 43) (size := 3) (xs := [nv, fv, gv]) (by rw [upd_other _ (by simp), upd_other _ (by simp)]; rfl) 2 (.slice (some ⟨g, 0, none⟩) (m + 1) cap)
  have e : upd (upd (upd (Pset sb T N mf m nv fv gv vf vg Nu Fi Fo) (.g m) ⟨.slice (some ⟨w.heap.size, 0, none⟩) (T + 1) (T + 1), 4, 1, T + 1, (List.replicate (T + 1) false).map Value.bool⟩) .gh
      ⟨.slice (some ⟨g, 0, none⟩) (m + 1) cap, 25, 1, m + 1, (List.range m).map vg ++ [.slice (some ⟨w.heap.size, 0, none⟩) (T + 1) (T + 1)]⟩) .st ⟨.slice (some ⟨sb, 0, none⟩) 1 1, 43, 3, 1, [nv, fv, gv].set 2 (.slice (some ⟨g, 0, none⟩) (m + 1) cap)⟩ =
      Pset sb T N mf (m + 1) nv fv (.slice (some ⟨g, 0, none⟩) (m + 1) cap) vf (fun n => if n = m then .slice (some ⟨w.heap.size, 0, none⟩) (T + 1) (T + 1) else vg n) Nu Fi (Fo ++ [List.replicate (T + 1) false]) := by
    funext x
    cases x with
    | st => simp [upd, Pset]
    | null => simp [upd, Pset]
    | fh => simp [upd, Pset]
    | f n => simp [upd, Pset]
    | gh =>
      simp only [upd, Pset]
      simp only [reduceCtorEq, if_false, if_true]
      congr 2
      rw [List.range_succ, List.map_append]
      congr 1
      · refine List.map_congr_left fun a ha => ?_
        have := List.mem_range.1 ha
        rw [if_neg (by omega)]
      · simp
    | g n =>
      simp only [upd, Pset, reduceCtorEq, if_false, Ix.g.injEq]
      by_cases hn : n = m
      · subst hn
        simp [List.getD, hF]
      · by_cases hlt : n < m
        · rw [if_neg hn, if_pos hlt, if_pos (by omega), if_neg hn]
          simp [List.getD, List.getElem?_append_left (show n < Fo.length by omega)]
        · rw [if_neg hn, if_neg hlt, if_neg (by omega)]
  rwa [e] at h3
end

theorem Try.infoBools : (Try.prog.info? 25).map (fun i => (i.zero, i.size, i.bytes)) = some (some (.slice none 0 0), 1, 24) := by kernel_rfl

/-- The sets Nu, Fi, Fo lie in memory; nothing below B has turned since W. -/
def SR (W : World) (B sb T N mf mg : Nat) (Nu : List Bool) (Fi Fo : List (List Bool)) (wr : World) : Prop :=
  Below B W wr ∧ B ≤ wr.heap.size ∧ Fi.length = mf ∧ Fo.length = mg ∧ ∃ nv fv gv vf vg, Owns wr B (Pset sb T N mf mg nv fv gv vf vg Nu Fi Fo)

theorem start_sr (w : World) (T N : Nat) (hN : N ≤ maxLen) (o1 o2 : Obj) :
    SR ((w.alloc o1).alloc o2) (w.heap.size + 2) (w.heap.size + 1 + 1 + 1) T N 0 0 (List.replicate N false) [] []
      ((((w.alloc o1).alloc o2).alloc (.cells (madeCells #[.bool false] N) 4)).alloc (.cells #[.slice (some ⟨w.heap.size + 1 + 1, 0, none⟩) N N, .slice none 0 0, .slice none 0 0] 43)) := by
  refine ⟨((Below.refl _ _).alloc (by simp) _).alloc (by simp) _, by simp, rfl, rfl, .slice (some ⟨w.heap.size + 1 + 1, 0, none⟩) N N, .slice none 0 0, .slice none 0 0, fun _ => .nilIface, fun _ => .nilIface, ?_⟩
  have h0 : Owns ((w.alloc o1).alloc o2) (w.heap.size + 2) (fun _ : Ix => none) := ⟨fun i r h => (by cases h), fun i j a b _ h => (by cases h)⟩
  have h1 := h0.make .null N (by simp) hN
  have h2 := h1.new .st (r := ⟨.slice (some ⟨w.heap.size + 1 + 1 + 1, 0, none⟩) 1 1, 43, 3, 1, [.slice (some ⟨w.heap.size + 1 + 1, 0, none⟩) N N, .slice none 0 0, .slice none 0 0]⟩)
    (World.grownBy_alloc _ (.cells #[.slice (some ⟨w.heap.size + 1 + 1, 0, none⟩) N N, .slice none 0 0, .slice none 0 0] 43) none)
    (by
      have := World.ownsRow_lit (base := w.heap.size + 2) (e := 43) (size := 3) (((w.alloc o1).alloc o2).alloc (.cells (madeCells #[.bool false] N) 4)) #[.slice (some ⟨w.heap.size + 1 + 1, 0, none⟩) N N, .slice none 0 0, .slice none 0 0] 1 (by simp) (by unfold maxLen; omega) rfl
      simpa using this)
    (fun g hg => by simpa [Value.ownBlock] using hg.symm)
  refine ⟨fun i r hi => ?_, fun i j a b hij ha hb g h3 h4 => ?_⟩
  · cases i with
    | st => cases hi; exact h2.own .st _ (upd_same _ _ _)
    | null => cases hi; have := h2.own .null _ (by rw [upd_other _ (by simp)]; exact upd_same _ _ _); simpa using this
    | fh => cases hi; exact World.ownsRow_nil _ _ _ _
    | gh => cases hi; exact World.ownsRow_nil _ _ _ _
    | f n => simp [Pset] at hi
    | g n => simp [Pset] at hi
  · cases i with
    | f n => simp [Pset] at ha
    | g n => simp [Pset] at ha
    | fh => cases ha; simp [Value.ownBlock] at h3
    | gh => cases ha; simp [Value.ownBlock] at h3
    | st =>
      cases j with
      | f n => simp [Pset] at hb
      | g n => simp [Pset] at hb
      | fh => cases hb; simp [Value.ownBlock] at h4
      | gh => cases hb; simp [Value.ownBlock] at h4
      | st => exact hij rfl
      | null => cases ha; cases hb; simp only [Value.ownBlock, Option.some.injEq] at h3 h4; omega
    | null =>
      cases j with
      | f n => simp [Pset] at hb
      | g n => simp [Pset] at hb
      | fh => cases hb; simp [Value.ownBlock] at h4
      | gh => cases hb; simp [Value.ownBlock] at h4
      | null => exact hij rfl
      | st => cases ha; cases hb; simp only [Value.ownBlock, Option.some.injEq] at h3 h4; omega

theorem below_push {W wr w1 : World} {B sb j : Nat} {o1 o2 : Obj} {row : Option Nat} {v : Value} (hB : Below B W wr) (hle : B ≤ wr.heap.size) (hg : ((wr.alloc o1).alloc o2).drew.grownBy w1 row) (hr : ∀ k, row = some k → B ≤ k) (hsb : B ≤ sb) :
    Below B W (w1.setCell ⟨sb, j, none⟩ v) ∧ B ≤ (w1.setCell ⟨sb, j, none⟩ v).heap.size := by
  have h1 : Below B W ((wr.alloc o1).alloc o2).drew := ((hB.alloc hle o1).alloc (by simp; omega) o2).drew
  have hs := hg.size
  have h2 : B ≤ ((wr.alloc o1).alloc o2).drew.heap.size := by
    have : ((wr.alloc o1).alloc o2).drew.heap.size = wr.heap.size + 1 + 1 := by
      show ((wr.alloc o1).alloc o2).heap.size = _
      simp
    omega
  exact ⟨(h1.grown hg h2 hr).setCell hsb v, by simp; omega⟩

end Go.Proofs.Ytlfjnljidehljaa
