import Derived.Test.YtkkcmcckdaobmaaRows
import Derived.Test.YtkkcmcckdaobmaaMathAndNull2
import Derived.WalkKit
import Derived.WalkSpells
import Derived.Deep.Cut
import Derived.Deep.CutRange
import Derived.Test.YtkkcmcckdaobmaaAuto6AndBits
import Derived.Deep.RegionLaw
import Derived.Deep.RegionWith
import Derived.Deep.DrawnRows
/- The contract of pollardingref1.May: it tells what the plain function mayB tells. -/
namespace Go.Proofs.Ytkkcmcckdaobmaa
open Go.RowKit

def symB (T N : Int) (s : Sy) : Bool := decide (0 ≤ s.2 ∧ s.2 < if s.1 then T else N)
def ruleB (T N : Int) (r : Ru) : Bool := decide (0 ≤ r.1 ∧ r.1 < N ∧ r.2.length ≤ 8) && r.2.all (symB T N)
def headB (T N : Int) (n : Nat) : Bool := decide (0 ≤ T ∧ T ≤ 8 ∧ 1 ≤ N ∧ N ≤ 12 ∧ n ≤ 40)
/-- A1: may a grammar be? -/
def mayB (T N : Int) (R : List Ru) : Bool := headB T N R.length && R.all (ruleB T N)

theorem all_take_succ {α : Type} (f : α → Bool) (l : List α) (d : α) (j : Nat) (h : j < l.length) : (l.take (j + 1)).all f = ((l.take j).all f && f (l.getD j d)) := by
  rw [List.take_succ_eq_append_getElem h, List.all_append]
  simp [List.getD, h]

theorem all_of_take {α : Type} (f : α → Bool) (l : List α) (j : Nat) (h : l.length ≤ j) : (l.take j).all f = l.all f := by
  rw [List.take_of_length_le h]

theorem not_all {α : Type} (f : α → Bool) (l : List α) (d : α) (j : Nat) (h : j < l.length) (hf : f (l.getD j d) = false) : l.all f = false := by
  rw [List.all_eq_false]
  refine ⟨l[j], List.getElem_mem h, ?_⟩
  simpa [List.getD, h] using hf

theorem rule_bad {T N : Int} {R : List Ru} {j : Nat} (hj : j < R.length) (h : ruleB T N (R.getD j (0, [])) = false) : R.all (ruleB T N) = false := not_all _ R (0, []) j hj h

theorem sym_bad {T N : Int} {r : Ru} {i : Nat} (hi : i < r.2.length) (h : symB T N (r.2.getD i (false, 0)) = false) : ruleB T N r = false := by
  unfold ruleB
  rw [not_all _ r.2 (false, 0) i hi h, Bool.and_false]

set_option maxRecDepth 100000 in
set_option maxHeartbeats 3200000 in
theorem may1_any {w : World} {T N : Int} {rv : Value} {R : List Ru} (hr : RulesAt w w.heap.size rv R) :
    Calls Try.prog 9 #[.agg #[.int .i64 T, .int .i64 N, rv]] w fun e w' => e = .returned (.bool (mayB T N R)) ∧ Below w.heap.size w w' := by
  obtain ⟨ra, rc, hrv⟩ := hr.1
  by_cases hh : headB T N R.length = true
  · have hh' := hh
    simp only [headB, decide_eq_true_eq] at hh'
    obtain ⟨h1, h2, h3, h4, h5⟩ := hh'
    have HR : Hid (RulesAt w w.heap.size rv R) := hr
    have HM : Hid (mayB T N R = R.all (ruleB T N)) := by show mayB T N R = _; simp [mayB, hh]
    clear hr hh
    subst hrv
    go_enter Try.func9, Try.ntmps9
    go_wp2_with fail
    go_loopw [3] (fun i wr => ∃ j : Nat, i = .int .i64 j ∧ j ≤ R.length ∧ (R.take j).all (ruleB T N) = true ∧ Below (w.heap.size + 1) (w.alloc (.cells #[.int .i64 T, .int .i64 N, .slice ra R.length rc] 24)) wr)
      (fun i _ => R.length - (intOf i).toNat)
    case atStart => exact ⟨0, rfl, Nat.zero_le _, rfl, Below.refl _ _⟩
    case round =>
      obtain ⟨j, rfl, hj, hall, hB⟩ := hrel
      have HA : Hid ((R.take j).all (ruleB T N) = true) := hall
      have b0 : wr.cell? ⟨w.heap.size, 0, none⟩ = some (.int .i64 T) := (hB.cell (by simp)).trans (by simp [go_sem])
      have b1 : wr.cell? ⟨w.heap.size, 1, none⟩ = some (.int .i64 N) := (hB.cell (by simp)).trans (by simp [go_sem])
      have b2 : wr.cell? ⟨w.heap.size, 2, none⟩ = some (.slice ra R.length rc) := (hB.cell (by simp)).trans (by simp [go_sem])
      have hBw : Below w.heap.size w wr := ((Below.refl _ _).alloc (Nat.le_refl _) _).trans (hB.mono (by omega))
      have HB : Hid (Below w.heap.size w wr) := hBw
      have HB1 : Hid (Below (w.heap.size + 1) (w.alloc (.cells #[.int .i64 T, .int .i64 N, .slice ra R.length rc] 24)) wr) := hB
      have hsz := hB.size
      simp only [World.size_alloc] at hsz
      clear hall hB hBw
      by_cases hlt : j < R.length
      · obtain ⟨b, o, rc', qa, qc, hv, hb, k1, k2, _, k3⟩ := HR.out.2 j hlt
        cases hv
        obtain ⟨⟨L, Rt⟩, hru⟩ : ∃ x, R.getD j (0, []) = x := ⟨_, rfl⟩
        rw [hru] at k1 k2 k3
        have k1' := (HB.out.cell (p := ⟨b, o + j * 2, none⟩) hb).trans k1
        have k2' : wr.cell? ⟨b, o + j * 2 + 1, none⟩ = some (.slice qa Rt.length qc) := by rw [Nat.add_assoc]; exact (HB.out.cell (p := ⟨b, o + (j * 2 + 1), none⟩) hb).trans k2
        have HU : Hid (R.getD j (0, []) = (L, Rt)) := hru
        have HK : Hid (∀ i, i < Rt.length → ∃ b' o', qa = some ⟨b', o', none⟩ ∧ b' < w.heap.size ∧ w.cell? ⟨b', o' + i * 2, none⟩ = some (.bool (Rt.getD i (false, 0)).1) ∧ w.cell? ⟨b', o' + (i * 2 + 1), none⟩ = some (.int .i64 (Rt.getD i (false, 0)).2)) := k3
        have n0 : (wr.alloc (.cells #[.int .i64 L, .slice qa Rt.length qc] 31)).cell? ⟨w.heap.size, 0, none⟩ = some (.int .i64 T) := by rw [World.cell?_alloc_past _ _ _ (by omega)]; exact b0
        have n1 : (wr.alloc (.cells #[.int .i64 L, .slice qa Rt.length qc] 31)).cell? ⟨w.heap.size, 1, none⟩ = some (.int .i64 N) := by rw [World.cell?_alloc_past _ _ _ (by omega)]; exact b1
        clear k1 k2 k3 hru
        have bad : (¬ (0 ≤ L ∧ L < N ∧ Rt.length ≤ 8)) → mayB T N R = false := fun h => by
          rw [HM.out]
          refine rule_bad hlt ?_
          rw [HU.out]
          unfold ruleB
          rw [decide_eq_false h, Bool.false_and]
        have HX : Hid ((¬ (0 ≤ L ∧ L < N ∧ Rt.length ≤ 8)) → mayB T N R = false) := bad
        have HE : Hid (Below w.heap.size w (wr.alloc (.cells #[.int .i64 L, .slice qa Rt.length qc] 31))) := HB.out.alloc (by omega) _
        clear bad
        by_cases l1 : L < 0
        · go_wp2_with fail
          go_ret
          exact ⟨by rw [HX.out (by omega)]; rfl, HE.out⟩
        by_cases l2 : N ≤ L
        · go_wp2_with fail
          go_ret
          exact ⟨by rw [HX.out (by omega)]; rfl, HE.out⟩
        by_cases l3 : 8 < Rt.length
        · go_wp2_with fail
          go_ret
          exact ⟨by rw [HX.out (by omega)]; rfl, HE.out⟩
        clear b0 b1
        go_wp2_with fail
        go_loop [5] (fun k => ∃ i : Nat, k = .int .i64 i ∧ i ≤ Rt.length ∧ (Rt.take i).all (symB T N) = true) (fun k => Rt.length - (intOf k).toNat)
        case atStart => exact ⟨0, rfl, Nat.zero_le _, rfl⟩
        case round =>
          obtain ⟨i, rfl, hi, hall⟩ := hrel
          have HI : Hid ((Rt.take i).all (symB T N) = true) := hall
          clear hall
          by_cases hi' : i < Rt.length
          · obtain ⟨b', o', hqa, hb', k3, k4⟩ := HK.out i hi'
            subst hqa
            obtain ⟨⟨t, v⟩, hsy⟩ : ∃ x, Rt.getD i (false, 0) = x := ⟨_, rfl⟩
            rw [hsy] at k3 k4
            have hlb : b' < wr.heap.size := by omega
            have k3' : (wr.alloc (.cells #[.int .i64 L, .slice (some ⟨b', o', none⟩) Rt.length qc] 31)).cell? ⟨b', o' + i * 2, none⟩ = some (.bool t) := by
              rw [World.cell?_alloc_past _ _ _ hlb]; exact (HB.out.cell (p := ⟨b', o' + i * 2, none⟩) hb').trans k3
            have k4' : (wr.alloc (.cells #[.int .i64 L, .slice (some ⟨b', o', none⟩) Rt.length qc] 31)).cell? ⟨b', o' + i * 2 + 1, none⟩ = some (.int .i64 v) := by
              rw [World.cell?_alloc_past _ _ _ hlb, Nat.add_assoc]; exact (HB.out.cell (p := ⟨b', o' + (i * 2 + 1), none⟩) hb').trans k4
            have HS : Hid (Rt.getD i (false, 0) = (t, v)) := hsy
            have HT : Hid ((Rt.take (i + 1)).all (symB T N) = symB T N (t, v)) := by
              show (Rt.take (i + 1)).all (symB T N) = _
              rw [all_take_succ _ Rt (false, 0) i hi', HI.out, hsy, Bool.true_and]
            have HF : Hid (symB T N (t, v) = false → mayB T N R = false) := fun h => by
              rw [HM.out]
              refine rule_bad hlt ?_
              rw [HU.out]
              exact sym_bad (r := (L, Rt)) hi' (by rw [hsy]; exact h)
            clear k3 k4 hsy
            cases t with
            | true =>
              by_cases v1 : v < 0
              · go_wp2_with fail
                go_ret
                exact ⟨by rw [HF.out (by simp [symB]; omega)]; rfl, HE.out⟩
              by_cases v2 : T ≤ v
              · go_wp2_with fail
                go_ret
                exact ⟨by rw [HF.out (by simp [symB]; omega)]; rfl, HE.out⟩
              go_wp2_with fail
              go_round
              case rel => exact ⟨i + 1, by go_num, by omega, by rw [HT.out]; simp [symB]; omega⟩
              case measure => simp [intOf]; omega
            | false =>
              by_cases v1 : v < 0
              · go_wp2_with fail
                go_ret
                exact ⟨by rw [HF.out (by simp [symB]; omega)]; rfl, HE.out⟩
              by_cases v2 : N ≤ v
              · go_wp2_with fail
                go_ret
                exact ⟨by rw [HF.out (by simp [symB]; omega)]; rfl, HE.out⟩
              go_wp2_with fail
              go_round
              case rel => exact ⟨i + 1, by go_num, by omega, by rw [HT.out]; simp [symB]; omega⟩
              case measure => simp [intOf]; omega
          · have HJ : Hid ((R.take (j + 1)).all (ruleB T N) = true) := by
              show (R.take (j + 1)).all (ruleB T N) = true
              rw [all_take_succ _ R (0, []) j hlt, HA.out, HU.out, Bool.true_and]
              unfold ruleB
              rw [← all_of_take _ Rt i (by omega), HI.out, Bool.and_true]
              simp; omega
            go_wp2_with fail
            go_roundw
            case rel => exact ⟨j + 1, by go_num, by omega, HJ.out, HB1.out.alloc (by omega) _⟩
            case measure => simp [intOf]; omega
      · have HZ : mayB T N R = true := by rw [HM.out, ← all_of_take _ R j (by omega)]; exact HA.out
        have HZ' : Hid (mayB T N R = true) := HZ
        clear HZ
        go_wp2_with fail
        go_ret
        exact ⟨by rw [HZ'.out]; rfl, HB.out⟩
  · have hm : mayB T N R = false := by simp [mayB, hh]
    simp only [headB, decide_eq_true_eq] at hh
    subst hrv
    clear hr
    rw [hm]
    clear hm
    by_cases h1 : T < 0
    · go_enter Try.func9, Try.ntmps9
      go_wp2_with fail
      go_ret
      exact ⟨rfl, (Below.refl _ _).alloc (Nat.le_refl _) _⟩
    by_cases h2 : 8 < T
    · go_enter Try.func9, Try.ntmps9
      go_wp2_with fail
      go_ret
      exact ⟨rfl, (Below.refl _ _).alloc (Nat.le_refl _) _⟩
    by_cases h3 : N < 1
    · go_enter Try.func9, Try.ntmps9
      go_wp2_with fail
      go_ret
      exact ⟨rfl, (Below.refl _ _).alloc (Nat.le_refl _) _⟩
    by_cases h4 : 12 < N
    · go_enter Try.func9, Try.ntmps9
      go_wp2_with fail
      go_ret
      exact ⟨rfl, (Below.refl _ _).alloc (Nat.le_refl _) _⟩
    have h5 : 40 < R.length := by omega
    go_enter Try.func9, Try.ntmps9
    go_wp2_with fail
    go_ret
    exact ⟨rfl, (Below.refl _ _).alloc (Nat.le_refl _) _⟩

end Go.Proofs.Ytkkcmcckdaobmaa

/- What may be, as bounds. No walk. -/
namespace Go.Proofs.Ytkkcmcckdaobmaa
open Go.RowKit

/-- What may be, as bounds. -/
theorem may_fine {T N : Nat} {R : List Ru} (h : mayB T N R = true) : T ≤ 8 ∧ 1 ≤ N ∧ N ≤ 12 ∧ R.length ≤ 40 ∧
    ∀ i, i < R.length → 0 ≤ (R.getD i (0, [])).1 ∧ (R.getD i (0, [])).1 < (N : Int) ∧ (R.getD i (0, [])).2.length ≤ 8 ∧
      ∀ s ∈ (R.getD i (0, [])).2, 0 ≤ s.2 ∧ s.2 < if s.1 then (T : Int) else (N : Int) := by
  simp only [mayB, headB, Bool.and_eq_true, decide_eq_true_eq] at h
  obtain ⟨⟨h1, h2, h3, h4, h5⟩, h6⟩ := h
  refine ⟨by omega, by omega, by omega, h5, fun i hi => ?_⟩
  have h7 := List.all_eq_true.1 h6 (R.getD i (0, [])) (by simp [List.getD, hi])
  simp only [ruleB, Bool.and_eq_true, decide_eq_true_eq] at h7
  refine ⟨h7.1.1, h7.1.2.1, h7.1.2.2, fun s hs => ?_⟩
  have h8 := List.all_eq_true.1 h7.2 s hs
  simpa [symB] using h8

end Go.Proofs.Ytkkcmcckdaobmaa

/- A row of truths that a call has made; tables of such rows. No walk. -/
namespace Go.Proofs.Ytkkcmcckdaobmaa
open Go.RowKit

theorem Try.infoBool : (Try.prog.info? 4).map (fun i => (i.zero, i.size, i.bytes)) = some (some (.bool false), 1, 1) := by kernel_rfl

theorem make_bools (n : Nat) (hn : n ≤ 1000000) (u : World) : (Instr.makeSlice 62 (.int .i64 n) (.int .i64 n)).run Try.prog u = .ok (.slice (some ⟨u.heap.size, 0, none⟩) n n) (u.alloc (.cells (madeCells #[.bool false] n) 4)) := by
  obtain ⟨i0, hi, hz0, hz1, hz2⟩ := info_parts Try.infoBool
  have h := run_make (P := Try.prog) u 62 4 i0 (.bool false) Try.underlying62 hi hz0 .i64 .i64 n n (by omega) (Int.le_refl _) (by rw [hz2]; omega) (by omega)
  simpa [hz1, Value.cells] using h

/-- A row of N truths of the call's own, at block g. -/
def RowB (w : World) (B g N : Nat) (X : List Bool) : Prop := w.ownsRow B 4 1 (.slice (some ⟨g, 0, none⟩) N N) N (X.map Value.bool)

section
variable {w : World} {B g N : Nat} {X : List Bool}
theorem RowB.len (h : RowB w B g N X) : X.length = N := by
  have : (X.map Value.bool).length = N * 1 := h.1
  simpa using this
theorem RowB.cell (h : RowB w B g N X) {m : Nat} (hm : m < N) : w.cell? ⟨g, m, none⟩ = some (.bool (X.getD m false)) ∧ w.frozen? ⟨g, m, none⟩ = false := by
  have hl := h.len
  refine ⟨?_, World.ownsRow.frozenAt h m⟩
  rw [World.ownsRow.cellAt h m (by omega)]
  simp [List.getD, show m < X.length by omega]
theorem RowB.set (h : RowB w B g N X) (m : Nat) (v : Bool) : RowB (w.setCell ⟨g, m, none⟩ (.bool v)) B g N (X.set m v) := by
  have := (World.ownsRow.stored h m (.bool v)).1
  unfold RowB
  rwa [List.map_set]
theorem RowB.ge (h : RowB w B g N X) : N ≠ 0 → B ≤ g := fun hN => by
  obtain ⟨g', c, e, h1, _⟩ := World.ownsRow.form h (by omega)
  cases e
  exact h1
end

theorem row_made (w : World) {N : Nat} (hN : N ≤ maxLen) : RowB (w.alloc (.cells (madeCells #[.bool false] N) 4)) w.heap.size w.heap.size N (List.replicate N false) := by
  have := World.ownsRow_lit (base := w.heap.size) (e := 4) (size := 1) w (madeCells #[.bool false] N) N (Nat.le_refl _) hN (by simp [size_madeCells])
  rw [toList_madeCells_one] at this
  unfold RowB
  simpa using this

theorem RowB.below {w w' : World} {B g N : Nat} {X : List Bool} (h : RowB w B g N X) (hb : Below w.heap.size w w') : RowB w' B g N X := own_below h hb fun k hk => (World.ownsRow.lt h k hk).2
theorem RowB.mono {w : World} {B B' g N : Nat} {X : List Bool} (h : RowB w B g N X) (hB : B' ≤ B) : RowB w B' g N X := own_mono h hB

section
variable {ι : Type} {w w' : World} {B : Nat} {c c' : Tab ι} {X X' : ι → List Bool}

end

end Go.Proofs.Ytkkcmcckdaobmaa

/- How sets lie in memory while they are made; what is made at first. No walk. -/
namespace Go.Proofs.Ytkkcmcckdaobmaa
open Go.RowKit

def set2 (F : List (List Bool)) (n t : Nat) : List (List Bool) := F.set n ((F.getD n []).set t true)

theorem set2_length (F : List (List Bool)) (n t : Nat) : (set2 F n t).length = F.length := by simp [set2]
theorem set2_get (F : List (List Bool)) (n t m : Nat) : (set2 F n t).getD m [] = if m = n ∧ n < F.length then (F.getD n []).set t true else F.getD m [] := by
  unfold set2
  by_cases h : m = n
  · subst h
    by_cases hl : m < F.length
    · simp [List.getD, hl]
    · simp [List.getD, hl]
  · have h' : n ≠ m := fun e => h e.symm
    simp [List.getD, List.getElem?_set_ne h', h]

/-- The rows of the sets. -/
inductive Ix where
  | st | null | fh | gh
  | f (n : Nat)
  | g (n : Nat)
  deriving DecidableEq

/-- The struct at block sb, its three slices, and their rows. m: how many rows of First, of Follow there are. -/
def Pset (sb T N mf mg : Nat) (nv fv gv : Value) (vf vg : Nat → Value) (Nu : List Bool) (Fi Fo : List (List Bool)) : Ix → Option Row
  | .st => some ⟨.slice (some ⟨sb, 0, none⟩) 1 1, 65, 3, 1, [nv, fv, gv]⟩
  | .null => some ⟨nv, 4, 1, N, Nu.map Value.bool⟩
  | .fh => some ⟨fv, 62, 1, mf, (List.range mf).map vf⟩
  | .gh => some ⟨gv, 62, 1, mg, (List.range mg).map vg⟩
  | .f n => if n < mf then some ⟨vf n, 4, 1, T, (Fi.getD n []).map Value.bool⟩ else none
  | .g n => if n < mg then some ⟨vg n, 4, 1, T + 1, (Fo.getD n []).map Value.bool⟩ else none

section
variable {w : World} {base sb T N mf mg : Nat} {nv fv gv : Value} {vf vg : Nat → Value} {Nu : List Bool} {Fi Fo : List (List Bool)}

theorem Owns.nullLen (h : Owns w base (Pset sb T N mf mg nv fv gv vf vg Nu Fi Fo)) : Nu.length = N := by
  have := (h.own .null _ rfl).1
  simpa using this
theorem Owns.firstLen (h : Owns w base (Pset sb T N mf mg nv fv gv vf vg Nu Fi Fo)) {n : Nat} (hn : n < mf) : (Fi.getD n []).length = T := by
  have := (h.own (.f n) _ (by simp [Pset, hn]; rfl)).1
  simpa using this
theorem Owns.followLen (h : Owns w base (Pset sb T N mf mg nv fv gv vf vg Nu Fi Fo)) {n : Nat} (hn : n < mg) : (Fo.getD n []).length = T + 1 := by
  have := (h.own (.g n) _ (by simp [Pset, hn]; rfl)).1
  simpa using this

/-- The three slices, in the struct. -/
theorem Owns.fields (h : Owns w base (Pset sb T N mf mg nv fv gv vf vg Nu Fi Fo)) :
    w.cell? ⟨sb, 0, none⟩ = some nv ∧ w.cell? ⟨sb, 1, none⟩ = some fv ∧ w.cell? ⟨sb, 2, none⟩ = some gv ∧ (∀ j, w.frozen? ⟨sb, j, none⟩ = false) := by
  have hh := h.own .st _ rfl
  simp only at hh
  exact ⟨hh.cellAt 0 (by omega), hh.cellAt 1 (by omega), hh.cellAt 2 (by omega), hh.frozenAt⟩

theorem Owns.setNull {ng nc : Nat} (h : Owns w base (Pset sb T N mf mg (.slice (some ⟨ng, 0, none⟩) N nc) fv gv vf vg Nu Fi Fo)) (n : Nat) :
    Owns (w.setCell ⟨ng, n, none⟩ (.bool true)) base (Pset sb T N mf mg (.slice (some ⟨ng, 0, none⟩) N nc) fv gv vf vg (Nu.set n true) Fi Fo) := by
  have := h.store (i := .null) rfl n (.bool true)
  have e : upd (Pset sb T N mf mg (.slice (some ⟨ng, 0, none⟩) N nc) fv gv vf vg Nu Fi Fo) .null ⟨.slice (some ⟨ng, 0, none⟩) N nc, 4, 1, N, (Nu.map Value.bool).set n (.bool true)⟩ = Pset sb T N mf mg (.slice (some ⟨ng, 0, none⟩) N nc) fv gv vf vg (Nu.set n true) Fi Fo := by
    funext x
    cases x <;> simp [upd, Pset, List.map_set]
  rwa [e] at this

theorem Owns.setFirst (h : Owns w base (Pset sb T N mf mg nv fv gv vf vg Nu Fi Fo)) (hF : Fi.length = mf) {n fg fc : Nat} (hn : n < mf) (hv : vf n = .slice (some ⟨fg, 0, none⟩) T fc) (t : Nat) :
    Owns (w.setCell ⟨fg, t, none⟩ (.bool true)) base (Pset sb T N mf mg nv fv gv vf vg Nu (set2 Fi n t) Fo) := by
  have := h.store (i := .f n) (g := fg) (n := T) (cap := fc) (e := 4) (size := 1) (xs := (Fi.getD n []).map Value.bool) (by simp [Pset, hn, hv]) t (.bool true)
  have e : upd (Pset sb T N mf mg nv fv gv vf vg Nu Fi Fo) (.f n) ⟨.slice (some ⟨fg, 0, none⟩) T fc, 4, 1, T, ((Fi.getD n []).map Value.bool).set t (.bool true)⟩ = Pset sb T N mf mg nv fv gv vf vg Nu (set2 Fi n t) Fo := by
    funext x
    cases x with
    | f m =>
      by_cases hm : m = n
      · subst hm
        simp only [upd, Pset, if_true, hn]
        rw [set2_get, if_pos ⟨rfl, by omega⟩, List.map_set, hv]
      · have : Ix.f m ≠ Ix.f n := fun e => hm (by cases e; rfl)
        simp only [upd, Pset, if_neg this]
        have e2 : ∀ X : List (List Bool), (set2 X n t).getD m [] = X.getD m [] := fun X => by rw [set2_get, if_neg (fun e => hm e.1)]
        rw [e2]
    | _ => simp [upd, Pset]
  rwa [e] at this

theorem Owns.setFollow (h : Owns w base (Pset sb T N mf mg nv fv gv vf vg Nu Fi Fo)) (hF : Fo.length = mg) {n fg fc : Nat} (hn : n < mg) (hv : vg n = .slice (some ⟨fg, 0, none⟩) (T + 1) fc) (t : Nat) :
    Owns (w.setCell ⟨fg, t, none⟩ (.bool true)) base (Pset sb T N mf mg nv fv gv vf vg Nu Fi (set2 Fo n t)) := by
  have := h.store (i := .g n) (g := fg) (n := T + 1) (cap := fc) (e := 4) (size := 1) (xs := (Fo.getD n []).map Value.bool) (by simp [Pset, hn, hv]) t (.bool true)
  have e : upd (Pset sb T N mf mg nv fv gv vf vg Nu Fi Fo) (.g n) ⟨.slice (some ⟨fg, 0, none⟩) (T + 1) fc, 4, 1, T + 1, ((Fo.getD n []).map Value.bool).set t (.bool true)⟩ = Pset sb T N mf mg nv fv gv vf vg Nu Fi (set2 Fo n t) := by
    funext x
    cases x with
    | g m =>
      by_cases hm : m = n
      · subst hm
        simp only [upd, Pset, if_true, hn]
        rw [set2_get, if_pos ⟨rfl, by omega⟩, List.map_set, hv]
      · have : Ix.g m ≠ Ix.g n := fun e => hm (by cases e; rfl)
        simp only [upd, Pset, if_neg this]
        have e2 : ∀ X : List (List Bool), (set2 X n t).getD m [] = X.getD m [] := fun X => by rw [set2_get, if_neg (fun e => hm e.1)]
        rw [e2]
    | _ => simp [upd, Pset]
  rwa [e] at this

theorem Owns.make {ι : Type} [DecidableEq ι] {w : World} {base : Nat} {P : ι → Option Row} (h : Owns w base P) (i : ι) (n : Nat) (hb : base ≤ w.heap.size) (hn : n ≤ maxLen) :
    Owns (w.alloc (.cells (madeCells #[.bool false] n) 4)) base (upd P i ⟨.slice (some ⟨w.heap.size, 0, none⟩) n n, 4, 1, n, (List.replicate n false).map Value.bool⟩) := by
  refine h.new i (World.grownBy_alloc w _ none) ?_ (fun g hg => by simpa [Value.ownBlock] using hg.symm)
  have := World.ownsRow_lit (base := base) (e := 4) (size := 1) w (madeCells #[.bool false] n) n hb hn (by simp [size_madeCells])
  rw [toList_madeCells_one] at this
  simpa using this

theorem Owns.pushFirst {m : Nat} (h : Owns w base (Pset sb T N m mg nv fv gv vf vg Nu Fi Fo)) (hF : Fi.length = m) (hb : base ≤ w.heap.size) (hT : T ≤ maxLen) {w1 : World} {o : Obj} {g cap : Nat}
    (hg : ((w.alloc (.cells (madeCells #[.bool false] T) 4)).alloc o).drew.grownBy w1 fv.ownBlock)
    (hown : w1.ownsRow base 62 1 (.slice (some ⟨g, 0, none⟩) (m + 1) cap) (m + 1) ((List.range m).map vf ++ [.slice (some ⟨w.heap.size, 0, none⟩) T T])) (hat : fv.ownBlock = some g ∨ g = w.heap.size + 2) :
    Owns (w1.setCell ⟨sb, 1, none⟩ (.slice (some ⟨g, 0, none⟩) (m + 1) cap)) base
      (Pset sb T N (m + 1) mg nv (.slice (some ⟨g, 0, none⟩) (m + 1) cap) gv (fun n => if n = m then .slice (some ⟨w.heap.size, 0, none⟩) T T else vf n) vg Nu (Fi ++ [List.replicate T false]) Fo) := by
  have h1 := ((h.make (.f m) T hb hT).alloc o).drew
  have h2 := h1.turn (i := .fh) (r := ⟨fv, 62, 1, m, (List.range m).map vf⟩) (r' := ⟨.slice (some ⟨g, 0, none⟩) (m + 1) cap, 62, 1, m + 1, (List.range m).map vf ++ [.slice (some ⟨w.heap.size, 0, none⟩) T T]⟩)
    (by rw [upd_other _ (by simp)]; rfl) hg hown (fun k hk => by
      simp only [Value.ownBlock, Option.some.injEq] at hk
      subst hk
      simpa using hat)
  have h3 := h2.store (i := .st) (g := sb) (n := 1) (cap := 1) (e := 65) (size := 3) (xs := [nv, fv, gv]) (by rw [upd_other _ (by simp), upd_other _ (by simp)]; rfl) 1 (.slice (some ⟨g, 0, none⟩) (m + 1) cap)
  have e : upd (upd (upd (Pset sb T N m mg nv fv gv vf vg Nu Fi Fo) (.f m) ⟨.slice (some ⟨w.heap.size, 0, none⟩) T T, 4, 1, T, (List.replicate T false).map Value.bool⟩) .fh
      ⟨.slice (some ⟨g, 0, none⟩) (m + 1) cap, 62, 1, m + 1, (List.range m).map vf ++ [.slice (some ⟨w.heap.size, 0, none⟩) T T]⟩) .st ⟨.slice (some ⟨sb, 0, none⟩) 1 1, 65, 3, 1, [nv, fv, gv].set 1 (.slice (some ⟨g, 0, none⟩) (m + 1) cap)⟩ =
      Pset sb T N (m + 1) mg nv (.slice (some ⟨g, 0, none⟩) (m + 1) cap) gv (fun n => if n = m then .slice (some ⟨w.heap.size, 0, none⟩) T T else vf n) vg Nu (Fi ++ [List.replicate T false]) Fo := by
    funext x
    cases x with
    | st => simp [upd, Pset]
    | null => simp [upd, Pset]
    | gh => simp [upd, Pset]
    | g n => simp [upd, Pset]
    | fh =>
      simp only [upd, Pset]
      simp only [reduceCtorEq, if_false, if_true]
      congr 2
      rw [List.range_succ, List.map_append]
      congr 1
      · refine List.map_congr_left fun a ha => ?_
        have := List.mem_range.1 ha
        rw [if_neg (by omega)]
      · simp
    | f n =>
      simp only [upd, Pset, reduceCtorEq, if_false, Ix.f.injEq]
      by_cases hn : n = m
      · subst hn
        simp [List.getD, hF]
      · by_cases hlt : n < m
        · rw [if_neg hn, if_pos hlt, if_pos (by omega), if_neg hn]
          simp [List.getD, List.getElem?_append_left (show n < Fi.length by omega)]
        · rw [if_neg hn, if_neg hlt, if_neg (by omega)]
  rwa [e] at h3

theorem Owns.pushFollow {m : Nat} (h : Owns w base (Pset sb T N mf m nv fv gv vf vg Nu Fi Fo)) (hF : Fo.length = m) (hb : base ≤ w.heap.size) (hT : T + 1 ≤ maxLen) {w1 : World} {o : Obj} {g cap : Nat}
    (hg : ((w.alloc (.cells (madeCells #[.bool false] (T + 1)) 4)).alloc o).drew.grownBy w1 gv.ownBlock)
    (hown : w1.ownsRow base 62 1 (.slice (some ⟨g, 0, none⟩) (m + 1) cap) (m + 1) ((List.range m).map vg ++ [.slice (some ⟨w.heap.size, 0, none⟩) (T + 1) (T + 1)])) (hat : gv.ownBlock = some g ∨ g = w.heap.size + 2) :
    Owns (w1.setCell ⟨sb, 2, none⟩ (.slice (some ⟨g, 0, none⟩) (m + 1) cap)) base
      (Pset sb T N mf (m + 1) nv fv (.slice (some ⟨g, 0, none⟩) (m + 1) cap) vf (fun n => if n = m then .slice (some ⟨w.heap.size, 0, none⟩) (T + 1) (T + 1) else vg n) Nu Fi (Fo ++ [List.replicate (T + 1) false])) := by
  have h1 := ((h.make (.g m) (T + 1) hb hT).alloc o).drew
  have h2 := h1.turn (i := .gh) (r := ⟨gv, 62, 1, m, (List.range m).map vg⟩) (r' := ⟨.slice (some ⟨g, 0, none⟩) (m + 1) cap, 62, 1, m + 1, (List.range m).map vg ++ [.slice (some ⟨w.heap.size, 0, none⟩) (T + 1) (T + 1)]⟩)
    (by rw [upd_other _ (by simp)]; rfl) hg hown (fun k hk => by
      simp only [Value.ownBlock, Option.some.injEq] at hk
      subst hk
      simpa using hat)
  have h3 := h2.store (i := .st) (g := sb) (n := 1) (cap := 1) (e := 65) (size := 3) (xs := [nv, fv, gv]) (by rw [upd_other _ (by simp), upd_other _ (by simp)]; rfl) 2 (.slice (some ⟨g, 0, none⟩) (m + 1) cap)
  have e : upd (upd (upd (Pset sb T N mf m nv fv gv vf vg Nu Fi Fo) (.g m) ⟨.slice (some ⟨w.heap.size, 0, none⟩) (T + 1) (T + 1), 4, 1, T + 1, (List.replicate (T + 1) false).map Value.bool⟩) .gh
      ⟨.slice (some ⟨g, 0, none⟩) (m + 1) cap, 62, 1, m + 1, (List.range m).map vg ++ [.slice (some ⟨w.heap.size, 0, none⟩) (T + 1) (T + 1)]⟩) .st ⟨.slice (some ⟨sb, 0, none⟩) 1 1, 65, 3, 1, [nv, fv, gv].set 2 (.slice (some ⟨g, 0, none⟩) (m + 1) cap)⟩ =
      Pset sb T N mf (m + 1) nv fv (.slice (some ⟨g, 0, none⟩) (m + 1) cap) vf (fun n => if n = m then .slice (some ⟨w.heap.size, 0, none⟩) (T + 1) (T + 1) else vg n) Nu Fi (Fo ++ [List.replicate (T + 1) false]) := by
    funext x
    cases x with
    | st => simp [upd, Pset]
    | null => simp [upd, Pset]
    | fh => simp [upd, Pset]
    | f n => simp [upd, Pset]
    | gh =>
      simp only [upd, Pset]
      simp only [reduceCtorEq, if_false, if_true]
      congr 2
      rw [List.range_succ, List.map_append]
      congr 1
      · refine List.map_congr_left fun a ha => ?_
        have := List.mem_range.1 ha
        rw [if_neg (by omega)]
      · simp
    | g n =>
      simp only [upd, Pset, reduceCtorEq, if_false, Ix.g.injEq]
      by_cases hn : n = m
      · subst hn
        simp [List.getD, hF]
      · by_cases hlt : n < m
        · rw [if_neg hn, if_pos hlt, if_pos (by omega), if_neg hn]
          simp [List.getD, List.getElem?_append_left (show n < Fo.length by omega)]
        · rw [if_neg hn, if_neg hlt, if_neg (by omega)]
  rwa [e] at h3
end

theorem Try.infoBools : (Try.prog.info? 62).map (fun i => (i.zero, i.size, i.bytes)) = some (some (.slice none 0 0), 1, 24) := by kernel_rfl

/-- The sets Nu, Fi, Fo lie in memory; nothing below B has turned since W. -/
def SR (W : World) (B sb T N mf mg : Nat) (Nu : List Bool) (Fi Fo : List (List Bool)) (wr : World) : Prop :=
  Below B W wr ∧ B ≤ wr.heap.size ∧ Fi.length = mf ∧ Fo.length = mg ∧ ∃ nv fv gv vf vg, Owns wr B (Pset sb T N mf mg nv fv gv vf vg Nu Fi Fo)

theorem start_sr (w : World) (T N : Nat) (hN : N ≤ maxLen) (o1 o2 : Obj) :
    SR ((w.alloc o1).alloc o2) (w.heap.size + 2) (w.heap.size + 1 + 1 + 1) T N 0 0 (List.replicate N false) [] []
      ((((w.alloc o1).alloc o2).alloc (.cells (madeCells #[.bool false] N) 4)).alloc (.cells #[.slice (some ⟨w.heap.size + 1 + 1, 0, none⟩) N N, .slice none 0 0, .slice none 0 0] 65)) := by
  refine ⟨((Below.refl _ _).alloc (by simp) _).alloc (by simp) _, by simp, rfl, rfl, .slice (some ⟨w.heap.size + 1 + 1, 0, none⟩) N N, .slice none 0 0, .slice none 0 0, fun _ => .nilIface, fun _ => .nilIface, ?_⟩
  have h0 : Owns ((w.alloc o1).alloc o2) (w.heap.size + 2) (fun _ : Ix => none) := ⟨fun i r h => (by cases h), fun i j a b _ h => (by cases h)⟩
  have h1 := h0.make .null N (by simp) hN
  have h2 := h1.new .st (r := ⟨.slice (some ⟨w.heap.size + 1 + 1 + 1, 0, none⟩) 1 1, 65, 3, 1, [.slice (some ⟨w.heap.size + 1 + 1, 0, none⟩) N N, .slice none 0 0, .slice none 0 0]⟩)
    (World.grownBy_alloc _ (.cells #[.slice (some ⟨w.heap.size + 1 + 1, 0, none⟩) N N, .slice none 0 0, .slice none 0 0] 65) none)
    (by
      have := World.ownsRow_lit (base := w.heap.size + 2) (e := 65) (size := 3) (((w.alloc o1).alloc o2).alloc (.cells (madeCells #[.bool false] N) 4)) #[.slice (some ⟨w.heap.size + 1 + 1, 0, none⟩) N N, .slice none 0 0, .slice none 0 0] 1 (by simp) (by unfold maxLen; omega) rfl
      simpa using this)
    (fun g hg => by simpa [Value.ownBlock] using hg.symm)
  refine ⟨fun i r hi => ?_, fun i j a b hij ha hb g h3 h4 => ?_⟩
  · cases i with
    | st => cases hi; exact h2.own .st _ (upd_same _ _ _)
    | null => cases hi; have := h2.own .null _ (by rw [upd_other _ (by simp)]; exact upd_same _ _ _); simpa using this
    | fh => cases hi; exact World.ownsRow_nil _ _ _ _
    | gh => cases hi; exact World.ownsRow_nil _ _ _ _
    | f n => simp [Pset] at hi
    | g n => simp [Pset] at hi
  · cases i with
    | f n => simp [Pset] at ha
    | g n => simp [Pset] at ha
    | fh => cases ha; simp [Value.ownBlock] at h3
    | gh => cases ha; simp [Value.ownBlock] at h3
    | st =>
      cases j with
      | f n => simp [Pset] at hb
      | g n => simp [Pset] at hb
      | fh => cases hb; simp [Value.ownBlock] at h4
      | gh => cases hb; simp [Value.ownBlock] at h4
      | st => exact hij rfl
      | null => cases ha; cases hb; simp only [Value.ownBlock, Option.some.injEq] at h3 h4; omega
    | null =>
      cases j with
      | f n => simp [Pset] at hb
      | g n => simp [Pset] at hb
      | fh => cases hb; simp [Value.ownBlock] at h4
      | gh => cases hb; simp [Value.ownBlock] at h4
      | null => exact hij rfl
      | st => cases ha; cases hb; simp only [Value.ownBlock, Option.some.injEq] at h3 h4; omega

theorem below_push {W wr w1 : World} {B sb j : Nat} {o1 o2 : Obj} {row : Option Nat} {v : Value} (hB : Below B W wr) (hle : B ≤ wr.heap.size) (hg : ((wr.alloc o1).alloc o2).drew.grownBy w1 row) (hr : ∀ k, row = some k → B ≤ k) (hsb : B ≤ sb) :
    Below B W (w1.setCell ⟨sb, j, none⟩ v) ∧ B ≤ (w1.setCell ⟨sb, j, none⟩ v).heap.size := by
  have h1 : Below B W ((wr.alloc o1).alloc o2).drew := ((hB.alloc hle o1).alloc (by simp; omega) o2).drew
  have hs := hg.size
  have h2 : B ≤ ((wr.alloc o1).alloc o2).drew.heap.size := by
    have : ((wr.alloc o1).alloc o2).drew.heap.size = wr.heap.size + 1 + 1 := by
      show ((wr.alloc o1).alloc o2).heap.size = _
      simp
    omega
  exact ⟨(h1.grown hg h2 hr).setCell hsb v, by simp; omega⟩

end Go.Proofs.Ytkkcmcckdaobmaa

/- How pollardingref2.Of's sets lie in memory while they grow; what it makes, as plain functions. No walk. -/
namespace Go.Proofs.Ytkkcmcckdaobmaa
open Go.RowKit

def nullS (R : List Ru) (i : Nat) (Nu : List Bool) : List Bool := if nullB Nu (R.getD i (0, [])).2 then Nu.set (R.getD i (0, [])).1.toNat true else Nu
def nullA (R : List Ru) (N : Nat) : List Bool := loopN (N + 1) (fun _ => loopN R.length (nullS R)) (List.replicate N false)
def firstS (R : List Ru) (Nu : List Bool) (i t : Nat) (Fi : List (List Bool)) : List (List Bool) := if begB Nu Fi t (R.getD i (0, [])).2 then set2 Fi (R.getD i (0, [])).1.toNat t else Fi
def firstA (R : List Ru) (Nu : List Bool) (T N : Nat) : List (List Bool) := loopN (N + 1) (fun _ => loopN R.length fun i => loopN T fun t => firstS R Nu i t) (List.replicate N (List.replicate T false))
def followS (R : List Ru) (Nu : List Bool) (Fi : List (List Bool)) (T i k t : Nat) (Fo : List (List Bool)) : List (List Bool) :=
  if (decide (t < T) && begB Nu Fi t ((R.getD i (0, [])).2.drop (k + 1))) || (nullB Nu ((R.getD i (0, [])).2.drop (k + 1)) && (Fo.getD (R.getD i (0, [])).1.toNat []).getD t false) then
    set2 Fo ((R.getD i (0, [])).2.getD k (false, 0)).2.toNat t
  else Fo
def followK (R : List Ru) (Nu : List Bool) (Fi : List (List Bool)) (T i k : Nat) (Fo : List (List Bool)) : List (List Bool) :=
  if ((R.getD i (0, [])).2.getD k (false, 0)).1 then Fo else loopN (T + 1) (fun t => followS R Nu Fi T i k t) Fo
def followA (R : List Ru) (Nu : List Bool) (Fi : List (List Bool)) (T N : Nat) : List (List Bool) :=
  loopN (N + 1) (fun _ => loopN R.length fun i => loopN (R.getD i (0, [])).2.length fun k => followK R Nu Fi T i k) (set2 (List.replicate N (List.replicate (T + 1) false)) 0 T)

section
variable {w : World} {base sb T N mf mg : Nat} {nv fv gv : Value} {vf vg : Nat → Value} {Nu : List Bool} {Fi Fo : List (List Bool)}

theorem own_bools {w : World} {base n : Nat} {v : Value} {X : List Bool} {e : TypeId} (h : w.ownsRow base e 1 v n (X.map Value.bool)) : BoolsAt w v X := by
  have hl : X.length = n := by simpa using h.1
  obtain ⟨a, c, hv⟩ := own_form h
  refine ⟨⟨a, c, by rw [hv, hl]⟩, fun i hi => ?_⟩
  obtain ⟨g, cap, rfl, _, _⟩ := h.form (by omega)
  refine ⟨g, 0, cap, by rw [hl], ?_⟩
  have := h.cellAt i (by omega)
  rw [Nat.zero_add, this]
  simp [List.getD, hi]

theorem Owns.bools (h : Owns w base (Pset sb T N mf mg nv fv gv vf vg Nu Fi Fo)) : BoolsAt w nv Nu := own_bools (h.own .null _ rfl)

theorem Owns.mat (h : Owns w base (Pset sb T N mf mg nv fv gv vf vg Nu Fi Fo)) (hF : Fi.length = mf) : MatAt w fv Fi := by
  have hh : w.ownsRow base 62 1 fv mf ((List.range mf).map vf) := h.own .fh _ rfl
  obtain ⟨a, c, hv⟩ := own_form hh
  refine ⟨⟨a, c, by rw [hv, hF]⟩, fun i hi => ?_⟩
  obtain ⟨g, cap, rfl, _, _⟩ := hh.form (by omega)
  refine ⟨g, 0, cap, vf i, by rw [hF], ?_, own_bools (h.own (.f i) _ (by simp [Pset, show i < mf by omega]; rfl))⟩
  have := hh.cellAt i (by omega)
  rw [Nat.zero_add, this]
  simp [show i < mf by omega]
end

end Go.Proofs.Ytkkcmcckdaobmaa
