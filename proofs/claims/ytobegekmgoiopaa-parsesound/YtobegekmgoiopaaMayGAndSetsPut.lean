import Derived.Test.YtobegekmgoiopaaBuildMathAndMayFine
import Derived.Test.YtobegekmgoiopaaMathAndBits
import Derived.Deep.RegionLaw
import Derived.Deep.RegionWith
import Derived.Deep.LoopGhost
/- The contract of the program's gram.May: it tells what the plain function mayB tells. -/
namespace Go.Proofs.Ytobegekmgoiopaa
open Go.RowKit

def belB (n e : Int) : Bool := decide (0 ≤ n ∧ n < e)

set_option maxRecDepth 100000 in
theorem isBelow_any {w : World} {n e : Int} :
    Calls Try.prog 36 #[.int .i64 n, .int .i64 e] w fun r w' => r = .returned (.bool (belB n e)) ∧ w' = w := by
  by_cases h1 : 0 ≤ n
  · by_cases h2 : n < e
    · have HD : Hid (belB n e = true) := decide_eq_true ⟨h1, h2⟩
      go_enter Try.func36, Try.ntmps36
      go_wp2_with fail
      go_ret
      exact ⟨by rw [HD.out]; rfl, rfl⟩
    · have HD : Hid (belB n e = false) := decide_eq_false (by omega)
      go_enter Try.func36, Try.ntmps36
      go_wp2_with fail
      go_ret
      exact ⟨by rw [HD.out]; rfl, rfl⟩
  · have HD : Hid (belB n e = false) := decide_eq_false (by omega)
    go_enter Try.func36, Try.ntmps36
    go_wp2_with fail
    go_ret
    exact ⟨by rw [HD.out]; rfl, rfl⟩

set_option maxRecDepth 100000 in
theorem maySym_any {w : World} {T N v : Int} {rv : Value} {t : Bool} {ra : Option Addr} {rl rc : Nat} (hrv : rv = .slice ra rl rc) :
    Calls Try.prog 37 #[.agg #[.int .i64 T, .int .i64 N, rv], .agg #[.bool t, .int .i64 v]] w fun r w' => r = .returned (.bool (symB T N (t, v))) ∧ Below w.heap.size w w' := by
  subst hrv
  cases t with
  | true =>
    have HD : Hid (symB T N (true, v) = belB v T) := rfl
    go_enter Try.func37, Try.ntmps37
    go_wp2_with (go_at_call 36; refine isBelow_any.mono ?_; rintro e w2 ⟨rfl, rfl⟩)
    go_ret
    exact ⟨by rw [HD.out]; rfl, ((Below.refl _ _).alloc (Nat.le_refl _) _).alloc (by simp) _⟩
  | false =>
    have HD : Hid (symB T N (false, v) = belB v N) := rfl
    go_enter Try.func37, Try.ntmps37
    go_wp2_with (go_at_call 36; refine isBelow_any.mono ?_; rintro e w2 ⟨rfl, rfl⟩)
    go_ret
    exact ⟨by rw [HD.out]; rfl, ((Below.refl _ _).alloc (Nat.le_refl _) _).alloc (by simp) _⟩

set_option maxRecDepth 100000 in
set_option maxHeartbeats 3200000 in
theorem mayRule_any {w : World} {T N L : Int} {rv : Value} {qa ra : Option Addr} {qc rl rc : Nat} {Rt : List Sy} (hrv : rv = .slice ra rl rc) (hR : RightAt w w.heap.size qa Rt) :
    Calls Try.prog 23 #[.agg #[.int .i64 T, .int .i64 N, rv], .agg #[.int .i64 L, .slice qa Rt.length qc]] w fun r w' => r = .returned (.bool (ruleB T N (L, Rt))) ∧ Below w.heap.size w w' := by
  subst hrv
  by_cases hh : 0 ≤ L ∧ L < N
  · have e1 : belB L N = true := decide_eq_true hh
    have call := isBelow_any (w := (w.alloc (.cells #[.int .i64 T, .int .i64 N, .slice ra rl rc] 24)).alloc (.cells #[.int .i64 L, .slice qa Rt.length qc] 28)) (n := L) (e := N)
    rw [e1] at call
    by_cases h8 : Rt.length ≤ 8
    · have HD : Hid (ruleB T N (L, Rt) = Rt.all (symB T N)) := by show ruleB T N (L, Rt) = _; simp [ruleB, hh.1, hh.2, h8]
      have HR : Hid (RightAt w w.heap.size qa Rt) := hR
      clear hR e1 hh
      go_enter Try.func23, Try.ntmps23
      go_wp2_with (go_at_call 36; refine call.mono ?_; rintro e w2 ⟨rfl, rfl⟩)
      go_loopw [22] (fun k wr => ∃ i : Nat, k = .int .i64 i ∧ i ≤ Rt.length ∧ (Rt.take i).all (symB T N) = true ∧ Below (w.heap.size + 2) ((w.alloc (.cells #[.int .i64 T, .int .i64 N, .slice ra rl rc] 24)).alloc (.cells #[.int .i64 L, .slice qa Rt.length qc] 28)) wr) (fun k _ => Rt.length - (intOf k).toNat)
      case atStart => exact ⟨0, rfl, Nat.zero_le _, rfl, Below.refl _ _⟩
      case round =>
        obtain ⟨i, rfl, hi, hall, hB⟩ := hrel
        have HI : Hid ((Rt.take i).all (symB T N) = true) := hall
        have HB2 : Hid (Below (w.heap.size + 2) ((w.alloc (.cells #[.int .i64 T, .int .i64 N, .slice ra rl rc] 24)).alloc (.cells #[.int .i64 L, .slice qa Rt.length qc] 28)) wr) := hB
        have HB : Hid (Below w.heap.size w wr) := (((Below.refl _ _).alloc (Nat.le_refl _) _).alloc (by simp) _).trans (hB.mono (by omega))
        have hsz : w.heap.size + 2 ≤ wr.heap.size := by have := hB.size; simp at this; omega
        have b0 : wr.cell? ⟨w.heap.size, 0, none⟩ = some (.int .i64 T) := (hB.cell (by simp)).trans (by simp [go_sem])
        have b1 : wr.cell? ⟨w.heap.size, 1, none⟩ = some (.int .i64 N) := (hB.cell (by simp)).trans (by simp [go_sem])
        have b2 : wr.cell? ⟨w.heap.size, 2, none⟩ = some (.slice ra rl rc) := (hB.cell (by simp)).trans (by simp [go_sem])
        clear hall hB call
        by_cases hi' : i < Rt.length
        · obtain ⟨b', o', hqa, hb', k3, k4⟩ := HR.out i hi'
          subst hqa
          obtain ⟨⟨t, v⟩, hsy⟩ : ∃ x, Rt.getD i (false, 0) = x := ⟨_, rfl⟩
          rw [hsy] at k3 k4
          have k3' : wr.cell? ⟨b', o' + i * 2, none⟩ = some (.bool t) := (HB.out.cell (p := ⟨b', o' + i * 2, none⟩) hb').trans k3
          have k4' : wr.cell? ⟨b', o' + i * 2 + 1, none⟩ = some (.int .i64 v) := by rw [Nat.add_assoc]; exact (HB.out.cell (p := ⟨b', o' + (i * 2 + 1), none⟩) hb').trans k4
          have HT : Hid ((Rt.take (i + 1)).all (symB T N) = symB T N (t, v)) := by
            show (Rt.take (i + 1)).all (symB T N) = _
            rw [all_take_succ _ Rt (false, 0) i hi', HI.out, hsy, Bool.true_and]
          have HF : Hid (symB T N (t, v) = false → Rt.all (symB T N) = false) := fun h => not_all _ Rt (false, 0) i hi' (by rw [hsy]; exact h)
          have n0 : (wr.alloc (.cells #[.bool t, .int .i64 v] 102)).cell? ⟨w.heap.size, 0, none⟩ = some (.int .i64 T) := by rw [World.cell?_alloc_past _ _ _ (by omega)]; exact b0
          have n1 : (wr.alloc (.cells #[.bool t, .int .i64 v] 102)).cell? ⟨w.heap.size, 1, none⟩ = some (.int .i64 N) := by rw [World.cell?_alloc_past _ _ _ (by omega)]; exact b1
          have n2 : (wr.alloc (.cells #[.bool t, .int .i64 v] 102)).cell? ⟨w.heap.size, 2, none⟩ = some (.slice ra rl rc) := by rw [World.cell?_alloc_past _ _ _ (by omega)]; exact b2
          have sym := maySym_any (w := wr.alloc (.cells #[.bool t, .int .i64 v] 102)) (T := T) (N := N) (t := t) (v := v) (ra := ra) (rl := rl) (rc := rc) rfl
          clear k3 k4 hsy b0 b1 b2
          cases hs : symB T N (t, v) with
          | true =>
            rw [hs] at sym HT
            clear hs HF
            go_wp2_with (go_at_call 37; refine sym.mono ?_; rintro e w2 ⟨rfl, hB2⟩)
            go_roundw
            case rel => exact ⟨i + 1, by go_num, by omega, HT.out, (HB2.out.alloc (by omega) _).trans (hB2.mono (by simp; omega))⟩
            case measure => simp [intOf]; omega
          | false =>
            rw [hs] at sym
            have HF' : Hid (Rt.all (symB T N) = false) := HF.out hs
            clear hs HF HT
            go_wp2_with (go_at_call 37; refine sym.mono ?_; rintro e w2 ⟨rfl, hB2⟩)
            go_ret
            exact ⟨by rw [HD.out, HF'.out]; rfl, (HB.out.alloc (by omega) _).trans (hB2.mono (by simp; omega))⟩
        · have HZ : Hid (Rt.all (symB T N) = true) := by
            show Rt.all (symB T N) = true
            rw [← all_of_take _ Rt i (by omega)]; exact HI.out
          go_wp2_with fail
          go_ret
          exact ⟨by rw [HD.out, HZ.out]; rfl, HB.out⟩
    · have HD : Hid (ruleB T N (L, Rt) = false) := by show ruleB T N (L, Rt) = _; simp [ruleB, h8]
      clear hR e1 hh
      go_enter Try.func23, Try.ntmps23
      go_wp2_with (go_at_call 36; refine call.mono ?_; rintro e w2 ⟨rfl, rfl⟩)
      go_ret
      exact ⟨by rw [HD.out]; rfl, ((Below.refl _ _).alloc (Nat.le_refl _) _).alloc (by simp) _⟩
  · have e1 : belB L N = false := decide_eq_false hh
    have HD : Hid (ruleB T N (L, Rt) = false) := by show ruleB T N (L, Rt) = _; simp [ruleB]; omega
    have call := isBelow_any (w := (w.alloc (.cells #[.int .i64 T, .int .i64 N, .slice ra rl rc] 24)).alloc (.cells #[.int .i64 L, .slice qa Rt.length qc] 28)) (n := L) (e := N)
    rw [e1] at call
    clear hR e1 hh
    go_enter Try.func23, Try.ntmps23
    go_wp2_with (go_at_call 36; refine call.mono ?_; rintro e w2 ⟨rfl, rfl⟩)
    go_ret
    exact ⟨by rw [HD.out]; rfl, ((Below.refl _ _).alloc (Nat.le_refl _) _).alloc (by simp) _⟩

set_option maxRecDepth 100000 in
set_option maxHeartbeats 3200000 in
theorem mayG_any {w : World} {T N : Int} {rv : Value} {R : List Ru} (hr : RulesAt w w.heap.size rv R) :
    Calls Try.prog 10 #[.agg #[.int .i64 T, .int .i64 N, rv]] w fun e w' => e = .returned (.bool (mayB T N R)) ∧ Below w.heap.size w w' := by
  obtain ⟨ra, rc, hrv⟩ := hr.1
  by_cases hh : headB T N R.length = true
  · have hh' := hh
    simp only [headB, decide_eq_true_eq] at hh'
    obtain ⟨h1, h2, h3, h4, h5⟩ := hh'
    have HR : Hid (RulesAt w w.heap.size rv R) := hr
    have HM : Hid (mayB T N R = R.all (ruleB T N)) := by show mayB T N R = _; simp [mayB, hh]
    clear hr hh
    subst hrv
    go_enter Try.func10, Try.ntmps10
    go_wp2_with fail
    go_loopw [28] (fun i wr => ∃ j : Nat, i = .int .i64 j ∧ j ≤ R.length ∧ (R.take j).all (ruleB T N) = true ∧ Below (w.heap.size + 1) (w.alloc (.cells #[.int .i64 T, .int .i64 N, .slice ra R.length rc] 24)) wr)
      (fun i _ => R.length - (intOf i).toNat)
    case atStart => exact ⟨0, rfl, Nat.zero_le _, rfl, Below.refl _ _⟩
    case round =>
      obtain ⟨j, rfl, hj, hall, hB⟩ := hrel
      have HA : Hid ((R.take j).all (ruleB T N) = true) := hall
      have b0 : wr.cell? ⟨w.heap.size, 0, none⟩ = some (.int .i64 T) := (hB.cell (by simp)).trans (by simp [go_sem])
      have b1 : wr.cell? ⟨w.heap.size, 1, none⟩ = some (.int .i64 N) := (hB.cell (by simp)).trans (by simp [go_sem])
      have b2 : wr.cell? ⟨w.heap.size, 2, none⟩ = some (.slice ra R.length rc) := (hB.cell (by simp)).trans (by simp [go_sem])
      have HB : Hid (Below w.heap.size w wr) := ((Below.refl _ _).alloc (Nat.le_refl _) _).trans (hB.mono (by omega))
      have HB1 : Hid (Below (w.heap.size + 1) (w.alloc (.cells #[.int .i64 T, .int .i64 N, .slice ra R.length rc] 24)) wr) := hB
      have hsz := hB.size
      simp only [World.size_alloc] at hsz
      clear hall hB
      by_cases hlt : j < R.length
      · obtain ⟨b, o, rc', qa, qc, hv, hb, k1, k2, _, k3⟩ := HR.out.2 j hlt
        cases hv
        obtain ⟨⟨L, Rt⟩, hru⟩ : ∃ x, R.getD j (0, []) = x := ⟨_, rfl⟩
        rw [hru] at k1 k2 k3
        have k1' := (HB.out.cell (p := ⟨b, o + j * 2, none⟩) hb).trans k1
        have k2' : wr.cell? ⟨b, o + j * 2 + 1, none⟩ = some (.slice qa Rt.length qc) := by rw [Nat.add_assoc]; exact (HB.out.cell (p := ⟨b, o + (j * 2 + 1), none⟩) hb).trans k2
        have HU : Hid (R.getD j (0, []) = (L, Rt)) := hru
        have hRt : RightAt w w.heap.size qa Rt := k3
        have n0 : (wr.alloc (.cells #[.int .i64 L, .slice qa Rt.length qc] 28)).cell? ⟨w.heap.size, 0, none⟩ = some (.int .i64 T) := by rw [World.cell?_alloc_past _ _ _ (by omega)]; exact b0
        have n1 : (wr.alloc (.cells #[.int .i64 L, .slice qa Rt.length qc] 28)).cell? ⟨w.heap.size, 1, none⟩ = some (.int .i64 N) := by rw [World.cell?_alloc_past _ _ _ (by omega)]; exact b1
        have n2 : (wr.alloc (.cells #[.int .i64 L, .slice qa Rt.length qc] 28)).cell? ⟨w.heap.size, 2, none⟩ = some (.slice (some ⟨b, o, none⟩) R.length rc) := by rw [World.cell?_alloc_past _ _ _ (by omega)]; exact b2
        have hrule := mayRule_any (w := wr.alloc (.cells #[.int .i64 L, .slice qa Rt.length qc] 28)) (T := T) (N := N) (L := L) (rv := .slice (some ⟨b, o, none⟩) R.length rc) (qa := qa) (qc := qc) (Rt := Rt) rfl
          ((hRt.below (HB.out.alloc (by omega) _)).mono (by simp; omega))
        clear k1 k2 k3 hru b0 b1 b2 hRt
        cases hs : ruleB T N (L, Rt) with
        | true =>
          rw [hs] at hrule
          have HJ : Hid ((R.take (j + 1)).all (ruleB T N) = true) := by
            show (R.take (j + 1)).all (ruleB T N) = true
            rw [all_take_succ _ R (0, []) j hlt, HA.out, HU.out, hs]; rfl
          clear hs
          go_wp2_with (go_at_call 23; refine hrule.mono ?_; rintro e w2 ⟨rfl, hB2⟩)
          go_roundw
          case rel => exact ⟨j + 1, by go_num, by omega, HJ.out, (HB1.out.alloc (by omega) _).trans (hB2.mono (by simp; omega))⟩
          case measure => simp [intOf]; omega
        | false =>
          rw [hs] at hrule
          have HJ : Hid (R.all (ruleB T N) = false) := rule_bad hlt (by rw [HU.out]; exact hs)
          clear hs
          go_wp2_with (go_at_call 23; refine hrule.mono ?_; rintro e w2 ⟨rfl, hB2⟩)
          go_ret
          exact ⟨by rw [HM.out, HJ.out]; rfl, (HB.out.alloc (by omega) _).trans (hB2.mono (by simp; omega))⟩
      · have HZ : Hid (mayB T N R = true) := by
          show mayB T N R = true
          rw [HM.out, ← all_of_take _ R j (by omega)]; exact HA.out
        go_wp2_with fail
        go_ret
        exact ⟨by rw [HZ.out]; rfl, HB.out⟩
  · have hm : mayB T N R = false := by simp [mayB, hh]
    simp only [headB, decide_eq_true_eq] at hh
    subst hrv
    clear hr
    rw [hm]
    clear hm
    by_cases h1 : T < 0
    · go_enter Try.func10, Try.ntmps10
      go_wp2_with fail
      go_ret
      exact ⟨rfl, (Below.refl _ _).alloc (Nat.le_refl _) _⟩
    by_cases h2 : 8 < T
    · go_enter Try.func10, Try.ntmps10
      go_wp2_with fail
      go_ret
      exact ⟨rfl, (Below.refl _ _).alloc (Nat.le_refl _) _⟩
    by_cases h3 : N < 1
    · go_enter Try.func10, Try.ntmps10
      go_wp2_with fail
      go_ret
      exact ⟨rfl, (Below.refl _ _).alloc (Nat.le_refl _) _⟩
    by_cases h4 : 12 < N
    · go_enter Try.func10, Try.ntmps10
      go_wp2_with fail
      go_ret
      exact ⟨rfl, (Below.refl _ _).alloc (Nat.le_refl _) _⟩
    have h5 : 40 < R.length := by omega
    go_enter Try.func10, Try.ntmps10
    go_wp2_with fail
    go_ret
    exact ⟨rfl, (Below.refl _ _).alloc (Nat.le_refl _) _⟩

end Go.Proofs.Ytobegekmgoiopaa

/- The contracts of the program's package grow: put (grow.UntilStill$1) and grow.UntilStill, for whatever rows grow. -/
namespace Go.Proofs.Ytobegekmgoiopaa
open Go.RowKit

section
variable {ι : Type} [DecidableEq ι]

/-- What put does: gr is the mark that tells whether any row has grown. -/
def putG (gr : ι) (X : ι → List Bool) (i : ι) (m : Nat) : ι → List Bool := if bit X i m then X else setX (setX X i m true) gr 0 true
def putAllG (gr i j : ι) (n : Nat) (X : ι → List Bool) : ι → List Bool := loopN n (fun m Y => if bit Y j m then putG gr Y i m else Y) X

omit [DecidableEq ι] in
/-- The mark lies at block gb. -/
structure Mark (c : Tab ι) (gr : ι) (gb : Nat) : Prop where
  v : c.V gr = .slice (some ⟨gb, 0, none⟩) 1 1
  d : c.dom gr = some 1

variable {c : Tab ι} {gr : ι} {gb : Nat}

set_option maxRecDepth 100000 in
set_option maxHeartbeats 1600000 in
theorem put_gen {w : World} {B n m : Nat} {i : ι} {X : ι → List Bool} (h : Bt w B c X) (hM : Mark c gr gb) (hd : c.dom i = some n) (hm : m < n) (hi : i ≠ gr) :
    Calls Try.prog 58 #[c.V i, .int .i64 m, .pointer (some ⟨gb, 0, none⟩)] w fun e w' => e = .returned (.tuple #[]) ∧ Bt w' B c (putG gr X i m) ∧ Kept c.K w w' := by
  obtain ⟨g, cap, hv, _, _⟩ := Bt.form h hd (by omega)
  obtain ⟨c1, f1⟩ := Bt.cell h hd hv hm
  obtain ⟨c2, f2⟩ := Bt.cell (i := gr) h hM.d hM.v (m := 0) (by omega)
  have hne := Bt.apart (i := i) (j := gr) h hi hd hM.d hv hM.v
  have j0 : (0 : Int) ≤ (m : Int) := Int.natCast_nonneg _
  have j1 : (m : Int) < (n : Int) := by omega
  have HB : Hid (Bt w B c X) := h
  have HM : Hid (Mark c gr gb) := hM
  have HV : Hid (c.V i = .slice (some ⟨g, 0, none⟩) n cap) := hv
  rw [hv]
  clear h hv hM
  cases hb : bit X i m with
  | true =>
    rw [hb] at c1
    have HP : Hid (putG gr X i m = X) := by show putG gr X i m = X; simp [putG, hb]
    clear hb
    go_enter Try.func58, Try.ntmps58
    go_wp2_with fail
    go_end0
    exact ⟨rfl, by rw [HP.out]; exact HB.out, Kept.refl _ _⟩
  | false =>
    rw [hb] at c1
    have HP : Hid (putG gr X i m = setX (setX X i m true) gr 0 true) := by show putG gr X i m = _; simp [putG, hb]
    have s1 := Bt.set HB.out hd HV.out m true
    obtain ⟨c3, f3⟩ := Bt.cell (i := gr) s1 HM.out.d HM.out.v (m := 0) (by omega)
    have s2 : Hid _ := Bt.set (i := gr) s1 HM.out.d HM.out.v 0 true
    clear hb s1
    go_enter Try.func58, Try.ntmps58
    go_wp2_with fail
    go_end0
    exact ⟨rfl, by rw [HP.out]; exact s2.out, ((Kept.refl _ _).setCell (Tab.inK (c := c) hd HV.out) _).setCell (Tab.inK (c := c) (i := gr) HM.out.d HM.out.v) _⟩

/-- What UntilStill wants of what is done with each rule: it does f, and writes the rows alone. -/
def Does (c : Tab ι) (gb B : Nat) (w0 : World) (dn : Nat) (caps : Array Value) (R : List Ru) (f : Ru → (ι → List Bool) → ι → List Bool) : Prop :=
  ∀ k, k < R.length → ∀ (w1 : World) (Y : ι → List Bool) (qa : Option Addr) (qc : Nat), Kept c.K w0 w1 → Bt w1 B c Y → RightAt w1 B qa (R.getD k (0, [])).2 → (R.getD k (0, [])).2.length ≤ qc →
    Calls Try.prog dn (#[.agg #[.int .i64 (R.getD k (0, [])).1, .slice qa (R.getD k (0, [])).2.length qc], .func (.func 58) #[] #[.pointer (some ⟨gb, 0, none⟩)]] ++ caps) w1 fun e w' =>
      e = .returned (.tuple #[]) ∧ Bt w' B c (f (R.getD k (0, [])) Y) ∧ Kept c.K w1 w'

/-- A round over all rules. -/
def roundG (R : List Ru) (f : Ru → (ι → List Bool) → ι → List Bool) (n : Nat) (X : ι → List Bool) : ι → List Bool := loopN n (fun q => f (R.getD q (0, []))) X

set_option maxRecDepth 100000 in
set_option maxHeartbeats 3200000 in
theorem until_gen {w : World} {B dn : Nat} {caps : Array Value} {rv : Value} {X : ι → List Bool} {R : List Ru} {f : Ru → (ι → List Bool) → ι → List Bool} {Head : (ι → List Bool) → Prop} {togo : (ι → List Bool) → Nat}
    (h : Bt (w.alloc (.cells #[.bool true] 4)) B c X) (hB : B ≤ w.heap.size) (hM : Mark c gr w.heap.size) (hr : RulesAt (w.alloc (.cells #[.bool true] 4)) B rv R) (h40 : R.length ≤ 1000) (hD : Does c w.heap.size B (w.alloc (.cells #[.bool true] 4)) dn caps R f)
    (hEn : ∀ args w, (callFunc dn args).run Try.prog w = .ok (.enter dn args) w) (hA : Head X) (hN : ∀ Y, Head Y → bit Y gr 0 = true → Head (roundG R f R.length (setX Y gr 0 false)) ∧ togo (roundG R f R.length (setX Y gr 0 false)) < togo Y) :
    Calls Try.prog 45 #[rv, .func (.func dn) #[] caps] w fun e w' =>
      e = .returned (.tuple #[]) ∧ ∃ Y, Head Y ∧ bit Y gr 0 = false ∧ Bt w' B c Y ∧ Kept c.K (w.alloc (.cells #[.bool true] 4)) w' := by
  obtain ⟨ra, rc, hrv⟩ := hr.1
  subst hrv
  have HB : Hid (Bt (w.alloc (.cells #[.bool true] 4)) B c X) := h
  have HM : Hid (Mark c gr w.heap.size) := hM
  have HR : Hid (RulesAt (w.alloc (.cells #[.bool true] 4)) B (.slice ra R.length rc) R) := hr
  have HD : Hid (Does c w.heap.size B (w.alloc (.cells #[.bool true] 4)) dn caps R f) := hD
  have HA : Hid (Head X) := hA
  have HN : Hid (∀ Y, Head Y → bit Y gr 0 = true → Head (roundG R f R.length (setX Y gr 0 false)) ∧ togo (roundG R f R.length (setX Y gr 0 false)) < togo Y) := hN
  have HEn : Hid (∀ args w, (callFunc dn args).run Try.prog w = .ok (.enter dn args) w) := hEn
  clear h hM hr hD hA hN hEn
  go_enter Try.func45, Try.ntmps45
  go_wp2_with fail
  go_loopg [] (togo X) (fun n wr => ∃ Y, n = togo Y ∧ Head Y ∧ Bt wr B c Y ∧ Kept c.K (w.alloc (.cells #[.bool true] 4)) wr)
  case atStart => exact ⟨X, rfl, HA.out, HB.out, Kept.refl _ _⟩
  case round =>
    obtain ⟨Y, hn, hAY, hBr, hKr⟩ := hrel
    have HN' : Hid (gk = togo Y) := hn
    have HAY : Hid (Head Y) := hAY
    have HBr : Hid (Bt wr B c Y) := hBr
    have HKr : Hid (Kept c.K (w.alloc (.cells #[.bool true] 4)) wr) := hKr
    have hsz : w.heap.size + 1 ≤ wr.heap.size := by have := hKr.size; simpa using this
    obtain ⟨c1, f1⟩ := Bt.cell (i := gr) (n := 1) hBr HM.out.d HM.out.v (m := 0) (by omega)
    clear hn hAY hBr hKr
    cases hg : bit Y gr 0 with
    | true =>
      rw [hg] at c1
      have hnx := HN.out Y HAY.out hg
      have HNX : Hid (Head (roundG R f R.length (setX Y gr 0 false)) ∧ togo (roundG R f R.length (setX Y gr 0 false)) < togo Y) := hnx
      have hB1 := Bt.set (i := gr) (n := 1) HBr.out HM.out.d HM.out.v 0 false
      have hK1 : Kept c.K wr (wr.setCell ⟨w.heap.size, 0, none⟩ (.bool false)) := (Kept.refl _ _).setCell (Tab.inK (c := c) (i := gr) HM.out.d HM.out.v) _
      have HK2 : Hid (Kept c.K (w.alloc (.cells #[.bool true] 4)) (wr.setCell ⟨w.heap.size, 0, none⟩ (.bool false))) := HKr.out.trans hK1
      have HB1 : Hid (Bt (wr.setCell ⟨w.heap.size, 0, none⟩ (.bool false)) B c (setX Y gr 0 false)) := hB1
      clear hg hnx hB1 hK1
      obtain ⟨w3, hw3⟩ : ∃ w3, w3 = wr := ⟨_, rfl⟩
      subst hw3
      go_wp2_with fail
      clear c1 f1
      go_loopw [12] (fun s wq => ∃ k : Nat, s = .int .i64 k ∧ k ≤ R.length ∧ Bt wq B c (roundG R f k (setX Y gr 0 false)) ∧ Kept c.K (w.alloc (.cells #[.bool true] 4)) wq) (fun s _ => R.length - (intOf s).toNat)
      case atStart => exact ⟨0, rfl, Nat.zero_le _, HB1.out, HK2.out⟩
      case round =>
        clear HB1 HK2
        obtain ⟨k, rfl, hk, hBq, hKq⟩ := hrel
        obtain ⟨Z, hZ⟩ : ∃ Z, roundG R f k (setX Y gr 0 false) = Z := ⟨_, rfl⟩
        rw [hZ] at hBq
        have HZ : Hid (roundG R f k (setX Y gr 0 false) = Z) := hZ
        have HBq : Hid (Bt wr B c Z) := hBq
        have HKq : Hid (Kept c.K (w.alloc (.cells #[.bool true] 4)) wr) := hKq
        have hsz : w.heap.size + 1 ≤ wr.heap.size := by have := hKq.size; simpa using this
        have hRq := HR.out.below (hKq.below (fun b hb => Bt.ge HB.out hb) (by simp; omega))
        clear hZ hBq hKq
        by_cases hlt : k < R.length
        · obtain ⟨b, o, rc', qa, qc, hv, hb, k1, k2, hqc, k3⟩ := hRq.2 k hlt
          cases hv
          have hstep : roundG R f (k + 1) (setX Y gr 0 false) = f (R.getD k (0, [])) Z := by rw [← HZ.out]; rfl
          have hK1 : Kept c.K wr (wr.alloc (.cells #[.int .i64 (R.getD k (0, [])).1, .slice qa (R.getD k (0, [])).2.length qc] 28)) := (Kept.refl _ _).alloc _
          have call := HD.out k hlt (wr.alloc (.cells #[.int .i64 (R.getD k (0, [])).1, .slice qa (R.getD k (0, [])).2.length qc] 28)) Z qa qc (HKq.out.trans hK1) (Bt.alloc HBq.out _)
            (RightAt.below (w := wr) k3 (hK1.below (fun b hb => Bt.ge HB.out hb) (by omega))) hqc
          have HK1 : Hid (Kept c.K (w.alloc (.cells #[.bool true] 4)) (wr.alloc (.cells #[.int .i64 (R.getD k (0, [])).1, .slice qa (R.getD k (0, [])).2.length qc] 28))) := HKq.out.trans hK1
          have HS : Hid (roundG R f (k + 1) (setX Y gr 0 false) = f (R.getD k (0, [])) Z) := hstep
          obtain ⟨⟨L, Rt⟩, hre⟩ : ∃ x, R.getD k (0, []) = x := ⟨_, rfl⟩
          rw [hre] at k1 k2 call HK1 HS
          simp only at k1 k2 call HK1
          have k2' : wr.cell? ⟨b, o + k * 2 + 1, none⟩ = some (.slice qa Rt.length qc) := by rw [Nat.add_assoc]; exact k2
          have j0 : (0 : Int) ≤ (k : Int) := Int.natCast_nonneg _
          have j1 : (k : Int) < (R.length : Int) := by omega
          clear hstep hre k2 k3 hK1 hRq hqc
          go_wp2_with fail
          simp only [HEn.out]
          refine Calls.mono call ?_
          rintro e w4 ⟨rfl, hB4, hK4⟩
          go_wp2_with fail
          go_roundw
          case rel => exact ⟨k + 1, by go_num, by omega, by rw [HS.out]; exact hB4, HK1.out.trans hK4⟩
          case measure => simp [intOf]; omega
        · obtain rfl : k = R.length := by omega
          clear hRq
          go_wp2_with fail
          go_roundg (togo (roundG R f R.length (setX Y gr 0 false)))
          case measure => have := HNX.out.2; rw [HN'.out]; exact this
          case rel => exact ⟨_, rfl, HNX.out.1, by rw [HZ.out]; exact HBq.out, HKq.out⟩
    | false =>
      rw [hg] at c1
      have HG : Hid (bit Y gr 0 = false) := hg
      clear hg
      go_wp2_with fail
      go_end0
      exact ⟨rfl, Y, HAY.out, HG.out, HBr.out, HKr.out⟩
end

end Go.Proofs.Ytobegekmgoiopaa

/- The contract of the program's grow.PutAll, for whatever rows grow. -/
namespace Go.Proofs.Ytobegekmgoiopaa
open Go.RowKit

section
variable {ι : Type} [DecidableEq ι] {c : Tab ι} {gr : ι} {gb : Nat}

set_option maxRecDepth 100000 in
set_option maxHeartbeats 1600000 in
theorem putAll_gen {w : World} {B n nj : Nat} {i j : ι} {X : ι → List Bool} (h : Bt w B c X) (hM : Mark c gr gb) (hd : c.dom i = some n) (hdj : c.dom j = some nj) (hle : nj ≤ n) (hi : i ≠ gr) (hs : nj ≤ 1000) :
    Calls Try.prog 60 #[c.V i, c.V j, .func (.func 58) #[] #[.pointer (some ⟨gb, 0, none⟩)]] w fun e w' => e = .returned (.tuple #[]) ∧ Bt w' B c (putAllG gr i j nj X) ∧ Kept c.K w w' := by
  obtain ⟨ja, jc, hvj⟩ := Bt.slice h hdj
  obtain ⟨ia, ic, hvi⟩ := Bt.slice h hd
  have HB : Hid (Bt w B c X) := h
  have HM : Hid (Mark c gr gb) := hM
  have HV : Hid (c.V i = .slice ia n ic) := hvi
  have HJ : Hid (c.V j = .slice ja nj jc) := hvj
  rw [hvi, hvj]
  clear h hvi hvj hM
  go_enter Try.func60, Try.ntmps60
  go_wp2_with fail
  go_loopw [10] (fun s wr => ∃ k : Nat, s = .int .i64 k ∧ k ≤ nj ∧ Bt wr B c (putAllG gr i j k X) ∧ Kept c.K w wr) (fun s _ => nj - (intOf s).toNat)
  case atStart => exact ⟨0, rfl, Nat.zero_le _, HB.out, Kept.refl _ _⟩
  case round =>
    obtain ⟨k, rfl, hk, hB, hK⟩ := hrel
    have HB' : Hid (Bt wr B c (putAllG gr i j k X)) := hB
    have HK : Hid (Kept c.K w wr) := hK
    clear hB hK
    by_cases hlt : k < nj
    · obtain ⟨g, cap, hv, _, _⟩ := Bt.form HB'.out hdj (by omega)
      have hv' := HJ.out
      rw [hv] at hv'
      cases hv'
      obtain ⟨c1, _⟩ := Bt.cell HB'.out hdj hv hlt
      have j0 : (0 : Int) ≤ (k : Int) := Int.natCast_nonneg _
      have j1 : (k : Int) < (nj : Int) := by omega
      have put := put_gen HB'.out HM.out hd (m := k) (by omega) hi
      rw [HV.out] at put
      have HE : Hid (putAllG gr i j (k + 1) X = if bit (putAllG gr i j k X) j k then putG gr (putAllG gr i j k X) i k else putAllG gr i j k X) := rfl
      clear hv
      cases hb : bit (putAllG gr i j k X) j k with
      | true =>
        rw [hb] at c1 HE
        clear hb
        go_wp2_with (go_at_call 58; refine put.mono ?_; rintro e w2 ⟨rfl, hB2, hK2⟩)
        go_roundw
        case rel => exact ⟨k + 1, by go_num, by omega, by rw [HE.out]; exact hB2, HK.out.trans hK2⟩
        case measure => simp [intOf]; omega
      | false =>
        rw [hb] at c1 HE
        clear hb put
        go_wp2_with fail
        go_roundw
        case rel => exact ⟨k + 1, by go_num, by omega, by rw [HE.out]; exact HB'.out, HK.out⟩
        case measure => simp [intOf]; omega
    · obtain rfl : k = nj := by omega
      go_wp2_with fail
      go_end0
      exact ⟨rfl, HB'.out, HK.out⟩

end

end Go.Proofs.Ytobegekmgoiopaa

/- The rows of the program's package sets; the contract of sets.putFirst. -/
namespace Go.Proofs.Ytobegekmgoiopaa
open Go.RowKit

/-- The rows of the program's sets, and the truth that tells whether any has grown. -/
inductive Iy where
  | null | gr
  | f (n : Nat)
  | g (n : Nat)
  deriving DecidableEq

abbrev Xs := Iy → List Bool

def putX (X : Xs) (i : Iy) (m : Nat) : Xs := if bit X i m then X else setX (setX X i m true) .gr 0 true
def putAllX (i j : Iy) (n : Nat) (X : Xs) : Xs := loopN n (fun m Y => if bit Y j m then putX Y i m else Y) X
def pfX (T : Nat) (i : Iy) : List Sy → Xs → Xs × Bool
  | [], X => (X, true)
  | s :: l, X => if s.1 then (putX X i s.2.toNat, false) else
      if bit (putAllX i (.f s.2.toNat) T X) .null s.2.toNat then pfX T i l (putAllX i (.f s.2.toNat) T X) else (putAllX i (.f s.2.toNat) T X, false)

def sdom (T N : Nat) : Iy → Option Nat
  | .null => some N
  | .gr => some 1
  | .f n => if n < N then some T else none
  | .g n => if n < N then some (T + 1) else none
def STab (T N : Nat) (nv : Value) (vf vg : Nat → Value) (gb : Nat) : Tab Iy :=
  ⟨fun | .null => nv | .gr => .slice (some ⟨gb, 0, none⟩) 1 1 | .f n => vf n | .g n => vg n, sdom T N⟩

/-- The values vs lie in memory at a slice value, outside K. -/
def Heads (w : World) (K : Nat → Prop) (N : Nat) (fv : Value) (vs : Nat → Value) : Prop :=
  (∃ a c, fv = .slice a N c) ∧ ∀ n, n < N → ∃ g c, fv = .slice (some ⟨g, 0, none⟩) N c ∧ ¬ K g ∧ w.cell? ⟨g, n, none⟩ = some (vs n)
theorem Heads.kept {w w' : World} {K : Nat → Prop} {N : Nat} {fv : Value} {vs : Nat → Value} (h : Heads w K N fv vs) (hk : Kept K w w') : Heads w' K N fv vs :=
  ⟨h.1, fun n hn => let ⟨g, c, h1, h2, h3⟩ := h.2 n hn; ⟨g, c, h1, h2, hk.cell h2 h3⟩⟩

section
variable {T N : Nat} {nv : Value} {vf vg : Nat → Value} {gb : Nat}

theorem stab_mark (T N : Nat) (nv : Value) (vf vg : Nat → Value) (gb : Nat) : Mark (STab T N nv vf vg gb) .gr gb := ⟨rfl, rfl⟩

theorem put_any {w : World} {B n m : Nat} {i : Iy} {X : Xs} (h : Bt w B (STab T N nv vf vg gb) X) (hd : sdom T N i = some n) (hm : m < n) (hi : i ≠ .gr) :
    Calls Try.prog 58 #[(STab T N nv vf vg gb).V i, .int .i64 m, .pointer (some ⟨gb, 0, none⟩)] w fun e w' => e = .returned (.tuple #[]) ∧ Bt w' B (STab T N nv vf vg gb) (putX X i m) ∧ Kept (STab T N nv vf vg gb).K w w' := put_gen h (stab_mark T N nv vf vg gb) hd hm hi

theorem putAll_any {w : World} {B n nj : Nat} {i j : Iy} {X : Xs} (h : Bt w B (STab T N nv vf vg gb) X) (hd : sdom T N i = some n) (hdj : sdom T N j = some nj) (hle : nj ≤ n) (hi : i ≠ .gr) (hs : nj ≤ 1000) :
    Calls Try.prog 60 #[(STab T N nv vf vg gb).V i, (STab T N nv vf vg gb).V j, .func (.func 58) #[] #[.pointer (some ⟨gb, 0, none⟩)]] w fun e w' => e = .returned (.tuple #[]) ∧ Bt w' B (STab T N nv vf vg gb) (putAllX i j nj X) ∧ Kept (STab T N nv vf vg gb).K w w' := putAll_gen h (stab_mark T N nv vf vg gb) hd hdj hle hi hs

set_option maxRecDepth 100000 in
set_option maxHeartbeats 3200000 in
theorem putFirst_any {w : World} {B n lc gl gc : Nat} {fv : Value} {la ga : Option Addr} {i : Iy} {X : Xs} {l : List Sy} (h : Bt w B (STab T N nv vf vg gb) X) (hB : B ≤ w.heap.size) (hd : sdom T N i = some n) (hTn : T ≤ n) (hi : i ≠ .gr)
    (hF : Heads w (STab T N nv vf vg gb).K N fv vf) (hl : RightAt w B la l) (hin : ∀ s ∈ l, 0 ≤ s.2 ∧ s.2 < if s.1 then (T : Int) else (N : Int)) (hT : T ≤ 1000) (h8 : l.length ≤ 1000) :
    Calls Try.prog 59 #[.agg #[nv, fv, .slice ga gl gc], (STab T N nv vf vg gb).V i, .slice la l.length lc, .func (.func 58) #[] #[.pointer (some ⟨gb, 0, none⟩)]] w fun e w' =>
      e = .returned (.bool (pfX T i l X).2) ∧ Bt w' B (STab T N nv vf vg gb) (pfX T i l X).1 ∧ Kept (STab T N nv vf vg gb).K w w' := by
  obtain ⟨ia, ic, hvi⟩ := Bt.slice h hd
  obtain ⟨na, nc, hvn'⟩ := Bt.slice (i := Iy.null) (n := N) h rfl
  have hvn : nv = .slice na N nc := hvn'
  clear hvn'
  obtain ⟨fa, fc, hfv⟩ := hF.1
  subst hvn
  subst hfv
  have HB : Hid (Bt w B (STab T N (.slice na N nc) vf vg gb) X) := h
  have HV : Hid ((STab T N (.slice na N nc) vf vg gb).V i = .slice ia n ic) := hvi
  have HF : Hid (Heads w (STab T N (.slice na N nc) vf vg gb).K N (.slice fa N fc) vf) := hF
  have HL : Hid (RightAt w B la l) := hl
  have HI : Hid (∀ s ∈ l, 0 ≤ s.2 ∧ s.2 < if s.1 then (T : Int) else (N : Int)) := hin
  rw [hvi]
  clear h hvi hF hl hin
  go_enter Try.func59, Try.ntmps59
  go_wp2_with fail
  go_loopw [13] (fun s wr => ∃ k : Nat, s = .int .i64 k ∧ k ≤ l.length ∧ ∃ Y, pfX T i l X = pfX T i (l.drop k) Y ∧ Bt wr B (STab T N (.slice na N nc) vf vg gb) Y ∧
      Kept (STab T N (.slice na N nc) vf vg gb).K (w.alloc (.cells #[.slice na N nc, .slice fa N fc, .slice ga gl gc] 86)) wr) (fun s _ => l.length - (intOf s).toNat)
  case atStart => exact ⟨0, rfl, Nat.zero_le _, X, rfl, Bt.alloc HB.out _, Kept.refl _ _⟩
  case round =>
    obtain ⟨k, rfl, hk, Y, hY, hBr, hKr⟩ := hrel
    have HY : Hid (pfX T i l X = pfX T i (l.drop k) Y) := hY
    have HBr : Hid (Bt wr B (STab T N (.slice na N nc) vf vg gb) Y) := hBr
    have HKr : Hid (Kept (STab T N (.slice na N nc) vf vg gb).K (w.alloc (.cells #[.slice na N nc, .slice fa N fc, .slice ga gl gc] 86)) wr) := hKr
    have HK0 : Hid (Kept (STab T N (.slice na N nc) vf vg gb).K w wr) := ((Kept.refl _ _).alloc _).trans hKr
    have hsz : w.heap.size + 1 ≤ wr.heap.size := by have := hKr.size; simpa using this
    have b0 : wr.cell? ⟨w.heap.size, 0, none⟩ = some (.slice na N nc) := hKr.cell (Bt.notK HB.out (Nat.le_refl _)) (by simp [go_sem])
    have b1 : wr.cell? ⟨w.heap.size, 1, none⟩ = some (.slice fa N fc) := hKr.cell (Bt.notK HB.out (Nat.le_refl _)) (by simp [go_sem])
    have HBL : Hid (Below B w wr) := HK0.out.below (fun b hb => Bt.ge HB.out hb) hB
    clear hY hBr hKr
    by_cases hlt : k < l.length
    · obtain ⟨b', o', hqa, hb', k3, k4⟩ := HL.out k hlt
      subst hqa
      have hmem : l.getD k (false, 0) ∈ l := by simp [List.getD, hlt]
      have hin := HI.out _ hmem
      have hdrop : l.drop k = l.getD k (false, 0) :: l.drop (k + 1) := by rw [List.drop_eq_getElem_cons hlt]; simp [List.getD, hlt]
      obtain ⟨⟨t, v⟩, hsy⟩ : ∃ x, l.getD k (false, 0) = x := ⟨_, rfl⟩
      rw [hsy] at k3 k4 hin hdrop
      simp only at hin
      obtain ⟨y, rfl⟩ : ∃ y : Nat, v = y := ⟨v.toNat, by omega⟩
      have k3' : wr.cell? ⟨b', o' + k * 2, none⟩ = some (.bool t) := (HBL.out.cell (p := ⟨b', o' + k * 2, none⟩) hb').trans k3
      have k4' : wr.cell? ⟨b', o' + k * 2 + 1, none⟩ = some (.int .i64 y) := by rw [Nat.add_assoc]; exact (HBL.out.cell (p := ⟨b', o' + (k * 2 + 1), none⟩) hb').trans k4
      have j0 : (0 : Int) ≤ (k : Int) := Int.natCast_nonneg _
      have j1 : (k : Int) < (l.length : Int) := by omega
      have m0 : (wr.alloc (.cells #[.bool t, .int .i64 y] 102)).cell? ⟨w.heap.size, 0, none⟩ = some (.slice na N nc) := by rw [World.cell?_alloc_past _ _ _ (by omega)]; exact b0
      have m1 : (wr.alloc (.cells #[.bool t, .int .i64 y] 102)).cell? ⟨w.heap.size, 1, none⟩ = some (.slice fa N fc) := by rw [World.cell?_alloc_past _ _ _ (by omega)]; exact b1
      have HA : Hid (Bt (wr.alloc (.cells #[.bool t, .int .i64 y] 102)) B (STab T N (.slice na N nc) vf vg gb) Y) := Bt.alloc HBr.out _
      have HKA : Hid (Kept (STab T N (.slice na N nc) vf vg gb).K w (wr.alloc (.cells #[.bool t, .int .i64 y] 102))) := HK0.out.alloc _
      have HD : Hid (l.drop k = (t, (y : Int)) :: l.drop (k + 1)) := hdrop
      clear hmem hsy k3 k4 b0 b1 hdrop
      cases t with
      | true =>
        have hyT : y < T := by simp at hin; omega
        have put := put_any HA.out hd (m := y) (by omega) hi
        rw [HV.out] at put
        have HP : Hid (pfX T i l X = (putX Y i y, false)) := by
          show pfX T i l X = _
          rw [HY.out, HD.out]
          simp [pfX]
        clear hin
        go_wp2_with (go_at_call 58; refine put.mono ?_; rintro e w2 ⟨rfl, hB2, hK2⟩)
        go_ret
        exact ⟨by rw [HP.out]; rfl, by rw [HP.out]; exact hB2, HKA.out.trans hK2⟩
      | false =>
        have hyN : y < N := by simp at hin; omega
        have all := putAll_any (i := i) (j := .f y) (nj := T) HA.out hd (by simp [sdom, hyN]) hTn hi hT
        rw [HV.out] at all
        have all' : Calls Try.prog 60 #[.slice ia n ic, vf y, .func (.func 58) #[] #[.pointer (some ⟨gb, 0, none⟩)]] _ _ := all
        obtain ⟨fg, fc', hfe, hnK, k5⟩ := HF.out.2 y hyN
        cases hfe
        have k6 : (wr.alloc (.cells #[.bool false, .int .i64 y] 102)).cell? ⟨fg, y, none⟩ = some (vf y) := HKA.out.cell hnK k5
        have j2 : (0 : Int) ≤ (y : Int) := Int.natCast_nonneg _
        have j3 : (y : Int) < (N : Int) := by omega
        have HP : Hid (pfX T i l X = if bit (putAllX i (.f y) T Y) .null y then pfX T i (l.drop (k + 1)) (putAllX i (.f y) T Y) else (putAllX i (.f y) T Y, false)) := by
          show pfX T i l X = _
          rw [HY.out, HD.out]
          simp [pfX]
        clear hin k5 all
        cases hz : bit (putAllX i (.f y) T Y) .null y with
        | true =>
          rw [hz] at HP
          have HZ : Hid (bit (putAllX i (.f y) T Y) .null y = true) := hz
          clear hz
          go_wp2_with
            (go_at_call 60; refine all'.mono ?_; rintro e w2 ⟨rfl, hB2, hK2⟩
             have n0 := hK2.cell (p := ⟨w.heap.size, 0, none⟩) (Bt.notK HB.out (Nat.le_refl _)) m0
             have n2 := hK2.cell (p := ⟨wr.heap.size, 1, none⟩) (Bt.notK HBr.out (Nat.le_refl _)) (v := .int .i64 y) (by simp [go_sem])
             obtain ⟨ng, nc', hne, _, _⟩ := Bt.form (i := Iy.null) (n := N) hB2 rfl (by omega)
             cases hne
             obtain ⟨n3, _⟩ := Bt.cell (i := Iy.null) (n := N) hB2 rfl rfl hyN
             rw [HZ.out] at n3
             have HB2 : Hid (Bt w2 B _ _) := hB2
             have HK2 : Hid (Kept _ _ w2) := hK2
             clear hB2 hK2)
          go_roundw
          case rel => exact ⟨k + 1, by go_num, by omega, _, HP.out, HB2.out, (HKr.out.alloc _).trans HK2.out⟩
          case measure => simp [intOf]; omega
        | false =>
          rw [hz] at HP
          have HZ : Hid (bit (putAllX i (.f y) T Y) .null y = false) := hz
          clear hz
          go_wp2_with
            (go_at_call 60; refine all'.mono ?_; rintro e w2 ⟨rfl, hB2, hK2⟩
             have n0 := hK2.cell (p := ⟨w.heap.size, 0, none⟩) (Bt.notK HB.out (Nat.le_refl _)) m0
             have n2 := hK2.cell (p := ⟨wr.heap.size, 1, none⟩) (Bt.notK HBr.out (Nat.le_refl _)) (v := .int .i64 y) (by simp [go_sem])
             obtain ⟨ng, nc', hne, _, _⟩ := Bt.form (i := Iy.null) (n := N) hB2 rfl (by omega)
             cases hne
             obtain ⟨n3, _⟩ := Bt.cell (i := Iy.null) (n := N) hB2 rfl rfl hyN
             rw [HZ.out] at n3
             have HB2 : Hid (Bt w2 B _ _) := hB2
             have HK2 : Hid (Kept _ _ w2) := hK2
             clear hB2 hK2)
          go_ret
          exact ⟨by rw [HP.out]; rfl, by rw [HP.out]; exact HB2.out, HKA.out.trans HK2.out⟩
    · obtain rfl : k = l.length := by omega
      have HP : Hid (pfX T i l X = (Y, true)) := by
        show pfX T i l X = _
        rw [HY.out, List.drop_length]
        rfl
      go_wp2_with fail
      go_ret
      exact ⟨by rw [HP.out]; rfl, by rw [HP.out]; exact HBr.out, HK0.out⟩
end

end Go.Proofs.Ytobegekmgoiopaa
