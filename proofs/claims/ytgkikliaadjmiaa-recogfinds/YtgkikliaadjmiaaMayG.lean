/- The contract of the program's gram.May: it tells what the plain function mayB tells. -/
import Derived.Test.YtgkikliaadjmiaaMay1
namespace Go.Proofs.Ytgkikliaadjmiaa
open Go.RowKit

def belB (n e : Int) : Bool := decide (0 ≤ n ∧ n < e)

set_option maxRecDepth 100000 in
theorem isBelow_any {w : World} {n e : Int} :
    Calls Try.prog 15 #[.int .i64 n, .int .i64 e] w fun r w' => r = .returned (.bool (belB n e)) ∧ w' = w := by
  by_cases h1 : 0 ≤ n
  · by_cases h2 : n < e
    · have HD : Hid (belB n e = true) := decide_eq_true ⟨h1, h2⟩
      go_enter Try.func15, Try.ntmps15
      go_wp2_with fail
      go_ret
      exact ⟨by rw [HD.out]; rfl, rfl⟩
    · have HD : Hid (belB n e = false) := decide_eq_false (by omega)
      go_enter Try.func15, Try.ntmps15
      go_wp2_with fail
      go_ret
      exact ⟨by rw [HD.out]; rfl, rfl⟩
  · have HD : Hid (belB n e = false) := decide_eq_false (by omega)
    go_enter Try.func15, Try.ntmps15
    go_wp2_with fail
    go_ret
    exact ⟨by rw [HD.out]; rfl, rfl⟩

set_option maxRecDepth 100000 in
theorem maySym_any {w : World} {T N v : Int} {rv : Value} {t : Bool} {ra : Option Addr} {rl rc : Nat} (hrv : rv = .slice ra rl rc) :
    Calls Try.prog 16 #[.agg #[.int .i64 T, .int .i64 N, rv], .agg #[.bool t, .int .i64 v]] w fun r w' => r = .returned (.bool (symB T N (t, v))) ∧ Below w.heap.size w w' := by
  subst hrv
  cases t with
  | true =>
    have HD : Hid (symB T N (true, v) = belB v T) := rfl
    go_enter Try.func16, Try.ntmps16
    go_wp2_with (go_at_call 15; refine isBelow_any.mono ?_; rintro e w2 ⟨rfl, rfl⟩)
    go_ret
    exact ⟨by rw [HD.out]; rfl, ((Below.refl _ _).alloc (Nat.le_refl _) _).alloc (by simp) _⟩
  | false =>
    have HD : Hid (symB T N (false, v) = belB v N) := rfl
    go_enter Try.func16, Try.ntmps16
    go_wp2_with (go_at_call 15; refine isBelow_any.mono ?_; rintro e w2 ⟨rfl, rfl⟩)
    go_ret
    exact ⟨by rw [HD.out]; rfl, ((Below.refl _ _).alloc (Nat.le_refl _) _).alloc (by simp) _⟩

set_option maxRecDepth 100000 in
set_option maxHeartbeats 3200000 in
theorem mayRule_any {w : World} {T N L : Int} {rv : Value} {qa ra : Option Addr} {qc rl rc : Nat} {Rt : List Sy} (hrv : rv = .slice ra rl rc) (hR : RightAt w w.heap.size qa Rt) :
    Calls Try.prog 11 #[.agg #[.int .i64 T, .int .i64 N, rv], .agg #[.int .i64 L, .slice qa Rt.length qc]] w fun r w' => r = .returned (.bool (ruleB T N (L, Rt))) ∧ Below w.heap.size w w' := by
  subst hrv
  by_cases hh : 0 ≤ L ∧ L < N
  · have e1 : belB L N = true := decide_eq_true hh
    have call := isBelow_any (w := (w.alloc (.cells #[.int .i64 T, .int .i64 N, .slice ra rl rc] 24)).alloc (.cells #[.int .i64 L, .slice qa Rt.length qc] 31)) (n := L) (e := N)
    rw [e1] at call
    by_cases h8 : Rt.length ≤ 8
    · have HD : Hid (ruleB T N (L, Rt) = Rt.all (symB T N)) := by show ruleB T N (L, Rt) = _; simp [ruleB, hh.1, hh.2, h8]
      have HR : Hid (RightAt w w.heap.size qa Rt) := hR
      clear hR e1 hh
      go_enter Try.func11, Try.ntmps11
      go_wp2_with (go_at_call 15; refine call.mono ?_; rintro e w2 ⟨rfl, rfl⟩)
      go_loopw [22] (fun k wr => ∃ i : Nat, k = .int .i64 i ∧ i ≤ Rt.length ∧ (Rt.take i).all (symB T N) = true ∧ Below (w.heap.size + 2) ((w.alloc (.cells #[.int .i64 T, .int .i64 N, .slice ra rl rc] 24)).alloc (.cells #[.int .i64 L, .slice qa Rt.length qc] 31)) wr) (fun k _ => Rt.length - (intOf k).toNat)
      case atStart => exact ⟨0, rfl, Nat.zero_le _, rfl, Below.refl _ _⟩
      case round =>
        obtain ⟨i, rfl, hi, hall, hB⟩ := hrel
        have HI : Hid ((Rt.take i).all (symB T N) = true) := hall
        have HB2 : Hid (Below (w.heap.size + 2) ((w.alloc (.cells #[.int .i64 T, .int .i64 N, .slice ra rl rc] 24)).alloc (.cells #[.int .i64 L, .slice qa Rt.length qc] 31)) wr) := hB
        have HB : Hid (Below w.heap.size w wr) := (((Below.refl _ _).alloc (Nat.le_refl _) _).alloc (by simp) _).trans (hB.mono (by omega))
        have hsz : w.heap.size + 2 ≤ wr.heap.size := by have := hB.size; simp at this; omega
        have b0 : wr.cell? ⟨w.heap.size, 0, none⟩ = some (.int .i64 T) := (hB.cell (by simp)).trans (by simp [go_sem])
        have b1 : wr.cell? ⟨w.heap.size, 1, none⟩ = some (.int .i64 N) := (hB.cell (by simp)).trans (by simp [go_sem])
        have b2 : wr.cell? ⟨w.heap.size, 2, none⟩ = some (.slice ra rl rc) := (hB.cell (by simp)).trans (by simp [go_sem])
        clear hall hB call
        by_cases hi' : i < Rt.length
        · obtain ⟨b', o', hqa, hb', k3, k4⟩ := HR.out i hi'
          subst hqa
          obtain ⟨⟨t, v⟩, hsy⟩ : ∃ x, Rt.getD i (false, 0) = x := ⟨_, rfl⟩
          rw [hsy] at k3 k4
          have k3' : wr.cell? ⟨b', o' + i * 2, none⟩ = some (.bool t) := (HB.out.cell (p := ⟨b', o' + i * 2, none⟩) hb').trans k3
          have k4' : wr.cell? ⟨b', o' + i * 2 + 1, none⟩ = some (.int .i64 v) := by rw [Nat.add_assoc]; exact (HB.out.cell (p := ⟨b', o' + (i * 2 + 1), none⟩) hb').trans k4
          have HT : Hid ((Rt.take (i + 1)).all (symB T N) = symB T N (t, v)) := by
            show (Rt.take (i + 1)).all (symB T N) = _
            rw [all_take_succ _ Rt (false, 0) i hi', HI.out, hsy, Bool.true_and]
          have HF : Hid (symB T N (t, v) = false → Rt.all (symB T N) = false) := fun h => not_all _ Rt (false, 0) i hi' (by rw [hsy]; exact h)
          have n0 : (wr.alloc (.cells #[.bool t, .int .i64 v] 38)).cell? ⟨w.heap.size, 0, none⟩ = some (.int .i64 T) := by rw [World.cell?_alloc_past _ _ _ (by omega)]; exact b0
          have n1 : (wr.alloc (.cells #[.bool t, .int .i64 v] 38)).cell? ⟨w.heap.size, 1, none⟩ = some (.int .i64 N) := by rw [World.cell?_alloc_past _ _ _ (by omega)]; exact b1
          have n2 : (wr.alloc (.cells #[.bool t, .int .i64 v] 38)).cell? ⟨w.heap.size, 2, none⟩ = some (.slice ra rl rc) := by rw [World.cell?_alloc_past _ _ _ (by omega)]; exact b2
          have sym := maySym_any (w := wr.alloc (.cells #[.bool t, .int .i64 v] 38)) (T := T) (N := N) (t := t) (v := v) (ra := ra) (rl := rl) (rc := rc) rfl
          clear k3 k4 hsy b0 b1 b2
          cases hs : symB T N (t, v) with
          | true =>
            rw [hs] at sym HT
            clear hs HF
            go_wp2_with (go_at_call 16; refine sym.mono ?_; rintro e w2 ⟨rfl, hB2⟩)
            go_roundw
            case rel => exact ⟨i + 1, by go_num, by omega, HT.out, (HB2.out.alloc (by omega) _).trans (hB2.mono (by simp; omega))⟩
            case measure => simp [intOf]; omega
          | false =>
            rw [hs] at sym
            have HF' : Hid (Rt.all (symB T N) = false) := HF.out hs
            clear hs HF HT
            go_wp2_with (go_at_call 16; refine sym.mono ?_; rintro e w2 ⟨rfl, hB2⟩)
            go_ret
            exact ⟨by rw [HD.out, HF'.out]; rfl, (HB.out.alloc (by omega) _).trans (hB2.mono (by simp; omega))⟩
        · have HZ : Hid (Rt.all (symB T N) = true) := by
            show Rt.all (symB T N) = true
            rw [← all_of_take _ Rt i (by omega)]; exact HI.out
          go_wp2_with fail
          go_ret
          exact ⟨by rw [HD.out, HZ.out]; rfl, HB.out⟩
    · have HD : Hid (ruleB T N (L, Rt) = false) := by show ruleB T N (L, Rt) = _; simp [ruleB, h8]
      clear hR e1 hh
      go_enter Try.func11, Try.ntmps11
      go_wp2_with (go_at_call 15; refine call.mono ?_; rintro e w2 ⟨rfl, rfl⟩)
      go_ret
      exact ⟨by rw [HD.out]; rfl, ((Below.refl _ _).alloc (Nat.le_refl _) _).alloc (by simp) _⟩
  · have e1 : belB L N = false := decide_eq_false hh
    have HD : Hid (ruleB T N (L, Rt) = false) := by show ruleB T N (L, Rt) = _; simp [ruleB]; omega
    have call := isBelow_any (w := (w.alloc (.cells #[.int .i64 T, .int .i64 N, .slice ra rl rc] 24)).alloc (.cells #[.int .i64 L, .slice qa Rt.length qc] 31)) (n := L) (e := N)
    rw [e1] at call
    clear hR e1 hh
    go_enter Try.func11, Try.ntmps11
    go_wp2_with (go_at_call 15; refine call.mono ?_; rintro e w2 ⟨rfl, rfl⟩)
    go_ret
    exact ⟨by rw [HD.out]; rfl, ((Below.refl _ _).alloc (Nat.le_refl _) _).alloc (by simp) _⟩

set_option maxRecDepth 100000 in
set_option maxHeartbeats 3200000 in
theorem mayG_any {w : World} {T N : Int} {rv : Value} {R : List Ru} (hr : RulesAt w w.heap.size rv R) :
    Calls Try.prog 7 #[.agg #[.int .i64 T, .int .i64 N, rv]] w fun e w' => e = .returned (.bool (mayB T N R)) ∧ Below w.heap.size w w' := by
  obtain ⟨ra, rc, hrv⟩ := hr.1
  by_cases hh : headB T N R.length = true
  · have hh' := hh
    simp only [headB, decide_eq_true_eq] at hh'
    obtain ⟨h1, h2, h3, h4, h5⟩ := hh'
    have HR : Hid (RulesAt w w.heap.size rv R) := hr
    have HM : Hid (mayB T N R = R.all (ruleB T N)) := by show mayB T N R = _; simp [mayB, hh]
    clear hr hh
    subst hrv
    go_enter Try.func7, Try.ntmps7
    go_wp2_with fail
    go_loopw [28] (fun i wr => ∃ j : Nat, i = .int .i64 j ∧ j ≤ R.length ∧ (R.take j).all (ruleB T N) = true ∧ Below (w.heap.size + 1) (w.alloc (.cells #[.int .i64 T, .int .i64 N, .slice ra R.length rc] 24)) wr)
      (fun i _ => R.length - (intOf i).toNat)
    case atStart => exact ⟨0, rfl, Nat.zero_le _, rfl, Below.refl _ _⟩
    case round =>
      obtain ⟨j, rfl, hj, hall, hB⟩ := hrel
      have HA : Hid ((R.take j).all (ruleB T N) = true) := hall
      have b0 : wr.cell? ⟨w.heap.size, 0, none⟩ = some (.int .i64 T) := (hB.cell (by simp)).trans (by simp [go_sem])
      have b1 : wr.cell? ⟨w.heap.size, 1, none⟩ = some (.int .i64 N) := (hB.cell (by simp)).trans (by simp [go_sem])
      have b2 : wr.cell? ⟨w.heap.size, 2, none⟩ = some (.slice ra R.length rc) := (hB.cell (by simp)).trans (by simp [go_sem])
      have HB : Hid (Below w.heap.size w wr) := ((Below.refl _ _).alloc (Nat.le_refl _) _).trans (hB.mono (by omega))
      have HB1 : Hid (Below (w.heap.size + 1) (w.alloc (.cells #[.int .i64 T, .int .i64 N, .slice ra R.length rc] 24)) wr) := hB
      have hsz := hB.size
      simp only [World.size_alloc] at hsz
      clear hall hB
      by_cases hlt : j < R.length
      · obtain ⟨b, o, rc', qa, qc, hv, hb, k1, k2, _, k3⟩ := HR.out.2 j hlt
        cases hv
        obtain ⟨⟨L, Rt⟩, hru⟩ : ∃ x, R.getD j (0, []) = x := ⟨_, rfl⟩
        rw [hru] at k1 k2 k3
        have k1' := (HB.out.cell (p := ⟨b, o + j * 2, none⟩) hb).trans k1
        have k2' : wr.cell? ⟨b, o + j * 2 + 1, none⟩ = some (.slice qa Rt.length qc) := by rw [Nat.add_assoc]; exact (HB.out.cell (p := ⟨b, o + (j * 2 + 1), none⟩) hb).trans k2
        have HU : Hid (R.getD j (0, []) = (L, Rt)) := hru
        have hRt : RightAt w w.heap.size qa Rt := k3
        have n0 : (wr.alloc (.cells #[.int .i64 L, .slice qa Rt.length qc] 31)).cell? ⟨w.heap.size, 0, none⟩ = some (.int .i64 T) := by rw [World.cell?_alloc_past _ _ _ (by omega)]; exact b0
        have n1 : (wr.alloc (.cells #[.int .i64 L, .slice qa Rt.length qc] 31)).cell? ⟨w.heap.size, 1, none⟩ = some (.int .i64 N) := by rw [World.cell?_alloc_past _ _ _ (by omega)]; exact b1
        have n2 : (wr.alloc (.cells #[.int .i64 L, .slice qa Rt.length qc] 31)).cell? ⟨w.heap.size, 2, none⟩ = some (.slice (some ⟨b, o, none⟩) R.length rc) := by rw [World.cell?_alloc_past _ _ _ (by omega)]; exact b2
        have hrule := mayRule_any (w := wr.alloc (.cells #[.int .i64 L, .slice qa Rt.length qc] 31)) (T := T) (N := N) (L := L) (rv := .slice (some ⟨b, o, none⟩) R.length rc) (qa := qa) (qc := qc) (Rt := Rt) rfl
          ((hRt.below (HB.out.alloc (by omega) _)).mono (by simp; omega))
        clear k1 k2 k3 hru b0 b1 b2 hRt
        cases hs : ruleB T N (L, Rt) with
        | true =>
          rw [hs] at hrule
          have HJ : Hid ((R.take (j + 1)).all (ruleB T N) = true) := by
            show (R.take (j + 1)).all (ruleB T N) = true
            rw [all_take_succ _ R (0, []) j hlt, HA.out, HU.out, hs]; rfl
          clear hs
          go_wp2_with (go_at_call 11; refine hrule.mono ?_; rintro e w2 ⟨rfl, hB2⟩)
          go_roundw
          case rel => exact ⟨j + 1, by go_num, by omega, HJ.out, (HB1.out.alloc (by omega) _).trans (hB2.mono (by simp; omega))⟩
          case measure => simp [intOf]; omega
        | false =>
          rw [hs] at hrule
          have HJ : Hid (R.all (ruleB T N) = false) := rule_bad hlt (by rw [HU.out]; exact hs)
          clear hs
          go_wp2_with (go_at_call 11; refine hrule.mono ?_; rintro e w2 ⟨rfl, hB2⟩)
          go_ret
          exact ⟨by rw [HM.out, HJ.out]; rfl, (HB.out.alloc (by omega) _).trans (hB2.mono (by simp; omega))⟩
      · have HZ : Hid (mayB T N R = true) := by
          show mayB T N R = true
          rw [HM.out, ← all_of_take _ R j (by omega)]; exact HA.out
        go_wp2_with fail
        go_ret
        exact ⟨by rw [HZ.out]; rfl, HB.out⟩
  · have hm : mayB T N R = false := by simp [mayB, hh]
    simp only [headB, decide_eq_true_eq] at hh
    subst hrv
    clear hr
    rw [hm]
    clear hm
    by_cases h1 : T < 0
    · go_enter Try.func7, Try.ntmps7
      go_wp2_with fail
      go_ret
      exact ⟨rfl, (Below.refl _ _).alloc (Nat.le_refl _) _⟩
    by_cases h2 : 8 < T
    · go_enter Try.func7, Try.ntmps7
      go_wp2_with fail
      go_ret
      exact ⟨rfl, (Below.refl _ _).alloc (Nat.le_refl _) _⟩
    by_cases h3 : N < 1
    · go_enter Try.func7, Try.ntmps7
      go_wp2_with fail
      go_ret
      exact ⟨rfl, (Below.refl _ _).alloc (Nat.le_refl _) _⟩
    by_cases h4 : 12 < N
    · go_enter Try.func7, Try.ntmps7
      go_wp2_with fail
      go_ret
      exact ⟨rfl, (Below.refl _ _).alloc (Nat.le_refl _) _⟩
    have h5 : 40 < R.length := by omega
    go_enter Try.func7, Try.ntmps7
    go_wp2_with fail
    go_ret
    exact ⟨rfl, (Below.refl _ _).alloc (Nat.le_refl _) _⟩

end Go.Proofs.Ytgkikliaadjmiaa
