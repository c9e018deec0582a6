/- The contract of pollardingref1.May: it tells what the plain function mayB tells. -/
import Derived.Test.YtgkikliaadjmiaaRows
import Derived.Test.YtgkikliaadjmiaaAt
import Derived.WalkKit
import Derived.WalkSpells
import Derived.Deep.Cut
import Derived.Deep.CutRange
namespace Go.Proofs.Ytgkikliaadjmiaa
open Go.RowKit

def symB (T N : Int) (s : Sy) : Bool := decide (0 ≤ s.2 ∧ s.2 < if s.1 then T else N)
def ruleB (T N : Int) (r : Ru) : Bool := decide (0 ≤ r.1 ∧ r.1 < N ∧ r.2.length ≤ 8) && r.2.all (symB T N)
def headB (T N : Int) (n : Nat) : Bool := decide (0 ≤ T ∧ T ≤ 8 ∧ 1 ≤ N ∧ N ≤ 12 ∧ n ≤ 40)
/-- A1: may a grammar be? -/
def mayB (T N : Int) (R : List Ru) : Bool := headB T N R.length && R.all (ruleB T N)

theorem all_take_succ {α : Type} (f : α → Bool) (l : List α) (d : α) (j : Nat) (h : j < l.length) : (l.take (j + 1)).all f = ((l.take j).all f && f (l.getD j d)) := by
  rw [List.take_succ_eq_append_getElem h, List.all_append]
  simp [List.getD, h]

theorem all_of_take {α : Type} (f : α → Bool) (l : List α) (j : Nat) (h : l.length ≤ j) : (l.take j).all f = l.all f := by
  rw [List.take_of_length_le h]

theorem not_all {α : Type} (f : α → Bool) (l : List α) (d : α) (j : Nat) (h : j < l.length) (hf : f (l.getD j d) = false) : l.all f = false := by
  rw [List.all_eq_false]
  refine ⟨l[j], List.getElem_mem h, ?_⟩
  simpa [List.getD, h] using hf

theorem rule_bad {T N : Int} {R : List Ru} {j : Nat} (hj : j < R.length) (h : ruleB T N (R.getD j (0, [])) = false) : R.all (ruleB T N) = false := not_all _ R (0, []) j hj h

theorem sym_bad {T N : Int} {r : Ru} {i : Nat} (hi : i < r.2.length) (h : symB T N (r.2.getD i (false, 0)) = false) : ruleB T N r = false := by
  unfold ruleB
  rw [not_all _ r.2 (false, 0) i hi h, Bool.and_false]

set_option maxRecDepth 100000 in
set_option maxHeartbeats 3200000 in
theorem may1_any {w : World} {T N : Int} {rv : Value} {R : List Ru} (hr : RulesAt w w.heap.size rv R) :
    Calls Try.prog 6 #[.agg #[.int .i64 T, .int .i64 N, rv]] w fun e w' => e = .returned (.bool (mayB T N R)) ∧ Below w.heap.size w w' := by
  obtain ⟨ra, rc, hrv⟩ := hr.1
  by_cases hh : headB T N R.length = true
  · have hh' := hh
    simp only [headB, decide_eq_true_eq] at hh'
    obtain ⟨h1, h2, h3, h4, h5⟩ := hh'
    have HR : Hid (RulesAt w w.heap.size rv R) := hr
    have HM : Hid (mayB T N R = R.all (ruleB T N)) := by show mayB T N R = _; simp [mayB, hh]
    clear hr hh
    subst hrv
    go_enter Try.func6, Try.ntmps6
    go_wp2_with fail
    go_loopw [3] (fun i wr => ∃ j : Nat, i = .int .i64 j ∧ j ≤ R.length ∧ (R.take j).all (ruleB T N) = true ∧ Below (w.heap.size + 1) (w.alloc (.cells #[.int .i64 T, .int .i64 N, .slice ra R.length rc] 24)) wr)
      (fun i _ => R.length - (intOf i).toNat)
    case atStart => exact ⟨0, rfl, Nat.zero_le _, rfl, Below.refl _ _⟩
    case round =>
      obtain ⟨j, rfl, hj, hall, hB⟩ := hrel
      have HA : Hid ((R.take j).all (ruleB T N) = true) := hall
      have b0 : wr.cell? ⟨w.heap.size, 0, none⟩ = some (.int .i64 T) := (hB.cell (by simp)).trans (by simp [go_sem])
      have b1 : wr.cell? ⟨w.heap.size, 1, none⟩ = some (.int .i64 N) := (hB.cell (by simp)).trans (by simp [go_sem])
      have b2 : wr.cell? ⟨w.heap.size, 2, none⟩ = some (.slice ra R.length rc) := (hB.cell (by simp)).trans (by simp [go_sem])
      have hBw : Below w.heap.size w wr := ((Below.refl _ _).alloc (Nat.le_refl _) _).trans (hB.mono (by omega))
      have HB : Hid (Below w.heap.size w wr) := hBw
      have HB1 : Hid (Below (w.heap.size + 1) (w.alloc (.cells #[.int .i64 T, .int .i64 N, .slice ra R.length rc] 24)) wr) := hB
      have hsz := hB.size
      simp only [World.size_alloc] at hsz
      clear hall hB hBw
      by_cases hlt : j < R.length
      · obtain ⟨b, o, rc', qa, qc, hv, hb, k1, k2, _, k3⟩ := HR.out.2 j hlt
        cases hv
        obtain ⟨⟨L, Rt⟩, hru⟩ : ∃ x, R.getD j (0, []) = x := ⟨_, rfl⟩
        rw [hru] at k1 k2 k3
        have k1' := (HB.out.cell (p := ⟨b, o + j * 2, none⟩) hb).trans k1
        have k2' : wr.cell? ⟨b, o + j * 2 + 1, none⟩ = some (.slice qa Rt.length qc) := by rw [Nat.add_assoc]; exact (HB.out.cell (p := ⟨b, o + (j * 2 + 1), none⟩) hb).trans k2
        have HU : Hid (R.getD j (0, []) = (L, Rt)) := hru
        have HK : Hid (∀ i, i < Rt.length → ∃ b' o', qa = some ⟨b', o', none⟩ ∧ b' < w.heap.size ∧ w.cell? ⟨b', o' + i * 2, none⟩ = some (.bool (Rt.getD i (false, 0)).1) ∧ w.cell? ⟨b', o' + (i * 2 + 1), none⟩ = some (.int .i64 (Rt.getD i (false, 0)).2)) := k3
        have n0 : (wr.alloc (.cells #[.int .i64 L, .slice qa Rt.length qc] 31)).cell? ⟨w.heap.size, 0, none⟩ = some (.int .i64 T) := by rw [World.cell?_alloc_past _ _ _ (by omega)]; exact b0
        have n1 : (wr.alloc (.cells #[.int .i64 L, .slice qa Rt.length qc] 31)).cell? ⟨w.heap.size, 1, none⟩ = some (.int .i64 N) := by rw [World.cell?_alloc_past _ _ _ (by omega)]; exact b1
        clear k1 k2 k3 hru
        have bad : (¬ (0 ≤ L ∧ L < N ∧ Rt.length ≤ 8)) → mayB T N R = false := fun h => by
          rw [HM.out]
          refine rule_bad hlt ?_
          rw [HU.out]
          unfold ruleB
          rw [decide_eq_false h, Bool.false_and]
        have HX : Hid ((¬ (0 ≤ L ∧ L < N ∧ Rt.length ≤ 8)) → mayB T N R = false) := bad
        have HE : Hid (Below w.heap.size w (wr.alloc (.cells #[.int .i64 L, .slice qa Rt.length qc] 31))) := HB.out.alloc (by omega) _
        clear bad
        by_cases l1 : L < 0
        · go_wp2_with fail
          go_ret
          exact ⟨by rw [HX.out (by omega)]; rfl, HE.out⟩
        by_cases l2 : N ≤ L
        · go_wp2_with fail
          go_ret
          exact ⟨by rw [HX.out (by omega)]; rfl, HE.out⟩
        by_cases l3 : 8 < Rt.length
        · go_wp2_with fail
          go_ret
          exact ⟨by rw [HX.out (by omega)]; rfl, HE.out⟩
        clear b0 b1
        go_wp2_with fail
        go_loop [5] (fun k => ∃ i : Nat, k = .int .i64 i ∧ i ≤ Rt.length ∧ (Rt.take i).all (symB T N) = true) (fun k => Rt.length - (intOf k).toNat)
        case atStart => exact ⟨0, rfl, Nat.zero_le _, rfl⟩
        case round =>
          obtain ⟨i, rfl, hi, hall⟩ := hrel
          have HI : Hid ((Rt.take i).all (symB T N) = true) := hall
          clear hall
          by_cases hi' : i < Rt.length
          · obtain ⟨b', o', hqa, hb', k3, k4⟩ := HK.out i hi'
            subst hqa
            obtain ⟨⟨t, v⟩, hsy⟩ : ∃ x, Rt.getD i (false, 0) = x := ⟨_, rfl⟩
            rw [hsy] at k3 k4
            have hlb : b' < wr.heap.size := by omega
            have k3' : (wr.alloc (.cells #[.int .i64 L, .slice (some ⟨b', o', none⟩) Rt.length qc] 31)).cell? ⟨b', o' + i * 2, none⟩ = some (.bool t) := by
              rw [World.cell?_alloc_past _ _ _ hlb]; exact (HB.out.cell (p := ⟨b', o' + i * 2, none⟩) hb').trans k3
            have k4' : (wr.alloc (.cells #[.int .i64 L, .slice (some ⟨b', o', none⟩) Rt.length qc] 31)).cell? ⟨b', o' + i * 2 + 1, none⟩ = some (.int .i64 v) := by
              rw [World.cell?_alloc_past _ _ _ hlb, Nat.add_assoc]; exact (HB.out.cell (p := ⟨b', o' + (i * 2 + 1), none⟩) hb').trans k4
            have HS : Hid (Rt.getD i (false, 0) = (t, v)) := hsy
            have HT : Hid ((Rt.take (i + 1)).all (symB T N) = symB T N (t, v)) := by
              show (Rt.take (i + 1)).all (symB T N) = _
              rw [all_take_succ _ Rt (false, 0) i hi', HI.out, hsy, Bool.true_and]
            have HF : Hid (symB T N (t, v) = false → mayB T N R = false) := fun h => by
              rw [HM.out]
              refine rule_bad hlt ?_
              rw [HU.out]
              exact sym_bad (r := (L, Rt)) hi' (by rw [hsy]; exact h)
            clear k3 k4 hsy
            cases t with
            | true =>
              by_cases v1 : v < 0
              · go_wp2_with fail
                go_ret
                exact ⟨by rw [HF.out (by simp [symB]; omega)]; rfl, HE.out⟩
              by_cases v2 : T ≤ v
              · go_wp2_with fail
                go_ret
                exact ⟨by rw [HF.out (by simp [symB]; omega)]; rfl, HE.out⟩
              go_wp2_with fail
              go_round
              case rel => exact ⟨i + 1, by go_num, by omega, by rw [HT.out]; simp [symB]; omega⟩
              case measure => simp [intOf]; omega
            | false =>
              by_cases v1 : v < 0
              · go_wp2_with fail
                go_ret
                exact ⟨by rw [HF.out (by simp [symB]; omega)]; rfl, HE.out⟩
              by_cases v2 : N ≤ v
              · go_wp2_with fail
                go_ret
                exact ⟨by rw [HF.out (by simp [symB]; omega)]; rfl, HE.out⟩
              go_wp2_with fail
              go_round
              case rel => exact ⟨i + 1, by go_num, by omega, by rw [HT.out]; simp [symB]; omega⟩
              case measure => simp [intOf]; omega
          · have HJ : Hid ((R.take (j + 1)).all (ruleB T N) = true) := by
              show (R.take (j + 1)).all (ruleB T N) = true
              rw [all_take_succ _ R (0, []) j hlt, HA.out, HU.out, Bool.true_and]
              unfold ruleB
              rw [← all_of_take _ Rt i (by omega), HI.out, Bool.and_true]
              simp; omega
            go_wp2_with fail
            go_roundw
            case rel => exact ⟨j + 1, by go_num, by omega, HJ.out, HB1.out.alloc (by omega) _⟩
            case measure => simp [intOf]; omega
      · have HZ : mayB T N R = true := by rw [HM.out, ← all_of_take _ R j (by omega)]; exact HA.out
        have HZ' : Hid (mayB T N R = true) := HZ
        clear HZ
        go_wp2_with fail
        go_ret
        exact ⟨by rw [HZ'.out]; rfl, HB.out⟩
  · have hm : mayB T N R = false := by simp [mayB, hh]
    simp only [headB, decide_eq_true_eq] at hh
    subst hrv
    clear hr
    rw [hm]
    clear hm
    by_cases h1 : T < 0
    · go_enter Try.func6, Try.ntmps6
      go_wp2_with fail
      go_ret
      exact ⟨rfl, (Below.refl _ _).alloc (Nat.le_refl _) _⟩
    by_cases h2 : 8 < T
    · go_enter Try.func6, Try.ntmps6
      go_wp2_with fail
      go_ret
      exact ⟨rfl, (Below.refl _ _).alloc (Nat.le_refl _) _⟩
    by_cases h3 : N < 1
    · go_enter Try.func6, Try.ntmps6
      go_wp2_with fail
      go_ret
      exact ⟨rfl, (Below.refl _ _).alloc (Nat.le_refl _) _⟩
    by_cases h4 : 12 < N
    · go_enter Try.func6, Try.ntmps6
      go_wp2_with fail
      go_ret
      exact ⟨rfl, (Below.refl _ _).alloc (Nat.le_refl _) _⟩
    have h5 : 40 < R.length := by omega
    go_enter Try.func6, Try.ntmps6
    go_wp2_with fail
    go_ret
    exact ⟨rfl, (Below.refl _ _).alloc (Nat.le_refl _) _⟩

end Go.Proofs.Ytgkikliaadjmiaa
