/- The contracts of pollardingref3.all and pollardingref3.Makes. -/
import Derived.Test.YtlfjnljidehljaaAllB
import Derived.Test.YtlfjnljidehljaaNull2
import Derived.Test.YtlfjnljidehljaaRowB
namespace Go.Proofs.Ytlfjnljidehljaa
open Go.RowKit

set_option maxRecDepth 100000 in
set_option maxHeartbeats 1600000 in
theorem all3_any {w : World} {v lv : Value} {X : List Bool} {l : List Sy} (hX : BoolsAt w v X) (hl : SymsAt w lv l) (hin : ∀ s ∈ l, s.1 = false → 0 ≤ s.2 ∧ s.2 < (X.length : Int)) (h8 : l.length ≤ 1000) :
    Calls Try.prog 21 #[lv, v] w fun e w' => e = .returned (.bool (allB X l)) ∧ w' = w := by
  obtain ⟨va, vc, hv⟩ := hX.1
  obtain ⟨la, lc, hlv, _⟩ := hl.1
  have HX : Hid (BoolsAt w v X) := hX
  have HL : Hid (SymsAt w lv l) := hl
  have HI : Hid (∀ s ∈ l, s.1 = false → 0 ≤ s.2 ∧ s.2 < (X.length : Int)) := hin
  clear hX hl hin
  subst hv
  subst hlv
  go_enter Try.func21, Try.ntmps21
  go_wp2_with fail
  go_loopw [5] (fun k wr => ∃ i : Nat, k = .int .i64 i ∧ i ≤ l.length ∧ allB X (l.take i) = true ∧ wr = w) (fun k _ => l.length - (intOf k).toNat)
  case atStart => exact ⟨0, rfl, Nat.zero_le _, rfl, rfl⟩
  case round =>
    obtain ⟨i, rfl, hi, hn, rfl⟩ := hrel
    have HN : Hid (allB X (l.take i) = true) := hn
    clear hn
    by_cases hlt : i < l.length
    · obtain ⟨b, o, c, hv, k1, k2⟩ := HL.out.2 i hlt
      simp only [Value.slice.injEq, true_and] at hv
      obtain ⟨rfl, rfl⟩ := hv
      have hmem : l.getD i (false, 0) ∈ l := by simp [List.getD, hlt]
      have hr := HI.out _ hmem
      obtain ⟨⟨t, v⟩, hs⟩ : ∃ x, l.getD i (false, 0) = x := ⟨_, rfl⟩
      have HT := allB_take X l i hlt
      have HB := allB_bad X l i hlt
      rw [hs] at k1 k2 hr HT HB
      rw [HN.out, Bool.true_and] at HT
      have HT' : Hid (allB X (l.take (i + 1)) = (t || X.getD v.toNat false)) := HT
      have HB' : Hid ((t || X.getD v.toNat false) = false → allB X l = false) := HB
      have j0 : (0 : Int) ≤ (i : Int) := Int.natCast_nonneg _
      have j1 : (i : Int) < (l.length : Int) := by omega
      clear hs hmem HT HB
      cases t with
      | true =>
        go_wp2_with fail
        go_roundw
        case rel => exact ⟨i + 1, by go_num, by omega, by rw [HT'.out]; rfl, trivial⟩
        case measure => simp [intOf]; omega
      | false =>
        have hr' : 0 ≤ v ∧ v < (X.length : Int) := hr rfl
        clear hr
        obtain ⟨y, rfl⟩ : ∃ y : Nat, v = y := ⟨v.toNat, by omega⟩
        obtain ⟨g, o2, c', hv, k3⟩ := HX.out.2 y (by omega)
        simp only [Value.slice.injEq, true_and] at hv
        obtain ⟨rfl, rfl⟩ := hv
        have j2 : (0 : Int) ≤ (y : Int) := Int.natCast_nonneg _
        have j3 : (y : Int) < (X.length : Int) := by omega
        obtain ⟨z, hz⟩ : ∃ z, X.getD y false = z := ⟨_, rfl⟩
        rw [hz] at k3
        simp only [Int.toNat_natCast, hz] at HT' HB'
        clear hz hr'
        cases z with
        | true =>
          go_wp2_with fail
          go_roundw
          case rel => exact ⟨i + 1, by go_num, by omega, by rw [HT'.out]; rfl, trivial⟩
          case measure => simp [intOf]; omega
        | false =>
          go_wp2_with fail
          go_ret
          exact ⟨by rw [HB'.out (by simp)]; rfl, rfl⟩
    · go_wp2_with fail
      go_ret
      exact ⟨by rw [← HN.out, List.take_of_length_le (by omega)]; rfl, rfl⟩

theorem RowB.bools {w : World} {B g N : Nat} {X : List Bool} (h : RowB w B g N X) : BoolsAt w (.slice (some ⟨g, 0, none⟩) N N) X := by
  have hl := h.len
  refine ⟨⟨_, _, by rw [hl]⟩, fun i hi => ⟨g, 0, N, by rw [hl], ?_⟩⟩
  rw [Nat.zero_add]
  exact (h.cell (by omega)).1

def makesS (R : List Ru) (i : Nat) (X : List Bool) : List Bool := if allB X (R.getD i (0, [])).2 then X.set (R.getD i (0, [])).1.toNat true else X
def makesA (R : List Ru) (N : Nat) : List Bool := loopN N (fun _ => loopN R.length (makesS R)) (List.replicate N false)

set_option maxRecDepth 100000 in
set_option maxHeartbeats 3200000 in
theorem makes3_any {w : World} {T N : Nat} {rv : Value} {R : List Ru} (hr : RulesAt w w.heap.size rv R) (hm : mayB T N R = true) :
    Calls Try.prog 9 #[.agg #[.int .i64 T, .int .i64 N, rv]] w fun e w' => e = .returned (.slice (some ⟨w.heap.size + 1, 0, none⟩) N N) ∧ Below w.heap.size w w' ∧ RowB w' (w.heap.size + 1) (w.heap.size + 1) N (makesA R N) := by
  obtain ⟨hT, hN1, hN, hRl, hfine⟩ := may_fine hm
  have HM : Hid (∀ i, i < R.length → 0 ≤ (R.getD i (0, [])).1 ∧ (R.getD i (0, [])).1 < (N : Int) ∧ (R.getD i (0, [])).2.length ≤ 8 ∧
      ∀ s ∈ (R.getD i (0, [])).2, 0 ≤ s.2 ∧ s.2 < if s.1 then (T : Int) else (N : Int)) := hfine
  have HR : Hid (RulesAt w w.heap.size rv R) := hr
  obtain ⟨ra, rc, rfl⟩ := hr.1
  clear hr hm hfine
  have mkN := make_bools N (by omega)
  have hrow := row_made (w.alloc (.cells #[.int .i64 T, .int .i64 N, .slice ra R.length rc] 24)) (N := N) (by unfold maxLen; omega)
  simp only [World.size_alloc] at hrow
  have HRow : Hid (RowB ((w.alloc (.cells #[.int .i64 T, .int .i64 N, .slice ra R.length rc] 24)).alloc (.cells (madeCells #[.bool false] N) 4)) (w.heap.size + 1) (w.heap.size + 1) N (List.replicate N false)) := hrow
  clear hrow
  go_enter Try.func9, Try.ntmps9
  go_wp2_with fail
  clear mkN
  have boxes : ∀ wr, Below (w.heap.size + 1) (w.alloc (.cells #[.int .i64 T, .int .i64 N, .slice ra R.length rc] 24)) wr → Below w.heap.size w wr ∧ wr.cell? ⟨w.heap.size, 1, none⟩ = some (.int .i64 N) ∧ wr.cell? ⟨w.heap.size, 2, none⟩ = some (.slice ra R.length rc) := fun wr hB =>
    ⟨((Below.refl _ _).alloc (Nat.le_refl _) _).trans (hB.mono (by omega)), (hB.cell (by simp)).trans (by simp [go_sem]), (hB.cell (by simp)).trans (by simp [go_sem])⟩
  have HBX : Hid (∀ wr, Below (w.heap.size + 1) (w.alloc (.cells #[.int .i64 T, .int .i64 N, .slice ra R.length rc] 24)) wr → Below w.heap.size w wr ∧ wr.cell? ⟨w.heap.size, 1, none⟩ = some (.int .i64 N) ∧ wr.cell? ⟨w.heap.size, 2, none⟩ = some (.slice ra R.length rc)) := boxes
  clear boxes
  go_loopw [4] (fun i wr => ∃ m : Nat, i = .int .i64 m ∧ m ≤ N ∧ Below (w.heap.size + 1) (w.alloc (.cells #[.int .i64 T, .int .i64 N, .slice ra R.length rc] 24)) wr ∧ RowB wr (w.heap.size + 1) (w.heap.size + 1) N (loopN m (fun _ => loopN R.length (makesS R)) (List.replicate N false)))
    (fun i _ => N - (intOf i).toNat)
  case atStart => exact ⟨0, rfl, Nat.zero_le _, (Below.refl _ _).alloc (by simp) _, HRow.out⟩
  case round =>
    obtain ⟨m, rfl, hmN, hB, hrow⟩ := hrel
    obtain ⟨X0, hX0⟩ : ∃ X, loopN m (fun _ => loopN R.length (makesS R)) (List.replicate N false) = X := ⟨_, rfl⟩
    rw [hX0] at hrow
    have HX0 : Hid (loopN m (fun _ => loopN R.length (makesS R)) (List.replicate N false) = X0) := hX0
    have HB : Hid (Below (w.heap.size + 1) (w.alloc (.cells #[.int .i64 T, .int .i64 N, .slice ra R.length rc] 24)) wr) := hB
    have HW : Hid (RowB wr (w.heap.size + 1) (w.heap.size + 1) N X0) := hrow
    obtain ⟨_, b1, b2⟩ := HBX.out wr hB
    clear hX0 hB hrow
    by_cases hlt : m < N
    · go_wp2_with fail
      clear b1 b2
      go_loopw [5] (fun i wq => ∃ j : Nat, i = .int .i64 j ∧ j ≤ R.length ∧ Below (w.heap.size + 1) (w.alloc (.cells #[.int .i64 T, .int .i64 N, .slice ra R.length rc] 24)) wq ∧ RowB wq (w.heap.size + 1) (w.heap.size + 1) N (loopN j (makesS R) X0))
        (fun i _ => R.length - (intOf i).toNat)
      case atStart => exact ⟨0, rfl, Nat.zero_le _, HB.out, HW.out⟩
      case round =>
        clear HB HW
        obtain ⟨j, rfl, hj, hB, hrow⟩ := hrel
        obtain ⟨X1, hX1⟩ : ∃ X, loopN j (makesS R) X0 = X := ⟨_, rfl⟩
        rw [hX1] at hrow
        have HX1 : Hid (loopN j (makesS R) X0 = X1) := hX1
        have HB : Hid (Below (w.heap.size + 1) (w.alloc (.cells #[.int .i64 T, .int .i64 N, .slice ra R.length rc] 24)) wr) := hB
        have HW : Hid (RowB wr (w.heap.size + 1) (w.heap.size + 1) N X1) := hrow
        obtain ⟨hBw, b1, b2⟩ := HBX.out wr hB
        have HBw : Hid (Below w.heap.size w wr) := hBw
        have hsz : w.heap.size + 1 ≤ wr.heap.size := by have := hB.size; simpa using this
        have HL1 : Hid (X1.length = N) := hrow.len
        clear hX1 hB hrow hBw
        by_cases hjl : j < R.length
        · obtain ⟨b, o, rc', qa, qc, hv, hb, k1, k2, hsy⟩ := (HR.out.below HBw.out).syms hjl
          cases hv
          obtain ⟨f1, f2, f3, f4⟩ := HM.out j hjl
          have hstep : loopN (j + 1) (makesS R) X0 = if allB X1 (R.getD j (0, [])).2 then X1.set (R.getD j (0, [])).1.toNat true else X1 := by rw [loopN, HX1.out, makesS]
          have hall := all3_any (w := wr) HW.out.bools hsy (fun s hs hf => by
            have := f4 s hs
            rw [hf] at this
            rw [HL1.out]
            simpa using this) (by omega)
          obtain ⟨⟨L, Rt⟩, hre⟩ : ∃ x, R.getD j (0, []) = x := ⟨_, rfl⟩
          rw [hre] at k1 k2 f1 f2 f3 hstep hall
          simp only at k1 k2 f1 f2 f3 hstep hall
          obtain ⟨l, rfl⟩ : ∃ l : Nat, L = l := ⟨L.toNat, by omega⟩
          have j0 : (0 : Int) ≤ (j : Int) := Int.natCast_nonneg _
          have j1 : (j : Int) < (R.length : Int) := by omega
          have j2 : (0 : Int) ≤ (l : Int) := Int.natCast_nonneg _
          have j3 : (l : Int) < (N : Int) := by omega
          obtain ⟨c1, c2⟩ := HW.out.cell (m := l) (by omega)
          have HSY : Hid (SymsAt wr (.slice qa (R.getD j (0, [])).2.length qc) (R.getD j (0, [])).2) := hsy
          clear hre f4 f1 f2 hsy
          cases hz : allB X1 Rt with
          | true =>
            rw [hz] at hall hstep
            have HS : Hid (loopN (j + 1) (makesS R) X0 = X1.set l true) := by show loopN (j + 1) (makesS R) X0 = _; rw [hstep]; simp
            clear hz hstep
            go_wp2_with (go_at_call 21; refine hall.mono ?_; rintro e w2 ⟨rfl, rfl⟩)
            go_roundw
            case rel => exact ⟨j + 1, by go_num, by omega, HB.out.setCell (by simp) _, by rw [HS.out]; exact HW.out.set l true⟩
            case measure => simp [intOf]; omega
          | false =>
            rw [hz] at hall hstep
            have HS : Hid (loopN (j + 1) (makesS R) X0 = X1) := by show loopN (j + 1) (makesS R) X0 = _; rw [hstep]; simp
            clear hz hstep
            go_wp2_with (go_at_call 21; refine hall.mono ?_; rintro e w2 ⟨rfl, rfl⟩)
            go_roundw
            case rel => exact ⟨j + 1, by go_num, by omega, HB.out, by rw [HS.out]; exact HW.out⟩
            case measure => simp [intOf]; omega
        · have HD : Hid (loopN (m + 1) (fun _ => loopN R.length (makesS R)) (List.replicate N false) = X1) := by
            show loopN (m + 1) (fun _ => loopN R.length (makesS R)) (List.replicate N false) = X1
            rw [loopN, HX0.out, ← HX1.out, show j = R.length by omega]
          go_wp2_with fail
          go_roundw
          case rel => exact ⟨m + 1, by go_num, by omega, HB.out, by rw [HD.out]; exact HW.out⟩
          case measure => simp [intOf]; omega
    · have HD : Hid (makesA R N = X0) := by
        show makesA R N = X0
        unfold makesA
        rw [← HX0.out, show m = N by omega]
      have HX : Hid (Below w.heap.size w wr) := (HBX.out wr HB.out).1
      go_wp2_with fail
      go_ret
      exact ⟨rfl, HX.out, by rw [HD.out]; exact HW.out⟩

end Go.Proofs.Ytlfjnljidehljaa
