/- The contract of pollardingref3.Comes. -/
import Derived.Test.YtlfjnljidehljaaMake3
namespace Go.Proofs.Ytlfjnljidehljaa
open Go.RowKit

def nameS (l : List Sy) (k : Nat) (Y : List Bool) : List Bool := if (l.getD k (false, 0)).1 then Y else Y.set (l.getD k (false, 0)).2.toNat true
def comesR (R : List Ru) (Mk : List Bool) (i : Nat) (X : List Bool) : List Bool :=
  if X.getD (R.getD i (0, [])).1.toNat false && allB Mk (R.getD i (0, [])).2 then loopN (R.getD i (0, [])).2.length (nameS (R.getD i (0, [])).2) X else X
def comesA (R : List Ru) (N : Nat) : List Bool := loopN N (fun _ => loopN R.length (comesR R (makesA R N))) ((List.replicate N false).set 0 ((makesA R N).getD 0 false))

/-- Nothing that was there behind Makes has turned; the row is X. -/
def CR (w1 : World) (N : Nat) (X : List Bool) (wr : World) : Prop := Below w1.heap.size w1 wr ∧ RowB wr w1.heap.size w1.heap.size N X

set_option maxRecDepth 100000 in
set_option maxHeartbeats 6400000 in
theorem comes3_any {w : World} {T N : Nat} {rv : Value} {R : List Ru} (hr : RulesAt w w.heap.size rv R) (hm : mayB T N R = true) :
    Calls Try.prog 10 #[.agg #[.int .i64 T, .int .i64 N, rv]] w fun e w' => ∃ g, e = .returned (.slice (some ⟨g, 0, none⟩) N N) ∧ Below w.heap.size w w' ∧ RowB w' w.heap.size g N (comesA R N) := by
  obtain ⟨hT, hN1, hN, hRl, hfine⟩ := may_fine hm
  have HM : Hid (∀ i, i < R.length → 0 ≤ (R.getD i (0, [])).1 ∧ (R.getD i (0, [])).1 < (N : Int) ∧ (R.getD i (0, [])).2.length ≤ 8 ∧
      ∀ s ∈ (R.getD i (0, [])).2, 0 ≤ s.2 ∧ s.2 < if s.1 then (T : Int) else (N : Int)) := hfine
  have HR : Hid (RulesAt w w.heap.size rv R) := hr
  obtain ⟨ra, rc, rfl⟩ := hr.1
  have makes := makes3_any (T := T) (N := N) (hr.boxed (.cells #[.int .i64 T, .int .i64 N, .slice ra R.length rc] 24)) hm
  simp only [World.size_alloc] at makes
  clear hr hm hfine
  have mkN := make_bools N (by omega)
  have hN0 : 0 < N := by omega
  go_enter Try.func10, Try.ntmps10
  go_wp2_with
    (go_at_call 9; refine makes.mono ?_; rintro e w1 ⟨rfl, hB1, hrow1⟩
     have b1 : w1.cell? ⟨w.heap.size, 1, none⟩ = some (.int .i64 N) := (hB1.cell (by simp)).trans (by simp [go_sem])
     have b2 : w1.cell? ⟨w.heap.size, 2, none⟩ = some (.slice ra R.length rc) := (hB1.cell (by simp)).trans (by simp [go_sem])
     have hs1 : w.heap.size + 1 ≤ w1.heap.size := by have := hB1.size; simpa using this
     obtain ⟨c0, _⟩ := hrow1.cell (m := 0) hN0
     have c0l := World.block_lt_of_cell? w1 _ c0
     simp only at c0l
     obtain ⟨x0, hx0⟩ : ∃ x, (makesA R N).getD 0 false = x := ⟨_, rfl⟩
     rw [hx0] at c0
     have HX00 : Hid ((makesA R N).getD 0 false = x0) := hx0
     have d0 : (w1.alloc (.cells (madeCells #[.bool false] N) 4)).cell? ⟨w.heap.size + 1 + 1, 0, none⟩ = some (.bool x0) := by rw [World.cell?_alloc_past _ _ _ c0l]; exact c0
     have hrow2 := row_made w1 (N := N) (by unfold maxLen; omega)
     obtain ⟨e0, e1⟩ := hrow2.cell (m := 0) hN0
     have HBW : Hid (Below w.heap.size w w1) := ((Below.refl _ _).alloc (Nat.le_refl _) _).trans (hB1.mono (by omega))
     have HRow1 : Hid (RowB w1 (w.heap.size + 1 + 1) (w.heap.size + 1 + 1) N (makesA R N)) := hrow1
     have HRow2 : Hid (RowB (w1.alloc (.cells (madeCells #[.bool false] N) 4)) w1.heap.size w1.heap.size N (List.replicate N false)) := hrow2
     clear hB1 hrow1 hrow2 c0 makes hx0)
  clear mkN d0 e0 e1
  have HS : Hid (RowB (w1.alloc (.cells ((madeCells #[.bool false] N).setIfInBounds 0 (.bool x0)) 4)) w1.heap.size w1.heap.size N ((List.replicate N false).set 0 x0)) := row_made_set w1 (by unfold maxLen; omega) 0 x0
  clear HRow2
  have HBX : Hid (∀ wr, Below w1.heap.size w1 wr → Below w.heap.size w wr ∧ wr.cell? ⟨w.heap.size, 1, none⟩ = some (.int .i64 N) ∧ wr.cell? ⟨w.heap.size, 2, none⟩ = some (.slice ra R.length rc) ∧ RowB wr (w.heap.size + 1 + 1) (w.heap.size + 1 + 1) N (makesA R N)) := fun wr hB =>
    ⟨HBW.out.trans (hB.mono (by omega)), (hB.cell (by simp only; omega)).trans b1, (hB.cell (by simp only; omega)).trans b2, HRow1.out.below hB⟩
  clear b1 b2
  go_loopw [5] (fun i wr => ∃ m : Nat, i = .int .i64 m ∧ m ≤ N ∧ CR w1 N (loopN m (fun _ => loopN R.length (comesR R (makesA R N))) ((List.replicate N false).set 0 x0)) wr) (fun i _ => N - (intOf i).toNat)
  case atStart => exact ⟨0, rfl, Nat.zero_le _, (Below.refl _ _).alloc (Nat.le_refl _) _, HS.out⟩
  case round =>
    clear HS
    obtain ⟨m, rfl, hmN, hC⟩ := hrel
    obtain ⟨X0, hX0⟩ : ∃ X, loopN m (fun _ => loopN R.length (comesR R (makesA R N))) ((List.replicate N false).set 0 x0) = X := ⟨_, rfl⟩
    rw [hX0] at hC
    have HX0 : Hid (loopN m (fun _ => loopN R.length (comesR R (makesA R N))) ((List.replicate N false).set 0 x0) = X0) := hX0
    have HC : Hid (CR w1 N X0 wr) := hC
    obtain ⟨_, b1, _, _⟩ := HBX.out wr hC.1
    clear hX0 hC
    by_cases hlt : m < N
    · go_wp2_with fail
      clear b1
      go_loopw [6] (fun i wq => ∃ j : Nat, i = .int .i64 j ∧ j ≤ R.length ∧ CR w1 N (loopN j (comesR R (makesA R N)) X0) wq) (fun i _ => R.length - (intOf i).toNat)
      case atStart => exact ⟨0, rfl, Nat.zero_le _, HC.out⟩
      case round =>
        clear HC
        obtain ⟨j, rfl, hj, hC⟩ := hrel
        obtain ⟨X1, hX1⟩ : ∃ X, loopN j (comesR R (makesA R N)) X0 = X := ⟨_, rfl⟩
        rw [hX1] at hC
        have HX1 : Hid (loopN j (comesR R (makesA R N)) X0 = X1) := hX1
        have HC : Hid (CR w1 N X1 wr) := hC
        obtain ⟨hBw, b1, b2, hmk⟩ := HBX.out wr hC.1
        have hsz : w1.heap.size < wr.heap.size := by
          have h1 := World.block_lt_of_cell? wr _ (hC.2.cell (m := 0) hN0).1
          exact h1
        have HBw : Hid (Below w.heap.size w wr) := hBw
        have HMk : Hid (RowB wr (w.heap.size + 1 + 1) (w.heap.size + 1 + 1) N (makesA R N)) := hmk
        clear hX1 hC hBw hmk
        by_cases hjl : j < R.length
        · obtain ⟨b, o, rc', qa, qc, hv, hb, y1, y2, hsy⟩ := HR.out.syms hjl
          cases hv
          have k1 := (HBw.out.cell (p := ⟨b, o + j * 2, none⟩) hb).trans y1
          have k2 := (HBw.out.cell (p := ⟨b, o + j * 2 + 1, none⟩) hb).trans y2
          clear y1 y2
          obtain ⟨f1, f2, f3, f4⟩ := HM.out j hjl
          have hstep : loopN (j + 1) (comesR R (makesA R N)) X0 = comesR R (makesA R N) j X1 := by rw [loopN, HX1.out]
          have hstep2 : comesR R (makesA R N) j X1 = if X1.getD (R.getD j (0, [])).1.toNat false && allB (makesA R N) (R.getD j (0, [])).2 then loopN (R.getD j (0, [])).2.length (nameS (R.getD j (0, [])).2) X1 else X1 := rfl
          rw [hstep2] at hstep
          clear hstep2
          obtain ⟨⟨L, Rt⟩, hre⟩ : ∃ x, R.getD j (0, []) = x := ⟨_, rfl⟩
          rw [hre] at k1 k2 f1 f2 f3 f4 hstep hsy
          simp only at k1 k2 f1 f2 f3 f4 hstep hsy
          obtain ⟨l, rfl⟩ : ∃ l : Nat, L = l := ⟨L.toNat, by omega⟩
          have j0 : (0 : Int) ≤ (j : Int) := Int.natCast_nonneg _
          have j1 : (j : Int) < (R.length : Int) := by omega
          have j2 : (0 : Int) ≤ (l : Int) := Int.natCast_nonneg _
          have j3 : (l : Int) < (N : Int) := by omega
          have hA : Below wr.heap.size wr (wr.alloc (.cells #[.int .i64 l, .slice qa Rt.length qc] 35)) := (Below.refl _ _).alloc (Nat.le_refl _) _
          have hRA : RowB (wr.alloc (.cells #[.int .i64 l, .slice qa Rt.length qc] 35)) w1.heap.size w1.heap.size N X1 := HC.out.2.below hA
          obtain ⟨c1, _⟩ := hRA.cell (m := l) (by omega)
          have hall := all3_any (w := wr.alloc (.cells #[.int .i64 l, .slice qa Rt.length qc] 35)) (HMk.out.below hA).bools (hsy.same (same_below (HBw.out.alloc HBw.out.size _))) (fun s hs hf => by
            have := f4 s hs
            rw [hf] at this
            rw [HMk.out.len]
            simpa using this) (by omega)
          have HCA : Hid (CR w1 N X1 (wr.alloc (.cells #[.int .i64 l, .slice qa Rt.length qc] 35))) := ⟨HC.out.1.alloc (by omega) _, hRA⟩
          have HSY : Hid (SymsAt w (.slice qa Rt.length qc) Rt) := hsy
          have HF4 : Hid (∀ s ∈ Rt, 0 ≤ s.2 ∧ s.2 < if s.1 then (T : Int) else (N : Int)) := f4
          clear hre f4 f1 f2 hsy hA hRA
          obtain ⟨xl, hxl⟩ : ∃ x, X1.getD l false = x := ⟨_, rfl⟩
          rw [hxl] at c1
          rw [Int.toNat_natCast, hxl] at hstep
          clear hxl
          cases xl with
          | false =>
            have HSt : Hid (loopN (j + 1) (comesR R (makesA R N)) X0 = X1) := by show loopN (j + 1) _ X0 = _; rw [hstep]; simp
            clear hstep hall
            go_wp2_with fail
            go_roundw
            case rel => exact ⟨j + 1, by go_num, by omega, by rw [HSt.out]; exact HCA.out⟩
            case measure => simp [intOf]; omega
          | true =>
            cases hz : allB (makesA R N) Rt with
            | false =>
              rw [hz] at hall hstep
              have HSt : Hid (loopN (j + 1) (comesR R (makesA R N)) X0 = X1) := by show loopN (j + 1) _ X0 = _; rw [hstep]; simp
              clear hz hstep
              go_wp2_with (go_at_call 21; refine hall.mono ?_; rintro e w2 ⟨rfl, rfl⟩)
              go_roundw
              case rel => exact ⟨j + 1, by go_num, by omega, by rw [HSt.out]; exact HCA.out⟩
              case measure => simp [intOf]; omega
            | true =>
              rw [hz] at hall hstep
              have HSt : Hid (loopN (j + 1) (comesR R (makesA R N)) X0 = loopN Rt.length (nameS Rt) X1) := by show loopN (j + 1) _ X0 = _; rw [hstep]; simp
              clear hz hstep
              go_wp2_with (go_at_call 21; refine hall.mono ?_; rintro e w2 ⟨rfl, rfl⟩)
              clear c1 b1 b2 hall
              go_loopw [8] (fun i wq => ∃ k : Nat, i = .int .i64 k ∧ k ≤ Rt.length ∧ CR w1 N (loopN k (nameS Rt) X1) wq ∧ wr.heap.size < wq.heap.size ∧ wq.cell? ⟨wr.heap.size, 1, none⟩ = some (.slice qa Rt.length qc)) (fun i _ => Rt.length - (intOf i).toNat)
              case atStart => exact ⟨0, rfl, Nat.zero_le _, HCA.out, by simp, by simp [go_sem]⟩
              case round =>
                clear HCA HC HBw HMk
                obtain ⟨k, rfl, hk, hC, hsq, q1⟩ := hrel
                obtain ⟨X2, hX2⟩ : ∃ X, loopN k (nameS Rt) X1 = X := ⟨_, rfl⟩
                rw [hX2] at hC
                have HX2 : Hid (loopN k (nameS Rt) X1 = X2) := hX2
                have HC : Hid (CR w1 N X2 wr) := hC
                have HBw : Hid (Below w.heap.size w wr) := (HBX.out wr hC.1).1
                clear hX2 hC
                by_cases hkl : k < Rt.length
                · obtain ⟨b', o', c', hv, z1, z2⟩ := HSY.out.2 k hkl
                  cases hv
                  have hmem : Rt.getD k (false, 0) ∈ Rt := by simp [List.getD, hkl]
                  have hin := HF4.out _ hmem
                  have hstep : loopN (k + 1) (nameS Rt) X1 = if (Rt.getD k (false, 0)).1 then X2 else X2.set (Rt.getD k (false, 0)).2.toNat true := by rw [loopN, HX2.out, nameS]
                  obtain ⟨⟨t, v⟩, hsk⟩ : ∃ x, Rt.getD k (false, 0) = x := ⟨_, rfl⟩
                  rw [hsk] at z1 z2 hin hstep
                  simp only at hin hstep
                  obtain ⟨y, rfl⟩ : ∃ y : Nat, v = y := ⟨v.toNat, by omega⟩
                  have z1' := (HBw.out.cell (p := ⟨b', o' + k * 2, none⟩) (World.block_lt_of_cell? w _ z1)).trans z1
                  have z2' := (HBw.out.cell (p := ⟨b', o' + k * 2 + 1, none⟩) (World.block_lt_of_cell? w _ z2)).trans z2
                  have i0 : (0 : Int) ≤ (k : Int) := Int.natCast_nonneg _
                  have i1 : (k : Int) < (Rt.length : Int) := by omega
                  clear hmem hsk z1 z2
                  cases t with
                  | true =>
                    have HSk : Hid (loopN (k + 1) (nameS Rt) X1 = X2) := by show loopN (k + 1) _ X1 = _; rw [hstep]; simp
                    clear hstep hin
                    go_wp2_with fail
                    go_roundw
                    case rel => exact ⟨k + 1, by go_num, by omega, by rw [HSk.out]; exact HC.out, hsq, q1⟩
                    case measure => simp [intOf]; omega
                  | false =>
                    have hyN : y < N := by simp at hin; omega
                    have HSk : Hid (loopN (k + 1) (nameS Rt) X1 = X2.set y true) := by show loopN (k + 1) _ X1 = _; rw [hstep]; simp
                    obtain ⟨c1, c2⟩ := HC.out.2.cell (m := y) hyN
                    have i2 : (0 : Int) ≤ (y : Int) := Int.natCast_nonneg _
                    have i3 : (y : Int) < (N : Int) := by omega
                    have q2 : (wr.setCell ⟨w1.heap.size, y, none⟩ (.bool true)).cell? _ = _ := (cell_set_other (.inl (by simp only; omega))).trans q1
                    clear hstep hin
                    go_wp2_with fail
                    go_roundw
                    case rel => exact ⟨k + 1, by go_num, by omega, by rw [HSk.out]; exact ⟨HC.out.1.setCell (by simp) _, HC.out.2.set y true⟩, by simpa using hsq, q2⟩
                    case measure => simp [intOf]; omega
                · have HSj : Hid (loopN (j + 1) (comesR R (makesA R N)) X0 = X2) := by
                    show loopN (j + 1) _ X0 = X2
                    rw [HSt.out, ← HX2.out, show k = Rt.length by omega]
                  go_wp2_with fail
                  go_roundw
                  case rel => exact ⟨j + 1, by go_num, by omega, by rw [HSj.out]; exact HC.out⟩
                  case measure => simp [intOf]; omega
        · have HD : Hid (loopN (m + 1) (fun _ => loopN R.length (comesR R (makesA R N))) ((List.replicate N false).set 0 x0) = X1) := by
            show loopN (m + 1) (fun _ => loopN R.length (comesR R (makesA R N))) ((List.replicate N false).set 0 x0) = X1
            rw [loopN, HX0.out, ← HX1.out, show j = R.length by omega]
          go_wp2_with fail
          go_roundw
          case rel => exact ⟨m + 1, by go_num, by omega, by rw [HD.out]; exact HC.out⟩
          case measure => simp [intOf]; omega
    · have HD : Hid (comesA R N = X0) := by
        show comesA R N = X0
        unfold comesA
        rw [HX00.out, ← HX0.out, show m = N by omega]
      have HX : Hid (Below w.heap.size w wr) := (HBX.out wr HC.out.1).1
      go_wp2_with fail
      go_ret
      exact ⟨w1.heap.size, rfl, HX.out, by rw [HD.out]; exact HC.out.2.mono (by omega)⟩

end Go.Proofs.Ytlfjnljidehljaa
