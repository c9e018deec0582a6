/- The contract of pollardingref3.Left. -/
import Derived.Test.YtlfjnljidehljaaCome3
import Derived.Test.YtlfjnljidehljaaFirst3
import Derived.Test.YtlfjnljidehljaaOf2
import Derived.Test.YtlfjnljidehljaaSets2Math
namespace Go.Proofs.Ytlfjnljidehljaa
open Go.RowKit

def leftS (R : List Ru) (Nu : List Bool) (n a b : Nat) (Y : List Bool) : List Bool := if (decide (a = n) || Y.getD a false) && firstB R Nu a b then Y.set b true else Y
def wayA (R : List Ru) (Nu : List Bool) (N n : Nat) : List Bool := loopN (N + 1) (fun _ => loopN N fun a => loopN N fun b => leftS R Nu n a b) (List.replicate N false)
def leftA (R : List Ru) (Nu : List Bool) (N : Nat) : List Bool := loopN N (fun n O => O.set n ((wayA R Nu N n).getD n false)) (List.replicate N false)

set_option maxRecDepth 100000 in
set_option maxHeartbeats 6400000 in
theorem left3_any {w : World} {T N : Nat} {rv : Value} {R : List Ru} (hr : RulesAt w w.heap.size rv R) (hm : mayB T N R = true) (hf : Fine T N R) :
    Calls Try.prog 11 #[.agg #[.int .i64 T, .int .i64 N, rv]] w fun e w' => ∃ g, e = .returned (.slice (some ⟨g, 0, none⟩) N N) ∧ Below w.heap.size w w' ∧ RowB w' w.heap.size g N (leftA R (nullA R N) N) := by
  obtain ⟨hT, hN1, hN, hRl, _⟩ := may_fine hm
  have HMay : Hid (mayB T N R = true) := hm
  have HR : Hid (RulesAt w w.heap.size rv R) := hr
  have HNl : Hid ((nullA R N).length = N) := (nullA_iff hf).1
  obtain ⟨ra, rc, rfl⟩ := hr.1
  have of2 := of2_any (T := T) (N := N) (hr.boxed (.cells #[.int .i64 T, .int .i64 N, .slice ra R.length rc] 24)) hm
  simp only [World.size_alloc] at of2
  clear hr hm hf
  have mkN := make_bools N (by omega)
  have hN0 : 0 < N := by omega
  go_enter Try.func11, Try.ntmps11
  go_wp2_with
    (go_at_call 22; refine of2.mono ?_; rintro e w1 ⟨nv, fv, gv, vf, vg, sb, rfl, hB1, hO1⟩
     obtain ⟨na, nc, rfl⟩ : ∃ a c, nv = .slice a N c := own_form (hO1.own .null _ rfl)
     obtain ⟨fa, fc, rfl⟩ : ∃ a c, fv = .slice a N c := own_form (hO1.own .fh _ rfl)
     obtain ⟨ga, gc, rfl⟩ : ∃ a c, gv = .slice a N c := own_form (hO1.own .gh _ rfl)
     have b0 : w1.cell? ⟨w.heap.size, 0, none⟩ = some (.int .i64 T) := (hB1.cell (by simp)).trans (by simp [go_sem])
     have b1 : w1.cell? ⟨w.heap.size, 1, none⟩ = some (.int .i64 N) := (hB1.cell (by simp)).trans (by simp [go_sem])
     have b2 : w1.cell? ⟨w.heap.size, 2, none⟩ = some (.slice ra R.length rc) := (hB1.cell (by simp)).trans (by simp [go_sem])
     have hs1 : w.heap.size + 1 ≤ w1.heap.size := by have := hB1.size; simpa using this
     have m1 : (w1.alloc (.cells #[.slice na N nc, .slice fa N fc, .slice ga N gc] 43)).cell? ⟨w.heap.size, 1, none⟩ = some (.int .i64 N) := by rw [World.cell?_alloc_past _ _ _ (by omega)]; exact b1
     have HBW : Hid (Below w.heap.size w w1) := ((Below.refl _ _).alloc (Nat.le_refl _) _).trans (hB1.mono (by omega))
     have HNull : Hid (BoolsAt w1 (.slice na N nc) (nullA R N)) := hO1.bools
     clear hB1 hO1 of2)
  have HS : Hid (RowB ((w1.alloc (.cells #[.slice na N nc, .slice fa N fc, .slice ga N gc] 43)).alloc (.cells (madeCells #[.bool false] N) 4)) (w1.heap.size + 1) (w1.heap.size + 1) N (List.replicate N false)) := by
    have := row_made (w1.alloc (.cells #[.slice na N nc, .slice fa N fc, .slice ga N gc] 43)) (N := N) (by unfold maxLen; omega)
    simp only [World.size_alloc] at this
    exact this
  have HBX : Hid (∀ wr, Below (w1.heap.size + 1) (w1.alloc (.cells #[.slice na N nc, .slice fa N fc, .slice ga N gc] 43)) wr → Below w.heap.size w wr ∧ Below w1.heap.size w1 wr ∧ w1.heap.size + 1 ≤ wr.heap.size ∧
      wr.cell? ⟨w.heap.size, 0, none⟩ = some (.int .i64 T) ∧ wr.cell? ⟨w.heap.size, 1, none⟩ = some (.int .i64 N) ∧ wr.cell? ⟨w.heap.size, 2, none⟩ = some (.slice ra R.length rc) ∧
      wr.cell? ⟨w1.heap.size, 0, none⟩ = some (.slice na N nc) ∧ wr.cell? ⟨w1.heap.size, 1, none⟩ = some (.slice fa N fc) ∧ wr.cell? ⟨w1.heap.size, 2, none⟩ = some (.slice ga N gc)) := fun wr hB => by
    have hB1 : Below w1.heap.size w1 wr := ((Below.refl _ _).alloc (Nat.le_refl _) _).trans (hB.mono (by omega))
    exact ⟨HBW.out.trans (hB1.mono (by omega)), hB1, by have := hB.size; simpa using this, (hB1.cell (by simp only; omega)).trans b0, (hB1.cell (by simp only; omega)).trans b1, (hB1.cell (by simp only; omega)).trans b2,
      (hB.cell (by simp)).trans (by simp [go_sem]), (hB.cell (by simp)).trans (by simp [go_sem]), (hB.cell (by simp)).trans (by simp [go_sem])⟩
  clear b0 b1 b2 m1
  go_loopw [5] (fun i wr => ∃ n : Nat, i = .int .i64 n ∧ n ≤ N ∧ Below (w1.heap.size + 1) (w1.alloc (.cells #[.slice na N nc, .slice fa N fc, .slice ga N gc] 43)) wr ∧ RowB wr (w1.heap.size + 1) (w1.heap.size + 1) N (loopN n (fun n O => O.set n ((wayA R (nullA R N) N n).getD n false)) (List.replicate N false))) (fun i _ => N - (intOf i).toNat)
  case atStart => exact ⟨0, rfl, Nat.zero_le _, (Below.refl _ _).alloc (by simp) _, HS.out⟩
  case round =>
    clear HS
    obtain ⟨n, rfl, hnN, hB, hrow⟩ := hrel
    obtain ⟨O, hO⟩ : ∃ X, loopN n (fun n O => O.set n ((wayA R (nullA R N) N n).getD n false)) (List.replicate N false) = X := ⟨_, rfl⟩
    rw [hO] at hrow
    have HO : Hid (loopN n (fun n O => O.set n ((wayA R (nullA R N) N n).getD n false)) (List.replicate N false) = O) := hO
    have HW : Hid (RowB wr (w1.heap.size + 1) (w1.heap.size + 1) N O) := hrow
    obtain ⟨hBw, _, hsz, _, b1, _⟩ := HBX.out wr hB
    have HB : Hid (Below (w1.heap.size + 1) (w1.alloc (.cells #[.slice na N nc, .slice fa N fc, .slice ga N gc] 43)) wr) := hB
    have HBw : Hid (Below w.heap.size w wr) := hBw
    clear hO hB hrow hBw
    by_cases hlt : n < N
    · have hol := World.block_lt_of_cell? wr _ (HW.out.cell (m := 0) hN0).1
      simp only at hol
      have HQ : Hid (∀ wq, Below wr.heap.size wr wq → Below (w1.heap.size + 1) (w1.alloc (.cells #[.slice na N nc, .slice fa N fc, .slice ga N gc] 43)) wq ∧ RowB wq (w1.heap.size + 1) (w1.heap.size + 1) N O) := fun wq hq =>
        ⟨HB.out.trans (hq.mono hsz), HW.out.below hq⟩
      have HS0 : Hid (CR wr N (List.replicate N false) (wr.alloc (.cells (madeCells #[.bool false] N) 4))) := ⟨(Below.refl _ _).alloc (Nat.le_refl _) _, row_made wr (by unfold maxLen; omega)⟩
      obtain ⟨w3, hw3⟩ : ∃ w3, w3 = wr := ⟨_, rfl⟩
      subst hw3
      go_wp2_with fail
      clear b1
      go_loopw [7] (fun i wq => ∃ m : Nat, i = .int .i64 m ∧ m ≤ N + 1 ∧ CR w3 N (loopN m (fun _ => loopN N fun a => loopN N fun b => leftS R (nullA R N) n a b) (List.replicate N false)) wq) (fun i _ => N + 1 - (intOf i).toNat)
      case atStart => exact ⟨0, rfl, Nat.zero_le _, HS0.out⟩
      case round =>
        clear HS0
        obtain ⟨m, rfl, hmN, hC⟩ := hrel
        obtain ⟨Y0, hY0⟩ : ∃ X, loopN m (fun _ => loopN N fun a => loopN N fun b => leftS R (nullA R N) n a b) (List.replicate N false) = X := ⟨_, rfl⟩
        rw [hY0] at hC
        have HY0 : Hid (loopN m (fun _ => loopN N fun a => loopN N fun b => leftS R (nullA R N) n a b) (List.replicate N false) = Y0) := hY0
        have HC : Hid (CR w3 N Y0 wr) := hC
        obtain ⟨_, _, _, _, b1, _⟩ := HBX.out wr (HQ.out wr hC.1).1
        clear hY0 hC
        by_cases hm : m ≤ N
        · go_wp2_with fail
          clear b1
          go_loopw [8] (fun i wq => ∃ a : Nat, i = .int .i64 a ∧ a ≤ N ∧ CR w3 N (loopN a (fun a => loopN N fun b => leftS R (nullA R N) n a b) Y0) wq) (fun i _ => N - (intOf i).toNat)
          case atStart => exact ⟨0, rfl, Nat.zero_le _, HC.out⟩
          case round =>
            clear HC
            obtain ⟨a, rfl, haN, hC⟩ := hrel
            obtain ⟨Y1, hY1⟩ : ∃ X, loopN a (fun a => loopN N fun b => leftS R (nullA R N) n a b) Y0 = X := ⟨_, rfl⟩
            rw [hY1] at hC
            have HY1 : Hid (loopN a (fun a => loopN N fun b => leftS R (nullA R N) n a b) Y0 = Y1) := hY1
            have HC : Hid (CR w3 N Y1 wr) := hC
            obtain ⟨_, _, _, _, b1, _⟩ := HBX.out wr (HQ.out wr hC.1).1
            clear hY1 hC
            by_cases ha : a < N
            · go_wp2_with fail
              clear b1
              go_loopw [9] (fun i wq => ∃ b : Nat, i = .int .i64 b ∧ b ≤ N ∧ CR w3 N (loopN b (fun b => leftS R (nullA R N) n a b) Y1) wq) (fun i _ => N - (intOf i).toNat)
              case atStart => exact ⟨0, rfl, Nat.zero_le _, HC.out⟩
              case round =>
                clear HC
                obtain ⟨b, rfl, hbN, hC⟩ := hrel
                obtain ⟨Y2, hY2⟩ : ∃ X, loopN b (fun b => leftS R (nullA R N) n a b) Y1 = X := ⟨_, rfl⟩
                rw [hY2] at hC
                have HY2 : Hid (loopN b (fun b => leftS R (nullA R N) n a b) Y1 = Y2) := hY2
                have HC : Hid (CR w3 N Y2 wr) := hC
                obtain ⟨hBw, hB1, _, b0, b1, b2, s0, s1, s2⟩ := HBX.out wr (HQ.out wr hC.1).1
                have hgl := World.block_lt_of_cell? wr _ (hC.2.cell (m := 0) hN0).1
                simp only at hgl
                have first := first3_any (w := wr) (T := T) (N := N) (a := a) (b := b) (fa := fa) (fl := N) (fc := fc) (ga := ga) (gl := N) (gc := gc) ((HR.out.below hBw).mono hBw.size) (HNull.out.same (same_below hB1)) HMay.out HNl.out
                have hstep : loopN (b + 1) (fun b => leftS R (nullA R N) n a b) Y1 = if (decide (a = n) || Y2.getD a false) && firstB R (nullA R N) a b then Y2.set b true else Y2 := by rw [loopN, HY2.out, leftS]
                clear hY2 hC hBw hB1
                by_cases hb : b < N
                · obtain ⟨c1, _⟩ := HC.out.2.cell (m := a) ha
                  have i0 : (0 : Int) ≤ (a : Int) := Int.natCast_nonneg _
                  have i1 : (a : Int) < (N : Int) := by omega
                  have i2 : (0 : Int) ≤ (b : Int) := Int.natCast_nonneg _
                  have i3 : (b : Int) < (N : Int) := by omega
                  have keep : ∀ w4, Below wr.heap.size wr w4 → CR w3 N Y2 w4 ∧ w4.cell? ⟨w3.heap.size, b, none⟩ = some (.bool (Y2.getD b false)) ∧ w4.frozen? ⟨w3.heap.size, b, none⟩ = false := fun w4 h4 => by
                    have hr4 := HC.out.2.below h4
                    exact ⟨⟨HC.out.1.trans (h4.mono HC.out.1.size), hr4⟩, hr4.cell hb⟩
                  have HKP : Hid (∀ w4, Below wr.heap.size wr w4 → CR w3 N Y2 w4 ∧ w4.cell? ⟨w3.heap.size, b, none⟩ = some (.bool (Y2.getD b false)) ∧ w4.frozen? ⟨w3.heap.size, b, none⟩ = false) := keep
                  clear keep
                  obtain ⟨xa, hxa⟩ : ∃ x, Y2.getD a false = x := ⟨_, rfl⟩
                  rw [hxa] at c1 hstep
                  obtain ⟨xf, hxf⟩ : ∃ x, firstB R (nullA R N) a b = x := ⟨_, rfl⟩
                  rw [hxf] at first hstep
                  clear hxa hxf
                  by_cases han : a = n
                  · subst han
                    cases xf with
                    | true =>
                      have HSt : Hid (loopN (b + 1) (fun b => leftS R (nullA R N) a a b) Y1 = Y2.set b true) := by show loopN (b + 1) _ Y1 = _; rw [hstep]; simp
                      clear hstep
                      go_wp2_with
                        (go_at_call 23; refine first.mono ?_; rintro e w4 ⟨rfl, hB4⟩
                         obtain ⟨hC4, d1, d2⟩ := HKP.out w4 hB4
                         have HC4 : Hid (CR w3 N Y2 w4) := hC4
                         clear hC4 hB4)
                      go_roundw
                      case rel => exact ⟨b + 1, by go_num, by omega, by rw [HSt.out]; exact ⟨HC4.out.1.setCell (by simp) _, HC4.out.2.set b true⟩⟩
                      case measure => simp [intOf]; omega
                    | false =>
                      have HSt : Hid (loopN (b + 1) (fun b => leftS R (nullA R N) a a b) Y1 = Y2) := by show loopN (b + 1) _ Y1 = _; rw [hstep]; simp
                      clear hstep
                      go_wp2_with
                        (go_at_call 23; refine first.mono ?_; rintro e w4 ⟨rfl, hB4⟩
                         obtain ⟨hC4, d1, d2⟩ := HKP.out w4 hB4
                         have HC4 : Hid (CR w3 N Y2 w4) := hC4
                         clear hC4 hB4)
                      go_roundw
                      case rel => exact ⟨b + 1, by go_num, by omega, by rw [HSt.out]; exact HC4.out⟩
                      case measure => simp [intOf]; omega
                  · have han' : ((a : Int) == (n : Int)) = false := by simp; omega
                    have han2 : decide (a = n) = false := decide_eq_false han
                    rw [han2, Bool.false_or] at hstep
                    cases xa with
                    | false =>
                      have HSt : Hid (loopN (b + 1) (fun b => leftS R (nullA R N) n a b) Y1 = Y2) := by show loopN (b + 1) _ Y1 = _; rw [hstep]; simp
                      clear hstep first
                      go_wp2_with fail
                      go_roundw
                      case rel => exact ⟨b + 1, by go_num, by omega, by rw [HSt.out]; exact HC.out⟩
                      case measure => simp [intOf]; omega
                    | true =>
                      cases xf with
                      | true =>
                        have HSt : Hid (loopN (b + 1) (fun b => leftS R (nullA R N) n a b) Y1 = Y2.set b true) := by show loopN (b + 1) _ Y1 = _; rw [hstep]; simp
                        clear hstep
                        go_wp2_with
                          (go_at_call 23; refine first.mono ?_; rintro e w4 ⟨rfl, hB4⟩
                           obtain ⟨hC4, d1, d2⟩ := HKP.out w4 hB4
                           have HC4 : Hid (CR w3 N Y2 w4) := hC4
                           clear hC4 hB4)
                        go_roundw
                        case rel => exact ⟨b + 1, by go_num, by omega, by rw [HSt.out]; exact ⟨HC4.out.1.setCell (by simp) _, HC4.out.2.set b true⟩⟩
                        case measure => simp [intOf]; omega
                      | false =>
                        have HSt : Hid (loopN (b + 1) (fun b => leftS R (nullA R N) n a b) Y1 = Y2) := by show loopN (b + 1) _ Y1 = _; rw [hstep]; simp
                        clear hstep
                        go_wp2_with
                          (go_at_call 23; refine first.mono ?_; rintro e w4 ⟨rfl, hB4⟩
                           obtain ⟨hC4, d1, d2⟩ := HKP.out w4 hB4
                           have HC4 : Hid (CR w3 N Y2 w4) := hC4
                           clear hC4 hB4)
                        go_roundw
                        case rel => exact ⟨b + 1, by go_num, by omega, by rw [HSt.out]; exact HC4.out⟩
                        case measure => simp [intOf]; omega
                · have HSt : Hid (loopN (a + 1) (fun a => loopN N fun b => leftS R (nullA R N) n a b) Y0 = Y2) := by
                    show loopN (a + 1) _ Y0 = _
                    rw [loopN, HY1.out, ← HY2.out, show b = N by omega]
                  clear hstep first
                  go_wp2_with fail
                  go_roundw
                  case rel => exact ⟨a + 1, by go_num, by omega, by rw [HSt.out]; exact HC.out⟩
                  case measure => simp [intOf]; omega
            · have HSt : Hid (loopN (m + 1) (fun _ => loopN N fun a => loopN N fun b => leftS R (nullA R N) n a b) (List.replicate N false) = Y1) := by
                show loopN (m + 1) _ (List.replicate N false) = _
                rw [loopN, HY0.out, ← HY1.out, show a = N by omega]
              go_wp2_with fail
              go_roundw
              case rel => exact ⟨m + 1, by go_num, by omega, by rw [HSt.out]; exact HC.out⟩
              case measure => simp [intOf]; omega
        · have HWy : Hid (wayA R (nullA R N) N n = Y0) := by
            show wayA R (nullA R N) N n = Y0
            unfold wayA
            rw [← HY0.out, show m = N + 1 by omega]
          obtain ⟨hBq, hOq⟩ := HQ.out wr HC.out.1
          obtain ⟨c1, _⟩ := HC.out.2.cell (m := n) hlt
          obtain ⟨c2, c3⟩ := hOq.cell (m := n) hlt
          have i0 : (0 : Int) ≤ (n : Int) := Int.natCast_nonneg _
          have i1 : (n : Int) < (N : Int) := by omega
          have HSt : Hid (loopN (n + 1) (fun n O => O.set n ((wayA R (nullA R N) N n).getD n false)) (List.replicate N false) = O.set n (Y0.getD n false)) := by
            show loopN (n + 1) _ (List.replicate N false) = _
            rw [loopN, HO.out, HWy.out]
          have HBq : Hid (Below (w1.heap.size + 1) (w1.alloc (.cells #[.slice na N nc, .slice fa N fc, .slice ga N gc] 43)) wr) := hBq
          have HOq : Hid (RowB wr (w1.heap.size + 1) (w1.heap.size + 1) N O) := hOq
          obtain ⟨xn, hxn⟩ : ∃ x, Y0.getD n false = x := ⟨_, rfl⟩
          rw [hxn] at c1 HSt
          clear hBq hOq hxn
          go_wp2_with fail
          go_roundw
          case rel => exact ⟨n + 1, by go_num, by omega, HBq.out.setCell (by simp) _, by rw [HSt.out]; exact HOq.out.set n xn⟩
          case measure => simp [intOf]; omega
    · have HD : Hid (leftA R (nullA R N) N = O) := by
        show leftA R (nullA R N) N = O
        unfold leftA
        rw [← HO.out, show n = N by omega]
      go_wp2_with fail
      go_ret
      exact ⟨w1.heap.size + 1, rfl, HBw.out, by rw [HD.out]; exact HW.out.mono (by omega)⟩

end Go.Proofs.Ytlfjnljidehljaa
