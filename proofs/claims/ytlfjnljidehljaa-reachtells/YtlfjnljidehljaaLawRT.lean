/- The law pollardinglaw.ReachTells: it returns true. -/
import Derived.Test.YtlfjnljidehljaaReachCome
import Derived.Test.YtlfjnljidehljaaReachLeft
import Derived.Test.YtlfjnljidehljaaRef3Math
import Derived.Test.YtlfjnljidehljaaTruth2
namespace Go.Proofs.Ytlfjnljidehljaa
open Go.RowKit

theorem same_of {X Y : List Bool} {N : Nat} {P : Int → Prop} (h1 : X.length = N) (h2 : Y.length = N) (p1 : ∀ n, hasB X n ↔ P n) (p2 : ∀ n, hasB Y n ↔ P n) : X = Y := by
  refine row_ext (by omega) fun i hi => ?_
  have := (p1 i).trans (p2 i).symm
  unfold hasB at this
  simp only [Int.toNat_natCast] at this
  exact ⟨fun h => (this.1 ⟨Int.natCast_nonneg _, h⟩).2, fun h => (this.2 ⟨Int.natCast_nonneg _, h⟩).2⟩

theorem leftL_get (Y : Vs) (N : Nat) : (leftL Y N N).length = N ∧ ∀ n, n < N → (leftL Y N N).getD n false = bit Y (.r n) n := by
  have main := loopN_inv (n := N) (f := fun m O => O.set m (bit Y (.r m) m)) (x := List.replicate N false)
    (fun k O => O.length = N ∧ ∀ n, n < k → O.getD n false = bit Y (.r n) n)
    ⟨by simp, fun n hn => absurd hn (Nat.not_lt_zero _)⟩
    (fun k hk O ⟨h1, h2⟩ => ⟨by simp [h1], fun n hn => by
      have hkl : k < O.length := by omega
      rcases Nat.lt_succ_iff_lt_or_eq.1 hn with hn | rfl
      · rw [← h2 n hn]; simp [List.getD, List.getElem?_set_ne (show k ≠ n by omega)]
      · rw [List.getD, List.getElem?_set_self hkl]; rfl⟩)
  exact main

theorem left_same {T N : Nat} {R : List Ru} (hf : Fine T N R) {Y : Vs} (h : ∀ n m : Nat, n < N → (bit Y (.r n) m = true ↔ WayP N R n m)) : leftL Y N N = leftA R (nullA R N) N := by
  obtain ⟨a1, a2⟩ := leftL_get Y N
  obtain ⟨b1, b2⟩ := leftA_get (N := N) (R := R) (nullA R N)
  refine row_ext (by omega) fun i hi => ?_
  rw [a2 i (by omega), b2 i (by omega)]
  have := (wayA_iff hf (n := i)).2 i
  unfold hasB at this
  simp only [Int.toNat_natCast] at this
  exact (h i i (by omega)).trans ⟨fun hw => (this.2 hw).2, fun hb => this.1 ⟨Int.natCast_nonneg _, hb⟩⟩

set_option maxRecDepth 100000 in
set_option maxHeartbeats 1600000 in
theorem reachTells_not {w : World} {T N : Int} {rv : Value} {R : List Ru} (hr : RulesAt w w.heap.size rv R) (hm : mayB T N R = false) :
    Calls Try.prog 3 #[.agg #[.int .i64 T, .int .i64 N, rv]] w fun e w' => e = .returned (.bool true) ∧ Below w.heap.size w w' := by
  obtain ⟨ra, rc, hrv⟩ := hr.1
  subst hrv
  have HBX : Hid (∀ wq, Below (w.heap.size + 1) (w.alloc (.cells #[.int .i64 T, .int .i64 N, .slice ra R.length rc] 24)) wq → wq.cell? ⟨w.heap.size, 0, none⟩ = some (.int .i64 T) ∧ wq.cell? ⟨w.heap.size, 1, none⟩ = some (.int .i64 N) ∧ wq.cell? ⟨w.heap.size, 2, none⟩ = some (.slice ra R.length rc) ∧ RulesAt wq wq.heap.size (.slice ra R.length rc) R ∧ Below w.heap.size w wq ∧ w.heap.size + 1 ≤ wq.heap.size) := fun wq hq => by
    have hB : Below w.heap.size w wq := ((Below.refl _ _).alloc (Nat.le_refl _) _).trans (hq.mono (by omega))
    exact ⟨(hq.cell (by simp)).trans (by simp [go_sem]), (hq.cell (by simp)).trans (by simp [go_sem]), (hq.cell (by simp)).trans (by simp [go_sem]), (hr.below hB).mono hB.size, hB, by have := hq.size; simpa using this⟩
  have mk := devMakes_not (T := T) (N := N) (hr.boxed (.cells #[.int .i64 T, .int .i64 N, .slice ra R.length rc] 24)) hm
  simp only [World.size_alloc] at mk
  have HM : Hid (mayB T N R = false) := hm
  clear hr hm
  go_enter Try.func3, Try.ntmps3
  go_wp2_with
    (first
     | (go_at_call 4; refine mk.mono ?_; rintro e w1 ⟨rfl, hB1⟩
        obtain ⟨b0, b1, b2, hR, _, hs1⟩ := HBX.out w1 hB1
        have cm := devComes_not (T := T) (N := N) hR HM.out
        have HB1 : Hid (Below (w.heap.size + 1) (w.alloc (.cells #[.int .i64 T, .int .i64 N, .slice ra R.length rc] 24)) w1) := hB1
        clear hB1 hR mk)
     | (go_at_call 5; refine cm.mono ?_; rintro e w2 ⟨rfl, hB2⟩
        have hC2 := HB1.out.trans (hB2.mono hs1)
        clear b0 b1 b2
        obtain ⟨b0, b1, b2, hR, _, hs2⟩ := HBX.out w2 hC2
        have lf := devLeft_not (T := T) (N := N) hR HM.out
        have HB2 : Hid (Below (w.heap.size + 1) (w.alloc (.cells #[.int .i64 T, .int .i64 N, .slice ra R.length rc] 24)) w2) := hC2
        clear hB2 hC2 hR cm)
     | (go_at_call 6; refine lf.mono ?_; rintro e w3 ⟨rfl, hB3⟩
        have hC3 := HB2.out.trans (hB3.mono hs2)
        clear b0 b1 b2
        obtain ⟨b0, b1, b2, hR, _, hs3⟩ := HBX.out w3 hC3
        have may := may1_any (T := T) (N := N) hR
        rw [HM.out] at may
        have HB3 : Hid (Below (w.heap.size + 1) (w.alloc (.cells #[.int .i64 T, .int .i64 N, .slice ra R.length rc] 24)) w3) := hC3
        clear hB3 hC3 hR lf)
     | (go_at_call 7; refine may.mono ?_; rintro e w4 ⟨rfl, hB4⟩
        have HB4 : Hid (Below w.heap.size w w4) := (HBX.out w4 (HB3.out.trans (hB4.mono hs3))).2.2.2.2.1
        clear hB4 may))
  go_ret
  exact ⟨rfl, HB4.out⟩

set_option maxRecDepth 100000 in
set_option maxHeartbeats 3200000 in
theorem reachTells_may {w : World} {T N : Nat} {rv : Value} {R : List Ru} (hr : RulesAt w w.heap.size rv R) (hm : mayB T N R = true) :
    Calls Try.prog 3 #[.agg #[.int .i64 T, .int .i64 N, rv]] w fun e w' => e = .returned (.bool true) ∧ Below w.heap.size w w' := by
  have hf := may_Fine hm
  obtain ⟨hT, hN1, hN, hRl, _⟩ := may_fine hm
  obtain ⟨ra, rc, hrv⟩ := hr.1
  subst hrv
  have HBX : Hid (∀ wq, Below (w.heap.size + 1) (w.alloc (.cells #[.int .i64 T, .int .i64 N, .slice ra R.length rc] 24)) wq → wq.cell? ⟨w.heap.size, 0, none⟩ = some (.int .i64 T) ∧ wq.cell? ⟨w.heap.size, 1, none⟩ = some (.int .i64 N) ∧ wq.cell? ⟨w.heap.size, 2, none⟩ = some (.slice ra R.length rc) ∧ RulesAt wq wq.heap.size (.slice ra R.length rc) R ∧ Below w.heap.size w wq ∧ w.heap.size + 1 ≤ wq.heap.size) := fun wq hq => by
    have hB : Below w.heap.size w wq := ((Below.refl _ _).alloc (Nat.le_refl _) _).trans (hq.mono (by omega))
    exact ⟨(hq.cell (by simp)).trans (by simp [go_sem]), (hq.cell (by simp)).trans (by simp [go_sem]), (hq.cell (by simp)).trans (by simp [go_sem]), (hr.below hB).mono hB.size, hB, by have := hq.size; simpa using this⟩
  have mk := devMakes_may (T := T) (N := N) (hr.boxed (.cells #[.int .i64 T, .int .i64 N, .slice ra R.length rc] 24)) hm
  simp only [World.size_alloc] at mk
  have HM : Hid (mayB T N R = true) := hm
  have HF : Hid (Fine T N R) := hf
  clear hr hm hf
  go_enter Try.func3, Try.ntmps3
  go_wp2_with
    (first
     | (go_at_call 4; refine mk.mono ?_; rintro e w1 ⟨g1, Y1, rfl, hB1, hr1, hm1⟩
        obtain ⟨b0, b1, b2, hR, _, hs1⟩ := HBX.out w1 hB1
        have cm := devComes_may (T := T) (N := N) hR HM.out
        have HB1 : Hid (Below (w.heap.size + 1) (w.alloc (.cells #[.int .i64 T, .int .i64 N, .slice ra R.length rc] 24)) w1) := hB1
        have HD1 : Hid (BoolsAt w1 (.slice (some ⟨g1, 0, none⟩) N N) (makesA R N)) := by
          have := hr1.bools
          rw [same_of hr1.len (makesA_iff HF.out).1 hm1 (makesA_iff HF.out).2] at this
          exact this
        clear hB1 hR mk hr1 hm1)
     | (go_at_call 5; refine cm.mono ?_; rintro e w2 ⟨g2, Y2, rfl, hB2, hr2, hm2⟩
        have hC2 := HB1.out.trans (hB2.mono hs1)
        clear b0 b1 b2
        obtain ⟨b0, b1, b2, hR, _, hs2⟩ := HBX.out w2 hC2
        have lf := devLeft_may (T := T) (N := N) hR HM.out
        have HB2 : Hid (Below (w.heap.size + 1) (w.alloc (.cells #[.int .i64 T, .int .i64 N, .slice ra R.length rc] 24)) w2) := hC2
        have HB12 : Hid (Below w1.heap.size w1 w2) := hB2
        have HD2 : Hid (BoolsAt w2 (.slice (some ⟨g2, 0, none⟩) N N) (comesA R N)) := by
          have := hr2.bools
          rw [same_of hr2.len (comesA_iff HF.out).1 hm2 (comesA_iff HF.out).2] at this
          exact this
        clear hB2 hC2 hR cm hr2 hm2)
     | (go_at_call 6; refine lf.mono ?_; rintro e w3 ⟨g3, Y3, rfl, hB3, hr3, hm3⟩
        have hC3 := HB2.out.trans (hB3.mono hs2)
        clear b0 b1 b2
        obtain ⟨b0, b1, b2, hR, _, hs3⟩ := HBX.out w3 hC3
        have may := may1_any (T := T) (N := N) hR
        rw [HM.out] at may
        have HB3 : Hid (Below (w.heap.size + 1) (w.alloc (.cells #[.int .i64 T, .int .i64 N, .slice ra R.length rc] 24)) w3) := hC3
        have HB23 : Hid (Below w2.heap.size w2 w3) := hB3
        have HD3 : Hid (BoolsAt w3 (.slice (some ⟨g3, 0, none⟩) N N) (leftA R (nullA R N) N)) := by
          have := hr3.bools
          rw [left_same HF.out hm3] at this
          exact this
        clear hB3 hC3 hR lf hr3 hm3)
     | (go_at_call 7; refine may.mono ?_; rintro e w4 ⟨rfl, hB4⟩
        have hC4 := HB3.out.trans (hB4.mono hs3)
        clear b0 b1 b2
        obtain ⟨b0, b1, b2, hR, _, hs4⟩ := HBX.out w4 hC4
        have rm := makes3_any (T := T) (N := N) hR HM.out
        have HB4 : Hid (Below (w.heap.size + 1) (w.alloc (.cells #[.int .i64 T, .int .i64 N, .slice ra R.length rc] 24)) w4) := hC4
        have HB34 : Hid (Below w3.heap.size w3 w4) := hB4
        clear hB4 hC4 hR may)
     | (go_at_call 9; refine rm.mono ?_; rintro e w5 ⟨rfl, hB5, hr5⟩
        have hC5 := HB4.out.trans (hB5.mono hs4)
        clear b0 b1 b2
        have HB5 : Hid (Below (w.heap.size + 1) (w.alloc (.cells #[.int .i64 T, .int .i64 N, .slice ra R.length rc] 24)) w5) := hC5
        have h35 : Below w3.heap.size w3 w5 := HB34.out.trans (hB5.mono HB34.out.size)
        have HB35 : Hid (Below w3.heap.size w3 w5) := h35
        have tr1 := truths_eq (HD1.out.same (same_below (HB12.out.trans ((HB23.out.trans (h35.mono HB23.out.size)).mono HB12.out.size)))) hr5.bools (by rw [(makesA_iff HF.out).1]; omega)
        clear hB5 hC5 rm hr5 h35)
     | (go_at_call 10; refine rc3.mono ?_; rintro e w6 ⟨g6, rfl, hB6, hr6⟩
        have h36 : Below w3.heap.size w3 w6 := HB35'.out.trans (hB6.mono HB35'.out.size)
        have HB36 : Hid (Below w3.heap.size w3 w6) := h36
        have HB6 : Hid (Below (w.heap.size + 1) (w.alloc (.cells #[.int .i64 T, .int .i64 N, .slice ra R.length rc] 24)) w6) := HB5'.out.trans (hB6.mono hs5)
        have tr2 := truths_eq (HD2.out.same (same_below (HB23.out.trans (h36.mono HB23.out.size)))) hr6.bools (by rw [(comesA_iff HF.out).1]; omega)
        clear hB6 hr6 h36 rc3 b0 b1 b2)
     | (go_at_call 11; refine rl3.mono ?_; rintro e w7 ⟨g7, rfl, hB7, hr7⟩
        have h37 : Below w3.heap.size w3 w7 := HB36'.out.trans (hB7.mono HB36'.out.size)
        have HB7 : Hid (Below w.heap.size w w7) := (HBX.out w7 (HB6'.out.trans (hB7.mono hs6))).2.2.2.2.1
        have tr3 := truths_eq (HD3.out.same (same_below h37)) hr7.bools (by rw [(leftA_get _).1]; omega)
        clear hB7 hr7 h37 rl3 b0 b1 b2)
     | (go_at_call 8; first
         | (refine tr3.mono ?_; rintro e w9 ⟨rfl, m3, rfl⟩)
         | (refine tr2.mono ?_; rintro e w9 ⟨rfl, m2, rfl⟩
            have HB36' : Hid (Below w3.heap.size w3 (w6.drewN m2)) := below_drewN HB36.out m2
            have hC6 := below_drewN HB6.out m2
            obtain ⟨b0, b1, b2, hR, _, hs6⟩ := HBX.out _ hC6
            have rl3 := left3_any (T := T) (N := N) hR HM.out HF.out
            have HB6' : Hid (Below (w.heap.size + 1) (w.alloc (.cells #[.int .i64 T, .int .i64 N, .slice ra R.length rc] 24)) (w6.drewN m2)) := hC6
            clear hC6 hR tr2)
         | (refine tr1.mono ?_; rintro e w9 ⟨rfl, m1, rfl⟩
            have HB35' : Hid (Below w3.heap.size w3 (w5.drewN m1)) := below_drewN HB35.out m1
            have hC5 := below_drewN HB5.out m1
            obtain ⟨b0, b1, b2, hR, _, hs5⟩ := HBX.out _ hC5
            have rc3 := comes3_any (T := T) (N := N) hR HM.out
            have HB5' : Hid (Below (w.heap.size + 1) (w.alloc (.cells #[.int .i64 T, .int .i64 N, .slice ra R.length rc] 24)) (w5.drewN m1)) := hC5
            clear hC5 hR tr1)))
  go_ret
  exact ⟨rfl, below_drewN HB7.out _⟩

theorem reachTells_any {w : World} {T N : Int} {rv : Value} {R : List Ru} (hr : RulesAt w w.heap.size rv R) :
    Calls Try.prog 3 #[.agg #[.int .i64 T, .int .i64 N, rv]] w fun e w' => e = .returned (.bool true) ∧ Below w.heap.size w w' := by
  cases hm : mayB T N R with
  | false => exact reachTells_not hr hm
  | true =>
    have hh := hm
    simp only [mayB, headB, Bool.and_eq_true, decide_eq_true_eq] at hh
    obtain ⟨t, rfl⟩ : ∃ t : Nat, T = t := ⟨T.toNat, by omega⟩
    obtain ⟨n, rfl⟩ : ∃ n : Nat, N = n := ⟨N.toNat, by omega⟩
    exact reachTells_may hr hm

end Go.Proofs.Ytlfjnljidehljaa
