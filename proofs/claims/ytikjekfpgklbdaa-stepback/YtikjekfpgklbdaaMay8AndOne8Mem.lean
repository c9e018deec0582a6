import Derived.Test.YtikjekfpgklbdaaHeldTailAndConcT
import Derived.Deep.DeepCutAuto
import Derived.Test.YtikjekfpgklbdaaStepTreeAndStSmall
/- The contracts of pollardingref8's left and May. -/
namespace Go.Proofs.Ytikjekfpgklbdaa
open Go.RowKit

theorem any_take {R : List Ru} {f : Ru → Bool} {i : Nat} (hi : i < R.length) : (R.take (i + 1)).any f = ((R.take i).any f || f (R.getD i (0, []))) := by
  rw [List.take_succ_eq_append_getElem hi, List.any_append]
  simp [List.getD, hi]
theorem all_take8 {R : List Ru} {f : Ru → Bool} {i : Nat} (hi : i < R.length) : (R.take (i + 1)).all f = ((R.take i).all f && f (R.getD i (0, []))) := by
  rw [List.take_succ_eq_append_getElem hi, List.all_append]
  simp [List.getD, hi]
theorem all_bad8 {R : List Ru} {f : Ru → Bool} {i : Nat} (hi : i < R.length) (h : f (R.getD i (0, [])) = false) : R.all f = false := by
  rw [List.all_eq_false]
  exact ⟨R[i], List.getElem_mem hi, by have e : R.getD i (0, []) = R[i] := by simp [List.getD, hi]
                                       rw [e] at h; rw [h]; simp⟩

set_option maxRecDepth 100000 in
set_option maxHeartbeats 3200000 in
theorem left8_any {w : World} {T N a : Int} {rv : Value} {R : List Ru} (hr : RulesAt w w.heap.size rv R) (hR : R.length ≤ 1000) :
    Calls Try.prog 15 #[.agg #[.int .i64 T, .int .i64 N, rv], .int .i64 a] w fun e w' => e = .returned (.bool (leftB R a)) ∧ Below w.heap.size w w' := by
  obtain ⟨ra, rc, hrv⟩ := hr.1
  subst hrv
  obtain ⟨W1, hW1⟩ : ∃ W, w.alloc (.cells #[.int .i64 T, .int .i64 N, .slice ra R.length rc] 24) = W := ⟨_, rfl⟩
  have hB1 : Below w.heap.size w W1 := by rw [← hW1]; exact (Below.refl _ _).alloc (Nat.le_refl _) _
  have hs1 : w.heap.size < W1.heap.size := by rw [← hW1]; simp
  have g2 : W1.cell? ⟨w.heap.size, 2, none⟩ = some (.slice ra R.length rc) := by rw [← hW1]; simp [go_sem]
  have HBX : Hid (∀ wr, Below W1.heap.size W1 wr → wr.cell? ⟨w.heap.size, 2, none⟩ = some (.slice ra R.length rc) ∧ RulesAt wr wr.heap.size (.slice ra R.length rc) R ∧ Below w.heap.size w wr) := fun wr hq => by
    have hB : Below w.heap.size w wr := hB1.trans (hq.mono (by omega))
    exact ⟨(hq.cell (by simp only; omega)).trans g2, (hr.below hB).mono hB.size, hB⟩
  clear hr hB1 g2
  go_enter Try.func15, Try.ntmps15
  go_wp2_with fail
  clear hW1
  go_loopw [5, 6] (fun s5 s6 wr => ∃ i : Nat, s5 = .bool ((R.take i).any (ownA a)) ∧ s6 = .int .i64 i ∧ i ≤ R.length ∧ ((R.take i).all fun r => !(ownA a r && decide (r.2.length = 1))) = true ∧ Below W1.heap.size W1 wr) (fun _ s _ => R.length - (intOf s).toNat)
  case atStart => exact ⟨0, rfl, rfl, Nat.zero_le _, rfl, Below.refl _ _⟩
  case round =>
    obtain ⟨i, rfl, rfl, hi, hal, hB⟩ := hrel
    have HB : Hid (Below W1.heap.size W1 wr) := hB
    have HAl : Hid (((R.take i).all fun r => !(ownA a r && decide (r.2.length = 1))) = true) := hal
    obtain ⟨g2, hRl, _⟩ := HBX.out wr hB
    obtain ⟨z0, hz0⟩ : ∃ z, (R.take i).any (ownA a) = z := ⟨_, rfl⟩
    have HZ0 : Hid ((R.take i).any (ownA a) = z0) := hz0
    rw [hz0]
    clear hal hB hz0
    by_cases hlt : i < R.length
    · obtain ⟨b, o, rc', qa, qc, hv, _, k1, k2, hsy⟩ := hRl.syms hlt
      cases hv
      have hany := any_take (f := ownA a) hlt
      have hall := all_take8 (f := fun r => !(ownA a r && decide (r.2.length = 1))) hlt
      have hbad := all_bad8 (f := fun r => !(ownA a r && decide (r.2.length = 1))) hlt
      obtain ⟨⟨L, l⟩, hrule⟩ : ∃ x, R.getD i (0, []) = x := ⟨_, rfl⟩
      rw [hrule] at k1 k2 hsy hany hall hbad
      simp only at k1 k2 hsy hbad
      rw [HZ0.out] at hany
      rw [HAl.out] at hall
      obtain ⟨n, hn⟩ : ∃ n, l.length = n := ⟨_, rfl⟩
      rw [hn] at k2 hsy
      have HSy : Hid (SymsAt wr (.slice qa n qc) l) := hsy
      have HN : Hid (l.length = n) := hn
      have i0 : (0 : Int) ≤ (i : Int) := Int.natCast_nonneg _
      have i1 : (i : Int) < (R.length : Int) := by omega
      have HAny : Hid ((R.take (i + 1)).any (ownA a) = (z0 || ownA a (L, l))) := hany
      have HAll : Hid (((R.take (i + 1)).all fun r => !(ownA a r && decide (r.2.length = 1))) = (true && !(ownA a (L, l) && decide (l.length = 1)))) := hall
      have HBad : Hid ((!(ownA a (L, l) && decide (l.length = 1))) = false → (R.all fun r => !(ownA a r && decide (r.2.length = 1))) = false) := hbad
      have HBa : Hid (Below W1.heap.size W1 (wr.alloc (.cells #[.int .i64 L, .slice qa n qc] 44))) := HB.out.alloc HB.out.size _
      clear hRl hsy hany hall hbad hrule hn
      by_cases hL : L = a
      · subst hL
        have e1 : (L == L) = true := by simp
        have ow := own8_any (L := L) (HSy.out.same (same_alloc wr (.cells #[.int .i64 L, .slice qa n qc] 44)))
        have HOw : Hid (ownA L (L, l) = ownR (L, l)) := by show ownA L (L, l) = ownR (L, l); simp [ownA]
        obtain ⟨z, hz⟩ : ∃ z, ownR (L, l) = z := ⟨_, rfl⟩
        have HZ : Hid (ownR (L, l) = z) := hz
        rw [hz] at ow
        clear hz
        cases z with
        | false =>
          have HA' : Hid (ownA L (L, l) = false) := HOw.out.trans HZ.out
          go_wp2_with (go_at_call 17; refine ow.mono ?_; rintro e w1 ⟨rfl, hB1⟩
                       have HB1 : Hid (Below W1.heap.size W1 w1) := HBa.out.trans (hB1.mono HBa.out.size)
                       clear hB1)
          go_roundw
          case rel => exact ⟨i + 1, by rw [HAny.out, HA'.out]; simp, by go_num, by omega, by rw [HAll.out, HA'.out]; rfl, HB1.out⟩
          case measure => simp [intOf]; omega
        | true =>
          have HA' : Hid (ownA L (L, l) = true) := HOw.out.trans HZ.out
          by_cases hn1 : n = 1
          · subst hn1
            have HF : Hid (leftB R L = false) := by
              show leftB R L = false
              unfold leftB
              rw [HBad.out (by rw [HA'.out, HN.out]; rfl)]
              simp
            go_wp2_with (go_at_call 17; refine ow.mono ?_; rintro e w1 ⟨rfl, hB1⟩
                         have HB1 : Hid (Below W1.heap.size W1 w1) := HBa.out.trans (hB1.mono HBa.out.size)
                         have d1 : w1.cell? ⟨wr.heap.size, 1, none⟩ = some (.slice qa 1 qc) := (hB1.cell (by simp)).trans (by simp [go_sem])
                         clear hB1)
            go_ret
            exact ⟨by rw [HF.out]; rfl, (HBX.out _ HB1.out).2.2⟩
          · have e2 : ((n : Int) == 1) = false := by simp; omega
            go_wp2_with (go_at_call 17; refine ow.mono ?_; rintro e w1 ⟨rfl, hB1⟩
                         have HB1 : Hid (Below W1.heap.size W1 w1) := HBa.out.trans (hB1.mono HBa.out.size)
                         have d1 : w1.cell? ⟨wr.heap.size, 1, none⟩ = some (.slice qa n qc) := (hB1.cell (by simp)).trans (by simp [go_sem])
                         clear hB1)
            go_roundw
            case rel => exact ⟨i + 1, by rw [HAny.out, HA'.out]; simp, by go_num, by omega, by rw [HAll.out, HA'.out, HN.out]; simp [hn1], HB1.out⟩
            case measure => simp [intOf]; omega
      · have e1 : (L == a) = false := by simpa using hL
        have HA' : Hid (ownA a (L, l) = false) := by show ownA a (L, l) = false; simp [ownA, hL]
        go_wp2_with fail
        go_roundw
        case rel => exact ⟨i + 1, by rw [HAny.out, HA'.out]; simp, by go_num, by omega, by rw [HAll.out, HA'.out]; rfl, HBa.out⟩
        case measure => simp [intOf]; omega
    · obtain rfl : i = R.length := by omega
      have HF : Hid (leftB R a = z0) := by
        show leftB R a = z0
        have h1 := HAl.out
        have h2 := HZ0.out
        rw [List.take_length] at h1 h2
        unfold leftB
        rw [h1, h2]
        simp
      clear hRl
      go_wp2_with fail
      go_ret
      exact ⟨by rw [HF.out]; rfl, (HBX.out wr HB.out).2.2⟩

set_option maxRecDepth 100000 in
set_option maxHeartbeats 6400000 in
theorem may8_any {w : World} {T N : Int} {rv : Value} {R : List Ru} (hr : RulesAt w w.heap.size rv R) (hR : R.length ≤ 1000) (s : Stp) :
    Calls Try.prog 10 #[.agg #[.int .i64 T, .int .i64 N, rv], .agg #[.int .i64 s.op, .int .i64 s.a, .int .i64 s.b, .int .i64 s.c]] w fun e w' => e = .returned (.bool (stepB N R s)) ∧ Below w.heap.size w w' := by
  obtain ⟨op, a, b, c⟩ := s
  simp only
  obtain ⟨ra, rc, hrv⟩ := hr.1
  subst hrv
  have hB : Below w.heap.size w ((w.alloc (.cells #[.int .i64 T, .int .i64 N, .slice ra R.length rc] 24)).alloc (.cells #[.int .i64 op, .int .i64 a, .int .i64 b, .int .i64 c] 26)) := ((Below.refl _ _).alloc (Nat.le_refl _) _).alloc (by simp) _
  have hr2 : RulesAt ((w.alloc (.cells #[.int .i64 T, .int .i64 N, .slice ra R.length rc] 24)).alloc (.cells #[.int .i64 op, .int .i64 a, .int .i64 b, .int .i64 c] 26)) ((w.alloc (.cells #[.int .i64 T, .int .i64 N, .slice ra R.length rc] 24)).alloc (.cells #[.int .i64 op, .int .i64 a, .int .i64 b, .int .i64 c] 26)).heap.size (.slice ra R.length rc) R := (hr.below hB).mono hB.size
  have HB : Hid (Below w.heap.size w ((w.alloc (.cells #[.int .i64 T, .int .i64 N, .slice ra R.length rc] 24)).alloc (.cells #[.int .i64 op, .int .i64 a, .int .i64 b, .int .i64 c] 26))) := hB
  have HR2 : Hid (RulesAt ((w.alloc (.cells #[.int .i64 T, .int .i64 N, .slice ra R.length rc] 24)).alloc (.cells #[.int .i64 op, .int .i64 a, .int .i64 b, .int .i64 c] 26)) ((w.alloc (.cells #[.int .i64 T, .int .i64 N, .slice ra R.length rc] 24)).alloc (.cells #[.int .i64 op, .int .i64 a, .int .i64 b, .int .i64 c] 26)).heap.size (.slice ra R.length rc) R) := hr2
  clear hr hB hr2
  go_enter Try.func10, Try.ntmps10
  obtain ⟨rb, hrb⟩ : ∃ z, (decide (0 ≤ a) && decide (a < (R.length : Int))) = z := ⟨_, rfl⟩
  have HRb : Hid ((decide (0 ≤ a) && decide (a < (R.length : Int))) = rb) := hrb
  clear hrb
  go_upto_region 1 with fail
  go_cut [5] from 7 to 160 (fun s5 wx => s5 = .bool rb ∧ wx = (w.alloc (.cells #[.int .i64 T, .int .i64 N, .slice ra R.length rc] 24)).alloc (.cells #[.int .i64 op, .int .i64 a, .int .i64 b, .int .i64 c] 26))
  case first =>
    by_cases h1 : 0 ≤ a
    · have h1d : decide (0 ≤ a) = true := decide_eq_true h1
      by_cases h2 : a < (R.length : Int)
      · have h2d : decide (a < (R.length : Int)) = true := decide_eq_true h2
        have HE : Hid (rb = true) := by show rb = true; rw [← HRb.out, h1d, h2d]; rfl
        go_wp2_with fail
        go_meet
        case rel => exact ⟨by rw [HE.out], rfl⟩
      · have h2d : decide (a < (R.length : Int)) = false := decide_eq_false h2
        have HE : Hid (rb = false) := by show rb = false; rw [← HRb.out, h1d, h2d]; rfl
        go_wp2_with fail
        go_meet
        case rel => exact ⟨by rw [HE.out], rfl⟩
    · have h1d : decide (0 ≤ a) = false := decide_eq_false h1
      have HE : Hid (rb = false) := by show rb = false; rw [← HRb.out, h1d]; rfl
      go_wp2_with fail
      go_meet
      case rel => exact ⟨by rw [HE.out], rfl⟩
  case rest =>
    obtain ⟨rfl, rfl⟩ := hcut
    by_cases h1 : op = 1
    · subst h1
      by_cases p1 : 1 ≤ a
      · have p1d : decide (1 ≤ a) = true := decide_eq_true p1
        by_cases p2 : a < N
        · have p2d : decide (a < N) = true := decide_eq_true p2
          by_cases p3 : 1 ≤ b
          · have p3d : decide (1 ≤ b) = true := decide_eq_true p3
            by_cases p4 : b < N
            · have p4d : decide (b < N) = true := decide_eq_true p4
              by_cases p5 : c = 0
              · have p5d : (c == 0) = true := by simpa using p5
                have HS : Hid (stepB N R ⟨1, a, b, c⟩ = true) := by show stepB N R ⟨1, a, b, c⟩ = true; unfold stepB; simp [p1, p2, p3, p4, p5]
                clear p1 p2 p3 p4 p5
                go_wp2_with fail
                go_ret
                exact ⟨by rw [HS.out]; rfl, HB.out⟩
              · have p5d : (c == 0) = false := by simpa using p5
                have HS : Hid (stepB N R ⟨1, a, b, c⟩ = false) := by show stepB N R ⟨1, a, b, c⟩ = false; unfold stepB; simp [p1, p2, p3, p4, p5]
                clear p1 p2 p3 p4 p5
                go_wp2_with fail
                go_ret
                exact ⟨by rw [HS.out]; rfl, HB.out⟩
            · have p4d : decide (b < N) = false := decide_eq_false p4
              have HS : Hid (stepB N R ⟨1, a, b, c⟩ = false) := by show stepB N R ⟨1, a, b, c⟩ = false; unfold stepB; simp [p1, p2, p3, p4]
              clear p1 p2 p3 p4
              go_wp2_with fail
              go_ret
              exact ⟨by rw [HS.out]; rfl, HB.out⟩
          · have p3d : decide (1 ≤ b) = false := decide_eq_false p3
            have HS : Hid (stepB N R ⟨1, a, b, c⟩ = false) := by show stepB N R ⟨1, a, b, c⟩ = false; unfold stepB; simp [p1, p2, p3]
            clear p1 p2 p3
            go_wp2_with fail
            go_ret
            exact ⟨by rw [HS.out]; rfl, HB.out⟩
        · have p2d : decide (a < N) = false := decide_eq_false p2
          have HS : Hid (stepB N R ⟨1, a, b, c⟩ = false) := by show stepB N R ⟨1, a, b, c⟩ = false; unfold stepB; simp [p1, p2]
          clear p1 p2
          go_wp2_with fail
          go_ret
          exact ⟨by rw [HS.out]; rfl, HB.out⟩
      · have p1d : decide (1 ≤ a) = false := decide_eq_false p1
        have HS : Hid (stepB N R ⟨1, a, b, c⟩ = false) := by show stepB N R ⟨1, a, b, c⟩ = false; unfold stepB; simp [p1]
        clear p1
        go_wp2_with fail
        go_ret
        exact ⟨by rw [HS.out]; rfl, HB.out⟩
    · have e1 : (op == 1) = false := by simpa using h1
      by_cases h2 : op = 2
      · subst h2
        cases rb with
        | false =>
          have HS : Hid (stepB N R ⟨2, a, b, c⟩ = false) := by show stepB N R ⟨2, a, b, c⟩ = false; unfold stepB; simp only [HRb.out]; simp
          go_wp2_with fail
          go_big_quiet (fail)
          go_wp2_with fail
          go_ret
          exact ⟨by rw [HS.out]; rfl, below_drewN HB.out _⟩
        | true =>
          have hab : 0 ≤ a ∧ a < (R.length : Int) := by simpa using HRb.out
          obtain ⟨m, rfl⟩ : ∃ m : Nat, a = m := ⟨a.toNat, by omega⟩
          have hm : m < R.length := by omega
          obtain ⟨rb', ro, rc', qa, qc, hv, _, k1, k2, _⟩ := HR2.out.syms hm
          cases hv
          obtain ⟨n, hn⟩ : ∃ n, (R.getD m (0, [])).2.length = n := ⟨_, rfl⟩
          rw [hn] at k2
          have i0 : (0 : Int) ≤ (m : Int) := Int.natCast_nonneg _
          have i1 : (m : Int) < (R.length : Int) := by omega
          have HN : Hid ((R.getD m (0, [])).2.length = n) := hn
          clear hn hab k1
          by_cases p1 : 0 ≤ b
          · have p1d : decide (0 ≤ b) = true := decide_eq_true p1
            by_cases p2 : b < c
            · have p2d : decide (b < c) = true := decide_eq_true p2
              by_cases p3 : c ≤ (n : Int)
              · have p3d : decide (c ≤ (n : Int)) = true := decide_eq_true p3
                have HS : Hid (stepB N R ⟨2, (m : Int), b, c⟩ = true) := by show stepB N R ⟨2, (m : Int), b, c⟩ = true; unfold stepB; simp only [HRb.out, Int.toNat_natCast, HN.out]; simp [p1, p2, p3]
                go_wp2_with fail
                go_big_quiet (fail)
                go_wp2_with fail
                go_ret
                exact ⟨by rw [HS.out]; rfl, below_drewN HB.out _⟩
              · have p3d : decide (c ≤ (n : Int)) = false := decide_eq_false p3
                have HS : Hid (stepB N R ⟨2, (m : Int), b, c⟩ = false) := by show stepB N R ⟨2, (m : Int), b, c⟩ = false; unfold stepB; simp only [HRb.out, Int.toNat_natCast, HN.out]; simp [p1, p2, p3]
                go_wp2_with fail
                go_big_quiet (fail)
                go_wp2_with fail
                go_ret
                exact ⟨by rw [HS.out]; rfl, below_drewN HB.out _⟩
            · have p2d : decide (b < c) = false := decide_eq_false p2
              have HS : Hid (stepB N R ⟨2, (m : Int), b, c⟩ = false) := by show stepB N R ⟨2, (m : Int), b, c⟩ = false; unfold stepB; simp only [HRb.out, Int.toNat_natCast, HN.out]; simp [p1, p2]
              go_wp2_with fail
              go_big_quiet (fail)
              go_wp2_with fail
              go_ret
              exact ⟨by rw [HS.out]; rfl, below_drewN HB.out _⟩
          · have p1d : decide (0 ≤ b) = false := decide_eq_false p1
            have HS : Hid (stepB N R ⟨2, (m : Int), b, c⟩ = false) := by show stepB N R ⟨2, (m : Int), b, c⟩ = false; unfold stepB; simp only [HRb.out, Int.toNat_natCast, HN.out]; simp [p1]
            go_wp2_with fail
            go_big_quiet (fail)
            go_wp2_with fail
            go_ret
            exact ⟨by rw [HS.out]; rfl, below_drewN HB.out _⟩
      · have e2 : (op == 2) = false := by simpa using h2
        by_cases h3 : op = 3
        · subst h3
          cases rb with
          | false =>
            have HS : Hid (stepB N R ⟨3, a, b, c⟩ = false) := by show stepB N R ⟨3, a, b, c⟩ = false; unfold stepB; simp only [HRb.out]; simp
            go_wp2_with fail
            go_big_quiet (fail)
            go_wp2_with fail
            go_ret
            exact ⟨by rw [HS.out]; rfl, below_drewN HB.out _⟩
          | true =>
            have hab : 0 ≤ a ∧ a < (R.length : Int) := by simpa using HRb.out
            obtain ⟨m, rfl⟩ : ∃ m : Nat, a = m := ⟨a.toNat, by omega⟩
            have hm : m < R.length := by omega
            obtain ⟨rb', ro, rc', qa, qc, hv, _, k1, k2, hsy⟩ := HR2.out.syms hm
            cases hv
            obtain ⟨⟨L, l⟩, hrule⟩ : ∃ x, R.getD m (0, []) = x := ⟨_, rfl⟩
            rw [hrule] at k1 k2 hsy
            simp only at k1 k2 hsy
            obtain ⟨n, hn⟩ : ∃ n, l.length = n := ⟨_, rfl⟩
            rw [hn] at k2 hsy
            have i0 : (0 : Int) ≤ (m : Int) := Int.natCast_nonneg _
            have i1 : (m : Int) < (R.length : Int) := by omega
            have HSt : Hid (stepB N R ⟨3, (m : Int), b, c⟩ = (decide (0 ≤ b) && decide (b < (n : Int)) && decide (c = 0) && !(l.getD b.toNat (false, 0)).1 && !decide ((l.getD b.toNat (false, 0)).2 = L))) := by show stepB N R ⟨3, (m : Int), b, c⟩ = _; unfold stepB; simp only [HRb.out, Int.toNat_natCast, hrule, hn]; simp
            have HSy : Hid (SymsAt ((w.alloc (.cells #[.int .i64 T, .int .i64 N, .slice (some ⟨rb', ro, none⟩) R.length rc] 24)).alloc (.cells #[.int .i64 3, .int .i64 m, .int .i64 b, .int .i64 c] 26)) (.slice qa n qc) l ∧ l.length = n) := ⟨hsy, hn⟩
            clear hn hab hsy hrule HR2
            by_cases p1 : 0 ≤ b
            · have p1d : decide (b < 0) = false := decide_eq_false (by omega)
              by_cases p2 : b < (n : Int)
              · have p2d : decide ((n : Int) ≤ b) = false := decide_eq_false (by omega)
                by_cases p3 : c = 0
                · subst p3
                  obtain ⟨bn, rfl⟩ : ∃ bn : Nat, b = bn := ⟨b.toNat, by omega⟩
                  have hbn : bn < n := by omega
                  obtain ⟨yb, yo, yc, hyv, y1, y2⟩ := HSy.out.1.2 bn (by rw [HSy.out.2]; exact hbn)
                  rw [HSy.out.2] at hyv
                  cases hyv
                  obtain ⟨⟨t, v⟩, hx⟩ : ∃ x, l.getD bn (false, 0) = x := ⟨_, rfl⟩
                  rw [hx] at y1 y2
                  simp only at y1 y2
                  have HSv : Hid (stepB N R ⟨3, (m : Int), (bn : Int), 0⟩ = (!t && !decide (v = L))) := by show stepB N R ⟨3, (m : Int), (bn : Int), 0⟩ = _; rw [HSt.out]; simp only [Int.toNat_natCast, hx]; simp [hbn]
                  have e0 : ((0 : Int) != 0) = false := by decide
                  have j0 : (0 : Int) ≤ (bn : Int) := Int.natCast_nonneg _
                  clear hx p1 p2 p1d p2d
                  have p1d : decide ((bn : Int) < 0) = false := decide_eq_false (by omega)
                  have p2d : decide (n ≤ bn) = false := decide_eq_false (by omega)
                  go_wp2_with fail
                  go_big_quiet (fail)
                  generalize nq = q1
                  go_upto_region 10 with fail
                  obtain ⟨V, hV⟩ : ∃ V, ((w.alloc (.cells #[.int .i64 T, .int .i64 N, .slice (some ⟨rb', ro, none⟩) R.length rc] 24)).alloc (.cells #[.int .i64 3, .int .i64 m, .int .i64 bn, .int .i64 0] 26)).drewN q1 = V := ⟨_, rfl⟩
                  have v0 : V.drew.cell? ⟨w.heap.size, 2, none⟩ = some (.slice (some ⟨rb', ro, none⟩) R.length rc) := by rw [← hV]; simp [go_sem]
                  have v1 : V.drew.cell? ⟨w.heap.size + 1, 1, none⟩ = some (.int .i64 m) := by rw [← hV]; simp [go_sem]
                  have v2 : V.drew.cell? ⟨w.heap.size + 1, 2, none⟩ = some (.int .i64 bn) := by rw [← hV]; simp [go_sem]
                  have v3 : V.drew.cell? ⟨rb', ro + m * 2 + 1, none⟩ = some (.slice (some ⟨yb, yo, none⟩) n qc) := by rw [← hV]; exact k2
                  have v4 : V.drew.cell? ⟨yb, yo + bn * 2, none⟩ = some (.bool t) := by rw [← hV]; exact y1
                  have v5 : V.drew.cell? ⟨yb, yo + bn * 2 + 1, none⟩ = some (.int .i64 v) := by rw [← hV]; exact y2
                  have v6 : V.drew.cell? ⟨rb', ro + m * 2, none⟩ = some (.int .i64 L) := by rw [← hV]; exact k1
                  have HBV : Hid (Below w.heap.size w V) := by show Below w.heap.size w V; rw [← hV]; exact below_drewN HB.out _
                  rw [hV]
                  have HAl : Hid (∀ p u, V.drew.cell? p = some u → (V.drew.alloc (.cells #[.bool false, .int .i64 0] 52)).cell? p = some u) := fun p u hp => (((Below.refl _ _).alloc (Nat.le_refl _) _).cell (World.block_lt_of_cell? _ _ hp)).trans hp
                  have j1 : (bn : Int) < (n : Int) := by omega
                  clear hV k1 k2 y1 y2
                  refine wp_region_held_seq [0, 1, 2, 3, 4, 5, 6, 7, 8, 9, 10] [11, 12] 12 (fun w' : World => w'.cell? ⟨w.heap.size, 2, none⟩ = some (.slice (some ⟨rb', ro, none⟩) R.length rc) ∧ w'.cell? ⟨w.heap.size + 1, 1, none⟩ = some (.int .i64 m) ∧ w'.cell? ⟨w.heap.size + 1, 2, none⟩ = some (.int .i64 bn) ∧ w'.cell? ⟨rb', ro + m * 2 + 1, none⟩ = some (.slice (some ⟨yb, yo, none⟩) n qc) ∧ w'.cell? ⟨yb, yo + bn * 2, none⟩ = some (.bool t) ∧ w'.cell? ⟨yb, yo + bn * 2 + 1, none⟩ = some (.int .i64 v)) (by kernel_rfl) (by kernel_rfl) ⟨v0, v1, v2, v3, v4, v5⟩ ?_
                  iterate 11
                    refine StillI.con8 (v := ?_) rfl (by rfl) ?_ ?_
                    rotate_left
                    · intro w' hSw
                      obtain ⟨s0, s1, s2, s3, s4, s5⟩ := hSw
                      go_simp
                      try with_reducible rfl
                    simp only [Act.put, List.setIfInBounds_toArray, List.set_cons_zero, List.set_cons_succ]
                  rw [StillI]
                  refine TailI.con8 rfl (fun K hK => ?_)
                  go_simp
                  refine hK.out _ _ (fun _ => ⟨HAl.out _ _ v0, HAl.out _ _ v1, HAl.out _ _ v2, HAl.out _ _ v3, HAl.out _ _ v4, HAl.out _ _ v5⟩) ?_
                  clear hK
                  refine TailI.con8 rfl (fun K hK => ?_)
                  go_simp
                  refine hK.out _ _ (fun h => absurd h (by omega)) ?_
                  clear hK
                  rw [TailI]
                  refine NoPanic.normal ?_
                  obtain ⟨V3, hV3⟩ : ∃ V3, (V.alloc (.cells #[.bool t, .int .i64 v] 52)).drew = V3 := ⟨_, rfl⟩
                  have hbV : Below V.heap.size V V3 := by rw [← hV3]; exact ((Below.refl _ _).alloc (Nat.le_refl _) _).drew
                  have x0 : V3.cell? ⟨V.heap.size, 0, none⟩ = some (.bool t) := by rw [← hV3]; simp [go_sem]
                  have x1 : V3.cell? ⟨V.heap.size, 1, none⟩ = some (.int .i64 v) := by rw [← hV3]; simp [go_sem]
                  have v0' := (hbV.cell (World.block_lt_of_cell? _ _ v0)).trans v0
                  have v1' := (hbV.cell (World.block_lt_of_cell? _ _ v1)).trans v1
                  have v6' := (hbV.cell (World.block_lt_of_cell? _ _ v6)).trans v6
                  have HBW : Hid (Below w.heap.size w V3) := HBV.out.trans (hbV.mono HBV.out.size)
                  rw [hV3]
                  clear hV3 hbV v0 v1 v2 v3 v4 v5 v6 HAl
                  cases t with
                  | true =>
                    go_wp2_with fail
                    go_big_quiet (fail)
                    go_wp2_with fail
                    go_ret
                    exact ⟨by rw [HSv.out]; rfl, below_drewN HBW.out _⟩
                  | false =>
                    by_cases hvL : v = L
                    · subst hvL
                      have e9 : (v != v) = false := by simp
                      have HSw : Hid (stepB N R ⟨3, (m : Int), (bn : Int), 0⟩ = false) := by show _ = false; rw [HSv.out]; simp
                      go_wp2_with fail
                      go_big_quiet (fail)
                      go_wp2_with fail
                      go_ret
                      exact ⟨by rw [HSw.out]; rfl, below_drewN HBW.out _⟩
                    · have e9 : (v != L) = true := by simpa using hvL
                      have HSw : Hid (stepB N R ⟨3, (m : Int), (bn : Int), 0⟩ = true) := by show _ = true; rw [HSv.out]; simp [hvL]
                      go_wp2_with fail
                      go_big_quiet (fail)
                      go_wp2_with fail
                      go_ret
                      exact ⟨by rw [HSw.out]; rfl, below_drewN HBW.out _⟩
                · have p3d : (c != 0) = true := by simpa using p3
                  have HS : Hid (stepB N R ⟨3, (m : Int), b, c⟩ = false) := by show stepB N R ⟨3, (m : Int), b, c⟩ = false; rw [HSt.out]; simp [p1, p2, p3]
                  go_wp2_with fail
                  go_big_quiet (fail)
                  go_wp2_with fail
                  go_ret
                  exact ⟨by rw [HS.out]; rfl, below_drewN HB.out _⟩
              · have p2d : decide ((n : Int) ≤ b) = true := decide_eq_true (by omega)
                have HS : Hid (stepB N R ⟨3, (m : Int), b, c⟩ = false) := by show stepB N R ⟨3, (m : Int), b, c⟩ = false; rw [HSt.out]; simp [p1, p2]
                go_wp2_with fail
                go_big_quiet (fail)
                go_wp2_with fail
                go_ret
                exact ⟨by rw [HS.out]; rfl, below_drewN HB.out _⟩
            · have p1d : decide (b < 0) = true := decide_eq_true (by omega)
              have HS : Hid (stepB N R ⟨3, (m : Int), b, c⟩ = false) := by show stepB N R ⟨3, (m : Int), b, c⟩ = false; rw [HSt.out]; simp [p1]
              go_wp2_with fail
              go_big_quiet (fail)
              go_wp2_with fail
              go_ret
              exact ⟨by rw [HS.out]; rfl, below_drewN HB.out _⟩
        · have e3 : (op == 3) = false := by simpa using h3
          by_cases h4 : op = 4
          · subst h4
            have lf := left8_any (T := T) (N := N) (a := a) HR2.out hR
            obtain ⟨z, hz⟩ : ∃ z, leftB R a = z := ⟨_, rfl⟩
            have HZ : Hid (leftB R a = z) := hz
            rw [hz] at lf
            clear hz
            by_cases p1 : b = 0
            · have p1d : (b == 0) = true := by simpa using p1
              by_cases p2 : c = 0
              · have p2d : (c == 0) = true := by simpa using p2
                have HS : Hid (stepB N R ⟨4, a, b, c⟩ = z) := by show stepB N R ⟨4, a, b, c⟩ = z; unfold stepB; simp [p1, p2, HZ.out]
                clear p1 p2
                go_wp2_with (go_at_call 15; refine lf.mono ?_; rintro e w1 ⟨rfl, hB1⟩)
                go_ret
                exact ⟨by rw [HS.out]; rfl, HB.out.trans (hB1.mono HB.out.size)⟩
              · have p2d : (c == 0) = false := by simpa using p2
                have HS : Hid (stepB N R ⟨4, a, b, c⟩ = false) := by show stepB N R ⟨4, a, b, c⟩ = false; unfold stepB; simp [p1, p2]
                clear p1 p2
                go_wp2_with fail
                go_ret
                exact ⟨by rw [HS.out]; rfl, HB.out⟩
            · have p1d : (b == 0) = false := by simpa using p1
              have HS : Hid (stepB N R ⟨4, a, b, c⟩ = false) := by show stepB N R ⟨4, a, b, c⟩ = false; unfold stepB; simp [p1]
              clear p1
              go_wp2_with fail
              go_ret
              exact ⟨by rw [HS.out]; rfl, HB.out⟩
          · have e4 : (op == 4) = false := by simpa using h4
            by_cases h5 : op = 5
            · subst h5
              by_cases p1 : a = 0
              · have p1d : (a == 0) = true := by simpa using p1
                by_cases p2 : b = 0
                · have p2d : (b == 0) = true := by simpa using p2
                  by_cases p3 : c = 0
                  · have p3d : (c == 0) = true := by simpa using p3
                    have HS : Hid (stepB N R ⟨5, a, b, c⟩ = true) := by show stepB N R ⟨5, a, b, c⟩ = true; unfold stepB; simp [p1, p2, p3]
                    clear p1 p2 p3
                    go_wp2_with fail
                    go_ret
                    exact ⟨by rw [HS.out]; rfl, HB.out⟩
                  · have p3d : (c == 0) = false := by simpa using p3
                    have HS : Hid (stepB N R ⟨5, a, b, c⟩ = false) := by show stepB N R ⟨5, a, b, c⟩ = false; unfold stepB; simp [p1, p2, p3]
                    clear p1 p2 p3
                    go_wp2_with fail
                    go_ret
                    exact ⟨by rw [HS.out]; rfl, HB.out⟩
                · have p2d : (b == 0) = false := by simpa using p2
                  have HS : Hid (stepB N R ⟨5, a, b, c⟩ = false) := by show stepB N R ⟨5, a, b, c⟩ = false; unfold stepB; simp [p1, p2]
                  clear p1 p2
                  go_wp2_with fail
                  go_ret
                  exact ⟨by rw [HS.out]; rfl, HB.out⟩
              · have p1d : (a == 0) = false := by simpa using p1
                have HS : Hid (stepB N R ⟨5, a, b, c⟩ = false) := by show stepB N R ⟨5, a, b, c⟩ = false; unfold stepB; simp [p1]
                clear p1
                go_wp2_with fail
                go_ret
                exact ⟨by rw [HS.out]; rfl, HB.out⟩
            · have e5 : (op == 5) = false := by simpa using h5
              have HS : Hid (stepB N R ⟨op, a, b, c⟩ = false) := by show stepB N R ⟨op, a, b, c⟩ = false; unfold stepB; simp [h1, h2, h3, h4, h5]
              go_wp2_with fail
              go_ret
              exact ⟨by rw [HS.out]; rfl, HB.out⟩

end Go.Proofs.Ytikjekfpgklbdaa

/- What pollardingref8.one holds while it makes rules. No walk. -/
namespace Go.Proofs.Ytikjekfpgklbdaa
open Go.RowKit

def ruV (x : Value × Ru) : List Value := [.int .i64 x.2.1, x.1]
def flatR (RL : List (Value × Ru)) : List Value := RL.flatMap ruV
theorem flatR_len (RL : List (Value × Ru)) : (flatR RL).length = RL.length * 2 := by
  unfold flatR
  induction RL with
  | nil => rfl
  | cons a L ih => rw [List.flatMap_cons, List.length_append, ih]; simp [ruV]; omega
theorem flatR_get {RL : List (Value × Ru)} {i j : Nat} (hi : i < RL.length) (hj : j < 2) : (flatR RL)[i * 2 + j]? = (ruV (RL.getD i (.slice none 0 0, (0, []))))[j]? := by
  unfold flatR
  induction RL generalizing i with
  | nil => simp at hi
  | cons a L ih =>
    rw [List.flatMap_cons]
    cases i with
    | zero => rw [List.getElem?_append_left (by simp [ruV]; omega)]; simp
    | succ i =>
      rw [List.getElem?_append_right (by simp [ruV]; omega)]
      simp only [ruV, List.length_cons, List.length_nil]
      rw [show (i + 1) * 2 + j - (0 + 1 + 1) = i * 2 + j by omega]
      have := ih (i := i) (by simpa using hi)
      simpa [List.getD, ruV] using this
theorem flatR_append (A C : List (Value × Ru)) : flatR (A ++ C) = flatR A ++ flatR C := by simp [flatR]

/-- Rules that a call has made: in a row of its own, their symbols elsewhere. -/
structure RlIn (w : World) (B : Nat) (lv : Value) (RL : List (Value × Ru)) : Prop where
  own : w.ownsRow B 44 2 lv RL.length (flatR RL)
  sym : ∀ x ∈ RL, SyHas w (fun b => B ≤ b ∧ lv.ownBlock ≠ some b) x.1 x.2.2

section
variable {w w' : World} {B : Nat} {lv : Value} {RL : List (Value × Ru)}
theorem RlIn.below (h : RlIn w B lv RL) (hb : Below w.heap.size w w') : RlIn w' B lv RL := ⟨own_below h.own hb fun g hg => (h.own.lt g hg).2, fun x hx => (h.sym x hx).below hb⟩
theorem RlIn.mono {B' : Nat} (h : RlIn w B lv RL) (hB : B' ≤ B) : RlIn w B' lv RL := ⟨own_mono h.own hB, fun x hx => (h.sym x hx).kept (Nat.le_refl _) fun b hA _ => ⟨rfl, by have := hA.1; omega, hA.2⟩⟩
theorem rlIn_nil (w : World) (B : Nat) : RlIn w B (.slice none 0 0) [] := ⟨World.ownsRow_nil _ _ _ _, fun x hx => by cases hx⟩
theorem flatR_one (h : ∀ x ∈ RL, ∃ a n c, x.1 = .slice a n c) : ∀ u ∈ flatR RL, u.oneCell' = true := fun u hu => by
  unfold flatR at hu
  obtain ⟨x, hx, hu⟩ := List.mem_flatMap.1 hu
  obtain ⟨a, n, c, e⟩ := h x hx
  simp only [ruV, List.mem_cons, List.not_mem_nil, or_false] at hu
  rcases hu with rfl | rfl
  · rfl
  · rw [e]; rfl
theorem RlIn.slices (h : RlIn w B lv RL) : ∀ x ∈ RL, ∃ a n c, x.1 = .slice a n c := fun x hx => let ⟨a, c, e, _⟩ := (h.sym x hx).1; ⟨a, _, c, e⟩

/-- They can be read. -/
theorem RlIn.rules (h : RlIn w B lv RL) : RulesAt w w.heap.size lv (RL.map fun x => x.2) := by
  obtain ⟨a, c, hv⟩ := own_form h.own
  refine ⟨⟨a, c, by rw [hv, List.length_map]⟩, fun q hq => ?_⟩
  have hq' : q < RL.length := by simpa using hq
  obtain ⟨g, cap, hg, _, hlt⟩ := h.own.form (by omega)
  have ho := h.own
  rw [hg] at ho
  have e : (RL.map fun x => x.2).getD q (0, []) = (RL.getD q (.slice none 0 0, (0, []))).2 := by simp [List.getD, hq']
  have hx : RL.getD q (.slice none 0 0, (0, [])) ∈ RL := by simp [List.getD, hq']
  obtain ⟨⟨qa, qc, hqv, hqc⟩, hsy⟩ := h.sym _ hx
  have c0 := (ho.cellAt (q * 2) (by omega)).trans (flatR_get (j := 0) hq' (by omega))
  have c1 := (ho.cellAt (q * 2 + 1) (by omega)).trans (flatR_get (j := 1) hq' (by omega))
  simp only [ruV, List.getElem?_cons_zero, List.getElem?_cons_succ] at c0 c1
  rw [hqv] at c1
  refine ⟨g, 0, cap, qa, qc, by rw [hg, List.length_map], hlt, by rw [e, Nat.zero_add]; exact c0, by rw [e, Nat.zero_add]; exact c1, by rw [e]; exact hqc, fun j hj => ?_⟩
  rw [e] at hj ⊢
  obtain ⟨b, o, c', h1, _, h3, h4, h5⟩ := hsy j hj
  rw [hqv] at h1
  cases h1
  exact ⟨b, o, rfl, h3, h4, by rw [← Nat.add_assoc]; exact h5⟩
end

/-- What one holds: the grammar's box, the step's, the rule's, the rule's symbols. -/
structure O8 (w : World) (T N : Nat) (ra : Option Addr) (rc : Nat) (R : List Ru) (s : Stp) (rb g d : Nat) (L : Int) (l : List Sy) (wq : World) : Prop where
  g0 : wq.cell? ⟨w.heap.size, 0, none⟩ = some (.int .i64 T)
  g1 : wq.cell? ⟨w.heap.size, 1, none⟩ = some (.int .i64 N)
  g2 : wq.cell? ⟨w.heap.size, 2, none⟩ = some (.slice ra R.length rc)
  s0 : wq.cell? ⟨w.heap.size + 1, 0, none⟩ = some (.int .i64 s.op)
  s1 : wq.cell? ⟨w.heap.size + 1, 1, none⟩ = some (.int .i64 s.a)
  s2 : wq.cell? ⟨w.heap.size + 1, 2, none⟩ = some (.int .i64 s.b)
  s3 : wq.cell? ⟨w.heap.size + 1, 3, none⟩ = some (.int .i64 s.c)
  r0 : wq.cell? ⟨rb, 0, none⟩ = some (.int .i64 L)
  r1 : wq.cell? ⟨rb, 1, none⟩ = some (.slice (some ⟨g, 0, none⟩) l.length d)
  rf : ∀ o, wq.frozen? ⟨rb, o, none⟩ = false
  own : wq.ownsRow (w.heap.size + 2) 52 2 (.slice (some ⟨g, 0, none⟩) l.length d) l.length (flatY l)
  ne : g ≠ rb
  rlo : w.heap.size + 2 ≤ rb
  rules : RulesAt wq w.heap.size (.slice ra R.length rc) R
  below : Below w.heap.size w wq

section
variable {w wq w' : World} {T N : Nat} {ra : Option Addr} {rc : Nat} {R : List Ru} {s : Stp} {rb g d : Nat} {L : Int} {l : List Sy}
theorem O8.lt (h : O8 w T N ra rc R s rb g d L l wq) : rb < wq.heap.size := World.block_lt_of_cell? _ _ h.r0
theorem O8.glt (h : O8 w T N ra rc R s rb g d L l wq) : w.heap.size + 2 ≤ g ∧ g < wq.heap.size := h.own.lt g rfl
theorem O8.later (h : O8 w T N ra rc R s rb g d L l wq) (hb : Below wq.heap.size wq w') : O8 w T N ra rc R s rb g d L l w' := by
  have hlt := h.lt
  have hlo := h.rlo
  exact ⟨(hb.cell (by simp only; omega)).trans h.g0, (hb.cell (by simp only; omega)).trans h.g1, (hb.cell (by simp only; omega)).trans h.g2, (hb.cell (by simp only; omega)).trans h.s0, (hb.cell (by simp only; omega)).trans h.s1, (hb.cell (by simp only; omega)).trans h.s2, (hb.cell (by simp only; omega)).trans h.s3,
    (hb.cell (by simp only; omega)).trans h.r0, (hb.cell (by simp only; omega)).trans h.r1, fun o => (hb.frozen (by simp only; omega)).trans (h.rf o), own_below h.own hb fun g hg => (h.own.lt g hg).2, h.ne, h.rlo, h.rules.below (hb.mono (by omega)), h.below.trans (hb.mono (by omega))⟩
theorem O8.syms (h : O8 w T N ra rc R s rb g d L l wq) : SymsAt wq (.slice (some ⟨g, 0, none⟩) l.length d) l := (own_syIn h.own).syms
/-- The rule's Left turns. -/
theorem O8.setL (h : O8 w T N ra rc R s rb g d L l wq) (L' : Int) : O8 w T N ra rc R s rb g d L' l (wq.setCell ⟨rb, 0, none⟩ (.int .i64 L')) := by
  have hlo := h.rlo
  refine ⟨?_, ?_, ?_, ?_, ?_, ?_, ?_, World.cell?_setCell_same _ _ _ h.r0, ?_, fun o => (World.frozen?_setCell _ _ _ _).trans (h.rf o), ?_, h.ne, h.rlo, h.rules.below ((Below.refl _ _).setCell (by simp only; omega) _), h.below.setCell (by simp only; omega) _⟩
  · rw [cell_set_other (.inl (by simp only; omega))]; exact h.g0
  · rw [cell_set_other (.inl (by simp only; omega))]; exact h.g1
  · rw [cell_set_other (.inl (by simp only; omega))]; exact h.g2
  · rw [cell_set_other (.inl (by simp only; omega))]; exact h.s0
  · rw [cell_set_other (.inl (by simp only; omega))]; exact h.s1
  · rw [cell_set_other (.inl (by simp only; omega))]; exact h.s2
  · rw [cell_set_other (.inl (by simp only; omega))]; exact h.s3
  · rw [cell_set_other (.inr (by simp))]; exact h.r1
  · obtain ⟨h1, ⟨hx, _⟩ | ⟨g', c', cur, e, h2, h3, h4⟩⟩ := h.own
    · cases hx
    · refine ⟨h1, .inr ⟨g', c', cur, e, h2, ?_, h4⟩⟩
      injection e with e1
      injection e1 with e1
      injection e1 with e1
      subst e1
      rw [Below.heap_setCell _ _ _ _ (fun e => h.ne (by simpa using e))]
      exact h3
/-- The one rule is answered. -/
theorem O8.out (h : O8 w T N ra rc R s rb g d L l wq) : RlIn (wq.alloc (.cells #[.int .i64 L, .slice (some ⟨g, 0, none⟩) l.length d] 44)) w.heap.size (.slice (some ⟨wq.heap.size, 0, none⟩) 1 1) [(.slice (some ⟨g, 0, none⟩) l.length d, (L, l))] ∧ Below w.heap.size w (wq.alloc (.cells #[.int .i64 L, .slice (some ⟨g, 0, none⟩) l.length d] 44)) := by
  have hB := h.below.alloc h.below.size (.cells #[.int .i64 L, .slice (some ⟨g, 0, none⟩) l.length d] 44)
  refine ⟨⟨?_, fun x hx => ?_⟩, hB⟩
  · have := World.ownsRow_lit (base := w.heap.size) (e := 44) (size := 2) wq #[.int .i64 L, .slice (some ⟨g, 0, none⟩) l.length d] 1 h.below.size (by unfold maxLen; omega) rfl
    exact this
  · simp only [List.mem_singleton] at hx
    subst hx
    have := (own_syIn h.own).below ((Below.refl _ _).alloc (Nat.le_refl _) (.cells #[.int .i64 L, .slice (some ⟨g, 0, none⟩) l.length d] 44))
    refine this.kept (Nat.le_refl _) fun b hA _ => ⟨rfl, by have := hA.2; omega, fun e => ?_⟩
    simp only [Value.ownBlock, Option.some.injEq] at hA e
    have := h.glt
    omega
/-- The rule's Right turns: symbols that are new. -/
theorem O8.setR (h : O8 w T N ra rc R s rb g d L l wq) {w5 : World} {L' : Int} {l' : List Sy} {g3 d3 : Nat} {u : Value} (hs : wq.heap.size ≤ w5.heap.size) (hb : ∀ k, k < wq.heap.size → k ≠ rb → w5.heap[k]? = wq.heap[k]?) (hB : Below w.heap.size w w5) (h0 : w5.cell? ⟨rb, 0, none⟩ = some (.int .i64 L')) (h1 : w5.cell? ⟨rb, 1, none⟩ = some u) (hf : ∀ o, w5.frozen? ⟨rb, o, none⟩ = false)
    {B : Nat} (ho : w5.ownsRow B 52 2 (.slice (some ⟨g3, 0, none⟩) l'.length d3) l'.length (flatY l')) (hg : wq.heap.size ≤ g3) : O8 w T N ra rc R s rb g3 d3 L' l' (w5.setCell ⟨rb, 1, none⟩ (.slice (some ⟨g3, 0, none⟩) l'.length d3)) := by
  have hlo := h.rlo
  have hlt := h.lt
  have keep : ∀ b o v, b < w.heap.size + 2 → wq.cell? ⟨b, o, none⟩ = some v → (w5.setCell ⟨rb, 1, none⟩ (.slice (some ⟨g3, 0, none⟩) l'.length d3)).cell? ⟨b, o, none⟩ = some v := fun b o v hbl hv => by
    rw [cell_set_other (.inl (by simp only; omega)), World.cell?_of_block (w := wq) (a := ⟨b, o, none⟩) (hb b (by omega) (by omega))]
    exact hv
  refine ⟨keep _ _ _ (by omega) h.g0, keep _ _ _ (by omega) h.g1, keep _ _ _ (by omega) h.g2, keep _ _ _ (by omega) h.s0, keep _ _ _ (by omega) h.s1, keep _ _ _ (by omega) h.s2, keep _ _ _ (by omega) h.s3, ?_, World.cell?_setCell_same _ _ _ h1, fun o => (World.frozen?_setCell _ _ _ _).trans (hf o), ?_, by omega, h.rlo, ?_, hB.setCell (by simp only; omega) _⟩
  · rw [cell_set_other (.inr (by simp))]; exact h0
  · obtain ⟨z1, ⟨hx, _⟩ | ⟨g', c', cur, e, z2, z3, z4⟩⟩ := ho
    · cases hx
    · refine ⟨z1, .inr ⟨g', c', cur, e, ?_, ?_, z4⟩⟩
      · injection e with e1
        injection e1 with e1
        injection e1 with e1
        omega
      · injection e with e1
        injection e1 with e1
        injection e1 with e1
        subst e1
        rw [Below.heap_setCell _ _ _ _ (by simp only; omega)]
        exact z3
  · have hB2 : Below w.heap.size wq (w5.setCell ⟨rb, 1, none⟩ (.slice (some ⟨g3, 0, none⟩) l'.length d3)) := by
      have h8 := hB.setCell (p := ⟨rb, 1, none⟩) (by simp only; omega) (.slice (some ⟨g3, 0, none⟩) l'.length d3)
      exact ⟨h8.os.trans h.below.os.symm, h8.tape.trans h.below.tape.symm, h8.output.trans h.below.output.symm, by simpa using hs, fun k hk => (h8.block k hk).trans (h.below.block k hk).symm⟩
    exact h.rules.below hB2
end

end Go.Proofs.Ytikjekfpgklbdaa
