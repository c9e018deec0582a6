import Derived.Test.YtbpbhlmbcegmoaaHeldSeqAndConcR
import Derived.Deep.DeepCutAuto
import Derived.Test.YtbpbhlmbcegmoaaStTakenAndStDo
import Derived.Test.YtbpbhlmbcegmoaaDo8B
import Derived.Test.YtbpbhlmbcegmoaaRows
import Derived.Test.YtbpbhlmbcegmoaaMathAndMayFine
import Derived.ProofKit
import Derived.Deep.SlicePairs
/- The contract of pollardingref8.Same, where both sides are one. -/
namespace Go.Proofs.Ytbpbhlmbcegmoaa
open Go.RowKit

theorem same_al8 (w : World) (o' : Obj) : ∀ b o, b < w.heap.size → (w.alloc o').cell? ⟨b, o, none⟩ = w.cell? ⟨b, o, none⟩ := fun _ _ hb => World.cell?_alloc_past _ _ _ hb

set_option maxRecDepth 100000 in
set_option maxHeartbeats 3200000 in
theorem same8_eq {w : World} {T N : Int} {rv1 rv2 : Value} {R : List Ru} (h1 : RulesAt w w.heap.size rv1 R) (h2 : RulesAt w w.heap.size rv2 R) (hR : R.length ≤ 1000) (hl : ∀ i, i < R.length → (R.getD i (0, [])).2.length ≤ 1000) :
    Calls Try.prog 6 #[.agg #[.int .i64 T, .int .i64 N, rv1], .agg #[.int .i64 T, .int .i64 N, rv2]] w fun e w' => e = .returned (.bool true) ∧ Below w.heap.size w w' := by
  obtain ⟨ra1, rc1, hv1⟩ := h1.1
  obtain ⟨ra2, rc2, hv2⟩ := h2.1
  subst hv1
  subst hv2
  obtain ⟨W1, hW1⟩ : ∃ W, (w.alloc (.cells #[.int .i64 T, .int .i64 N, .slice ra1 R.length rc1] 24)).alloc (.cells #[.int .i64 T, .int .i64 N, .slice ra2 R.length rc2] 24) = W := ⟨_, rfl⟩
  have HBX : Hid (∀ wr, Below W1.heap.size W1 wr → (wr.cell? ⟨w.heap.size, 0, none⟩ = some (.int .i64 T) ∧ wr.cell? ⟨w.heap.size, 1, none⟩ = some (.int .i64 N) ∧ wr.cell? ⟨w.heap.size, 2, none⟩ = some (.slice ra1 R.length rc1) ∧ wr.cell? ⟨w.heap.size + 1, 0, none⟩ = some (.int .i64 T) ∧ wr.cell? ⟨w.heap.size + 1, 1, none⟩ = some (.int .i64 N) ∧ wr.cell? ⟨w.heap.size + 1, 2, none⟩ = some (.slice ra2 R.length rc2)) ∧ RulesAt wr w.heap.size (.slice ra1 R.length rc1) R ∧ RulesAt wr w.heap.size (.slice ra2 R.length rc2) R ∧ Below w.heap.size w wr) := fun wr hq => by
    have hB0 : Below w.heap.size w W1 := by rw [← hW1]; exact ((Below.refl _ _).alloc (Nat.le_refl _) _).alloc (by simp) _
    have hB : Below w.heap.size w wr := hB0.trans (hq.mono hB0.size)
    have hs : W1.heap.size = w.heap.size + 2 := by rw [← hW1]; simp
    rw [hs] at hq
    refine ⟨⟨?_, ?_, ?_, ?_, ?_, ?_⟩, h1.below hB, h2.below hB, hB⟩
    all_goals refine (hq.cell (by simp only; omega)).trans ?_
    all_goals rw [← hW1]
    all_goals simp [go_sem]
  have HL : Hid (∀ i, i < R.length → (R.getD i (0, [])).2.length ≤ 1000) := hl
  obtain ⟨⟨g0, g1, g2, g3, g4, g5⟩, _⟩ := HBX.out W1 (Below.refl _ _)
  have e0 : (T != T) = false := by simp
  have e1 : (N != N) = false := by simp
  have e2 : ((R.length : Int) != (R.length : Int)) = false := by simp
  clear h1 h2 hl
  go_enter Try.func6, Try.ntmps6
  go_upto_region 1 with fail
  clear hW1
  go_wp2_with fail
  clear g0 g1 g2 g3 g4 g5 e0 e1 e2
  go_loopw [5] (fun s5 wr => ∃ i : Nat, s5 = .int .i64 i ∧ i ≤ R.length ∧ Below W1.heap.size W1 wr) (fun s _ => R.length - (intOf s).toNat)
  case atStart => exact ⟨0, rfl, Nat.zero_le _, Below.refl _ _⟩
  case round =>
    obtain ⟨i, rfl, hi, hB⟩ := hrel
    have HB : Hid (Below W1.heap.size W1 wr) := hB
    obtain ⟨⟨_, _, g2, _, _, g5⟩, hr1, hr2, hBw⟩ := HBX.out wr hB
    have HBw : Hid (Below w.heap.size w wr) := hBw
    by_cases hlt : i < R.length
    · obtain ⟨b1, o1, q1, qa1, qc1, hv1, _, k1, k2, hy1⟩ := hr1.syms hlt
      obtain ⟨b2, o2, q2, qa2, qc2, hv2, _, k3, k4, hy2⟩ := hr2.syms hlt
      cases hv1
      cases hv2
      have hln := HL.out i hlt
      obtain ⟨⟨L, l⟩, hrule⟩ : ∃ x, R.getD i (0, []) = x := ⟨_, rfl⟩
      rw [hrule] at k1 k2 k3 k4 hy1 hy2 hln
      simp only at k1 k2 k3 k4 hy1 hy2 hln
      obtain ⟨n, hn⟩ : ∃ n, l.length = n := ⟨_, rfl⟩
      rw [hn] at k2 k4 hy1 hy2 hln
      have HN : Hid (l.length = n) := hn
      have i0 : (0 : Int) ≤ (i : Int) := Int.natCast_nonneg _
      have i1 : (i : Int) < (R.length : Int) := by omega
      have e3 : (L != L) = false := by simp
      have e4 : ((n : Int) != (n : Int)) = false := by simp
      have c5 := (same_al8 wr (.cells #[.int .i64 L, .slice qa1 n qc1] 41) _ _ (World.block_lt_of_cell? _ _ g5)).trans g5
      have c3 := (same_al8 wr (.cells #[.int .i64 L, .slice qa1 n qc1] 41) _ _ (World.block_lt_of_cell? _ _ k3)).trans k3
      have c4 := (same_al8 wr (.cells #[.int .i64 L, .slice qa1 n qc1] 41) _ _ (World.block_lt_of_cell? _ _ k4)).trans k4
      have hBA : Below wr.heap.size wr ((wr.alloc (.cells #[.int .i64 L, .slice qa1 n qc1] 41)).alloc (.cells #[.int .i64 L, .slice qa2 n qc2] 41)) := ((Below.refl _ _).alloc (Nat.le_refl _) _).alloc (by simp) _
      have hz : ∃ W3, (wr.alloc (.cells #[.int .i64 L, .slice qa1 n qc1] 41)).alloc (.cells #[.int .i64 L, .slice qa2 n qc2] 41) = W3 := ⟨_, rfl⟩
      have HZ : Hid (∃ W3, (wr.alloc (.cells #[.int .i64 L, .slice qa1 n qc1] 41)).alloc (.cells #[.int .i64 L, .slice qa2 n qc2] 41) = W3 ∧ ∀ wq, Below W3.heap.size W3 wq → wq.cell? ⟨wr.heap.size, 0, none⟩ = some (.int .i64 L) ∧ wq.cell? ⟨wr.heap.size, 1, none⟩ = some (.slice qa1 n qc1) ∧ wq.cell? ⟨wr.heap.size + 1, 0, none⟩ = some (.int .i64 L) ∧ wq.cell? ⟨wr.heap.size + 1, 1, none⟩ = some (.slice qa2 n qc2) ∧ SymsAt wq (.slice qa1 n qc1) l ∧ SymsAt wq (.slice qa2 n qc2) l ∧ Below W1.heap.size W1 wq) := by
        obtain ⟨W3, hW3⟩ := hz
        have hs : W3.heap.size = wr.heap.size + 2 := by rw [← hW3]; simp
        rw [hW3] at hBA
        refine ⟨W3, hW3, fun wq hq => ⟨?_, ?_, ?_, ?_, hy1.same (same_below (hBA.trans (hq.mono (by omega)))), hy2.same (same_below (hBA.trans (hq.mono (by omega)))), hB.trans ((hBA.trans (hq.mono (by omega))).mono hB.size)⟩⟩
        all_goals refine (hq.cell (by simp only; omega)).trans ?_
        all_goals rw [← hW3]
        all_goals simp [go_sem]
      clear hB hBw hr1 hr2 hy1 hy2 hrule hn hBA hz
      go_upto_region 8 with fail
      obtain ⟨W3, hW3, hF⟩ := HZ.out
      have HF : Hid (∀ wq, Below W3.heap.size W3 wq → wq.cell? ⟨wr.heap.size, 0, none⟩ = some (.int .i64 L) ∧ wq.cell? ⟨wr.heap.size, 1, none⟩ = some (.slice qa1 n qc1) ∧ wq.cell? ⟨wr.heap.size + 1, 0, none⟩ = some (.int .i64 L) ∧ wq.cell? ⟨wr.heap.size + 1, 1, none⟩ = some (.slice qa2 n qc2) ∧ SymsAt wq (.slice qa1 n qc1) l ∧ SymsAt wq (.slice qa2 n qc2) l ∧ Below W1.heap.size W1 wq) := hF
      rw [hW3]
      obtain ⟨y0, y1, y2, y3, _⟩ := hF W3 (Below.refl _ _)
      clear hW3 hF HZ g2 g5 k1 k2 k3 k4 c3 c4 c5
      go_wp2_with fail
      clear y0 y1 y2 y3 e3 e4
      obtain ⟨xb, hxb⟩ : ∃ x, wr.heap.size = x := ⟨_, rfl⟩
      rw [hxb] at HF ⊢
      clear hxb HBw HB
      go_loopw [8] (fun s8 wq => ∃ k : Nat, s8 = .int .i64 k ∧ k ≤ n ∧ Below W3.heap.size W3 wq) (fun s _ => n - (intOf s).toNat)
      case atStart => exact ⟨0, rfl, Nat.zero_le _, Below.refl _ _⟩
      case round =>
        obtain ⟨k, rfl, hk, hB⟩ := hrel
        have HB : Hid (Below W3.heap.size W3 wr) := hB
        obtain ⟨_, y1, _, y3, hy1, hy2, hBq⟩ := HF.out wr hB
        have HBq : Hid (Below W1.heap.size W1 wr) := hBq
        by_cases hklt : k < n
        · obtain ⟨p1, t1, d1, hw1, a1, a2⟩ := hy1.2 k (by rw [HN.out]; exact hklt)
          obtain ⟨p2, t2, d2, hw2, a3, a4⟩ := hy2.2 k (by rw [HN.out]; exact hklt)
          rw [HN.out] at hw1 hw2
          cases hw1
          cases hw2
          obtain ⟨⟨xt, xn⟩, hx⟩ : ∃ x, l.getD k (false, 0) = x := ⟨_, rfl⟩
          rw [hx] at a1 a2 a3 a4
          simp only at a1 a2 a3 a4
          have k0 : (0 : Int) ≤ (k : Int) := Int.natCast_nonneg _
          have k1 : (k : Int) < (n : Int) := by omega
          have e5 : (xt != xt) = false := by simp
          have e6 : (xn != xn) = false := by simp
          have e7 : (xt == xt) = true := by simp
          have e8 : (xn == xn) = true := by simp
          clear hx hB hBq hy1 hy2
          go_wp2_with fail
          go_big_quiet (fail)
          go_wp2_with fail
          go_roundw
          case rel => exact ⟨k + 1, by go_num, by omega, below_drewN HB.out _⟩
          case measure => simp [intOf]; omega
        · clear hB hBq hy1 hy2
          go_wp2_with fail
          go_roundw
          case rel => exact ⟨i + 1, by go_num, by omega, HBq.out⟩
          case measure => simp [intOf]; omega
    · clear hB hBw hr1 hr2
      go_wp2_with fail
      go_ret
      exact ⟨rfl, HBw.out⟩

end Go.Proofs.Ytbpbhlmbcegmoaa

/- The law pollardinglaw.StepTells: it returns true. -/
namespace Go.Proofs.Ytbpbhlmbcegmoaa
open Go.RowKit

/-- The reference answers the same. -/
theorem ref_Do {w : World} {T N : Int} {ra : Option Addr} {rc : Nat} {R : List Ru} (hr : RulesAt w w.heap.size (.slice ra R.length rc) R) (s : Stp) :
    Calls Try.prog 5 #[.agg #[.int .i64 T, .int .i64 N, .slice ra R.length rc], .agg #[.int .i64 s.op, .int .i64 s.a, .int .i64 s.b, .int .i64 s.c]] w fun e w' => ∃ lv, e = .returned (.tuple #[.agg #[.int .i64 (verd T N R s).1, .int .i64 (verd T N R s).2.1, lv], .int .i64 (verd T N R s).2.2.1]) ∧ RulesAt w' w'.heap.size lv (verd T N R s).2.2.2 ∧ Below w.heap.size w w' := by
  have nil : ∀ w' : World, RulesAt w' w'.heap.size (.slice none 0 0) [] := fun w' => ⟨⟨none, 0, rfl⟩, fun _ h => absurd h (Nat.not_lt_zero _)⟩
  cases hm : mayB T N R with
  | false =>
    have e : verd T N R s = (0, 0, 2, []) := by unfold verd; rw [hm]; rfl
    rw [e]
    refine (do8_no1 hr hm s).mono ?_
    rintro e w' ⟨rfl, hB⟩
    exact ⟨_, rfl, nil _, hB⟩
  | true =>
    obtain ⟨t, n, rfl, rfl⟩ := may_natural hm
    cases hs : stepB n R s with
    | false =>
      have e : verd t n R s = (0, 0, 2, []) := by unfold verd; rw [hm, hs]; rfl
      rw [e]
      refine (do8_no2 hr hm (by have := (may_fine hm).2.2.2.1; omega) hs).mono ?_
      rintro e w' ⟨rfl, hB⟩
      exact ⟨_, rfl, nil _, hB⟩
    | true =>
      refine (do8_yes hr hm hs).mono ?_
      rintro e w' ⟨⟨hz, ov, rfl, hR⟩ | ⟨hz, rfl⟩, hB⟩
      · have e : verd t n R s = ((t : Int), ((doN n s : Nat) : Int), 0, doR n R s) := by unfold verd; rw [hm, hs, Int.toNat_natCast, hz]; rfl
        rw [e]
        exact ⟨ov, rfl, hR, hB⟩
      · have e : verd t n R s = (0, 0, 1, []) := by unfold verd; rw [hm, hs, Int.toNat_natCast, hz]; rfl
        rw [e]
        exact ⟨_, rfl, nil _, hB⟩

theorem verd_small {T N : Int} {R : List Ru} {s : Stp} : (verd T N R s).2.2.2.length ≤ 1000 ∧ ∀ i, i < (verd T N R s).2.2.2.length → ((verd T N R s).2.2.2.getD i (0, [])).2.length ≤ 1000 := by
  unfold verd
  split
  · split
    · rename_i hm hz
      simp only [Bool.and_eq_true] at hm
      obtain ⟨t, n, rfl, rfl⟩ := may_natural hm.1
      obtain ⟨_, _, _, h4, h5⟩ := may_fine hz
      exact ⟨by simp only; omega, fun i hi => by have := (h5 i hi).2.2.1; simp only; omega⟩
    · exact ⟨by simp, fun i hi => absurd hi (by simp)⟩
  · exact ⟨by simp, fun i hi => absurd hi (by simp)⟩

set_option maxRecDepth 100000 in
set_option maxHeartbeats 3200000 in
theorem stepTells_any {w : World} {T N : Int} {rv : Value} {R : List Ru} (hr : RulesAt w w.heap.size rv R) (s : Stp) :
    Calls Try.prog 3 #[.agg #[.int .i64 T, .int .i64 N, rv], .agg #[.int .i64 s.op, .int .i64 s.a, .int .i64 s.b, .int .i64 s.c]] w fun e w' => e = .returned (.bool true) ∧ Below w.heap.size w w' := by
  obtain ⟨ra, rc, hrv⟩ := hr.1
  subst hrv
  obtain ⟨W0, hW0⟩ : ∃ W, (w.alloc (.cells #[.int .i64 T, .int .i64 N, .slice ra R.length rc] 24)).alloc (.cells #[.int .i64 s.op, .int .i64 s.a, .int .i64 s.b, .int .i64 s.c] 26) = W := ⟨_, rfl⟩
  have hB0 : Below w.heap.size w W0 := by rw [← hW0]; exact ((Below.refl _ _).alloc (Nat.le_refl _) _).alloc (by simp) _
  have HC : Hid (∀ wq, Below W0.heap.size W0 wq → wq.cell? ⟨w.heap.size, 0, none⟩ = some (.int .i64 T) ∧ wq.cell? ⟨w.heap.size, 1, none⟩ = some (.int .i64 N) ∧ wq.cell? ⟨w.heap.size, 2, none⟩ = some (.slice ra R.length rc) ∧ wq.cell? ⟨w.heap.size + 1, 0, none⟩ = some (.int .i64 s.op) ∧ wq.cell? ⟨w.heap.size + 1, 1, none⟩ = some (.int .i64 s.a) ∧ wq.cell? ⟨w.heap.size + 1, 2, none⟩ = some (.int .i64 s.b) ∧ wq.cell? ⟨w.heap.size + 1, 3, none⟩ = some (.int .i64 s.c) ∧ RulesAt wq wq.heap.size (.slice ra R.length rc) R ∧ Below w.heap.size w wq) := fun wq hq => by
    have keep : ∀ b o u, W0.cell? ⟨b, o, none⟩ = some u → wq.cell? ⟨b, o, none⟩ = some u := fun b o u hu => (hq.cell (World.block_lt_of_cell? _ _ hu)).trans hu
    have hB : Below w.heap.size w wq := hB0.trans (hq.mono hB0.size)
    refine ⟨keep _ _ _ ?_, keep _ _ _ ?_, keep _ _ _ ?_, keep _ _ _ ?_, keep _ _ _ ?_, keep _ _ _ ?_, keep _ _ _ ?_, (hr.below hB).mono hB.size, hB⟩ <;> (rw [← hW0]; simp [go_sem])
  obtain ⟨g0, g1, g2, s0, s1, s2, s3, hr0, _⟩ := HC.out W0 (Below.refl _ _)
  have d1 := st_Do (T := T) (N := N) hr0 s
  have HSm : Hid ((verd T N R s).2.2.2.length ≤ 1000 ∧ ∀ i, i < (verd T N R s).2.2.2.length → ((verd T N R s).2.2.2.getD i (0, [])).2.length ≤ 1000) := verd_small
  have HRef : Hid (∀ wq, Below W0.heap.size W0 wq → Calls Try.prog 5 #[.agg #[.int .i64 T, .int .i64 N, .slice ra R.length rc], .agg #[.int .i64 s.op, .int .i64 s.a, .int .i64 s.b, .int .i64 s.c]] wq fun e w' => ∃ lv, e = .returned (.tuple #[.agg #[.int .i64 (verd T N R s).1, .int .i64 (verd T N R s).2.1, lv], .int .i64 (verd T N R s).2.2.1]) ∧ RulesAt w' w'.heap.size lv (verd T N R s).2.2.2 ∧ Below wq.heap.size wq w') := fun wq hq => ref_Do (HC.out wq hq).2.2.2.2.2.2.2.1 s
  obtain ⟨⟨V, M, E, RR⟩, hV⟩ : ∃ x, verd T N R s = x := ⟨_, rfl⟩
  rw [hV] at d1 HRef HSm
  simp only at d1 HRef HSm
  have eE : (E == E) = true := by simp
  clear hr hV hB0 hr0
  go_enter Try.func3, Try.ntmps3
  go_wp2_with
    (first
     | (go_at_call 4; refine d1.mono ?_; rintro e w2 ⟨lv, RL, rfl, hR2, hmap, hB2⟩
        have hru := hR2.rules
        rw [hmap] at hru
        obtain ⟨la, lc, hlv⟩ := hru.1
        subst hlv
        have hB3 : Below W0.heap.size W0 (w2.alloc (.cells #[.int .i64 V, .int .i64 M, .slice la RR.length lc] 24)) := hB2.alloc hB2.size _
        obtain ⟨w3, hw3⟩ : ∃ W, w2.alloc (.cells #[.int .i64 V, .int .i64 M, .slice la RR.length lc] 24) = W := ⟨_, rfl⟩
        have hru3 := hru.boxed (.cells #[.int .i64 V, .int .i64 M, .slice la RR.length lc] 24)
        have hx3 := heap_alloc_new w2 (.cells #[.int .i64 V, .int .i64 M, .slice la RR.length lc] 24)
        rw [hw3] at hB3 hru3 hx3
        have HX3 : Hid (w3.heap[w2.heap.size]? = some (.cells #[.int .i64 V, .int .i64 M, .slice la RR.length lc] 24 (0, 0)) ∧ RulesAt w3 w3.heap.size (.slice la RR.length lc) RR) := ⟨hx3, hru3⟩
        obtain ⟨u0, u1, u2, u3, u4, u5, u6, _, _⟩ := HC.out w3 hB3
        have d2 := HRef.out w3 hB3
        have HB3 : Hid (Below W0.heap.size W0 w3) := hB3
        clear d1 hR2 hmap hB2 hB3 hru hru3 hx3 g0 g1 g2 s0 s1 s2 s3 hW0)
     | (go_at_call 5; refine d2.mono ?_; rintro e w4 ⟨lv2, rfl, hR4, hB4⟩
        obtain ⟨la2, lc2, hlv2⟩ := hR4.1
        subst hlv2
        have hB5 : Below w3.heap.size w3 (w4.alloc (.cells #[.int .i64 V, .int .i64 M, .slice la2 RR.length lc2] 24)) := hB4.alloc hB4.size _
        obtain ⟨w5, hw5⟩ : ∃ W, w4.alloc (.cells #[.int .i64 V, .int .i64 M, .slice la2 RR.length lc2] 24) = W := ⟨_, rfl⟩
        have hru5 := hR4.boxed (.cells #[.int .i64 V, .int .i64 M, .slice la2 RR.length lc2] 24)
        have hx5 := heap_alloc_new w4 (.cells #[.int .i64 V, .int .i64 M, .slice la2 RR.length lc2] 24)
        rw [hw5] at hB5 hru5 hx5
        have hy5 := (hB5.block _ (Array.getElem?_eq_some_iff.1 HX3.out.1).1).trans HX3.out.1
        have z0 : w5.cell? ⟨w2.heap.size, 0, none⟩ = some (.int .i64 V) := cell_of_blk hy5 rfl
        have z1 : w5.cell? ⟨w2.heap.size, 1, none⟩ = some (.int .i64 M) := cell_of_blk hy5 rfl
        have z2 : w5.cell? ⟨w2.heap.size, 2, none⟩ = some (.slice la RR.length lc) := cell_of_blk hy5 rfl
        have z3 : w5.cell? ⟨w4.heap.size, 0, none⟩ = some (.int .i64 V) := cell_of_blk hx5 rfl
        have z4 : w5.cell? ⟨w4.heap.size, 1, none⟩ = some (.int .i64 M) := cell_of_blk hx5 rfl
        have z5 : w5.cell? ⟨w4.heap.size, 2, none⟩ = some (.slice la2 RR.length lc2) := cell_of_blk hx5 rfl
        have sm := same8_eq (w := w5) (T := V) (N := M) ((HX3.out.2.below hB5).mono hB5.size) hru5 HSm.out.1 HSm.out.2
        have HB5 : Hid (Below W0.heap.size W0 w5) := HB3.out.trans (hB5.mono HB3.out.size)
        clear d2 hR4 hB4 hB5 hru5 hx5 hy5 u0 u1 u2 u3 u4 u5 u6)
     | (go_at_call 6; refine sm.mono ?_; rintro e w6 ⟨rfl, hB6⟩; clear sm))
  go_ret
  exact ⟨rfl, (HC.out w6 (HB5.out.trans (hB6.mono HB5.out.size))).2.2.2.2.2.2.2.2⟩

end Go.Proofs.Ytbpbhlmbcegmoaa

/- A grammar that came in as data lies in memory as RulesAt says; what the bound on the bulk gives. -/
namespace Go.Proofs.Ytbpbhlmbcegmoaa
open Go.ChangeShapes Go.WideShapes Go.ChangeAt Go.RowKit Go.Deep

theorem Try.cells41 : Try.prog.cellsOf 41 = 2 := by kernel_rfl
theorem Try.cells43 : Try.prog.cellsOf 43 = 2 := by kernel_rfl
theorem Try.cells3 : Try.prog.cellsOf 3 = 1 := by kernel_rfl
theorem Try.cells4 : Try.prog.cellsOf 4 = 1 := by kernel_rfl
theorem Try.cells38 : Try.prog.cellsOf 38 = 1 := by kernel_rfl

theorem bulk_one {H : Type} (d : DataW H) : 1 ≤ Rows.uptoBulk d := by
  cases d with
  | lit l => cases l <;> simp [Rows.uptoBulk]
  | nil => simp [Rows.uptoBulk]
  | ptr d => simp [Rows.uptoBulk]
  | slice elems spare => simp [Rows.uptoBulk]
  | agg parts => simp [Rows.uptoBulk]
  | iface t d => simp [Rows.uptoBulk]
  | map entries => simp [Rows.uptoBulk]
  | held h => simp [Rows.uptoBulk]

theorem bulk_part {H : Type} {d : DataW H} {l : List (DataW H)} (h : d ∈ l) : Rows.uptoBulk d ≤ Rows.uptoBulkAll l := by
  induction l with
  | nil => cases h
  | cons x r ih =>
    simp only [Rows.uptoBulkAll]
    cases List.mem_cons.1 h with
    | inl e => subst e; omega
    | inr e => have := ih e; omega

theorem bulk_length {H : Type} (l : List (DataW H)) : l.length ≤ Rows.uptoBulkAll l := by
  induction l with
  | nil => simp
  | cons x r ih => have := bulk_one x; simp only [Rows.uptoBulkAll, List.length_cons]; omega

section
variable {H : Type} {enc : TypeId × Value → H} {W : World} {n : Nat} {v : Value} {x : DataW H × List MemPlace}

theorem plain_of_cell {a : Addr} {u : Value} (h : W.cell? (a.add 0) = some u) : ∃ b o, a = ⟨b, o, none⟩ := by
  obtain ⟨b, o, spot⟩ := a
  have : spot = none := by simpa [Addr.add] using World.cell?_spot h
  subst this
  exact ⟨b, o, rfl⟩

/-- The symbols of a rule. -/
theorem syms_read (h : DataW.trod enc Try.prog W 0 (fun _ => true) true n 38 [v] = some x) :
    ∃ (Rt : List Sy) (qa : Option Addr) (qc : Nat), v = .slice qa Rt.length qc ∧ Rt.length ≤ qc ∧ Rt.length ≤ Rows.uptoBulk x.1 ∧
      ∀ j, j < Rt.length → ∃ b' o', qa = some ⟨b', o', none⟩ ∧ b' < W.heap.size ∧
        W.cell? ⟨b', o' + j * 2, none⟩ = some (.bool (Rt.getD j (false, 0)).1) ∧ W.cell? ⟨b', o' + (j * 2 + 1), none⟩ = some (.int .i64 (Rt.getD j (false, 0)).2) := by
  rcases open_slice_pairs Try.underlying38 Try.underlying43 Try.cells43 rfl rfl Try.cells4 Try.cells3 h with ⟨hv, _⟩ | ⟨a, len, cap, m, n', V0, V1, D0, D1, P0, P1, hv, _, hl, _, hm, rfl, hx⟩
  · simp only [List.cons.injEq, and_true] at hv
    exact ⟨[], none, 0, hv, by simp, by simp, fun j hj => by simp at hj⟩
  · simp only [List.cons.injEq, and_true] at hv
    simp only [if_true] at hm
    have each : ∀ i, i < len → ∃ s : Sy, W.cell? (a.add (i * 2)) = some (.bool s.1) ∧ W.cell? (a.add (i * 2 + 1)) = some (.int .i64 s.2) := fun i hi => by
      obtain ⟨h1, h2, h3, h4⟩ := hx i (by omega)
      obtain ⟨t, ht, _⟩ := DataW.trod_bool Try.underlying4 h3
      obtain ⟨k, hk, _⟩ := DataW.trod_int Try.underlying3 h4
      simp only [List.cons.injEq, and_true] at ht hk
      exact ⟨(t, k), by rw [h1, ht], by rw [h2, hk]⟩
    obtain ⟨f, hf⟩ := choose_lt each
    have hlen : ((List.range len).map f).length = len := by simp
    have hget : ∀ j, j < len → ((List.range len).map f).getD j (false, 0) = f j := fun j hj => by simp [List.getD, hj]
    refine ⟨(List.range len).map f, some a, cap, by rw [hv, hlen], by rw [hlen]; exact hl, ?_, fun j hj => ?_⟩
    · have := bulk_length ((List.range len).map fun i => DataW.agg [D0 i, D1 i])
      simp only [Rows.uptoBulk, List.length_map, List.length_range] at this ⊢
      omega
    · rw [hlen] at hj
      rw [hget j hj]
      have h0 := (hf 0 (by omega)).1
      rw [Nat.zero_mul] at h0
      obtain ⟨b, o, rfl⟩ := plain_of_cell h0
      obtain ⟨h1, h2⟩ := hf j hj
      rw [add_plain] at h1 h2
      exact ⟨b, o, rfl, World.block_lt_of_cell? W _ h1, h1, h2⟩

/-- The rules of a grammar. -/
theorem rules_read (h : DataW.trod enc Try.prog W 0 (fun _ => true) true n 22 [v] = some x) :
    ∃ R : List Ru, RulesAt W W.heap.size v R ∧ ∀ q, (R.getD q (0, [])).2.length ≤ Rows.uptoBulk x.1 := by
  rcases open_slice_pairs Try.underlying22 Try.underlying41 Try.cells41 rfl rfl Try.cells3 Try.cells38 h with ⟨hv, _⟩ | ⟨a, len, cap, m, n', V0, V1, D0, D1, P0, P1, hv, _, hl, _, hm, rfl, hx⟩
  · simp only [List.cons.injEq, and_true] at hv
    exact ⟨[], ⟨⟨none, 0, hv⟩, fun q hq => by simp at hq⟩, fun q => by simp⟩
  · simp only [List.cons.injEq, and_true] at hv
    simp only [if_true] at hm
    have each : ∀ i, i < len → ∃ r : Ru, W.cell? (a.add (i * 2)) = some (.int .i64 r.1) ∧ ∃ qa qc, W.cell? (a.add (i * 2 + 1)) = some (.slice qa r.2.length qc) ∧ r.2.length ≤ qc ∧ r.2.length ≤ Rows.uptoBulk (D1 i) ∧
        ∀ j, j < r.2.length → ∃ b' o', qa = some ⟨b', o', none⟩ ∧ b' < W.heap.size ∧
          W.cell? ⟨b', o' + j * 2, none⟩ = some (.bool (r.2.getD j (false, 0)).1) ∧ W.cell? ⟨b', o' + (j * 2 + 1), none⟩ = some (.int .i64 (r.2.getD j (false, 0)).2) := fun i hi => by
      obtain ⟨h1, h2, h3, h4⟩ := hx i (by omega)
      obtain ⟨k, hk, _⟩ := DataW.trod_int Try.underlying3 h3
      simp only [List.cons.injEq, and_true] at hk
      obtain ⟨Rt, qa, qc, hq, hc, hb, hs⟩ := syms_read h4
      exact ⟨(k, Rt), by rw [h1, hk], qa, qc, by rw [h2, hq], hc, hb, hs⟩
    obtain ⟨f, hf⟩ := choose_lt each
    have hlen : ((List.range len).map f).length = len := by simp
    have hget : ∀ j, j < len → ((List.range len).map f).getD j (0, []) = f j := fun j hj => by simp [List.getD, hj]
    refine ⟨(List.range len).map f, ⟨⟨some a, cap, by rw [hv, hlen]⟩, fun q hq => ?_⟩, fun q => ?_⟩
    · rw [hlen] at hq
      rw [hget q hq]
      have h0 := (hf 0 (by omega)).1
      rw [Nat.zero_mul] at h0
      obtain ⟨b, o, rfl⟩ := plain_of_cell h0
      obtain ⟨h1, qa, qc, h2, hc, _, h3⟩ := hf q hq
      rw [add_plain] at h1 h2
      exact ⟨b, o, cap, qa, qc, by rw [hv, hlen], World.block_lt_of_cell? W _ h1, h1, h2, hc, h3⟩
    · by_cases hq : q < len
      · rw [hget q hq]
        obtain ⟨_, _, _, _, _, hb, _⟩ := hf q hq
        have h1 : DataW.agg [D0 q, D1 q] ∈ (List.range len).map fun i => DataW.agg [D0 i, D1 i] := List.mem_map.2 ⟨q, List.mem_range.2 hq, rfl⟩
        have h2 := bulk_part h1
        simp only [Rows.uptoBulk, Rows.uptoBulkAll] at h2 ⊢
        omega
      · simp [List.getD, List.getElem?_eq_none (show ((List.range len).map f).length ≤ q by omega)]

end

end Go.Proofs.Ytbpbhlmbcegmoaa
