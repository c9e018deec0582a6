/- The contract of pollardingref8.Same, where both sides are one. -/
import Derived.Test.YtoecjlfkpfmadaaMem8
import Derived.Deep.DeepCutAuto
namespace Go.Proofs.Ytoecjlfkpfmadaa
open Go.RowKit

theorem same_al8 (w : World) (o' : Obj) : ∀ b o, b < w.heap.size → (w.alloc o').cell? ⟨b, o, none⟩ = w.cell? ⟨b, o, none⟩ := fun _ _ hb => World.cell?_alloc_past _ _ _ hb

set_option maxRecDepth 100000 in
set_option maxHeartbeats 3200000 in
theorem same8_eq {w : World} {T N : Int} {rv1 rv2 : Value} {R : List Ru} (h1 : RulesAt w w.heap.size rv1 R) (h2 : RulesAt w w.heap.size rv2 R) (hR : R.length ≤ 1000) (hl : ∀ i, i < R.length → (R.getD i (0, [])).2.length ≤ 1000) :
    Calls Try.prog 6 #[.agg #[.int .i64 T, .int .i64 N, rv1], .agg #[.int .i64 T, .int .i64 N, rv2]] w fun e w' => e = .returned (.bool true) ∧ Below w.heap.size w w' := by
  obtain ⟨ra1, rc1, hv1⟩ := h1.1
  obtain ⟨ra2, rc2, hv2⟩ := h2.1
  subst hv1
  subst hv2
  obtain ⟨W1, hW1⟩ : ∃ W, (w.alloc (.cells #[.int .i64 T, .int .i64 N, .slice ra1 R.length rc1] 24)).alloc (.cells #[.int .i64 T, .int .i64 N, .slice ra2 R.length rc2] 24) = W := ⟨_, rfl⟩
  have HBX : Hid (∀ wr, Below W1.heap.size W1 wr → (wr.cell? ⟨w.heap.size, 0, none⟩ = some (.int .i64 T) ∧ wr.cell? ⟨w.heap.size, 1, none⟩ = some (.int .i64 N) ∧ wr.cell? ⟨w.heap.size, 2, none⟩ = some (.slice ra1 R.length rc1) ∧ wr.cell? ⟨w.heap.size + 1, 0, none⟩ = some (.int .i64 T) ∧ wr.cell? ⟨w.heap.size + 1, 1, none⟩ = some (.int .i64 N) ∧ wr.cell? ⟨w.heap.size + 1, 2, none⟩ = some (.slice ra2 R.length rc2)) ∧ RulesAt wr w.heap.size (.slice ra1 R.length rc1) R ∧ RulesAt wr w.heap.size (.slice ra2 R.length rc2) R ∧ Below w.heap.size w wr) := fun wr hq => by
    have hB0 : Below w.heap.size w W1 := by rw [← hW1]; exact ((Below.refl _ _).alloc (Nat.le_refl _) _).alloc (by simp) _
    have hB : Below w.heap.size w wr := hB0.trans (hq.mono hB0.size)
    have hs : W1.heap.size = w.heap.size + 2 := by rw [← hW1]; simp
    rw [hs] at hq
    refine ⟨⟨?_, ?_, ?_, ?_, ?_, ?_⟩, h1.below hB, h2.below hB, hB⟩
    all_goals refine (hq.cell (by simp only; omega)).trans ?_
    all_goals rw [← hW1]
    all_goals simp [go_sem]
  have HL : Hid (∀ i, i < R.length → (R.getD i (0, [])).2.length ≤ 1000) := hl
  obtain ⟨⟨g0, g1, g2, g3, g4, g5⟩, _⟩ := HBX.out W1 (Below.refl _ _)
  have e0 : (T != T) = false := by simp
  have e1 : (N != N) = false := by simp
  have e2 : ((R.length : Int) != (R.length : Int)) = false := by simp
  clear h1 h2 hl
  go_enter Try.func6, Try.ntmps6
  go_upto_region 1 with fail
  clear hW1
  go_wp2_with fail
  clear g0 g1 g2 g3 g4 g5 e0 e1 e2
  go_loopw [5] (fun s5 wr => ∃ i : Nat, s5 = .int .i64 i ∧ i ≤ R.length ∧ Below W1.heap.size W1 wr) (fun s _ => R.length - (intOf s).toNat)
  case atStart => exact ⟨0, rfl, Nat.zero_le _, Below.refl _ _⟩
  case round =>
    obtain ⟨i, rfl, hi, hB⟩ := hrel
    have HB : Hid (Below W1.heap.size W1 wr) := hB
    obtain ⟨⟨_, _, g2, _, _, g5⟩, hr1, hr2, hBw⟩ := HBX.out wr hB
    have HBw : Hid (Below w.heap.size w wr) := hBw
    by_cases hlt : i < R.length
    · obtain ⟨b1, o1, q1, qa1, qc1, hv1, _, k1, k2, hy1⟩ := hr1.syms hlt
      obtain ⟨b2, o2, q2, qa2, qc2, hv2, _, k3, k4, hy2⟩ := hr2.syms hlt
      cases hv1
      cases hv2
      have hln := HL.out i hlt
      obtain ⟨⟨L, l⟩, hrule⟩ : ∃ x, R.getD i (0, []) = x := ⟨_, rfl⟩
      rw [hrule] at k1 k2 k3 k4 hy1 hy2 hln
      simp only at k1 k2 k3 k4 hy1 hy2 hln
      obtain ⟨n, hn⟩ : ∃ n, l.length = n := ⟨_, rfl⟩
      rw [hn] at k2 k4 hy1 hy2 hln
      have HN : Hid (l.length = n) := hn
      have i0 : (0 : Int) ≤ (i : Int) := Int.natCast_nonneg _
      have i1 : (i : Int) < (R.length : Int) := by omega
      have e3 : (L != L) = false := by simp
      have e4 : ((n : Int) != (n : Int)) = false := by simp
      have c5 := (same_al8 wr (.cells #[.int .i64 L, .slice qa1 n qc1] 45) _ _ (World.block_lt_of_cell? _ _ g5)).trans g5
      have c3 := (same_al8 wr (.cells #[.int .i64 L, .slice qa1 n qc1] 45) _ _ (World.block_lt_of_cell? _ _ k3)).trans k3
      have c4 := (same_al8 wr (.cells #[.int .i64 L, .slice qa1 n qc1] 45) _ _ (World.block_lt_of_cell? _ _ k4)).trans k4
      have hBA : Below wr.heap.size wr ((wr.alloc (.cells #[.int .i64 L, .slice qa1 n qc1] 45)).alloc (.cells #[.int .i64 L, .slice qa2 n qc2] 45)) := ((Below.refl _ _).alloc (Nat.le_refl _) _).alloc (by simp) _
      have hz : ∃ W3, (wr.alloc (.cells #[.int .i64 L, .slice qa1 n qc1] 45)).alloc (.cells #[.int .i64 L, .slice qa2 n qc2] 45) = W3 := ⟨_, rfl⟩
      have HZ : Hid (∃ W3, (wr.alloc (.cells #[.int .i64 L, .slice qa1 n qc1] 45)).alloc (.cells #[.int .i64 L, .slice qa2 n qc2] 45) = W3 ∧ ∀ wq, Below W3.heap.size W3 wq → wq.cell? ⟨wr.heap.size, 0, none⟩ = some (.int .i64 L) ∧ wq.cell? ⟨wr.heap.size, 1, none⟩ = some (.slice qa1 n qc1) ∧ wq.cell? ⟨wr.heap.size + 1, 0, none⟩ = some (.int .i64 L) ∧ wq.cell? ⟨wr.heap.size + 1, 1, none⟩ = some (.slice qa2 n qc2) ∧ SymsAt wq (.slice qa1 n qc1) l ∧ SymsAt wq (.slice qa2 n qc2) l ∧ Below W1.heap.size W1 wq) := by
        obtain ⟨W3, hW3⟩ := hz
        have hs : W3.heap.size = wr.heap.size + 2 := by rw [← hW3]; simp
        rw [hW3] at hBA
        refine ⟨W3, hW3, fun wq hq => ⟨?_, ?_, ?_, ?_, hy1.same (same_below (hBA.trans (hq.mono (by omega)))), hy2.same (same_below (hBA.trans (hq.mono (by omega)))), hB.trans ((hBA.trans (hq.mono (by omega))).mono hB.size)⟩⟩
        all_goals refine (hq.cell (by simp only; omega)).trans ?_
        all_goals rw [← hW3]
        all_goals simp [go_sem]
      clear hB hBw hr1 hr2 hy1 hy2 hrule hn hBA hz
      go_upto_region 8 with fail
      obtain ⟨W3, hW3, hF⟩ := HZ.out
      have HF : Hid (∀ wq, Below W3.heap.size W3 wq → wq.cell? ⟨wr.heap.size, 0, none⟩ = some (.int .i64 L) ∧ wq.cell? ⟨wr.heap.size, 1, none⟩ = some (.slice qa1 n qc1) ∧ wq.cell? ⟨wr.heap.size + 1, 0, none⟩ = some (.int .i64 L) ∧ wq.cell? ⟨wr.heap.size + 1, 1, none⟩ = some (.slice qa2 n qc2) ∧ SymsAt wq (.slice qa1 n qc1) l ∧ SymsAt wq (.slice qa2 n qc2) l ∧ Below W1.heap.size W1 wq) := hF
      rw [hW3]
      obtain ⟨y0, y1, y2, y3, _⟩ := hF W3 (Below.refl _ _)
      clear hW3 hF HZ g2 g5 k1 k2 k3 k4 c3 c4 c5
      go_wp2_with fail
      clear y0 y1 y2 y3 e3 e4
      obtain ⟨xb, hxb⟩ : ∃ x, wr.heap.size = x := ⟨_, rfl⟩
      rw [hxb] at HF ⊢
      clear hxb HBw HB
      go_loopw [8] (fun s8 wq => ∃ k : Nat, s8 = .int .i64 k ∧ k ≤ n ∧ Below W3.heap.size W3 wq) (fun s _ => n - (intOf s).toNat)
      case atStart => exact ⟨0, rfl, Nat.zero_le _, Below.refl _ _⟩
      case round =>
        obtain ⟨k, rfl, hk, hB⟩ := hrel
        have HB : Hid (Below W3.heap.size W3 wr) := hB
        obtain ⟨_, y1, _, y3, hy1, hy2, hBq⟩ := HF.out wr hB
        have HBq : Hid (Below W1.heap.size W1 wr) := hBq
        by_cases hklt : k < n
        · obtain ⟨p1, t1, d1, hw1, a1, a2⟩ := hy1.2 k (by rw [HN.out]; exact hklt)
          obtain ⟨p2, t2, d2, hw2, a3, a4⟩ := hy2.2 k (by rw [HN.out]; exact hklt)
          rw [HN.out] at hw1 hw2
          cases hw1
          cases hw2
          obtain ⟨⟨xt, xn⟩, hx⟩ : ∃ x, l.getD k (false, 0) = x := ⟨_, rfl⟩
          rw [hx] at a1 a2 a3 a4
          simp only at a1 a2 a3 a4
          have k0 : (0 : Int) ≤ (k : Int) := Int.natCast_nonneg _
          have k1 : (k : Int) < (n : Int) := by omega
          have e5 : (xt != xt) = false := by simp
          have e6 : (xn != xn) = false := by simp
          have e7 : (xt == xt) = true := by simp
          have e8 : (xn == xn) = true := by simp
          clear hx hB hBq hy1 hy2
          go_wp2_with fail
          go_big_quiet (fail)
          go_wp2_with fail
          go_roundw
          case rel => exact ⟨k + 1, by go_num, by omega, below_drewN HB.out _⟩
          case measure => simp [intOf]; omega
        · clear hB hBq hy1 hy2
          go_wp2_with fail
          go_roundw
          case rel => exact ⟨i + 1, by go_num, by omega, HBq.out⟩
          case measure => simp [intOf]; omega
    · clear hB hBw hr1 hr2
      go_wp2_with fail
      go_ret
      exact ⟨rfl, HBw.out⟩

end Go.Proofs.Ytoecjlfkpfmadaa
