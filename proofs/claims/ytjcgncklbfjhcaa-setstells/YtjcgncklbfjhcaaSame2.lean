/- The contracts of pollardingref2.rows and Same, where both sides are one. -/
import Derived.Test.YtjcgncklbfjhcaaTruth2
namespace Go.Proofs.Ytjcgncklbfjhcaa
open Go.RowKit

theorem BoolsAt.drewN {w : World} {v : Value} {X : List Bool} (h : BoolsAt w v X) (m : Nat) : BoolsAt (w.drewN m) v X := h
theorem MatAt.drewN {w : World} {v : Value} {X : List (List Bool)} (h : MatAt w v X) (m : Nat) : MatAt (w.drewN m) v X := h

set_option maxRecDepth 100000 in
set_option maxHeartbeats 1600000 in
theorem rows_eq {w : World} {a b : Value} {X : List (List Bool)} (ha : MatAt w a X) (hb : MatAt w b X) (hl : X.length ≤ 1000000) (hr : ∀ i, i < X.length → (X.getD i []).length ≤ 1000000) :
    Calls Try.prog 15 #[a, b] w fun e w' => e = .returned (.bool true) ∧ ∃ m, w' = w.drewN m := by
  obtain ⟨aa, ac, hav⟩ := ha.1
  obtain ⟨ba, bc, hbv⟩ := hb.1
  have HA : Hid (MatAt w a X) := ha
  have HB : Hid (MatAt w b X) := hb
  have HL : Hid (∀ i, i < X.length → (X.getD i []).length ≤ 1000000) := hr
  clear ha hb hr
  subst hav
  subst hbv
  have e0 : ((X.length : Int) != (X.length : Int)) = false := by simp
  go_enter Try.func15, Try.ntmps15
  go_wp2_with fail
  go_loopw [5] (fun k wr => ∃ i m : Nat, k = .int .i64 i ∧ i ≤ X.length ∧ wr = w.drewN m) (fun k _ => X.length - (intOf k).toNat)
  case atStart => exact ⟨0, 0, rfl, Nat.zero_le _, rfl⟩
  case round =>
    obtain ⟨i, m, rfl, hi, rfl⟩ := hrel
    by_cases hlt : i < X.length
    · obtain ⟨g1, o1, c1, r1, hv1, k1, h1⟩ := HA.out.2 i hlt
      obtain ⟨g2, o2, c2, r2, hv2, k2, h2⟩ := HB.out.2 i hlt
      simp only [Value.slice.injEq, true_and] at hv1 hv2
      obtain ⟨rfl, rfl⟩ := hv1
      obtain ⟨rfl, rfl⟩ := hv2
      have j0 : (0 : Int) ≤ (i : Int) := Int.natCast_nonneg _
      have j1 : (i : Int) < (X.length : Int) := by omega
      have hXl := HL.out i hlt
      obtain ⟨Xi, hXi⟩ : ∃ Xi, X.getD i [] = Xi := ⟨_, rfl⟩
      rw [hXi] at h1 h2 hXl
      clear hXi
      have HC : Hid (∀ k n : Nat, Calls Try.prog 14 #[r1, r2] ((w.drewN k).drewN n) fun e w' => e = .returned (.bool true) ∧ ∃ m, w' = ((w.drewN k).drewN n).drewN m) := fun k n => truths_eq ((h1.drewN k).drewN n) ((h2.drewN k).drewN n) hXl
      have HC3 : Hid (∀ k n : Nat, Calls Try.prog 14 #[r1, r2] (w.drewN (k + n)) fun e w' => e = .returned (.bool true) ∧ ∃ j, w' = w.drewN (k + j)) := fun k n =>
        (truths_eq (h1.drewN (k + n)) (h2.drewN (k + n)) hXl).mono fun e w' ⟨he, j, hw⟩ => ⟨he, n + j, by rw [hw, World.drewN_drewN, Nat.add_assoc]⟩
      have HC2 : Hid (∀ k n : Nat, Calls Try.prog 14 #[r1, r2] (w.drewN (k + n)) fun e w' => e = .returned (.bool true) ∧ ∃ j, w' = (w.drewN k).drewN j) := fun k n =>
        (HC3.out k n).mono fun e w' ⟨he, j, hw⟩ => ⟨he, j, by rw [hw, World.drewN_drewN]⟩
      obtain ⟨_, _, hr1⟩ := h1.1
      obtain ⟨_, _, hr2⟩ := h2.1
      subst hr1
      subst hr2
      clear h1 h2
      go_wp2_with fail
      go_big_quiet ((go_at_call 14; first | exact HC3.out _ _ | exact HC2.out _ _ | exact Calls.quiet_of (HC.out _ _)))
      go_wp2_with fail
      go_roundw
      case rel => exact ⟨i + 1, _, by go_num, by omega, rfl⟩
      case measure => simp [intOf]; omega
    · go_wp2_with fail
      go_ret
      exact ⟨rfl, m, rfl⟩

set_option maxRecDepth 100000 in
set_option maxHeartbeats 400000 in
theorem same2_eq {w : World} {n1 f1 g1 n2 f2 g2 : Value} {X : List Bool} {F G : List (List Bool)} (hn1 : BoolsAt w n1 X) (hn2 : BoolsAt w n2 X) (hf1 : MatAt w f1 F) (hf2 : MatAt w f2 F) (hg1 : MatAt w g1 G) (hg2 : MatAt w g2 G)
    (lx : X.length ≤ 1000000) (lf : F.length ≤ 1000000) (lf' : ∀ i, i < F.length → (F.getD i []).length ≤ 1000000) (lg : G.length ≤ 1000000) (lg' : ∀ i, i < G.length → (G.getD i []).length ≤ 1000000) :
    Calls Try.prog 6 #[.agg #[n1, f1, g1], .agg #[n2, f2, g2]] w fun e w' => e = .returned (.bool true) ∧ Below w.heap.size w w' := by
  obtain ⟨a1, b1, rfl⟩ := hn1.1
  obtain ⟨a2, b2, rfl⟩ := hn2.1
  obtain ⟨a3, b3, rfl⟩ := hf1.1
  obtain ⟨a4, b4, rfl⟩ := hf2.1
  obtain ⟨a5, b5, rfl⟩ := hg1.1
  obtain ⟨a6, b6, rfl⟩ := hg2.1
  have hs : ∀ b o, b < w.heap.size → ((w.alloc (.cells #[.slice a1 X.length b1, .slice a3 F.length b3, .slice a5 G.length b5] 28)).alloc (.cells #[.slice a2 X.length b2, .slice a4 F.length b4, .slice a6 G.length b6] 28)).cell? ⟨b, o, none⟩ = w.cell? ⟨b, o, none⟩ := fun b o hb =>
    (same_alloc _ _ b o (by simp; omega)).trans (same_alloc _ _ b o hb)
  have hB : Below w.heap.size w ((w.alloc (.cells #[.slice a1 X.length b1, .slice a3 F.length b3, .slice a5 G.length b5] 28)).alloc (.cells #[.slice a2 X.length b2, .slice a4 F.length b4, .slice a6 G.length b6] 28)) := ((Below.refl _ _).alloc (Nat.le_refl _) _).alloc (by simp) _
  obtain ⟨W, hW⟩ : ∃ W, ((w.alloc (.cells #[.slice a1 X.length b1, .slice a3 F.length b3, .slice a5 G.length b5] 28)).alloc (.cells #[.slice a2 X.length b2, .slice a4 F.length b4, .slice a6 G.length b6] 28)) = W := ⟨_, rfl⟩
  rw [hW] at hs hB
  have cN := truths_eq (hn1.same hs) (hn2.same hs) lx
  have cF := fun m : Nat => rows_eq ((hf1.same hs).drewN m) ((hf2.same hs).drewN m) lf lf'
  have cG := fun m : Nat => rows_eq ((hg1.same hs).drewN m) ((hg2.same hs).drewN m) lg lg'
  have HB : Hid (Below w.heap.size w W) := hB
  clear hn1 hn2 hf1 hf2 hg1 hg2 hs hB
  have l0 : W.cell? ⟨w.heap.size, 0, none⟩ = some (.slice a1 X.length b1) ∧ W.cell? ⟨w.heap.size, 1, none⟩ = some (.slice a3 F.length b3) ∧ W.cell? ⟨w.heap.size, 2, none⟩ = some (.slice a5 G.length b5) ∧
      W.cell? ⟨w.heap.size + 1, 0, none⟩ = some (.slice a2 X.length b2) ∧ W.cell? ⟨w.heap.size + 1, 1, none⟩ = some (.slice a4 F.length b4) ∧ W.cell? ⟨w.heap.size + 1, 2, none⟩ = some (.slice a6 G.length b6) := by
    rw [← hW]
    simp [go_sem]
  obtain ⟨l1, l2, l3, l4, l5, l6⟩ := l0
  go_enter Try.func6, Try.ntmps6
  go_upto_region 1 with fail
  clear hW
  go_wp2_with (first
    | (go_at_call 14; refine cN.mono ?_; rintro e w1 ⟨rfl, m1, rfl⟩)
    | (go_at_call 15; first
        | (refine (cG (m1 + m2)).mono ?_; rintro e w3 ⟨rfl, m3, rfl⟩)
        | (refine (cF m1).mono ?_; rintro e w2 ⟨rfl, m2, rfl⟩)))
  go_ret
  exact ⟨rfl, below_drewN HB.out _⟩

end Go.Proofs.Ytjcgncklbfjhcaa
