/- The contract of pollardingref2.Truths, where both sides are one. -/
import Derived.Test.YtlfjnljidehljaaNull2
namespace Go.Proofs.Ytlfjnljidehljaa
open Go.RowKit

set_option maxRecDepth 100000 in
set_option maxHeartbeats 1600000 in
theorem truths_eq {w : World} {a b : Value} {X : List Bool} (ha : BoolsAt w a X) (hb : BoolsAt w b X) (hl : X.length ≤ 1000000) :
    Calls Try.prog 8 #[a, b] w fun e w' => e = .returned (.bool true) ∧ ∃ m, w' = w.drewN m := by
  obtain ⟨aa, ac, hav⟩ := ha.1
  obtain ⟨ba, bc, hbv⟩ := hb.1
  have HA : Hid (BoolsAt w a X) := ha
  have HB : Hid (BoolsAt w b X) := hb
  clear ha hb
  subst hav
  subst hbv
  have e0 : ((X.length : Int) != (X.length : Int)) = false := by simp
  go_enter Try.func8, Try.ntmps8
  go_wp2_with fail
  go_loopw [5] (fun k wr => ∃ i m : Nat, k = .int .i64 i ∧ i ≤ X.length ∧ wr = w.drewN m) (fun k _ => X.length - (intOf k).toNat)
  case atStart => exact ⟨0, 0, rfl, Nat.zero_le _, rfl⟩
  case round =>
    obtain ⟨i, m, rfl, hi, rfl⟩ := hrel
    by_cases hlt : i < X.length
    · obtain ⟨g1, o1, c1, hv1, k1⟩ := HA.out.2 i hlt
      obtain ⟨g2, o2, c2, hv2, k2⟩ := HB.out.2 i hlt
      simp only [Value.slice.injEq, true_and] at hv1 hv2
      obtain ⟨rfl, rfl⟩ := hv1
      obtain ⟨rfl, rfl⟩ := hv2
      obtain ⟨z, hz⟩ : ∃ z, X.getD i false = z := ⟨_, rfl⟩
      rw [hz] at k1 k2
      have j0 : (0 : Int) ≤ (i : Int) := Int.natCast_nonneg _
      have j1 : (i : Int) < (X.length : Int) := by omega
      clear hz
      cases z <;>
      · go_wp2_with fail
        go_big_quiet (fail)
        go_wp2_with fail
        go_roundw
        case rel => exact ⟨i + 1, _, by go_num, by omega, rfl⟩
        case measure => simp [intOf]; omega
    · go_wp2_with fail
      go_ret
      exact ⟨rfl, m, rfl⟩

end Go.Proofs.Ytlfjnljidehljaa
