/- The contract of pollardingref1.Ints, where both sides are one. -/
import Derived.Test.YtfgdiknbkoaniaaRows
import Derived.Test.YtfgdiknbkoaniaaAt
import Derived.WalkKit
import Derived.WalkSpells
import Derived.Deep.QuietTactic
import Derived.BigQuiet
namespace Go.Proofs.Ytfgdiknbkoaniaa
open Go.RowKit

set_option maxRecDepth 100000 in
set_option maxHeartbeats 1600000 in
theorem ints_eq {w : World} {la lb : Nat} {a b : Value} {X : List Int} (ha : ListAt w la a X) (hb : ListAt w lb b X) (hl : X.length ≤ 1000000) :
    Calls Try.prog 6 #[a, b] w fun e w' => e = .returned (.bool true) ∧ ∃ m, w' = w.drewN m := by
  obtain ⟨aa, ac, hav⟩ := ha.1
  obtain ⟨ba, bc, hbv⟩ := hb.1
  have HA : Hid (ListAt w la a X) := ha
  have HB : Hid (ListAt w lb b X) := hb
  clear ha hb
  subst hav
  subst hbv
  have e0 : ((X.length : Int) != (X.length : Int)) = false := by simp
  go_enter Try.func6, Try.ntmps6
  go_wp2_with fail
  go_loopw [5] (fun k wr => ∃ i m : Nat, k = .int .i64 i ∧ i ≤ X.length ∧ wr = w.drewN m) (fun k _ => X.length - (intOf k).toNat)
  case atStart => exact ⟨0, 0, rfl, Nat.zero_le _, rfl⟩
  case round =>
    obtain ⟨i, m, rfl, hi, rfl⟩ := hrel
    by_cases hlt : i < X.length
    · obtain ⟨g1, o1, c1, hv1, _, k1⟩ := HA.out.2 i hlt
      obtain ⟨g2, o2, c2, hv2, _, k2⟩ := HB.out.2 i hlt
      cases hv1
      cases hv2
      obtain ⟨z, hz⟩ : ∃ z, X.getD i 0 = z := ⟨_, rfl⟩
      rw [hz] at k1 k2
      have j0 : (0 : Int) ≤ (i : Int) := Int.natCast_nonneg _
      have j1 : (i : Int) < (X.length : Int) := by omega
      have e1 : (z != z) = false := by simp
      clear hz
      go_wp2_with fail
      go_big_quiet (fail)
      go_wp2_with fail
      go_roundw
      case rel => exact ⟨i + 1, _, by go_num, by omega, rfl⟩
      case measure => simp [intOf]; omega
    · go_wp2_with fail
      go_ret
      exact ⟨rfl, m, rfl⟩

end Go.Proofs.Ytfgdiknbkoaniaa
