/- The contract of pollardingref5.Wrong. -/
import Derived.Test.YthmdlaappenjgaaRecogDef
import Derived.Test.YthmdlaappenjgaaMayFine
import Derived.BigQuiet
namespace Go.Proofs.Ythmdlaappenjgaa
open Go.RowKit

set_option maxRecDepth 100000 in
set_option maxHeartbeats 1600000 in
theorem wrong5_any {w : World} {T N : Int} {rv tv : Value} {R : List Ru} {tok : List Int} (hr : RulesAt w w.heap.size rv R) (ht : ListAt w w.heap.size tv tok) :
    Calls Try.prog 5 #[.agg #[.int .i64 T, .int .i64 N, rv], tv] w fun e w' => e = .returned (.int .i64 (wrongE T N R tok)) ∧ Below w.heap.size w w' := by
  obtain ⟨ra, rc, hrv⟩ := hr.1
  obtain ⟨ta, tc, htv⟩ := ht.1
  subst hrv
  subst htv
  have may := may1_any (T := T) (N := N) (hr.boxed (.cells #[.int .i64 T, .int .i64 N, .slice ra R.length rc] 24))
  have HT : Hid (ListAt w w.heap.size (.slice ta tok.length tc) tok) := ht
  have HB0 : Hid (Below w.heap.size w (w.alloc (.cells #[.int .i64 T, .int .i64 N, .slice ra R.length rc] 24))) := (Below.refl _ _).alloc (Nat.le_refl _) _
  clear hr ht
  cases hm : mayB T N R with
  | false =>
    rw [hm] at may
    have HE : Hid (wrongE T N R tok = 2) := by show wrongE T N R tok = 2; simp [wrongE, hm]
    clear hm
    go_enter Try.func5, Try.ntmps5
    go_wp2_with
      (go_at_call 11; refine may.mono ?_; rintro e w1 ⟨rfl, hB1⟩
       have HB1 : Hid (Below w.heap.size w w1) := HB0.out.trans (hB1.mono (by simp))
       clear hB1)
    go_ret
    exact ⟨by rw [HE.out]; rfl, HB1.out⟩
  | true =>
    rw [hm] at may
    by_cases h30 : 30 < tok.length
    · have HE : Hid (wrongE T N R tok = 1) := by show wrongE T N R tok = 1; simp [wrongE, hm, h30]
      have j0 : (30 : Int) < (tok.length : Int) := by omega
      clear hm
      go_enter Try.func5, Try.ntmps5
      go_wp2_with
        (go_at_call 11; refine may.mono ?_; rintro e w1 ⟨rfl, hB1⟩
         have HB1 : Hid (Below w.heap.size w w1) := HB0.out.trans (hB1.mono (by simp))
         clear hB1)
      go_ret
      exact ⟨by rw [HE.out]; rfl, HB1.out⟩
    · have HW : Hid (wrongE T N R tok = if inB T tok = false then 3 else 0) := by show wrongE T N R tok = _; simp [wrongE, hm, h30]
      have j0 : decide ((30 : Int) < (tok.length : Int)) = false := decide_eq_false (by omega)
      clear hm
      go_enter Try.func5, Try.ntmps5
      go_wp2_with
        (go_at_call 11; refine may.mono ?_; rintro e w1 ⟨rfl, hB1⟩
         have HB1 : Hid (Below w.heap.size w w1) := HB0.out.trans (hB1.mono (by simp))
         have b0 : w1.cell? ⟨w.heap.size, 0, none⟩ = some (.int .i64 T) := (hB1.cell (by simp)).trans (by simp [go_sem])
         have HT1 : Hid (ListAt w1 w1.heap.size (.slice ta tok.length tc) tok) := (HT.out.below HB1.out).mono HB1.out.size
         clear hB1 may)
      have Hb0 : Hid (w1.cell? ⟨w.heap.size, 0, none⟩ = some (.int .i64 T)) := b0
      clear b0
      go_loopw [5] (fun s wr => ∃ i m : Nat, s = .int .i64 i ∧ i ≤ tok.length ∧ wr = w1.drewN m ∧ inB T (tok.take i) = true) (fun s _ => tok.length - (intOf s).toNat)
      case atStart => exact ⟨0, 0, rfl, Nat.zero_le _, rfl, rfl⟩
      case round =>
        obtain ⟨i, m, rfl, hi, rfl, hIn⟩ := hrel
        have HIn : Hid (inB T (tok.take i) = true) := hIn
        clear hIn
        by_cases hlt : i < tok.length
        · obtain ⟨tg, tO, tc', hte, _, d1⟩ := HT1.out.2 i hlt
          cases hte
          obtain ⟨x, hx⟩ : ∃ x, tok.getD i 0 = x := ⟨_, rfl⟩
          have hxe : tok[i] = x := by rw [← hx]; simp [List.getD, hlt]
          have HBad : Hid (¬ (0 ≤ x ∧ x < T) → inB T tok = false) := fun h => by
            unfold inB
            rw [List.all_eq_false]
            exact ⟨tok[i], List.getElem_mem hlt, by rw [hxe]; simpa using fun h1 => by have := fun h2 => h ⟨h1, h2⟩; omega⟩
          have HGood : Hid (0 ≤ x ∧ x < T → inB T (tok.take (i + 1)) = true) := fun h => by
            have := HIn.out
            unfold inB at this ⊢
            rw [List.take_succ_eq_append_getElem hlt, List.all_append, this, hxe]
            simp [h.1, h.2]
          rw [hx] at d1
          have b0 := Hb0.out
          have i0 : (0 : Int) ≤ (i : Int) := Int.natCast_nonneg _
          have i1 : (i : Int) < (tok.length : Int) := by omega
          clear hx hxe
          by_cases hx0 : x < 0
          · have HE : Hid (wrongE T N R tok = 3) := by show wrongE T N R tok = 3; rw [HW.out, HBad.out (by omega)]; rfl
            go_wp2_with fail
            go_big_quiet (fail)
            go_wp2_with fail
            go_ret
            exact ⟨by rw [HE.out]; rfl, below_drewN (below_drewN HB1.out _) _⟩
          · have hx1 : decide (x < 0) = false := decide_eq_false hx0
            by_cases hxT : T ≤ x
            · have HE : Hid (wrongE T N R tok = 3) := by show wrongE T N R tok = 3; rw [HW.out, HBad.out (by omega)]; rfl
              go_wp2_with fail
              go_big_quiet (fail)
              go_wp2_with fail
              go_ret
              exact ⟨by rw [HE.out]; rfl, below_drewN (below_drewN HB1.out _) _⟩
            · have hx2 : decide (T ≤ x) = false := decide_eq_false hxT
              have HG : Hid (inB T (tok.take (i + 1)) = true) := HGood.out ⟨by omega, by omega⟩
              go_wp2_with fail
              go_big_quiet (fail)
              go_wp2_with fail
              go_roundw
              case rel => exact ⟨i + 1, _, by go_num, by omega, rfl, HG.out⟩
              case measure => simp [intOf]; omega
        · have HE : Hid (wrongE T N R tok = 0) := by
            show wrongE T N R tok = 0
            have := HIn.out
            rw [List.take_of_length_le (by omega)] at this
            rw [HW.out, this]
            rfl
          go_wp2_with fail
          go_ret
          exact ⟨by rw [HE.out]; rfl, below_drewN HB1.out _⟩

end Go.Proofs.Ythmdlaappenjgaa
