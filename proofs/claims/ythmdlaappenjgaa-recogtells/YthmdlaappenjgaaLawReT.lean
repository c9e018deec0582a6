/- The law pollardinglaw.RecogTells: it returns true. -/
import Derived.Test.YthmdlaappenjgaaRecogHas
import Derived.Test.YthmdlaappenjgaaHas5
import Derived.Test.YthmdlaappenjgaaWrong5
namespace Go.Proofs.Ythmdlaappenjgaa
open Go.RowKit

/-- What can be read of the law's arguments, later. -/
structure LawBoxR (w : World) (T N : Int) (rv tv : Value) (R : List Ru) (tok : List Int) (wq : World) : Prop where
  c0 : wq.cell? ⟨w.heap.size, 0, none⟩ = some (.int .i64 T)
  c1 : wq.cell? ⟨w.heap.size, 1, none⟩ = some (.int .i64 N)
  c2 : wq.cell? ⟨w.heap.size, 2, none⟩ = some rv
  rules : RulesAt wq wq.heap.size rv R
  list : ListAt wq wq.heap.size tv tok
  below : Below w.heap.size w wq
  size : w.heap.size + 1 ≤ wq.heap.size

theorem lawBoxR {w : World} {T N : Int} {rv tv : Value} {R : List Ru} {tok : List Int} (hr : RulesAt w w.heap.size rv R) (ht : ListAt w w.heap.size tv tok) : ∀ wq, Below (w.heap.size + 1) (w.alloc (.cells #[.int .i64 T, .int .i64 N, rv] 24)) wq → LawBoxR w T N rv tv R tok wq := fun wq hq => by
  have hB : Below w.heap.size w wq := ((Below.refl _ _).alloc (Nat.le_refl _) _).trans (hq.mono (by omega))
  exact ⟨(hq.cell (by simp)).trans (by simp [go_sem]), (hq.cell (by simp)).trans (by simp [go_sem]), (hq.cell (by simp)).trans (by simp [go_sem]), (hr.below hB).mono hB.size, (ht.below hB).mono hB.size, hB, by have := hq.size; simpa using this⟩

set_option maxRecDepth 100000 in
set_option maxHeartbeats 1600000 in
theorem recogTells_wrong {w : World} {T N : Int} {rv tv : Value} {R : List Ru} {tok : List Int} (hr : RulesAt w w.heap.size rv R) (ht : ListAt w w.heap.size tv tok) (hw : wrongE T N R tok ≠ 0) :
    Calls Try.prog 3 #[.agg #[.int .i64 T, .int .i64 N, rv], tv] w fun e w' => e = .returned (.bool true) ∧ Below w.heap.size w w' := by
  obtain ⟨ra, rc, hrv⟩ := hr.1
  obtain ⟨ta, tc, htv⟩ := ht.1
  subst hrv
  subst htv
  have HBX : Hid (∀ wq, Below (w.heap.size + 1) (w.alloc (.cells #[.int .i64 T, .int .i64 N, .slice ra R.length rc] 24)) wq → LawBoxR w T N (.slice ra R.length rc) (.slice ta tok.length tc) R tok wq) := lawBoxR hr ht
  have has := has_wrong (T := T) (N := N) (hr.boxed (.cells #[.int .i64 T, .int .i64 N, .slice ra R.length rc] 24)) (ht.boxed (.cells #[.int .i64 T, .int .i64 N, .slice ra R.length rc] 24)) hw
  simp only [World.size_alloc] at has
  obtain ⟨x, hx⟩ : ∃ x, wrongE T N R tok = x := ⟨_, rfl⟩
  rw [hx] at has hw
  have HX : Hid (wrongE T N R tok = x) := hx
  clear hr ht hx
  go_enter Try.func3, Try.ntmps3
  go_wp2_with
    (first
     | (go_at_call 4; refine has.mono ?_; rintro e w1 ⟨rfl, hB1⟩
        have b := HBX.out w1 hB1
        have b0 := b.c0
        have b1 := b.c1
        have b2 := b.c2
        have hs1 := b.size
        have wr5 := wrong5_any (T := T) (N := N) b.rules b.list
        rw [HX.out] at wr5
        have HB1 : Hid (Below (w.heap.size + 1) (w.alloc (.cells #[.int .i64 T, .int .i64 N, .slice ra R.length rc] 24)) w1) := hB1
        clear hB1 b has)
     | (go_at_call 5; refine wr5.mono ?_; rintro e w2 ⟨rfl, hB2⟩
        have HB2 : Hid (Below w.heap.size w w2) := (HBX.out w2 (HB1.out.trans (hB2.mono hs1))).below
        clear hB2 wr5))
  go_ret
  exact ⟨rfl, HB2.out⟩

set_option maxRecDepth 100000 in
set_option maxHeartbeats 1600000 in
theorem recogTells_right {w : World} {T N : Nat} {rv tv : Value} {R : List Ru} {tok : List Int} (hr : RulesAt w w.heap.size rv R) (ht : ListAt w w.heap.size tv tok) (hm : mayB T N R = true) (h30 : tok.length ≤ 30) (hin : inB T tok = true) :
    Calls Try.prog 3 #[.agg #[.int .i64 T, .int .i64 N, rv], tv] w fun e w' => e = .returned (.bool true) ∧ Below w.heap.size w w' := by
  obtain ⟨ra, rc, hrv⟩ := hr.1
  obtain ⟨ta, tc, htv⟩ := ht.1
  subst hrv
  subst htv
  have HBX : Hid (∀ wq, Below (w.heap.size + 1) (w.alloc (.cells #[.int .i64 T, .int .i64 N, .slice ra R.length rc] 24)) wq → LawBoxR w T N (.slice ra R.length rc) (.slice ta tok.length tc) R tok wq) := lawBoxR hr ht
  have has := has_right (T := T) (N := N) (hr.boxed (.cells #[.int .i64 T, .int .i64 N, .slice ra R.length rc] 24)) (ht.boxed (.cells #[.int .i64 T, .int .i64 N, .slice ra R.length rc] 24)) hm h30 hin
  simp only [World.size_alloc] at has
  have HX : Hid (wrongE T N R tok = 0) := by
    show wrongE T N R tok = 0
    simp [wrongE, hm, hin]
    omega
  have HM : Hid (mayB T N R = true) := hm
  have HF : Hid (Fine T N R) := may_FineR hm
  clear hr ht hm hin
  go_enter Try.func3, Try.ntmps3
  go_wp2_with
    (first
     | (go_at_call 4; refine has.mono ?_; rintro e w1 ⟨z, rfl, hz, hB1⟩
        have b := HBX.out w1 hB1
        have b0 := b.c0
        have b1 := b.c1
        have b2 := b.c2
        have hs1 := b.size
        have wr5 := wrong5_any (T := T) (N := N) b.rules b.list
        rw [HX.out] at wr5
        have HZ : Hid (z = true ↔ Der R 0 tok) := hz
        have HB1 : Hid (Below (w.heap.size + 1) (w.alloc (.cells #[.int .i64 T, .int .i64 N, .slice ra R.length rc] 24)) w1) := hB1
        clear hB1 b has hz)
     | (go_at_call 5; refine wr5.mono ?_; rintro e w2 ⟨rfl, hB2⟩
        have hC2 := HB1.out.trans (hB2.mono hs1)
        have b := HBX.out w2 hC2
        clear b0 b1 b2
        have b0 := b.c0
        have b1 := b.c1
        have b2 := b.c2
        have hs2 := b.size
        have h5 := has5_any (T := T) (N := N) b.rules b.list HM.out HF.out h30
        have HB2 : Hid (Below (w.heap.size + 1) (w.alloc (.cells #[.int .i64 T, .int .i64 N, .slice ra R.length rc] 24)) w2) := hC2
        clear hB2 hC2 b wr5)
     | (go_at_call 6; refine h5.mono ?_; rintro e w3 ⟨y, rfl, hy, hB3⟩
        have HB3 : Hid (Below w.heap.size w w3) := (HBX.out w3 (HB2.out.trans (hB3.mono hs2))).below
        have hyz : y = z := by
          have hz := HZ.out
          cases y <;> cases z <;> simp_all
        subst hyz
        clear hB3 hy h5 b0 b1 b2))
  go_ret
  exact ⟨rfl, HB3.out⟩

theorem recogTells_any {w : World} {T N : Int} {rv tv : Value} {R : List Ru} {tok : List Int} (hr : RulesAt w w.heap.size rv R) (ht : ListAt w w.heap.size tv tok) :
    Calls Try.prog 3 #[.agg #[.int .i64 T, .int .i64 N, rv], tv] w fun e w' => e = .returned (.bool true) ∧ Below w.heap.size w w' := by
  by_cases hw : wrongE T N R tok = 0
  · have hm : mayB T N R = true := by
      cases hm : mayB T N R with
      | true => rfl
      | false => simp [wrongE, hm] at hw
    have h30 : tok.length ≤ 30 := by
      by_cases h : 30 < tok.length
      · simp [wrongE, hm, h] at hw
      · omega
    have hin : inB T tok = true := by
      cases hin : inB T tok with
      | true => rfl
      | false => simp [wrongE, hm, hin] at hw; split at hw <;> simp at hw
    have hh := hm
    simp only [mayB, headB, Bool.and_eq_true, decide_eq_true_eq] at hh
    obtain ⟨t, rfl⟩ : ∃ t : Nat, T = t := ⟨T.toNat, by omega⟩
    obtain ⟨n, rfl⟩ : ∃ n : Nat, N = n := ⟨N.toNat, by omega⟩
    exact recogTells_right hr ht hm h30 hin
  · exact recogTells_wrong hr ht hw

end Go.Proofs.Ythmdlaappenjgaa
