/- The law pollardinglaw.ReachHolds: it returns true. -/
import Derived.Test.YtifacfhlgilgoaaReachCome
import Derived.Test.YtifacfhlgilgoaaUseMath
import Derived.Test.YtifacfhlgilgoaaThrUse
import Derived.BigQuiet
namespace Go.Proofs.Ytifacfhlgilgoaa
open Go.RowKit

/-- What the law's box and arguments are in a later world. -/
def LawBox (w : World) (T N : Int) (rv dv : Value) (R : List Ru) (D : List Int) (wq : World) : Prop :=
  wq.cell? ⟨w.heap.size, 0, none⟩ = some (.int .i64 T) ∧ wq.cell? ⟨w.heap.size, 1, none⟩ = some (.int .i64 N) ∧ wq.cell? ⟨w.heap.size, 2, none⟩ = some rv ∧ RulesAt wq wq.heap.size rv R ∧ ListAt wq wq.heap.size dv D ∧ Below w.heap.size w wq ∧ w.heap.size + 1 ≤ wq.heap.size

theorem lawBox {w : World} {T N : Int} {rv dv : Value} {R : List Ru} {D : List Int} (hr : RulesAt w w.heap.size rv R) (hd : ListAt w w.heap.size dv D) : ∀ wq, Below (w.heap.size + 1) (w.alloc (.cells #[.int .i64 T, .int .i64 N, rv] 24)) wq → LawBox w T N rv dv R D wq := fun wq hq => by
  have hB : Below w.heap.size w wq := ((Below.refl _ _).alloc (Nat.le_refl _) _).trans (hq.mono (by omega))
  exact ⟨(hq.cell (by simp)).trans (by simp [go_sem]), (hq.cell (by simp)).trans (by simp [go_sem]), (hq.cell (by simp)).trans (by simp [go_sem]), (hr.below hB).mono hB.size, (hd.below hB).mono hB.size, hB, by have := hq.size; simpa using this⟩

set_option maxRecDepth 100000 in
set_option maxHeartbeats 1600000 in
theorem reachHolds_not {w : World} {T N : Int} {rv dv : Value} {R : List Ru} {D : List Int} (hr : RulesAt w w.heap.size rv R) (hd : ListAt w w.heap.size dv D) (hm : mayB T N R = false) :
    Calls Try.prog 3 #[.agg #[.int .i64 T, .int .i64 N, rv], dv] w fun e w' => e = .returned (.bool true) ∧ Below w.heap.size w w' := by
  obtain ⟨ra, rc, hrv⟩ := hr.1
  obtain ⟨da, dc, hdv⟩ := hd.1
  subst hrv
  subst hdv
  have HBX : Hid (∀ wq, Below (w.heap.size + 1) (w.alloc (.cells #[.int .i64 T, .int .i64 N, .slice ra R.length rc] 24)) wq → LawBox w T N (.slice ra R.length rc) (.slice da D.length dc) R D wq) := lawBox hr hd
  have mk := devMakes_not (T := T) (N := N) (hr.boxed (.cells #[.int .i64 T, .int .i64 N, .slice ra R.length rc] 24)) hm
  simp only [World.size_alloc] at mk
  have HM : Hid (mayB T N R = false) := hm
  clear hr hm hd
  go_enter Try.func3, Try.ntmps3
  go_wp2_with
    (first
     | (go_at_call 4; refine mk.mono ?_; rintro e w1 ⟨rfl, hB1⟩
        obtain ⟨b0, b1, b2, hR, _, _, hs1⟩ := HBX.out w1 hB1
        have cm := devComes_not (T := T) (N := N) hR HM.out
        have HB1 : Hid (Below (w.heap.size + 1) (w.alloc (.cells #[.int .i64 T, .int .i64 N, .slice ra R.length rc] 24)) w1) := hB1
        clear hB1 hR mk)
     | (go_at_call 5; refine cm.mono ?_; rintro e w2 ⟨rfl, hB2⟩
        have hC2 := HB1.out.trans (hB2.mono hs1)
        clear b0 b1 b2
        obtain ⟨b0, b1, b2, hR, _, _, hs2⟩ := HBX.out w2 hC2
        have thr := thr_not (T := T) (N := N) (da := da) (dl := D.length) (dc := dc) hR (.inl HM.out)
        unfold noThrough at thr
        have HB2 : Hid (Below (w.heap.size + 1) (w.alloc (.cells #[.int .i64 T, .int .i64 N, .slice ra R.length rc] 24)) w2) := hC2
        clear hB2 hC2 hR cm)
     | (go_at_call 6; refine thr.mono ?_; rintro e w3 ⟨rfl, hB3⟩
        have hC3 := HB2.out.trans (hB3.mono hs2)
        clear b0 b1 b2
        obtain ⟨b0, b1, b2, hR, _, _, hs3⟩ := HBX.out w3 hC3
        have may := may1_any (T := T) (N := N) hR
        rw [HM.out] at may
        have HB3 : Hid (Below (w.heap.size + 1) (w.alloc (.cells #[.int .i64 T, .int .i64 N, .slice ra R.length rc] 24)) w3) := hC3
        clear hB3 hC3 hR thr)
     | (go_at_call 7; refine may.mono ?_; rintro e w4 ⟨rfl, hB4⟩
        have HB4 : Hid (Below w.heap.size w w4) := (HBX.out w4 (HB3.out.trans (hB4.mono hs3))).2.2.2.2.2.1
        clear hB4 may))
  go_ret
  exact ⟨rfl, HB4.out⟩

set_option maxRecDepth 100000 in
set_option maxHeartbeats 3200000 in
theorem reachHolds_none {w : World} {T N : Nat} {rv dv : Value} {R : List Ru} {D : List Int} (hr : RulesAt w w.heap.size rv R) (hd : ListAt w w.heap.size dv D) (hm : mayB T N R = true) (hn : readF R D = none) :
    Calls Try.prog 3 #[.agg #[.int .i64 T, .int .i64 N, rv], dv] w fun e w' => e = .returned (.bool true) ∧ Below w.heap.size w w' := by
  obtain ⟨ra, rc, hrv⟩ := hr.1
  obtain ⟨da, dc, hdv⟩ := hd.1
  subst hrv
  subst hdv
  obtain ⟨hT, hN1, hN, hRl, _⟩ := may_fine hm
  have HBX : Hid (∀ wq, Below (w.heap.size + 1) (w.alloc (.cells #[.int .i64 T, .int .i64 N, .slice ra R.length rc] 24)) wq → LawBox w T N (.slice ra R.length rc) (.slice da D.length dc) R D wq) := lawBox hr hd
  have mk := devMakes_may (T := T) (N := N) (hr.boxed (.cells #[.int .i64 T, .int .i64 N, .slice ra R.length rc] 24)) hm
  simp only [World.size_alloc] at mk
  have HM : Hid (mayB T N R = true) := hm
  have HF : Hid (Fine T N R) := may_Fine hm
  have HN : Hid (readF R D = none) := hn
  clear hr hm hd hn
  go_enter Try.func3, Try.ntmps3
  go_wp2_with
    (first
     | (go_at_call 4; refine mk.mono ?_; rintro e w1 ⟨g1, Y1, rfl, hB1, hr1, hm1⟩
        obtain ⟨b0, b1, b2, hR, _, _, hs1⟩ := HBX.out w1 hB1
        have cm := devComes_may (T := T) (N := N) hR HM.out
        have HB1 : Hid (Below (w.heap.size + 1) (w.alloc (.cells #[.int .i64 T, .int .i64 N, .slice ra R.length rc] 24)) w1) := hB1
        have HD1 : Hid (RowB w1 (w.heap.size + 1 + 1) g1 N Y1 ∧ ∀ n, hasB Y1 n ↔ MakesP N R n) := ⟨hr1, hm1⟩
        clear hB1 hR mk hr1 hm1)
     | (go_at_call 5; refine cm.mono ?_; rintro e w2 ⟨g2, Y2, rfl, hB2, hr2, hm2⟩
        have hC2 := HB1.out.trans (hB2.mono hs1)
        clear b0 b1 b2
        obtain ⟨b0, b1, b2, hR, hL, _, hs2⟩ := HBX.out w2 hC2
        have thr := thr_none (T := T) (N := N) hR hL HM.out HN.out
        unfold noThrough at thr
        have HB2 : Hid (Below (w.heap.size + 1) (w.alloc (.cells #[.int .i64 T, .int .i64 N, .slice ra R.length rc] 24)) w2) := hC2
        have HB12 : Hid (Below w1.heap.size w1 w2) := hB2
        have HD2 : Hid (RowB w2 (w1.heap.size + 1) g2 N Y2 ∧ ∀ n, hasB Y2 n ↔ ComesP N R n) := ⟨hr2, hm2⟩
        clear hB2 hC2 hR hL cm hr2 hm2)
     | (go_at_call 6; refine thr.mono ?_; rintro e w3 ⟨rfl, hB3⟩
        have hC3 := HB2.out.trans (hB3.mono hs2)
        clear b0 b1 b2
        obtain ⟨b0, b1, b2, hR, _, _, hs3⟩ := HBX.out w3 hC3
        have may := may1_any (T := T) (N := N) hR
        rw [HM.out] at may
        have HB3 : Hid (Below (w.heap.size + 1) (w.alloc (.cells #[.int .i64 T, .int .i64 N, .slice ra R.length rc] 24)) w3) := hC3
        have HB23 : Hid (Below w2.heap.size w2 w3) := hB3
        clear hB3 hC3 hR thr)
     | (go_at_call 7; refine may.mono ?_; rintro e w4 ⟨rfl, hB4⟩
        have hC4 := HB3.out.trans (hB4.mono hs3)
        clear b0 b1 b2
        obtain ⟨b0, b1, b2, hR, hL, hBw, hs4⟩ := HBX.out w4 hC4
        have HB4 : Hid (Below w.heap.size w w4) := hBw
        have HR4 : Hid (RulesAt w4 w4.heap.size (.slice ra R.length rc) R) := hR
        have HL4 : Hid (ListAt w4 w4.heap.size (.slice da D.length dc) D) := hL
        have h24 : Below w2.heap.size w2 w4 := HB23.out.trans (hB4.mono HB23.out.size)
        have HD1' : Hid (RowB w4 (w.heap.size + 1 + 1) g1 N Y1) := HD1.out.1.below (HB12.out.trans (h24.mono HB12.out.size))
        have HD2' : Hid (RowB w4 (w1.heap.size + 1) g2 N Y2) := HD2.out.1.below h24
        clear hB4 hC4 hR hL hBw may h24))
  go_loopw [12] (fun s wr => s = .int .i64 (0 : Int) ∧ wr = w4) (fun _ _ => 0)
  case atStart => exact ⟨rfl, rfl⟩
  case round =>
    obtain ⟨rfl, rfl⟩ := hrel
    by_cases h0 : 0 < D.length
    · have j0 : (0 : Int) < (D.length : Int) := by omega
      go_wp2_with fail
      go_ret
      exact ⟨rfl, HB4.out⟩
    · have j0 : decide ((0 : Int) < (D.length : Int)) = false := decide_eq_false (by omega)
      go_wp2_with fail
      go_ret
      exact ⟨rfl, HB4.out⟩

set_option maxRecDepth 100000 in
set_option maxHeartbeats 3200000 in
theorem reachHolds_some {w : World} {T N : Nat} {rv dv : Value} {R : List Ru} {D : List Int} {st : St} (hr : RulesAt w w.heap.size rv R) (hd : ListAt w w.heap.size dv D) (hm : mayB T N R = true) (hn : readF R D = some st) :
    Calls Try.prog 3 #[.agg #[.int .i64 T, .int .i64 N, rv], dv] w fun e w' => e = .returned (.bool true) ∧ Below w.heap.size w w' := by
  have hD : D.length ≤ 400 := by
    unfold readF at hn
    split at hn
    · cases hn
    · omega
  have HU : Hid (Used N R D 0 D.length) := read_used (may_Fine hm) hn
  obtain ⟨ra, rc, hrv⟩ := hr.1
  obtain ⟨da, dc, hdv⟩ := hd.1
  subst hrv
  subst hdv
  obtain ⟨hT, hN1, hN, hRl, _⟩ := may_fine hm
  have HBX : Hid (∀ wq, Below (w.heap.size + 1) (w.alloc (.cells #[.int .i64 T, .int .i64 N, .slice ra R.length rc] 24)) wq → LawBox w T N (.slice ra R.length rc) (.slice da D.length dc) R D wq) := lawBox hr hd
  have mk := devMakes_may (T := T) (N := N) (hr.boxed (.cells #[.int .i64 T, .int .i64 N, .slice ra R.length rc] 24)) hm
  simp only [World.size_alloc] at mk
  have HM : Hid (mayB T N R = true) := hm
  have HF : Hid (Fine T N R) := may_Fine hm
  have HN : Hid (readF R D = some st) := hn
  clear hr hm hd hn
  go_enter Try.func3, Try.ntmps3
  go_wp2_with
    (first
     | (go_at_call 4; refine mk.mono ?_; rintro e w1 ⟨g1, Y1, rfl, hB1, hr1, hm1⟩
        obtain ⟨b0, b1, b2, hR, _, _, hs1⟩ := HBX.out w1 hB1
        have cm := devComes_may (T := T) (N := N) hR HM.out
        have HB1 : Hid (Below (w.heap.size + 1) (w.alloc (.cells #[.int .i64 T, .int .i64 N, .slice ra R.length rc] 24)) w1) := hB1
        have HD1 : Hid (RowB w1 (w.heap.size + 1 + 1) g1 N Y1 ∧ ∀ n, hasB Y1 n ↔ MakesP N R n) := ⟨hr1, hm1⟩
        clear hB1 hR mk hr1 hm1)
     | (go_at_call 5; refine cm.mono ?_; rintro e w2 ⟨g2, Y2, rfl, hB2, hr2, hm2⟩
        have hC2 := HB1.out.trans (hB2.mono hs1)
        clear b0 b1 b2
        obtain ⟨b0, b1, b2, hR, hL, _, hs2⟩ := HBX.out w2 hC2
        have thr := thr_some (T := T) (N := N) hR hL HM.out HN.out
        have HB2 : Hid (Below (w.heap.size + 1) (w.alloc (.cells #[.int .i64 T, .int .i64 N, .slice ra R.length rc] 24)) w2) := hC2
        have HB12 : Hid (Below w1.heap.size w1 w2) := hB2
        have HD2 : Hid (RowB w2 (w1.heap.size + 1) g2 N Y2 ∧ ∀ n, hasB Y2 n ↔ ComesP N R n) := ⟨hr2, hm2⟩
        clear hB2 hC2 hR hL cm hr2 hm2)
     | (go_at_call 6; refine thr.mono ?_; rintro e w3 ⟨ta, tc, sv, rfl, hB3, _⟩
        have hC3 := HB2.out.trans (hB3.mono hs2)
        clear b0 b1 b2
        obtain ⟨b0, b1, b2, hR, _, _, hs3⟩ := HBX.out w3 hC3
        have may := may1_any (T := T) (N := N) hR
        rw [HM.out] at may
        have HB3 : Hid (Below (w.heap.size + 1) (w.alloc (.cells #[.int .i64 T, .int .i64 N, .slice ra R.length rc] 24)) w3) := hC3
        have HB23 : Hid (Below w2.heap.size w2 w3) := hB3
        clear hB3 hC3 hR thr)
     | (go_at_call 7; refine may.mono ?_; rintro e w4 ⟨rfl, hB4⟩
        have hC4 := HB3.out.trans (hB4.mono hs3)
        clear b0 b1 b2
        obtain ⟨b0, b1, b2, hR, hL, hBw, hs4⟩ := HBX.out w4 hC4
        have HB4 : Hid (Below w.heap.size w w4) := hBw
        have HR4 : Hid (RulesAt w4 w4.heap.size (.slice ra R.length rc) R) := hR
        have HL4 : Hid (ListAt w4 w4.heap.size (.slice da D.length dc) D) := hL
        have h24 : Below w2.heap.size w2 w4 := HB23.out.trans (hB4.mono HB23.out.size)
        have HD1' : Hid (RowB w4 (w.heap.size + 1 + 1) g1 N Y1) := HD1.out.1.below (HB12.out.trans (h24.mono HB12.out.size))
        have HD2' : Hid (RowB w4 (w1.heap.size + 1) g2 N Y2) := HD2.out.1.below h24
        clear hB4 hC4 hR hL hBw may h24))
  have HBx : Hid (w4.cell? ⟨w.heap.size, 2, none⟩ = some (.slice ra R.length rc)) := b2
  clear b0 b1 b2
  go_loopw [12] (fun s wr => ∃ k m : Nat, s = .int .i64 k ∧ k ≤ D.length ∧ wr = w4.drewN m) (fun s _ => D.length - (intOf s).toNat)
  case atStart => exact ⟨0, 0, rfl, Nat.zero_le _, rfl⟩
  case round =>
    obtain ⟨k, m, rfl, hk, rfl⟩ := hrel
    by_cases hlt : k < D.length
    · obtain ⟨q, hq, hqR, hmk, hcm⟩ := HU.out k (Nat.zero_le _) hlt
      obtain ⟨db, dO, dc', hde, _, d1⟩ := HL4.out.2 k hlt
      cases hde
      have hDk : D.getD k 0 = (q : Int) := by simp [List.getD, hq]
      rw [hDk] at d1
      obtain ⟨b, o, rc', qa, qc, hv, hb, k1, _⟩ := HR4.out.2 q hqR
      cases hv
      have hL := HF.out.left _ (mem_getD hqR)
      obtain ⟨l, hl⟩ : ∃ l : Nat, (R.getD q (0, [])).1 = l := ⟨(R.getD q (0, [])).1.toNat, by omega⟩
      rw [hl] at k1 hmk hcm hL
      have hlN : l < N := by omega
      have c1 := (HD1'.out.cell hlN).1
      have c2 := (HD2'.out.cell hlN).1
      have e1 : Y1.getD l false = true := by simpa using ((HD1.out.2 l).2 hmk).2
      have e2 : Y2.getD l false = true := by simpa using ((HD2.out.2 l).2 hcm).2
      rw [e1] at c1
      rw [e2] at c2
      have d2 := HBx.out
      have i0 : (0 : Int) ≤ (k : Int) := Int.natCast_nonneg _
      have i1 : (k : Int) < (D.length : Int) := by omega
      have i2 : (0 : Int) ≤ (q : Int) := Int.natCast_nonneg _
      have i3 : (q : Int) < (R.length : Int) := by omega
      have i4 : (0 : Int) ≤ (l : Int) := Int.natCast_nonneg _
      have i5 : (l : Int) < (N : Int) := by omega
      clear hmk hcm hL hl e1 e2 hDk hq
      go_wp2_with fail
      go_big_quiet (fail)
      go_wp2_with fail
      go_roundw
      case rel => exact ⟨k + 1, _, by go_num, by omega, rfl⟩
      case measure => simp [intOf]; omega
    · have j0 : decide ((k : Int) < (D.length : Int)) = false := by simp; omega
      go_wp2_with fail
      go_ret
      exact ⟨rfl, below_drewN HB4.out _⟩

theorem reachHolds_any {w : World} {T N : Int} {rv dv : Value} {R : List Ru} {D : List Int} (hr : RulesAt w w.heap.size rv R) (hd : ListAt w w.heap.size dv D) :
    Calls Try.prog 3 #[.agg #[.int .i64 T, .int .i64 N, rv], dv] w fun e w' => e = .returned (.bool true) ∧ Below w.heap.size w w' := by
  cases hm : mayB T N R with
  | false => exact reachHolds_not hr hd hm
  | true =>
    have hh := hm
    simp only [mayB, headB, Bool.and_eq_true, decide_eq_true_eq] at hh
    obtain ⟨t, rfl⟩ : ∃ t : Nat, T = t := ⟨T.toNat, by omega⟩
    obtain ⟨n, rfl⟩ : ∃ n : Nat, N = n := ⟨N.toNat, by omega⟩
    cases hn : readF R D with
    | none => exact reachHolds_none hr hd hm hn
    | some st => exact reachHolds_some hr hd hm hn

end Go.Proofs.Ytifacfhlgilgoaa
