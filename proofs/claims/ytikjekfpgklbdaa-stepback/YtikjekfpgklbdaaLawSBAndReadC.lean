import Derived.Test.YtikjekfpgklbdaaThrAndStPl
import Derived.Test.YtikjekfpgklbdaaRows
import Derived.Test.YtikjekfpgklbdaaMathAndOwns
import Derived.ProofKit
import Derived.Deep.SlicePairs
/- The law pollardinglaw.StepBack: it returns true. -/
namespace Go.Proofs.Ytikjekfpgklbdaa
open Go.RowKit

section
variable {w : World} {ra : Option Addr} {rc : Nat} {R : List Ru} {dv : Value} {D : List Int}

set_option maxRecDepth 100000 in
set_option maxHeartbeats 3200000 in
theorem stepBack_bad {T N : Int} (hr : RulesAt w w.heap.size (.slice ra R.length rc) R) (hd : ListAt w w.heap.size dv D) (s : Stp) (hE : (verd T N R s).2.2.1 ≠ 0) :
    Calls Try.prog 3 #[.agg #[.int .i64 T, .int .i64 N, .slice ra R.length rc], .agg #[.int .i64 s.op, .int .i64 s.a, .int .i64 s.b, .int .i64 s.c], dv] w fun e w' => e = .returned (.bool true) ∧ Below w.heap.size w w' := by
  obtain ⟨W0, hW0⟩ : ∃ W, (w.alloc (.cells #[.int .i64 T, .int .i64 N, .slice ra R.length rc] 24)).alloc (.cells #[.int .i64 s.op, .int .i64 s.a, .int .i64 s.b, .int .i64 s.c] 26) = W := ⟨_, rfl⟩
  have hK := kpIn_start (T := T) (N := N) (s := s) hr hd
  rw [hW0] at hK
  have HK : Hid (KpIn w T N ra rc R s dv D W0) := hK
  have HBk : Hid (∀ wq, Below W0.heap.size W0 wq → Calls Try.prog 5 #[.agg #[.int .i64 T, .int .i64 N, .slice ra R.length rc], .agg #[.int .i64 s.op, .int .i64 s.a, .int .i64 s.b, .int .i64 s.c], dv] wq fun e w' => e = .returned (.tuple #[.slice none 0 0, .bool false]) ∧ Below wq.heap.size wq w') := fun wq hq => st_Back_no (HK.out.next hq).all (HK.out.next hq).allT s hE
  obtain ⟨da, dc, hdv⟩ := hd.1
  subst hdv
  have g0 := hK.g0
  have g1 := hK.g1
  have g2 := hK.g2
  have s0 := hK.s0
  have s1 := hK.s1
  have s2 := hK.s2
  have s3 := hK.s3
  have d8 := do8_verd (T := T) (N := N) hK.all s
  obtain ⟨⟨V, M, E, RR⟩, hV⟩ : ∃ x, verd T N R s = x := ⟨_, rfl⟩
  rw [hV] at d8 hE
  simp only at d8 hE
  have hE1 : (E == 0) = false := by simpa using hE
  have hE2 : (E != 0) = true := by simpa using hE
  have hE3 : decide (E = 0) = false := decide_eq_false hE
  clear hr hd hK hV hE
  go_enter Try.func3, Try.ntmps3
  go_wp2_with
    (first
     | (go_at_call 4; refine d8.mono ?_; rintro e w2 ⟨oa, oc, rfl, hru, hB2⟩
        have hB3 : Below W0.heap.size W0 (w2.alloc (.cells #[.int .i64 V, .int .i64 M, .slice oa RR.length oc] 24)) := hB2.alloc hB2.size _
        have hbx : BoxR V M oa oc RR w2.heap.size (w2.alloc (.cells #[.int .i64 V, .int .i64 M, .slice oa RR.length oc] 24)) := boxR_new hru
        obtain ⟨w3, hw3⟩ : ∃ W, w2.alloc (.cells #[.int .i64 V, .int .i64 M, .slice oa RR.length oc] 24) = W := ⟨_, rfl⟩
        rw [hw3] at hB3 hbx
        have hK3 := HK.out.next hB3
        have u0 := hK3.g0
        have u1 := hK3.g1
        have u2 := hK3.g2
        have u3 := hK3.s0
        have u4 := hK3.s1
        have u5 := hK3.s2
        have u6 := hK3.s3
        have bk := HBk.out w3 hB3
        have HB3 : Hid (Below W0.heap.size W0 w3 ∧ BoxR V M oa oc RR w2.heap.size w3) := ⟨hB3, hbx⟩
        clear d8 hB2 hB3 hK3 hru hbx g0 g1 g2 s0 s1 s2 s3 hW0)
     | (go_at_call 5; refine bk.mono ?_; rintro e w4 ⟨rfl, hB4⟩
        have HB4 : Hid (Below W0.heap.size W0 w4) := HB3.out.1.trans (hB4.mono HB3.out.1.size)
        clear bk hB4))
  go_ret
  exact ⟨rfl, (HK.out.next HB4.out).below⟩

set_option maxRecDepth 100000 in
set_option maxHeartbeats 3200000 in
theorem stepBack_none {T N : Nat} (hr : RulesAt w w.heap.size (.slice ra R.length rc) R) (hd : ListAt w w.heap.size dv D) (hdc : ∃ da n dc, dv = .slice da n dc ∧ n ≤ dc) (s : Stp) (hm : mayB T N R = true) (hs : stepB N R s = true) (hz : mayB T (doN N s : Nat) (doR N R s) = true) (hV : verd T N R s = ((T : Int), ((doN N s : Nat) : Int), 0, doR N R s)) (h : readF (doR N R s) D = none) :
    Calls Try.prog 3 #[.agg #[.int .i64 T, .int .i64 N, .slice ra R.length rc], .agg #[.int .i64 s.op, .int .i64 s.a, .int .i64 s.b, .int .i64 s.c], dv] w fun e w' => e = .returned (.bool true) ∧ Below w.heap.size w w' := by
  obtain ⟨W0, hW0⟩ : ∃ W, (w.alloc (.cells #[.int .i64 T, .int .i64 N, .slice ra R.length rc] 24)).alloc (.cells #[.int .i64 s.op, .int .i64 s.a, .int .i64 s.b, .int .i64 s.c] 26) = W := ⟨_, rfl⟩
  have hK := kpIn_start (T := T) (N := N) (s := s) hr hd
  rw [hW0] at hK
  have HK : Hid (KpIn w T N ra rc R s dv D W0) := hK
  have HBk : Hid (∀ wq, Below W0.heap.size W0 wq → Calls Try.prog 5 #[.agg #[.int .i64 T, .int .i64 N, .slice ra R.length rc], .agg #[.int .i64 s.op, .int .i64 s.a, .int .i64 s.b, .int .i64 s.c], dv] wq fun e w' => e = .returned (.tuple #[.slice none 0 0, .bool false]) ∧ Below wq.heap.size wq w') := fun wq hq => by
    refine (st_Back_yes (HK.out.next hq).all (HK.out.next hq).allT hdc s hm hs hz (carZ_none h)).mono ?_
    rintro e w' ⟨lv, bo, rfl, ⟨rfl, rfl⟩, hB⟩
    exact ⟨rfl, hB⟩
  have HTh : Hid (∀ wq oa oc, Below W0.heap.size W0 wq → RulesAt wq wq.heap.size (.slice oa (doR N R s).length oc) (doR N R s) → Calls Try.prog 6 #[.agg #[.int .i64 T, .int .i64 ((doN N s : Nat) : Int), .slice oa (doR N R s).length oc], dv] wq fun e w' => e = .returned (.tuple #[.slice none 0 0, .slice none 0 0, .bool false]) ∧ Below wq.heap.size wq w') := fun wq oa oc hq hru => thr_none hru (HK.out.next hq).allT hz h
  obtain ⟨da, dc, hdv⟩ := hd.1
  subst hdv
  have g0 := hK.g0
  have g1 := hK.g1
  have g2 := hK.g2
  have s0 := hK.s0
  have s1 := hK.s1
  have s2 := hK.s2
  have s3 := hK.s3
  have d8 := do8_verd (T := T) (N := N) hK.all s
  rw [hV] at d8
  simp only at d8
  obtain ⟨M, hMn⟩ : ∃ M : Int, ((doN N s : Nat) : Int) = M := ⟨_, rfl⟩
  obtain ⟨RR, hRR⟩ : ∃ RR, doR N R s = RR := ⟨_, rfl⟩
  rw [hMn, hRR] at d8 HTh
  clear hr hd hK hV hm hs hz h hdc hMn hRR
  go_enter Try.func3, Try.ntmps3
  go_wp2_with
    (first
     | (go_at_call 4; refine d8.mono ?_; rintro e w2 ⟨oa, oc, rfl, hru, hB2⟩
        have hB3 : Below W0.heap.size W0 (w2.alloc (.cells #[.int .i64 (T : Int), .int .i64 M, .slice oa RR.length oc] 24)) := hB2.alloc hB2.size _
        have hbx : BoxR (T : Int) M oa oc RR w2.heap.size (w2.alloc (.cells #[.int .i64 (T : Int), .int .i64 M, .slice oa RR.length oc] 24)) := boxR_new hru
        obtain ⟨w3, hw3⟩ : ∃ W, w2.alloc (.cells #[.int .i64 (T : Int), .int .i64 M, .slice oa RR.length oc] 24) = W := ⟨_, rfl⟩
        rw [hw3] at hB3 hbx
        have hK3 := HK.out.next hB3
        have u0 := hK3.g0
        have u1 := hK3.g1
        have u2 := hK3.g2
        have u3 := hK3.s0
        have u4 := hK3.s1
        have u5 := hK3.s2
        have u6 := hK3.s3
        have bk := HBk.out w3 hB3
        have HB3 : Hid (Below W0.heap.size W0 w3 ∧ BoxR (T : Int) M oa oc RR w2.heap.size w3) := ⟨hB3, hbx⟩
        clear d8 hB2 hB3 hK3 hru hbx g0 g1 g2 s0 s1 s2 s3 hW0)
     | (go_at_call 5; refine bk.mono ?_; rintro e w4 ⟨rfl, hB4⟩
        have hB4' : Below W0.heap.size W0 w4 := HB3.out.1.trans (hB4.mono HB3.out.1.size)
        have hb4 := HB3.out.2.next hB4
        have v0 := hb4.c0
        have v1 := hb4.c1
        have v2 := hb4.c2
        have th := HTh.out w4 oa oc hB4' hb4.rules
        have HB4 : Hid (Below W0.heap.size W0 w4) := hB4'
        clear bk hB4 hB4' hb4)
     | (go_at_call 6; refine th.mono ?_; rintro e w5 ⟨rfl, hB5⟩
        have HB5 : Hid (Below W0.heap.size W0 w5) := HB4.out.trans (hB5.mono HB4.out.size)
        clear th hB5))
  go_ret
  exact ⟨rfl, (HK.out.next HB5.out).below⟩

set_option maxRecDepth 100000 in
set_option maxHeartbeats 3200000 in
theorem stepBack_long {T N : Nat} (hr : RulesAt w w.heap.size (.slice ra R.length rc) R) (hd : ListAt w w.heap.size dv D) (hdc : ∃ da n dc, dv = .slice da n dc ∧ n ≤ dc) (s : Stp) (hm : mayB T N R = true) (hs : stepB N R s = true) (hz : mayB T (doN N s : Nat) (doR N R s) = true) (hV : verd T N R s = ((T : Int), ((doN N s : Nat) : Int), 0, doR N R s)) {st : St} (h : readF (doR N R s) D = some st) (hD : 200 < D.length) :
    Calls Try.prog 3 #[.agg #[.int .i64 T, .int .i64 N, .slice ra R.length rc], .agg #[.int .i64 s.op, .int .i64 s.a, .int .i64 s.b, .int .i64 s.c], dv] w fun e w' => e = .returned (.bool true) ∧ Below w.heap.size w w' := by
  obtain ⟨W0, hW0⟩ : ∃ W, (w.alloc (.cells #[.int .i64 T, .int .i64 N, .slice ra R.length rc] 24)).alloc (.cells #[.int .i64 s.op, .int .i64 s.a, .int .i64 s.b, .int .i64 s.c] 26) = W := ⟨_, rfl⟩
  have hK := kpIn_start (T := T) (N := N) (s := s) hr hd
  rw [hW0] at hK
  have HK : Hid (KpIn w T N ra rc R s dv D W0) := hK
  have HBk : Hid (∀ wq, Below W0.heap.size W0 wq → Calls Try.prog 5 #[.agg #[.int .i64 T, .int .i64 N, .slice ra R.length rc], .agg #[.int .i64 s.op, .int .i64 s.a, .int .i64 s.b, .int .i64 s.c], dv] wq fun e w' => ∃ lv bo, e = .returned (.tuple #[lv, .bool bo]) ∧ Below wq.heap.size wq w') := fun wq hq => by
    obtain ⟨Z, hZ⟩ := bak_some (may_Fine hm) hs h
    refine (st_Back_yes (HK.out.next hq).all (HK.out.next hq).allT hdc s hm hs hz hZ).mono ?_
    rintro e w' ⟨lv, bo, rfl, _, hB⟩
    exact ⟨lv, bo, rfl, hB⟩
  have HTh : Hid (∀ wq oa oc, Below W0.heap.size W0 wq → RulesAt wq wq.heap.size (.slice oa (doR N R s).length oc) (doR N R s) → Calls Try.prog 6 #[.agg #[.int .i64 T, .int .i64 ((doN N s : Nat) : Int), .slice oa (doR N R s).length oc], dv] wq fun e w' => ∃ tv sv, e = .returned (.tuple #[tv, sv, .bool true]) ∧ Below wq.heap.size wq w') := fun wq oa oc hq hru => by
    refine (thr_some hru (HK.out.next hq).allT hz h).mono ?_
    rintro e w' ⟨ta, tc, sv, rfl, hB, _⟩
    exact ⟨_, _, rfl, hB⟩
  obtain ⟨da, dc, hdv⟩ := hd.1
  subst hdv
  have g0 := hK.g0
  have g1 := hK.g1
  have g2 := hK.g2
  have s0 := hK.s0
  have s1 := hK.s1
  have s2 := hK.s2
  have s3 := hK.s3
  have d8 := do8_verd (T := T) (N := N) hK.all s
  rw [hV] at d8
  simp only at d8
  obtain ⟨M, hMn⟩ : ∃ M : Int, ((doN N s : Nat) : Int) = M := ⟨_, rfl⟩
  obtain ⟨RR, hRR⟩ : ∃ RR, doR N R s = RR := ⟨_, rfl⟩
  rw [hMn, hRR] at d8 HTh
  have hd1 : decide (200 < D.length) = true := decide_eq_true hD
  have hd2 : decide ((200 : Int) < (D.length : Int)) = true := decide_eq_true (by omega)
  clear hr hd hK hV hm hs hz h hdc hMn hRR hD
  go_enter Try.func3, Try.ntmps3
  go_wp2_with
    (first
     | (go_at_call 4; refine d8.mono ?_; rintro e w2 ⟨oa, oc, rfl, hru, hB2⟩
        have hB3 : Below W0.heap.size W0 (w2.alloc (.cells #[.int .i64 (T : Int), .int .i64 M, .slice oa RR.length oc] 24)) := hB2.alloc hB2.size _
        have hbx : BoxR (T : Int) M oa oc RR w2.heap.size (w2.alloc (.cells #[.int .i64 (T : Int), .int .i64 M, .slice oa RR.length oc] 24)) := boxR_new hru
        obtain ⟨w3, hw3⟩ : ∃ W, w2.alloc (.cells #[.int .i64 (T : Int), .int .i64 M, .slice oa RR.length oc] 24) = W := ⟨_, rfl⟩
        rw [hw3] at hB3 hbx
        have hK3 := HK.out.next hB3
        have u0 := hK3.g0
        have u1 := hK3.g1
        have u2 := hK3.g2
        have u3 := hK3.s0
        have u4 := hK3.s1
        have u5 := hK3.s2
        have u6 := hK3.s3
        have bk := HBk.out w3 hB3
        have HB3 : Hid (Below W0.heap.size W0 w3 ∧ BoxR (T : Int) M oa oc RR w2.heap.size w3) := ⟨hB3, hbx⟩
        clear d8 hB2 hB3 hK3 hru hbx g0 g1 g2 s0 s1 s2 s3 hW0)
     | (go_at_call 5; refine bk.mono ?_; rintro e w4 ⟨lv, bo, rfl, hB4⟩
        have hB4' : Below W0.heap.size W0 w4 := HB3.out.1.trans (hB4.mono HB3.out.1.size)
        have hb4 := HB3.out.2.next hB4
        have v0 := hb4.c0
        have v1 := hb4.c1
        have v2 := hb4.c2
        have th := HTh.out w4 oa oc hB4' hb4.rules
        have HB4 : Hid (Below W0.heap.size W0 w4) := hB4'
        clear bk hB4 hB4' hb4)
     | (go_at_call 6; refine th.mono ?_; rintro e w5 ⟨tv, sv, rfl, hB5⟩
        have HB5 : Hid (Below W0.heap.size W0 w5) := HB4.out.trans (hB5.mono HB4.out.size)
        clear th hB5))
  go_ret
  exact ⟨rfl, (HK.out.next HB5.out).below⟩

set_option maxRecDepth 100000 in
set_option maxHeartbeats 3200000 in
theorem stepBack_yes {T N : Nat} (hr : RulesAt w w.heap.size (.slice ra R.length rc) R) (hd : ListAt w w.heap.size dv D) (hdc : ∃ da n dc, dv = .slice da n dc ∧ n ≤ dc) (s : Stp) (hm : mayB T N R = true) (hs : stepB N R s = true) (hz : mayB T (doN N s : Nat) (doR N R s) = true) (hV : verd T N R s = ((T : Int), ((doN N s : Nat) : Int), 0, doR N R s)) {st : St} (h : readF (doR N R s) D = some st) (hD : D.length ≤ 200) :
    Calls Try.prog 3 #[.agg #[.int .i64 T, .int .i64 N, .slice ra R.length rc], .agg #[.int .i64 s.op, .int .i64 s.a, .int .i64 s.b, .int .i64 s.c], dv] w fun e w' => e = .returned (.bool true) ∧ Below w.heap.size w w' := by
  obtain ⟨W0, hW0⟩ : ∃ W, (w.alloc (.cells #[.int .i64 T, .int .i64 N, .slice ra R.length rc] 24)).alloc (.cells #[.int .i64 s.op, .int .i64 s.a, .int .i64 s.b, .int .i64 s.c] 26) = W := ⟨_, rfl⟩
  have hK := kpIn_start (T := T) (N := N) (s := s) hr hd
  rw [hW0] at hK
  have HK : Hid (KpIn w T N ra rc R s dv D W0) := hK
  obtain ⟨X, st', hZ1, hX, hYY, hZ2⟩ := bak_all (may_Fine hm) hs h hD
  have hYl := read_short hz h
  obtain ⟨Y, hY⟩ : ∃ Y, st.Y = Y := ⟨_, rfl⟩
  rw [hY] at hYY hYl
  have HBk : Hid (∀ wq, Below W0.heap.size W0 wq → Calls Try.prog 5 #[.agg #[.int .i64 T, .int .i64 N, .slice ra R.length rc], .agg #[.int .i64 s.op, .int .i64 s.a, .int .i64 s.b, .int .i64 s.c], dv] wq fun e w' => ∃ xa xc, e = .returned (.tuple #[.slice xa X.length xc, .bool true]) ∧ ListAt w' w'.heap.size (.slice xa X.length xc) X ∧ X.length ≤ xc ∧ Below wq.heap.size wq w') := fun wq hq => by
    refine (st_Back_yes (HK.out.next hq).all (HK.out.next hq).allT hdc s hm hs hz hZ1).mono ?_
    rintro e w' ⟨lv, bo, rfl, ⟨rfl, h1, h2⟩, hB⟩
    obtain ⟨xa, xc, rfl⟩ := h1.1
    obtain ⟨_, _, _, e, hle⟩ := h2
    injection e with _ e2 e3
    exact ⟨xa, xc, rfl, h1, by omega, hB⟩
  have HFw : Hid (∀ wq xa xc, Below W0.heap.size W0 wq → ListAt wq wq.heap.size (.slice xa X.length xc) X → X.length ≤ xc → Calls Try.prog 7 #[.agg #[.int .i64 T, .int .i64 N, .slice ra R.length rc], .agg #[.int .i64 s.op, .int .i64 s.a, .int .i64 s.b, .int .i64 s.c], .slice xa X.length xc] wq fun e w' => ∃ za zc, e = .returned (.tuple #[.slice za D.length zc, .bool true]) ∧ ListAt w' w'.heap.size (.slice za D.length zc) D ∧ Below wq.heap.size wq w') := fun wq xa xc hq hx hxc => by
    refine (st_Forward_yes (HK.out.next hq).all hx ⟨_, _, _, rfl, hxc⟩ s hm hs hz hZ2).mono ?_
    rintro e w' ⟨lv, bo, rfl, ⟨rfl, h1, h2⟩, hB⟩
    obtain ⟨za, zc, rfl⟩ := h1.1
    exact ⟨za, zc, rfl, h1, hB⟩
  have HTh : Hid (∀ wq oa oc, Below W0.heap.size W0 wq → RulesAt wq wq.heap.size (.slice oa (doR N R s).length oc) (doR N R s) → Calls Try.prog 6 #[.agg #[.int .i64 T, .int .i64 ((doN N s : Nat) : Int), .slice oa (doR N R s).length oc], dv] wq fun e w' => ∃ ta tc sv, e = .returned (.tuple #[.slice ta Y.length tc, sv, .bool true]) ∧ ListAt w' w'.heap.size (.slice ta Y.length tc) Y ∧ Below wq.heap.size wq w') := fun wq oa oc hq hru => by
    refine (thr_some hru (HK.out.next hq).allT hz h).mono ?_
    rintro e w' ⟨ta, tc, sv, rfl, hB, ho⟩
    rw [hY] at ho ⊢
    exact ⟨ta, tc, sv, rfl, own_listT ho, hB⟩
  have HT2 : Hid (∀ wq xa xc, Below W0.heap.size W0 wq → ListAt wq wq.heap.size (.slice xa X.length xc) X → Calls Try.prog 6 #[.agg #[.int .i64 T, .int .i64 N, .slice ra R.length rc], .slice xa X.length xc] wq fun e w' => ∃ ta tc sv, e = .returned (.tuple #[.slice ta Y.length tc, sv, .bool true]) ∧ ListAt w' w'.heap.size (.slice ta Y.length tc) Y ∧ Below wq.heap.size wq w') := fun wq xa xc hq hx => by
    refine (thr_some (HK.out.next hq).all hx hm hX).mono ?_
    rintro e w' ⟨ta, tc, sv, rfl, hB, ho⟩
    rw [hYY] at ho ⊢
    exact ⟨ta, tc, sv, rfl, own_listT ho, hB⟩
  obtain ⟨da, dc, hdv⟩ := hd.1
  subst hdv
  have g0 := hK.g0
  have g1 := hK.g1
  have g2 := hK.g2
  have s0 := hK.s0
  have s1 := hK.s1
  have s2 := hK.s2
  have s3 := hK.s3
  have d8 := do8_verd (T := T) (N := N) hK.all s
  rw [hV] at d8
  simp only at d8
  obtain ⟨M, hMn⟩ : ∃ M : Int, ((doN N s : Nat) : Int) = M := ⟨_, rfl⟩
  obtain ⟨RR, hRR⟩ : ∃ RR, doR N R s = RR := ⟨_, rfl⟩
  rw [hMn, hRR] at d8 HTh
  have hd1 : decide (200 < D.length) = false := decide_eq_false (by omega)
  have hd2 : decide ((200 : Int) < (D.length : Int)) = false := decide_eq_false (by omega)
  have HDl : Hid (D.length ≤ 200 ∧ Y.length ≤ 10000) := ⟨hD, hYl⟩
  clear hr hd hK hV hm hs hz h hdc hMn hRR hD hZ1 hZ2 hX hYY hY hYl
  go_enter Try.func3, Try.ntmps3
  go_wp2_with
    (first
     | (go_at_call 4; refine d8.mono ?_; rintro e w2 ⟨oa, oc, rfl, hru, hB2⟩
        have hB3 : Below W0.heap.size W0 (w2.alloc (.cells #[.int .i64 (T : Int), .int .i64 M, .slice oa RR.length oc] 24)) := hB2.alloc hB2.size _
        have hbx : BoxR (T : Int) M oa oc RR w2.heap.size (w2.alloc (.cells #[.int .i64 (T : Int), .int .i64 M, .slice oa RR.length oc] 24)) := boxR_new hru
        obtain ⟨w3, hw3⟩ : ∃ W, w2.alloc (.cells #[.int .i64 (T : Int), .int .i64 M, .slice oa RR.length oc] 24) = W := ⟨_, rfl⟩
        rw [hw3] at hB3 hbx
        have hK3 := HK.out.next hB3
        have u0 := hK3.g0
        have u1 := hK3.g1
        have u2 := hK3.g2
        have u3 := hK3.s0
        have u4 := hK3.s1
        have u5 := hK3.s2
        have u6 := hK3.s3
        have bk := HBk.out w3 hB3
        have HB3 : Hid (Below W0.heap.size W0 w3 ∧ BoxR (T : Int) M oa oc RR w2.heap.size w3) := ⟨hB3, hbx⟩
        clear d8 hB2 hB3 hK3 hru hbx g0 g1 g2 s0 s1 s2 s3 hW0)
     | (go_at_call 5; refine bk.mono ?_; rintro e w4 ⟨xa, xc, rfl, hlx, hxc, hB4⟩
        have hB4' : Below W0.heap.size W0 w4 := HB3.out.1.trans (hB4.mono HB3.out.1.size)
        have hb4 := HB3.out.2.next hB4
        have v0 := hb4.c0
        have v1 := hb4.c1
        have v2 := hb4.c2
        have th := HTh.out w4 oa oc hB4' hb4.rules
        have HB4 : Hid (Below W0.heap.size W0 w4 ∧ ListAt w4 w4.heap.size (.slice xa X.length xc) X ∧ X.length ≤ xc) := ⟨hB4', hlx, hxc⟩
        clear bk hB4 hB4' hb4 hlx hxc)
     | (go_at_call 6; with_reducible refine th.mono ?_; rintro e w5 ⟨ta, tc, sv, rfl, hlt, hB5⟩
        have hB5' : Below W0.heap.size W0 w5 := HB4.out.1.trans (hB5.mono HB4.out.1.size)
        have hK5 := HK.out.next hB5'
        have u0 := hK5.g0
        have u1 := hK5.g1
        have u2 := hK5.g2
        have hlx := (HB4.out.2.1.below hB5).mono hB5.size
        have th2 := HT2.out w5 xa xc hB5' hlx
        have HB5 : Hid (Below W0.heap.size W0 w5 ∧ ListAt w5 w5.heap.size (.slice ta Y.length tc) Y ∧ ListAt w5 w5.heap.size (.slice xa X.length xc) X ∧ X.length ≤ xc) := ⟨hB5', hlt, hlx, HB4.out.2.2⟩
        clear th hB5 hB5' hK5 hlt hlx)
     | (go_at_call 6; with_reducible refine th2.mono ?_; rintro e w6 ⟨ta2, tc2, sv2, rfl, hlt2, hB6⟩
        have hB6' : Below W0.heap.size W0 w6 := HB5.out.1.trans (hB6.mono HB5.out.1.size)
        have hK6 := HK.out.next hB6'
        have u0 := hK6.g0
        have u1 := hK6.g1
        have u2 := hK6.g2
        have u3 := hK6.s0
        have u4 := hK6.s1
        have u5 := hK6.s2
        have u6 := hK6.s3
        have fw := HFw.out w6 xa xc hB6' ((HB5.out.2.2.1.below hB6).mono hB6.size) HB5.out.2.2.2
        have HB6 : Hid (Below W0.heap.size W0 w6 ∧ ListAt w6 w6.heap.size (.slice ta Y.length tc) Y ∧ ListAt w6 w6.heap.size (.slice ta2 Y.length tc2) Y) := ⟨hB6', (HB5.out.2.1.below hB6).mono hB6.size, hlt2⟩
        clear th2 hB6 hB6' hK6 hlt2)
     | (go_at_call 7; refine fw.mono ?_; rintro e w7 ⟨za, zc, rfl, hlz, hB7⟩
        have hB7' : Below W0.heap.size W0 w7 := HB6.out.1.trans (hB7.mono HB6.out.1.size)
        have i1 := ints_eq ((HB6.out.2.2.below hB7).mono hB7.size) ((HB6.out.2.1.below hB7).mono hB7.size) (by have := HDl.out.2; omega)
        have HB7 : Hid (Below W0.heap.size W0 w7 ∧ ListAt w7 w7.heap.size (.slice za D.length zc) D) := ⟨hB7', hlz⟩
        clear fw hB7 hB7' hlz)
     | (go_at_call 8; with_reducible refine i1.mono ?_; rintro e w8 ⟨rfl, m8, hw8⟩
        have hB8 : Below w7.heap.size w7 w8 := by rw [hw8]; exact below_drewN (Below.refl _ _) _
        have hB8' : Below W0.heap.size W0 w8 := HB7.out.1.trans (hB8.mono HB7.out.1.size)
        have i2 := ints_eq ((HB7.out.2.below hB8).mono hB8.size) (HK.out.next hB8').allT (by have := HDl.out.1; omega)
        have HB8 : Hid (Below W0.heap.size W0 w8) := hB8'
        clear i1 hB8 hB8' hw8)
     | (go_at_call 8; with_reducible refine i2.mono ?_; rintro e w9 ⟨rfl, m9, hw9⟩
        have HB9 : Hid (Below W0.heap.size W0 w9) := by show Below _ _ _; rw [hw9]; exact below_drewN HB8.out _
        clear i2 hw9))
  go_ret
  exact ⟨rfl, (HK.out.next HB9.out).below⟩
end

theorem stepBack_any {w : World} {T N : Int} {rv dv : Value} {R : List Ru} {D : List Int} (hr : RulesAt w w.heap.size rv R) (hd : ListAt w w.heap.size dv D) (hdc : ∃ da n dc, dv = .slice da n dc ∧ n ≤ dc) (s : Stp) :
    Calls Try.prog 3 #[.agg #[.int .i64 T, .int .i64 N, rv], .agg #[.int .i64 s.op, .int .i64 s.a, .int .i64 s.b, .int .i64 s.c], dv] w fun e w' => e = .returned (.bool true) ∧ Below w.heap.size w w' := by
  obtain ⟨ra, rc, hrv⟩ := hr.1
  subst hrv
  rcases verd_cases (T := T) (N := N) (R := R) s with hE | ⟨t, n, rfl, rfl, hm, hs, hz, hV⟩
  · exact stepBack_bad hr hd s hE
  · cases h : readF (doR n R s) D with
    | none => exact stepBack_none hr hd hdc s hm hs hz hV h
    | some st =>
      rcases Nat.lt_or_ge 200 D.length with hD | hD
      · exact stepBack_long hr hd hdc s hm hs hz hV h hD
      · exact stepBack_yes hr hd hdc s hm hs hz hV h hD

end Go.Proofs.Ytikjekfpgklbdaa

/- A grammar that came in as data lies in memory as RulesAt says; what the bound on the bulk gives. -/
namespace Go.Proofs.Ytikjekfpgklbdaa
open Go.ChangeShapes Go.WideShapes Go.ChangeAt Go.RowKit Go.Deep

theorem Try.cells44 : Try.prog.cellsOf 44 = 2 := by kernel_rfl
theorem Try.cells52 : Try.prog.cellsOf 52 = 2 := by kernel_rfl
theorem Try.cells3 : Try.prog.cellsOf 3 = 1 := by kernel_rfl
theorem Try.cells4 : Try.prog.cellsOf 4 = 1 := by kernel_rfl
theorem Try.cells41 : Try.prog.cellsOf 41 = 1 := by kernel_rfl

theorem bulk_one {H : Type} (d : DataW H) : 1 ≤ Rows.uptoBulk d := by
  cases d with
  | lit l => cases l <;> simp [Rows.uptoBulk]
  | nil => simp [Rows.uptoBulk]
  | ptr d => simp [Rows.uptoBulk]
  | slice elems spare => simp [Rows.uptoBulk]
  | agg parts => simp [Rows.uptoBulk]
  | iface t d => simp [Rows.uptoBulk]
  | map entries => simp [Rows.uptoBulk]
  | held h => simp [Rows.uptoBulk]

theorem bulk_part {H : Type} {d : DataW H} {l : List (DataW H)} (h : d ∈ l) : Rows.uptoBulk d ≤ Rows.uptoBulkAll l := by
  induction l with
  | nil => cases h
  | cons x r ih =>
    simp only [Rows.uptoBulkAll]
    cases List.mem_cons.1 h with
    | inl e => subst e; omega
    | inr e => have := ih e; omega

theorem bulk_length {H : Type} (l : List (DataW H)) : l.length ≤ Rows.uptoBulkAll l := by
  induction l with
  | nil => simp
  | cons x r ih => have := bulk_one x; simp only [Rows.uptoBulkAll, List.length_cons]; omega

section
variable {H : Type} {enc : TypeId × Value → H} {W : World} {n : Nat} {v : Value} {x : DataW H × List MemPlace}

theorem plain_of_cell {a : Addr} {u : Value} (h : W.cell? (a.add 0) = some u) : ∃ b o, a = ⟨b, o, none⟩ := by
  obtain ⟨b, o, spot⟩ := a
  have : spot = none := by simpa [Addr.add] using World.cell?_spot h
  subst this
  exact ⟨b, o, rfl⟩

/-- The symbols of a rule. -/
theorem syms_read (h : DataW.trod enc Try.prog W 0 (fun _ => true) true n 41 [v] = some x) :
    ∃ (Rt : List Sy) (qa : Option Addr) (qc : Nat), v = .slice qa Rt.length qc ∧ Rt.length ≤ qc ∧ Rt.length ≤ Rows.uptoBulk x.1 ∧
      ∀ j, j < Rt.length → ∃ b' o', qa = some ⟨b', o', none⟩ ∧ b' < W.heap.size ∧
        W.cell? ⟨b', o' + j * 2, none⟩ = some (.bool (Rt.getD j (false, 0)).1) ∧ W.cell? ⟨b', o' + (j * 2 + 1), none⟩ = some (.int .i64 (Rt.getD j (false, 0)).2) := by
  rcases open_slice_pairs Try.underlying41 Try.underlying52 Try.cells52 rfl rfl Try.cells4 Try.cells3 h with ⟨hv, _⟩ | ⟨a, len, cap, m, n', V0, V1, D0, D1, P0, P1, hv, _, hl, _, hm, rfl, hx⟩
  · simp only [List.cons.injEq, and_true] at hv
    exact ⟨[], none, 0, hv, by simp, by simp, fun j hj => by simp at hj⟩
  · simp only [List.cons.injEq, and_true] at hv
    simp only [if_true] at hm
    have each : ∀ i, i < len → ∃ s : Sy, W.cell? (a.add (i * 2)) = some (.bool s.1) ∧ W.cell? (a.add (i * 2 + 1)) = some (.int .i64 s.2) := fun i hi => by
      obtain ⟨h1, h2, h3, h4⟩ := hx i (by omega)
      obtain ⟨t, ht, _⟩ := DataW.trod_bool Try.underlying4 h3
      obtain ⟨k, hk, _⟩ := DataW.trod_int Try.underlying3 h4
      simp only [List.cons.injEq, and_true] at ht hk
      exact ⟨(t, k), by rw [h1, ht], by rw [h2, hk]⟩
    obtain ⟨f, hf⟩ := choose_lt each
    have hlen : ((List.range len).map f).length = len := by simp
    have hget : ∀ j, j < len → ((List.range len).map f).getD j (false, 0) = f j := fun j hj => by simp [List.getD, hj]
    refine ⟨(List.range len).map f, some a, cap, by rw [hv, hlen], by rw [hlen]; exact hl, ?_, fun j hj => ?_⟩
    · have := bulk_length ((List.range len).map fun i => DataW.agg [D0 i, D1 i])
      simp only [Rows.uptoBulk, List.length_map, List.length_range] at this ⊢
      omega
    · rw [hlen] at hj
      rw [hget j hj]
      have h0 := (hf 0 (by omega)).1
      rw [Nat.zero_mul] at h0
      obtain ⟨b, o, rfl⟩ := plain_of_cell h0
      obtain ⟨h1, h2⟩ := hf j hj
      rw [add_plain] at h1 h2
      exact ⟨b, o, rfl, World.block_lt_of_cell? W _ h1, h1, h2⟩

/-- The rules of a grammar. -/
theorem rules_read (h : DataW.trod enc Try.prog W 0 (fun _ => true) true n 22 [v] = some x) :
    ∃ R : List Ru, RulesAt W W.heap.size v R ∧ ∀ q, (R.getD q (0, [])).2.length ≤ Rows.uptoBulk x.1 := by
  rcases open_slice_pairs Try.underlying22 Try.underlying44 Try.cells44 rfl rfl Try.cells3 Try.cells41 h with ⟨hv, _⟩ | ⟨a, len, cap, m, n', V0, V1, D0, D1, P0, P1, hv, _, hl, _, hm, rfl, hx⟩
  · simp only [List.cons.injEq, and_true] at hv
    exact ⟨[], ⟨⟨none, 0, hv⟩, fun q hq => by simp at hq⟩, fun q => by simp⟩
  · simp only [List.cons.injEq, and_true] at hv
    simp only [if_true] at hm
    have each : ∀ i, i < len → ∃ r : Ru, W.cell? (a.add (i * 2)) = some (.int .i64 r.1) ∧ ∃ qa qc, W.cell? (a.add (i * 2 + 1)) = some (.slice qa r.2.length qc) ∧ r.2.length ≤ qc ∧ r.2.length ≤ Rows.uptoBulk (D1 i) ∧
        ∀ j, j < r.2.length → ∃ b' o', qa = some ⟨b', o', none⟩ ∧ b' < W.heap.size ∧
          W.cell? ⟨b', o' + j * 2, none⟩ = some (.bool (r.2.getD j (false, 0)).1) ∧ W.cell? ⟨b', o' + (j * 2 + 1), none⟩ = some (.int .i64 (r.2.getD j (false, 0)).2) := fun i hi => by
      obtain ⟨h1, h2, h3, h4⟩ := hx i (by omega)
      obtain ⟨k, hk, _⟩ := DataW.trod_int Try.underlying3 h3
      simp only [List.cons.injEq, and_true] at hk
      obtain ⟨Rt, qa, qc, hq, hc, hb, hs⟩ := syms_read h4
      exact ⟨(k, Rt), by rw [h1, hk], qa, qc, by rw [h2, hq], hc, hb, hs⟩
    obtain ⟨f, hf⟩ := choose_lt each
    have hlen : ((List.range len).map f).length = len := by simp
    have hget : ∀ j, j < len → ((List.range len).map f).getD j (0, []) = f j := fun j hj => by simp [List.getD, hj]
    refine ⟨(List.range len).map f, ⟨⟨some a, cap, by rw [hv, hlen]⟩, fun q hq => ?_⟩, fun q => ?_⟩
    · rw [hlen] at hq
      rw [hget q hq]
      have h0 := (hf 0 (by omega)).1
      rw [Nat.zero_mul] at h0
      obtain ⟨b, o, rfl⟩ := plain_of_cell h0
      obtain ⟨h1, qa, qc, h2, hc, _, h3⟩ := hf q hq
      rw [add_plain] at h1 h2
      exact ⟨b, o, cap, qa, qc, by rw [hv, hlen], World.block_lt_of_cell? W _ h1, h1, h2, hc, h3⟩
    · by_cases hq : q < len
      · rw [hget q hq]
        obtain ⟨_, _, _, _, _, hb, _⟩ := hf q hq
        have h1 : DataW.agg [D0 q, D1 q] ∈ (List.range len).map fun i => DataW.agg [D0 i, D1 i] := List.mem_map.2 ⟨q, List.mem_range.2 hq, rfl⟩
        have h2 := bulk_part h1
        simp only [Rows.uptoBulk, Rows.uptoBulkAll] at h2 ⊢
        omega
      · simp [List.getD, List.getElem?_eq_none (show ((List.range len).map f).length ≤ q by omega)]

end

end Go.Proofs.Ytikjekfpgklbdaa

/- A list that came in as data lies in memory as ListAt says. -/
namespace Go.Proofs.Ytikjekfpgklbdaa
open Go.ChangeShapes Go.WideShapes Go.ChangeAt Go.RowKit Go.Deep

section
variable {H : Type} {enc : TypeId × Value → H} {W : World} {n : Nat} {v : Value} {x : DataW H × List MemPlace}

/-- The numbers of a list. -/
theorem list_read (h : DataW.trod enc Try.prog W 0 (fun _ => true) true n 27 [v] = some x) : ∃ D : List Int, ListAt W W.heap.size v D := by
  rcases open_slice1 Try.underlying27 Try.cells3 h with ⟨hv, _⟩ | ⟨a, len, cap, m, n', V, D, Pl, hv, _, hl, _, hm, rfl, hx⟩
  · simp only [List.cons.injEq, and_true] at hv
    exact ⟨[], ⟨none, 0, hv⟩, fun p hp => by simp at hp⟩
  · simp only [List.cons.injEq, and_true] at hv
    simp only [if_true] at hm
    have each : ∀ i, i < len → ∃ k : Int, W.cell? (a.add i) = some (.int .i64 k) := fun i hi => by
      obtain ⟨h1, h2⟩ := hx i (by omega)
      obtain ⟨k, hk, _⟩ := DataW.trod_int Try.underlying3 h2
      simp only [List.cons.injEq, and_true] at hk
      exact ⟨k, by rw [h1, hk]⟩
    obtain ⟨f, hf⟩ := choose_lt each
    have hlen : ((List.range len).map f).length = len := by simp
    refine ⟨(List.range len).map f, ⟨some a, cap, by rw [hv, hlen]⟩, fun p hp => ?_⟩
    rw [hlen] at hp
    obtain ⟨b, o, rfl⟩ := plain_of_cell (hf 0 (by omega))
    have h1 := hf p hp
    rw [add_plain] at h1
    exact ⟨b, o, cap, by rw [hv, hlen], World.block_lt_of_cell? W _ h1, by rw [h1]; simp [List.getD, hp]⟩
end

end Go.Proofs.Ytikjekfpgklbdaa

/- A list that came in as data, with its capacity. -/
namespace Go.Proofs.Ytikjekfpgklbdaa
open Go.ChangeShapes Go.WideShapes Go.ChangeAt Go.RowKit Go.Deep

theorem list_readC {H : Type} {enc : TypeId × Value → H} {W : World} {n : Nat} {v : Value} {x : DataW H × List MemPlace} (h : DataW.trod enc Try.prog W 0 (fun _ => true) true n 27 [v] = some x) : ∃ da n dc, v = .slice da n dc ∧ n ≤ dc := by
  rcases open_slice1 Try.underlying27 Try.cells3 h with ⟨hv, _⟩ | ⟨a, len, cap, m, n', V, D, Pl, hv, _, hl, _⟩
  · simp only [List.cons.injEq, and_true] at hv
    exact ⟨_, _, _, hv, Nat.le_refl _⟩
  · simp only [List.cons.injEq, and_true] at hv
    exact ⟨_, _, _, hv, hl⟩

end Go.Proofs.Ytikjekfpgklbdaa
