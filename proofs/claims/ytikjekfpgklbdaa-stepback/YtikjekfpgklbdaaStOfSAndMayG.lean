import Derived.Test.YtikjekfpgklbdaaStCopiesAndStCx
import Derived.BigQuiet
import Derived.Test.YtikjekfpgklbdaaTrIbAndTrOn
import Derived.Test.YtikjekfpgklbdaaStepAt2AndStOfE
import Derived.Test.YtikjekfpgklbdaaStOfIAndTrEach
import Derived.Test.YtikjekfpgklbdaaMathAndOwns
/- The contracts of package step's swapOf and extractOf. -/
namespace Go.Proofs.Ytikjekfpgklbdaa
open Go.RowKit

set_option maxRecDepth 100000 in
theorem st_isName {w : World} {xb : Nat} {n N : Int} (x1 : w.cell? ⟨xb, 1, none⟩ = some (.int .i64 N)) :
    Calls Try.prog 35 #[.int .i64 n, .pointer (some ⟨xb, 0, none⟩)] w fun e w' => e = .returned (.bool (decide (0 < n) && decide (n < N))) ∧ w' = w := by
  by_cases h0 : 0 < n
  · have e0 : decide (0 < n) = true := decide_eq_true h0
    by_cases h1 : n < N
    · have e1 : decide (n < N) = true := decide_eq_true h1
      rw [e0, e1]
      go_enter Try.func35, Try.ntmps35
      go_wp2_with fail
      go_ret
      exact ⟨rfl, rfl⟩
    · have e1 : decide (n < N) = false := decide_eq_false h1
      rw [e0, e1]
      clear h1
      go_enter Try.func35, Try.ntmps35
      go_wp2_with fail
      go_ret
      exact ⟨rfl, rfl⟩
  · have e0 : decide (0 < n) = false := decide_eq_false h0
    rw [e0]
    clear h0
    go_enter Try.func35, Try.ntmps35
    go_wp2_with fail
    go_ret
    exact ⟨rfl, rfl⟩

set_option maxRecDepth 100000 in
set_option maxHeartbeats 6400000 in
theorem st_swapOf {w : World} {T N : Int} {ra : Option Addr} {rn rc : Nat} {op a b c : Int} :
    Calls Try.prog 26 #[.agg #[.int .i64 T, .int .i64 N, .slice ra rn rc, .int .i64 op, .int .i64 a, .int .i64 b, .int .i64 c]] w fun e w' => e = .returned (.tuple #[.iface 83 (.agg #[.int .i64 T, .int .i64 N, .slice ra rn rc, .int .i64 op, .int .i64 a, .int .i64 b, .int .i64 c]), .bool (decide (0 < a) && decide (a < N) && (decide (0 < b) && decide (b < N)) && decide (c = 0))]) ∧ Below w.heap.size w w' := by
  obtain ⟨W0, hW0⟩ : ∃ W, w.alloc (.cells #[.int .i64 T, .int .i64 N, .slice ra rn rc, .int .i64 op, .int .i64 a, .int .i64 b, .int .i64 c] 66) = W := ⟨_, rfl⟩
  have HB : Hid (Below w.heap.size w W0) := by show Below _ _ _; rw [← hW0]; exact (Below.refl _ _).alloc (Nat.le_refl _) _
  have hb := heap_alloc_new w (.cells #[.int .i64 T, .int .i64 N, .slice ra rn rc, .int .i64 op, .int .i64 a, .int .i64 b, .int .i64 c] 66)
  rw [hW0] at hb
  have x0 : W0.cell? ⟨w.heap.size, 0, none⟩ = some (.int .i64 T) := cell_of_blk hb rfl
  have x1 : W0.cell? ⟨w.heap.size, 1, none⟩ = some (.int .i64 N) := cell_of_blk hb rfl
  have x2 : W0.cell? ⟨w.heap.size, 2, none⟩ = some (.slice ra rn rc) := cell_of_blk hb rfl
  have x3 : W0.cell? ⟨w.heap.size, 3, none⟩ = some (.int .i64 op) := cell_of_blk hb rfl
  have x4 : W0.cell? ⟨w.heap.size, 4, none⟩ = some (.int .i64 a) := cell_of_blk hb rfl
  have x5 : W0.cell? ⟨w.heap.size, 5, none⟩ = some (.int .i64 b) := cell_of_blk hb rfl
  have x6 : W0.cell? ⟨w.heap.size, 6, none⟩ = some (.int .i64 c) := cell_of_blk hb rfl
  have ia := fun k => st_isName (w := W0.drewN k) (xb := w.heap.size) (n := a) (N := N) x1
  have ib := fun k => st_isName (w := W0.drewN k) (xb := w.heap.size) (n := b) (N := N) x1
  clear hb
  cases hA : (decide (0 < a) && decide (a < N)) with
  | false =>
    simp only [hA] at ia
    go_enter Try.func26, Try.ntmps26
    go_wp2_with fail
    go_big_quiet ((go_at_call 35; exact Calls.quiet_of_same (ia _)))
    go_wp2_with fail
    refine bodyPost_ret (v := .tuple #[.iface 83 (.agg #[.int .i64 T, .int .i64 N, .slice ra rn rc, .int .i64 op, .int .i64 a, .int .i64 b, .int .i64 c]), .bool false]) (by simp [results, Try.results26, go_sem]) rfl ?_
    exact ⟨by simp, below_drewN HB.out _⟩
  | true =>
    simp only [hA] at ia
    cases hB : (decide (0 < b) && decide (b < N)) with
    | false =>
      simp only [hB] at ib
      go_enter Try.func26, Try.ntmps26
      go_wp2_with fail
      go_big_quiet ((go_at_call 35; first | with_reducible exact Calls.quiet_of_same (ia _) | with_reducible exact Calls.quiet_of_same (ib _)))
      go_wp2_with fail
      refine bodyPost_ret (v := .tuple #[.iface 83 (.agg #[.int .i64 T, .int .i64 N, .slice ra rn rc, .int .i64 op, .int .i64 a, .int .i64 b, .int .i64 c]), .bool false]) (by simp [results, Try.results26, go_sem]) rfl ?_
      exact ⟨by simp, below_drewN HB.out _⟩
    | true =>
      simp only [hB] at ib
      by_cases hc : c = 0
      · have ec : (c == 0) = true := by simpa using hc
        have HCc : Hid (decide (c = 0) = true) := decide_eq_true hc
        clear hc
        go_enter Try.func26, Try.ntmps26
        go_wp2_with fail
        go_big_quiet ((go_at_call 35; first | with_reducible exact Calls.quiet_of_same (ia _) | with_reducible exact Calls.quiet_of_same (ib _)))
        go_wp2_with fail
        refine bodyPost_ret (v := .tuple #[.iface 83 (.agg #[.int .i64 T, .int .i64 N, .slice ra rn rc, .int .i64 op, .int .i64 a, .int .i64 b, .int .i64 c]), .bool true]) (by simp [results, Try.results26, go_sem]) rfl ?_
        exact ⟨by rw [HCc.out]; rfl, below_drewN HB.out _⟩
      · have ec : (c == 0) = false := by simpa using hc
        have HCc : Hid (decide (c = 0) = false) := decide_eq_false hc
        clear hc
        go_enter Try.func26, Try.ntmps26
        go_wp2_with fail
        go_big_quiet ((go_at_call 35; first | with_reducible exact Calls.quiet_of_same (ia _) | with_reducible exact Calls.quiet_of_same (ib _)))
        go_wp2_with fail
        refine bodyPost_ret (v := .tuple #[.iface 83 (.agg #[.int .i64 T, .int .i64 N, .slice ra rn rc, .int .i64 op, .int .i64 a, .int .i64 b, .int .i64 c]), .bool false]) (by simp [results, Try.results26, go_sem]) rfl ?_
        exact ⟨by rw [HCc.out]; rfl, below_drewN HB.out _⟩

end Go.Proofs.Ytikjekfpgklbdaa

/- The contract of package step's leftOf. -/
namespace Go.Proofs.Ytikjekfpgklbdaa
open Go.RowKit

set_option maxRecDepth 100000 in
set_option maxHeartbeats 6400000 in
theorem st_leftOf_no {w : World} {T N : Int} {ra : Option Addr} {rc : Nat} {R : List Ru} {op a b c : Int} (hr : RulesAt w w.heap.size (.slice ra R.length rc) R) (hs : ¬ (0 ≤ a ∧ a < N ∧ b = 0 ∧ c = 0)) :
    Calls Try.prog 29 #[.agg #[.int .i64 T, .int .i64 N, .slice ra R.length rc, .int .i64 op, .int .i64 a, .int .i64 b, .int .i64 c]] w fun e w' => e = .returned (.tuple #[.nilIface, .bool false]) ∧ Below w.heap.size w w' := by
  have hK := kbox_start (T := T) (N := N) (op := op) (a := a) (b := b) (c := c) hr
  obtain ⟨W0, hW0⟩ : ∃ W, w.alloc (.cells #[.int .i64 T, .int .i64 N, .slice ra R.length rc, .int .i64 op, .int .i64 a, .int .i64 b, .int .i64 c] 66) = W := ⟨_, rfl⟩
  rw [hW0] at hK
  have x1 := hK.x1
  have x4 := hK.x4
  have x5 := hK.x5
  have x6 := hK.x6
  have HB : Hid (Below w.heap.size w W0) := hK.below
  have ia := st_isBelow (w := W0) (n := a) (m := N)
  cases hA : (decide (0 ≤ a) && decide (a < N)) with
  | false =>
    rw [hA] at ia
    clear hK hr hs hA
    go_enter Try.func29, Try.ntmps29
    go_wp2_with (go_at_call 36; refine ia.mono ?_; rintro e w2 ⟨rfl, rfl⟩)
    refine bodyPost_ret (v := .tuple #[.nilIface, .bool false]) (by simp [results, Try.results29, go_sem]) rfl ?_
    exact ⟨rfl, HB.out⟩
  | true =>
    rw [hA] at ia
    simp only [Bool.and_eq_true, decide_eq_true_eq] at hA
    by_cases hb : b = 0
    · subst hb
      have ec : (c == 0) = false := by
        have : c ≠ 0 := fun hc => hs ⟨hA.1, hA.2, rfl, hc⟩
        simpa using this
      clear hK hr hs hA
      go_enter Try.func29, Try.ntmps29
      go_wp2_with (go_at_call 36; refine ia.mono ?_; rintro e w2 ⟨rfl, rfl⟩)
      refine bodyPost_ret (v := .tuple #[.nilIface, .bool false]) (by simp [results, Try.results29, go_sem]) rfl ?_
      exact ⟨rfl, HB.out⟩
    · have eb : (b == 0) = false := by simpa using hb
      clear hK hr hs hA hb
      go_enter Try.func29, Try.ntmps29
      go_wp2_with (go_at_call 36; refine ia.mono ?_; rintro e w2 ⟨rfl, rfl⟩)
      refine bodyPost_ret (v := .tuple #[.nilIface, .bool false]) (by simp [results, Try.results29, go_sem]) rfl ?_
      exact ⟨rfl, HB.out⟩

theorem le_any_take {f : Ru → Bool} {R : List Ru} {k : Nat} (hk : k < R.length) : (R.take (k + 1)).any f = ((R.take k).any f || f (R.getD k (0, []))) := by
  have e : R.getD k (0, []) = R[k] := by simp [List.getD, hk]
  rw [List.take_succ_eq_append_getElem hk, List.any_append, e]
  simp
theorem le_all_take {f : Ru → Bool} {R : List Ru} {k : Nat} (hk : k < R.length) : (R.take (k + 1)).all f = ((R.take k).all f && f (R.getD k (0, []))) := by
  have e : R.getD k (0, []) = R[k] := by simp [List.getD, hk]
  rw [List.take_succ_eq_append_getElem hk, List.all_append, e]
  simp

set_option maxRecDepth 100000 in
set_option maxHeartbeats 6400000 in
theorem st_leftOf_yes {w : World} {T N : Int} {ra : Option Addr} {rc : Nat} {R : List Ru} {op a : Int} (hr : RulesAt w w.heap.size (.slice ra R.length rc) R) (hl : R.length ≤ 1000) (ha : 0 ≤ a ∧ a < N) :
    Calls Try.prog 29 #[.agg #[.int .i64 T, .int .i64 N, .slice ra R.length rc, .int .i64 op, .int .i64 a, .int .i64 0, .int .i64 0]] w fun e w' => ∃ cv, e = .returned (.tuple #[cv, .bool (leftB R a)]) ∧ (leftB R a = true → cv = .iface 90 (.agg #[.int .i64 T, .int .i64 N, .slice ra R.length rc, .int .i64 op, .int .i64 a, .int .i64 0, .int .i64 0])) ∧ Below w.heap.size w w' := by
  have hK := kbox_start (T := T) (N := N) (op := op) (a := a) (b := 0) (c := 0) hr
  obtain ⟨W0, hW0⟩ : ∃ W, w.alloc (.cells #[.int .i64 T, .int .i64 N, .slice ra R.length rc, .int .i64 op, .int .i64 a, .int .i64 0, .int .i64 0] 66) = W := ⟨_, rfl⟩
  rw [hW0] at hK
  obtain ⟨W1, hW1⟩ : ∃ W, W0.alloc (.cells #[.int .i64 T, .int .i64 N, .slice ra R.length rc, .int .i64 op, .int .i64 a, .int .i64 0, .int .i64 0] 90) = W := ⟨_, rfl⟩
  have hB1 : Below W0.heap.size W0 W1 := by rw [← hW1]; exact (Below.refl _ _).alloc (Nat.le_refl _) _
  have hblk : W1.heap[W0.heap.size]? = some (.cells #[.int .i64 T, .int .i64 N, .slice ra R.length rc, .int .i64 op, .int .i64 a, .int .i64 0, .int .i64 0] 90 (0, 0)) := by rw [← hW1]; exact heap_alloc_new _ _
  have x0 := hK.x0
  have x1 := hK.x1
  have x2 := hK.x2
  have x3 := hK.x3
  have x4 := hK.x4
  have x5 := hK.x5
  have x6 := hK.x6
  have y2 := (hK.next hB1).x2
  rw [← hW1] at y2
  have HW1 : Hid (W0.alloc (.cells #[.int .i64 T, .int .i64 N, .slice ra R.length rc, .int .i64 op, .int .i64 a, .int .i64 0, .int .i64 0] 90) = W1) := hW1
  have HK1 : Hid (KBox w T N ra rc R op a 0 0 W1) := hK.next hB1
  have HX : Hid (∀ wq, Below W1.heap.size W1 wq → wq.heap[W0.heap.size]? = some (.cells #[.int .i64 T, .int .i64 N, .slice ra R.length rc, .int .i64 op, .int .i64 a, .int .i64 0, .int .i64 0] 90 (0, 0))) := fun wq hq => (hq.block _ (Array.getElem?_eq_some_iff.1 hblk).1).trans hblk
  have ia := st_isBelow (w := W0) (n := a) (m := N)
  rw [decide_eq_true ha.1, decide_eq_true ha.2] at ia
  have e0 : ((0 : Int) == 0) = true := rfl
  clear hK hr hB1 hblk ha hW1
  go_enter Try.func29, Try.ntmps29
  go_wp2_with (go_at_call 36; refine ia.mono ?_; rintro e w2 ⟨rfl, h2⟩; obtain rfl : W0 = w2 := h2.symm; clear ia)
  obtain ⟨xb, hxb⟩ : ∃ x, W0.heap.size = x := ⟨_, rfl⟩
  rw [HW1.out]
  rw [hxb] at HX ⊢
  clear x0 x1 x2 x3 x4 x5 x6 y2 hW0 HW1 hxb
  go_loopw [5, 34] (fun s5 s34 wr => ∃ k : Nat, s5 = .bool ((R.take k).any (ownA a)) ∧ s34 = .int .i64 k ∧ k ≤ R.length ∧ (R.take k).all (fun r => !(ownA a r && decide (r.2.length = 1))) = true ∧ Below W1.heap.size W1 wr) (fun _ s _ => R.length - (intOf s).toNat)
  case atStart => exact ⟨0, rfl, rfl, Nat.zero_le _, rfl, Below.refl _ _⟩
  case round =>
    obtain ⟨k, rfl, rfl, hk, hall, hB⟩ := hrel
    have HB : Hid (Below W1.heap.size W1 wr) := hB
    have HAll : Hid ((R.take k).all (fun r => !(ownA a r && decide (r.2.length = 1))) = true) := hall
    have hKr := HK1.out.next hB
    have hXr := HX.out wr hB
    obtain ⟨any, hany⟩ : ∃ x, (R.take k).any (ownA a) = x := ⟨_, rfl⟩
    have HAny : Hid ((R.take k).any (ownA a) = any) := hany
    rw [hany]
    clear hany hall
    by_cases hlt : k < R.length
    · obtain ⟨b0, o0, rc0, qa, qc, hv, _, k1, k2, _⟩ := hKr.rules.syms hlt
      cases hv
      obtain ⟨⟨L, l⟩, hx⟩ : ∃ x, R.getD k (0, []) = x := ⟨_, rfl⟩
      rw [hx] at k1 k2
      simp only at k1 k2
      obtain ⟨n, hn⟩ : ∃ n, l.length = n := ⟨_, rfl⟩
      rw [hn] at k2
      have HXk : Hid (R.getD k (0, []) = (L, l) ∧ l.length = n) := ⟨hx, hn⟩
      obtain ⟨W2, hW2⟩ : ∃ W, wr.alloc (.cells #[.int .i64 L, .slice qa n qc] 44) = W := ⟨_, rfl⟩
      obtain ⟨rb, hrb⟩ : ∃ x, wr.heap.size = x := ⟨_, rfl⟩
      have hB2 : Below wr.heap.size wr W2 := by rw [← hW2]; exact (Below.refl _ _).alloc (Nat.le_refl _) _
      have hB2' : Below W1.heap.size W1 W2 := HB.out.trans (hB2.mono HB.out.size)
      have r1 : W2.cell? ⟨rb, 1, none⟩ = some (.slice qa n qc) := by rw [← hW2, ← hrb]; exact cell_of_blk (heap_alloc_new _ _) rfl
      have hX2 := HX.out W2 hB2'
      have z0 : W2.cell? ⟨xb, 0, none⟩ = some (.int .i64 T) := cell_of_blk hX2 rfl
      have z1 : W2.cell? ⟨xb, 1, none⟩ = some (.int .i64 N) := cell_of_blk hX2 rfl
      have z2 : W2.cell? ⟨xb, 2, none⟩ = some (.slice (some ⟨b0, o0, none⟩) R.length rc) := cell_of_blk hX2 rfl
      have z3 : W2.cell? ⟨xb, 3, none⟩ = some (.int .i64 op) := cell_of_blk hX2 rfl
      have z4 : W2.cell? ⟨xb, 4, none⟩ = some (.int .i64 a) := cell_of_blk hX2 rfl
      have z5 : W2.cell? ⟨xb, 5, none⟩ = some (.int .i64 0) := cell_of_blk hX2 rfl
      have z6 : W2.cell? ⟨xb, 6, none⟩ = some (.int .i64 0) := cell_of_blk hX2 rfl
      have be := st_begins (w := W2) (T := T) (N := N) (op := op) (a := a) (b := 0) (c := 0) (HK1.out.next hB2').all hlt
      rw [hx] at be
      have HB2 : Hid (Below W1.heap.size W1 W2) := hB2'
      have HR1 : Hid (W2.cell? ⟨rb, 1, none⟩ = some (.slice qa n qc)) := r1
      have i0 : (0 : Int) ≤ (k : Int) := Int.natCast_nonneg _
      have i1 : (k : Int) < (R.length : Int) := by omega
      clear hx hn hB2 hB2' hX2 hXr hKr r1 hB
      cases hbe : ownA a (L, l) with
      | false =>
        rw [hbe] at be
        have HBe : Hid (ownA a (L, l) = false) := hbe
        clear hbe
        go_wp2_with (go_at_call 39; refine be.mono ?_; rintro e w3 ⟨rfl, hB3⟩; clear be)
        go_roundw
        case rel =>
          refine ⟨k + 1, ?_, by go_num, by omega, ?_, HB2.out.trans (hB3.mono HB2.out.size)⟩
          · rw [le_any_take hlt, HAny.out, HXk.out.1, HBe.out, Bool.or_false]
          · rw [le_all_take hlt, HAll.out, HXk.out.1, HBe.out]
            rfl
        case measure => simp [intOf]; omega
      | true =>
        rw [hbe] at be
        have HBe : Hid (ownA a (L, l) = true) := hbe
        clear hbe
        by_cases hn1 : n = 1
        · have HN1 : Hid (n = 1) := hn1
          have en : ((n : Int) == 1) = true := by rw [hn1]; rfl
          clear hn1
          go_wp2_with
            (go_at_call 39; refine be.mono ?_; rintro e w3 ⟨rfl, hB3⟩; clear be
             have q1 := (hB3.cell (World.block_lt_of_cell? _ _ HR1.out)).trans HR1.out)
          have hF : leftB R a = false := by
            unfold leftB
            have : (R.all fun r => !(ownA a r && decide (r.2.length = 1))) = false := by
              rw [List.all_eq_false]
              refine ⟨(L, l), ?_, ?_⟩
              · rw [← HXk.out.1]
                simp [List.getD, hlt]
              · rw [HBe.out, HXk.out.2, HN1.out]
                simp
            rw [this, Bool.and_false]
          refine bodyPost_ret (v := .tuple #[.nilIface, .bool false]) (by simp [results, Try.results29, go_sem]) rfl ?_
          refine ⟨_, by rw [hF], fun h => ?_, HK1.out.below.trans ((HB2.out.trans (hB3.mono HB2.out.size)).mono (Nat.le_trans (by omega) HK1.out.size))⟩
          rw [hF] at h
          cases h
        · have en : ((n : Int) == 1) = false := by
            have : (n : Int) ≠ 1 := by omega
            simpa using this
          have HN1 : Hid (¬ n = 1) := hn1
          clear hn1
          go_wp2_with
            (go_at_call 39; refine be.mono ?_; rintro e w3 ⟨rfl, hB3⟩; clear be
             have q1 := (hB3.cell (World.block_lt_of_cell? _ _ HR1.out)).trans HR1.out)
          go_roundw
          case rel =>
            refine ⟨k + 1, ?_, by go_num, by omega, ?_, HB2.out.trans (hB3.mono HB2.out.size)⟩
            · rw [le_any_take hlt, HXk.out.1, HBe.out, Bool.or_true]
            · rw [le_all_take hlt, HAll.out, HXk.out.1, HBe.out, HXk.out.2]
              simp [HN1.out]
          case measure => simp [intOf]; omega
    · have hkk : k = R.length := by omega
      have hL : leftB R a = any := by
        unfold leftB
        have h1 := HAny.out
        have h2 := HAll.out
        rw [hkk, List.take_length] at h1 h2
        rw [h1, h2, Bool.and_true]
      have HL : Hid (leftB R a = any) := hL
      have z0 : wr.cell? ⟨xb, 0, none⟩ = some (.int .i64 T) := cell_of_blk hXr rfl
      have z1 : wr.cell? ⟨xb, 1, none⟩ = some (.int .i64 N) := cell_of_blk hXr rfl
      have z2 : wr.cell? ⟨xb, 2, none⟩ = some (.slice ra R.length rc) := cell_of_blk hXr rfl
      have z3 : wr.cell? ⟨xb, 3, none⟩ = some (.int .i64 op) := cell_of_blk hXr rfl
      have z4 : wr.cell? ⟨xb, 4, none⟩ = some (.int .i64 a) := cell_of_blk hXr rfl
      have z5 : wr.cell? ⟨xb, 5, none⟩ = some (.int .i64 0) := cell_of_blk hXr rfl
      have z6 : wr.cell? ⟨xb, 6, none⟩ = some (.int .i64 0) := cell_of_blk hXr rfl
      have HBl : Hid (Below w.heap.size w wr) := hKr.below
      clear hXr hKr hB hkk hL
      go_wp2_with fail
      refine bodyPost_ret (v := .tuple #[.iface 90 (.agg #[.int .i64 T, .int .i64 N, .slice ra R.length rc, .int .i64 op, .int .i64 a, .int .i64 0, .int .i64 0]), .bool any]) (by simp [results, Try.results29, go_sem]) rfl ?_
      exact ⟨_, by rw [HL.out], fun _ => rfl, HBl.out⟩

end Go.Proofs.Ytikjekfpgklbdaa

/- The contracts of slices.IndexFunc and ContainsFunc with package step's 'makes not'. -/
namespace Go.Proofs.Ytikjekfpgklbdaa
open Go.RowKit

set_option maxRecDepth 100000 in
set_option maxHeartbeats 1600000 in
theorem st_makesNot {w : World} {mb g N B : Nat} {Y : List Bool} {t : Bool} {v : Int} (hm : w.cell? ⟨mb, 0, none⟩ = some (.slice (some ⟨g, 0, none⟩) N N)) (hY : RowB w B g N Y) (hv : t = false → 0 ≤ v ∧ v < (N : Int)) :
    Calls Try.prog 42 #[.agg #[.bool t, .int .i64 v], .pointer (some ⟨mb, 0, none⟩)] w fun e w' => e = .returned (.bool (!(t || Y.getD v.toNat false))) ∧ Below w.heap.size w w' := by
  obtain ⟨W1, hW1⟩ : ∃ W, w.alloc (.cells #[.bool t, .int .i64 v] 52) = W := ⟨_, rfl⟩
  have hB1 : Below w.heap.size w W1 := by rw [← hW1]; exact (Below.refl _ _).alloc (Nat.le_refl _) _
  have d0 : W1.cell? ⟨w.heap.size, 0, none⟩ = some (.bool t) := by rw [← hW1]; exact cell_of_blk (heap_alloc_new _ _) rfl
  have d1 : W1.cell? ⟨w.heap.size, 1, none⟩ = some (.int .i64 v) := by rw [← hW1]; exact cell_of_blk (heap_alloc_new _ _) rfl
  have m1 := (hB1.cell (World.block_lt_of_cell? _ _ hm)).trans hm
  have HB : Hid (Below w.heap.size w W1) := hB1
  have hY1 := hY.below hB1
  clear hB1 hY hm
  cases t with
  | true =>
    clear hY1 hv
    go_enter Try.func42, Try.ntmps42
    go_wp2_with fail
    go_ret
    exact ⟨rfl, HB.out⟩
  | false =>
    obtain ⟨i0, i1⟩ := hv rfl
    obtain ⟨q, rfl⟩ : ∃ q : Nat, v = q := ⟨v.toNat, by omega⟩
    have c1 := (hY1.cell (m := q) (by omega)).1
    rw [Int.toNat_natCast]
    obtain ⟨y, hy⟩ : ∃ y, Y.getD q false = y := ⟨_, rfl⟩
    rw [hy] at c1 ⊢
    clear hY1 hy hv
    go_enter Try.func42, Try.ntmps42
    go_wp2_with fail
    go_ret
    exact ⟨rfl, HB.out⟩

set_option maxRecDepth 100000 in
set_option maxHeartbeats 3200000 in
theorem st_indexFunc {w : World} {mb g N B : Nat} {Y : List Bool} {lv : Value} {l : List Sy} (hl : SymsAt w lv l) (hs : l.length ≤ 1000) (hm : w.cell? ⟨mb, 0, none⟩ = some (.slice (some ⟨g, 0, none⟩) N N)) (hY : RowB w B g N Y) (hv : ∀ j, j < l.length → (l.getD j (false, 0)).1 = false → 0 ≤ (l.getD j (false, 0)).2 ∧ (l.getD j (false, 0)).2 < (N : Int)) :
    Calls Try.prog 50 #[lv, .func (.func 42) #[] #[.pointer (some ⟨mb, 0, none⟩)]] w fun e w' => (∃ r : Int, e = .returned (.int .i64 r) ∧ (0 ≤ r ↔ allB Y l = false)) ∧ Below w.heap.size w w' := by
  obtain ⟨la, lc, hlv, _⟩ := hl.1
  subst hlv
  have HL : Hid (SymsAt w (.slice la l.length lc) l) := hl
  have HM : Hid (w.cell? ⟨mb, 0, none⟩ = some (.slice (some ⟨g, 0, none⟩) N N) ∧ RowB w B g N Y) := ⟨hm, hY⟩
  have HV : Hid (∀ j, j < l.length → (l.getD j (false, 0)).1 = false → 0 ≤ (l.getD j (false, 0)).2 ∧ (l.getD j (false, 0)).2 < (N : Int)) := hv
  clear hl hm hY hv
  go_enter Try.func50, Try.ntmps50
  go_wp2_with fail
  go_loopw [8] (fun s8 wr => ∃ k : Nat, s8 = .int .i64 k ∧ k ≤ l.length ∧ allB Y (l.take k) = true ∧ Below w.heap.size w wr) (fun s _ => l.length - (intOf s).toNat)
  case atStart => exact ⟨0, rfl, Nat.zero_le _, rfl, Below.refl _ _⟩
  case round =>
    obtain ⟨k, rfl, hk, hall, hB⟩ := hrel
    have HB : Hid (Below w.heap.size w wr) := hB
    have HA : Hid (allB Y (l.take k) = true) := hall
    by_cases hlt : k < l.length
    · obtain ⟨b, o, c, hv, c1, c2⟩ := (HL.out.same (same_below hB)).2 k hlt
      cases hv
      have hvk := HV.out k hlt
      have hat := allB_take Y l k hlt
      obtain ⟨⟨t, v⟩, hx⟩ : ∃ x, l.getD k (false, 0) = x := ⟨_, rfl⟩
      rw [hx] at c1 c2 hvk hat
      simp only at c1 c2 hvk hat
      rw [HA.out, Bool.true_and] at hat
      have mn := st_makesNot (w := wr) (t := t) (v := v) ((hB.cell (World.block_lt_of_cell? _ _ HM.out.1)).trans HM.out.1) (HM.out.2.below hB) hvk
      obtain ⟨y, hy⟩ : ∃ y, (t || Y.getD v.toNat false) = y := ⟨_, rfl⟩
      rw [hy] at mn hat
      have HT : Hid (allB Y (l.take (k + 1)) = y) := hat
      have i0 : (0 : Int) ≤ (k : Int) := Int.natCast_nonneg _
      have i1 : (k : Int) < (l.length : Int) := by omega
      clear hx hvk hat hB hall hy
      cases y with
      | true =>
        go_wp2_with (go_at_call 42; refine mn.mono ?_; rintro e w2 ⟨rfl, hB2⟩; clear mn)
        go_roundw
        case rel => exact ⟨k + 1, by go_num, by omega, HT.out, HB.out.trans (hB2.mono HB.out.size)⟩
        case measure => simp [intOf]; omega
      | false =>
        go_wp2_with (go_at_call 42; refine mn.mono ?_; rintro e w2 ⟨rfl, hB2⟩; clear mn)
        go_ret
        refine ⟨⟨k, rfl, fun _ => ?_, fun _ => i0⟩, HB.out.trans (hB2.mono HB.out.size)⟩
        cases h : allB Y l with
        | false => rfl
        | true =>
          have h2 := HT.out
          unfold allB at h h2
          rw [List.all_eq_true] at h
          have : ((l.take (k + 1)).all fun s => s.1 || Y.getD s.2.toNat false) = true := by
            rw [List.all_eq_true]
            exact fun x hx => h x (List.mem_of_mem_take hx)
          rw [this] at h2
          cases h2
    · have hkk : k = l.length := by omega
      clear hB hall
      go_wp2_with fail
      go_ret
      have h := HA.out
      rw [hkk, List.take_length] at h
      exact ⟨⟨-1, rfl, fun h => by omega, fun h' => by rw [h] at h'; cases h'⟩, HB.out⟩

set_option maxRecDepth 100000 in
set_option maxHeartbeats 1600000 in
theorem st_containsFunc {w : World} {mb g N B : Nat} {Y : List Bool} {lv : Value} {l : List Sy} (hl : SymsAt w lv l) (hs : l.length ≤ 1000) (hm : w.cell? ⟨mb, 0, none⟩ = some (.slice (some ⟨g, 0, none⟩) N N)) (hY : RowB w B g N Y) (hv : ∀ j, j < l.length → (l.getD j (false, 0)).1 = false → 0 ≤ (l.getD j (false, 0)).2 ∧ (l.getD j (false, 0)).2 < (N : Int)) :
    Calls Try.prog 43 #[lv, .func (.func 42) #[] #[.pointer (some ⟨mb, 0, none⟩)]] w fun e w' => e = .returned (.bool (!allB Y l)) ∧ Below w.heap.size w w' := by
  have ix := st_indexFunc hl hs hm hY hv
  clear hl hs hm hY hv
  cases hA : allB Y l with
  | false =>
    go_enter Try.func43, Try.ntmps43
    go_wp2_with (go_at_call 50; refine ix.mono ?_; rintro e w1 ⟨⟨r, rfl, hr⟩, hB⟩; have h0 : 0 ≤ r := hr.2 hA; clear hr)
    go_ret
    exact ⟨rfl, hB⟩
  | true =>
    go_enter Try.func43, Try.ntmps43
    go_wp2_with (go_at_call 50; refine ix.mono ?_; rintro e w1 ⟨⟨r, rfl, hr⟩, hB⟩; have h0 : decide (0 ≤ r) = false := decide_eq_false (fun h => by rw [hr.1 h] at hA; cases hA); clear hr)
    go_ret
    exact ⟨rfl, hB⟩

end Go.Proofs.Ytikjekfpgklbdaa

/- The contract of the program's gram.May: it tells what the plain function mayB tells. -/
namespace Go.Proofs.Ytikjekfpgklbdaa
open Go.RowKit

def belB (n e : Int) : Bool := decide (0 ≤ n ∧ n < e)

set_option maxRecDepth 100000 in
theorem isBelow_any {w : World} {n e : Int} :
    Calls Try.prog 33 #[.int .i64 n, .int .i64 e] w fun r w' => r = .returned (.bool (belB n e)) ∧ w' = w := by
  by_cases h1 : 0 ≤ n
  · by_cases h2 : n < e
    · have HD : Hid (belB n e = true) := decide_eq_true ⟨h1, h2⟩
      go_enter Try.func33, Try.ntmps33
      go_wp2_with fail
      go_ret
      exact ⟨by rw [HD.out]; rfl, rfl⟩
    · have HD : Hid (belB n e = false) := decide_eq_false (by omega)
      go_enter Try.func33, Try.ntmps33
      go_wp2_with fail
      go_ret
      exact ⟨by rw [HD.out]; rfl, rfl⟩
  · have HD : Hid (belB n e = false) := decide_eq_false (by omega)
    go_enter Try.func33, Try.ntmps33
    go_wp2_with fail
    go_ret
    exact ⟨by rw [HD.out]; rfl, rfl⟩

set_option maxRecDepth 100000 in
theorem maySym_any {w : World} {T N v : Int} {rv : Value} {t : Bool} {ra : Option Addr} {rl rc : Nat} (hrv : rv = .slice ra rl rc) :
    Calls Try.prog 34 #[.agg #[.int .i64 T, .int .i64 N, rv], .agg #[.bool t, .int .i64 v]] w fun r w' => r = .returned (.bool (symB T N (t, v))) ∧ Below w.heap.size w w' := by
  subst hrv
  cases t with
  | true =>
    have HD : Hid (symB T N (true, v) = belB v T) := rfl
    go_enter Try.func34, Try.ntmps34
    go_wp2_with (go_at_call 33; refine isBelow_any.mono ?_; rintro e w2 ⟨rfl, rfl⟩)
    go_ret
    exact ⟨by rw [HD.out]; rfl, ((Below.refl _ _).alloc (Nat.le_refl _) _).alloc (by simp) _⟩
  | false =>
    have HD : Hid (symB T N (false, v) = belB v N) := rfl
    go_enter Try.func34, Try.ntmps34
    go_wp2_with (go_at_call 33; refine isBelow_any.mono ?_; rintro e w2 ⟨rfl, rfl⟩)
    go_ret
    exact ⟨by rw [HD.out]; rfl, ((Below.refl _ _).alloc (Nat.le_refl _) _).alloc (by simp) _⟩

set_option maxRecDepth 100000 in
set_option maxHeartbeats 3200000 in
theorem mayRule_any {w : World} {T N L : Int} {rv : Value} {qa ra : Option Addr} {qc rl rc : Nat} {Rt : List Sy} (hrv : rv = .slice ra rl rc) (hR : RightAt w w.heap.size qa Rt) :
    Calls Try.prog 25 #[.agg #[.int .i64 T, .int .i64 N, rv], .agg #[.int .i64 L, .slice qa Rt.length qc]] w fun r w' => r = .returned (.bool (ruleB T N (L, Rt))) ∧ Below w.heap.size w w' := by
  subst hrv
  by_cases hh : 0 ≤ L ∧ L < N
  · have e1 : belB L N = true := decide_eq_true hh
    have call := isBelow_any (w := (w.alloc (.cells #[.int .i64 T, .int .i64 N, .slice ra rl rc] 24)).alloc (.cells #[.int .i64 L, .slice qa Rt.length qc] 44)) (n := L) (e := N)
    rw [e1] at call
    by_cases h8 : Rt.length ≤ 8
    · have HD : Hid (ruleB T N (L, Rt) = Rt.all (symB T N)) := by show ruleB T N (L, Rt) = _; simp [ruleB, hh.1, hh.2, h8]
      have HR : Hid (RightAt w w.heap.size qa Rt) := hR
      clear hR e1 hh
      go_enter Try.func25, Try.ntmps25
      go_wp2_with (go_at_call 33; refine call.mono ?_; rintro e w2 ⟨rfl, rfl⟩)
      go_loopw [22] (fun k wr => ∃ i : Nat, k = .int .i64 i ∧ i ≤ Rt.length ∧ (Rt.take i).all (symB T N) = true ∧ Below (w.heap.size + 2) ((w.alloc (.cells #[.int .i64 T, .int .i64 N, .slice ra rl rc] 24)).alloc (.cells #[.int .i64 L, .slice qa Rt.length qc] 44)) wr) (fun k _ => Rt.length - (intOf k).toNat)
      case atStart => exact ⟨0, rfl, Nat.zero_le _, rfl, Below.refl _ _⟩
      case round =>
        obtain ⟨i, rfl, hi, hall, hB⟩ := hrel
        have HI : Hid ((Rt.take i).all (symB T N) = true) := hall
        have HB2 : Hid (Below (w.heap.size + 2) ((w.alloc (.cells #[.int .i64 T, .int .i64 N, .slice ra rl rc] 24)).alloc (.cells #[.int .i64 L, .slice qa Rt.length qc] 44)) wr) := hB
        have HB : Hid (Below w.heap.size w wr) := (((Below.refl _ _).alloc (Nat.le_refl _) _).alloc (by simp) _).trans (hB.mono (by omega))
        have hsz : w.heap.size + 2 ≤ wr.heap.size := by have := hB.size; simp at this; omega
        have b0 : wr.cell? ⟨w.heap.size, 0, none⟩ = some (.int .i64 T) := (hB.cell (by simp)).trans (by simp [go_sem])
        have b1 : wr.cell? ⟨w.heap.size, 1, none⟩ = some (.int .i64 N) := (hB.cell (by simp)).trans (by simp [go_sem])
        have b2 : wr.cell? ⟨w.heap.size, 2, none⟩ = some (.slice ra rl rc) := (hB.cell (by simp)).trans (by simp [go_sem])
        clear hall hB call
        by_cases hi' : i < Rt.length
        · obtain ⟨b', o', hqa, hb', k3, k4⟩ := HR.out i hi'
          subst hqa
          obtain ⟨⟨t, v⟩, hsy⟩ : ∃ x, Rt.getD i (false, 0) = x := ⟨_, rfl⟩
          rw [hsy] at k3 k4
          have k3' : wr.cell? ⟨b', o' + i * 2, none⟩ = some (.bool t) := (HB.out.cell (p := ⟨b', o' + i * 2, none⟩) hb').trans k3
          have k4' : wr.cell? ⟨b', o' + i * 2 + 1, none⟩ = some (.int .i64 v) := by rw [Nat.add_assoc]; exact (HB.out.cell (p := ⟨b', o' + (i * 2 + 1), none⟩) hb').trans k4
          have HT : Hid ((Rt.take (i + 1)).all (symB T N) = symB T N (t, v)) := by
            show (Rt.take (i + 1)).all (symB T N) = _
            rw [all_take_succ _ Rt (false, 0) i hi', HI.out, hsy, Bool.true_and]
          have HF : Hid (symB T N (t, v) = false → Rt.all (symB T N) = false) := fun h => not_all _ Rt (false, 0) i hi' (by rw [hsy]; exact h)
          have n0 : (wr.alloc (.cells #[.bool t, .int .i64 v] 52)).cell? ⟨w.heap.size, 0, none⟩ = some (.int .i64 T) := by rw [World.cell?_alloc_past _ _ _ (by omega)]; exact b0
          have n1 : (wr.alloc (.cells #[.bool t, .int .i64 v] 52)).cell? ⟨w.heap.size, 1, none⟩ = some (.int .i64 N) := by rw [World.cell?_alloc_past _ _ _ (by omega)]; exact b1
          have n2 : (wr.alloc (.cells #[.bool t, .int .i64 v] 52)).cell? ⟨w.heap.size, 2, none⟩ = some (.slice ra rl rc) := by rw [World.cell?_alloc_past _ _ _ (by omega)]; exact b2
          have sym := maySym_any (w := wr.alloc (.cells #[.bool t, .int .i64 v] 52)) (T := T) (N := N) (t := t) (v := v) (ra := ra) (rl := rl) (rc := rc) rfl
          clear k3 k4 hsy b0 b1 b2
          cases hs : symB T N (t, v) with
          | true =>
            rw [hs] at sym HT
            clear hs HF
            go_wp2_with (go_at_call 34; refine sym.mono ?_; rintro e w2 ⟨rfl, hB2⟩)
            go_roundw
            case rel => exact ⟨i + 1, by go_num, by omega, HT.out, (HB2.out.alloc (by omega) _).trans (hB2.mono (by simp; omega))⟩
            case measure => simp [intOf]; omega
          | false =>
            rw [hs] at sym
            have HF' : Hid (Rt.all (symB T N) = false) := HF.out hs
            clear hs HF HT
            go_wp2_with (go_at_call 34; refine sym.mono ?_; rintro e w2 ⟨rfl, hB2⟩)
            go_ret
            exact ⟨by rw [HD.out, HF'.out]; rfl, (HB.out.alloc (by omega) _).trans (hB2.mono (by simp; omega))⟩
        · have HZ : Hid (Rt.all (symB T N) = true) := by
            show Rt.all (symB T N) = true
            rw [← all_of_take _ Rt i (by omega)]; exact HI.out
          go_wp2_with fail
          go_ret
          exact ⟨by rw [HD.out, HZ.out]; rfl, HB.out⟩
    · have HD : Hid (ruleB T N (L, Rt) = false) := by show ruleB T N (L, Rt) = _; simp [ruleB, h8]
      clear hR e1 hh
      go_enter Try.func25, Try.ntmps25
      go_wp2_with (go_at_call 33; refine call.mono ?_; rintro e w2 ⟨rfl, rfl⟩)
      go_ret
      exact ⟨by rw [HD.out]; rfl, ((Below.refl _ _).alloc (Nat.le_refl _) _).alloc (by simp) _⟩
  · have e1 : belB L N = false := decide_eq_false hh
    have HD : Hid (ruleB T N (L, Rt) = false) := by show ruleB T N (L, Rt) = _; simp [ruleB]; omega
    have call := isBelow_any (w := (w.alloc (.cells #[.int .i64 T, .int .i64 N, .slice ra rl rc] 24)).alloc (.cells #[.int .i64 L, .slice qa Rt.length qc] 44)) (n := L) (e := N)
    rw [e1] at call
    clear hR e1 hh
    go_enter Try.func25, Try.ntmps25
    go_wp2_with (go_at_call 33; refine call.mono ?_; rintro e w2 ⟨rfl, rfl⟩)
    go_ret
    exact ⟨by rw [HD.out]; rfl, ((Below.refl _ _).alloc (Nat.le_refl _) _).alloc (by simp) _⟩

set_option maxRecDepth 100000 in
set_option maxHeartbeats 3200000 in
theorem mayG_any {w : World} {T N : Int} {rv : Value} {R : List Ru} (hr : RulesAt w w.heap.size rv R) :
    Calls Try.prog 20 #[.agg #[.int .i64 T, .int .i64 N, rv]] w fun e w' => e = .returned (.bool (mayB T N R)) ∧ Below w.heap.size w w' := by
  obtain ⟨ra, rc, hrv⟩ := hr.1
  by_cases hh : headB T N R.length = true
  · have hh' := hh
    simp only [headB, decide_eq_true_eq] at hh'
    obtain ⟨h1, h2, h3, h4, h5⟩ := hh'
    have HR : Hid (RulesAt w w.heap.size rv R) := hr
    have HM : Hid (mayB T N R = R.all (ruleB T N)) := by show mayB T N R = _; simp [mayB, hh]
    clear hr hh
    subst hrv
    go_enter Try.func20, Try.ntmps20
    go_wp2_with fail
    go_loopw [28] (fun i wr => ∃ j : Nat, i = .int .i64 j ∧ j ≤ R.length ∧ (R.take j).all (ruleB T N) = true ∧ Below (w.heap.size + 1) (w.alloc (.cells #[.int .i64 T, .int .i64 N, .slice ra R.length rc] 24)) wr)
      (fun i _ => R.length - (intOf i).toNat)
    case atStart => exact ⟨0, rfl, Nat.zero_le _, rfl, Below.refl _ _⟩
    case round =>
      obtain ⟨j, rfl, hj, hall, hB⟩ := hrel
      have HA : Hid ((R.take j).all (ruleB T N) = true) := hall
      have b0 : wr.cell? ⟨w.heap.size, 0, none⟩ = some (.int .i64 T) := (hB.cell (by simp)).trans (by simp [go_sem])
      have b1 : wr.cell? ⟨w.heap.size, 1, none⟩ = some (.int .i64 N) := (hB.cell (by simp)).trans (by simp [go_sem])
      have b2 : wr.cell? ⟨w.heap.size, 2, none⟩ = some (.slice ra R.length rc) := (hB.cell (by simp)).trans (by simp [go_sem])
      have HB : Hid (Below w.heap.size w wr) := ((Below.refl _ _).alloc (Nat.le_refl _) _).trans (hB.mono (by omega))
      have HB1 : Hid (Below (w.heap.size + 1) (w.alloc (.cells #[.int .i64 T, .int .i64 N, .slice ra R.length rc] 24)) wr) := hB
      have hsz := hB.size
      simp only [World.size_alloc] at hsz
      clear hall hB
      by_cases hlt : j < R.length
      · obtain ⟨b, o, rc', qa, qc, hv, hb, k1, k2, _, k3⟩ := HR.out.2 j hlt
        cases hv
        obtain ⟨⟨L, Rt⟩, hru⟩ : ∃ x, R.getD j (0, []) = x := ⟨_, rfl⟩
        rw [hru] at k1 k2 k3
        have k1' := (HB.out.cell (p := ⟨b, o + j * 2, none⟩) hb).trans k1
        have k2' : wr.cell? ⟨b, o + j * 2 + 1, none⟩ = some (.slice qa Rt.length qc) := by rw [Nat.add_assoc]; exact (HB.out.cell (p := ⟨b, o + (j * 2 + 1), none⟩) hb).trans k2
        have HU : Hid (R.getD j (0, []) = (L, Rt)) := hru
        have hRt : RightAt w w.heap.size qa Rt := k3
        have n0 : (wr.alloc (.cells #[.int .i64 L, .slice qa Rt.length qc] 44)).cell? ⟨w.heap.size, 0, none⟩ = some (.int .i64 T) := by rw [World.cell?_alloc_past _ _ _ (by omega)]; exact b0
        have n1 : (wr.alloc (.cells #[.int .i64 L, .slice qa Rt.length qc] 44)).cell? ⟨w.heap.size, 1, none⟩ = some (.int .i64 N) := by rw [World.cell?_alloc_past _ _ _ (by omega)]; exact b1
        have n2 : (wr.alloc (.cells #[.int .i64 L, .slice qa Rt.length qc] 44)).cell? ⟨w.heap.size, 2, none⟩ = some (.slice (some ⟨b, o, none⟩) R.length rc) := by rw [World.cell?_alloc_past _ _ _ (by omega)]; exact b2
        have hrule := mayRule_any (w := wr.alloc (.cells #[.int .i64 L, .slice qa Rt.length qc] 44)) (T := T) (N := N) (L := L) (rv := .slice (some ⟨b, o, none⟩) R.length rc) (qa := qa) (qc := qc) (Rt := Rt) rfl
          ((hRt.below (HB.out.alloc (by omega) _)).mono (by simp; omega))
        clear k1 k2 k3 hru b0 b1 b2 hRt
        cases hs : ruleB T N (L, Rt) with
        | true =>
          rw [hs] at hrule
          have HJ : Hid ((R.take (j + 1)).all (ruleB T N) = true) := by
            show (R.take (j + 1)).all (ruleB T N) = true
            rw [all_take_succ _ R (0, []) j hlt, HA.out, HU.out, hs]; rfl
          clear hs
          go_wp2_with (go_at_call 25; refine hrule.mono ?_; rintro e w2 ⟨rfl, hB2⟩)
          go_roundw
          case rel => exact ⟨j + 1, by go_num, by omega, HJ.out, (HB1.out.alloc (by omega) _).trans (hB2.mono (by simp; omega))⟩
          case measure => simp [intOf]; omega
        | false =>
          rw [hs] at hrule
          have HJ : Hid (R.all (ruleB T N) = false) := rule_bad hlt (by rw [HU.out]; exact hs)
          clear hs
          go_wp2_with (go_at_call 25; refine hrule.mono ?_; rintro e w2 ⟨rfl, hB2⟩)
          go_ret
          exact ⟨by rw [HM.out, HJ.out]; rfl, (HB.out.alloc (by omega) _).trans (hB2.mono (by simp; omega))⟩
      · have HZ : Hid (mayB T N R = true) := by
          show mayB T N R = true
          rw [HM.out, ← all_of_take _ R j (by omega)]; exact HA.out
        go_wp2_with fail
        go_ret
        exact ⟨by rw [HZ.out]; rfl, HB.out⟩
  · have hm : mayB T N R = false := by simp [mayB, hh]
    simp only [headB, decide_eq_true_eq] at hh
    subst hrv
    clear hr
    rw [hm]
    clear hm
    by_cases h1 : T < 0
    · go_enter Try.func20, Try.ntmps20
      go_wp2_with fail
      go_ret
      exact ⟨rfl, (Below.refl _ _).alloc (Nat.le_refl _) _⟩
    by_cases h2 : 8 < T
    · go_enter Try.func20, Try.ntmps20
      go_wp2_with fail
      go_ret
      exact ⟨rfl, (Below.refl _ _).alloc (Nat.le_refl _) _⟩
    by_cases h3 : N < 1
    · go_enter Try.func20, Try.ntmps20
      go_wp2_with fail
      go_ret
      exact ⟨rfl, (Below.refl _ _).alloc (Nat.le_refl _) _⟩
    by_cases h4 : 12 < N
    · go_enter Try.func20, Try.ntmps20
      go_wp2_with fail
      go_ret
      exact ⟨rfl, (Below.refl _ _).alloc (Nat.le_refl _) _⟩
    have h5 : 40 < R.length := by omega
    go_enter Try.func20, Try.ntmps20
    go_wp2_with fail
    go_ret
    exact ⟨rfl, (Below.refl _ _).alloc (Nat.le_refl _) _⟩

end Go.Proofs.Ytikjekfpgklbdaa
