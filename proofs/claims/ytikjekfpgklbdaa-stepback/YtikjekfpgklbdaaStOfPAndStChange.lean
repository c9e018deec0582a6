import Derived.Test.YtikjekfpgklbdaaStOfSAndMayG
import Derived.Test.YtikjekfpgklbdaaReachMakeAndReachCome
import Derived.Test.YtikjekfpgklbdaaStCatAndStepEx
/- The contract of package step's pruneOf. -/
namespace Go.Proofs.Ytikjekfpgklbdaa
open Go.RowKit

theorem same_hasB {X Y : List Bool} {N : Nat} {P : Int → Prop} (h1 : X.length = N) (h2 : Y.length = N) (p1 : ∀ n, hasB X n ↔ P n) (p2 : ∀ n, hasB Y n ↔ P n) : X = Y := by
  refine List.ext_getElem (by omega) fun i hi hi' => ?_
  have := (p1 i).trans (p2 i).symm
  unfold hasB at this
  simp only [Int.toNat_natCast] at this
  have e1 : X.getD i false = X[i] := by simp [List.getD, hi]
  have e2 : Y.getD i false = Y[i] := by simp [List.getD, hi']
  rw [e1, e2] at this
  have h0 : (0 : Int) ≤ (i : Int) := Int.natCast_nonneg _
  cases hx : X[i] <;> cases hy : Y[i] <;> simp_all

set_option maxRecDepth 100000 in
set_option maxHeartbeats 6400000 in
theorem st_pruneOf_no {w : World} {T N : Int} {ra : Option Addr} {rc : Nat} {R : List Ru} {op a b c : Int} (hr : RulesAt w w.heap.size (.slice ra R.length rc) R) (hs : ¬ (a = 0 ∧ b = 0 ∧ c = 0)) :
    Calls Try.prog 30 #[.agg #[.int .i64 T, .int .i64 N, .slice ra R.length rc, .int .i64 op, .int .i64 a, .int .i64 b, .int .i64 c]] w fun e w' => e = .returned (.tuple #[.nilIface, .bool false]) ∧ Below w.heap.size w w' := by
  have hK := kbox_start (T := T) (N := N) (op := op) (a := a) (b := b) (c := c) hr
  obtain ⟨W0, hW0⟩ : ∃ W, w.alloc (.cells #[.int .i64 T, .int .i64 N, .slice ra R.length rc, .int .i64 op, .int .i64 a, .int .i64 b, .int .i64 c] 66) = W := ⟨_, rfl⟩
  rw [hW0] at hK
  have x4 := hK.x4
  have x5 := hK.x5
  have x6 := hK.x6
  have HB : Hid (Below w.heap.size w W0) := hK.below
  clear hK hr
  by_cases ha : a = 0
  · subst ha
    by_cases hb : b = 0
    · subst hb
      have ec : (c == 0) = false := by
        have : c ≠ 0 := fun hc => hs ⟨rfl, rfl, hc⟩
        simpa using this
      clear hs
      go_enter Try.func30, Try.ntmps30
      go_wp2_with fail
      refine bodyPost_ret (v := .tuple #[.nilIface, .bool false]) (by simp [results, Try.results30, go_sem]) rfl ?_
      exact ⟨rfl, HB.out⟩
    · have eb : (b == 0) = false := by simpa using hb
      clear hs hb
      go_enter Try.func30, Try.ntmps30
      go_wp2_with fail
      refine bodyPost_ret (v := .tuple #[.nilIface, .bool false]) (by simp [results, Try.results30, go_sem]) rfl ?_
      exact ⟨rfl, HB.out⟩
  · have ea : (a != 0) = true := by simpa using ha
    clear hs ha
    go_enter Try.func30, Try.ntmps30
    go_wp2_with fail
    refine bodyPost_ret (v := .tuple #[.nilIface, .bool false]) (by simp [results, Try.results30, go_sem]) rfl ?_
    exact ⟨rfl, HB.out⟩

set_option maxRecDepth 100000 in
set_option maxHeartbeats 6400000 in
theorem st_pruneOf_yes {w : World} {T N : Nat} {ra : Option Addr} {rc : Nat} {R : List Ru} {op : Int} (hr : RulesAt w w.heap.size (.slice ra R.length rc) R) (hm : mayB T N R = true) :
    Calls Try.prog 30 #[.agg #[.int .i64 T, .int .i64 N, .slice ra R.length rc, .int .i64 op, .int .i64 0, .int .i64 0, .int .i64 0]] w fun e w' => ∃ ov, e = .returned (.tuple #[.iface 95 (.agg #[.int .i64 T, .int .i64 N, .slice ra R.length rc, .int .i64 op, .int .i64 0, .int .i64 0, .int .i64 0, ov]), .bool true]) ∧ w'.ownsRow w.heap.size 3 1 ov (idxF (fun k => needB N R (R.getD k (0, []))) R.length).length (idxV (idxF (fun k => needB N R (R.getD k (0, []))) R.length)) ∧ Below w.heap.size w w' := by
  obtain ⟨p, hp⟩ : ∃ p : Nat → Bool, (fun k => needB N R (R.getD k (0, []))) = p := ⟨_, rfl⟩
  rw [hp]
  have HPp : Hid (∀ k, p k = needB N R (R.getD k (0, []))) := fun k => by rw [← hp]
  clear hp
  have hf := may_Fine hm
  obtain ⟨hT, hN1, hN, hRl, h5⟩ := may_fine hm
  have hK := kbox_start (T := T) (N := N) (op := op) (a := 0) (b := 0) (c := 0) hr
  obtain ⟨W0, hW0⟩ : ∃ W, w.alloc (.cells #[.int .i64 T, .int .i64 N, .slice ra R.length rc, .int .i64 op, .int .i64 0, .int .i64 0, .int .i64 0] 66) = W := ⟨_, rfl⟩
  rw [hW0] at hK
  have HK : Hid (KBox w T N ra rc R op 0 0 0 W0) := hK
  have x0 := hK.x0
  have x1 := hK.x1
  have x2 := hK.x2
  have x4 := hK.x4
  have x5 := hK.x5
  have x6 := hK.x6
  have mk := devMakes_may hK.all hm
  have HMay : Hid (mayB T N R = true) := hm
  have HFine : Hid (Fine T N R) := hf
  have H5 : Hid (∀ q, q < R.length → (0 ≤ (R.getD q (0, [])).1 ∧ (R.getD q (0, [])).1 < (N : Int)) ∧ (R.getD q (0, [])).2.length ≤ 1000 ∧ ∀ j, j < (R.getD q (0, [])).2.length → ((R.getD q (0, [])).2.getD j (false, 0)).1 = false → 0 ≤ ((R.getD q (0, [])).2.getD j (false, 0)).2 ∧ ((R.getD q (0, [])).2.getD j (false, 0)).2 < (N : Int)) := fun q hq => by
    obtain ⟨h1, h2, h3, h4⟩ := h5 q hq
    generalize (R.getD q (0, [])).2 = l at h3 h4 ⊢
    refine ⟨⟨h1, h2⟩, by omega, fun j hj ht => ?_⟩
    have hmem : l.getD j (false, 0) ∈ l := by
      rw [show l.getD j (false, 0) = l[j] by simp [List.getD, hj]]
      exact List.getElem_mem hj
    have := h4 _ hmem
    rw [ht] at this
    simpa using this
  have hRl8 : R.length ≤ 1000 := by omega
  clear hr hm hf h5 hT hN hRl hK
  go_enter Try.func30, Try.ntmps30
  go_wp2_with
    (first
     | (go_at_call 40; refine mk.mono ?_; rintro e w2 ⟨g1, Y1, rfl, hB2, hY1, hM1⟩
        have hB3 : Below W0.heap.size W0 (w2.alloc (.cells #[.slice (some ⟨g1, 0, none⟩) N N] 61)) := hB2.alloc hB2.size _
        have hK3 := HK.out.next hB3
        obtain ⟨w3, hw3⟩ : ∃ W, w2.alloc (.cells #[.slice (some ⟨g1, 0, none⟩) N N] 61) = W := ⟨_, rfl⟩
        obtain ⟨mb, hmb⟩ : ∃ x, w2.heap.size = x := ⟨_, rfl⟩
        have HMb : Hid (w3.cell? ⟨w2.heap.size, 0, none⟩ = some (.slice (some ⟨g1, 0, none⟩) N N)) := by show _ = _; rw [← hw3]; exact cell_of_blk (heap_alloc_new _ _) rfl
        rw [hw3] at hB3 hK3
        have v0 := hK3.x0
        have v1 := hK3.x1
        have v2 := hK3.x2
        have co := devComes_may hK3.all HMay.out
        have HK3 : Hid (KBox w T N ra rc R op 0 0 0 w3) := hK3
        have HY3 : Hid (RowB w3 (W0.heap.size + 1) g1 N Y1) := by show RowB _ _ _ _ _; rw [← hw3]; exact hY1.below ((Below.refl _ _).alloc (Nat.le_refl _) _)
        have HM1 : Hid (∀ n, hasB Y1 n ↔ MakesP N R n) := hM1
        clear mk hB2 hY1 hM1 hB3 hK3 hmb x0 x1 x2 x4 x5 x6)
     | (go_at_call 41; refine co.mono ?_; rintro e w4 ⟨g2, Y2, rfl, hB4, hY2, hM2⟩
        have hK4 := HK3.out.next hB4
        have HK4 : Hid (KBox w T N ra rc R op 0 0 0 w4) := hK4
        have HMb4 : Hid (w4.cell? ⟨w2.heap.size, 0, none⟩ = some (.slice (some ⟨g1, 0, none⟩) N N)) := (hB4.cell (World.block_lt_of_cell? _ _ HMb.out)).trans HMb.out
        have HY4 : Hid (RowB w4 (W0.heap.size + 1) g1 N Y1) := HY3.out.below hB4
        have HZ4 : Hid (RowB w4 (w3.heap.size + 1) g2 N Y2) := hY2
        have HM2 : Hid (∀ n, hasB Y2 n ↔ ComesP N R n) := hM2
        have t0 := hK4.x0
        have t1 := hK4.x1
        have t2 := hK4.x2
        have t3 := hK4.x3
        have t4 := hK4.x4
        have t5 := hK4.x5
        have t6 := hK4.x6
        have t2' := (hK4.next ((Below.refl _ _).alloc (Nat.le_refl _) (.cells #[.int .i64 T, .int .i64 N, .slice ra R.length rc, .int .i64 op, .int .i64 0, .int .i64 0, .int .i64 0, .slice none 0 0] 95))).x2
        clear co hB4 hY2 hM2 hK4 v0 v1 v2 hw3 HMb HY3 hW0))
  have HP : Hid (∀ k, p k = (Y1.getD (R.getD k (0, [])).1.toNat false && Y2.getD (R.getD k (0, [])).1.toNat false && allB Y1 (R.getD k (0, [])).2)) := fun k => by
    have e1 : Y1 = makesA R N := same_hasB HY4.out.len (makesA_iff HFine.out).1 HM1.out (makesA_iff HFine.out).2
    have e2 : Y2 = comesA R N := same_hasB HZ4.out.len (comesA_iff HFine.out).1 HM2.out (comesA_iff HFine.out).2
    rw [HPp.out k, e1, e2]
    rfl
  obtain ⟨mb, hmb⟩ : ∃ x, w2.heap.size = x := ⟨_, rfl⟩
  rw [hmb] at HMb4 ⊢
  clear HPp hmb HM1 HM2 HMay t0 t1 t2 t3 t4 t5 t6 t2'
  obtain ⟨pb, hpb⟩ : ∃ x, w4.heap.size = x := ⟨_, rfl⟩
  have hs1 : (w4.alloc (.cells #[.int .i64 T, .int .i64 N, .slice ra R.length rc, .int .i64 op, .int .i64 0, .int .i64 0, .int .i64 0, .slice none 0 0] 95)).heap[pb]? = some (.cells #[.int .i64 T, .int .i64 N, .slice ra R.length rc, .int .i64 op, .int .i64 0, .int .i64 0, .int .i64 0, .slice none 0 0] 95 (0, 0)) := by rw [← hpb]; exact heap_alloc_new _ _
  have hs2 : Below pb w4 (w4.alloc (.cells #[.int .i64 T, .int .i64 N, .slice ra R.length rc, .int .i64 op, .int .i64 0, .int .i64 0, .int .i64 0, .slice none 0 0] 95)) := by rw [← hpb]; exact (Below.refl _ _).alloc (Nat.le_refl _) _
  have HS : Hid (pb = w4.heap.size) := hpb.symm
  obtain ⟨W1, hW1⟩ : ∃ W, w4.alloc (.cells #[.int .i64 T, .int .i64 N, .slice ra R.length rc, .int .i64 op, .int .i64 0, .int .i64 0, .int .i64 0, .slice none 0 0] 95) = W := ⟨_, rfl⟩
  rw [hW1] at hs1 hs2 ⊢
  rw [hpb]
  have HS1 : Hid (W1.heap[pb]? = some (.cells #[.int .i64 T, .int .i64 N, .slice ra R.length rc, .int .i64 op, .int .i64 0, .int .i64 0, .int .i64 0, .slice none 0 0] 95 (0, 0)) ∧ Below pb w4 W1) := ⟨hs1, hs2⟩
  clear hW1 hpb hs1 hs2
  go_loopw [47] (fun s47 wr => ∃ (k : Nat) (ov : Value), s47 = .int .i64 k ∧ k ≤ R.length ∧ wr.heap[pb]? = some (.cells #[.int .i64 T, .int .i64 N, .slice ra R.length rc, .int .i64 op, .int .i64 0, .int .i64 0, .int .i64 0, ov] 95 (0, 0)) ∧ wr.ownsRow (pb + 1) 3 1 ov (idxF p k).length (idxV (idxF p k)) ∧ Below pb w4 wr) (fun s _ => R.length - (intOf s).toNat)
  case atStart => exact ⟨0, _, rfl, Nat.zero_le _, HS1.out.1, World.ownsRow_nil _ _ _ _, HS1.out.2⟩
  case round =>
    obtain ⟨k, ov, rfl, hk, hbx, hO, hB⟩ := hrel
    clear HS1
    have HBx : Hid (wr.heap[pb]? = some (.cells #[.int .i64 T, .int .i64 N, .slice ra R.length rc, .int .i64 op, .int .i64 0, .int .i64 0, .int .i64 0, ov] 95 (0, 0))) := hbx
    have HO : Hid (wr.ownsRow (pb + 1) 3 1 ov (idxF p k).length (idxV (idxF p k))) := hO
    have HB : Hid (Below pb w4 wr) := hB
    have hpl : pb < wr.heap.size := (Array.getElem?_eq_some_iff.1 hbx).1
    have hB4 : ∀ wq, Below pb w4 wq → Below w4.heap.size w4 wq := fun wq hq => by rw [← HS.out]; exact hq
    have HB4 : Hid (∀ wq, Below pb w4 wq → Below w4.heap.size w4 wq) := hB4
    clear hB4
    by_cases hlt : k < R.length
    · obtain ⟨b0, o0, rc0, qa, qc, hv, _, k1, k2, hsy⟩ := (HK4.out.next (HB4.out wr hB)).rules.syms hlt
      cases hv
      obtain ⟨⟨hL0, hL1⟩, hl8, hsyn⟩ := H5.out k hlt
      have hpk := HP.out k
      have hsu := idx_succ p k
      have hln := idxF_len p k
      obtain ⟨⟨L, l⟩, hx⟩ : ∃ x, R.getD k (0, []) = x := ⟨_, rfl⟩
      rw [hx] at k1 k2 hsy hL0 hL1 hl8 hsyn hpk
      simp only at k1 k2 hsy hL0 hL1 hl8 hsyn hpk
      obtain ⟨Ln, rfl⟩ : ∃ q : Nat, L = q := ⟨L.toNat, by omega⟩
      rw [Int.toNat_natCast] at hpk
      obtain ⟨W2, hW2⟩ : ∃ W, wr.alloc (.cells #[.int .i64 Ln, .slice qa l.length qc] 44) = W := ⟨_, rfl⟩
      obtain ⟨rb, hrb⟩ : ∃ x, wr.heap.size = x := ⟨_, rfl⟩
      have hB2 : Below wr.heap.size wr W2 := by rw [← hW2]; exact (Below.refl _ _).alloc (Nat.le_refl _) _
      have r0 : W2.cell? ⟨rb, 0, none⟩ = some (.int .i64 Ln) := by rw [← hW2, ← hrb]; exact cell_of_blk (heap_alloc_new _ _) rfl
      have r1 : W2.cell? ⟨rb, 1, none⟩ = some (.slice qa l.length qc) := by rw [← hW2, ← hrb]; exact cell_of_blk (heap_alloc_new _ _) rfl
      have hB2' : Below pb w4 W2 := hB.trans (hB2.mono (by omega))
      have hW4 := HB4.out W2 hB2'
      have m0 := (hW4.cell (World.block_lt_of_cell? _ _ HMb4.out)).trans HMb4.out
      have hY := HY4.out.below hW4
      have hZ := HZ4.out.below hW4
      have c1 := (hY.cell (m := Ln) (by omega)).1
      have c2 := (hZ.cell (m := Ln) (by omega)).1
      have cf := st_containsFunc (w := W2) (hsy.same (same_below hB2)) hl8 m0 hY hsyn
      obtain ⟨y1, hy1⟩ : ∃ y, Y1.getD Ln false = y := ⟨_, rfl⟩
      obtain ⟨y2, hy2⟩ : ∃ y, Y2.getD Ln false = y := ⟨_, rfl⟩
      obtain ⟨y3, hy3⟩ : ∃ y, allB Y1 l = y := ⟨_, rfl⟩
      rw [hy1] at c1 hpk
      rw [hy2] at c2 hpk
      rw [hy3] at cf hpk
      rw [hpk] at hsu
      have HBr : Hid (Below wr.heap.size wr W2 ∧ Below pb w4 W2 ∧ pb < wr.heap.size) := ⟨hB2, hB2', hpl⟩
      have i0 : (0 : Int) ≤ (k : Int) := Int.natCast_nonneg _
      have i1 : (k : Int) < (R.length : Int) := by omega
      have j0 : (0 : Int) ≤ (Ln : Int) := Int.natCast_nonneg _
      have HSu : Hid (idxF p (k + 1) = idxF p k ++ (if (y1 && y2 && y3) = true then [k] else [])) := hsu
      have keep : ∀ w5, Below W2.heap.size W2 w5 → (y1 && y2 && y3) = false → ∃ (k' : Nat) (ov' : Value), Value.int .i64 ((k : Int) + 1) = .int .i64 k' ∧ k' ≤ R.length ∧ w5.heap[pb]? = some (.cells #[.int .i64 T, .int .i64 N, .slice (some ⟨b0, o0, none⟩) R.length rc, .int .i64 op, .int .i64 0, .int .i64 0, .int .i64 0, ov'] 95 (0, 0)) ∧ w5.ownsRow (pb + 1) 3 1 ov' (idxF p k').length (idxV (idxF p k')) ∧ Below pb w4 w5 := fun w5 hB5 hn => by
        have hBw : Below wr.heap.size wr w5 := HBr.out.1.trans (hB5.mono HBr.out.1.size)
        refine ⟨k + 1, ov, by push_cast; rfl, by omega, (hBw.block _ HBr.out.2.2).trans HBx.out, ?_, HB.out.trans (hBw.mono (Nat.le_of_lt HBr.out.2.2))⟩
        rw [HSu.out, hn]
        simpa using own_below HO.out hBw fun g hg => (HO.out.lt g hg).2
      have HKeep : Hid (∀ w5, Below W2.heap.size W2 w5 → (y1 && y2 && y3) = false → ∃ (k' : Nat) (ov' : Value), Value.int .i64 ((k : Int) + 1) = .int .i64 k' ∧ k' ≤ R.length ∧ w5.heap[pb]? = some (.cells #[.int .i64 T, .int .i64 N, .slice (some ⟨b0, o0, none⟩) R.length rc, .int .i64 op, .int .i64 0, .int .i64 0, .int .i64 0, ov'] 95 (0, 0)) ∧ w5.ownsRow (pb + 1) 3 1 ov' (idxF p k').length (idxV (idxF p k')) ∧ Below pb w4 w5) := keep
      clear hx hB2 hB2' hW4 hY hZ hy1 hy2 hy3 hpk hsu hsy hsyn hB hO hbx keep hpl
      cases y1 with
      | false =>
        go_wp2_with fail
        go_roundw
        case rel => first | exact HKeep.out _ (Below.refl _ _) rfl | (obtain ⟨k', ov', h⟩ := HKeep.out _ (Below.refl _ _) rfl; exact ⟨k', ov', by rw [← h.1]; go_num, h.2⟩)
        case measure => simp [intOf]; omega
      | true =>
        cases y2 with
        | false =>
          go_wp2_with fail
          go_roundw
          case rel => first | exact HKeep.out _ (Below.refl _ _) rfl | (obtain ⟨k', ov', h⟩ := HKeep.out _ (Below.refl _ _) rfl; exact ⟨k', ov', by rw [← h.1]; go_num, h.2⟩)
          case measure => simp [intOf]; omega
        | true =>
          cases y3 with
          | false =>
            go_wp2_with (go_at_call 43; refine cf.mono ?_; rintro e w5 ⟨rfl, hB5⟩; clear cf)
            go_roundw
            case rel => first | exact HKeep.out _ hB5 rfl | (obtain ⟨k', ov', h⟩ := HKeep.out _ hB5 rfl; exact ⟨k', ov', by rw [← h.1]; go_num, h.2⟩)
            case measure => simp [intOf]; omega
          | true =>
            obtain ⟨oa, oc, hov⟩ := own_form HO.out
            obtain ⟨q, hq⟩ : ∃ q, (idxF p k).length = q := ⟨_, rfl⟩
            rw [hq] at hov hln
            have n1 : q + 1 ≤ maxLen := by unfold maxLen; omega
            have n2 : (q + 1) * 8 ≤ 140737488355328 := by omega
            have HX : Hid (idxF p (k + 1) = idxF p k ++ [k] ∧ (idxF p k).length = q ∧ ov = .slice oa q oc) := ⟨by simpa using HSu.out, hq, hov⟩
            obtain ⟨i0', hi0, hz0, hz1, hz2⟩ := info_parts Try.infoIn8
            clear hov hq
            go_wp2_with
              (first
               | (go_at_call 43; refine cf.mono ?_; rintro e w5 ⟨rfl, hB5⟩; clear cf
                  have hBw : Below wr.heap.size wr w5 := HBr.out.1.trans (hB5.mono HBr.out.1.size)
                  have HBw : Hid (Below wr.heap.size wr w5) := hBw
                  have hbx5 := (hBw.block _ HBr.out.2.2).trans HBx.out
                  have g7 : w5.cell? ⟨pb, 7, none⟩ = some (.slice oa q oc) := by rw [← HX.out.2.2]; exact cell_of_blk hbx5 rfl
                  have own5 := (own_below HO.out hBw fun g hg => (HO.out.lt g hg).2).alloc (.cells #[.int .i64 k] 3)
                  rw [HX.out.2.1, HX.out.2.2] at own5
                  have hnw5 := World.news_of_block (cs := #[.int .i64 k]) (t := 3) (fr := (0, 0)) (heap_alloc_new w5 (.cells #[.int .i64 k] 3))
                  have hb5 : pb + 1 ≤ (w5.alloc (.cells #[.int .i64 k] 3)).heap.size := by
                    have := hBw.size
                    have := HBr.out.2.2
                    simp
                    omega
                  clear hBw hbx5 hB5)
               | (at_builtin
                  refine wpList_append_lies _ rfl _ _ _ rfl (pb + 1) 3 i0' _ 1 8 Try.underlying27 hi0 hz0 hz1 hz2 rfl (by omega) (.slice oa q oc) q (idxV (idxF p k)) rfl own5 ⟨w5.heap.size, 0, none⟩ 1 1 [.int .i64 k] rfl rfl hnw5 (by simp [Value.oneCell']) (by omega) n1 n2 hb5 _ rfl ?_
                  intro g6 cap6 w6 hown6 hgrow6 hat6 hlt6
                  have hB6 : Below (pb + 1) w5 w6 := ((Below.refl _ _).alloc (Nat.le_trans HBr.out.2.2 HBw.out.size) _).grown hgrow6 hb5 fun j hj => (own5.lt j hj).1
                  have hbx6 := (hB6.block pb (by omega)).trans ((HBw.out.block _ HBr.out.2.2).trans HBx.out)
                  have g6c : w6.cell? ⟨pb, 7, none⟩ = some ov := cell_of_blk hbx6 rfl
                  have g6f : w6.frozen? ⟨pb, 7, none⟩ = false := frozen_of_blk hbx6
                  have HB6 : Hid (Below (pb + 1) w5 w6) := hB6
                  have HBx6 : Hid (w6.heap[pb]? = some (.cells #[.int .i64 T, .int .i64 N, .slice (some ⟨b0, o0, none⟩) R.length rc, .int .i64 op, .int .i64 0, .int .i64 0, .int .i64 0, ov] 95 (0, 0))) := hbx6
                  clear hB6 hbx6))
            go_roundw
            case rel =>
              have hlt6' : pb < w6.heap.size := (Array.getElem?_eq_some_iff.1 HBx6.out).1
              refine ⟨k + 1, .slice (some ⟨g6, 0, none⟩) (q + 1) cap6, by go_num, by omega, ?_, ?_, ?_⟩
              · have := heap_setCell_same w6 pb 7 _ 95 (.slice (some ⟨g6, 0, none⟩) (q + 1) cap6) HBx6.out
                simpa using this
              · rw [HX.out.1, List.length_append, HX.out.2.1]
                refine own_setLow ?_ (by simp) _
                unfold idxV at hown6 ⊢
                rw [List.map_append]
                exact hown6
              · have h5 : Below pb w4 w5 := HB.out.trans (HBw.out.mono (Nat.le_of_lt HBr.out.2.2))
                exact (h5.trans (HB6.out.mono (by omega))).setCell (by simp) _
            case measure => simp [intOf]; omega
    · have hkk : k = R.length := by omega
      obtain ⟨oa, oc, hov⟩ := own_form hO
      subst hov
      have g0 : wr.cell? ⟨pb, 0, none⟩ = some (.int .i64 T) := cell_of_blk hbx rfl
      have g1' : wr.cell? ⟨pb, 1, none⟩ = some (.int .i64 N) := cell_of_blk hbx rfl
      have g2' : wr.cell? ⟨pb, 2, none⟩ = some (.slice ra R.length rc) := cell_of_blk hbx rfl
      have g3 : wr.cell? ⟨pb, 3, none⟩ = some (.int .i64 op) := cell_of_blk hbx rfl
      have g4 : wr.cell? ⟨pb, 4, none⟩ = some (.int .i64 0) := cell_of_blk hbx rfl
      have g5 : wr.cell? ⟨pb, 5, none⟩ = some (.int .i64 0) := cell_of_blk hbx rfl
      have g6 : wr.cell? ⟨pb, 6, none⟩ = some (.int .i64 0) := cell_of_blk hbx rfl
      have g7 : wr.cell? ⟨pb, 7, none⟩ = some (.slice oa (idxF p k).length oc) := cell_of_blk hbx rfl
      have HKr : Hid (Below w.heap.size w wr) := (HK4.out.next (HB4.out wr hB)).below
      have HL : Hid (wr.ownsRow w.heap.size 3 1 (.slice oa (idxF p k).length oc) (idxF p k).length (idxV (idxF p k)) ∧ k = R.length) := ⟨own_mono hO (by have := HK4.out.below.size; have := HS.out; omega), hkk⟩
      obtain ⟨q, hq⟩ : ∃ q, (idxF p k).length = q := ⟨_, rfl⟩
      have HQ : Hid ((idxF p k).length = q) := hq
      rw [hq] at g7
      clear hbx hO hB hkk hpl
      go_wp2_with fail
      refine bodyPost_ret (v := .tuple #[.iface 95 (.agg #[.int .i64 T, .int .i64 N, .slice ra R.length rc, .int .i64 op, .int .i64 0, .int .i64 0, .int .i64 0, .slice oa q oc]), .bool true]) (by simp [results, Try.results30, go_sem]) rfl ?_
      have h := HL.out.1
      rw [HQ.out] at h
      rw [← HQ.out, HL.out.2] at h
      refine ⟨_, rfl, ?_, HKr.out⟩
      rw [← HQ.out, HL.out.2]
      exact h

end Go.Proofs.Ytikjekfpgklbdaa

/- The contract of package step's changeOf. -/
namespace Go.Proofs.Ytikjekfpgklbdaa
open Go.RowKit

def ruW (R : List Ru) (s : Stp) : Ru := R.getD s.a.toNat (0, [])
def idxW (R : List Ru) (s : Stp) : List Nat := idxF (fun k => decide ((R.getD k (0, [])).1 = ((ruW R s).2.getD s.b.toNat (false, 0)).2)) R.length

/-- The change that a step is. -/
structure ChgAt (w : World) (B : Nat) (T N : Nat) (ra : Option Addr) (rc : Nat) (R : List Ru) (s : Stp) (cv : Value) : Prop where
  swap : s.op = 1 → cv = .iface 83 (.agg #[.int .i64 T, .int .i64 N, .slice ra R.length rc, .int .i64 s.op, .int .i64 s.a, .int .i64 s.b, .int .i64 s.c])
  extract : s.op = 2 → cv = .iface 86 (.agg #[.int .i64 T, .int .i64 N, .slice ra R.length rc, .int .i64 s.op, .int .i64 s.a, .int .i64 s.b, .int .i64 s.c, .int .i64 (namesS ((ruW R s).2.take s.b.toNat)).length, .int .i64 (namesS ((ruW R s).2.take s.c.toNat)).length])
  inline : s.op = 3 → ∃ ov, cv = .iface 89 (.agg #[.int .i64 T, .int .i64 N, .slice ra R.length rc, .int .i64 s.op, .int .i64 s.a, .int .i64 s.b, .int .i64 s.c, ov, .int .i64 (namesS ((ruW R s).2.take s.b.toNat)).length]) ∧ w.ownsRow B 3 1 ov (idxW R s).length (idxV (idxW R s))
  left : s.op = 4 → cv = .iface 90 (.agg #[.int .i64 T, .int .i64 N, .slice ra R.length rc, .int .i64 s.op, .int .i64 s.a, .int .i64 s.b, .int .i64 s.c])
  prune : s.op = 5 → ∃ ov, cv = .iface 95 (.agg #[.int .i64 T, .int .i64 N, .slice ra R.length rc, .int .i64 s.op, .int .i64 s.a, .int .i64 s.b, .int .i64 s.c, ov]) ∧ w.ownsRow B 3 1 ov (idxF (fun k => needB N R (R.getD k (0, []))) R.length).length (idxV (idxF (fun k => needB N R (R.getD k (0, []))) R.length))

theorem ChgAt.next {w w' : World} {B T N : Nat} {ra : Option Addr} {rc : Nat} {R : List Ru} {s : Stp} {cv : Value} (h : ChgAt w B T N ra rc R s cv) (hb : Below w.heap.size w w') : ChgAt w' B T N ra rc R s cv :=
  ⟨h.swap, h.extract, fun e => let ⟨ov, h1, h2⟩ := h.inline e; ⟨ov, h1, own_below h2 hb fun g hg => (h2.lt g hg).2⟩, h.left, fun e => let ⟨ov, h1, h2⟩ := h.prune e; ⟨ov, h1, own_below h2 hb fun g hg => (h2.lt g hg).2⟩⟩
theorem ChgAt.set {w : World} {B T N : Nat} {ra : Option Addr} {rc : Nat} {R : List Ru} {s : Stp} {cv : Value} (h : ChgAt w B T N ra rc R s cv) {a : Addr} (ha : a.block < B) (u : Value) : ChgAt (w.setCell a u) B T N ra rc R s cv :=
  ⟨h.swap, h.extract, fun e => let ⟨ov, h1, h2⟩ := h.inline e; ⟨ov, h1, own_setLow h2 ha u⟩, h.left, fun e => let ⟨ov, h1, h2⟩ := h.prune e; ⟨ov, h1, own_setLow h2 ha u⟩⟩
theorem ChgAt.mono {w : World} {B B' T N : Nat} {ra : Option Addr} {rc : Nat} {R : List Ru} {s : Stp} {cv : Value} (h : ChgAt w B T N ra rc R s cv) (hB : B' ≤ B) : ChgAt w B' T N ra rc R s cv :=
  ⟨h.swap, h.extract, fun e => let ⟨ov, h1, h2⟩ := h.inline e; ⟨ov, h1, own_mono h2 hB⟩, h.left, fun e => let ⟨ov, h1, h2⟩ := h.prune e; ⟨ov, h1, own_mono h2 hB⟩⟩

section
variable {w : World} {T N : Nat} {ra : Option Addr} {rc : Nat} {R : List Ru}

theorem chg_swap (hr : RulesAt w w.heap.size (.slice ra R.length rc) R) {a b c : Int} : Calls Try.prog 26 #[.agg #[.int .i64 T, .int .i64 N, .slice ra R.length rc, .int .i64 1, .int .i64 a, .int .i64 b, .int .i64 c]] w fun e w' => ∃ cv, e = .returned (.tuple #[cv, .bool (stepB N R ⟨1, a, b, c⟩)]) ∧ (stepB N R ⟨1, a, b, c⟩ = true → ChgAt w' w.heap.size T N ra rc R ⟨1, a, b, c⟩ cv) ∧ Below w.heap.size w w' := by
  have _ := hr
  refine st_swapOf.mono ?_
  rintro e w' ⟨rfl, hB⟩
  have hE : (decide (0 < a) && decide (a < (N : Int)) && (decide (0 < b) && decide (b < (N : Int))) && decide (c = 0)) = stepB N R ⟨1, a, b, c⟩ := by
    unfold stepB
    simp only
    rw [if_pos trivial]
    have e1 : decide (0 < a) = decide (1 ≤ a) := by rw [decide_eq_decide]; omega
    have e2 : decide (0 < b) = decide (1 ≤ b) := by rw [decide_eq_decide]; omega
    rw [e1, e2]
    simp only [Bool.and_assoc]
  refine ⟨_, by rw [hE], fun _ => ⟨fun _ => rfl, fun h => absurd h (by simp), fun h => absurd h (by simp), fun h => absurd h (by simp), fun h => absurd h (by simp)⟩, hB⟩

theorem chg_extract (hr : RulesAt w w.heap.size (.slice ra R.length rc) R) (hm : mayB T N R = true) {a b c : Int} : Calls Try.prog 27 #[.agg #[.int .i64 T, .int .i64 N, .slice ra R.length rc, .int .i64 2, .int .i64 a, .int .i64 b, .int .i64 c]] w fun e w' => ∃ cv, e = .returned (.tuple #[cv, .bool (stepB N R ⟨2, a, b, c⟩)]) ∧ (stepB N R ⟨2, a, b, c⟩ = true → ChgAt w' w.heap.size T N ra rc R ⟨2, a, b, c⟩ cv) ∧ Below w.heap.size w w' := by
  obtain ⟨_, _, _, hRl, h5⟩ := may_fine hm
  have hst : stepB N R ⟨2, a, b, c⟩ = true ↔ (0 ≤ a ∧ a < (R.length : Int) ∧ 0 ≤ b ∧ b < c ∧ c ≤ ((R.getD a.toNat (0, [])).2.length : Int)) := by
    unfold stepB
    simp only
    rw [if_neg (by decide), if_pos trivial]
    simp only [Bool.and_eq_true, decide_eq_true_eq]
    constructor
    · rintro ⟨⟨⟨⟨h1, h2⟩, h3⟩, h4⟩, h5⟩; exact ⟨h1, h2, h3, h4, h5⟩
    · rintro ⟨h1, h2, h3, h4, h5⟩; exact ⟨⟨⟨⟨h1, h2⟩, h3⟩, h4⟩, h5⟩
  cases hB : stepB N R ⟨2, a, b, c⟩ with
  | false =>
    refine (st_extractOf_no hr fun h => ?_).mono ?_
    · rw [hst.2 h] at hB; cases hB
    · rintro e w' ⟨rfl, hB'⟩
      exact ⟨_, rfl, fun h => absurd h (by simp), hB'⟩
  | true =>
    obtain ⟨h1, h2, h3, h4, h6⟩ := hst.1 hB
    obtain ⟨ka, rfl⟩ : ∃ x : Nat, a = x := ⟨a.toNat, by omega⟩
    obtain ⟨bn, rfl⟩ : ∃ x : Nat, b = x := ⟨b.toNat, by omega⟩
    obtain ⟨cn, rfl⟩ : ∃ x : Nat, c = x := ⟨c.toNat, by omega⟩
    simp only [Int.toNat_natCast] at h6
    obtain ⟨⟨L, l⟩, hx⟩ : ∃ x, R.getD ka (0, []) = x := ⟨_, rfl⟩
    have h8 := (h5 ka (by omega)).2.2.1
    rw [hx] at h6 h8
    simp only at h6 h8
    refine (st_extractOf_yes (m := l.length - cn) hr (by omega) hx (by omega) (by omega) (by omega)).mono ?_
    rintro e w' ⟨rfl, hB'⟩
    refine ⟨_, rfl, fun _ => ⟨fun h => absurd h (by simp), fun _ => ?_, fun h => absurd h (by simp), fun h => absurd h (by simp), fun h => absurd h (by simp)⟩, hB'⟩
    unfold ruW
    simp only [Int.toNat_natCast, hx]

theorem chg_inline (hr : RulesAt w w.heap.size (.slice ra R.length rc) R) (hm : mayB T N R = true) {a b c : Int} : Calls Try.prog 28 #[.agg #[.int .i64 T, .int .i64 N, .slice ra R.length rc, .int .i64 3, .int .i64 a, .int .i64 b, .int .i64 c]] w fun e w' => ∃ cv, e = .returned (.tuple #[cv, .bool (stepB N R ⟨3, a, b, c⟩)]) ∧ (stepB N R ⟨3, a, b, c⟩ = true → ChgAt w' w.heap.size T N ra rc R ⟨3, a, b, c⟩ cv) ∧ Below w.heap.size w w' := by
  obtain ⟨_, _, _, hRl, h5⟩ := may_fine hm
  have hst : stepB N R ⟨3, a, b, c⟩ = true ↔ (0 ≤ a ∧ a < (R.length : Int) ∧ 0 ≤ b ∧ b < ((R.getD a.toNat (0, [])).2.length : Int) ∧ c = 0 ∧ ((R.getD a.toNat (0, [])).2.getD b.toNat (false, 0)).1 = false ∧ ((R.getD a.toNat (0, [])).2.getD b.toNat (false, 0)).2 ≠ (R.getD a.toNat (0, [])).1) := by
    unfold stepB
    simp only
    rw [if_neg (by decide), if_neg (by decide), if_pos trivial]
    simp only [Bool.and_eq_true, decide_eq_true_eq, Bool.not_eq_true', decide_eq_false_iff_not]
    constructor
    · rintro ⟨⟨⟨⟨⟨⟨h1, h2⟩, h3⟩, h4⟩, h5⟩, h6⟩, h7⟩; exact ⟨h1, h2, h3, h4, h5, h6, h7⟩
    · rintro ⟨h1, h2, h3, h4, h5, h6, h7⟩; exact ⟨⟨⟨⟨⟨⟨h1, h2⟩, h3⟩, h4⟩, h5⟩, h6⟩, h7⟩
  cases hB : stepB N R ⟨3, a, b, c⟩ with
  | false =>
    refine (st_inlineOf_no hr fun h => ?_).mono ?_
    · rw [hst.2 h] at hB; cases hB
    · rintro e w' ⟨rfl, hB'⟩
      exact ⟨_, rfl, fun h => absurd h (by simp), hB'⟩
  | true =>
    obtain ⟨h1, h2, h3, h4, h6, h7, h9⟩ := hst.1 hB
    subst h6
    obtain ⟨ka, rfl⟩ : ∃ x : Nat, a = x := ⟨a.toNat, by omega⟩
    obtain ⟨bn, rfl⟩ : ∃ x : Nat, b = x := ⟨b.toNat, by omega⟩
    simp only [Int.toNat_natCast] at h4 h7 h9
    obtain ⟨⟨L, l⟩, hx⟩ : ∃ x, R.getD ka (0, []) = x := ⟨_, rfl⟩
    have h8 := (h5 ka (by omega)).2.2.1
    rw [hx] at h4 h7 h8 h9
    simp only at h4 h7 h8 h9
    obtain ⟨⟨t, X⟩, hX⟩ : ∃ x, l.getD bn (false, 0) = x := ⟨_, rfl⟩
    rw [hX] at h7 h9
    simp only at h7 h9
    subst h7
    refine (st_inlineOf_yes (m := l.length - (bn + 1)) hr (by omega) (by omega) hx (by omega) (by omega) hX h9).mono ?_
    rintro e w' ⟨ov, rfl, hL, hB'⟩
    refine ⟨_, rfl, fun _ => ⟨fun h => absurd h (by simp), fun h => absurd h (by simp), fun _ => ⟨ov, ?_, ?_⟩, fun h => absurd h (by simp), fun h => absurd h (by simp)⟩, hB'⟩
    · unfold ruW
      simp only [Int.toNat_natCast, hx]
    · unfold idxW ruW
      simp only [Int.toNat_natCast, hx, hX]
      exact hL

theorem chg_left (hr : RulesAt w w.heap.size (.slice ra R.length rc) R) (hm : mayB T N R = true) {a b c : Int} : Calls Try.prog 29 #[.agg #[.int .i64 T, .int .i64 N, .slice ra R.length rc, .int .i64 4, .int .i64 a, .int .i64 b, .int .i64 c]] w fun e w' => ∃ cv, e = .returned (.tuple #[cv, .bool (stepB N R ⟨4, a, b, c⟩)]) ∧ (stepB N R ⟨4, a, b, c⟩ = true → ChgAt w' w.heap.size T N ra rc R ⟨4, a, b, c⟩ cv) ∧ Below w.heap.size w w' := by
  obtain ⟨_, _, _, hRl, h5⟩ := may_fine hm
  have hst : stepB N R ⟨4, a, b, c⟩ = (decide (b = 0) && decide (c = 0) && leftB R a) := by
    unfold stepB
    simp only
    rw [if_neg (by decide), if_neg (by decide), if_neg (by decide), if_pos trivial]
  have hin : leftB R a = true → 0 ≤ a ∧ a < (N : Int) := fun h => by
    unfold leftB at h
    simp only [Bool.and_eq_true, List.any_eq_true] at h
    obtain ⟨⟨r, hrm, ho⟩, _⟩ := h
    unfold ownA at ho
    simp only [Bool.and_eq_true, decide_eq_true_eq] at ho
    have := (may_Fine hm).left r hrm
    rw [ho.1] at this
    exact this
  by_cases hg : 0 ≤ a ∧ a < (N : Int) ∧ b = 0 ∧ c = 0
  · obtain ⟨h1, h2, rfl, rfl⟩ := hg
    have e : stepB N R ⟨4, a, 0, 0⟩ = leftB R a := by rw [hst]; rfl
    rw [e]
    refine (st_leftOf_yes hr (by omega) ⟨h1, h2⟩).mono ?_
    rintro e w' ⟨cv, rfl, hc, hB'⟩
    exact ⟨cv, rfl, fun h => ⟨fun h => absurd h (by simp), fun h => absurd h (by simp), fun h => absurd h (by simp), fun _ => hc h, fun h => absurd h (by simp)⟩, hB'⟩
  · have e : stepB N R ⟨4, a, b, c⟩ = false := by
      cases h : stepB N R ⟨4, a, b, c⟩ with
      | false => rfl
      | true =>
        rw [hst] at h
        simp only [Bool.and_eq_true, decide_eq_true_eq] at h
        have := hin h.2
        exact absurd ⟨this.1, this.2, h.1.1, h.1.2⟩ hg
    rw [e]
    refine (st_leftOf_no hr hg).mono ?_
    rintro e w' ⟨rfl, hB'⟩
    exact ⟨_, rfl, fun h => absurd h (by simp), hB'⟩

theorem chg_prune (hr : RulesAt w w.heap.size (.slice ra R.length rc) R) (hm : mayB T N R = true) {a b c : Int} : Calls Try.prog 30 #[.agg #[.int .i64 T, .int .i64 N, .slice ra R.length rc, .int .i64 5, .int .i64 a, .int .i64 b, .int .i64 c]] w fun e w' => ∃ cv, e = .returned (.tuple #[cv, .bool (stepB N R ⟨5, a, b, c⟩)]) ∧ (stepB N R ⟨5, a, b, c⟩ = true → ChgAt w' w.heap.size T N ra rc R ⟨5, a, b, c⟩ cv) ∧ Below w.heap.size w w' := by
  have hst : stepB N R ⟨5, a, b, c⟩ = (decide (a = 0) && decide (b = 0) && decide (c = 0)) := by
    unfold stepB
    simp only
    rw [if_neg (by decide), if_neg (by decide), if_neg (by decide), if_neg (by decide), if_pos trivial]
  by_cases hg : a = 0 ∧ b = 0 ∧ c = 0
  · obtain ⟨rfl, rfl, rfl⟩ := hg
    have e : stepB N R ⟨5, 0, 0, 0⟩ = true := by rw [hst]; rfl
    rw [e]
    refine (st_pruneOf_yes hr hm).mono ?_
    rintro e w' ⟨ov, rfl, hL, hB'⟩
    exact ⟨_, rfl, fun _ => ⟨fun h => absurd h (by simp), fun h => absurd h (by simp), fun h => absurd h (by simp), fun h => absurd h (by simp), fun _ => ⟨ov, rfl, hL⟩⟩, hB'⟩
  · have e : stepB N R ⟨5, a, b, c⟩ = false := by
      cases h : stepB N R ⟨5, a, b, c⟩ with
      | false => rfl
      | true =>
        rw [hst] at h
        simp only [Bool.and_eq_true, decide_eq_true_eq] at h
        exact absurd ⟨h.1.1, h.1.2, h.2⟩ hg
    rw [e]
    refine (st_pruneOf_no hr hg).mono ?_
    rintro e w' ⟨rfl, hB'⟩
    exact ⟨_, rfl, fun h => absurd h (by simp), hB'⟩

set_option maxRecDepth 100000 in
set_option maxHeartbeats 3200000 in
theorem change_swap (hr : RulesAt w w.heap.size (.slice ra R.length rc) R) (hm : mayB T N R = true) {a b c : Int} : Calls Try.prog 21 #[.agg #[.int .i64 T, .int .i64 N, .slice ra R.length rc, .int .i64 1, .int .i64 a, .int .i64 b, .int .i64 c]] w fun e w' => ∃ cv, e = .returned (.tuple #[cv, .bool (stepB N R ⟨1, a, b, c⟩)]) ∧ (stepB N R ⟨1, a, b, c⟩ = true → ChgAt w' w.heap.size T N ra rc R ⟨1, a, b, c⟩ cv) ∧ Below w.heap.size w w' := by
  have _ := hm
  have hK := kbox_start (T := T) (N := N) (op := 1) (a := a) (b := b) (c := c) hr
  obtain ⟨W0, hW0⟩ : ∃ W, w.alloc (.cells #[.int .i64 T, .int .i64 N, .slice ra R.length rc, .int .i64 1, .int .i64 a, .int .i64 b, .int .i64 c] 66) = W := ⟨_, rfl⟩
  rw [hW0] at hK
  have x0 := hK.x0
  have x1 := hK.x1
  have x2 := hK.x2
  have x3 := hK.x3
  have x4 := hK.x4
  have x5 := hK.x5
  have x6 := hK.x6
  have HB : Hid (Below w.heap.size w W0) := hK.below
  have cc := chg_swap (T := T) (N := N) (a := a) (b := b) (c := c) hK.all
  obtain ⟨z, hz⟩ : ∃ z, stepB N R ⟨1, a, b, c⟩ = z := ⟨_, rfl⟩
  rw [hz] at cc ⊢
  clear hK hr hm hz
  go_enter Try.func21, Try.ntmps21
  go_wp2_with (go_at_call 26; refine cc.mono ?_; rintro e w2 ⟨cv, rfl, hcv, hB2⟩; clear cc)
  refine bodyPost_ret (v := .tuple #[cv, .bool z]) (by simp [results, Try.results21, go_sem]) rfl ?_
  exact ⟨cv, rfl, fun h => (hcv h).mono HB.out.size, HB.out.trans (hB2.mono HB.out.size)⟩

set_option maxRecDepth 100000 in
set_option maxHeartbeats 3200000 in
theorem change_extract (hr : RulesAt w w.heap.size (.slice ra R.length rc) R) (hm : mayB T N R = true) {a b c : Int} : Calls Try.prog 21 #[.agg #[.int .i64 T, .int .i64 N, .slice ra R.length rc, .int .i64 2, .int .i64 a, .int .i64 b, .int .i64 c]] w fun e w' => ∃ cv, e = .returned (.tuple #[cv, .bool (stepB N R ⟨2, a, b, c⟩)]) ∧ (stepB N R ⟨2, a, b, c⟩ = true → ChgAt w' w.heap.size T N ra rc R ⟨2, a, b, c⟩ cv) ∧ Below w.heap.size w w' := by
  have _ := hm
  have hK := kbox_start (T := T) (N := N) (op := 2) (a := a) (b := b) (c := c) hr
  obtain ⟨W0, hW0⟩ : ∃ W, w.alloc (.cells #[.int .i64 T, .int .i64 N, .slice ra R.length rc, .int .i64 2, .int .i64 a, .int .i64 b, .int .i64 c] 66) = W := ⟨_, rfl⟩
  rw [hW0] at hK
  have x0 := hK.x0
  have x1 := hK.x1
  have x2 := hK.x2
  have x3 := hK.x3
  have x4 := hK.x4
  have x5 := hK.x5
  have x6 := hK.x6
  have HB : Hid (Below w.heap.size w W0) := hK.below
  have cc := chg_extract (T := T) (N := N) (a := a) (b := b) (c := c) hK.all hm
  obtain ⟨z, hz⟩ : ∃ z, stepB N R ⟨2, a, b, c⟩ = z := ⟨_, rfl⟩
  rw [hz] at cc ⊢
  clear hK hr hm hz
  go_enter Try.func21, Try.ntmps21
  go_wp2_with (go_at_call 27; refine cc.mono ?_; rintro e w2 ⟨cv, rfl, hcv, hB2⟩; clear cc)
  refine bodyPost_ret (v := .tuple #[cv, .bool z]) (by simp [results, Try.results21, go_sem]) rfl ?_
  exact ⟨cv, rfl, fun h => (hcv h).mono HB.out.size, HB.out.trans (hB2.mono HB.out.size)⟩

set_option maxRecDepth 100000 in
set_option maxHeartbeats 3200000 in
theorem change_inline (hr : RulesAt w w.heap.size (.slice ra R.length rc) R) (hm : mayB T N R = true) {a b c : Int} : Calls Try.prog 21 #[.agg #[.int .i64 T, .int .i64 N, .slice ra R.length rc, .int .i64 3, .int .i64 a, .int .i64 b, .int .i64 c]] w fun e w' => ∃ cv, e = .returned (.tuple #[cv, .bool (stepB N R ⟨3, a, b, c⟩)]) ∧ (stepB N R ⟨3, a, b, c⟩ = true → ChgAt w' w.heap.size T N ra rc R ⟨3, a, b, c⟩ cv) ∧ Below w.heap.size w w' := by
  have _ := hm
  have hK := kbox_start (T := T) (N := N) (op := 3) (a := a) (b := b) (c := c) hr
  obtain ⟨W0, hW0⟩ : ∃ W, w.alloc (.cells #[.int .i64 T, .int .i64 N, .slice ra R.length rc, .int .i64 3, .int .i64 a, .int .i64 b, .int .i64 c] 66) = W := ⟨_, rfl⟩
  rw [hW0] at hK
  have x0 := hK.x0
  have x1 := hK.x1
  have x2 := hK.x2
  have x3 := hK.x3
  have x4 := hK.x4
  have x5 := hK.x5
  have x6 := hK.x6
  have HB : Hid (Below w.heap.size w W0) := hK.below
  have cc := chg_inline (T := T) (N := N) (a := a) (b := b) (c := c) hK.all hm
  obtain ⟨z, hz⟩ : ∃ z, stepB N R ⟨3, a, b, c⟩ = z := ⟨_, rfl⟩
  rw [hz] at cc ⊢
  clear hK hr hm hz
  go_enter Try.func21, Try.ntmps21
  go_wp2_with (go_at_call 28; refine cc.mono ?_; rintro e w2 ⟨cv, rfl, hcv, hB2⟩; clear cc)
  refine bodyPost_ret (v := .tuple #[cv, .bool z]) (by simp [results, Try.results21, go_sem]) rfl ?_
  exact ⟨cv, rfl, fun h => (hcv h).mono HB.out.size, HB.out.trans (hB2.mono HB.out.size)⟩

set_option maxRecDepth 100000 in
set_option maxHeartbeats 3200000 in
theorem change_left (hr : RulesAt w w.heap.size (.slice ra R.length rc) R) (hm : mayB T N R = true) {a b c : Int} : Calls Try.prog 21 #[.agg #[.int .i64 T, .int .i64 N, .slice ra R.length rc, .int .i64 4, .int .i64 a, .int .i64 b, .int .i64 c]] w fun e w' => ∃ cv, e = .returned (.tuple #[cv, .bool (stepB N R ⟨4, a, b, c⟩)]) ∧ (stepB N R ⟨4, a, b, c⟩ = true → ChgAt w' w.heap.size T N ra rc R ⟨4, a, b, c⟩ cv) ∧ Below w.heap.size w w' := by
  have _ := hm
  have hK := kbox_start (T := T) (N := N) (op := 4) (a := a) (b := b) (c := c) hr
  obtain ⟨W0, hW0⟩ : ∃ W, w.alloc (.cells #[.int .i64 T, .int .i64 N, .slice ra R.length rc, .int .i64 4, .int .i64 a, .int .i64 b, .int .i64 c] 66) = W := ⟨_, rfl⟩
  rw [hW0] at hK
  have x0 := hK.x0
  have x1 := hK.x1
  have x2 := hK.x2
  have x3 := hK.x3
  have x4 := hK.x4
  have x5 := hK.x5
  have x6 := hK.x6
  have HB : Hid (Below w.heap.size w W0) := hK.below
  have cc := chg_left (T := T) (N := N) (a := a) (b := b) (c := c) hK.all hm
  obtain ⟨z, hz⟩ : ∃ z, stepB N R ⟨4, a, b, c⟩ = z := ⟨_, rfl⟩
  rw [hz] at cc ⊢
  clear hK hr hm hz
  go_enter Try.func21, Try.ntmps21
  go_wp2_with (go_at_call 29; refine cc.mono ?_; rintro e w2 ⟨cv, rfl, hcv, hB2⟩; clear cc)
  refine bodyPost_ret (v := .tuple #[cv, .bool z]) (by simp [results, Try.results21, go_sem]) rfl ?_
  exact ⟨cv, rfl, fun h => (hcv h).mono HB.out.size, HB.out.trans (hB2.mono HB.out.size)⟩

set_option maxRecDepth 100000 in
set_option maxHeartbeats 3200000 in
theorem change_prune (hr : RulesAt w w.heap.size (.slice ra R.length rc) R) (hm : mayB T N R = true) {a b c : Int} : Calls Try.prog 21 #[.agg #[.int .i64 T, .int .i64 N, .slice ra R.length rc, .int .i64 5, .int .i64 a, .int .i64 b, .int .i64 c]] w fun e w' => ∃ cv, e = .returned (.tuple #[cv, .bool (stepB N R ⟨5, a, b, c⟩)]) ∧ (stepB N R ⟨5, a, b, c⟩ = true → ChgAt w' w.heap.size T N ra rc R ⟨5, a, b, c⟩ cv) ∧ Below w.heap.size w w' := by
  have _ := hm
  have hK := kbox_start (T := T) (N := N) (op := 5) (a := a) (b := b) (c := c) hr
  obtain ⟨W0, hW0⟩ : ∃ W, w.alloc (.cells #[.int .i64 T, .int .i64 N, .slice ra R.length rc, .int .i64 5, .int .i64 a, .int .i64 b, .int .i64 c] 66) = W := ⟨_, rfl⟩
  rw [hW0] at hK
  have x0 := hK.x0
  have x1 := hK.x1
  have x2 := hK.x2
  have x3 := hK.x3
  have x4 := hK.x4
  have x5 := hK.x5
  have x6 := hK.x6
  have HB : Hid (Below w.heap.size w W0) := hK.below
  have cc := chg_prune (T := T) (N := N) (a := a) (b := b) (c := c) hK.all hm
  obtain ⟨z, hz⟩ : ∃ z, stepB N R ⟨5, a, b, c⟩ = z := ⟨_, rfl⟩
  rw [hz] at cc ⊢
  clear hK hr hm hz
  go_enter Try.func21, Try.ntmps21
  go_wp2_with (go_at_call 30; refine cc.mono ?_; rintro e w2 ⟨cv, rfl, hcv, hB2⟩; clear cc)
  refine bodyPost_ret (v := .tuple #[cv, .bool z]) (by simp [results, Try.results21, go_sem]) rfl ?_
  exact ⟨cv, rfl, fun h => (hcv h).mono HB.out.size, HB.out.trans (hB2.mono HB.out.size)⟩

set_option maxRecDepth 100000 in
set_option maxHeartbeats 3200000 in
theorem change_none (hr : RulesAt w w.heap.size (.slice ra R.length rc) R) {op a b c : Int} (h1 : op ≠ 1) (h2 : op ≠ 2) (h3 : op ≠ 3) (h4 : op ≠ 4) (h5 : op ≠ 5) : Calls Try.prog 21 #[.agg #[.int .i64 T, .int .i64 N, .slice ra R.length rc, .int .i64 op, .int .i64 a, .int .i64 b, .int .i64 c]] w fun e w' => e = .returned (.tuple #[.nilIface, .bool false]) ∧ Below w.heap.size w w' := by
  have hK := kbox_start (T := T) (N := N) (op := op) (a := a) (b := b) (c := c) hr
  obtain ⟨W0, hW0⟩ : ∃ W, w.alloc (.cells #[.int .i64 T, .int .i64 N, .slice ra R.length rc, .int .i64 op, .int .i64 a, .int .i64 b, .int .i64 c] 66) = W := ⟨_, rfl⟩
  rw [hW0] at hK
  have x3 := hK.x3
  have HB : Hid (Below w.heap.size w W0) := hK.below
  have e1 : (op == 1) = false := by simpa using h1
  have e2 : (op == 2) = false := by simpa using h2
  have e3 : (op == 3) = false := by simpa using h3
  have e4 : (op == 4) = false := by simpa using h4
  have e5 : (op == 5) = false := by simpa using h5
  clear hK hr h1 h2 h3 h4 h5
  go_enter Try.func21, Try.ntmps21
  go_wp2_with fail
  refine bodyPost_ret (v := .tuple #[.nilIface, .bool false]) (by simp [results, Try.results21, go_sem]) rfl ?_
  exact ⟨rfl, HB.out⟩

/-- The change that a step is, if it is one. -/
theorem st_changeOf (hr : RulesAt w w.heap.size (.slice ra R.length rc) R) (hm : mayB T N R = true) (s : Stp) : Calls Try.prog 21 #[.agg #[.int .i64 T, .int .i64 N, .slice ra R.length rc, .int .i64 s.op, .int .i64 s.a, .int .i64 s.b, .int .i64 s.c]] w fun e w' => ∃ cv, e = .returned (.tuple #[cv, .bool (stepB N R s)]) ∧ (stepB N R s = true → ChgAt w' w.heap.size T N ra rc R s cv) ∧ Below w.heap.size w w' := by
  obtain ⟨op, a, b, c⟩ := s
  by_cases h1 : op = 1
  · subst h1; exact change_swap hr hm
  by_cases h2 : op = 2
  · subst h2; exact change_extract hr hm
  by_cases h3 : op = 3
  · subst h3; exact change_inline hr hm
  by_cases h4 : op = 4
  · subst h4; exact change_left hr hm
  by_cases h5 : op = 5
  · subst h5; exact change_prune hr hm
  have e : stepB N R ⟨op, a, b, c⟩ = false := by
    unfold stepB
    simp [h1, h2, h3, h4, h5]
  rw [e]
  refine (change_none hr h1 h2 h3 h4 h5).mono ?_
  rintro e w' ⟨rfl, hB⟩
  exact ⟨_, rfl, fun h => (by cases h), hB⟩
end

end Go.Proofs.Ytikjekfpgklbdaa
