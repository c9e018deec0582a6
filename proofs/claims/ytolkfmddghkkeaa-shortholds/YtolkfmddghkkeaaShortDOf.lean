/- The contract of the program's short.Of: its answer is the shortest yields. -/
import Derived.Test.YtolkfmddghkkeaaShortD
import Derived.Test.YtolkfmddghkkeaaMayG
import Derived.Deep.LoopGhost
import Derived.Test.YtolkfmddghkkeaaHeldTail
import Derived.Deep.CutRange
namespace Go.Proofs.Ytolkfmddghkkeaa
open Go.RowKit

/-- Of a grammar that may be. -/
theorem may_FineD {T N : Nat} {R : List Ru} (h : mayB T N R = true) : Fine T N R := by
  obtain ⟨_, h1, _, _, h5⟩ := may_fine h
  have mem : ∀ r ∈ R, 0 ≤ r.1 ∧ r.1 < (N : Int) ∧ ∀ s ∈ r.2, 0 ≤ s.2 ∧ s.2 < if s.1 then (T : Int) else (N : Int) := fun r hr => by
    obtain ⟨q, hq, rfl⟩ := List.getElem_of_mem hr
    have e : R.getD q (0, []) = R[q] := by simp [List.getD, hq]
    rw [← e]
    exact ⟨(h5 q hq).1, (h5 q hq).2.1, (h5 q hq).2.2.2⟩
  refine ⟨fun r hr => ⟨(mem r hr).1, (mem r hr).2.1⟩, fun r hr s hs hb => ?_, fun r hr s hs hb => ?_, h1⟩
  · have := (mem r hr).2.2 s hs; rw [hb] at this; simpa using this
  · have := (mem r hr).2.2 s hs; rw [hb] at this; simpa using this

theorem SndD.le_lid {N : Nat} {R : List Ru} {O : List Int} (h : SndD N R O) (i : Nat) (hi : i < N) : O.getD i 0 ≤ lid := by
  by_cases h0 : O.getD i 0 < 0
  · unfold lid; omega
  · exact (Can_range (h.some i hi (by omega))).2

set_option maxRecDepth 100000 in
set_option maxHeartbeats 1600000 in
theorem devShort_not {w : World} {T N : Int} {rv : Value} {R : List Ru} (hr : RulesAt w w.heap.size rv R) (hm : mayB T N R = false) :
    Calls Try.prog 4 #[.agg #[.int .i64 T, .int .i64 N, rv]] w fun e w' => e = .returned (.tuple #[.slice none 0 0, .int .i64 2]) ∧ Below w.heap.size w w' := by
  obtain ⟨ra, rc, hrv⟩ := hr.1
  subst hrv
  have may := mayG_any (T := T) (N := N) (hr.boxed (.cells #[.int .i64 T, .int .i64 N, .slice ra R.length rc] 24))
  rw [hm] at may
  simp only [World.size_alloc] at may
  have HB0 : Hid (Below w.heap.size w (w.alloc (.cells #[.int .i64 T, .int .i64 N, .slice ra R.length rc] 24))) := (Below.refl _ _).alloc (Nat.le_refl _) _
  clear hr hm
  go_enter Try.func4, Try.ntmps4
  go_wp2_with
    (go_at_call 7; refine may.mono ?_; rintro e w2 ⟨rfl, hB2⟩
     have HX : Hid (Below w.heap.size w w2) := HB0.out.trans (hB2.mono (by simp))
     clear hB2)
  refine bodyPost_ret (v := .tuple #[.slice none 0 0, .int .i64 2]) (by simp [results, Try.results4, go_sem]) rfl ⟨rfl, HX.out⟩

/-- While the shortest yields are looked for: g is the row, w1 the world ahead of it. -/
structure SRD (w w1 : World) (N : Nat) (O : List Int) (wr : World) : Prop where
  below : Below w1.heap.size w1 wr
  row : RowI wr w1.heap.size w1.heap.size N O

set_option maxRecDepth 100000 in
set_option maxHeartbeats 3200000 in
theorem devShort_may {w : World} {T N : Nat} {rv : Value} {R : List Ru} (hr : RulesAt w w.heap.size rv R) (hm : mayB T N R = true) :
    Calls Try.prog 4 #[.agg #[.int .i64 T, .int .i64 N, rv]] w fun e w' => ∃ g O, e = .returned (.tuple #[.slice (some ⟨g, 0, none⟩) N N, .int .i64 0]) ∧ Below w.heap.size w w' ∧ RowI w' w.heap.size g N O ∧ IsShort N R O := by
  obtain ⟨hT, hN1, hN, hRl, hfine⟩ := may_fine hm
  have HF : Hid (Fine T N R) := may_FineD hm
  have HR : Hid (RulesAt w w.heap.size rv R) := hr
  have HQ : Hid (∀ q, q < R.length → (R.getD q (0, [])).2.length ≤ 8) := fun q hq => (hfine q hq).2.2.1
  obtain ⟨ra, rc, hrv⟩ := hr.1
  subst hrv
  have may := mayG_any (T := T) (N := N) (hr.boxed (.cells #[.int .i64 T, .int .i64 N, .slice ra R.length rc] 24))
  rw [hm] at may
  simp only [World.size_alloc] at may
  have mkN := make_ints N (by omega)
  clear hr hm hfine
  go_enter Try.func4, Try.ntmps4
  go_wp2_with
    (go_at_call 7; refine may.mono ?_; rintro e w1 ⟨rfl, hB1⟩
     have b1 : w1.cell? ⟨w.heap.size, 1, none⟩ = some (.int .i64 N) := (hB1.cell (by simp)).trans (by simp [go_sem])
     have b2 : w1.cell? ⟨w.heap.size, 2, none⟩ = some (.slice ra R.length rc) := (hB1.cell (by simp)).trans (by simp [go_sem])
     have hs1 : w.heap.size + 1 ≤ w1.heap.size := by have := hB1.size; simpa using this
     have HX : Hid (Below w.heap.size w w1) := ((Below.refl _ _).alloc (Nat.le_refl _) _).trans (hB1.mono (by simp))
     clear hB1 may)
  have HS0 : Hid (SRD w w1 N (List.replicate N 0) (w1.alloc (.cells (madeCells #[.int .i64 0] N) 3))) := ⟨(Below.refl _ _).alloc (Nat.le_refl _) _, rowI_made w1 (by unfold maxLen; omega)⟩
  have HBX : Hid (∀ wr, Below w1.heap.size w1 wr → Below w.heap.size w wr ∧ wr.cell? ⟨w.heap.size, 1, none⟩ = some (.int .i64 N) ∧ wr.cell? ⟨w.heap.size, 2, none⟩ = some (.slice ra R.length rc) ∧ w1.heap.size ≤ wr.heap.size) := fun wr hB =>
    ⟨HX.out.trans (hB.mono (by omega)), (hB.cell (by simp; omega)).trans b1, (hB.cell (by simp; omega)).trans b2, hB.size⟩
  clear mkN b1 b2
  go_loopw [16] (fun s wr => ∃ k : Nat, s = .int .i64 k ∧ k ≤ N ∧ SRD w w1 N (List.replicate k (-1) ++ List.replicate (N - k) 0) wr) (fun s _ => N - (intOf s).toNat)
  case atStart => exact ⟨0, rfl, Nat.zero_le _, by simpa using HS0.out⟩
  case round =>
    clear HS0
    obtain ⟨k, rfl, hk, hS⟩ := hrel
    have HS : Hid (SRD w w1 N (List.replicate k (-1) ++ List.replicate (N - k) 0) wr) := hS
    by_cases hlt : k < N
    · obtain ⟨c1, c2⟩ := hS.row.cell hlt
      have i0 : (0 : Int) ≤ (k : Int) := Int.natCast_nonneg _
      have i1 : (k : Int) < (N : Int) := by omega
      have HE : Hid ((List.replicate k (-1 : Int) ++ List.replicate (N - k) 0).set k (-1) = List.replicate (k + 1) (-1) ++ List.replicate (N - (k + 1)) 0) := by
        show (List.replicate k (-1 : Int) ++ List.replicate (N - k) 0).set k (-1) = _
        obtain ⟨d, hd⟩ : ∃ d, N - k = d + 1 := ⟨N - k - 1, by omega⟩
        rw [hd, show N - (k + 1) = d by omega, List.set_append_right _ _ (by simp), List.length_replicate, Nat.sub_self, List.replicate_succ (n := d), List.set_cons_zero, List.replicate_succ' (n := k)]
        simp
      obtain ⟨x, hx⟩ : ∃ x, (List.replicate k (-1 : Int) ++ List.replicate (N - k) 0).getD k 0 = x := ⟨_, rfl⟩
      rw [hx] at c1
      clear hS hx
      go_wp2_with fail
      go_roundw
      case rel => exact ⟨k + 1, by go_num, by omega, HS.out.below.setCell (by simp) _, by rw [← HE.out]; exact HS.out.row.set k (-1)⟩
      case measure => simp [intOf]; omega
    · obtain rfl : k = N := by omega
      have h1 : SRD w w1 k (List.replicate k (-1)) wr := by simpa using hS
      have HS1 : Hid (SRD w w1 k (List.replicate k (-1)) wr) := h1
      obtain ⟨_, b1, b2, _⟩ := HBX.out wr h1.below
      clear hS HS h1
      go_wp2_with fail
      clear b1 b2
      go_loopw [25] (fun s wq => ∃ (m : Nat) (O : List Int), s = .int .i64 m ∧ m ≤ k ∧ SndD k R O ∧ DepD R m O ∧ SRD w w1 k O wq) (fun s _ => k - (intOf s).toNat)
      case atStart => exact ⟨0, List.replicate k (-1), rfl, Nat.zero_le _, (sndD_start k R).1, (sndD_start k R).2, HS1.out⟩
      case round =>
        clear HS1
        obtain ⟨m, O, rfl, hm, hSn, hDp, hS⟩ := hrel
        have HSn : Hid (SndD k R O) := hSn
        have HDp : Hid (DepD R m O) := hDp
        have HS : Hid (SRD w w1 k O wr) := hS
        obtain ⟨_, _, b2, _⟩ := HBX.out wr hS.below
        clear hSn hDp hS
        by_cases hlt2 : m < k
        · go_wp2_with fail
          clear b2
          go_loopw [30] (fun s wq => ∃ j : Nat, s = .int .i64 j ∧ j ≤ R.length ∧ SndD k R (loopN j (stepD R) O) ∧ SRD w w1 k (loopN j (stepD R) O) wq) (fun s _ => R.length - (intOf s).toNat)
          case atStart => exact ⟨0, rfl, Nat.zero_le _, HSn.out, HS.out⟩
          case round =>
            clear HS
            obtain ⟨j, rfl, hj, hSn, hS⟩ := hrel
            by_cases hlt3 : j < R.length
            · have hstep : loopN (j + 1) (stepD R) O = stepD R j (loopN j (stepD R) O) := rfl
              have hnext := (stepD_snd HF.out hSn hlt3).1
              rw [← hstep] at hnext
              obtain ⟨P, hP⟩ : ∃ P, loopN j (stepD R) O = P := ⟨_, rfl⟩
              rw [hP] at hstep hSn hS
              have HNx : Hid (SndD k R (loopN (j + 1) (stepD R) O)) := hnext
              have HS : Hid (SRD w w1 k P wr) := hS
              have hmem : R.getD j (0, []) ∈ R := by simp [List.getD, hlt3]
              have hL := HF.out.left _ hmem
              have hin := HF.out.name _ hmem
              have h8 := HQ.out j hlt3
              obtain ⟨hBw, _, _, hsz⟩ := HBX.out wr hS.below
              obtain ⟨rb, ro, rc', qa, qc, hv, hb, k1, k2, hqc, k3⟩ := (HR.out.below hBw).2 j hlt3
              cases hv
              unfold stepD at hstep
              obtain ⟨⟨L, Rt⟩, hre⟩ : ∃ x, R.getD j (0, []) = x := ⟨_, rfl⟩
              rw [hre] at k1 k2 k3 hqc hL hin h8 hstep
              simp only at k1 k2 k3 hqc hL hin h8 hstep
              obtain ⟨l, rfl⟩ : ∃ l : Nat, L = l := ⟨L.toNat, by omega⟩
              simp only [Int.toNat_natCast] at hstep
              have hlN : l < k := by omega
              have k2' : wr.cell? ⟨rb, ro + j * 2 + 1, none⟩ = some (.slice qa Rt.length qc) := by rw [Nat.add_assoc]; exact k2
              obtain ⟨c1, c2⟩ := hS.row.cell hlN
              have hgl := World.block_lt_of_cell? wr _ c1
              simp only at hgl
              obtain ⟨W, hW⟩ : ∃ W, W = wr.alloc (.cells #[.int .i64 l, .slice qa Rt.length qc] 36) := ⟨_, rfl⟩
              have hBW : Below wr.heap.size wr W := by rw [hW]; exact (Below.refl _ _).alloc (Nat.le_refl _) _
              have c1' : W.cell? ⟨w1.heap.size, l, none⟩ = some (.int .i64 (P.getD l 0)) := (hBW.cell (by simpa using hgl)).trans c1
              have q0 : W.cell? ⟨wr.heap.size, 0, none⟩ = some (.int .i64 l) := by rw [hW]; simp [go_sem]
              have q1 : W.cell? ⟨wr.heap.size, 1, none⟩ = some (.slice qa Rt.length qc) := by rw [hW]; simp [go_sem]
              have hRow : RowI W w1.heap.size w1.heap.size k P := hS.row.below hBW
              have hWs : wr.heap.size < W.heap.size := by rw [hW]; simp
              have hgW : w1.heap.size < W.heap.size := by omega
              have hne : w1.heap.size ≠ wr.heap.size := by omega
              have hne' : wr.heap.size ≠ w1.heap.size := by omega
              have i0 : (0 : Int) ≤ (j : Int) := Int.natCast_nonneg _
              have i1 : (j : Int) < (R.length : Int) := by omega
              have i2 : (0 : Int) ≤ (l : Int) := Int.natCast_nonneg _
              have i3 : (l : Int) < (k : Int) := by omega
              have call := total_any (w := W.drew) (lim := w.heap.size) (qc := qc) (N := k) (O := P) (RightAt.below (w := wr) k3 ((hBW.drew).mono (by omega))) (by show w.heap.size ≤ W.heap.size; omega) (show ListAt W.drew W.drew.heap.size _ P from hRow.list) hRow.len hin (fun i hi => hSn.le_lid i hi) hSn.neg h8
              have HSt : Hid (loopN (j + 1) (stepD R) O = P.set l (lessV (P.getD l 0) (ruleV P Rt))) := hstep
              have HRow : Hid (RowI W w1.heap.size w1.heap.size k P) := hRow
              have HBW : Hid (Below wr.heap.size wr W) := hBW
              obtain ⟨x, hx⟩ : ∃ x, P.getD l 0 = x := ⟨_, rfl⟩
              obtain ⟨y, hy⟩ : ∃ y, ruleV P Rt = y := ⟨_, rfl⟩
              rw [hx] at c1' HSt
              rw [hy] at HSt call
              clear hx hy hstep hre hP hnext k3 hqc hin hmem hBw hRow c1 hS hSn h8 k2 hBW
              go_upto_region 14 with fail
              rw [← hW]
              clear hW
              refine wp_region_held_tail 11 14 (fun w' => w'.cell? ⟨wr.heap.size, 0, none⟩ = some (.int .i64 l) ∧ w'.cell? ⟨wr.heap.size, 1, none⟩ = some (.slice qa Rt.length qc) ∧ w'.cell? ⟨w1.heap.size, l, none⟩ = some (.int .i64 x)) (by kernel_rfl) (by kernel_rfl) ⟨q0, q1, c1'⟩ ?_
              simp only [List.take_succ_cons, List.take_zero, List.drop_succ_cons, List.drop_zero]
              iterate 11
                refine StillS.cons (v := ?_) (by rfl) ?_ ?_
                rotate_left
                · intro w' hSw
                  obtain ⟨s0, s1, s2⟩ := hSw
                  go_simp
                  try with_reducible rfl
                simp only [Act.put, List.setIfInBounds_toArray, List.set_cons_zero, List.set_cons_succ]
              rw [StillS, TailS]
              intro K hK
              go_simp
              go_wp2_with
                (go_at_call 9; refine call.mono ?_; rintro e w2 ⟨rfl, hB2⟩
                 have d3 := (hB2.cell (p := ⟨wr.heap.size, 1, none⟩) hWs).trans q1
                 have d0 := (hB2.cell (p := ⟨wr.heap.size, 0, none⟩) hWs).trans q0
                 have d1 := (hB2.cell (p := ⟨w1.heap.size, l, none⟩) hgW).trans c1'
                 have hRow2 : RowI w2 w1.heap.size w1.heap.size k P := RowI.below (w := W.drew) HRow.out hB2
                 have d2 := (hRow2.cell hlN).2
                 have HB2 : Hid (Below w1.heap.size w1 w2) := HS.out.below.trans ((HBW.out.trans (((Below.refl _ _).drew.trans hB2).mono (by show wr.heap.size ≤ W.heap.size; omega))).mono hsz)
                 have HR2 : Hid (RowI w2 w1.heap.size w1.heap.size k P) := hRow2
                 clear hB2 hRow2)
              refine hK.out _ _ (fun _ => ⟨d0, d3, d1⟩) ?_
              clear hK
              rw [TailS]
              intro K hK
              go_simp
              go_wp2_with (go_at_call 8; refine shorter_any.mono ?_; rintro e w3 ⟨rfl, rfl⟩)
              refine hK.out _ _ (fun _ => ⟨d0, d3, d1⟩) ?_
              clear hK
              rw [TailS]
              intro K hK
              go_simp
              refine hK.out _ _ (fun _ => ⟨d0, d3, d1⟩) ?_
              clear hK
              rw [TailS]
              intro K hK
              go_simp
              refine hK.out _ _ (fun h => absurd h (by omega)) ?_
              clear hK
              rw [TailS]
              refine NoPanic.normal ?_
              go_wp2_with fail
              go_roundw
              case rel => exact ⟨j + 1, by go_num, by omega, HNx.out, HB2.out.setCell (by simp) _, by rw [HSt.out]; exact HR2.out.set l _⟩
              case measure => simp [intOf]; omega
            · obtain rfl : j = R.length := by omega
              have HS2 : Hid (SRD w w1 k (roundD R O) wr) := hS
              have HSn2 : Hid (SndD k R (roundD R O) ∧ DepD R (m + 1) (roundD R O)) := roundD_snd HF.out HSn.out HDp.out
              clear hS hSn
              go_wp2_with fail
              go_roundw
              case rel => exact ⟨m + 1, _, by go_num, by omega, HSn2.out.1, HSn2.out.2, HS2.out⟩
              case measure => simp [intOf]; omega
        · obtain rfl : m = k := by omega
          have HD : Hid (IsShort m R O) := shortD_is HF.out HSn.out HDp.out
          have HBw : Hid (Below w.heap.size w wr) := (HBX.out wr HS.out.below).1
          go_wp2_with fail
          refine bodyPost_ret (v := .tuple #[.slice (some ⟨w1.heap.size, 0, none⟩) m m, .int .i64 0]) (by simp [results, Try.results4, go_sem]) rfl ⟨w1.heap.size, O, rfl, HBw.out, HS.out.row.mono (by omega), HD.out⟩

end Go.Proofs.Ytolkfmddghkkeaa
