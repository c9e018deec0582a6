/- The contract of the program's sets.none. -/
import Derived.Test.YtlfjnljidehljaaSetsRows
namespace Go.Proofs.Ytlfjnljidehljaa
open Go.RowKit

set_option maxRecDepth 100000 in
set_option maxHeartbeats 3200000 in
theorem none_any {w : World} {T N : Nat} {ra : Option Addr} {rl rc : Nat} (hT : T ≤ 8) (hN : N ≤ 12) :
    Calls Try.prog 26 #[.agg #[.int .i64 T, .int .i64 N, .slice ra rl rc]] w fun e w' => ∃ nv fv gv vf vg sb, e = .returned (.agg #[nv, fv, gv]) ∧ Below w.heap.size w w' ∧
      Owns w' (w.heap.size + 2) (Pset sb T N N N nv fv gv vf vg (List.replicate N false) (List.replicate N (List.replicate T false)) (List.replicate N (List.replicate (T + 1) false))) := by
  have mkN := make_bools N (by omega)
  have mkT := make_bools T (by omega)
  have mkT1 := make_bools (T + 1) (by omega)
  go_enter Try.func26, Try.ntmps26
  go_wp2_with fail
  have HS := start_sr w T N (by unfold maxLen; omega) (.cells #[.int .i64 T, .int .i64 N, .slice ra rl rc] 24) (.cells #[.slice none 0 0, .slice none 0 0, .slice none 0 0] 43)
  have boxes : ∀ wr, Below (w.heap.size + 2) ((w.alloc (.cells #[.int .i64 T, .int .i64 N, .slice ra rl rc] 24)).alloc (.cells #[.slice none 0 0, .slice none 0 0, .slice none 0 0] 43)) wr → Below w.heap.size w wr ∧ wr.cell? ⟨w.heap.size, 0, none⟩ = some (.int .i64 T) ∧ wr.cell? ⟨w.heap.size, 1, none⟩ = some (.int .i64 N) ∧ wr.cell? ⟨w.heap.size, 2, none⟩ = some (.slice ra rl rc) := fun wr hB =>
    ⟨(((Below.refl _ _).alloc (Nat.le_refl _) _).alloc (by simp) _).trans (hB.mono (by omega)), (hB.cell (by simp)).trans (by simp [go_sem]), (hB.cell (by simp)).trans (by simp [go_sem]), (hB.cell (by simp)).trans (by simp [go_sem])⟩
  have HBX : Hid (∀ wr, Below (w.heap.size + 2) ((w.alloc (.cells #[.int .i64 T, .int .i64 N, .slice ra rl rc] 24)).alloc (.cells #[.slice none 0 0, .slice none 0 0, .slice none 0 0] 43)) wr → Below w.heap.size w wr ∧ wr.cell? ⟨w.heap.size, 0, none⟩ = some (.int .i64 T) ∧ wr.cell? ⟨w.heap.size, 1, none⟩ = some (.int .i64 N) ∧ wr.cell? ⟨w.heap.size, 2, none⟩ = some (.slice ra rl rc)) := boxes
  clear boxes mkN
  go_loopw [10] (fun i wr => ∃ m : Nat, i = .int .i64 m ∧ m ≤ N ∧ SR ((w.alloc (.cells #[.int .i64 T, .int .i64 N, .slice ra rl rc] 24)).alloc (.cells #[.slice none 0 0, .slice none 0 0, .slice none 0 0] 43)) (w.heap.size + 2) (w.heap.size + 1 + 1 + 1) T N m m (List.replicate N false) (List.replicate m (List.replicate T false)) (List.replicate m (List.replicate (T + 1) false)) wr)
    (fun i _ => N - (intOf i).toNat)
  case atStart => exact ⟨0, rfl, Nat.zero_le _, HS⟩
  case round =>
    clear HS
    obtain ⟨m, rfl, hmN, hB, hle, hFi, hFo, nv, fv, gv, vf, vg, hO⟩ := hrel
    have HB : Hid (Below (w.heap.size + 2) ((w.alloc (.cells #[.int .i64 T, .int .i64 N, .slice ra rl rc] 24)).alloc (.cells #[.slice none 0 0, .slice none 0 0, .slice none 0 0] 43)) wr) := hB
    have HO : Hid (Owns wr (w.heap.size + 2) (Pset (w.heap.size + 1 + 1 + 1) T N m m nv fv gv vf vg (List.replicate N false) (List.replicate m (List.replicate T false)) (List.replicate m (List.replicate (T + 1) false)))) := hO
    obtain ⟨_, b0, b1, _⟩ := HBX.out wr hB
    have hsb : w.heap.size + 1 + 1 + 1 < wr.heap.size := World.block_lt_of_cell? wr _ hO.fields.1
    clear hB hO
    by_cases hlt : m < N
    · obtain ⟨fa, fc, rfl⟩ : ∃ a c, fv = .slice a m c := own_form (HO.out.own .fh _ rfl)
      obtain ⟨ga, gc, rfl⟩ : ∃ a c, gv = .slice a m c := own_form (HO.out.own .gh _ rfl)
      go_upto_region 5 with fail
      go_cut [] from 11 to 29 (fun wx => SR ((w.alloc (.cells #[.int .i64 T, .int .i64 N, .slice ra rl rc] 24)).alloc (.cells #[.slice none 0 0, .slice none 0 0, .slice none 0 0] 43)) (w.heap.size + 2) (w.heap.size + 1 + 1 + 1) T N (m + 1) m (List.replicate N false) (List.replicate (m + 1) (List.replicate T false)) (List.replicate m (List.replicate (T + 1) false)) wx)
      case first =>
        obtain ⟨i0, hi0, hz0, hz1, hz2⟩ := info_parts Try.infoBools
        obtain ⟨s0, s1, s2, sf⟩ := HO.out.fields
        obtain ⟨t0, t1, t2, tf⟩ := (HO.out.alloc (.cells (madeCells #[.bool false] T) 4)).fields
        have hO2 := (HO.out.alloc (.cells (madeCells #[.bool false] T) 4)).alloc (.cells #[.slice (some ⟨wr.heap.size, 0, none⟩) T T] 25)
        obtain ⟨q0, q1, q2, qf⟩ := hO2.fields
        have ownF : ((wr.alloc (.cells (madeCells #[.bool false] T) 4)).alloc (.cells #[.slice (some ⟨wr.heap.size, 0, none⟩) T T] 25)).drew.ownsRow (w.heap.size + 2) 25 1 (.slice fa m fc) m ((List.range m).map vf) := hO2.own .fh _ rfl
        have c0 : (wr.alloc (.cells (madeCells #[.bool false] T) 4)).cell? ⟨w.heap.size, 0, none⟩ = some (.int .i64 T) := by rw [World.cell?_alloc_past _ _ _ (by omega)]; exact b0
        have agF : (Value.slice fa m fc).ownBlock ≠ some (w.heap.size + 1 + 1 + 1) := fun e => HO.out.apart .fh .st _ _ (by simp) rfl rfl _ e rfl
        have hnb : ((wr.alloc (.cells (madeCells #[.bool false] T) 4)).alloc (.cells #[.slice (some ⟨wr.heap.size, 0, none⟩) T T] 25)).drew.heap[wr.heap.size + 1]? = some (.cells #[.slice (some ⟨wr.heap.size, 0, none⟩) T T] 25 (0, 0)) := by
          show ((wr.alloc (.cells (madeCells #[.bool false] T) 4)).alloc (.cells #[.slice (some ⟨wr.heap.size, 0, none⟩) T T] 25)).heap[wr.heap.size + 1]? = _
          simpa using heap_alloc_new (wr.alloc (.cells (madeCells #[.bool false] T) 4)) (.cells #[.slice (some ⟨wr.heap.size, 0, none⟩) T T] 25)
        have HNB : Hid (((wr.alloc (.cells (madeCells #[.bool false] T) 4)).alloc (.cells #[.slice (some ⟨wr.heap.size, 0, none⟩) T T] 25)).drew.heap[wr.heap.size + 1]? = some (.cells #[.slice (some ⟨wr.heap.size, 0, none⟩) T T] 25 (0, 0))) := hnb
        clear hnb hO2 s0 s2 t0 t2 q0 q2 mkT1
        go_region_law
          ((refine step_append_lies _ (by rfl) _ _ _ (by rfl) (w.heap.size + 2) 25 i0 _ 1 24 Try.underlying41 hi0 hz0 hz1 hz2 rfl (by omega) (.slice fa m fc) m ((List.range m).map vf) (by rfl) ownF
              ⟨wr.heap.size + 1, 0, none⟩ 1 1 [.slice (some ⟨wr.heap.size, 0, none⟩) T T] (by rfl) (by rfl) (World.news_of_block (cs := #[.slice (some ⟨wr.heap.size, 0, none⟩) T T]) (t := 25) (fr := (0, 0)) HNB.out) (by simp [Value.oneCell'])
              (by omega) (by unfold maxLen; omega) (by omega) (by simp; omega) (wr.heap.size + 2) (by simp) ?_; intro g1 cap1 w1 hown1 hgrow1 hat1 hlt1
            have d1 := (hgrow1.cell_far ⟨w.heap.size + 1 + 1 + 1, 1, none⟩ (by simp; omega) (Ne.symm agF)).trans q1; have d2 := (hgrow1.frozen_far ⟨w.heap.size + 1 + 1 + 1, 1, none⟩ (by simp; omega) (Ne.symm agF)).trans (qf 1)))
        all_goals
          go_wp2_with fail
          go_meet
          case rel =>
            obtain ⟨x1, x2⟩ := below_push (sb := w.heap.size + 1 + 1 + 1) (j := 1) (v := .slice (some ⟨g1, 0, none⟩) (m + 1) cap1) HB.out hle hgrow1 (fun k hk => (ownF.lt k hk).1) (by omega)
            refine ⟨x1, x2, by simp, by simp, _, _, _, _, _, by
              have := HO.out.pushFirst (by simp) hle (by unfold maxLen; omega) hgrow1 hown1 (by simpa using hat1)
              rw [List.replicate_succ']
              exact this⟩
      case rest =>
        clear HB HO b0 b1 hle hFi hFo hsb
        obtain ⟨hB, hle, hFi, hFo, nv, fv, gv, vf, vg, hO⟩ := hcut
        have HB : Hid (Below (w.heap.size + 2) ((w.alloc (.cells #[.int .i64 T, .int .i64 N, .slice ra rl rc] 24)).alloc (.cells #[.slice none 0 0, .slice none 0 0, .slice none 0 0] 43)) wc) := hB
        have HO : Hid (Owns wc (w.heap.size + 2) (Pset (w.heap.size + 1 + 1 + 1) T N (m + 1) m nv fv gv vf vg (List.replicate N false) (List.replicate (m + 1) (List.replicate T false)) (List.replicate m (List.replicate (T + 1) false)))) := hO
        obtain ⟨_, b0, b1, _⟩ := HBX.out wc hB
        have hsb : w.heap.size + 1 + 1 + 1 < wc.heap.size := World.block_lt_of_cell? wc _ hO.fields.1
        clear hB hO
        obtain ⟨ga, gc, rfl⟩ : ∃ a c, gv = .slice a m c := own_form (HO.out.own .gh _ rfl)
        obtain ⟨i0, hi0, hz0, hz1, hz2⟩ := info_parts Try.infoBools
        obtain ⟨s0, s1, s2, sf⟩ := HO.out.fields
        obtain ⟨t0, t1, t2, tf⟩ := (HO.out.alloc (.cells (madeCells #[.bool false] (T + 1)) 4)).fields
        have hO2 := (HO.out.alloc (.cells (madeCells #[.bool false] (T + 1)) 4)).alloc (.cells #[.slice (some ⟨wc.heap.size, 0, none⟩) (T + 1) (T + 1)] 25)
        obtain ⟨q0, q1, q2, qf⟩ := hO2.fields
        have ownF : ((wc.alloc (.cells (madeCells #[.bool false] (T + 1)) 4)).alloc (.cells #[.slice (some ⟨wc.heap.size, 0, none⟩) (T + 1) (T + 1)] 25)).drew.ownsRow (w.heap.size + 2) 25 1 (.slice ga m gc) m ((List.range m).map vg) := hO2.own .gh _ rfl
        have c0 : (wc.alloc (.cells (madeCells #[.bool false] (T + 1)) 4)).cell? ⟨w.heap.size, 0, none⟩ = some (.int .i64 T) := by rw [World.cell?_alloc_past _ _ _ (by omega)]; exact b0
        have agF : (Value.slice ga m gc).ownBlock ≠ some (w.heap.size + 1 + 1 + 1) := fun e => HO.out.apart .gh .st _ _ (by simp) rfl rfl _ e rfl
        have hnb : ((wc.alloc (.cells (madeCells #[.bool false] (T + 1)) 4)).alloc (.cells #[.slice (some ⟨wc.heap.size, 0, none⟩) (T + 1) (T + 1)] 25)).drew.heap[wc.heap.size + 1]? = some (.cells #[.slice (some ⟨wc.heap.size, 0, none⟩) (T + 1) (T + 1)] 25 (0, 0)) := by
          show ((wc.alloc (.cells (madeCells #[.bool false] (T + 1)) 4)).alloc (.cells #[.slice (some ⟨wc.heap.size, 0, none⟩) (T + 1) (T + 1)] 25)).heap[wc.heap.size + 1]? = _
          simpa using heap_alloc_new (wc.alloc (.cells (madeCells #[.bool false] (T + 1)) 4)) (.cells #[.slice (some ⟨wc.heap.size, 0, none⟩) (T + 1) (T + 1)] 25)
        have HNB : Hid (((wc.alloc (.cells (madeCells #[.bool false] (T + 1)) 4)).alloc (.cells #[.slice (some ⟨wc.heap.size, 0, none⟩) (T + 1) (T + 1)] 25)).drew.heap[wc.heap.size + 1]? = some (.cells #[.slice (some ⟨wc.heap.size, 0, none⟩) (T + 1) (T + 1)] 25 (0, 0))) := hnb
        have mkT1' : ∀ u : World, (Instr.makeSlice 25 (.int .i64 ((T : Int) + 1)) (.int .i64 ((T : Int) + 1))).run Try.prog u = .ok (.slice (some ⟨u.heap.size, 0, none⟩) (T + 1) (T + 1)) (u.alloc (.cells (madeCells #[.bool false] (T + 1)) 4)) := fun u => by simpa using mkT1 u
        have hw : IntKind.i64.wrap ((T : Int) + 1) = (T : Int) + 1 := IntWalk.i64_in _ (by omega)
        clear hnb hO2 s0 s1 t0 t1 q0 q1 mkT mkT1
        go_wp2_with fail
        go_region_law
          ((refine step_append_lies _ (by rfl) _ _ _ (by rfl) (w.heap.size + 2) 25 i0 _ 1 24 Try.underlying41 hi0 hz0 hz1 hz2 rfl (by omega) (.slice ga m gc) m ((List.range m).map vg) (by rfl) ownF
              ⟨wc.heap.size + 1, 0, none⟩ 1 1 [.slice (some ⟨wc.heap.size, 0, none⟩) (T + 1) (T + 1)] (by rfl) (by rfl) (World.news_of_block (cs := #[.slice (some ⟨wc.heap.size, 0, none⟩) (T + 1) (T + 1)]) (t := 25) (fr := (0, 0)) HNB.out) (by simp [Value.oneCell'])
              (by omega) (by unfold maxLen; omega) (by omega) (by simp; omega) (wc.heap.size + 2) (by simp) ?_; intro g1 cap1 w1 hown1 hgrow1 hat1 hlt1
            have d1 := (hgrow1.cell_far ⟨w.heap.size + 1 + 1 + 1, 2, none⟩ (by simp; omega) (Ne.symm agF)).trans q2; have d2 := (hgrow1.frozen_far ⟨w.heap.size + 1 + 1 + 1, 2, none⟩ (by simp; omega) (Ne.symm agF)).trans (qf 2)))
        all_goals
          go_wp2_with fail
          go_roundw
          case rel =>
            obtain ⟨x1, x2⟩ := below_push (sb := w.heap.size + 1 + 1 + 1) (j := 2) (v := .slice (some ⟨g1, 0, none⟩) (m + 1) cap1) HB.out hle hgrow1 (fun k hk => (ownF.lt k hk).1) (by omega)
            refine ⟨m + 1, by go_num, by omega, x1, x2, by simp, by simp, _, _, _, _, _, by
              have := HO.out.pushFollow (by simp) hle (by unfold maxLen; omega) hgrow1 hown1 (by simpa using hat1)
              rw [List.replicate_succ' (n := m) (a := List.replicate (T + 1) false)]
              exact this⟩
          case measure => simp [intOf]; omega
    · have hmN' : m = N := by omega
      have HS1 : Hid (SR ((w.alloc (.cells #[.int .i64 T, .int .i64 N, .slice ra rl rc] 24)).alloc (.cells #[.slice none 0 0, .slice none 0 0, .slice none 0 0] 43)) (w.heap.size + 2) (w.heap.size + 1 + 1 + 1) T N N N (List.replicate N false) (List.replicate N (List.replicate T false)) (List.replicate N (List.replicate (T + 1) false)) wr) := by
        subst hmN'
        exact ⟨HB.out, hle, hFi, hFo, nv, fv, gv, vf, vg, HO.out⟩
      clear mkT mkT1 HB HO hle hFi hFo hsb hmN hmN' b0
      obtain ⟨hB, hle, hFl, hFol, nv, fv, gv, vf, vg, hO⟩ := HS1.out
      have HB : Hid (Below (w.heap.size + 2) ((w.alloc (.cells #[.int .i64 T, .int .i64 N, .slice ra rl rc] 24)).alloc (.cells #[.slice none 0 0, .slice none 0 0, .slice none 0 0] 43)) wr) := hB
      have HO : Hid (Owns wr (w.heap.size + 2) (Pset (w.heap.size + 1 + 1 + 1) T N N N nv fv gv vf vg (List.replicate N false) (List.replicate N (List.replicate T false)) (List.replicate N (List.replicate (T + 1) false)))) := hO
      obtain ⟨s0, s1, s2, sf⟩ := hO.fields
      obtain ⟨na, nc, rfl⟩ : ∃ a c, nv = .slice a N c := own_form (hO.own .null _ rfl)
      obtain ⟨fa, fc, rfl⟩ : ∃ a c, fv = .slice a N c := own_form (hO.own .fh _ rfl)
      obtain ⟨ga, gc, rfl⟩ : ∃ a c, gv = .slice a N c := own_form (hO.own .gh _ rfl)
      have r0 : wr.cell? ⟨w.heap.size + 1, 0, none⟩ = some (.slice none 0 0) := (hB.cell (by simp)).trans (by simp [go_sem])
      have r1 : wr.cell? ⟨w.heap.size + 1, 1, none⟩ = some (.slice none 0 0) := (hB.cell (by simp)).trans (by simp [go_sem])
      have r2 : wr.cell? ⟨w.heap.size + 1, 2, none⟩ = some (.slice none 0 0) := (hB.cell (by simp)).trans (by simp [go_sem])
      have rf : ∀ o, wr.frozen? ⟨w.heap.size + 1, o, none⟩ = false := fun o => (hB.frozen (by simp)).trans (by simp [go_sem])
      have HX : Hid (Below w.heap.size w wr) := (HBX.out wr hB).1
      clear hB hO hFl hFol HS1
      go_wp2_with fail
      refine bodyPost_ret (v := .agg #[.slice na N nc, .slice fa N fc, .slice ga N gc]) (by simp [results, Try.results26, go_sem, r0, r1, r2]) rfl ⟨_, _, _, vf, vg, w.heap.size + 1 + 1 + 1, rfl, ?_, ?_⟩
      · exact ((HX.out.setCell (by simp) _).setCell (by simp) _).setCell (by simp) _
      · exact ((HO.out.setBelow (by simp) _).setBelow (by simp) _).setBelow (by simp) _

end Go.Proofs.Ytlfjnljidehljaa
