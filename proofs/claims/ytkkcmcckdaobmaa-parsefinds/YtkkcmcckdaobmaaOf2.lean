/- The contract of pollardingref2.Of, of a grammar that may be. -/
import Derived.Test.YtkkcmcckdaobmaaMay1AndSets2Mem
import Derived.Deep.RegionLaw
import Derived.Deep.RegionWith
import Derived.Deep.Cut
import Derived.Deep.CutRange
import Derived.Deep.DrawnRows
namespace Go.Proofs.Ytkkcmcckdaobmaa
open Go.RowKit

/-- .. while a rule is gone through, that lies at block rk. -/
def KR (W : World) (B sb T N : Nat) (nv fv gv : Value) (vf vg : Nat → Value) (Nu : List Bool) (Fi : List (List Bool)) (rk l : Nat) (sv : Value) (Fo : List (List Bool)) (wq : World) : Prop :=
  Below B W wq ∧ B ≤ wq.heap.size ∧ Fo.length = N ∧ Owns wq B (Pset sb T N N N nv fv gv vf vg Nu Fi Fo) ∧ wq.cell? ⟨rk, 0, none⟩ = some (.int .i64 l) ∧ wq.cell? ⟨rk, 1, none⟩ = some sv

theorem KR.below {W wq wx : World} {B sb T N : Nat} {nv fv gv : Value} {vf vg : Nat → Value} {Nu : List Bool} {Fi Fo : List (List Bool)} {rk l : Nat} {sv : Value} (h : KR W B sb T N nv fv gv vf vg Nu Fi rk l sv Fo wq) (hC : Below wq.heap.size wq wx) :
    KR W B sb T N nv fv gv vf vg Nu Fi rk l sv Fo wx := by
  obtain ⟨h1, h2, h3, h4, h5, h6⟩ := h
  have := hC.size
  exact ⟨h1.trans (hC.mono h2), by omega, h3, h4.below hC (Nat.le_refl _), (hC.cell (World.block_lt_of_cell? wq _ h5)).trans h5, (hC.cell (World.block_lt_of_cell? wq _ h6)).trans h6⟩

set_option maxRecDepth 100000 in
set_option maxHeartbeats 6400000 in
theorem of2_any {w : World} {T N : Nat} {rv : Value} {R : List Ru} (hr : RulesAt w w.heap.size rv R) (hm : mayB T N R = true) :
    Calls Try.prog 12 #[.agg #[.int .i64 T, .int .i64 N, rv]] w fun e w' => ∃ nv fv gv vf vg sb, e = .returned (.agg #[nv, fv, gv]) ∧ Below w.heap.size w w' ∧
      Owns w' (w.heap.size + 2) (Pset sb T N N N nv fv gv vf vg (nullA R N) (firstA R (nullA R N) T N) (followA R (nullA R N) (firstA R (nullA R N) T N) T N)) := by
  obtain ⟨hT, hN1, hN, hRl, hfine⟩ := may_fine hm
  have HM : Hid (∀ i, i < R.length → 0 ≤ (R.getD i (0, [])).1 ∧ (R.getD i (0, [])).1 < (N : Int) ∧ (R.getD i (0, [])).2.length ≤ 8 ∧
      ∀ s ∈ (R.getD i (0, [])).2, 0 ≤ s.2 ∧ s.2 < if s.1 then (T : Int) else (N : Int)) := hfine
  have HR : Hid (RulesAt w w.heap.size rv R) := hr
  obtain ⟨ra, rc, rfl⟩ := hr.1
  clear hr hm hfine
  have mkN := make_bools N (by omega)
  have mkT := make_bools T (by omega)
  have mkT1 := make_bools (T + 1) (by omega)
  go_enter Try.func12, Try.ntmps12
  go_wp2_with fail
  have HS := start_sr w T N (by unfold maxLen; omega) (.cells #[.int .i64 T, .int .i64 N, .slice ra R.length rc] 24) (.cells #[.slice none 0 0, .slice none 0 0, .slice none 0 0] 65)
  have boxes : ∀ wr, Below (w.heap.size + 2) ((w.alloc (.cells #[.int .i64 T, .int .i64 N, .slice ra R.length rc] 24)).alloc (.cells #[.slice none 0 0, .slice none 0 0, .slice none 0 0] 65)) wr → Below w.heap.size w wr ∧ wr.cell? ⟨w.heap.size, 0, none⟩ = some (.int .i64 T) ∧ wr.cell? ⟨w.heap.size, 1, none⟩ = some (.int .i64 N) ∧ wr.cell? ⟨w.heap.size, 2, none⟩ = some (.slice ra R.length rc) := fun wr hB =>
    ⟨(((Below.refl _ _).alloc (Nat.le_refl _) _).alloc (by simp) _).trans (hB.mono (by omega)), (hB.cell (by simp)).trans (by simp [go_sem]), (hB.cell (by simp)).trans (by simp [go_sem]), (hB.cell (by simp)).trans (by simp [go_sem])⟩
  have HBX : Hid (∀ wr, Below (w.heap.size + 2) ((w.alloc (.cells #[.int .i64 T, .int .i64 N, .slice ra R.length rc] 24)).alloc (.cells #[.slice none 0 0, .slice none 0 0, .slice none 0 0] 65)) wr → Below w.heap.size w wr ∧ wr.cell? ⟨w.heap.size, 0, none⟩ = some (.int .i64 T) ∧ wr.cell? ⟨w.heap.size, 1, none⟩ = some (.int .i64 N) ∧ wr.cell? ⟨w.heap.size, 2, none⟩ = some (.slice ra R.length rc)) := boxes
  clear boxes mkN
  go_loopw [4] (fun i wr => ∃ m : Nat, i = .int .i64 m ∧ m ≤ N ∧ SR ((w.alloc (.cells #[.int .i64 T, .int .i64 N, .slice ra R.length rc] 24)).alloc (.cells #[.slice none 0 0, .slice none 0 0, .slice none 0 0] 65)) (w.heap.size + 2) (w.heap.size + 1 + 1 + 1) T N m m (List.replicate N false) (List.replicate m (List.replicate T false)) (List.replicate m (List.replicate (T + 1) false)) wr)
    (fun i _ => N - (intOf i).toNat)
  case atStart => exact ⟨0, rfl, Nat.zero_le _, HS⟩
  case round =>
    clear HS
    obtain ⟨m, rfl, hmN, hB, hle, hFi, hFo, nv, fv, gv, vf, vg, hO⟩ := hrel
    have HB : Hid (Below (w.heap.size + 2) ((w.alloc (.cells #[.int .i64 T, .int .i64 N, .slice ra R.length rc] 24)).alloc (.cells #[.slice none 0 0, .slice none 0 0, .slice none 0 0] 65)) wr) := hB
    have HO : Hid (Owns wr (w.heap.size + 2) (Pset (w.heap.size + 1 + 1 + 1) T N m m nv fv gv vf vg (List.replicate N false) (List.replicate m (List.replicate T false)) (List.replicate m (List.replicate (T + 1) false)))) := hO
    obtain ⟨_, b0, b1, _⟩ := HBX.out wr hB
    have hsb : w.heap.size + 1 + 1 + 1 < wr.heap.size := World.block_lt_of_cell? wr _ hO.fields.1
    clear hB hO
    by_cases hlt : m < N
    · obtain ⟨fa, fc, rfl⟩ : ∃ a c, fv = .slice a m c := own_form (HO.out.own .fh _ rfl)
      obtain ⟨ga, gc, rfl⟩ : ∃ a c, gv = .slice a m c := own_form (HO.out.own .gh _ rfl)
      go_upto_region 5 with fail
      go_cut [] from 20 to 42 (fun wx => SR ((w.alloc (.cells #[.int .i64 T, .int .i64 N, .slice ra R.length rc] 24)).alloc (.cells #[.slice none 0 0, .slice none 0 0, .slice none 0 0] 65)) (w.heap.size + 2) (w.heap.size + 1 + 1 + 1) T N (m + 1) m (List.replicate N false) (List.replicate (m + 1) (List.replicate T false)) (List.replicate m (List.replicate (T + 1) false)) wx)
      case first =>
        obtain ⟨i0, hi0, hz0, hz1, hz2⟩ := info_parts Try.infoBools
        obtain ⟨s0, s1, s2, sf⟩ := HO.out.fields
        obtain ⟨t0, t1, t2, tf⟩ := (HO.out.alloc (.cells (madeCells #[.bool false] T) 4)).fields
        have hO2 := (HO.out.alloc (.cells (madeCells #[.bool false] T) 4)).alloc (.cells #[.slice (some ⟨wr.heap.size, 0, none⟩) T T] 62)
        obtain ⟨q0, q1, q2, qf⟩ := hO2.fields
        have ownF : ((wr.alloc (.cells (madeCells #[.bool false] T) 4)).alloc (.cells #[.slice (some ⟨wr.heap.size, 0, none⟩) T T] 62)).drew.ownsRow (w.heap.size + 2) 62 1 (.slice fa m fc) m ((List.range m).map vf) := hO2.own .fh _ rfl
        have c0 : (wr.alloc (.cells (madeCells #[.bool false] T) 4)).cell? ⟨w.heap.size, 0, none⟩ = some (.int .i64 T) := (same_alloc wr _ _ _ (by omega)).trans b0
        have agF : (Value.slice fa m fc).ownBlock ≠ some (w.heap.size + 1 + 1 + 1) := fun e => HO.out.apart .fh .st _ _ (by simp) rfl rfl _ e rfl
        have hnb : ((wr.alloc (.cells (madeCells #[.bool false] T) 4)).alloc (.cells #[.slice (some ⟨wr.heap.size, 0, none⟩) T T] 62)).drew.heap[wr.heap.size + 1]? = some (.cells #[.slice (some ⟨wr.heap.size, 0, none⟩) T T] 62 (0, 0)) := by
          show ((wr.alloc (.cells (madeCells #[.bool false] T) 4)).alloc (.cells #[.slice (some ⟨wr.heap.size, 0, none⟩) T T] 62)).heap[wr.heap.size + 1]? = _
          simpa using heap_alloc_new (wr.alloc (.cells (madeCells #[.bool false] T) 4)) (.cells #[.slice (some ⟨wr.heap.size, 0, none⟩) T T] 62)
        have HNB : Hid (((wr.alloc (.cells (madeCells #[.bool false] T) 4)).alloc (.cells #[.slice (some ⟨wr.heap.size, 0, none⟩) T T] 62)).drew.heap[wr.heap.size + 1]? = some (.cells #[.slice (some ⟨wr.heap.size, 0, none⟩) T T] 62 (0, 0))) := hnb
        clear hnb hO2 s0 s2 t0 t2 q0 q2 mkT1
        go_region_law
          ((refine step_append_lies _ (by rfl) _ _ _ (by rfl) (w.heap.size + 2) 62 i0 _ 1 24 Try.underlying63 hi0 hz0 hz1 hz2 rfl (by omega) (.slice fa m fc) m ((List.range m).map vf) (by rfl) ownF
              ⟨wr.heap.size + 1, 0, none⟩ 1 1 [.slice (some ⟨wr.heap.size, 0, none⟩) T T] (by rfl) (by rfl) (World.news_of_block (cs := #[.slice (some ⟨wr.heap.size, 0, none⟩) T T]) (t := 62) (fr := (0, 0)) HNB.out) (by simp [Value.oneCell'])
              (by omega) (by unfold maxLen; omega) (by omega) (by simp; omega) (wr.heap.size + 2) (by simp) ?_; intro g1 cap1 w1 hown1 hgrow1 hat1 hlt1
            have d1 := (hgrow1.cell_far ⟨w.heap.size + 1 + 1 + 1, 1, none⟩ (by simp; omega) (Ne.symm agF)).trans q1; have d2 := (hgrow1.frozen_far ⟨w.heap.size + 1 + 1 + 1, 1, none⟩ (by simp; omega) (Ne.symm agF)).trans (qf 1)))
        all_goals
          go_wp2_with fail
          go_meet
          case rel =>
            obtain ⟨x1, x2⟩ := below_push (sb := w.heap.size + 1 + 1 + 1) (j := 1) (v := .slice (some ⟨g1, 0, none⟩) (m + 1) cap1) HB.out hle hgrow1 (fun k hk => (ownF.lt k hk).1) (by omega)
            refine ⟨x1, x2, by simp, by simp, _, _, _, _, _, by
              have := HO.out.pushFirst (by simp) hle (by unfold maxLen; omega) hgrow1 hown1 (by simpa using hat1)
              rw [List.replicate_succ']
              exact this⟩
      case rest =>
        clear HB HO b0 b1 hle hFi hFo hsb
        obtain ⟨hB, hle, hFi, hFo, nv, fv, gv, vf, vg, hO⟩ := hcut
        have HB : Hid (Below (w.heap.size + 2) ((w.alloc (.cells #[.int .i64 T, .int .i64 N, .slice ra R.length rc] 24)).alloc (.cells #[.slice none 0 0, .slice none 0 0, .slice none 0 0] 65)) wc) := hB
        have HO : Hid (Owns wc (w.heap.size + 2) (Pset (w.heap.size + 1 + 1 + 1) T N (m + 1) m nv fv gv vf vg (List.replicate N false) (List.replicate (m + 1) (List.replicate T false)) (List.replicate m (List.replicate (T + 1) false)))) := hO
        obtain ⟨_, b0, b1, _⟩ := HBX.out wc hB
        have hsb : w.heap.size + 1 + 1 + 1 < wc.heap.size := World.block_lt_of_cell? wc _ hO.fields.1
        clear hB hO
        obtain ⟨ga, gc, rfl⟩ : ∃ a c, gv = .slice a m c := own_form (HO.out.own .gh _ rfl)
        obtain ⟨i0, hi0, hz0, hz1, hz2⟩ := info_parts Try.infoBools
        obtain ⟨s0, s1, s2, sf⟩ := HO.out.fields
        obtain ⟨t0, t1, t2, tf⟩ := (HO.out.alloc (.cells (madeCells #[.bool false] (T + 1)) 4)).fields
        have hO2 := (HO.out.alloc (.cells (madeCells #[.bool false] (T + 1)) 4)).alloc (.cells #[.slice (some ⟨wc.heap.size, 0, none⟩) (T + 1) (T + 1)] 62)
        obtain ⟨q0, q1, q2, qf⟩ := hO2.fields
        have ownF : ((wc.alloc (.cells (madeCells #[.bool false] (T + 1)) 4)).alloc (.cells #[.slice (some ⟨wc.heap.size, 0, none⟩) (T + 1) (T + 1)] 62)).drew.ownsRow (w.heap.size + 2) 62 1 (.slice ga m gc) m ((List.range m).map vg) := hO2.own .gh _ rfl
        have c0 : (wc.alloc (.cells (madeCells #[.bool false] (T + 1)) 4)).cell? ⟨w.heap.size, 0, none⟩ = some (.int .i64 T) := (same_alloc wc _ _ _ (by omega)).trans b0
        have agF : (Value.slice ga m gc).ownBlock ≠ some (w.heap.size + 1 + 1 + 1) := fun e => HO.out.apart .gh .st _ _ (by simp) rfl rfl _ e rfl
        have hnb : ((wc.alloc (.cells (madeCells #[.bool false] (T + 1)) 4)).alloc (.cells #[.slice (some ⟨wc.heap.size, 0, none⟩) (T + 1) (T + 1)] 62)).drew.heap[wc.heap.size + 1]? = some (.cells #[.slice (some ⟨wc.heap.size, 0, none⟩) (T + 1) (T + 1)] 62 (0, 0)) := by
          show ((wc.alloc (.cells (madeCells #[.bool false] (T + 1)) 4)).alloc (.cells #[.slice (some ⟨wc.heap.size, 0, none⟩) (T + 1) (T + 1)] 62)).heap[wc.heap.size + 1]? = _
          simpa using heap_alloc_new (wc.alloc (.cells (madeCells #[.bool false] (T + 1)) 4)) (.cells #[.slice (some ⟨wc.heap.size, 0, none⟩) (T + 1) (T + 1)] 62)
        have HNB : Hid (((wc.alloc (.cells (madeCells #[.bool false] (T + 1)) 4)).alloc (.cells #[.slice (some ⟨wc.heap.size, 0, none⟩) (T + 1) (T + 1)] 62)).drew.heap[wc.heap.size + 1]? = some (.cells #[.slice (some ⟨wc.heap.size, 0, none⟩) (T + 1) (T + 1)] 62 (0, 0))) := hnb
        have mkT1' : ∀ u : World, (Instr.makeSlice 62 (.int .i64 ((T : Int) + 1)) (.int .i64 ((T : Int) + 1))).run Try.prog u = .ok (.slice (some ⟨u.heap.size, 0, none⟩) (T + 1) (T + 1)) (u.alloc (.cells (madeCells #[.bool false] (T + 1)) 4)) := fun u => by simpa using mkT1 u
        have hw : IntKind.i64.wrap ((T : Int) + 1) = (T : Int) + 1 := IntWalk.i64_in _ (by omega)
        clear hnb hO2 s0 s1 t0 t1 q0 q1 mkT mkT1
        go_wp2_with fail
        go_region_law
          ((refine step_append_lies _ (by rfl) _ _ _ (by rfl) (w.heap.size + 2) 62 i0 _ 1 24 Try.underlying63 hi0 hz0 hz1 hz2 rfl (by omega) (.slice ga m gc) m ((List.range m).map vg) (by rfl) ownF
              ⟨wc.heap.size + 1, 0, none⟩ 1 1 [.slice (some ⟨wc.heap.size, 0, none⟩) (T + 1) (T + 1)] (by rfl) (by rfl) (World.news_of_block (cs := #[.slice (some ⟨wc.heap.size, 0, none⟩) (T + 1) (T + 1)]) (t := 62) (fr := (0, 0)) HNB.out) (by simp [Value.oneCell'])
              (by omega) (by unfold maxLen; omega) (by omega) (by simp; omega) (wc.heap.size + 2) (by simp) ?_; intro g1 cap1 w1 hown1 hgrow1 hat1 hlt1
            have d1 := (hgrow1.cell_far ⟨w.heap.size + 1 + 1 + 1, 2, none⟩ (by simp; omega) (Ne.symm agF)).trans q2; have d2 := (hgrow1.frozen_far ⟨w.heap.size + 1 + 1 + 1, 2, none⟩ (by simp; omega) (Ne.symm agF)).trans (qf 2)))
        all_goals
          go_wp2_with fail
          go_roundw
          case rel =>
            obtain ⟨x1, x2⟩ := below_push (sb := w.heap.size + 1 + 1 + 1) (j := 2) (v := .slice (some ⟨g1, 0, none⟩) (m + 1) cap1) HB.out hle hgrow1 (fun k hk => (ownF.lt k hk).1) (by omega)
            refine ⟨m + 1, by go_num, by omega, x1, x2, by simp, by simp, _, _, _, _, _, by
              have := HO.out.pushFollow (by simp) hle (by unfold maxLen; omega) hgrow1 hown1 (by simpa using hat1)
              rw [List.replicate_succ' (n := m) (a := List.replicate (T + 1) false)]
              exact this⟩
          case measure => simp [intOf]; omega
    · have hmN' : m = N := by omega
      have HS1 : Hid (SR ((w.alloc (.cells #[.int .i64 T, .int .i64 N, .slice ra R.length rc] 24)).alloc (.cells #[.slice none 0 0, .slice none 0 0, .slice none 0 0] 65)) (w.heap.size + 2) (w.heap.size + 1 + 1 + 1) T N N N (List.replicate N false) (List.replicate N (List.replicate T false)) (List.replicate N (List.replicate (T + 1) false)) wr) := by
        subst hmN'
        exact ⟨HB.out, hle, hFi, hFo, nv, fv, gv, vf, vg, HO.out⟩
      clear mkT mkT1 HB HO hle hFi hFo hsb hmN hmN' b0
      go_upto_region 7 with fail
      clear b1 hlt
      go_wp2_with fail
      go_loopw [5] (fun i wq => ∃ m : Nat, i = .int .i64 m ∧ m ≤ N + 1 ∧ SR ((w.alloc (.cells #[.int .i64 T, .int .i64 N, .slice ra R.length rc] 24)).alloc (.cells #[.slice none 0 0, .slice none 0 0, .slice none 0 0] 65)) (w.heap.size + 2) (w.heap.size + 1 + 1 + 1) T N N N (loopN m (fun _ => loopN R.length (nullS R)) (List.replicate N false)) (List.replicate N (List.replicate T false)) (List.replicate N (List.replicate (T + 1) false)) wq)
        (fun i _ => N + 1 - (intOf i).toNat)
      case atStart => exact ⟨0, rfl, Nat.zero_le _, HS1.out⟩
      case round =>
        clear HS1
        obtain ⟨m1, rfl, hm1, hS1⟩ := hrel
        obtain ⟨Nu0, hNu0⟩ : ∃ X, loopN m1 (fun _ => loopN R.length (nullS R)) (List.replicate N false) = X := ⟨_, rfl⟩
        rw [hNu0] at hS1
        have HNu : Hid (loopN m1 (fun _ => loopN R.length (nullS R)) (List.replicate N false) = Nu0) := hNu0
        have HS1 : Hid (SR ((w.alloc (.cells #[.int .i64 T, .int .i64 N, .slice ra R.length rc] 24)).alloc (.cells #[.slice none 0 0, .slice none 0 0, .slice none 0 0] 65)) (w.heap.size + 2) (w.heap.size + 1 + 1 + 1) T N N N Nu0 (List.replicate N (List.replicate T false)) (List.replicate N (List.replicate (T + 1) false)) wr) := hS1
        obtain ⟨_, b0, b1, b2⟩ := HBX.out wr hS1.1
        clear hNu0 hS1
        by_cases hlt1 : m1 ≤ N
        · go_wp2_with fail
          clear b0 b1 b2
          go_loopw [6] (fun i wq => ∃ j : Nat, i = .int .i64 j ∧ j ≤ R.length ∧ SR ((w.alloc (.cells #[.int .i64 T, .int .i64 N, .slice ra R.length rc] 24)).alloc (.cells #[.slice none 0 0, .slice none 0 0, .slice none 0 0] 65)) (w.heap.size + 2) (w.heap.size + 1 + 1 + 1) T N N N (loopN j (nullS R) Nu0) (List.replicate N (List.replicate T false)) (List.replicate N (List.replicate (T + 1) false)) wq)
            (fun i _ => R.length - (intOf i).toNat)
          case atStart => exact ⟨0, rfl, Nat.zero_le _, HS1.out⟩
          case round =>
            clear HS1
            obtain ⟨j, rfl, hj, hS1⟩ := hrel
            obtain ⟨Nu1, hNu1⟩ : ∃ X, loopN j (nullS R) Nu0 = X := ⟨_, rfl⟩
            rw [hNu1] at hS1
            have HNu1 : Hid (loopN j (nullS R) Nu0 = Nu1) := hNu1
            clear hNu1
            obtain ⟨hB, hle, hFi, hFo, nv, fv, gv, vf, vg, hO⟩ := hS1
            have HB : Hid (Below (w.heap.size + 2) ((w.alloc (.cells #[.int .i64 T, .int .i64 N, .slice ra R.length rc] 24)).alloc (.cells #[.slice none 0 0, .slice none 0 0, .slice none 0 0] 65)) wr) := hB
            have HO : Hid (Owns wr (w.heap.size + 2) (Pset (w.heap.size + 1 + 1 + 1) T N N N nv fv gv vf vg Nu1 (List.replicate N (List.replicate T false)) (List.replicate N (List.replicate (T + 1) false)))) := hO
            obtain ⟨hBw, b0, b1, b2⟩ := HBX.out wr hB
            have HBw : Hid (Below w.heap.size w wr) := hBw
            clear hB hO hBw
            by_cases hltj : j < R.length
            · obtain ⟨rb, ro, rc', qa, qc, hrv, hrb, k1, k2, hsy⟩ := HR.out.syms hltj
              simp only [Value.slice.injEq, true_and] at hrv
              obtain ⟨rfl, rfl⟩ := hrv
              obtain ⟨f1, f2, f3, f4⟩ := HM.out j hltj
              have hNu1l := HO.out.nullLen
              have hin : ∀ s ∈ (R.getD j (0, [])).2, s.1 = false → 0 ≤ s.2 ∧ s.2 < (Nu1.length : Int) := fun s hs hf => by
                have := f4 s hs
                rw [hf] at this
                rw [hNu1l]
                simpa using this
              obtain ⟨fa, fc, rfl⟩ : ∃ a c, fv = .slice a N c := own_form (HO.out.own .fh _ rfl)
              obtain ⟨ga, gc, rfl⟩ : ∃ a c, gv = .slice a N c := own_form (HO.out.own .gh _ rfl)
              obtain ⟨ng, nc, rfl, _, _⟩ : ∃ g c, nv = .slice (some ⟨g, 0, none⟩) N c ∧ _ ∧ _ := World.ownsRow.form (HO.out.own .null _ rfl) (by show 0 < N; omega)
              have call := null2_any (w := wr.drew) (fa := fa) (fl := N) (fc := fc) (ga := ga) (gl := N) (gc := gc) HO.out.drew.bools (hsy.same (same_below HBw.out.drew)) hin (by omega)
              obtain ⟨⟨L, Rt⟩, hru⟩ : ∃ x, R.getD j (0, []) = x := ⟨_, rfl⟩
              have HU : Hid (R.getD j (0, []) = (L, Rt)) := hru
              rw [hru] at k1 k2 call f1 f2 f3
              simp only at k1 k2 call f1 f2 f3
              have k1' := (HBw.out.cell (p := ⟨rb, ro + j * 2, none⟩) hrb).trans k1
              have k2' := (HBw.out.cell (p := ⟨rb, ro + j * 2 + 1, none⟩) hrb).trans k2
              obtain ⟨s0, s1, s2, sf⟩ := HO.out.fields
              have j0 : (0 : Int) ≤ (j : Int) := Int.natCast_nonneg _
              have j1 : (j : Int) < (R.length : Int) := by omega
              clear k1 k2 hsy hin f4 hru
              go_upto_region 13 with fail
              go_cut [63] from 49 to 72 (fun s63 wx => s63 = .bool (nullB Nu1 Rt) ∧ Below wr.heap.size wr wx)
              case first =>
                go_region_with (go_at_call 25; refine call.mono ?_; rintro e w2 ⟨rfl, hB2⟩)
                all_goals
                  go_wp2_with fail
                  go_meet
                  case rel => exact ⟨rfl, (Below.refl _ _).drew.trans hB2⟩
              case rest =>
                obtain ⟨rfl, hC⟩ := hcut
                have hCo : Owns wc (w.heap.size + 2) (Pset (w.heap.size + 1 + 1 + 1) T N N N (.slice (some ⟨ng, 0, none⟩) N nc) (.slice fa N fc) (.slice ga N gc) vf vg Nu1 (List.replicate N (List.replicate T false)) (List.replicate N (List.replicate (T + 1) false))) := HO.out.below hC (Nat.le_refl _)
                have HCo : Hid (Owns wc (w.heap.size + 2) (Pset (w.heap.size + 1 + 1 + 1) T N N N (.slice (some ⟨ng, 0, none⟩) N nc) (.slice fa N fc) (.slice ga N gc) vf vg Nu1 (List.replicate N (List.replicate T false)) (List.replicate N (List.replicate (T + 1) false)))) := hCo
                have HCB : Hid (Below (w.heap.size + 2) ((w.alloc (.cells #[.int .i64 T, .int .i64 N, .slice (some ⟨rb, ro, none⟩) R.length rc] 24)).alloc (.cells #[.slice none 0 0, .slice none 0 0, .slice none 0 0] 65)) wc) := HB.out.trans (hC.mono hle)
                have hCs := hC.size
                obtain ⟨hBc, b3, b4, b5⟩ := HBX.out wc HCB.out
                have k3 := (hC.cell (p := ⟨rb, ro + j * 2, none⟩) (by simp; omega)).trans k1'
                clear call k1' k2' s0 s1 s2 sf b0 b1 b2 hBc hC hCo HO HB HBw
                cases hnb : nullB Nu1 Rt with
                | false =>
                  have HD : Hid (loopN (j + 1) (nullS R) Nu0 = Nu1) := by
                    show loopN (j + 1) (nullS R) Nu0 = Nu1
                    rw [loopN, HNu1.out, nullS, HU.out]
                    simp [hnb]
                  clear hnb
                  go_wp2_with fail
                  go_roundw
                  case rel => exact ⟨j + 1, by go_num, by omega, by rw [HD.out]; exact ⟨HCB.out, by omega, by simp, by simp, _, _, _, _, _, HCo.out⟩⟩
                  case measure => simp [intOf]; omega
                | true =>
                  have HD : Hid (loopN (j + 1) (nullS R) Nu0 = Nu1.set L.toNat true) := by
                    show loopN (j + 1) (nullS R) Nu0 = _
                    rw [loopN, HNu1.out, nullS, HU.out]
                    simp [hnb]
                  clear hnb
                  obtain ⟨l, rfl⟩ : ∃ l : Nat, L = l := ⟨L.toNat, by omega⟩
                  have hcN := HCo.out.cell (i := .null) rfl l (by omega)
                  obtain ⟨cl, fl⟩ := hcN
                  have cl' : wc.cell? ⟨ng, l, none⟩ = some (.bool (Nu1.getD l false)) := by rw [cl]; simp [List.getD, show l < Nu1.length by omega]
                  obtain ⟨s0, _, _, _⟩ := HCo.out.fields
                  have j2 : (0 : Int) ≤ (l : Int) := Int.natCast_nonneg _
                  have j3 : (l : Int) < (N : Int) := by omega
                  have hng := (HCo.out.lt (i := .null) rfl (g := ng) rfl).1
                  simp only [Int.toNat_natCast] at HD
                  clear cl
                  go_wp2_with fail
                  go_region
                  all_goals
                    go_wp2_with fail
                    go_roundw
                    case rel => exact ⟨j + 1, by go_num, by omega, by rw [HD.out]; exact ⟨HCB.out.drew.setCell (by simp; omega) _, by simp; omega, by simp, by simp, _, _, _, _, _, HCo.out.drew.setNull l⟩⟩
                    case measure => simp [intOf]; omega
            · have HD : Hid (loopN (m1 + 1) (fun _ => loopN R.length (nullS R)) (List.replicate N false) = Nu1) := by
                show loopN (m1 + 1) (fun _ => loopN R.length (nullS R)) (List.replicate N false) = Nu1
                rw [loopN, HNu.out, ← HNu1.out, show j = R.length by omega]
              go_wp2_with fail
              go_roundw
              case rel => exact ⟨m1 + 1, by go_num, by omega, by rw [HD.out]; exact ⟨HB.out, hle, hFi, hFo, nv, fv, gv, vf, vg, HO.out⟩⟩
              case measure => simp [intOf]; omega
        · have HN1 : Hid (nullA R N = Nu0) := by
            show nullA R N = Nu0
            unfold nullA
            rw [show N + 1 = m1 by omega]
            exact HNu.out
          go_upto_region 15 with fail
          clear b0 b1 b2 hlt1 HNu hm1
          go_wp2_with fail
          go_loopw [7] (fun i wq => ∃ m : Nat, i = .int .i64 m ∧ m ≤ N + 1 ∧ SR ((w.alloc (.cells #[.int .i64 T, .int .i64 N, .slice ra R.length rc] 24)).alloc (.cells #[.slice none 0 0, .slice none 0 0, .slice none 0 0] 65)) (w.heap.size + 2) (w.heap.size + 1 + 1 + 1) T N N N Nu0 (loopN m (fun _ => loopN R.length fun i => loopN T fun t => firstS R Nu0 i t) (List.replicate N (List.replicate T false))) (List.replicate N (List.replicate (T + 1) false)) wq)
            (fun i _ => N + 1 - (intOf i).toNat)
          case atStart => exact ⟨0, rfl, Nat.zero_le _, HS1.out⟩
          case round =>
            clear HS1
            obtain ⟨m1, rfl, hm1, hS1⟩ := hrel
            obtain ⟨Fi0, hFi0⟩ : ∃ X, loopN m1 (fun _ => loopN R.length fun i => loopN T fun t => firstS R Nu0 i t) (List.replicate N (List.replicate T false)) = X := ⟨_, rfl⟩
            rw [hFi0] at hS1
            have HFi0 : Hid (loopN m1 (fun _ => loopN R.length fun i => loopN T fun t => firstS R Nu0 i t) (List.replicate N (List.replicate T false)) = Fi0) := hFi0
            have HS1 : Hid (SR ((w.alloc (.cells #[.int .i64 T, .int .i64 N, .slice ra R.length rc] 24)).alloc (.cells #[.slice none 0 0, .slice none 0 0, .slice none 0 0] 65)) (w.heap.size + 2) (w.heap.size + 1 + 1 + 1) T N N N Nu0 Fi0 (List.replicate N (List.replicate (T + 1) false)) wr) := hS1
            obtain ⟨_, b0, b1, b2⟩ := HBX.out wr hS1.1
            clear hFi0 hS1
            by_cases hlt1 : m1 ≤ N
            · go_wp2_with fail
              clear b0 b1 b2
              go_loopw [8] (fun i wq => ∃ j : Nat, i = .int .i64 j ∧ j ≤ R.length ∧ SR ((w.alloc (.cells #[.int .i64 T, .int .i64 N, .slice ra R.length rc] 24)).alloc (.cells #[.slice none 0 0, .slice none 0 0, .slice none 0 0] 65)) (w.heap.size + 2) (w.heap.size + 1 + 1 + 1) T N N N Nu0 (loopN j (fun i => loopN T fun t => firstS R Nu0 i t) Fi0) (List.replicate N (List.replicate (T + 1) false)) wq)
                (fun i _ => R.length - (intOf i).toNat)
              case atStart => exact ⟨0, rfl, Nat.zero_le _, HS1.out⟩
              case round =>
                clear HS1
                obtain ⟨j, rfl, hj, hS1⟩ := hrel
                obtain ⟨Fi1, hFi1⟩ : ∃ X, loopN j (fun i => loopN T fun t => firstS R Nu0 i t) Fi0 = X := ⟨_, rfl⟩
                rw [hFi1] at hS1
                have HFi1 : Hid (loopN j (fun i => loopN T fun t => firstS R Nu0 i t) Fi0 = Fi1) := hFi1
                have HS1 : Hid (SR ((w.alloc (.cells #[.int .i64 T, .int .i64 N, .slice ra R.length rc] 24)).alloc (.cells #[.slice none 0 0, .slice none 0 0, .slice none 0 0] 65)) (w.heap.size + 2) (w.heap.size + 1 + 1 + 1) T N N N Nu0 Fi1 (List.replicate N (List.replicate (T + 1) false)) wr) := hS1
                obtain ⟨_, b0, b1, b2⟩ := HBX.out wr hS1.1
                clear hFi1 hS1
                by_cases hltj : j < R.length
                · go_wp2_with fail
                  clear b0 b1 b2
                  go_loopw [9] (fun i wq => ∃ t : Nat, i = .int .i64 t ∧ t ≤ T ∧ SR ((w.alloc (.cells #[.int .i64 T, .int .i64 N, .slice ra R.length rc] 24)).alloc (.cells #[.slice none 0 0, .slice none 0 0, .slice none 0 0] 65)) (w.heap.size + 2) (w.heap.size + 1 + 1 + 1) T N N N Nu0 (loopN t (fun t => firstS R Nu0 j t) Fi1) (List.replicate N (List.replicate (T + 1) false)) wq)
                    (fun i _ => T - (intOf i).toNat)
                  case atStart => exact ⟨0, rfl, Nat.zero_le _, HS1.out⟩
                  case round =>
                    clear HS1
                    obtain ⟨t, rfl, ht, hS1⟩ := hrel
                    obtain ⟨Fi2, hFi2⟩ : ∃ X, loopN t (fun t => firstS R Nu0 j t) Fi1 = X := ⟨_, rfl⟩
                    rw [hFi2] at hS1
                    have HFi2 : Hid (loopN t (fun t => firstS R Nu0 j t) Fi1 = Fi2) := hFi2
                    clear hFi2
                    obtain ⟨hB, hle, hFl, hFo, nv, fv, gv, vf, vg, hO⟩ := hS1
                    have HFl : Hid (Fi2.length = N) := hFl
                    have HB : Hid (Below (w.heap.size + 2) ((w.alloc (.cells #[.int .i64 T, .int .i64 N, .slice ra R.length rc] 24)).alloc (.cells #[.slice none 0 0, .slice none 0 0, .slice none 0 0] 65)) wr) := hB
                    have HO : Hid (Owns wr (w.heap.size + 2) (Pset (w.heap.size + 1 + 1 + 1) T N N N nv fv gv vf vg Nu0 Fi2 (List.replicate N (List.replicate (T + 1) false)))) := hO
                    obtain ⟨hBw, b0, b1, b2⟩ := HBX.out wr hB
                    have HBw : Hid (Below w.heap.size w wr) := hBw
                    clear hB hO hBw hFl hFo
                    by_cases hltt : t < T
                    · obtain ⟨rb, ro, rc', qa, qc, hrv, hrb, k1, k2, hsy⟩ := HR.out.syms hltj
                      simp only [Value.slice.injEq, true_and] at hrv
                      obtain ⟨rfl, rfl⟩ := hrv
                      obtain ⟨f1, f2, f3, f4⟩ := HM.out j hltj
                      have hNl := HO.out.nullLen
                      have hin : ∀ s ∈ (R.getD j (0, [])).2, s.1 = false → 0 ≤ s.2 ∧ s.2 < (Nu0.length : Int) := fun s hs hf => by
                        have := f4 s hs
                        rw [hf] at this
                        rw [hNl]
                        simpa using this
                      obtain ⟨ga, gc, rfl⟩ : ∃ a c, gv = .slice a N c := own_form (HO.out.own .gh _ rfl)
                      obtain ⟨na, nc, rfl⟩ : ∃ a c, nv = .slice a N c := own_form (HO.out.own .null _ rfl)
                      obtain ⟨fg, fc, rfl, _, _⟩ : ∃ g c, fv = .slice (some ⟨g, 0, none⟩) N c ∧ _ ∧ _ := World.ownsRow.form (HO.out.own .fh _ rfl) (by show 0 < N; omega)
                      have call := begins2_any (w := wr.drew) (ga := ga) (gl := N) (gc := gc) (t := t) HO.out.drew.bools (HO.out.drew.mat HFl.out) (hsy.same (same_below HBw.out.drew)) hin (by rw [HFl.out, hNl]) (fun i hi => by rw [HO.out.firstLen (by rw [← HFl.out]; exact hi)]; exact hltt) (by omega)
                      obtain ⟨⟨L, Rt⟩, hru⟩ : ∃ x, R.getD j (0, []) = x := ⟨_, rfl⟩
                      have HU : Hid (R.getD j (0, []) = (L, Rt)) := hru
                      rw [hru] at k1 k2 call f1 f2 f3
                      simp only at k1 k2 call f1 f2 f3
                      have k1' := (HBw.out.cell (p := ⟨rb, ro + j * 2, none⟩) hrb).trans k1
                      have k2' := (HBw.out.cell (p := ⟨rb, ro + j * 2 + 1, none⟩) hrb).trans k2
                      obtain ⟨s0, s1, s2, sf⟩ := HO.out.fields
                      have j0 : (0 : Int) ≤ (j : Int) := Int.natCast_nonneg _
                      have j1 : (j : Int) < (R.length : Int) := by omega
                      have HNl : Hid (Nu0.length = N) := hNl
                      clear k1 k2 hsy hin f4 hru hNl
                      go_upto_region 24 with fail
                      go_cut [100] from 86 to 112 (fun s100 wx => s100 = .bool (begB Nu0 Fi2 t Rt) ∧ Below wr.heap.size wr wx)
                      case first =>
                        go_region_with (go_at_call 26; refine call.mono ?_; rintro e w2 ⟨rfl, hB2⟩)
                        all_goals
                          go_wp2_with fail
                          go_meet
                          case rel => exact ⟨rfl, (Below.refl _ _).drew.trans hB2⟩
                      case rest =>
                        obtain ⟨rfl, hC⟩ := hcut
                        have HCo : Hid (Owns wc (w.heap.size + 2) (Pset (w.heap.size + 1 + 1 + 1) T N N N (.slice na N nc) (.slice (some ⟨fg, 0, none⟩) N fc) (.slice ga N gc) vf vg Nu0 Fi2 (List.replicate N (List.replicate (T + 1) false)))) := HO.out.below hC (Nat.le_refl _)
                        have HCB : Hid (Below (w.heap.size + 2) ((w.alloc (.cells #[.int .i64 T, .int .i64 N, .slice (some ⟨rb, ro, none⟩) R.length rc] 24)).alloc (.cells #[.slice none 0 0, .slice none 0 0, .slice none 0 0] 65)) wc) := HB.out.trans (hC.mono hle)
                        have hCs := hC.size
                        obtain ⟨_, b3, b4, b5⟩ := HBX.out wc HCB.out
                        have k3 := (hC.cell (p := ⟨rb, ro + j * 2, none⟩) (by simp; omega)).trans k1'
                        clear call k1' k2' s0 s1 s2 sf b0 b1 b2 hC HO HB HBw
                        cases hnb : begB Nu0 Fi2 t Rt with
                        | false =>
                          have HD : Hid (loopN (t + 1) (fun t => firstS R Nu0 j t) Fi1 = Fi2) := by
                            show loopN (t + 1) (fun t => firstS R Nu0 j t) Fi1 = Fi2
                            rw [loopN, HFi2.out, firstS, HU.out]
                            simp [hnb]
                          clear hnb
                          go_wp2_with fail
                          go_roundw
                          case rel => exact ⟨t + 1, by go_num, by omega, by rw [HD.out]; exact ⟨HCB.out, by omega, HFl.out, by simp, _, _, _, _, _, HCo.out⟩⟩
                          case measure => simp [intOf]; omega
                        | true =>
                          have HD : Hid (loopN (t + 1) (fun t => firstS R Nu0 j t) Fi1 = set2 Fi2 L.toNat t) := by
                            show loopN (t + 1) (fun t => firstS R Nu0 j t) Fi1 = _
                            rw [loopN, HFi2.out, firstS, HU.out]
                            simp [hnb]
                          clear hnb
                          obtain ⟨l, rfl⟩ : ∃ l : Nat, L = l := ⟨L.toNat, by omega⟩
                          have hlN : l < N := by omega
                          have hrow : Pset (w.heap.size + 1 + 1 + 1) T N N N (.slice na N nc) (.slice (some ⟨fg, 0, none⟩) N fc) (.slice ga N gc) vf vg Nu0 Fi2 (List.replicate N (List.replicate (T + 1) false)) (.f l) = some ⟨vf l, 4, 1, T, (Fi2.getD l []).map Value.bool⟩ := by simp [Pset, hlN]
                          obtain ⟨rg, rgc, hvl, hrg, _⟩ := HCo.out.form hrow (by show 0 < T; omega)
                          simp only at hvl
                          have ch : wc.cell? ⟨fg, l, none⟩ = some (vf l) := by
                            rw [(HCo.out.cell (i := .fh) rfl l (by omega)).1]
                            simp [hlN]
                          rw [hvl] at ch
                          rw [hvl] at hrow
                          obtain ⟨ct, ft⟩ := HCo.out.cell hrow t (by omega)
                          have hlt' : t < (Fi2.getD l []).length := by rw [HCo.out.firstLen hlN]; exact hltt
                          have ct' : wc.cell? ⟨rg, t, none⟩ = some (.bool ((Fi2.getD l []).getD t false)) := by rw [ct]; generalize Fi2.getD l [] = X at *; simp [List.getD, hlt']
                          obtain ⟨s0, s1, _, _⟩ := HCo.out.fields
                          have j2 : (0 : Int) ≤ (l : Int) := Int.natCast_nonneg _
                          have j3 : (l : Int) < (N : Int) := by omega
                          have j4 : (0 : Int) ≤ (t : Int) := Int.natCast_nonneg _
                          have j5 : (t : Int) < (T : Int) := by omega
                          have HV : Hid (vf l = .slice (some ⟨rg, 0, none⟩) T rgc) := hvl
                          simp only [Int.toNat_natCast] at HD
                          obtain ⟨z, hz⟩ : ∃ z, (Fi2.getD l []).getD t false = z := ⟨_, rfl⟩
                          rw [hz] at ct'
                          clear ct hvl hrow hlt' hz
                          go_wp2_with fail
                          go_region
                          all_goals
                            go_wp2_with fail
                            go_roundw
                            case rel => exact ⟨t + 1, by go_num, by omega, by rw [HD.out]; exact ⟨HCB.out.drew.setCell hrg _, by simp; omega, by rw [set2_length]; exact HFl.out, by simp, _, _, _, _, _, HCo.out.drew.setFirst HFl.out hlN HV.out t⟩⟩
                            case measure => simp [intOf]; omega
                    · have HD : Hid (loopN (j + 1) (fun i => loopN T fun t => firstS R Nu0 i t) Fi0 = Fi2) := by
                        show loopN (j + 1) (fun i => loopN T fun t => firstS R Nu0 i t) Fi0 = Fi2
                        rw [loopN, HFi1.out, ← HFi2.out, show t = T by omega]
                      go_wp2_with fail
                      go_roundw
                      case rel => exact ⟨j + 1, by go_num, by omega, by rw [HD.out]; exact ⟨HB.out, hle, HFl.out, by simp, _, _, _, _, _, HO.out⟩⟩
                      case measure => simp [intOf]; omega
                · have HD : Hid (loopN (m1 + 1) (fun _ => loopN R.length fun i => loopN T fun t => firstS R Nu0 i t) (List.replicate N (List.replicate T false)) = Fi1) := by
                    show loopN (m1 + 1) (fun _ => loopN R.length fun i => loopN T fun t => firstS R Nu0 i t) (List.replicate N (List.replicate T false)) = Fi1
                    rw [loopN, HFi0.out, ← HFi1.out, show j = R.length by omega]
                  go_wp2_with fail
                  go_roundw
                  case rel => exact ⟨m1 + 1, by go_num, by omega, by rw [HD.out]; exact HS1.out⟩
                  case measure => simp [intOf]; omega
            · have HF1 : Hid (firstA R (nullA R N) T N = Fi0) := by
                show firstA R (nullA R N) T N = Fi0
                unfold firstA
                rw [HN1.out, show N + 1 = m1 by omega]
                exact HFi0.out
              go_upto_region 26 with fail
              clear b1 b2 hlt1 HFi0 hm1
              go_cut [] from 113 to 119 (fun wx => SR ((w.alloc (.cells #[.int .i64 T, .int .i64 N, .slice ra R.length rc] 24)).alloc (.cells #[.slice none 0 0, .slice none 0 0, .slice none 0 0] 65)) (w.heap.size + 2) (w.heap.size + 1 + 1 + 1) T N N N Nu0 Fi0 (set2 (List.replicate N (List.replicate (T + 1) false)) 0 T) wx)
              case first =>
                obtain ⟨hB, hle, hFl, hFo, nv, fv, gv, vf, vg, hO⟩ := HS1.out
                have HFl : Hid (Fi0.length = N) := hFl
                have HB : Hid (Below (w.heap.size + 2) ((w.alloc (.cells #[.int .i64 T, .int .i64 N, .slice ra R.length rc] 24)).alloc (.cells #[.slice none 0 0, .slice none 0 0, .slice none 0 0] 65)) wr) := hB
                have HO : Hid (Owns wr (w.heap.size + 2) (Pset (w.heap.size + 1 + 1 + 1) T N N N nv fv gv vf vg Nu0 Fi0 (List.replicate N (List.replicate (T + 1) false)))) := hO
                obtain ⟨gg, gc, rfl, _, _⟩ : ∃ g c, gv = .slice (some ⟨g, 0, none⟩) N c ∧ _ ∧ _ := World.ownsRow.form (hO.own .gh _ rfl) (by show 0 < N; omega)
                have h0N : 0 < N := by omega
                have hrow : Pset (w.heap.size + 1 + 1 + 1) T N N N nv fv (.slice (some ⟨gg, 0, none⟩) N gc) vf vg Nu0 Fi0 (List.replicate N (List.replicate (T + 1) false)) (.g 0) = some ⟨vg 0, 4, 1, T + 1, ((List.replicate N (List.replicate (T + 1) false)).getD 0 []).map Value.bool⟩ := by simp [Pset, h0N]
                obtain ⟨rg, rgc, hvl, hrg, _⟩ := hO.form hrow (by show 0 < T + 1; omega)
                simp only at hvl
                have ch : wr.cell? ⟨gg, 0, none⟩ = some (vg 0) := by
                  rw [(hO.cell (i := .gh) rfl 0 (by omega)).1]
                  simp [h0N]
                rw [hvl] at ch
                rw [hvl] at hrow
                obtain ⟨ct, ft⟩ := hO.cell hrow T (by omega)
                have hlt' : T < ((List.replicate N (List.replicate (T + 1) false)).getD 0 []).length := by rw [hO.followLen h0N]; omega
                have ct' : wr.cell? ⟨rg, T, none⟩ = some (.bool (((List.replicate N (List.replicate (T + 1) false)).getD 0 []).getD T false)) := by rw [ct]; generalize (List.replicate N (List.replicate (T + 1) false)).getD 0 [] = X at *; simp [List.getD, hlt']
                obtain ⟨_, _, s2, _⟩ := hO.fields
                have j3 : (0 : Int) < (N : Int) := by omega
                have j4 : (0 : Int) ≤ (T : Int) := Int.natCast_nonneg _
                have j5 : (T : Int) < ((T : Int) + 1) := by omega
                have HV : Hid (vg 0 = .slice (some ⟨rg, 0, none⟩) (T + 1) rgc) := hvl
                obtain ⟨z, hz⟩ : ∃ z, ((List.replicate N (List.replicate (T + 1) false)).getD 0 []).getD T false = z := ⟨_, rfl⟩
                rw [hz] at ct'
                clear ct hvl hrow hlt' hz hO hB hFl hFo
                go_region
                all_goals
                  go_wp2_with fail
                  go_meet
                  case rel => exact ⟨HB.out.drew.setCell hrg _, by simp; omega, HFl.out, by rw [set2_length]; simp, _, _, _, _, _, HO.out.drew.setFollow (by simp) h0N HV.out T⟩
              case rest =>
                have HS2 : Hid (SR ((w.alloc (.cells #[.int .i64 T, .int .i64 N, .slice ra R.length rc] 24)).alloc (.cells #[.slice none 0 0, .slice none 0 0, .slice none 0 0] 65)) (w.heap.size + 2) (w.heap.size + 1 + 1 + 1) T N N N Nu0 Fi0 (set2 (List.replicate N (List.replicate (T + 1) false)) 0 T) wc) := hcut
                clear hcut HS1 b0
                go_wp2_with fail
                go_loopw [10] (fun i wq => ∃ m : Nat, i = .int .i64 m ∧ m ≤ N + 1 ∧ SR ((w.alloc (.cells #[.int .i64 T, .int .i64 N, .slice ra R.length rc] 24)).alloc (.cells #[.slice none 0 0, .slice none 0 0, .slice none 0 0] 65)) (w.heap.size + 2) (w.heap.size + 1 + 1 + 1) T N N N Nu0 Fi0 (loopN m (fun _ => loopN R.length fun i => loopN (R.getD i (0, [])).2.length fun k => followK R Nu0 Fi0 T i k) (set2 (List.replicate N (List.replicate (T + 1) false)) 0 T)) wq)
                  (fun i _ => N + 1 - (intOf i).toNat)
                case atStart => exact ⟨0, rfl, Nat.zero_le _, HS2.out⟩
                case round =>
                  clear HS2
                  obtain ⟨m1, rfl, hm1, hS1⟩ := hrel
                  obtain ⟨Fo0, hFo0⟩ : ∃ X, loopN m1 (fun _ => loopN R.length fun i => loopN (R.getD i (0, [])).2.length fun k => followK R Nu0 Fi0 T i k) (set2 (List.replicate N (List.replicate (T + 1) false)) 0 T) = X := ⟨_, rfl⟩
                  rw [hFo0] at hS1
                  have HFo0 : Hid (loopN m1 (fun _ => loopN R.length fun i => loopN (R.getD i (0, [])).2.length fun k => followK R Nu0 Fi0 T i k) (set2 (List.replicate N (List.replicate (T + 1) false)) 0 T) = Fo0) := hFo0
                  have HS1 : Hid (SR ((w.alloc (.cells #[.int .i64 T, .int .i64 N, .slice ra R.length rc] 24)).alloc (.cells #[.slice none 0 0, .slice none 0 0, .slice none 0 0] 65)) (w.heap.size + 2) (w.heap.size + 1 + 1 + 1) T N N N Nu0 Fi0 Fo0 wr) := hS1
                  obtain ⟨_, b0, b1, b2⟩ := HBX.out wr hS1.1
                  clear hFo0 hS1
                  by_cases hlt1 : m1 ≤ N
                  · go_wp2_with fail
                    clear b0 b1 b2
                    go_loopw [11] (fun i wq => ∃ j : Nat, i = .int .i64 j ∧ j ≤ R.length ∧ SR ((w.alloc (.cells #[.int .i64 T, .int .i64 N, .slice ra R.length rc] 24)).alloc (.cells #[.slice none 0 0, .slice none 0 0, .slice none 0 0] 65)) (w.heap.size + 2) (w.heap.size + 1 + 1 + 1) T N N N Nu0 Fi0 (loopN j (fun i => loopN (R.getD i (0, [])).2.length fun k => followK R Nu0 Fi0 T i k) Fo0) wq)
                      (fun i _ => R.length - (intOf i).toNat)
                    case atStart => exact ⟨0, rfl, Nat.zero_le _, HS1.out⟩
                    case round =>
                      clear HS1
                      obtain ⟨j, rfl, hj, hS1⟩ := hrel
                      obtain ⟨Fo1, hFo1⟩ : ∃ X, loopN j (fun i => loopN (R.getD i (0, [])).2.length fun k => followK R Nu0 Fi0 T i k) Fo0 = X := ⟨_, rfl⟩
                      rw [hFo1] at hS1
                      have HFo1 : Hid (loopN j (fun i => loopN (R.getD i (0, [])).2.length fun k => followK R Nu0 Fi0 T i k) Fo0 = Fo1) := hFo1
                      clear hFo1
                      obtain ⟨hB, hle, hFl, hFol, nv, fv, gv, vf, vg, hO⟩ := hS1
                      have HFl : Hid (Fi0.length = N) := hFl
                      have HFol : Hid (Fo1.length = N) := hFol
                      have HB : Hid (Below (w.heap.size + 2) ((w.alloc (.cells #[.int .i64 T, .int .i64 N, .slice ra R.length rc] 24)).alloc (.cells #[.slice none 0 0, .slice none 0 0, .slice none 0 0] 65)) wr) := hB
                      have HO : Hid (Owns wr (w.heap.size + 2) (Pset (w.heap.size + 1 + 1 + 1) T N N N nv fv gv vf vg Nu0 Fi0 Fo1)) := hO
                      obtain ⟨hBw, b0, b1, b2⟩ := HBX.out wr hB
                      have HBw : Hid (Below w.heap.size w wr) := hBw
                      clear hB hO hBw hFl hFol
                      by_cases hltj : j < R.length
                      · obtain ⟨rb, ro, rc', qa, qc, hrv, hrb, k1, k2, hsy⟩ := HR.out.syms hltj
                        simp only [Value.slice.injEq, true_and] at hrv
                        obtain ⟨rfl, rfl⟩ := hrv
                        obtain ⟨f1, f2, f3, f4⟩ := HM.out j hltj
                        obtain ⟨⟨L, Rt⟩, hru⟩ : ∃ x, R.getD j (0, []) = x := ⟨_, rfl⟩
                        have HU : Hid (R.getD j (0, []) = (L, Rt)) := hru
                        rw [hru] at k1 k2 hsy f1 f2 f3 f4
                        simp only at k1 k2 hsy f1 f2 f3 f4
                        obtain ⟨l, rfl⟩ : ∃ l : Nat, L = l := ⟨L.toNat, by omega⟩
                        have HSY : Hid (SymsAt w (.slice qa Rt.length qc) Rt) := hsy
                        have HF4 : Hid (∀ s ∈ Rt, 0 ≤ s.2 ∧ s.2 < if s.1 then (T : Int) else (N : Int)) := f4
                        have k1' := (HBw.out.cell (p := ⟨rb, ro + j * 2, none⟩) hrb).trans k1
                        have k2' := (HBw.out.cell (p := ⟨rb, ro + j * 2 + 1, none⟩) hrb).trans k2
                        have j0 : (0 : Int) ≤ (j : Int) := Int.natCast_nonneg _
                        have j1 : (j : Int) < (R.length : Int) := by omega
                        have HRK : Hid (∀ n, n < N → ∀ g, (vg n).ownBlock = some g → g ≠ wr.heap.size) := fun n hn g hg => by
                          have hrow : Pset (w.heap.size + 1 + 1 + 1) T N N N nv fv gv vf vg Nu0 Fi0 Fo1 (.g n) = some ⟨vg n, 4, 1, T + 1, (Fo1.getD n []).map Value.bool⟩ := by simp [Pset, hn]
                          have := (HO.out.lt hrow hg).2
                          omega
                        have hlN : l < N := by omega
                        obtain ⟨rk, hrk⟩ : ∃ rk, wr.heap.size = rk := ⟨_, rfl⟩
                        clear hsy f4 hru k1 k2 f1 f2
                        go_wp2_with fail
                        have HK0 : Hid (KR ((w.alloc (.cells #[.int .i64 T, .int .i64 N, .slice (some ⟨rb, ro, none⟩) R.length rc] 24)).alloc (.cells #[.slice none 0 0, .slice none 0 0, .slice none 0 0] 65)) (w.heap.size + 2) (w.heap.size + 1 + 1 + 1) T N nv fv gv vf vg Nu0 Fi0 rk l (.slice qa Rt.length qc) Fo1 (wr.alloc (.cells #[.int .i64 l, .slice qa Rt.length qc] 31))) := by
                          refine ⟨HB.out.alloc hle _, by simp; omega, HFol.out, HO.out.alloc _, ?_, ?_⟩
                          · rw [← hrk]; simp [go_sem]
                          · rw [← hrk]; simp [go_sem]
                        have HRK' : Hid (∀ n, n < N → ∀ g, (vg n).ownBlock = some g → g ≠ rk) := fun n hn g hg => by rw [← hrk]; exact HRK.out n hn g hg
                        have hNl := HO.out.nullLen
                        have HNl : Hid (Nu0.length = N) := hNl
                        clear HRK HB HO HBw hle b0 b1 b2 k1' k2' hrk hNl
                        go_loopw [13] (fun i wq => ∃ k : Nat, i = .int .i64 k ∧ k ≤ Rt.length ∧ KR ((w.alloc (.cells #[.int .i64 T, .int .i64 N, .slice (some ⟨rb, ro, none⟩) R.length rc] 24)).alloc (.cells #[.slice none 0 0, .slice none 0 0, .slice none 0 0] 65)) (w.heap.size + 2) (w.heap.size + 1 + 1 + 1) T N nv fv gv vf vg Nu0 Fi0 rk l (.slice qa Rt.length qc) (loopN k (fun k => followK R Nu0 Fi0 T j k) Fo1) wq)
                          (fun i _ => Rt.length - (intOf i).toNat)
                        case atStart => exact ⟨0, rfl, Nat.zero_le _, HK0.out⟩
                        case round =>
                          clear HK0
                          obtain ⟨k, rfl, hk, hK⟩ := hrel
                          obtain ⟨Fo2, hFo2⟩ : ∃ X, loopN k (fun k => followK R Nu0 Fi0 T j k) Fo1 = X := ⟨_, rfl⟩
                          rw [hFo2] at hK
                          have HFo2 : Hid (loopN k (fun k => followK R Nu0 Fi0 T j k) Fo1 = Fo2) := hFo2
                          have HK : Hid (KR ((w.alloc (.cells #[.int .i64 T, .int .i64 N, .slice (some ⟨rb, ro, none⟩) R.length rc] 24)).alloc (.cells #[.slice none 0 0, .slice none 0 0, .slice none 0 0] 65)) (w.heap.size + 2) (w.heap.size + 1 + 1 + 1) T N nv fv gv vf vg Nu0 Fi0 rk l (.slice qa Rt.length qc) Fo2 wr) := hK
                          obtain ⟨hB, _, _, _, c0, c1⟩ := hK
                          obtain ⟨hBw, _, _, _⟩ := HBX.out wr hB
                          have HBw : Hid (Below w.heap.size w wr) := hBw
                          clear hFo2 hB hBw
                          by_cases hltk : k < Rt.length
                          · obtain ⟨sb', so', sc', hv, y1, y2⟩ := HSY.out.2 k hltk
                            simp only [Value.slice.injEq, true_and] at hv
                            obtain ⟨rfl, rfl⟩ := hv
                            obtain ⟨⟨tb, v⟩, hsy⟩ : ∃ x, Rt.getD k (false, 0) = x := ⟨_, rfl⟩
                            have hmem : (tb, v) ∈ Rt := by rw [← hsy]; simp [List.getD, hltk]
                            have hvb := HF4.out _ hmem
                            rw [hsy] at y1 y2
                            simp only at y1 y2 hvb
                            have HSYk : Hid (Rt.getD k (false, 0) = (tb, v)) := hsy
                            have y1' := (HBw.out.cell (p := ⟨sb', so' + k * 2, none⟩) (World.block_lt_of_cell? w _ y1)).trans y1
                            have y2' := (HBw.out.cell (p := ⟨sb', so' + k * 2 + 1, none⟩) (World.block_lt_of_cell? w _ y2)).trans y2
                            have j2 : (0 : Int) ≤ (k : Int) := Int.natCast_nonneg _
                            have j3 : (k : Int) < (Rt.length : Int) := by omega
                            have HY2 : Hid (w.cell? ⟨sb', so' + k * 2 + 1, none⟩ = some (.int .i64 v)) := y2
                            clear hsy hmem y1 y2
                            cases tb with
                            | true =>
                              have HD : Hid (loopN (k + 1) (fun k => followK R Nu0 Fi0 T j k) Fo1 = Fo2) := by
                                show loopN (k + 1) (fun k => followK R Nu0 Fi0 T j k) Fo1 = Fo2
                                rw [loopN, HFo2.out, followK, HU.out]
                                simp only
                                rw [HSYk.out]
                                simp
                              go_wp2_with fail
                              go_roundw
                              case rel => exact ⟨k + 1, by go_num, by omega, by rw [HD.out]; exact HK.out⟩
                              case measure => simp [intOf]; omega
                            | false =>
                              simp only [Bool.false_eq_true, if_false] at hvb
                              obtain ⟨y, rfl⟩ : ∃ y : Nat, v = y := ⟨v.toNat, by omega⟩
                              obtain ⟨_, _, hqv, hqc⟩ := HSY.out.1
                              cases hqv
                              have j4 : (k : Int) + 1 ≤ (Rt.length : Int) := by omega
                              have j5 : (Rt.length : Int) ≤ (qc : Int) := by omega
                              have hw : IntKind.i64.wrap ((k : Int) + 1) = (k : Int) + 1 := IntWalk.i64_in _ (by omega)
                              go_upto_region 39 with fail
                              obtain ⟨av, hav, hrest⟩ : ∃ av, (if qc = k + 1 then some (⟨sb', so', none⟩ : Addr) else some ⟨sb', so' + (k + 1) * 2, none⟩) = av ∧ SymsAt w (.slice av (Rt.length - (k + 1)) (qc - (k + 1))) (Rt.drop (k + 1)) := ⟨_, rfl, HSY.out.drop (k + 1) (by omega)⟩
                              rw [hav]
                              have HRS : Hid (SymsAt w (.slice av (Rt.length - (k + 1)) (qc - (k + 1))) (Rt.drop (k + 1))) := hrest
                              clear hav hrest hw c0 c1 y1' y2'
                              have hyN : y < N := by omega
                              go_wp2_with fail
                              go_loopw [15] (fun i wq => ∃ t : Nat, i = .int .i64 t ∧ t ≤ T + 1 ∧ KR ((w.alloc (.cells #[.int .i64 T, .int .i64 N, .slice (some ⟨rb, ro, none⟩) R.length rc] 24)).alloc (.cells #[.slice none 0 0, .slice none 0 0, .slice none 0 0] 65)) (w.heap.size + 2) (w.heap.size + 1 + 1 + 1) T N nv fv gv vf vg Nu0 Fi0 rk l (.slice (some ⟨sb', so', none⟩) Rt.length qc) (loopN t (fun t => followS R Nu0 Fi0 T j k t) Fo2) wq)
                                (fun i _ => T + 1 - (intOf i).toNat)
                              case atStart => exact ⟨0, rfl, Nat.zero_le _, HK.out⟩
                              case round =>
                                clear HK HBw
                                obtain ⟨t, rfl, ht, hK⟩ := hrel
                                obtain ⟨Fo3, hFo3⟩ : ∃ X, loopN t (fun t => followS R Nu0 Fi0 T j k t) Fo2 = X := ⟨_, rfl⟩
                                rw [hFo3] at hK
                                have HFo3 : Hid (loopN t (fun t => followS R Nu0 Fi0 T j k t) Fo2 = Fo3) := hFo3
                                have HK : Hid (KR ((w.alloc (.cells #[.int .i64 T, .int .i64 N, .slice (some ⟨rb, ro, none⟩) R.length rc] 24)).alloc (.cells #[.slice none 0 0, .slice none 0 0, .slice none 0 0] 65)) (w.heap.size + 2) (w.heap.size + 1 + 1 + 1) T N nv fv gv vf vg Nu0 Fi0 rk l (.slice (some ⟨sb', so', none⟩) Rt.length qc) Fo3 wr) := hK
                                obtain ⟨hB, hle, hFol3, hO, c0, c1⟩ := hK
                                obtain ⟨hBw, b0, _, _⟩ := HBX.out wr hB
                                have HBw : Hid (Below w.heap.size w wr) := hBw
                                have HO : Hid (Owns wr (w.heap.size + 2) (Pset (w.heap.size + 1 + 1 + 1) T N N N nv fv gv vf vg Nu0 Fi0 Fo3)) := hO
                                have HFol3 : Hid (Fo3.length = N) := hFol3
                                clear hFo3 hB hBw hO hFol3
                                by_cases htT : t ≤ T
                                · obtain ⟨na, nc, rfl⟩ : ∃ a c, nv = .slice a N c := own_form (HO.out.own .null _ rfl)
                                  obtain ⟨fa, fc, rfl⟩ : ∃ a c, fv = .slice a N c := own_form (HO.out.own .fh _ rfl)
                                  obtain ⟨gg, gc, rfl, _, _⟩ : ∃ g c, gv = .slice (some ⟨g, 0, none⟩) N c ∧ _ ∧ _ := World.ownsRow.form (HO.out.own .gh _ rfl) (by show 0 < N; omega)
                                  have hin : ∀ s ∈ Rt.drop (k + 1), s.1 = false → 0 ≤ s.2 ∧ s.2 < (Nu0.length : Int) := fun s hs hf => by
                                    have := HF4.out s (List.mem_of_mem_drop hs)
                                    rw [hf] at this
                                    rw [HNl.out]
                                    simpa using this
                                  have hl8 : (Rt.drop (k + 1)).length ≤ 1000 := by simp; omega
                                  have callN : ∀ wx, Below wr.heap.size wr wx → Calls Try.prog 25 #[.agg #[.slice na N nc, .slice fa N fc, .slice (some ⟨gg, 0, none⟩) N gc], .slice av (Rt.length - (k + 1)) (qc - (k + 1))] wx fun e w' => e = .returned (.bool (nullB Nu0 (Rt.drop (k + 1)))) ∧ Below wx.heap.size wx w' := fun wx hx =>
                                    null2_any ((HO.out.below hx (Nat.le_refl _)).bools) (HRS.out.same (same_below (HBw.out.trans (hx.mono HBw.out.size)))) hin hl8
                                  have callB : t < T → Calls Try.prog 26 #[.agg #[.slice na N nc, .slice fa N fc, .slice (some ⟨gg, 0, none⟩) N gc], .slice av (Rt.length - (k + 1)) (qc - (k + 1)), .int .i64 t] wr fun e w' => e = .returned (.bool (begB Nu0 Fi0 t (Rt.drop (k + 1)))) ∧ Below wr.heap.size wr w' := fun htt =>
                                    begins2_any HO.out.bools (HO.out.mat HFl.out) (HRS.out.same (same_below HBw.out)) hin (by rw [HFl.out, HNl.out]) (fun i hi => by rw [HO.out.firstLen (by rw [← HFl.out]; exact hi)]; exact htt) hl8
                                  have rowL : ∀ n, n < N → ∀ wx, Below wr.heap.size wr wx → ∃ rg rgc, vg n = .slice (some ⟨rg, 0, none⟩) (T + 1) rgc ∧ w.heap.size + 2 ≤ rg ∧ wx.cell? ⟨gg, n, none⟩ = some (.slice (some ⟨rg, 0, none⟩) (T + 1) rgc) ∧ wx.cell? ⟨rg, t, none⟩ = some (.bool ((Fo3.getD n []).getD t false)) ∧ wx.frozen? ⟨rg, t, none⟩ = false := fun n hn wx hx => by
                                    have hOx := HO.out.below hx (Nat.le_refl _)
                                    have hrow : Pset (w.heap.size + 1 + 1 + 1) T N N N (.slice na N nc) (.slice fa N fc) (.slice (some ⟨gg, 0, none⟩) N gc) vf vg Nu0 Fi0 Fo3 (.g n) = some ⟨vg n, 4, 1, T + 1, (Fo3.getD n []).map Value.bool⟩ := by simp [Pset, hn]
                                    obtain ⟨rg, rgc, hvl, hrg, _⟩ := hOx.form hrow (by show 0 < T + 1; omega)
                                    simp only at hvl
                                    have ch : wx.cell? ⟨gg, n, none⟩ = some (vg n) := by
                                      rw [(hOx.cell (i := .gh) rfl n (by omega)).1]
                                      simp [hn]
                                    rw [hvl] at ch
                                    rw [hvl] at hrow
                                    obtain ⟨ct, ft⟩ := hOx.cell hrow t (by omega)
                                    have hlt' : t < (Fo3.getD n []).length := by rw [hOx.followLen hn]; omega
                                    refine ⟨rg, rgc, hvl, hrg, ch, ?_, ft⟩
                                    rw [ct]
                                    generalize Fo3.getD n [] = X at *
                                    simp [List.getD, hlt']
                                  obtain ⟨NB, hNB⟩ : ∃ x, nullB Nu0 (Rt.drop (k + 1)) = x := ⟨_, rfl⟩
                                  rw [hNB] at callN
                                  have HCN : Hid (∀ wx, Below wr.heap.size wr wx → Calls Try.prog 25 #[.agg #[.slice na N nc, .slice fa N fc, .slice (some ⟨gg, 0, none⟩) N gc], .slice av (Rt.length - (k + 1)) (qc - (k + 1))] wx fun e w' => e = .returned (.bool NB) ∧ Below wx.heap.size wx w') := callN
                                  have HRL : Hid (∀ n, n < N → ∀ wx, Below wr.heap.size wr wx → ∃ rg rgc, vg n = .slice (some ⟨rg, 0, none⟩) (T + 1) rgc ∧ w.heap.size + 2 ≤ rg ∧ wx.cell? ⟨gg, n, none⟩ = some (.slice (some ⟨rg, 0, none⟩) (T + 1) rgc) ∧ wx.cell? ⟨rg, t, none⟩ = some (.bool ((Fo3.getD n []).getD t false)) ∧ wx.frozen? ⟨rg, t, none⟩ = false) := rowL
                                  obtain ⟨s0, s1, s2, sf⟩ := HO.out.fields
                                  obtain ⟨BB, hBB⟩ : ∃ x, begB Nu0 Fi0 t (Rt.drop (k + 1)) = x := ⟨_, rfl⟩
                                  obtain ⟨FB, hFB⟩ : ∃ x, (Fo3.getD l []).getD t false = x := ⟨_, rfl⟩
                                  have HSt : Hid (loopN (t + 1) (fun t => followS R Nu0 Fi0 T j k t) Fo2 = if (decide (t < T) && BB) || (NB && FB) then set2 Fo3 y t else Fo3) := by
                                    show loopN (t + 1) (fun t => followS R Nu0 Fi0 T j k t) Fo2 = _
                                    rw [loopN, HFo3.out, followS, HU.out]
                                    simp only [Int.toNat_natCast]
                                    rw [HSYk.out, hBB, hNB, hFB]
                                    simp only [Int.toNat_natCast]
                                  rw [hBB] at callB
                                  have j6 : (0 : Int) ≤ (t : Int) := Int.natCast_nonneg _
                                  have j7 : (t : Int) < (T : Int) + 1 := by omega
                                  have j8 : (0 : Int) ≤ (l : Int) := Int.natCast_nonneg _
                                  have j9 : (l : Int) < (N : Int) := by omega
                                  have HFB : Hid ((Fo3.getD l []).getD t false = FB) := hFB
                                  have hsbl := World.block_lt_of_cell? wr _ s0
                                  have hrkl := World.block_lt_of_cell? wr _ c0
                                  simp only at hsbl hrkl
                                  clear callN rowL hin hl8 hBB hNB hFB
                                  go_upto_region 42 with fail
                                  go_cut [187] from 156 to 199 (fun s187 wx => s187 = .bool ((decide (t < T) && BB) || (NB && FB)) ∧ Below wr.heap.size wr wx)
                                  case first =>
                                    by_cases htt : t < T
                                    · have cB := callB htt
                                      have e1 : decide (t < T) = true := by simpa using htt
                                      clear callB
                                      cases BB with
                                      | true =>
                                        go_wp2_with (go_at_call 26; refine cB.mono ?_; rintro e w2 ⟨rfl, hB2⟩)
                                        go_meet
                                        case rel => exact ⟨by simp [htt], hB2⟩
                                      | false =>
                                        cases NB with
                                        | false =>
                                          go_wp2_with (first
                                            | (go_at_call 26
                                               refine cB.mono ?_
                                               rintro e w2 ⟨rfl, HBX2⟩
                                               have p0 := (HBX2.cell (p := ⟨w.heap.size + 1 + 1 + 1, 0, none⟩) hsbl).trans s0
                                               have p1 := (HBX2.cell (p := ⟨w.heap.size + 1 + 1 + 1, 1, none⟩) hsbl).trans s1
                                               have p2 := (HBX2.cell (p := ⟨w.heap.size + 1 + 1 + 1, 2, none⟩) hsbl).trans s2)
                                            | (go_at_call 25
                                               refine (HCN.out _ HBX2).mono ?_
                                               rintro e w3 ⟨rfl, hB3⟩))
                                          go_meet
                                          case rel => exact ⟨by simp, HBX2.trans (hB3.mono HBX2.size)⟩
                                        | true =>
                                          go_wp2_with (first
                                            | (go_at_call 26
                                               refine cB.mono ?_
                                               rintro e w2 ⟨rfl, HBX2⟩
                                               have p0 := (HBX2.cell (p := ⟨w.heap.size + 1 + 1 + 1, 0, none⟩) hsbl).trans s0
                                               have p1 := (HBX2.cell (p := ⟨w.heap.size + 1 + 1 + 1, 1, none⟩) hsbl).trans s1
                                               have p2 := (HBX2.cell (p := ⟨w.heap.size + 1 + 1 + 1, 2, none⟩) hsbl).trans s2)
                                            | (go_at_call 25
                                               refine (HCN.out _ HBX2).mono ?_
                                               rintro e w3 ⟨rfl, hB3⟩
                                               have hB4 : Below wr.heap.size wr w3 := HBX2.trans (hB3.mono HBX2.size)
                                               obtain ⟨rg, rgc, _, _, q1, q2, _⟩ := HRL.out l hlN w3 hB4
                                               rw [HFB.out] at q2
                                               have q3 := (hB4.cell (p := ⟨w.heap.size + 1 + 1 + 1, 2, none⟩) hsbl).trans s2
                                               have q4 := (hB4.cell (p := ⟨rk, 0, none⟩) hrkl).trans c0))
                                          go_meet
                                          case rel => exact ⟨by simp, hB4⟩
                                    · have e1 : decide (t < T) = false := by simpa using htt
                                      have HBX2 : Below wr.heap.size wr wr := Below.refl _ _
                                      clear callB
                                      cases NB with
                                      | false =>
                                        go_wp2_with
                                          (go_at_call 25
                                           refine (HCN.out _ HBX2).mono ?_
                                           rintro e w3 ⟨rfl, hB3⟩)
                                        go_meet
                                        case rel => exact ⟨by simp [htt], hB3⟩
                                      | true =>
                                        go_wp2_with
                                          (go_at_call 25
                                           refine (HCN.out _ HBX2).mono ?_
                                           rintro e w3 ⟨rfl, hB3⟩
                                           have hB4 : Below wr.heap.size wr w3 := HBX2.trans (hB3.mono HBX2.size)
                                           obtain ⟨rg, rgc, _, _, q1, q2, _⟩ := HRL.out l hlN w3 hB4
                                           rw [HFB.out] at q2
                                           have q3 := (hB4.cell (p := ⟨w.heap.size + 1 + 1 + 1, 2, none⟩) hsbl).trans s2
                                           have q4 := (hB4.cell (p := ⟨rk, 0, none⟩) hrkl).trans c0)
                                        go_meet
                                        case rel => exact ⟨by simp [htt], hB4⟩
                                  case rest =>
                                    obtain ⟨rfl, hC⟩ := hcut
                                    have HKc := HK.out.below hC
                                    obtain ⟨rg, rgc, hvy, hrg, q1, q2, q3⟩ := HRL.out y hyN wc hC
                                    have q4 := (hC.cell (p := ⟨w.heap.size + 1 + 1 + 1, 2, none⟩) hsbl).trans s2
                                    have HBc : Hid (Below w.heap.size w wc) := HBw.out.trans (hC.mono HBw.out.size)
                                    have q5 := (HBc.out.cell (p := ⟨sb', so' + k * 2 + 1, none⟩) (World.block_lt_of_cell? w _ HY2.out)).trans HY2.out
                                    have HKc' : Hid (KR ((w.alloc (.cells #[.int .i64 T, .int .i64 N, .slice (some ⟨rb, ro, none⟩) R.length rc] 24)).alloc (.cells #[.slice none 0 0, .slice none 0 0, .slice none 0 0] 65)) (w.heap.size + 2) (w.heap.size + 1 + 1 + 1) T N (.slice na N nc) (.slice fa N fc) (.slice (some ⟨gg, 0, none⟩) N gc) vf vg Nu0 Fi0 rk l (.slice (some ⟨sb', so', none⟩) Rt.length qc) Fo3 wc) := HKc
                                    obtain ⟨_, _, _, _, c2, c3⟩ := HKc
                                    have HVY : Hid (vg y = .slice (some ⟨rg, 0, none⟩) (T + 1) rgc) := hvy
                                    have hgk : rg ≠ rk := HRK'.out y hyN rg (by rw [hvy]; rfl)
                                    have hbc := (HBX.out wc HKc'.out.1).2.1
                                    have e7 : (0 : Int) ≤ (y : Int) := Int.natCast_nonneg _
                                    have e8 : (y : Int) < (N : Int) := by omega
                                    obtain ⟨CC, hCC⟩ : ∃ x, ((decide (t < T) && BB) || (NB && FB)) = x := ⟨_, rfl⟩
                                    rw [hCC]
                                    rw [hCC] at HSt
                                    clear callB s0 s1 s2 sf c0 c1 b0 hC hvy hCC HBw HO HK
                                    cases CC with
                                    | false =>
                                      go_wp2_with fail
                                      go_roundw
                                      case rel => exact ⟨t + 1, by go_num, by omega, by rw [HSt.out]; exact HKc'.out⟩
                                      case measure => simp [intOf]; omega
                                    | true =>
                                      go_wp2_with fail
                                      go_region
                                      all_goals
                                        go_wp2_with fail
                                        go_roundw
                                        case rel =>
                                          obtain ⟨z1, z2, z3, z4, z5, z6⟩ := HKc'.out
                                          exact ⟨t + 1, by go_num, by omega, by
                                            rw [HSt.out]
                                            exact ⟨z1.drew.setCell hrg _, by simp; omega, by rw [if_pos trivial, set2_length]; exact z3, by rw [if_pos trivial]; exact z4.drew.setFollow z3 hyN HVY.out t, by
                                              show (wc.setCell ⟨rg, t, none⟩ (.bool true)).cell? ⟨rk, 0, none⟩ = _
                                              rw [cell_set_other (.inl (fun e => hgk e.symm))]; exact z5, by
                                              show (wc.setCell ⟨rg, t, none⟩ (.bool true)).cell? ⟨rk, 1, none⟩ = _
                                              rw [cell_set_other (.inl (fun e => hgk e.symm))]; exact z6⟩⟩
                                        case measure => simp [intOf]; omega
                                · have HD : Hid (loopN (k + 1) (fun k => followK R Nu0 Fi0 T j k) Fo1 = Fo3) := by
                                    show loopN (k + 1) (fun k => followK R Nu0 Fi0 T j k) Fo1 = Fo3
                                    rw [loopN, HFo2.out, followK, HU.out]
                                    simp only
                                    rw [HSYk.out]
                                    simp only [Bool.false_eq_true, if_false]
                                    rw [← HFo3.out, show t = T + 1 by omega]
                                  go_wp2_with fail
                                  go_roundw
                                  case rel => exact ⟨k + 1, by go_num, by omega, by rw [HD.out]; exact HK.out⟩
                                  case measure => simp [intOf]; omega
                          · have HD : Hid (loopN (j + 1) (fun i => loopN (R.getD i (0, [])).2.length fun k => followK R Nu0 Fi0 T i k) Fo0 = Fo2) := by
                              show loopN (j + 1) (fun i => loopN (R.getD i (0, [])).2.length fun k => followK R Nu0 Fi0 T i k) Fo0 = Fo2
                              rw [loopN, HFo1.out, HU.out, ← HFo2.out, show k = Rt.length by omega]
                            go_wp2_with fail
                            go_roundw
                            case rel =>
                              obtain ⟨h1, h2, h3, h4, _, _⟩ := HK.out
                              exact ⟨j + 1, by go_num, by omega, by rw [HD.out]; exact ⟨h1, h2, HFl.out, h3, _, _, _, _, _, h4⟩⟩
                            case measure => simp [intOf]; omega
                      · have HD : Hid (loopN (m1 + 1) (fun _ => loopN R.length fun i => loopN (R.getD i (0, [])).2.length fun k => followK R Nu0 Fi0 T i k) (set2 (List.replicate N (List.replicate (T + 1) false)) 0 T) = Fo1) := by
                          show loopN (m1 + 1) (fun _ => loopN R.length fun i => loopN (R.getD i (0, [])).2.length fun k => followK R Nu0 Fi0 T i k) (set2 (List.replicate N (List.replicate (T + 1) false)) 0 T) = Fo1
                          rw [loopN, HFo0.out, ← HFo1.out, show j = R.length by omega]
                        go_wp2_with fail
                        go_roundw
                        case rel => exact ⟨m1 + 1, by go_num, by omega, by rw [HD.out]; exact ⟨HB.out, hle, HFl.out, HFol.out, _, _, _, _, _, HO.out⟩⟩
                        case measure => simp [intOf]; omega
                  · have HG1 : Hid (followA R (nullA R N) (firstA R (nullA R N) T N) T N = Fo0) := by
                      show followA R (nullA R N) (firstA R (nullA R N) T N) T N = Fo0
                      unfold followA
                      rw [HF1.out, HN1.out, show N + 1 = m1 by omega]
                      exact HFo0.out
                    obtain ⟨hB, hle, hFl, hFol, nv, fv, gv, vf, vg, hO⟩ := HS1.out
                    have HB : Hid (Below (w.heap.size + 2) ((w.alloc (.cells #[.int .i64 T, .int .i64 N, .slice ra R.length rc] 24)).alloc (.cells #[.slice none 0 0, .slice none 0 0, .slice none 0 0] 65)) wr) := hB
                    have HO : Hid (Owns wr (w.heap.size + 2) (Pset (w.heap.size + 1 + 1 + 1) T N N N nv fv gv vf vg Nu0 Fi0 Fo0)) := hO
                    obtain ⟨s0, s1, s2, sf⟩ := hO.fields
                    obtain ⟨na, nc, rfl⟩ : ∃ a c, nv = .slice a N c := own_form (hO.own .null _ rfl)
                    obtain ⟨fa, fc, rfl⟩ : ∃ a c, fv = .slice a N c := own_form (hO.own .fh _ rfl)
                    obtain ⟨ga, gc, rfl⟩ : ∃ a c, gv = .slice a N c := own_form (hO.own .gh _ rfl)
                    have r0 : wr.cell? ⟨w.heap.size + 1, 0, none⟩ = some (.slice none 0 0) := (hB.cell (by simp)).trans (by simp [go_sem])
                    have r1 : wr.cell? ⟨w.heap.size + 1, 1, none⟩ = some (.slice none 0 0) := (hB.cell (by simp)).trans (by simp [go_sem])
                    have r2 : wr.cell? ⟨w.heap.size + 1, 2, none⟩ = some (.slice none 0 0) := (hB.cell (by simp)).trans (by simp [go_sem])
                    have rf : ∀ o, wr.frozen? ⟨w.heap.size + 1, o, none⟩ = false := fun o => (hB.frozen (by simp)).trans (by simp [go_sem])
                    have HX : Hid (Below w.heap.size w wr) := (HBX.out wr hB).1
                    clear hB hO hFl hFol
                    go_wp2_with fail
                    refine bodyPost_ret (v := .agg #[.slice na N nc, .slice fa N fc, .slice ga N gc]) (by simp [results, Try.results12, go_sem, r0, r1, r2]) rfl ⟨_, _, _, vf, vg, w.heap.size + 1 + 1 + 1, rfl, ?_, ?_⟩
                    · exact ((HX.out.setCell (by simp) _).setCell (by simp) _).setCell (by simp) _
                    · rw [HG1.out, HF1.out, HN1.out]
                      exact ((HO.out.setBelow (by simp) _).setBelow (by simp) _).setBelow (by simp) _

end Go.Proofs.Ytkkcmcckdaobmaa
