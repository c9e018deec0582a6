/- The contract of pollardingref8.one, SLeft. -/
import Derived.Test.YtikjekfpgklbdaaMay8AndOne8Mem
namespace Go.Proofs.Ytikjekfpgklbdaa
open Go.RowKit

set_option maxRecDepth 100000 in
set_option maxHeartbeats 6400000 in
theorem one8_left {w : World} {T N k : Nat} {rv : Value} {R : List Ru} (hr : RulesAt w w.heap.size rv R) (hm : mayB T N R = true) (hk : k < R.length) {a b c : Int} :
    Calls Try.prog 11 #[.agg #[.int .i64 T, .int .i64 N, rv], .agg #[.int .i64 4, .int .i64 a, .int .i64 b, .int .i64 c], .int .i64 k] w fun e w' => ∃ lv RL, e = .returned lv ∧ RlIn w' w.heap.size lv RL ∧ (RL.map fun x => x.2) = oneR N R ⟨4, a, b, c⟩ k ∧ Below w.heap.size w w' := by
  obtain ⟨hT, hN1, hN, hRl, h5⟩ := may_fine hm
  obtain ⟨ra, rc, hrv⟩ := hr.1
  subst hrv
  obtain ⟨⟨L, l⟩, hrule⟩ : ∃ x, R.getD k (0, []) = x := ⟨_, rfl⟩
  have hk5 := h5 k hk
  rw [hrule] at hk5
  simp only at hk5
  have HRu : Hid (R.getD k (0, []) = (L, l)) := hrule
  have HM : Hid (mayB T N R = true) := hm
  have HR : Hid (RulesAt w w.heap.size (.slice ra R.length rc) R) := hr
  obtain ⟨W1, hW1⟩ : ∃ W, (w.alloc (.cells #[.int .i64 T, .int .i64 N, .slice ra R.length rc] 24)).alloc (.cells #[.int .i64 4, .int .i64 a, .int .i64 b, .int .i64 c] 26) = W := ⟨_, rfl⟩
  have hB1 : Below w.heap.size w W1 := by rw [← hW1]; exact ((Below.refl _ _).alloc (Nat.le_refl _) _).alloc (by simp) _
  have hs1 : W1.heap.size = w.heap.size + 2 := by rw [← hW1]; simp
  have HC : Hid (∀ wq, Below W1.heap.size W1 wq → wq.cell? ⟨w.heap.size, 0, none⟩ = some (.int .i64 T) ∧ wq.cell? ⟨w.heap.size, 1, none⟩ = some (.int .i64 N) ∧ wq.cell? ⟨w.heap.size, 2, none⟩ = some (.slice ra R.length rc) ∧ wq.cell? ⟨w.heap.size + 1, 0, none⟩ = some (.int .i64 4) ∧ wq.cell? ⟨w.heap.size + 1, 1, none⟩ = some (.int .i64 a) ∧ wq.cell? ⟨w.heap.size + 1, 2, none⟩ = some (.int .i64 b) ∧ wq.cell? ⟨w.heap.size + 1, 3, none⟩ = some (.int .i64 c) ∧ RulesAt wq w.heap.size (.slice ra R.length rc) R ∧ Below w.heap.size w wq) := fun wq hq => by
    rw [hs1] at hq
    have hB : Below w.heap.size w wq := hB1.trans (hq.mono (by omega))
    rw [← hW1] at hq
    exact ⟨(hq.cell (by simp only; omega)).trans (by simp [go_sem]), (hq.cell (by simp only; omega)).trans (by simp [go_sem]), (hq.cell (by simp only; omega)).trans (by simp [go_sem]), (hq.cell (by simp only; omega)).trans (by simp [go_sem]), (hq.cell (by simp only; omega)).trans (by simp [go_sem]), (hq.cell (by simp only; omega)).trans (by simp [go_sem]), (hq.cell (by simp only; omega)).trans (by simp [go_sem]), hr.below hB, hB⟩
  have HS1 : Hid (W1.heap.size = w.heap.size + 2) := hs1
  have hC1 := HC.out W1.drew ((Below.refl _ _).drew)
  have g2 := hC1.2.2.1
  obtain ⟨b0, o0, rc0, qa, qc, hv, _, k1, k2, hsy⟩ := hC1.2.2.2.2.2.2.2.1.syms hk
  cases hv
  rw [hrule] at k1 k2 hsy
  simp only at k1 k2 hsy
  obtain ⟨n, hn⟩ : ∃ n, l.length = n := ⟨_, rfl⟩
  have hn8 : n ≤ 8 := by rw [← hn]; exact hk5.2.2.1
  rw [hn] at k2 hsy
  have HN : Hid (l.length = n) := hn
  have HSy : Hid (SymsAt W1.drew (.slice qa n qc) l) := hsy
  have i0 : (0 : Int) ≤ (k : Int) := Int.natCast_nonneg _
  have i1 : (k : Int) < (R.length : Int) := by omega
  have HCo : Hid (∀ wq, Below W1.drew.heap.size W1.drew wq → Calls Try.prog 12 #[.slice qa n qc] wq fun e w' => ∃ g d, e = .returned (.slice (some ⟨g, 0, none⟩) n d) ∧ w'.ownsRow wq.heap.size 52 2 (.slice (some ⟨g, 0, none⟩) n d) n (flatY l) ∧ Below wq.heap.size wq w') := fun wq hq => by
    have := copied8_any (HSy.out.same (same_below hq)) (by rw [HN.out]; omega)
    rw [HN.out] at this
    exact this
  have HKeep : Hid (∀ wq p u, Below W1.drew.heap.size W1.drew wq → W1.drew.cell? p = some u → wq.cell? p = some u) := fun wq p u hq hp => (hq.cell (World.block_lt_of_cell? _ _ hp)).trans hp
  have HO : Hid (∀ wq rb g d, Below W1.heap.size W1 wq → wq.cell? ⟨rb, 0, none⟩ = some (.int .i64 L) → wq.cell? ⟨rb, 1, none⟩ = some (.slice (some ⟨g, 0, none⟩) n d) → (∀ o, wq.frozen? ⟨rb, o, none⟩ = false) → wq.ownsRow W1.heap.size 52 2 (.slice (some ⟨g, 0, none⟩) n d) n (flatY l) → g ≠ rb → W1.heap.size ≤ rb → O8 w T N (some ⟨b0, o0, none⟩) rc R ⟨4, a, b, c⟩ rb g d L l wq) := fun wq rb g d hq h1 h2 h3 h4 h6 h7 => by
    obtain ⟨c0, c1, c2, c3, c4, c5, c6, c7, c8⟩ := HC.out wq hq
    rw [HS1.out] at h4 h7
    exact ⟨c0, c1, c2, c3, c4, c5, c6, h1, by rw [HN.out]; exact h2, h3, by rw [HN.out]; exact h4, h6, h7, c7, c8⟩
  clear hr hm hrule hB1 hs1 hC1 hsy hn
  go_enter Try.func11, Try.ntmps11
  go_upto_region 1 with fail
  clear hW1
  go_cut [7] from 18 to 229 (fun s7 wx => ∃ rb g d, s7 = .pointer (some ⟨rb, 0, none⟩) ∧ O8 w T N (some ⟨b0, o0, none⟩) rc R ⟨4, a, b, c⟩ rb g d L l wx)
  case first =>
    refine wp_region_held_any [0, 1, 2, 3, 4, 5, 6, 7, 8, 9, 10, 11] 4 15 (fun w' => w'.cell? ⟨w.heap.size, 2, none⟩ = some (.slice (some ⟨b0, o0, none⟩) R.length rc) ∧ w'.cell? ⟨b0, o0 + k * 2, none⟩ = some (.int .i64 L) ∧ w'.cell? ⟨b0, o0 + k * 2 + 1, none⟩ = some (.slice qa n qc)) (by kernel_rfl) (by kernel_rfl) ⟨g2, k1, k2⟩ ?_
    iterate 12
      refine StillI.con8 (v := ?_) rfl (by rfl) ?_ ?_
      rotate_left
      · intro w' hSw
        obtain ⟨z0, z1, z2⟩ := hSw
        go_simp
        try with_reducible rfl
      simp only [Act.put, List.setIfInBounds_toArray, List.set_cons_zero, List.set_cons_succ]
    rw [StillI]
    have cop := HCo.out W1.drew (Below.refl _ _)
    refine TailA.two (i := 12) (i' := 14) (by kernel_rfl) ⟨_, rfl, fun K hK => ?_⟩ ⟨_, rfl, fun K hK => ?_⟩
    · go_simp
      refine cop.mono ?_
      rintro e w3 ⟨g, d, rfl, hown, hB3⟩
      dsimp only
      have q0 := HKeep.out w3 _ _ hB3 g2
      have q1 := HKeep.out w3 _ _ hB3 k1
      have q2 := HKeep.out w3 _ _ hB3 k2
      refine hK.out _ _ (fun _ => ⟨q0, q1, q2⟩) ?_
      have hBa : Below W1.drew.heap.size W1.drew (w3.alloc (.cells #[.int .i64 0, .slice none 0 0] 44)) := hB3.alloc hB3.size _
      have HF : Hid (O8 w T N (some ⟨b0, o0, none⟩) rc R ⟨4, a, b, c⟩ w3.heap.size g d L l (w3.alloc (.cells #[.int .i64 L, .slice (some ⟨g, 0, none⟩) n d] 44))) := by
        refine HO.out _ _ _ _ ((Below.refl _ _).drew.trans (hB3.alloc hB3.size _)) (by simp [go_sem]) (by simp [go_sem]) (fun o => by simp [go_sem]) (hown.alloc _) (fun e => ?_) hB3.size
        have := (hown.lt g rfl).2
        omega
      clear hK cop hown hB3 k1 k2 g2
      refine TailA.two (i := 13) (i' := 14) (by kernel_rfl) ⟨_, rfl, fun K hK => ?_⟩ ⟨_, rfl, fun K hK => ?_⟩
      · go_simp
        refine hK.out _ _ (fun _ => ⟨q0, q1, q2⟩) ?_
        clear hK
        refine TailA.one (i := 14) (by kernel_rfl) ⟨_, rfl, fun K hK => ?_⟩
        go_simp
        refine hK.out _ _ (fun _ => ⟨?_, ?_, ?_⟩) ?_
        · rw [World.cell?_alloc_past _ _ _ (World.block_lt_of_cell? _ _ q0)]; exact q0
        · rw [World.cell?_alloc_past _ _ _ (World.block_lt_of_cell? _ _ q1)]; exact q1
        · rw [World.cell?_alloc_past _ _ _ (World.block_lt_of_cell? _ _ q2)]; exact q2
        clear hK
        refine TailA.one (i := 15) (by kernel_rfl) ⟨_, rfl, fun K hK => ?_⟩
        go_simp
        refine hK.out _ _ (fun h => absurd h (by omega)) ?_
        clear hK
        refine TailA.end (by kernel_rfl) (NoPanic.normal ?_)
        go_wp2_with fail
        go_meet
        case rel => exact ⟨_, _, _, rfl, HF.out⟩
      · go_simp
        refine hK.out _ _ (fun _ => ⟨?_, ?_, ?_⟩) ?_
        · rw [World.cell?_alloc_past _ _ _ (World.block_lt_of_cell? _ _ q0)]; exact q0
        · rw [World.cell?_alloc_past _ _ _ (World.block_lt_of_cell? _ _ q1)]; exact q1
        · rw [World.cell?_alloc_past _ _ _ (World.block_lt_of_cell? _ _ q2)]; exact q2
        clear hK
        refine TailA.one (i := 13) (by kernel_rfl) ⟨_, rfl, fun K hK => ?_⟩
        go_simp
        refine hK.out _ _ (fun _ => ⟨?_, ?_, ?_⟩) ?_
        · rw [World.cell?_alloc_past _ _ _ (World.block_lt_of_cell? _ _ q0)]; exact q0
        · rw [World.cell?_alloc_past _ _ _ (World.block_lt_of_cell? _ _ q1)]; exact q1
        · rw [World.cell?_alloc_past _ _ _ (World.block_lt_of_cell? _ _ q2)]; exact q2
        clear hK
        refine TailA.one (i := 15) (by kernel_rfl) ⟨_, rfl, fun K hK => ?_⟩
        go_simp
        refine hK.out _ _ (fun h => absurd h (by omega)) ?_
        clear hK
        refine TailA.end (by kernel_rfl) (NoPanic.normal ?_)
        go_wp2_with fail
        go_meet
        case rel => exact ⟨_, _, _, rfl, HF.out⟩
    · go_simp
      have hBa : Below W1.drew.heap.size W1.drew (W1.drew.alloc (.cells #[.int .i64 0, .slice none 0 0] 44)) := (Below.refl _ _).alloc (Nat.le_refl _) _
      have cop2 := HCo.out _ hBa
      refine hK.out _ _ (fun _ => ⟨HKeep.out _ _ _ hBa g2, HKeep.out _ _ _ hBa k1, HKeep.out _ _ _ hBa k2⟩) ?_
      clear hK cop
      refine TailA.one (i := 12) (by kernel_rfl) ⟨_, rfl, fun K hK => ?_⟩
      go_simp
      refine cop2.mono ?_
      rintro e w3 ⟨g, d, rfl, hown, hB3⟩
      dsimp only
      have hB4 : Below W1.drew.heap.size W1.drew w3 := hBa.trans (hB3.mono (by simp))
      have q0 := HKeep.out w3 _ _ hB4 g2
      have q1 := HKeep.out w3 _ _ hB4 k1
      have q2 := HKeep.out w3 _ _ hB4 k2
      have y0 : w3.cell? ⟨W1.heap.size, 0, none⟩ = some (.int .i64 0) := (hB3.cell (by simp)).trans (by simp [go_sem])
      have y1 : w3.cell? ⟨W1.heap.size, 1, none⟩ = some (.slice none 0 0) := (hB3.cell (by simp)).trans (by simp [go_sem])
      have yf : ∀ o, w3.frozen? ⟨W1.heap.size, o, none⟩ = false := fun o => (hB3.frozen (by simp)).trans (by simp [go_sem])
      have yf0 := yf 0
      have yf1 := yf 1
      have hgl := hown.lt g rfl
      simp only [World.size_alloc] at hgl
      have hgd : W1.drew.heap.size = W1.heap.size := rfl
      have HF : Hid (O8 w T N (some ⟨b0, o0, none⟩) rc R ⟨4, a, b, c⟩ W1.heap.size g d L l ((w3.setCell ⟨W1.heap.size, 0, none⟩ (.int .i64 L)).setCell ⟨W1.heap.size, 1, none⟩ (.slice (some ⟨g, 0, none⟩) n d))) := by
        refine HO.out _ _ _ _ ((((Below.refl _ _).drew.trans hB4).setCell (by simp) _).setCell (by simp) _) ?_ ?_ (fun o => ?_) ?_ (fun e => by omega) (Nat.le_refl _)
        · rw [cell_set_other (.inr (by simp))]; exact World.cell?_setCell_same _ _ _ y0
        · exact World.cell?_setCell_same _ _ _ (by rw [cell_set_other (.inr (by simp))]; exact y1)
        · rw [World.frozen?_setCell, World.frozen?_setCell]; exact yf o
        · obtain ⟨z1, ⟨hx, _⟩ | ⟨g', c', cur, e, z2, z3, z4⟩⟩ := hown
          · cases hx
          · refine ⟨z1, .inr ⟨g', c', cur, e, by simp at z2; omega, ?_, z4⟩⟩
            injection e with e1
            injection e1 with e1
            injection e1 with e1
            subst e1
            rw [Below.heap_setCell _ _ _ _ (by simp only; omega), Below.heap_setCell _ _ _ _ (by simp only; omega)]
            exact z3
      refine hK.out _ _ (fun _ => ⟨q0, q1, q2⟩) ?_
      clear hK cop2 hown hB3 hB4 hBa k1 k2 g2 yf
      refine TailA.one (i := 13) (by kernel_rfl) ⟨_, rfl, fun K hK => ?_⟩
      go_simp
      refine hK.out _ _ (fun _ => ⟨q0, q1, q2⟩) ?_
      clear hK
      refine TailA.one (i := 15) (by kernel_rfl) ⟨_, rfl, fun K hK => ?_⟩
      go_simp
      refine hK.out _ _ (fun h => absurd h (by omega)) ?_
      clear hK
      refine TailA.end (by kernel_rfl) (NoPanic.normal ?_)
      go_wp2_with fail
      go_meet
      case rel => exact ⟨_, _, _, rfl, HF.out⟩
  case rest =>
    obtain ⟨rb, g, d, rfl, hO⟩ := hcut
    clear k1 k2 g2 HCo HO HC HSy HKeep
    have hO2 := hO.later ((Below.refl _ _).alloc (Nat.le_refl _) (.cells #[.bool false, .int .i64 N] 52))
    have x0 := hO.g1
    have fb0 : (wc.alloc (.cells #[.bool false, .int .i64 N] 52)).cell? ⟨wc.heap.size, 0, none⟩ = some (.bool false) := by simp [go_sem]
    have fb1 : (wc.alloc (.cells #[.bool false, .int .i64 N] 52)).cell? ⟨wc.heap.size, 1, none⟩ = some (.int .i64 N) := by simp [go_sem]
    obtain ⟨wf, hwf⟩ : ∃ W, wc.alloc (.cells #[.bool false, .int .i64 N] 52) = W := ⟨_, rfl⟩
    obtain ⟨fb, hfb⟩ : ∃ x, wc.heap.size = x := ⟨_, rfl⟩
    rw [hwf] at hO2 fb0 fb1
    rw [hfb] at fb0 fb1
    have HO : Hid (O8 w T N (some ⟨b0, o0, none⟩) rc R ⟨4, a, b, c⟩ rb g d L l wf) := hO2
    have x1 := hO2.s0
    have x2 := hO2.s1
    have x3 := hO2.r0
    have x4 := hO2.r1
    have x5 := hO2.g1
    have x6 := hO2.rf 0
    have x7 := hO2.rf 1
    have hO_lt := hO.lt
    rw [HN.out] at x4
    by_cases hLa : L = a
    · subst hLa
      have e1 : (L == L) = true := by simp
      have ow := own8_any (L := L) hO2.syms
      rw [HN.out] at ow
      obtain ⟨z, hz⟩ : ∃ z, ownR (L, l) = z := ⟨_, rfl⟩
      have HZ : Hid (ownR (L, l) = z) := hz
      rw [hz] at ow
      clear hz hO hO2
      cases z with
      | false =>
        go_upto_region 33 with
          (go_at_call 17; refine ow.mono ?_; rintro e w5 ⟨rfl, hB5⟩
           have hO5 := HO.out.later hB5
           have HO5 : Hid (O8 w T N (some ⟨b0, o0, none⟩) rc R ⟨4, L, b, c⟩ rb g d L l w5) := hO5
           have v0 := (hB5.cell (World.block_lt_of_cell? _ _ fb0)).trans fb0
           have v1 := (hB5.cell (World.block_lt_of_cell? _ _ fb1)).trans fb1
           clear hB5 hO5 ow)
        have u1 : w5.drew.cell? ⟨rb, 1, none⟩ = some (.slice (some ⟨g, 0, none⟩) n d) := by have := HO5.out.r1; rw [HN.out] at this; exact this
        have u2 : w5.drew.cell? ⟨fb, 0, none⟩ = some (.bool false) := v0
        have u3 : w5.drew.cell? ⟨fb, 1, none⟩ = some (.int .i64 N) := v1
        have HS33 : Hid (SymsAt w5.drew (.slice (some ⟨g, 0, none⟩) n d) l) := by have := HO5.out.syms; rw [HN.out] at this; exact this
        have HL33 : Hid (l.length = n) := HN.out
        have HRf : Hid (∀ o, w5.drew.frozen? ⟨rb, o, none⟩ = false) := HO5.out.rf
        have HR0 : Hid (w5.drew.cell? ⟨rb, 0, none⟩ = some (.int .i64 L)) := HO5.out.r0
        have HSz : Hid (w5.heap.size ≤ w5.drew.heap.size) := Nat.le_refl _
        have HKe : Hid (∀ k, k < w5.heap.size → k ≠ rb → w5.drew.heap[k]? = w5.heap[k]?) := fun _ _ _ => rfl
        have HBw : Hid (Below w.heap.size w w5.drew) := HO5.out.below.drew
        clear hwf hfb x0 x1 x2 x3 x4 x5 x6 x7 v0 v1 fb0 fb1
        have cop33 : ∀ wq, Below w5.drew.heap.size w5.drew wq → Calls Try.prog 12 #[.slice (some ⟨g, 0, none⟩) n d] wq fun e w' => ∃ g d, e = .returned (.slice (some ⟨g, 0, none⟩) n d) ∧ w'.ownsRow wq.heap.size 52 2 (.slice (some ⟨g, 0, none⟩) n d) n (flatY l) ∧ Below wq.heap.size wq w' := fun wq hq => by
          have := copied8_any (HS33.out.same (same_below hq)) (by rw [HL33.out]; omega)
          rw [HL33.out] at this
          exact this
        have HC33 : Hid (∀ wq, Below w5.drew.heap.size w5.drew wq → Calls Try.prog 12 #[.slice (some ⟨g, 0, none⟩) n d] wq fun e w' => ∃ g d, e = .returned (.slice (some ⟨g, 0, none⟩) n d) ∧ w'.ownsRow wq.heap.size 52 2 (.slice (some ⟨g, 0, none⟩) n d) n (flatY l) ∧ Below wq.heap.size wq w') := cop33
        clear cop33
        have HKp : Hid (∀ wq p u, Below w5.drew.heap.size w5.drew wq → w5.drew.cell? p = some u → wq.cell? p = some u) := fun wq p u hq hp => (hq.cell (World.block_lt_of_cell? _ _ hp)).trans hp
        obtain ⟨i5, hi5, hz5, hz6, hz7⟩ := info_parts Try.infoSy8
        have hm1 : n + 1 ≤ maxLen := by unfold maxLen; omega
        have hm2 : (n + 1) * 16 ≤ 140737488355328 := by omega
        refine wp_region_held_any [0, 1, 3] 5 7 (fun w' => w'.cell? ⟨rb, 1, none⟩ = some (.slice (some ⟨g, 0, none⟩) n d) ∧ w'.cell? ⟨fb, 0, none⟩ = some (.bool false) ∧ w'.cell? ⟨fb, 1, none⟩ = some (.int .i64 N)) (by kernel_rfl) (by kernel_rfl) ⟨u1, u2, u3⟩ ?_
        iterate 3
          refine StillI.con8 (v := ?_) rfl (by rfl) ?_ ?_
          rotate_left
          · intro w' hSw
            obtain ⟨z0, z1, z2⟩ := hSw
            go_simp
            try with_reducible rfl
          simp only [Act.put, List.setIfInBounds_toArray, List.set_cons_zero, List.set_cons_succ]
        rw [StillI]
        refine TailA.two (i := 2) (i' := 4) (by kernel_rfl) ⟨_, rfl, fun K hK => ?_⟩ ⟨_, rfl, fun K hK => ?_⟩
        · have cp := HC33.out w5.drew (Below.refl _ _)
          go_simp
          refine cp.mono ?_
          rintro e w3 ⟨g3, d3, rfl, hown, hB3⟩
          dsimp only
          refine hK.out _ _ (fun _ => ⟨HKp.out w3 _ _ hB3 u1, HKp.out w3 _ _ hB3 u2, HKp.out w3 _ _ hB3 u3⟩) ?_
          clear hK cp
          have hB4 : Below w5.drew.heap.size w5.drew (w3.alloc (.cells #[.bool false, .int .i64 N] 52)) := hB3.alloc hB3.size _
          have own4 := hown.alloc (.cells #[.bool false, .int .i64 N] 52)
          have hnw := World.news_of_block (cs := #[.bool false, .int .i64 N]) (t := 52) (fr := (0, 0)) (heap_alloc_new w3 (.cells #[.bool false, .int .i64 N] 52))
          refine TailA.one (i := 4) (by kernel_rfl) ⟨_, rfl, fun K hK => ?_⟩
          go_simp
          refine hK.out _ _ (fun _ => ⟨HKp.out _ _ _ hB4 u1, HKp.out _ _ _ hB4 u2, HKp.out _ _ _ hB4 u3⟩) ?_
          clear hK
          refine TailA.one (i := 5) (by kernel_rfl) ⟨_, rfl, fun K hK => ?_⟩
          refine step_append_lies _ rfl _ _ _ rfl w5.drew.heap.size 52 i5 _ 2 16 Try.underlying41 hi5 hz5 hz6 hz7 rfl (by omega) (.slice (some ⟨g3, 0, none⟩) n d3) n (flatY l) rfl own4 ⟨w3.heap.size, 0, none⟩ 1 1 [.bool false, .int .i64 N] rfl rfl hnw (by simp [Value.oneCell']) (by omega) hm1 hm2 hB4.size (w3.heap.size + 1) (by simp) ?_
          intro g6 cap6 w6 hown6 hgrow6 hat6 hlt6
          have hB6 : Below w5.drew.heap.size w5.drew w6 := hB4.grown hgrow6 hB4.size fun k hk => by have := (own4.lt k hk).1; exact this
          have hg6 : w5.drew.heap.size ≤ g6 := (hown6.lt g6 rfl).1
          have t1 := HKp.out w6 _ _ hB6 u1
          have tf1 : w6.frozen? ⟨rb, 1, none⟩ = false := (hB6.frozen (World.block_lt_of_cell? _ _ u1)).trans (HRf.out 1)
          have HFin : Hid (O8 w T N (some ⟨b0, o0, none⟩) rc R ⟨4, L, b, c⟩ rb g6 cap6 L (l ++ [(false, (N : Int))]) (w6.setCell ⟨rb, 1, none⟩ (.slice (some ⟨g6, 0, none⟩) (n + 1) cap6))) := by
            have hz : (l ++ [(false, (N : Int))]).length = n + 1 := by rw [List.length_append, HL33.out]; rfl
            have := HO5.out.setR (w5 := w6) (L' := L) (l' := l ++ [(false, (N : Int))]) (g3 := g6) (d3 := cap6) (u := .slice (some ⟨g, 0, none⟩) n d) (Nat.le_trans HSz.out hB6.size) (fun k hk hne => (hB6.block k (Nat.lt_of_lt_of_le hk HSz.out)).trans (HKe.out k hk hne)) (HBw.out.trans (hB6.mono HBw.out.size)) (HKp.out w6 _ _ hB6 HR0.out) t1 (fun o => (hB6.frozen (p := ⟨rb, o, none⟩) (show rb < _ from World.block_lt_of_cell? _ _ u1)).trans (HRf.out o)) (by rw [hz, flatY_append]; exact hown6) (Nat.le_trans HSz.out hg6)
            rw [hz] at this
            exact this
          refine hK.out _ _ (fun _ => ⟨t1, HKp.out w6 _ _ hB6 u2, HKp.out w6 _ _ hB6 u3⟩) ?_
          have HU2 : Hid (w6.cell? ⟨fb, 0, none⟩ = some (.bool false) ∧ w6.cell? ⟨fb, 1, none⟩ = some (.int .i64 N)) := ⟨HKp.out w6 _ _ hB6 u2, HKp.out w6 _ _ hB6 u3⟩
          clear hK hown6 hgrow6 hat6 hlt6 hB6 hg6 own4 hnw hB4 hown hB3
          refine TailA.one (i := 6) (by kernel_rfl) ⟨_, rfl, fun K hK => ?_⟩
          go_simp
          refine hK.out _ _ (fun _ => ⟨t1, HU2.out.1, HU2.out.2⟩) ?_
          clear hK
          refine TailA.one (i := 7) (by kernel_rfl) ⟨_, rfl, fun K hK => ?_⟩
          go_simp
          refine hK.out _ _ (fun h => absurd h (by omega)) ?_
          clear hK
          refine TailA.end (by kernel_rfl) (NoPanic.normal ?_)
          have f0 := HFin.out.r0
          have f1 := HFin.out.r1
          rw [show (l ++ [(false, (N : Int))]).length = n + 1 by rw [List.length_append, HL33.out]; rfl] at f1
          obtain ⟨W7, hW7⟩ : ∃ W, w6.setCell ⟨rb, 1, none⟩ (.slice (some ⟨g6, 0, none⟩) (n + 1) cap6) = W := ⟨_, rfl⟩
          rw [hW7] at HFin f0 f1 ⊢
          clear hW7 t1 tf1
          go_wp2_with fail
          go_ret
          have ho := HFin.out.out
          rw [show (l ++ [(false, (N : Int))]).length = n + 1 by rw [List.length_append, HL33.out]; rfl] at ho
          first | refine ⟨_, _, rfl, ho.1, ?_, ho.2⟩ | refine ⟨_, rfl, _, ho.1, ?_, ho.2⟩
          unfold oneR
          simp only [HRu.out, HZ.out]
          simp
        · have hBa : Below w5.drew.heap.size w5.drew (w5.drew.alloc (.cells #[.bool false, .int .i64 N] 52)) := (Below.refl _ _).alloc (Nat.le_refl _) _
          have cp := HC33.out _ hBa
          go_simp
          refine hK.out _ _ (fun _ => ⟨HKp.out _ _ _ hBa u1, HKp.out _ _ _ hBa u2, HKp.out _ _ _ hBa u3⟩) ?_
          clear hK
          refine TailA.one (i := 2) (by kernel_rfl) ⟨_, rfl, fun K hK => ?_⟩
          go_simp
          refine cp.mono ?_
          rintro e w3 ⟨g3, d3, rfl, hown, hB3⟩
          dsimp only
          have hB4 : Below w5.drew.heap.size w5.drew w3 := hBa.trans (hB3.mono (by simp))
          refine hK.out _ _ (fun _ => ⟨HKp.out w3 _ _ hB4 u1, HKp.out w3 _ _ hB4 u2, HKp.out w3 _ _ hB4 u3⟩) ?_
          clear hK cp
          have own4 := own_mono hown (show w5.drew.heap.size ≤ (w5.drew.alloc (.cells #[.bool false, .int .i64 N] 52)).heap.size by simp)
          have hnw := World.news_of_block (w := w3) (B := w5.heap.size) (cs := #[.bool false, .int .i64 N]) (t := 52) (fr := (0, 0)) ((hB3.block _ (by simp)).trans (heap_alloc_new w5.drew (.cells #[.bool false, .int .i64 N] 52)))
          refine TailA.one (i := 5) (by kernel_rfl) ⟨_, rfl, fun K hK => ?_⟩
          refine step_append_lies _ rfl _ _ _ rfl w5.drew.heap.size 52 i5 _ 2 16 Try.underlying41 hi5 hz5 hz6 hz7 rfl (by omega) (.slice (some ⟨g3, 0, none⟩) n d3) n (flatY l) rfl own4 ⟨w5.heap.size, 0, none⟩ 1 1 [.bool false, .int .i64 N] rfl rfl hnw (by simp [Value.oneCell']) (by omega) hm1 hm2 hB4.size w3.heap.size rfl ?_
          intro g6 cap6 w6 hown6 hgrow6 hat6 hlt6
          have hB6 : Below w5.drew.heap.size w5.drew w6 := hB4.grown hgrow6 hB4.size fun k hk => by have := (own4.lt k hk).1; exact this
          have hg6 : w5.drew.heap.size ≤ g6 := (hown6.lt g6 rfl).1
          have t1 := HKp.out w6 _ _ hB6 u1
          have tf1 : w6.frozen? ⟨rb, 1, none⟩ = false := (hB6.frozen (World.block_lt_of_cell? _ _ u1)).trans (HRf.out 1)
          have HFin : Hid (O8 w T N (some ⟨b0, o0, none⟩) rc R ⟨4, L, b, c⟩ rb g6 cap6 L (l ++ [(false, (N : Int))]) (w6.setCell ⟨rb, 1, none⟩ (.slice (some ⟨g6, 0, none⟩) (n + 1) cap6))) := by
            have hz : (l ++ [(false, (N : Int))]).length = n + 1 := by rw [List.length_append, HL33.out]; rfl
            have := HO5.out.setR (w5 := w6) (L' := L) (l' := l ++ [(false, (N : Int))]) (g3 := g6) (d3 := cap6) (u := .slice (some ⟨g, 0, none⟩) n d) (Nat.le_trans HSz.out hB6.size) (fun k hk hne => (hB6.block k (Nat.lt_of_lt_of_le hk HSz.out)).trans (HKe.out k hk hne)) (HBw.out.trans (hB6.mono HBw.out.size)) (HKp.out w6 _ _ hB6 HR0.out) t1 (fun o => (hB6.frozen (p := ⟨rb, o, none⟩) (show rb < _ from World.block_lt_of_cell? _ _ u1)).trans (HRf.out o)) (by rw [hz, flatY_append]; exact hown6) (Nat.le_trans HSz.out hg6)
            rw [hz] at this
            exact this
          refine hK.out _ _ (fun _ => ⟨t1, HKp.out w6 _ _ hB6 u2, HKp.out w6 _ _ hB6 u3⟩) ?_
          have HU2 : Hid (w6.cell? ⟨fb, 0, none⟩ = some (.bool false) ∧ w6.cell? ⟨fb, 1, none⟩ = some (.int .i64 N)) := ⟨HKp.out w6 _ _ hB6 u2, HKp.out w6 _ _ hB6 u3⟩
          clear hK hown6 hgrow6 hat6 hlt6 hB6 hg6 own4 hnw hB4 hown hB3
          refine TailA.one (i := 6) (by kernel_rfl) ⟨_, rfl, fun K hK => ?_⟩
          go_simp
          refine hK.out _ _ (fun _ => ⟨t1, HU2.out.1, HU2.out.2⟩) ?_
          clear hK
          refine TailA.one (i := 7) (by kernel_rfl) ⟨_, rfl, fun K hK => ?_⟩
          go_simp
          refine hK.out _ _ (fun h => absurd h (by omega)) ?_
          clear hK
          refine TailA.end (by kernel_rfl) (NoPanic.normal ?_)
          have f0 := HFin.out.r0
          have f1 := HFin.out.r1
          rw [show (l ++ [(false, (N : Int))]).length = n + 1 by rw [List.length_append, HL33.out]; rfl] at f1
          obtain ⟨W7, hW7⟩ : ∃ W, w6.setCell ⟨rb, 1, none⟩ (.slice (some ⟨g6, 0, none⟩) (n + 1) cap6) = W := ⟨_, rfl⟩
          rw [hW7] at HFin f0 f1 ⊢
          clear hW7 t1 tf1
          go_wp2_with fail
          go_ret
          have ho := HFin.out.out
          rw [show (l ++ [(false, (N : Int))]).length = n + 1 by rw [List.length_append, HL33.out]; rfl] at ho
          first | refine ⟨_, _, rfl, ho.1, ?_, ho.2⟩ | refine ⟨_, rfl, _, ho.1, ?_, ho.2⟩
          unfold oneR
          simp only [HRu.out, HZ.out]
          simp
      | true =>
        have hn1 : 0 < n := by
          have := HZ.out
          unfold ownR at this
          simp only [Bool.and_eq_true, decide_eq_true_eq] at this
          rw [← HN.out]
          exact this.1.1
        obtain ⟨n', rfl⟩ : ∃ n', n = 1 + n' := ⟨n - 1, by omega⟩
        obtain ⟨A, hA, hA'⟩ := sy_from (la := some ⟨g, 0, none⟩) (f := 1) (n := n') (sl := 1 + n') (lc := d) (fi := 1) rfl rfl
        have HA' : Hid (d ≠ 1 → A = (some (⟨g, 0, none⟩ : Addr)).map (·.add (1 * 2))) := hA'
        clear hA'
        go_upto_region 33 with
          (go_at_call 17; refine ow.mono ?_; rintro e w5 ⟨rfl, hB5⟩
           have hO5 := HO.out.later hB5
           have HO5 : Hid (O8 w T N (some ⟨b0, o0, none⟩) rc R ⟨4, L, b, c⟩ rb g d L l w5) := hO5
           have v0 := (hB5.cell (World.block_lt_of_cell? _ _ fb0)).trans fb0
           have v1 := (hB5.cell (World.block_lt_of_cell? _ _ fb1)).trans fb1
           have v2 := hO5.g1
           have v3 := hO5.r0
           have v4 := hO5.r1
           rw [HN.out] at v4
           have v5 := hO5.rf 0
           have v6 := hO5.rf 1
           have HFb : Hid (w5.cell? ⟨fb, 0, none⟩ = some (.bool false) ∧ w5.cell? ⟨fb, 1, none⟩ = some (.int .i64 N)) := ⟨v0, v1⟩
           clear hB5 hO5 ow)
        obtain ⟨W6, hW6⟩ : ∃ W, (w5.setCell ⟨rb, 0, none⟩ (.int .i64 N)).setCell ⟨rb, 1, none⟩ (.slice A n' (d - 1)) = W := ⟨_, rfl⟩
        have hfr : fb ≠ rb := fun e => by have h1 := HO.out.lt; have h2 := hO_lt; omega
        have hk6 : ∀ k, k ≠ rb → W6.heap[k]? = w5.heap[k]? := fun k hk => by rw [← hW6, Below.heap_setCell _ _ _ _ hk, Below.heap_setCell _ _ _ _ hk]
        have u1 : W6.drew.cell? ⟨rb, 1, none⟩ = some (.slice A n' (d - 1)) := by
          rw [← hW6]
          exact World.cell?_setCell_same _ _ _ (by rw [cell_set_other (.inr (by simp))]; exact v4)
        have u2 : W6.drew.cell? ⟨fb, 0, none⟩ = some (.bool false) := (World.cell?_of_block (w := w5) (a := ⟨fb, 0, none⟩) (hk6 fb hfr)).trans HFb.out.1
        have u3 : W6.drew.cell? ⟨fb, 1, none⟩ = some (.int .i64 N) := (World.cell?_of_block (w := w5) (a := ⟨fb, 1, none⟩) (hk6 fb hfr)).trans HFb.out.2
        have HS33 : Hid (SymsAt W6.drew (.slice A n' (d - 1)) (l.drop 1)) := by
          have h1 : SyHas W6 (fun _ => True) (.slice (some ⟨g, 0, none⟩) l.length d) l := (own_syIn HO5.out.own).kept (by rw [← hW6]; simp) fun b hA _ => ⟨hk6 b (fun e => by
            simp only [Value.ownBlock, Option.some.injEq] at hA
            exact HO5.out.ne (by omega)), trivial⟩
          exact h1.syms.drop8 HN.out HA'.out
        have HL33 : Hid ((l.drop 1).length = n') := by show (l.drop 1).length = n'; rw [List.length_drop, HN.out]; omega
        have HRf : Hid (∀ o, W6.drew.frozen? ⟨rb, o, none⟩ = false) := fun o => by rw [← hW6]; show ((w5.setCell ⟨rb, 0, none⟩ (.int .i64 N)).setCell ⟨rb, 1, none⟩ (.slice A n' (d - 1))).frozen? ⟨rb, o, none⟩ = false; rw [World.frozen?_setCell, World.frozen?_setCell]; exact HO5.out.rf o
        have HR0 : Hid (W6.drew.cell? ⟨rb, 0, none⟩ = some (.int .i64 N)) := by
          show W6.drew.cell? ⟨rb, 0, none⟩ = some (.int .i64 N)
          rw [← hW6]
          show ((w5.setCell ⟨rb, 0, none⟩ (.int .i64 N)).setCell ⟨rb, 1, none⟩ (.slice A n' (d - 1))).cell? ⟨rb, 0, none⟩ = _
          rw [cell_set_other (.inr (by simp))]
          exact World.cell?_setCell_same _ _ _ v3
        have HSz : Hid (w5.heap.size ≤ W6.drew.heap.size) := by show w5.heap.size ≤ W6.drew.heap.size; rw [← hW6]; simp
        have HKe : Hid (∀ k, k < w5.heap.size → k ≠ rb → W6.drew.heap[k]? = w5.heap[k]?) := fun k _ hk => hk6 k hk
        have HBw : Hid (Below w.heap.size w W6.drew) := by
          show Below w.heap.size w W6.drew
          have hlo := HO5.out.rlo
          rw [← hW6]
          exact ((HO5.out.below.setCell (by simp only; omega) _).setCell (by simp only; omega) _).drew
        rw [hW6]
        clear hwf hfb x0 x1 x2 x3 x4 x5 x6 x7 v0 v1 v2 v3 v4 v5 v6 fb0 fb1 hW6 hk6 hA
        have cop33 : ∀ wq, Below W6.drew.heap.size W6.drew wq → Calls Try.prog 12 #[.slice A n' (d - 1)] wq fun e w' => ∃ g d, e = .returned (.slice (some ⟨g, 0, none⟩) n' d) ∧ w'.ownsRow wq.heap.size 52 2 (.slice (some ⟨g, 0, none⟩) n' d) n' (flatY (l.drop 1)) ∧ Below wq.heap.size wq w' := fun wq hq => by
          have := copied8_any (HS33.out.same (same_below hq)) (by rw [HL33.out]; omega)
          rw [HL33.out] at this
          exact this
        have HC33 : Hid (∀ wq, Below W6.drew.heap.size W6.drew wq → Calls Try.prog 12 #[.slice A n' (d - 1)] wq fun e w' => ∃ g d, e = .returned (.slice (some ⟨g, 0, none⟩) n' d) ∧ w'.ownsRow wq.heap.size 52 2 (.slice (some ⟨g, 0, none⟩) n' d) n' (flatY (l.drop 1)) ∧ Below wq.heap.size wq w') := cop33
        clear cop33
        have HKp : Hid (∀ wq p u, Below W6.drew.heap.size W6.drew wq → W6.drew.cell? p = some u → wq.cell? p = some u) := fun wq p u hq hp => (hq.cell (World.block_lt_of_cell? _ _ hp)).trans hp
        obtain ⟨i5, hi5, hz5, hz6, hz7⟩ := info_parts Try.infoSy8
        have hm1 : n' + 1 ≤ maxLen := by unfold maxLen; omega
        have hm2 : (n' + 1) * 16 ≤ 140737488355328 := by omega
        refine wp_region_held_any [0, 1, 3] 5 7 (fun w' => w'.cell? ⟨rb, 1, none⟩ = some (.slice A n' (d - 1)) ∧ w'.cell? ⟨fb, 0, none⟩ = some (.bool false) ∧ w'.cell? ⟨fb, 1, none⟩ = some (.int .i64 N)) (by kernel_rfl) (by kernel_rfl) ⟨u1, u2, u3⟩ ?_
        iterate 3
          refine StillI.con8 (v := ?_) rfl (by rfl) ?_ ?_
          rotate_left
          · intro w' hSw
            obtain ⟨z0, z1, z2⟩ := hSw
            go_simp
            try with_reducible rfl
          simp only [Act.put, List.setIfInBounds_toArray, List.set_cons_zero, List.set_cons_succ]
        rw [StillI]
        refine TailA.two (i := 2) (i' := 4) (by kernel_rfl) ⟨_, rfl, fun K hK => ?_⟩ ⟨_, rfl, fun K hK => ?_⟩
        · have cp := HC33.out W6.drew (Below.refl _ _)
          go_simp
          refine cp.mono ?_
          rintro e w3 ⟨g3, d3, rfl, hown, hB3⟩
          dsimp only
          refine hK.out _ _ (fun _ => ⟨HKp.out w3 _ _ hB3 u1, HKp.out w3 _ _ hB3 u2, HKp.out w3 _ _ hB3 u3⟩) ?_
          clear hK cp
          have hB4 : Below W6.drew.heap.size W6.drew (w3.alloc (.cells #[.bool false, .int .i64 N] 52)) := hB3.alloc hB3.size _
          have own4 := hown.alloc (.cells #[.bool false, .int .i64 N] 52)
          have hnw := World.news_of_block (cs := #[.bool false, .int .i64 N]) (t := 52) (fr := (0, 0)) (heap_alloc_new w3 (.cells #[.bool false, .int .i64 N] 52))
          refine TailA.one (i := 4) (by kernel_rfl) ⟨_, rfl, fun K hK => ?_⟩
          go_simp
          refine hK.out _ _ (fun _ => ⟨HKp.out _ _ _ hB4 u1, HKp.out _ _ _ hB4 u2, HKp.out _ _ _ hB4 u3⟩) ?_
          clear hK
          refine TailA.one (i := 5) (by kernel_rfl) ⟨_, rfl, fun K hK => ?_⟩
          refine step_append_lies _ rfl _ _ _ rfl W6.drew.heap.size 52 i5 _ 2 16 Try.underlying41 hi5 hz5 hz6 hz7 rfl (by omega) (.slice (some ⟨g3, 0, none⟩) n' d3) n' (flatY (l.drop 1)) rfl own4 ⟨w3.heap.size, 0, none⟩ 1 1 [.bool false, .int .i64 N] rfl rfl hnw (by simp [Value.oneCell']) (by omega) hm1 hm2 hB4.size (w3.heap.size + 1) (by simp) ?_
          intro g6 cap6 w6 hown6 hgrow6 hat6 hlt6
          have hB6 : Below W6.drew.heap.size W6.drew w6 := hB4.grown hgrow6 hB4.size fun k hk => by have := (own4.lt k hk).1; exact this
          have hg6 : W6.drew.heap.size ≤ g6 := (hown6.lt g6 rfl).1
          have t1 := HKp.out w6 _ _ hB6 u1
          have tf1 : w6.frozen? ⟨rb, 1, none⟩ = false := (hB6.frozen (World.block_lt_of_cell? _ _ u1)).trans (HRf.out 1)
          have HFin : Hid (O8 w T N (some ⟨b0, o0, none⟩) rc R ⟨4, L, b, c⟩ rb g6 cap6 (N : Int) ((l.drop 1) ++ [(false, (N : Int))]) (w6.setCell ⟨rb, 1, none⟩ (.slice (some ⟨g6, 0, none⟩) (n' + 1) cap6))) := by
            have hz : ((l.drop 1) ++ [(false, (N : Int))]).length = n' + 1 := by rw [List.length_append, HL33.out]; rfl
            have := HO5.out.setR (w5 := w6) (L' := (N : Int)) (l' := (l.drop 1) ++ [(false, (N : Int))]) (g3 := g6) (d3 := cap6) (u := .slice A n' (d - 1)) (Nat.le_trans HSz.out hB6.size) (fun k hk hne => (hB6.block k (Nat.lt_of_lt_of_le hk HSz.out)).trans (HKe.out k hk hne)) (HBw.out.trans (hB6.mono HBw.out.size)) (HKp.out w6 _ _ hB6 HR0.out) t1 (fun o => (hB6.frozen (p := ⟨rb, o, none⟩) (show rb < _ from World.block_lt_of_cell? _ _ u1)).trans (HRf.out o)) (by rw [hz, flatY_append]; exact hown6) (Nat.le_trans HSz.out hg6)
            rw [hz] at this
            exact this
          refine hK.out _ _ (fun _ => ⟨t1, HKp.out w6 _ _ hB6 u2, HKp.out w6 _ _ hB6 u3⟩) ?_
          have HU2 : Hid (w6.cell? ⟨fb, 0, none⟩ = some (.bool false) ∧ w6.cell? ⟨fb, 1, none⟩ = some (.int .i64 N)) := ⟨HKp.out w6 _ _ hB6 u2, HKp.out w6 _ _ hB6 u3⟩
          clear hK hown6 hgrow6 hat6 hlt6 hB6 hg6 own4 hnw hB4 hown hB3
          refine TailA.one (i := 6) (by kernel_rfl) ⟨_, rfl, fun K hK => ?_⟩
          go_simp
          refine hK.out _ _ (fun _ => ⟨t1, HU2.out.1, HU2.out.2⟩) ?_
          clear hK
          refine TailA.one (i := 7) (by kernel_rfl) ⟨_, rfl, fun K hK => ?_⟩
          go_simp
          refine hK.out _ _ (fun h => absurd h (by omega)) ?_
          clear hK
          refine TailA.end (by kernel_rfl) (NoPanic.normal ?_)
          have f0 := HFin.out.r0
          have f1 := HFin.out.r1
          rw [show ((l.drop 1) ++ [(false, (N : Int))]).length = n' + 1 by rw [List.length_append, HL33.out]; rfl] at f1
          obtain ⟨W7, hW7⟩ : ∃ W, w6.setCell ⟨rb, 1, none⟩ (.slice (some ⟨g6, 0, none⟩) (n' + 1) cap6) = W := ⟨_, rfl⟩
          rw [hW7] at HFin f0 f1 ⊢
          clear hW7 t1 tf1
          go_wp2_with fail
          go_ret
          have ho := HFin.out.out
          rw [show ((l.drop 1) ++ [(false, (N : Int))]).length = n' + 1 by rw [List.length_append, HL33.out]; rfl] at ho
          first | refine ⟨_, _, rfl, ho.1, ?_, ho.2⟩ | refine ⟨_, rfl, _, ho.1, ?_, ho.2⟩
          unfold oneR
          simp only [HRu.out, HZ.out]
          simp
        · have hBa : Below W6.drew.heap.size W6.drew (W6.drew.alloc (.cells #[.bool false, .int .i64 N] 52)) := (Below.refl _ _).alloc (Nat.le_refl _) _
          have cp := HC33.out _ hBa
          go_simp
          refine hK.out _ _ (fun _ => ⟨HKp.out _ _ _ hBa u1, HKp.out _ _ _ hBa u2, HKp.out _ _ _ hBa u3⟩) ?_
          clear hK
          refine TailA.one (i := 2) (by kernel_rfl) ⟨_, rfl, fun K hK => ?_⟩
          go_simp
          refine cp.mono ?_
          rintro e w3 ⟨g3, d3, rfl, hown, hB3⟩
          dsimp only
          have hB4 : Below W6.drew.heap.size W6.drew w3 := hBa.trans (hB3.mono (by simp))
          refine hK.out _ _ (fun _ => ⟨HKp.out w3 _ _ hB4 u1, HKp.out w3 _ _ hB4 u2, HKp.out w3 _ _ hB4 u3⟩) ?_
          clear hK cp
          have own4 := own_mono hown (show W6.drew.heap.size ≤ (W6.drew.alloc (.cells #[.bool false, .int .i64 N] 52)).heap.size by simp)
          have hnw := World.news_of_block (w := w3) (B := W6.heap.size) (cs := #[.bool false, .int .i64 N]) (t := 52) (fr := (0, 0)) ((hB3.block _ (by simp)).trans (heap_alloc_new W6.drew (.cells #[.bool false, .int .i64 N] 52)))
          refine TailA.one (i := 5) (by kernel_rfl) ⟨_, rfl, fun K hK => ?_⟩
          refine step_append_lies _ rfl _ _ _ rfl W6.drew.heap.size 52 i5 _ 2 16 Try.underlying41 hi5 hz5 hz6 hz7 rfl (by omega) (.slice (some ⟨g3, 0, none⟩) n' d3) n' (flatY (l.drop 1)) rfl own4 ⟨W6.heap.size, 0, none⟩ 1 1 [.bool false, .int .i64 N] rfl rfl hnw (by simp [Value.oneCell']) (by omega) hm1 hm2 hB4.size w3.heap.size rfl ?_
          intro g6 cap6 w6 hown6 hgrow6 hat6 hlt6
          have hB6 : Below W6.drew.heap.size W6.drew w6 := hB4.grown hgrow6 hB4.size fun k hk => by have := (own4.lt k hk).1; exact this
          have hg6 : W6.drew.heap.size ≤ g6 := (hown6.lt g6 rfl).1
          have t1 := HKp.out w6 _ _ hB6 u1
          have tf1 : w6.frozen? ⟨rb, 1, none⟩ = false := (hB6.frozen (World.block_lt_of_cell? _ _ u1)).trans (HRf.out 1)
          have HFin : Hid (O8 w T N (some ⟨b0, o0, none⟩) rc R ⟨4, L, b, c⟩ rb g6 cap6 (N : Int) ((l.drop 1) ++ [(false, (N : Int))]) (w6.setCell ⟨rb, 1, none⟩ (.slice (some ⟨g6, 0, none⟩) (n' + 1) cap6))) := by
            have hz : ((l.drop 1) ++ [(false, (N : Int))]).length = n' + 1 := by rw [List.length_append, HL33.out]; rfl
            have := HO5.out.setR (w5 := w6) (L' := (N : Int)) (l' := (l.drop 1) ++ [(false, (N : Int))]) (g3 := g6) (d3 := cap6) (u := .slice A n' (d - 1)) (Nat.le_trans HSz.out hB6.size) (fun k hk hne => (hB6.block k (Nat.lt_of_lt_of_le hk HSz.out)).trans (HKe.out k hk hne)) (HBw.out.trans (hB6.mono HBw.out.size)) (HKp.out w6 _ _ hB6 HR0.out) t1 (fun o => (hB6.frozen (p := ⟨rb, o, none⟩) (show rb < _ from World.block_lt_of_cell? _ _ u1)).trans (HRf.out o)) (by rw [hz, flatY_append]; exact hown6) (Nat.le_trans HSz.out hg6)
            rw [hz] at this
            exact this
          refine hK.out _ _ (fun _ => ⟨t1, HKp.out w6 _ _ hB6 u2, HKp.out w6 _ _ hB6 u3⟩) ?_
          have HU2 : Hid (w6.cell? ⟨fb, 0, none⟩ = some (.bool false) ∧ w6.cell? ⟨fb, 1, none⟩ = some (.int .i64 N)) := ⟨HKp.out w6 _ _ hB6 u2, HKp.out w6 _ _ hB6 u3⟩
          clear hK hown6 hgrow6 hat6 hlt6 hB6 hg6 own4 hnw hB4 hown hB3
          refine TailA.one (i := 6) (by kernel_rfl) ⟨_, rfl, fun K hK => ?_⟩
          go_simp
          refine hK.out _ _ (fun _ => ⟨t1, HU2.out.1, HU2.out.2⟩) ?_
          clear hK
          refine TailA.one (i := 7) (by kernel_rfl) ⟨_, rfl, fun K hK => ?_⟩
          go_simp
          refine hK.out _ _ (fun h => absurd h (by omega)) ?_
          clear hK
          refine TailA.end (by kernel_rfl) (NoPanic.normal ?_)
          have f0 := HFin.out.r0
          have f1 := HFin.out.r1
          rw [show ((l.drop 1) ++ [(false, (N : Int))]).length = n' + 1 by rw [List.length_append, HL33.out]; rfl] at f1
          obtain ⟨W7, hW7⟩ : ∃ W, w6.setCell ⟨rb, 1, none⟩ (.slice (some ⟨g6, 0, none⟩) (n' + 1) cap6) = W := ⟨_, rfl⟩
          rw [hW7] at HFin f0 f1 ⊢
          clear hW7 t1 tf1
          go_wp2_with fail
          go_ret
          have ho := HFin.out.out
          rw [show ((l.drop 1) ++ [(false, (N : Int))]).length = n' + 1 by rw [List.length_append, HL33.out]; rfl] at ho
          first | refine ⟨_, _, rfl, ho.1, ?_, ho.2⟩ | refine ⟨_, rfl, _, ho.1, ?_, ho.2⟩
          unfold oneR
          simp only [HRu.out, HZ.out]
          simp
    · have e1 : (L == a) = false := by simpa using hLa
      have HLa : Hid (¬ L = a) := hLa
      clear hLa hO hO2
      go_wp2_with fail
      go_ret
      have ho := HO.out.out
      rw [HN.out] at ho
      first | refine ⟨_, _, rfl, ho.1, ?_, ho.2⟩ | refine ⟨_, rfl, _, ho.1, ?_, ho.2⟩
      unfold oneR
      simp only [HRu.out, HLa.out]
      simp

end Go.Proofs.Ytikjekfpgklbdaa
