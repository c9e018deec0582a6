/- The contract of pollardingref8.one, SPrune. -/
import Derived.Test.YtbpbhlmbcegmoaaMay8AndOne8Mem
namespace Go.Proofs.Ytbpbhlmbcegmoaa
open Go.RowKit

set_option maxRecDepth 100000 in
set_option maxHeartbeats 6400000 in
theorem one8_prune {w : World} {T N k : Nat} {rv : Value} {R : List Ru} (hr : RulesAt w w.heap.size rv R) (hm : mayB T N R = true) (hk : k < R.length) {a b c : Int} :
    Calls Try.prog 10 #[.agg #[.int .i64 T, .int .i64 N, rv], .agg #[.int .i64 5, .int .i64 a, .int .i64 b, .int .i64 c], .int .i64 k] w fun e w' => ∃ lv RL, e = .returned lv ∧ RlIn w' w.heap.size lv RL ∧ (RL.map fun x => x.2) = oneR N R ⟨5, a, b, c⟩ k ∧ Below w.heap.size w w' := by
  obtain ⟨hT, hN1, hN, hRl, h5⟩ := may_fine hm
  obtain ⟨ra, rc, hrv⟩ := hr.1
  subst hrv
  obtain ⟨⟨L, l⟩, hrule⟩ : ∃ x, R.getD k (0, []) = x := ⟨_, rfl⟩
  have hk5 := h5 k hk
  rw [hrule] at hk5
  simp only at hk5
  have HRu : Hid (R.getD k (0, []) = (L, l)) := hrule
  have HM : Hid (mayB T N R = true) := hm
  have HR : Hid (RulesAt w w.heap.size (.slice ra R.length rc) R) := hr
  obtain ⟨W1, hW1⟩ : ∃ W, (w.alloc (.cells #[.int .i64 T, .int .i64 N, .slice ra R.length rc] 24)).alloc (.cells #[.int .i64 5, .int .i64 a, .int .i64 b, .int .i64 c] 26) = W := ⟨_, rfl⟩
  have hB1 : Below w.heap.size w W1 := by rw [← hW1]; exact ((Below.refl _ _).alloc (Nat.le_refl _) _).alloc (by simp) _
  have hs1 : W1.heap.size = w.heap.size + 2 := by rw [← hW1]; simp
  have HC : Hid (∀ wq, Below W1.heap.size W1 wq → wq.cell? ⟨w.heap.size, 0, none⟩ = some (.int .i64 T) ∧ wq.cell? ⟨w.heap.size, 1, none⟩ = some (.int .i64 N) ∧ wq.cell? ⟨w.heap.size, 2, none⟩ = some (.slice ra R.length rc) ∧ wq.cell? ⟨w.heap.size + 1, 0, none⟩ = some (.int .i64 5) ∧ wq.cell? ⟨w.heap.size + 1, 1, none⟩ = some (.int .i64 a) ∧ wq.cell? ⟨w.heap.size + 1, 2, none⟩ = some (.int .i64 b) ∧ wq.cell? ⟨w.heap.size + 1, 3, none⟩ = some (.int .i64 c) ∧ RulesAt wq w.heap.size (.slice ra R.length rc) R ∧ Below w.heap.size w wq) := fun wq hq => by
    rw [hs1] at hq
    have hB : Below w.heap.size w wq := hB1.trans (hq.mono (by omega))
    rw [← hW1] at hq
    exact ⟨(hq.cell (by simp only; omega)).trans (by simp [go_sem]), (hq.cell (by simp only; omega)).trans (by simp [go_sem]), (hq.cell (by simp only; omega)).trans (by simp [go_sem]), (hq.cell (by simp only; omega)).trans (by simp [go_sem]), (hq.cell (by simp only; omega)).trans (by simp [go_sem]), (hq.cell (by simp only; omega)).trans (by simp [go_sem]), (hq.cell (by simp only; omega)).trans (by simp [go_sem]), hr.below hB, hB⟩
  have HS1 : Hid (W1.heap.size = w.heap.size + 2) := hs1
  have hC1 := HC.out W1.drew ((Below.refl _ _).drew)
  have g2 := hC1.2.2.1
  obtain ⟨b0, o0, rc0, qa, qc, hv, _, k1, k2, hsy⟩ := hC1.2.2.2.2.2.2.2.1.syms hk
  cases hv
  rw [hrule] at k1 k2 hsy
  simp only at k1 k2 hsy
  obtain ⟨n, hn⟩ : ∃ n, l.length = n := ⟨_, rfl⟩
  have hn8 : n ≤ 8 := by rw [← hn]; exact hk5.2.2.1
  rw [hn] at k2 hsy
  have HN : Hid (l.length = n) := hn
  have HSy : Hid (SymsAt W1.drew (.slice qa n qc) l) := hsy
  have i0 : (0 : Int) ≤ (k : Int) := Int.natCast_nonneg _
  have i1 : (k : Int) < (R.length : Int) := by omega
  have HCo : Hid (∀ wq, Below W1.drew.heap.size W1.drew wq → Calls Try.prog 11 #[.slice qa n qc] wq fun e w' => ∃ g d, e = .returned (.slice (some ⟨g, 0, none⟩) n d) ∧ w'.ownsRow wq.heap.size 43 2 (.slice (some ⟨g, 0, none⟩) n d) n (flatY l) ∧ Below wq.heap.size wq w') := fun wq hq => by
    have := copied8_any (HSy.out.same (same_below hq)) (by rw [HN.out]; omega)
    rw [HN.out] at this
    exact this
  have HKeep : Hid (∀ wq p u, Below W1.drew.heap.size W1.drew wq → W1.drew.cell? p = some u → wq.cell? p = some u) := fun wq p u hq hp => (hq.cell (World.block_lt_of_cell? _ _ hp)).trans hp
  have HO : Hid (∀ wq rb g d, Below W1.heap.size W1 wq → wq.cell? ⟨rb, 0, none⟩ = some (.int .i64 L) → wq.cell? ⟨rb, 1, none⟩ = some (.slice (some ⟨g, 0, none⟩) n d) → (∀ o, wq.frozen? ⟨rb, o, none⟩ = false) → wq.ownsRow W1.heap.size 43 2 (.slice (some ⟨g, 0, none⟩) n d) n (flatY l) → g ≠ rb → W1.heap.size ≤ rb → O8 w T N (some ⟨b0, o0, none⟩) rc R ⟨5, a, b, c⟩ rb g d L l wq) := fun wq rb g d hq h1 h2 h3 h4 h6 h7 => by
    obtain ⟨c0, c1, c2, c3, c4, c5, c6, c7, c8⟩ := HC.out wq hq
    rw [HS1.out] at h4 h7
    exact ⟨c0, c1, c2, c3, c4, c5, c6, h1, by rw [HN.out]; exact h2, h3, by rw [HN.out]; exact h4, h6, h7, c7, c8⟩
  clear hr hm hrule hB1 hs1 hC1 hsy hn
  go_enter Try.func10, Try.ntmps10
  go_upto_region 1 with fail
  clear hW1
  go_cut [7] from 18 to 229 (fun s7 wx => ∃ rb g d, s7 = .pointer (some ⟨rb, 0, none⟩) ∧ O8 w T N (some ⟨b0, o0, none⟩) rc R ⟨5, a, b, c⟩ rb g d L l wx)
  case first =>
    refine wp_region_held_any [0, 1, 2, 3, 4, 5, 6, 7, 8, 9, 10, 11] 4 15 (fun w' => w'.cell? ⟨w.heap.size, 2, none⟩ = some (.slice (some ⟨b0, o0, none⟩) R.length rc) ∧ w'.cell? ⟨b0, o0 + k * 2, none⟩ = some (.int .i64 L) ∧ w'.cell? ⟨b0, o0 + k * 2 + 1, none⟩ = some (.slice qa n qc)) (by kernel_rfl) (by kernel_rfl) ⟨g2, k1, k2⟩ ?_
    iterate 12
      refine StillI.con8 (v := ?_) rfl (by rfl) ?_ ?_
      rotate_left
      · intro w' hSw
        obtain ⟨z0, z1, z2⟩ := hSw
        go_simp
        try with_reducible rfl
      simp only [Act.put, List.setIfInBounds_toArray, List.set_cons_zero, List.set_cons_succ]
    rw [StillI]
    have cop := HCo.out W1.drew (Below.refl _ _)
    refine TailA.two (i := 12) (i' := 14) (by kernel_rfl) ⟨_, rfl, fun K hK => ?_⟩ ⟨_, rfl, fun K hK => ?_⟩
    · go_simp
      refine cop.mono ?_
      rintro e w3 ⟨g, d, rfl, hown, hB3⟩
      dsimp only
      have q0 := HKeep.out w3 _ _ hB3 g2
      have q1 := HKeep.out w3 _ _ hB3 k1
      have q2 := HKeep.out w3 _ _ hB3 k2
      refine hK.out _ _ (fun _ => ⟨q0, q1, q2⟩) ?_
      have hBa : Below W1.drew.heap.size W1.drew (w3.alloc (.cells #[.int .i64 0, .slice none 0 0] 41)) := hB3.alloc hB3.size _
      have HF : Hid (O8 w T N (some ⟨b0, o0, none⟩) rc R ⟨5, a, b, c⟩ w3.heap.size g d L l (w3.alloc (.cells #[.int .i64 L, .slice (some ⟨g, 0, none⟩) n d] 41))) := by
        refine HO.out _ _ _ _ ((Below.refl _ _).drew.trans (hB3.alloc hB3.size _)) (by simp [go_sem]) (by simp [go_sem]) (fun o => by simp [go_sem]) (hown.alloc _) (fun e => ?_) hB3.size
        have := (hown.lt g rfl).2
        omega
      clear hK cop hown hB3 k1 k2 g2
      refine TailA.two (i := 13) (i' := 14) (by kernel_rfl) ⟨_, rfl, fun K hK => ?_⟩ ⟨_, rfl, fun K hK => ?_⟩
      · go_simp
        refine hK.out _ _ (fun _ => ⟨q0, q1, q2⟩) ?_
        clear hK
        refine TailA.one (i := 14) (by kernel_rfl) ⟨_, rfl, fun K hK => ?_⟩
        go_simp
        refine hK.out _ _ (fun _ => ⟨?_, ?_, ?_⟩) ?_
        · rw [World.cell?_alloc_past _ _ _ (World.block_lt_of_cell? _ _ q0)]; exact q0
        · rw [World.cell?_alloc_past _ _ _ (World.block_lt_of_cell? _ _ q1)]; exact q1
        · rw [World.cell?_alloc_past _ _ _ (World.block_lt_of_cell? _ _ q2)]; exact q2
        clear hK
        refine TailA.one (i := 15) (by kernel_rfl) ⟨_, rfl, fun K hK => ?_⟩
        go_simp
        refine hK.out _ _ (fun h => absurd h (by omega)) ?_
        clear hK
        refine TailA.end (by kernel_rfl) (NoPanic.normal ?_)
        go_wp2_with fail
        go_meet
        case rel => exact ⟨_, _, _, rfl, HF.out⟩
      · go_simp
        refine hK.out _ _ (fun _ => ⟨?_, ?_, ?_⟩) ?_
        · rw [World.cell?_alloc_past _ _ _ (World.block_lt_of_cell? _ _ q0)]; exact q0
        · rw [World.cell?_alloc_past _ _ _ (World.block_lt_of_cell? _ _ q1)]; exact q1
        · rw [World.cell?_alloc_past _ _ _ (World.block_lt_of_cell? _ _ q2)]; exact q2
        clear hK
        refine TailA.one (i := 13) (by kernel_rfl) ⟨_, rfl, fun K hK => ?_⟩
        go_simp
        refine hK.out _ _ (fun _ => ⟨?_, ?_, ?_⟩) ?_
        · rw [World.cell?_alloc_past _ _ _ (World.block_lt_of_cell? _ _ q0)]; exact q0
        · rw [World.cell?_alloc_past _ _ _ (World.block_lt_of_cell? _ _ q1)]; exact q1
        · rw [World.cell?_alloc_past _ _ _ (World.block_lt_of_cell? _ _ q2)]; exact q2
        clear hK
        refine TailA.one (i := 15) (by kernel_rfl) ⟨_, rfl, fun K hK => ?_⟩
        go_simp
        refine hK.out _ _ (fun h => absurd h (by omega)) ?_
        clear hK
        refine TailA.end (by kernel_rfl) (NoPanic.normal ?_)
        go_wp2_with fail
        go_meet
        case rel => exact ⟨_, _, _, rfl, HF.out⟩
    · go_simp
      have hBa : Below W1.drew.heap.size W1.drew (W1.drew.alloc (.cells #[.int .i64 0, .slice none 0 0] 41)) := (Below.refl _ _).alloc (Nat.le_refl _) _
      have cop2 := HCo.out _ hBa
      refine hK.out _ _ (fun _ => ⟨HKeep.out _ _ _ hBa g2, HKeep.out _ _ _ hBa k1, HKeep.out _ _ _ hBa k2⟩) ?_
      clear hK cop
      refine TailA.one (i := 12) (by kernel_rfl) ⟨_, rfl, fun K hK => ?_⟩
      go_simp
      refine cop2.mono ?_
      rintro e w3 ⟨g, d, rfl, hown, hB3⟩
      dsimp only
      have hB4 : Below W1.drew.heap.size W1.drew w3 := hBa.trans (hB3.mono (by simp))
      have q0 := HKeep.out w3 _ _ hB4 g2
      have q1 := HKeep.out w3 _ _ hB4 k1
      have q2 := HKeep.out w3 _ _ hB4 k2
      have y0 : w3.cell? ⟨W1.heap.size, 0, none⟩ = some (.int .i64 0) := (hB3.cell (by simp)).trans (by simp [go_sem])
      have y1 : w3.cell? ⟨W1.heap.size, 1, none⟩ = some (.slice none 0 0) := (hB3.cell (by simp)).trans (by simp [go_sem])
      have yf : ∀ o, w3.frozen? ⟨W1.heap.size, o, none⟩ = false := fun o => (hB3.frozen (by simp)).trans (by simp [go_sem])
      have yf0 := yf 0
      have yf1 := yf 1
      have hgl := hown.lt g rfl
      simp only [World.size_alloc] at hgl
      have hgd : W1.drew.heap.size = W1.heap.size := rfl
      have HF : Hid (O8 w T N (some ⟨b0, o0, none⟩) rc R ⟨5, a, b, c⟩ W1.heap.size g d L l ((w3.setCell ⟨W1.heap.size, 0, none⟩ (.int .i64 L)).setCell ⟨W1.heap.size, 1, none⟩ (.slice (some ⟨g, 0, none⟩) n d))) := by
        refine HO.out _ _ _ _ ((((Below.refl _ _).drew.trans hB4).setCell (by simp) _).setCell (by simp) _) ?_ ?_ (fun o => ?_) ?_ (fun e => by omega) (Nat.le_refl _)
        · rw [cell_set_other (.inr (by simp))]; exact World.cell?_setCell_same _ _ _ y0
        · exact World.cell?_setCell_same _ _ _ (by rw [cell_set_other (.inr (by simp))]; exact y1)
        · rw [World.frozen?_setCell, World.frozen?_setCell]; exact yf o
        · obtain ⟨z1, ⟨hx, _⟩ | ⟨g', c', cur, e, z2, z3, z4⟩⟩ := hown
          · cases hx
          · refine ⟨z1, .inr ⟨g', c', cur, e, by simp at z2; omega, ?_, z4⟩⟩
            injection e with e1
            injection e1 with e1
            injection e1 with e1
            subst e1
            rw [Below.heap_setCell _ _ _ _ (by simp only; omega), Below.heap_setCell _ _ _ _ (by simp only; omega)]
            exact z3
      refine hK.out _ _ (fun _ => ⟨q0, q1, q2⟩) ?_
      clear hK cop2 hown hB3 hB4 hBa k1 k2 g2 yf
      refine TailA.one (i := 13) (by kernel_rfl) ⟨_, rfl, fun K hK => ?_⟩
      go_simp
      refine hK.out _ _ (fun _ => ⟨q0, q1, q2⟩) ?_
      clear hK
      refine TailA.one (i := 15) (by kernel_rfl) ⟨_, rfl, fun K hK => ?_⟩
      go_simp
      refine hK.out _ _ (fun h => absurd h (by omega)) ?_
      clear hK
      refine TailA.end (by kernel_rfl) (NoPanic.normal ?_)
      go_wp2_with fail
      go_meet
      case rel => exact ⟨_, _, _, rfl, HF.out⟩
  case rest =>
    obtain ⟨rb, g, d, rfl, hO⟩ := hcut
    clear k1 k2 g2 HCo HO HC HSy HKeep
    obtain ⟨Lf, rfl⟩ : ∃ Lf : Nat, L = (Lf : Int) := ⟨L.toNat, by omega⟩
    have hLf : Lf < N := by omega
    have hO2 := hO.later ((Below.refl _ _).alloc (Nat.le_refl _) (.cells #[.bool false, .int .i64 N] 43))
    have HO : Hid (O8 w T N (some ⟨b0, o0, none⟩) rc R ⟨5, a, b, c⟩ rb g d Lf l (wc.alloc (.cells #[.bool false, .int .i64 N] 43))) := hO2
    have x0 := hO.g1
    have x1 := hO2.s0
    have x2 := hO2.g0
    have x3 := hO2.g1
    have x4 := hO2.g2
    have mk := makes3_any (T := T) (N := N) (hO2.rules.mono hO2.below.size) HM.out
    have HSy5 : Hid (∀ s ∈ l, s.1 = false → 0 ≤ s.2 ∧ s.2 < (N : Int)) := fun s hs hb => by
      have := hk5.2.2.2 s hs
      rw [hb] at this
      simpa using this
    obtain ⟨wf, hwf⟩ : ∃ W, wc.alloc (.cells #[.bool false, .int .i64 N] 43) = W := ⟨_, rfl⟩
    rw [hwf] at hO2 HO x1 x2 x3 x4 mk
    clear hO hO2
    go_upto_region 37 with
      (first
       | (go_at_call 17; refine mk.mono ?_; rintro e w5 ⟨rfl, hB5, hR5⟩
          have hO5 := HO.out.later hB5
          have y2 := hO5.g0
          have y3 := hO5.g1
          have y4 := hO5.g2
          have co := comes3_any (T := T) (N := N) (hO5.rules.mono hO5.below.size) HM.out
          have HO5 : Hid (O8 w T N (some ⟨b0, o0, none⟩) rc R ⟨5, a, b, c⟩ rb g d Lf l w5) := hO5
          have HR5 : Hid (RowB w5 (wf.heap.size + 1) (wf.heap.size + 1) N (makesA R N)) := hR5
          clear hB5 hR5 hO5 mk)
       | (go_at_call 18; refine co.mono ?_; rintro e w6 ⟨cg, rfl, hB6, hR6⟩
          have hO6 := HO5.out.later hB6
          have HO6 : Hid (O8 w T N (some ⟨b0, o0, none⟩) rc R ⟨5, a, b, c⟩ rb g d Lf l w6) := hO6
          have HX6 : Hid (RowB w6 (wf.heap.size + 1) (wf.heap.size + 1) N (makesA R N)) := HR5.out.below hB6
          have HY6 : Hid (RowB w6 w5.heap.size cg N (comesA R N)) := hR6
          clear hB6 hR6 hO6 co))
    clear hwf x0 x1 x2 x3 x4 y2 y3 y4
    obtain ⟨X, hX⟩ : ∃ X, makesA R N = X := ⟨_, rfl⟩
    obtain ⟨Y, hY⟩ : ∃ Y, comesA R N = Y := ⟨_, rfl⟩
    have HNe : Hid (needB N R ((Lf : Int), l) = (X.getD Lf false && Y.getD Lf false && allB X l)) := by
      show needB N R ((Lf : Int), l) = _
      unfold needB
      rw [hX, hY]
      simp
    rw [hX] at HX6
    rw [hY] at HY6
    clear hX hY
    have q0 := HO6.out.r0
    have q1 := HO6.out.r1
    rw [HN.out] at q1
    have m0 := (HX6.out.cell (m := Lf) hLf).1
    have m1 := (HY6.out.cell (m := Lf) hLf).1
    obtain ⟨p1, hp1⟩ : ∃ z, X.getD Lf false = z := ⟨_, rfl⟩
    obtain ⟨p2, hp2⟩ : ∃ z, Y.getD Lf false = z := ⟨_, rfl⟩
    rw [hp1] at m0 HNe
    rw [hp2] at m1 HNe
    have j0 : (0 : Int) ≤ (Lf : Int) := Int.natCast_nonneg _
    have j1 : (Lf : Int) < (N : Int) := by omega
    clear hp1 hp2
    obtain ⟨nd, hnd⟩ : ∃ z, (p1 && p2) = z := ⟨_, rfl⟩
    have HNd : Hid ((p1 && p2) = nd) := hnd
    rw [hnd] at HNe
    clear hnd
    go_cut [16] from 187 to 229 (fun s16 wx => s16 = .bool nd ∧ wx = w6)
    case first =>
      have HE := HNd.out
      cases p1 <;> cases p2 <;>
        (simp at HE
         subst HE
         clear HNd
         go_wp2_with fail
         go_meet
         case rel => exact ⟨rfl, rfl⟩)
    case rest =>
      obtain ⟨rfl, hwc6⟩ := hcut
      subst hwc6
      clear m0 m1 HNd
      go_wp2_with fail
      go_loopw [16, 17] (fun s16 s17 wr => ∃ i : Nat, s16 = .bool (nd && allB X (l.take i)) ∧ s17 = .int .i64 i ∧ i ≤ n ∧ wr = wc) (fun _ s _ => n - (intOf s).toNat)
      case atStart => exact ⟨0, by simp [allB], rfl, Nat.zero_le _, rfl⟩
      case round =>
        obtain ⟨i, rfl, rfl, hi, hwr⟩ := hrel
        subst hwr
        have q1 := HO6.out.r1
        rw [HN.out] at q1
        obtain ⟨z, hz⟩ : ∃ z, (nd && allB X (l.take i)) = z := ⟨_, rfl⟩
        have HZ : Hid ((nd && allB X (l.take i)) = z) := hz
        rw [hz]
        clear hz
        by_cases hlt : i < n
        · have hli : i < l.length := by rw [HN.out]; exact hlt
          obtain ⟨b1, o1, c1, hv1, y1, y2⟩ := HO6.out.syms.2 i hli
          cases hv1
          simp only [Nat.zero_add] at y1 y2
          have hstp := allB_take X l i hli
          have hsm := HSy5.out (l.getD i (false, 0)) (by simp [List.getD, hli])
          obtain ⟨⟨t, v⟩, hx⟩ : ∃ x, l.getD i (false, 0) = x := ⟨_, rfl⟩
          rw [hx] at y1 y2 hstp hsm
          simp only at y1 y2 hstp hsm
          have HStp : Hid (allB X (l.take (i + 1)) = (allB X (l.take i) && (t || X.getD v.toNat false))) := hstp
          have i2 : (0 : Int) ≤ (i : Int) := Int.natCast_nonneg _
          have i3 : (i : Int) < (n : Int) := by omega
          clear hx hstp
          cases z with
          | false =>
            go_wp2_with fail
            go_roundw
            case rel => exact ⟨i + 1, by rw [HStp.out, ← Bool.and_assoc, HZ.out]; rfl, by go_num, by omega, trivial⟩
            case measure => simp [intOf]; omega
          | true =>
            cases t with
            | true =>
              go_wp2_with fail
              go_roundw
              case rel => exact ⟨i + 1, by rw [HStp.out, ← Bool.and_assoc, HZ.out]; rfl, by go_num, by omega, trivial⟩
              case measure => simp [intOf]; omega
            | false =>
              obtain ⟨vn, rfl⟩ : ∃ vn : Nat, v = (vn : Int) := ⟨v.toNat, by have := (hsm rfl).1; omega⟩
              have hvn : vn < N := by have := (hsm rfl).2; omega
              have m2 := (HX6.out.cell (m := vn) hvn).1
              have j2 : (0 : Int) ≤ (vn : Int) := Int.natCast_nonneg _
              have j3 : (vn : Int) < (N : Int) := by omega
              rw [Int.toNat_natCast] at HStp
              obtain ⟨p3, hp3⟩ : ∃ z, X.getD vn false = z := ⟨_, rfl⟩
              rw [hp3] at m2 HStp
              clear hp3 hsm
              go_wp2_with fail
              go_roundw
              case rel => exact ⟨i + 1, by rw [HStp.out, ← Bool.and_assoc, HZ.out]; simp, by go_num, by omega, trivial⟩
              case measure => simp [intOf]; omega
        · obtain rfl : i = n := by omega
          have HNe2 : Hid (needB N R ((Lf : Int), l) = z) := by
            show needB N R ((Lf : Int), l) = z
            rw [HNe.out, ← HZ.out, List.take_of_length_le (by rw [HN.out]; omega)]
          have q0 := HO6.out.r0
          cases z with
          | false =>
            go_wp2_with fail
            go_ret
            refine ⟨_, [], rfl, rlIn_nil _ _, ?_, HO6.out.below⟩
            unfold oneR
            simp only [HRu.out, HNe2.out]
            rfl
          | true =>
            go_wp2_with fail
            go_ret
            have ho := HO6.out.out
            rw [HN.out] at ho
            refine ⟨_, _, rfl, ho.1, ?_, ho.2⟩
            unfold oneR
            simp only [HRu.out, HNe2.out]
            rfl

end Go.Proofs.Ytbpbhlmbcegmoaa
