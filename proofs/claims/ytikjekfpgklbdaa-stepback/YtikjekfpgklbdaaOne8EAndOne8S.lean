import Derived.Test.YtikjekfpgklbdaaMay8AndOne8Mem
/- The contract of pollardingref8.one, SExtract. -/
namespace Go.Proofs.Ytikjekfpgklbdaa
open Go.RowKit

set_option maxRecDepth 100000 in
set_option maxHeartbeats 6400000 in
theorem one8_extract {w : World} {T N k : Nat} {rv : Value} {R : List Ru} (hr : RulesAt w w.heap.size rv R) (hm : mayB T N R = true) (hk : k < R.length) {a b c : Int} (hs : stepB N R ⟨2, a, b, c⟩ = true) :
    Calls Try.prog 11 #[.agg #[.int .i64 T, .int .i64 N, rv], .agg #[.int .i64 2, .int .i64 a, .int .i64 b, .int .i64 c], .int .i64 k] w fun e w' => ∃ lv RL, e = .returned lv ∧ RlIn w' w.heap.size lv RL ∧ (RL.map fun x => x.2) = oneR N R ⟨2, a, b, c⟩ k ∧ Below w.heap.size w w' := by
  obtain ⟨hT, hN1, hN, hRl, h5⟩ := may_fine hm
  obtain ⟨ra, rc, hrv⟩ := hr.1
  subst hrv
  obtain ⟨⟨L, l⟩, hrule⟩ : ∃ x, R.getD k (0, []) = x := ⟨_, rfl⟩
  have hk5 := h5 k hk
  rw [hrule] at hk5
  simp only at hk5
  have HRu : Hid (R.getD k (0, []) = (L, l)) := hrule
  have HM : Hid (mayB T N R = true) := hm
  have HR : Hid (RulesAt w w.heap.size (.slice ra R.length rc) R) := hr
  obtain ⟨W1, hW1⟩ : ∃ W, (w.alloc (.cells #[.int .i64 T, .int .i64 N, .slice ra R.length rc] 24)).alloc (.cells #[.int .i64 2, .int .i64 a, .int .i64 b, .int .i64 c] 26) = W := ⟨_, rfl⟩
  have hB1 : Below w.heap.size w W1 := by rw [← hW1]; exact ((Below.refl _ _).alloc (Nat.le_refl _) _).alloc (by simp) _
  have hs1 : W1.heap.size = w.heap.size + 2 := by rw [← hW1]; simp
  have HC : Hid (∀ wq, Below W1.heap.size W1 wq → wq.cell? ⟨w.heap.size, 0, none⟩ = some (.int .i64 T) ∧ wq.cell? ⟨w.heap.size, 1, none⟩ = some (.int .i64 N) ∧ wq.cell? ⟨w.heap.size, 2, none⟩ = some (.slice ra R.length rc) ∧ wq.cell? ⟨w.heap.size + 1, 0, none⟩ = some (.int .i64 2) ∧ wq.cell? ⟨w.heap.size + 1, 1, none⟩ = some (.int .i64 a) ∧ wq.cell? ⟨w.heap.size + 1, 2, none⟩ = some (.int .i64 b) ∧ wq.cell? ⟨w.heap.size + 1, 3, none⟩ = some (.int .i64 c) ∧ RulesAt wq w.heap.size (.slice ra R.length rc) R ∧ Below w.heap.size w wq) := fun wq hq => by
    rw [hs1] at hq
    have hB : Below w.heap.size w wq := hB1.trans (hq.mono (by omega))
    rw [← hW1] at hq
    exact ⟨(hq.cell (by simp only; omega)).trans (by simp [go_sem]), (hq.cell (by simp only; omega)).trans (by simp [go_sem]), (hq.cell (by simp only; omega)).trans (by simp [go_sem]), (hq.cell (by simp only; omega)).trans (by simp [go_sem]), (hq.cell (by simp only; omega)).trans (by simp [go_sem]), (hq.cell (by simp only; omega)).trans (by simp [go_sem]), (hq.cell (by simp only; omega)).trans (by simp [go_sem]), hr.below hB, hB⟩
  have HS1 : Hid (W1.heap.size = w.heap.size + 2) := hs1
  have hC1 := HC.out W1.drew ((Below.refl _ _).drew)
  have g2 := hC1.2.2.1
  obtain ⟨b0, o0, rc0, qa, qc, hv, _, k1, k2, hsy⟩ := hC1.2.2.2.2.2.2.2.1.syms hk
  cases hv
  rw [hrule] at k1 k2 hsy
  simp only at k1 k2 hsy
  obtain ⟨n, hn⟩ : ∃ n, l.length = n := ⟨_, rfl⟩
  have hn8 : n ≤ 8 := by rw [← hn]; exact hk5.2.2.1
  rw [hn] at k2 hsy
  have HN : Hid (l.length = n) := hn
  have HSy : Hid (SymsAt W1.drew (.slice qa n qc) l) := hsy
  have i0 : (0 : Int) ≤ (k : Int) := Int.natCast_nonneg _
  have i1 : (k : Int) < (R.length : Int) := by omega
  have HCo : Hid (∀ wq, Below W1.drew.heap.size W1.drew wq → Calls Try.prog 12 #[.slice qa n qc] wq fun e w' => ∃ g d, e = .returned (.slice (some ⟨g, 0, none⟩) n d) ∧ w'.ownsRow wq.heap.size 52 2 (.slice (some ⟨g, 0, none⟩) n d) n (flatY l) ∧ Below wq.heap.size wq w') := fun wq hq => by
    have := copied8_any (HSy.out.same (same_below hq)) (by rw [HN.out]; omega)
    rw [HN.out] at this
    exact this
  have HKeep : Hid (∀ wq p u, Below W1.drew.heap.size W1.drew wq → W1.drew.cell? p = some u → wq.cell? p = some u) := fun wq p u hq hp => (hq.cell (World.block_lt_of_cell? _ _ hp)).trans hp
  have HO : Hid (∀ wq rb g d, Below W1.heap.size W1 wq → wq.cell? ⟨rb, 0, none⟩ = some (.int .i64 L) → wq.cell? ⟨rb, 1, none⟩ = some (.slice (some ⟨g, 0, none⟩) n d) → (∀ o, wq.frozen? ⟨rb, o, none⟩ = false) → wq.ownsRow W1.heap.size 52 2 (.slice (some ⟨g, 0, none⟩) n d) n (flatY l) → g ≠ rb → W1.heap.size ≤ rb → O8 w T N (some ⟨b0, o0, none⟩) rc R ⟨2, a, b, c⟩ rb g d L l wq) := fun wq rb g d hq h1 h2 h3 h4 h6 h7 => by
    obtain ⟨c0, c1, c2, c3, c4, c5, c6, c7, c8⟩ := HC.out wq hq
    rw [HS1.out] at h4 h7
    exact ⟨c0, c1, c2, c3, c4, c5, c6, h1, by rw [HN.out]; exact h2, h3, by rw [HN.out]; exact h4, h6, h7, c7, c8⟩
  clear hr hm hrule hB1 hs1 hC1 hsy hn
  go_enter Try.func11, Try.ntmps11
  go_upto_region 1 with fail
  clear hW1
  go_cut [7] from 18 to 229 (fun s7 wx => ∃ rb g d, s7 = .pointer (some ⟨rb, 0, none⟩) ∧ O8 w T N (some ⟨b0, o0, none⟩) rc R ⟨2, a, b, c⟩ rb g d L l wx)
  case first =>
    refine wp_region_held_any [0, 1, 2, 3, 4, 5, 6, 7, 8, 9, 10, 11] 4 15 (fun w' => w'.cell? ⟨w.heap.size, 2, none⟩ = some (.slice (some ⟨b0, o0, none⟩) R.length rc) ∧ w'.cell? ⟨b0, o0 + k * 2, none⟩ = some (.int .i64 L) ∧ w'.cell? ⟨b0, o0 + k * 2 + 1, none⟩ = some (.slice qa n qc)) (by kernel_rfl) (by kernel_rfl) ⟨g2, k1, k2⟩ ?_
    iterate 12
      refine StillI.con8 (v := ?_) rfl (by rfl) ?_ ?_
      rotate_left
      · intro w' hSw
        obtain ⟨z0, z1, z2⟩ := hSw
        go_simp
        try with_reducible rfl
      simp only [Act.put, List.setIfInBounds_toArray, List.set_cons_zero, List.set_cons_succ]
    rw [StillI]
    have cop := HCo.out W1.drew (Below.refl _ _)
    refine TailA.two (i := 12) (i' := 14) (by kernel_rfl) ⟨_, rfl, fun K hK => ?_⟩ ⟨_, rfl, fun K hK => ?_⟩
    · go_simp
      refine cop.mono ?_
      rintro e w3 ⟨g, d, rfl, hown, hB3⟩
      dsimp only
      have q0 := HKeep.out w3 _ _ hB3 g2
      have q1 := HKeep.out w3 _ _ hB3 k1
      have q2 := HKeep.out w3 _ _ hB3 k2
      refine hK.out _ _ (fun _ => ⟨q0, q1, q2⟩) ?_
      have hBa : Below W1.drew.heap.size W1.drew (w3.alloc (.cells #[.int .i64 0, .slice none 0 0] 44)) := hB3.alloc hB3.size _
      have HF : Hid (O8 w T N (some ⟨b0, o0, none⟩) rc R ⟨2, a, b, c⟩ w3.heap.size g d L l (w3.alloc (.cells #[.int .i64 L, .slice (some ⟨g, 0, none⟩) n d] 44))) := by
        refine HO.out _ _ _ _ ((Below.refl _ _).drew.trans (hB3.alloc hB3.size _)) (by simp [go_sem]) (by simp [go_sem]) (fun o => by simp [go_sem]) (hown.alloc _) (fun e => ?_) hB3.size
        have := (hown.lt g rfl).2
        omega
      clear hK cop hown hB3 k1 k2 g2
      refine TailA.two (i := 13) (i' := 14) (by kernel_rfl) ⟨_, rfl, fun K hK => ?_⟩ ⟨_, rfl, fun K hK => ?_⟩
      · go_simp
        refine hK.out _ _ (fun _ => ⟨q0, q1, q2⟩) ?_
        clear hK
        refine TailA.one (i := 14) (by kernel_rfl) ⟨_, rfl, fun K hK => ?_⟩
        go_simp
        refine hK.out _ _ (fun _ => ⟨?_, ?_, ?_⟩) ?_
        · rw [World.cell?_alloc_past _ _ _ (World.block_lt_of_cell? _ _ q0)]; exact q0
        · rw [World.cell?_alloc_past _ _ _ (World.block_lt_of_cell? _ _ q1)]; exact q1
        · rw [World.cell?_alloc_past _ _ _ (World.block_lt_of_cell? _ _ q2)]; exact q2
        clear hK
        refine TailA.one (i := 15) (by kernel_rfl) ⟨_, rfl, fun K hK => ?_⟩
        go_simp
        refine hK.out _ _ (fun h => absurd h (by omega)) ?_
        clear hK
        refine TailA.end (by kernel_rfl) (NoPanic.normal ?_)
        go_wp2_with fail
        go_meet
        case rel => exact ⟨_, _, _, rfl, HF.out⟩
      · go_simp
        refine hK.out _ _ (fun _ => ⟨?_, ?_, ?_⟩) ?_
        · rw [World.cell?_alloc_past _ _ _ (World.block_lt_of_cell? _ _ q0)]; exact q0
        · rw [World.cell?_alloc_past _ _ _ (World.block_lt_of_cell? _ _ q1)]; exact q1
        · rw [World.cell?_alloc_past _ _ _ (World.block_lt_of_cell? _ _ q2)]; exact q2
        clear hK
        refine TailA.one (i := 13) (by kernel_rfl) ⟨_, rfl, fun K hK => ?_⟩
        go_simp
        refine hK.out _ _ (fun _ => ⟨?_, ?_, ?_⟩) ?_
        · rw [World.cell?_alloc_past _ _ _ (World.block_lt_of_cell? _ _ q0)]; exact q0
        · rw [World.cell?_alloc_past _ _ _ (World.block_lt_of_cell? _ _ q1)]; exact q1
        · rw [World.cell?_alloc_past _ _ _ (World.block_lt_of_cell? _ _ q2)]; exact q2
        clear hK
        refine TailA.one (i := 15) (by kernel_rfl) ⟨_, rfl, fun K hK => ?_⟩
        go_simp
        refine hK.out _ _ (fun h => absurd h (by omega)) ?_
        clear hK
        refine TailA.end (by kernel_rfl) (NoPanic.normal ?_)
        go_wp2_with fail
        go_meet
        case rel => exact ⟨_, _, _, rfl, HF.out⟩
    · go_simp
      have hBa : Below W1.drew.heap.size W1.drew (W1.drew.alloc (.cells #[.int .i64 0, .slice none 0 0] 44)) := (Below.refl _ _).alloc (Nat.le_refl _) _
      have cop2 := HCo.out _ hBa
      refine hK.out _ _ (fun _ => ⟨HKeep.out _ _ _ hBa g2, HKeep.out _ _ _ hBa k1, HKeep.out _ _ _ hBa k2⟩) ?_
      clear hK cop
      refine TailA.one (i := 12) (by kernel_rfl) ⟨_, rfl, fun K hK => ?_⟩
      go_simp
      refine cop2.mono ?_
      rintro e w3 ⟨g, d, rfl, hown, hB3⟩
      dsimp only
      have hB4 : Below W1.drew.heap.size W1.drew w3 := hBa.trans (hB3.mono (by simp))
      have q0 := HKeep.out w3 _ _ hB4 g2
      have q1 := HKeep.out w3 _ _ hB4 k1
      have q2 := HKeep.out w3 _ _ hB4 k2
      have y0 : w3.cell? ⟨W1.heap.size, 0, none⟩ = some (.int .i64 0) := (hB3.cell (by simp)).trans (by simp [go_sem])
      have y1 : w3.cell? ⟨W1.heap.size, 1, none⟩ = some (.slice none 0 0) := (hB3.cell (by simp)).trans (by simp [go_sem])
      have yf : ∀ o, w3.frozen? ⟨W1.heap.size, o, none⟩ = false := fun o => (hB3.frozen (by simp)).trans (by simp [go_sem])
      have yf0 := yf 0
      have yf1 := yf 1
      have hgl := hown.lt g rfl
      simp only [World.size_alloc] at hgl
      have hgd : W1.drew.heap.size = W1.heap.size := rfl
      have HF : Hid (O8 w T N (some ⟨b0, o0, none⟩) rc R ⟨2, a, b, c⟩ W1.heap.size g d L l ((w3.setCell ⟨W1.heap.size, 0, none⟩ (.int .i64 L)).setCell ⟨W1.heap.size, 1, none⟩ (.slice (some ⟨g, 0, none⟩) n d))) := by
        refine HO.out _ _ _ _ ((((Below.refl _ _).drew.trans hB4).setCell (by simp) _).setCell (by simp) _) ?_ ?_ (fun o => ?_) ?_ (fun e => by omega) (Nat.le_refl _)
        · rw [cell_set_other (.inr (by simp))]; exact World.cell?_setCell_same _ _ _ y0
        · exact World.cell?_setCell_same _ _ _ (by rw [cell_set_other (.inr (by simp))]; exact y1)
        · rw [World.frozen?_setCell, World.frozen?_setCell]; exact yf o
        · obtain ⟨z1, ⟨hx, _⟩ | ⟨g', c', cur, e, z2, z3, z4⟩⟩ := hown
          · cases hx
          · refine ⟨z1, .inr ⟨g', c', cur, e, by simp at z2; omega, ?_, z4⟩⟩
            injection e with e1
            injection e1 with e1
            injection e1 with e1
            subst e1
            rw [Below.heap_setCell _ _ _ _ (by simp only; omega), Below.heap_setCell _ _ _ _ (by simp only; omega)]
            exact z3
      refine hK.out _ _ (fun _ => ⟨q0, q1, q2⟩) ?_
      clear hK cop2 hown hB3 hB4 hBa k1 k2 g2 yf
      refine TailA.one (i := 13) (by kernel_rfl) ⟨_, rfl, fun K hK => ?_⟩
      go_simp
      refine hK.out _ _ (fun _ => ⟨q0, q1, q2⟩) ?_
      clear hK
      refine TailA.one (i := 15) (by kernel_rfl) ⟨_, rfl, fun K hK => ?_⟩
      go_simp
      refine hK.out _ _ (fun h => absurd h (by omega)) ?_
      clear hK
      refine TailA.end (by kernel_rfl) (NoPanic.normal ?_)
      go_wp2_with fail
      go_meet
      case rel => exact ⟨_, _, _, rfl, HF.out⟩
  case rest =>
    obtain ⟨rb, g, d, rfl, hO⟩ := hcut
    clear k1 k2 g2 HCo HO HC HSy HKeep
    have hO2 := hO.later ((Below.refl _ _).alloc (Nat.le_refl _) (.cells #[.bool false, .int .i64 N] 52))
    have x0 := hO.g1
    have fb0 : (wc.alloc (.cells #[.bool false, .int .i64 N] 52)).cell? ⟨wc.heap.size, 0, none⟩ = some (.bool false) := by simp [go_sem]
    have fb1 : (wc.alloc (.cells #[.bool false, .int .i64 N] 52)).cell? ⟨wc.heap.size, 1, none⟩ = some (.int .i64 N) := by simp [go_sem]
    obtain ⟨wf, hwf⟩ : ∃ W, wc.alloc (.cells #[.bool false, .int .i64 N] 52) = W := ⟨_, rfl⟩
    obtain ⟨fb, hfb⟩ : ∃ x, wc.heap.size = x := ⟨_, rfl⟩
    rw [hwf] at hO2 fb0 fb1
    rw [hfb] at fb0 fb1
    have HO : Hid (O8 w T N (some ⟨b0, o0, none⟩) rc R ⟨2, a, b, c⟩ rb g d L l wf) := hO2
    have x1 := hO2.s0
    have x2 := hO2.s1
    have x3 := hO2.s2
    have x4 := hO2.r1
    have x5 := hO2.r0
    rw [HN.out] at x4
    by_cases hka : (k : Int) = a
    · have e1 : ((k : Int) == a) = true := by simpa using hka
      have hst : 0 ≤ b ∧ b < c ∧ c ≤ (n : Int) := by
        unfold stepB at hs
        have ht : a.toNat = k := by omega
        simp only [ht, HRu.out, HN.out] at hs
        simp at hs
        omega
      obtain ⟨bn, rfl⟩ : ∃ bn : Nat, b = bn := ⟨b.toNat, by omega⟩
      obtain ⟨cn, rfl⟩ : ∃ cn : Nat, c = cn := ⟨c.toNat, by omega⟩
      obtain ⟨m, rfl⟩ : ∃ m, n = cn + m := ⟨n - cn, by omega⟩
      have hbn8 : bn ≤ 8 := by omega
      have hdn : cn + m ≤ d := by
        obtain ⟨_, _, hv, hle⟩ := hO2.syms.1
        cases hv
        rw [HN.out] at hle
        exact hle
      have hup := fun w => sy_upto (g := g) (f := bn) (sl := cn + m) (lc := d) (fi := (bn : Int)) rfl (by omega) w
      obtain ⟨A, hA, hA'⟩ := sy_from (la := some ⟨g, 0, none⟩) (f := cn) (n := m) (sl := cn + m) (lc := d) (fi := (cn : Int)) rfl rfl
      have HA' : Hid (d ≠ cn → A = (some (⟨g, 0, none⟩ : Addr)).map (·.add (cn * 2))) := hA'
      have hlt : (l.take bn).length = bn := by rw [List.length_take, HN.out]; omega
      have cp := copied8_any (hO2.syms.take8 (f := bn) (by rw [HN.out]; omega)) (by rw [hlt]; omega)
      rw [hlt] at cp
      have HLt : Hid ((l.take bn).length = bn) := hlt
      have HKA : Hid ((k : Int) = a) := hka
      obtain ⟨i5, hi5, hz5, hz6, hz7⟩ := info_parts Try.infoSy8
      have hm1 : bn + 1 ≤ maxLen := by unfold maxLen; omega
      have hm2 : (bn + 1) * 16 ≤ 140737488355328 := by omega
      have tok1 : True := trivial
      clear hA' hka hst hlt hs hO hO2
      go_wp2_with
        (first
         | (go_at_call 12; refine cp.mono ?_; rintro e w5 ⟨g5, d5, rfl, hown5, hB5⟩
            have HB5 : Hid (Below wf.heap.size wf w5) := hB5
            have v0 := (hB5.cell (World.block_lt_of_cell? _ _ fb0)).trans fb0
            have v1 := (hB5.cell (World.block_lt_of_cell? _ _ fb1)).trans fb1
            have own6 := hown5.alloc (.cells #[.bool false, .int .i64 N] 52)
            have hB6 : wf.heap.size ≤ (w5.alloc (.cells #[.bool false, .int .i64 N] 52)).heap.size := by have := hB5.size; simp; omega
            clear hB5 hown5 cp)
         | (at_builtin
            have _t := tok1
            refine wpList_append_lies _ rfl _ _ _ rfl wf.heap.size 52 i5 _ 2 16 Try.underlying41 hi5 hz5 hz6 hz7 rfl (by omega) (.slice (some ⟨g5, 0, none⟩) bn d5) bn (flatY (l.take bn)) rfl own6 ⟨w5.heap.size, 0, none⟩ 1 1 [.bool false, .int .i64 N] rfl rfl (World.news_of_block (cs := #[.bool false, .int .i64 N]) (t := 52) (fr := (0, 0)) (heap_alloc_new w5 _)) (by simp [Value.oneCell']) (by omega) hm1 hm2 hB6 (w5.heap.size + 1) (by simp) ?_
            intro g7 cap7 w7 hown7 hgrow7 hat7 hlt7
            have hB7 : Below wf.heap.size wf w7 := (HB5.out.alloc HB5.out.size _).grown hgrow7 hB6 fun k hk => (own6.lt k hk).1
            have hO7 := HO.out.later hB7
            have own7 : w7.ownsRow wf.heap.size 52 2 (.slice (some ⟨g7, 0, none⟩) (bn + 1) cap7) (bn + 1) (flatY (l.take bn ++ [(false, (N : Int))])) := by rw [flatY_append]; exact hown7
            have sy7 : SymsAt w7 (.slice A m (d - cn)) (l.drop cn) := hO7.syms.drop8 HN.out HA'.out
            have y1 := hO7.r1
            rw [HN.out] at y1
            have y2 := hO7.s3
            have hB7s : wf.heap.size ≤ w7.heap.size := hB7.size
            have hdl : (l.drop cn).length = m := by rw [List.length_drop, HN.out]; omega
            have HB7 : Hid (Below wf.heap.size wf w7) := hB7
            have HDl : Hid ((l.drop cn).length = m) := hdl
            clear tok1 hown7 hgrow7 hat7 hlt7 hB7 hO7 own6 hdl)
         | (at_builtin
            refine wpList_append_syms rfl _ _ rfl rfl rfl rfl own7 sy7 hB7s (by rw [HDl.out]; omega) ?_
            rw [HDl.out]
            intro g8 d8 w8 hown8 hgrow8 hat8
            have hB8 : Below wf.heap.size wf w8 := HB7.out.grown hgrow8 hB7s fun k hk => (own7.lt k hk).1
            have hO8 := HO.out.later hB8
            have z1 := hO8.r1
            rw [HN.out] at z1
            have zf := hO8.rf 1
            have hlen : (l.take bn ++ [(false, (N : Int))] ++ l.drop cn).length = bn + 1 + m := by rw [List.length_append, List.length_append, HLt.out, HDl.out]; rfl
            have HF : Hid (O8 w T N (some ⟨b0, o0, none⟩) rc R ⟨2, a, (bn : Int), (cn : Int)⟩ rb g8 d8 L (l.take bn ++ [(false, (N : Int))] ++ l.drop cn) (w8.setCell ⟨rb, 1, none⟩ (.slice (some ⟨g8, 0, none⟩) (bn + 1 + m) d8))) := by
              have := HO.out.setR (w5 := w8) (L' := L) (l' := l.take bn ++ [(false, (N : Int))] ++ l.drop cn) (g3 := g8) (d3 := d8) hB8.size (fun k hk _ => hB8.block k hk) hO8.below hO8.r0 hO8.r1 hO8.rf (by rw [hlen]; exact hown8) ((hown8.lt g8 rfl).1)
              rw [hlen] at this
              exact this
            have HLen : Hid ((l.take bn ++ [(false, (N : Int))] ++ l.drop cn).length = bn + 1 + m) := hlen
            have f0 := HF.out.r0
            have f1 := HF.out.r1
            rw [hlen] at f1
            clear hown8 hgrow8 hat8 hB8 hO8 own7 sy7 hlen))
      go_ret
      have ho := HF.out.out
      rw [HLen.out] at ho
      have hsz : (w8.setCell ⟨rb, 1, none⟩ (.slice (some ⟨g8, 0, none⟩) (bn + 1 + m) d8)).heap.size = w8.heap.size := by simp
      rw [hsz] at ho
      first | refine ⟨_, _, rfl, ho.1, ?_, ho.2⟩ | refine ⟨_, rfl, _, ho.1, ?_, ho.2⟩
      unfold oneR
      simp only [HRu.out, HKA.out]
      simp
    · have e1 : ((k : Int) == a) = false := by simpa using hka
      have HKA : Hid (¬ (k : Int) = a) := hka
      clear hka hO hO2 hs
      go_wp2_with fail
      go_ret
      have ho := HO.out.out
      rw [HN.out] at ho
      first | refine ⟨_, _, rfl, ho.1, ?_, ho.2⟩ | refine ⟨_, rfl, _, ho.1, ?_, ho.2⟩
      unfold oneR
      simp only [HRu.out, HKA.out]
      simp

end Go.Proofs.Ytikjekfpgklbdaa

/- The contract of pollardingref8.one, SSwap. -/
namespace Go.Proofs.Ytikjekfpgklbdaa
open Go.RowKit

/-- So many symbols are swapped. -/
def swL (a b : Int) (l : List Sy) (i : Nat) : List Sy := (l.take i).map (swapS a b) ++ l.drop i
theorem swL_len (a b : Int) (l : List Sy) (i : Nat) : (swL a b l i).length = l.length := by
  unfold swL
  rw [List.length_append, List.length_map, List.length_take, List.length_drop]
  omega
theorem swL_at {a b : Int} {l : List Sy} {i : Nat} (hi : i < l.length) : (swL a b l i).getD i (false, 0) = l.getD i (false, 0) := by
  unfold swL
  have h : ((l.take i).map (swapS a b)).length = i := by rw [List.length_map, List.length_take]; omega
  rw [List.getD, List.getElem?_append_right (by omega), h]
  simp [List.getD]
theorem swL_succ {a b : Int} {l : List Sy} {i : Nat} (hi : i < l.length) : swL a b l (i + 1) = (swL a b l i).set i (swapS a b (l.getD i (false, 0))) := by
  unfold swL
  have h : ((l.take i).map (swapS a b)).length = i := by rw [List.length_map, List.length_take]; omega
  have e : l.getD i (false, 0) = l[i] := by simp [List.getD, hi]
  rw [List.take_succ_eq_append_getElem hi, List.map_append, List.append_assoc, List.set_append_right _ _ (by omega), h, List.drop_eq_getElem_cons hi, e]
  simp only [List.map_cons, List.map_nil, List.cons_append, List.nil_append, Nat.sub_self, List.set_cons_zero]
theorem swL_same {a b : Int} {l : List Sy} {i : Nat} (hi : i < l.length) (ht : (l.getD i (false, 0)).1 = true) : swL a b l (i + 1) = swL a b l i := by
  rw [swL_succ hi]
  have e : swapS a b (l.getD i (false, 0)) = (swL a b l i)[i]'(by rw [swL_len]; exact hi) := by
    have h1 := swL_at (a := a) (b := b) hi
    rw [List.getD, List.getElem?_eq_getElem (by rw [swL_len]; exact hi)] at h1
    simp only [Option.getD_some] at h1
    rw [h1]
    unfold swapS
    rw [ht]
    simp
  rw [e, List.set_getElem_self]
theorem swL_all (a b : Int) (l : List Sy) : swL a b l l.length = l.map (swapS a b) := by simp [swL]

section
variable {w wq w' : World} {T N : Nat} {ra : Option Addr} {rc : Nat} {R : List Ru} {s : Stp} {rb g d : Nat} {L : Int} {l : List Sy}
/-- One symbol's number turns. -/
theorem O8.setN (h : O8 w T N ra rc R s rb g d L l wq) {i : Nat} (hi : i < l.length) (v : Int) : O8 w T N ra rc R s rb g d L (l.set i ((l.getD i (false, 0)).1, v)) (wq.setCell ⟨g, i * 2 + 1, none⟩ (.int .i64 v)) := by
  have hlo := h.rlo
  have hgl := h.glt
  have hne := h.ne
  have keep : ∀ b o u, b ≠ g → wq.cell? ⟨b, o, none⟩ = some u → (wq.setCell ⟨g, i * 2 + 1, none⟩ (.int .i64 v)).cell? ⟨b, o, none⟩ = some u := fun b o u hb hu => by
    rw [cell_set_other (.inl (by simpa using hb))]; exact hu
  have hst := (h.own.stored (i * 2 + 1) (.int .i64 v)).1
  rw [flatY_set hi] at hst
  refine ⟨keep _ _ _ (by omega) h.g0, keep _ _ _ (by omega) h.g1, keep _ _ _ (by omega) h.g2, keep _ _ _ (by omega) h.s0, keep _ _ _ (by omega) h.s1, keep _ _ _ (by omega) h.s2, keep _ _ _ (by omega) h.s3, keep _ _ _ (fun e => hne e.symm) h.r0, ?_, fun o => (World.frozen?_setCell _ _ _ _).trans (h.rf o), ?_, h.ne, h.rlo, h.rules.below ((Below.refl _ _).setCell (by simp only; omega) _), h.below.setCell (by simp only; omega) _⟩
  · rw [List.length_set]; exact keep _ _ _ (fun e => hne e.symm) h.r1
  · rw [List.length_set]; exact hst
end

set_option maxRecDepth 100000 in
set_option maxHeartbeats 6400000 in
theorem one8_swap {w : World} {T N k : Nat} {rv : Value} {R : List Ru} (hr : RulesAt w w.heap.size rv R) (hm : mayB T N R = true) (hk : k < R.length) {a b c : Int} :
    Calls Try.prog 11 #[.agg #[.int .i64 T, .int .i64 N, rv], .agg #[.int .i64 1, .int .i64 a, .int .i64 b, .int .i64 c], .int .i64 k] w fun e w' => ∃ lv RL, e = .returned lv ∧ RlIn w' w.heap.size lv RL ∧ (RL.map fun x => x.2) = oneR N R ⟨1, a, b, c⟩ k ∧ Below w.heap.size w w' := by
  obtain ⟨hT, hN1, hN, hRl, h5⟩ := may_fine hm
  obtain ⟨ra, rc, hrv⟩ := hr.1
  subst hrv
  obtain ⟨⟨L, l⟩, hrule⟩ : ∃ x, R.getD k (0, []) = x := ⟨_, rfl⟩
  have hk5 := h5 k hk
  rw [hrule] at hk5
  simp only at hk5
  have HRu : Hid (R.getD k (0, []) = (L, l)) := hrule
  have HM : Hid (mayB T N R = true) := hm
  have HR : Hid (RulesAt w w.heap.size (.slice ra R.length rc) R) := hr
  obtain ⟨W1, hW1⟩ : ∃ W, (w.alloc (.cells #[.int .i64 T, .int .i64 N, .slice ra R.length rc] 24)).alloc (.cells #[.int .i64 1, .int .i64 a, .int .i64 b, .int .i64 c] 26) = W := ⟨_, rfl⟩
  have hB1 : Below w.heap.size w W1 := by rw [← hW1]; exact ((Below.refl _ _).alloc (Nat.le_refl _) _).alloc (by simp) _
  have hs1 : W1.heap.size = w.heap.size + 2 := by rw [← hW1]; simp
  have HC : Hid (∀ wq, Below W1.heap.size W1 wq → wq.cell? ⟨w.heap.size, 0, none⟩ = some (.int .i64 T) ∧ wq.cell? ⟨w.heap.size, 1, none⟩ = some (.int .i64 N) ∧ wq.cell? ⟨w.heap.size, 2, none⟩ = some (.slice ra R.length rc) ∧ wq.cell? ⟨w.heap.size + 1, 0, none⟩ = some (.int .i64 1) ∧ wq.cell? ⟨w.heap.size + 1, 1, none⟩ = some (.int .i64 a) ∧ wq.cell? ⟨w.heap.size + 1, 2, none⟩ = some (.int .i64 b) ∧ wq.cell? ⟨w.heap.size + 1, 3, none⟩ = some (.int .i64 c) ∧ RulesAt wq w.heap.size (.slice ra R.length rc) R ∧ Below w.heap.size w wq) := fun wq hq => by
    rw [hs1] at hq
    have hB : Below w.heap.size w wq := hB1.trans (hq.mono (by omega))
    rw [← hW1] at hq
    exact ⟨(hq.cell (by simp only; omega)).trans (by simp [go_sem]), (hq.cell (by simp only; omega)).trans (by simp [go_sem]), (hq.cell (by simp only; omega)).trans (by simp [go_sem]), (hq.cell (by simp only; omega)).trans (by simp [go_sem]), (hq.cell (by simp only; omega)).trans (by simp [go_sem]), (hq.cell (by simp only; omega)).trans (by simp [go_sem]), (hq.cell (by simp only; omega)).trans (by simp [go_sem]), hr.below hB, hB⟩
  have HS1 : Hid (W1.heap.size = w.heap.size + 2) := hs1
  have hC1 := HC.out W1.drew ((Below.refl _ _).drew)
  have g2 := hC1.2.2.1
  obtain ⟨b0, o0, rc0, qa, qc, hv, _, k1, k2, hsy⟩ := hC1.2.2.2.2.2.2.2.1.syms hk
  cases hv
  rw [hrule] at k1 k2 hsy
  simp only at k1 k2 hsy
  obtain ⟨n, hn⟩ : ∃ n, l.length = n := ⟨_, rfl⟩
  have hn8 : n ≤ 8 := by rw [← hn]; exact hk5.2.2.1
  rw [hn] at k2 hsy
  have HN : Hid (l.length = n) := hn
  have HSy : Hid (SymsAt W1.drew (.slice qa n qc) l) := hsy
  have i0 : (0 : Int) ≤ (k : Int) := Int.natCast_nonneg _
  have i1 : (k : Int) < (R.length : Int) := by omega
  have HCo : Hid (∀ wq, Below W1.drew.heap.size W1.drew wq → Calls Try.prog 12 #[.slice qa n qc] wq fun e w' => ∃ g d, e = .returned (.slice (some ⟨g, 0, none⟩) n d) ∧ w'.ownsRow wq.heap.size 52 2 (.slice (some ⟨g, 0, none⟩) n d) n (flatY l) ∧ Below wq.heap.size wq w') := fun wq hq => by
    have := copied8_any (HSy.out.same (same_below hq)) (by rw [HN.out]; omega)
    rw [HN.out] at this
    exact this
  have HKeep : Hid (∀ wq p u, Below W1.drew.heap.size W1.drew wq → W1.drew.cell? p = some u → wq.cell? p = some u) := fun wq p u hq hp => (hq.cell (World.block_lt_of_cell? _ _ hp)).trans hp
  have HO : Hid (∀ wq rb g d, Below W1.heap.size W1 wq → wq.cell? ⟨rb, 0, none⟩ = some (.int .i64 L) → wq.cell? ⟨rb, 1, none⟩ = some (.slice (some ⟨g, 0, none⟩) n d) → (∀ o, wq.frozen? ⟨rb, o, none⟩ = false) → wq.ownsRow W1.heap.size 52 2 (.slice (some ⟨g, 0, none⟩) n d) n (flatY l) → g ≠ rb → W1.heap.size ≤ rb → O8 w T N (some ⟨b0, o0, none⟩) rc R ⟨1, a, b, c⟩ rb g d L l wq) := fun wq rb g d hq h1 h2 h3 h4 h6 h7 => by
    obtain ⟨c0, c1, c2, c3, c4, c5, c6, c7, c8⟩ := HC.out wq hq
    rw [HS1.out] at h4 h7
    exact ⟨c0, c1, c2, c3, c4, c5, c6, h1, by rw [HN.out]; exact h2, h3, by rw [HN.out]; exact h4, h6, h7, c7, c8⟩
  clear hr hm hrule hB1 hs1 hC1 hsy hn
  go_enter Try.func11, Try.ntmps11
  go_upto_region 1 with fail
  clear hW1
  go_cut [7] from 18 to 229 (fun s7 wx => ∃ rb g d, s7 = .pointer (some ⟨rb, 0, none⟩) ∧ O8 w T N (some ⟨b0, o0, none⟩) rc R ⟨1, a, b, c⟩ rb g d L l wx)
  case first =>
    refine wp_region_held_any [0, 1, 2, 3, 4, 5, 6, 7, 8, 9, 10, 11] 4 15 (fun w' => w'.cell? ⟨w.heap.size, 2, none⟩ = some (.slice (some ⟨b0, o0, none⟩) R.length rc) ∧ w'.cell? ⟨b0, o0 + k * 2, none⟩ = some (.int .i64 L) ∧ w'.cell? ⟨b0, o0 + k * 2 + 1, none⟩ = some (.slice qa n qc)) (by kernel_rfl) (by kernel_rfl) ⟨g2, k1, k2⟩ ?_
    iterate 12
      refine StillI.con8 (v := ?_) rfl (by rfl) ?_ ?_
      rotate_left
      · intro w' hSw
        obtain ⟨z0, z1, z2⟩ := hSw
        go_simp
        try with_reducible rfl
      simp only [Act.put, List.setIfInBounds_toArray, List.set_cons_zero, List.set_cons_succ]
    rw [StillI]
    have cop := HCo.out W1.drew (Below.refl _ _)
    refine TailA.two (i := 12) (i' := 14) (by kernel_rfl) ⟨_, rfl, fun K hK => ?_⟩ ⟨_, rfl, fun K hK => ?_⟩
    · go_simp
      refine cop.mono ?_
      rintro e w3 ⟨g, d, rfl, hown, hB3⟩
      dsimp only
      have q0 := HKeep.out w3 _ _ hB3 g2
      have q1 := HKeep.out w3 _ _ hB3 k1
      have q2 := HKeep.out w3 _ _ hB3 k2
      refine hK.out _ _ (fun _ => ⟨q0, q1, q2⟩) ?_
      have hBa : Below W1.drew.heap.size W1.drew (w3.alloc (.cells #[.int .i64 0, .slice none 0 0] 44)) := hB3.alloc hB3.size _
      have HF : Hid (O8 w T N (some ⟨b0, o0, none⟩) rc R ⟨1, a, b, c⟩ w3.heap.size g d L l (w3.alloc (.cells #[.int .i64 L, .slice (some ⟨g, 0, none⟩) n d] 44))) := by
        refine HO.out _ _ _ _ ((Below.refl _ _).drew.trans (hB3.alloc hB3.size _)) (by simp [go_sem]) (by simp [go_sem]) (fun o => by simp [go_sem]) (hown.alloc _) (fun e => ?_) hB3.size
        have := (hown.lt g rfl).2
        omega
      clear hK cop hown hB3 k1 k2 g2
      refine TailA.two (i := 13) (i' := 14) (by kernel_rfl) ⟨_, rfl, fun K hK => ?_⟩ ⟨_, rfl, fun K hK => ?_⟩
      · go_simp
        refine hK.out _ _ (fun _ => ⟨q0, q1, q2⟩) ?_
        clear hK
        refine TailA.one (i := 14) (by kernel_rfl) ⟨_, rfl, fun K hK => ?_⟩
        go_simp
        refine hK.out _ _ (fun _ => ⟨?_, ?_, ?_⟩) ?_
        · rw [World.cell?_alloc_past _ _ _ (World.block_lt_of_cell? _ _ q0)]; exact q0
        · rw [World.cell?_alloc_past _ _ _ (World.block_lt_of_cell? _ _ q1)]; exact q1
        · rw [World.cell?_alloc_past _ _ _ (World.block_lt_of_cell? _ _ q2)]; exact q2
        clear hK
        refine TailA.one (i := 15) (by kernel_rfl) ⟨_, rfl, fun K hK => ?_⟩
        go_simp
        refine hK.out _ _ (fun h => absurd h (by omega)) ?_
        clear hK
        refine TailA.end (by kernel_rfl) (NoPanic.normal ?_)
        go_wp2_with fail
        go_meet
        case rel => exact ⟨_, _, _, rfl, HF.out⟩
      · go_simp
        refine hK.out _ _ (fun _ => ⟨?_, ?_, ?_⟩) ?_
        · rw [World.cell?_alloc_past _ _ _ (World.block_lt_of_cell? _ _ q0)]; exact q0
        · rw [World.cell?_alloc_past _ _ _ (World.block_lt_of_cell? _ _ q1)]; exact q1
        · rw [World.cell?_alloc_past _ _ _ (World.block_lt_of_cell? _ _ q2)]; exact q2
        clear hK
        refine TailA.one (i := 13) (by kernel_rfl) ⟨_, rfl, fun K hK => ?_⟩
        go_simp
        refine hK.out _ _ (fun _ => ⟨?_, ?_, ?_⟩) ?_
        · rw [World.cell?_alloc_past _ _ _ (World.block_lt_of_cell? _ _ q0)]; exact q0
        · rw [World.cell?_alloc_past _ _ _ (World.block_lt_of_cell? _ _ q1)]; exact q1
        · rw [World.cell?_alloc_past _ _ _ (World.block_lt_of_cell? _ _ q2)]; exact q2
        clear hK
        refine TailA.one (i := 15) (by kernel_rfl) ⟨_, rfl, fun K hK => ?_⟩
        go_simp
        refine hK.out _ _ (fun h => absurd h (by omega)) ?_
        clear hK
        refine TailA.end (by kernel_rfl) (NoPanic.normal ?_)
        go_wp2_with fail
        go_meet
        case rel => exact ⟨_, _, _, rfl, HF.out⟩
    · go_simp
      have hBa : Below W1.drew.heap.size W1.drew (W1.drew.alloc (.cells #[.int .i64 0, .slice none 0 0] 44)) := (Below.refl _ _).alloc (Nat.le_refl _) _
      have cop2 := HCo.out _ hBa
      refine hK.out _ _ (fun _ => ⟨HKeep.out _ _ _ hBa g2, HKeep.out _ _ _ hBa k1, HKeep.out _ _ _ hBa k2⟩) ?_
      clear hK cop
      refine TailA.one (i := 12) (by kernel_rfl) ⟨_, rfl, fun K hK => ?_⟩
      go_simp
      refine cop2.mono ?_
      rintro e w3 ⟨g, d, rfl, hown, hB3⟩
      dsimp only
      have hB4 : Below W1.drew.heap.size W1.drew w3 := hBa.trans (hB3.mono (by simp))
      have q0 := HKeep.out w3 _ _ hB4 g2
      have q1 := HKeep.out w3 _ _ hB4 k1
      have q2 := HKeep.out w3 _ _ hB4 k2
      have y0 : w3.cell? ⟨W1.heap.size, 0, none⟩ = some (.int .i64 0) := (hB3.cell (by simp)).trans (by simp [go_sem])
      have y1 : w3.cell? ⟨W1.heap.size, 1, none⟩ = some (.slice none 0 0) := (hB3.cell (by simp)).trans (by simp [go_sem])
      have yf : ∀ o, w3.frozen? ⟨W1.heap.size, o, none⟩ = false := fun o => (hB3.frozen (by simp)).trans (by simp [go_sem])
      have yf0 := yf 0
      have yf1 := yf 1
      have hgl := hown.lt g rfl
      simp only [World.size_alloc] at hgl
      have hgd : W1.drew.heap.size = W1.heap.size := rfl
      have HF : Hid (O8 w T N (some ⟨b0, o0, none⟩) rc R ⟨1, a, b, c⟩ W1.heap.size g d L l ((w3.setCell ⟨W1.heap.size, 0, none⟩ (.int .i64 L)).setCell ⟨W1.heap.size, 1, none⟩ (.slice (some ⟨g, 0, none⟩) n d))) := by
        refine HO.out _ _ _ _ ((((Below.refl _ _).drew.trans hB4).setCell (by simp) _).setCell (by simp) _) ?_ ?_ (fun o => ?_) ?_ (fun e => by omega) (Nat.le_refl _)
        · rw [cell_set_other (.inr (by simp))]; exact World.cell?_setCell_same _ _ _ y0
        · exact World.cell?_setCell_same _ _ _ (by rw [cell_set_other (.inr (by simp))]; exact y1)
        · rw [World.frozen?_setCell, World.frozen?_setCell]; exact yf o
        · obtain ⟨z1, ⟨hx, _⟩ | ⟨g', c', cur, e, z2, z3, z4⟩⟩ := hown
          · cases hx
          · refine ⟨z1, .inr ⟨g', c', cur, e, by simp at z2; omega, ?_, z4⟩⟩
            injection e with e1
            injection e1 with e1
            injection e1 with e1
            subst e1
            rw [Below.heap_setCell _ _ _ _ (by simp only; omega), Below.heap_setCell _ _ _ _ (by simp only; omega)]
            exact z3
      refine hK.out _ _ (fun _ => ⟨q0, q1, q2⟩) ?_
      clear hK cop2 hown hB3 hB4 hBa k1 k2 g2 yf
      refine TailA.one (i := 13) (by kernel_rfl) ⟨_, rfl, fun K hK => ?_⟩
      go_simp
      refine hK.out _ _ (fun _ => ⟨q0, q1, q2⟩) ?_
      clear hK
      refine TailA.one (i := 15) (by kernel_rfl) ⟨_, rfl, fun K hK => ?_⟩
      go_simp
      refine hK.out _ _ (fun h => absurd h (by omega)) ?_
      clear hK
      refine TailA.end (by kernel_rfl) (NoPanic.normal ?_)
      go_wp2_with fail
      go_meet
      case rel => exact ⟨_, _, _, rfl, HF.out⟩
  case rest =>
    obtain ⟨rb, g, d, rfl, hO⟩ := hcut
    clear k1 k2 g2 HCo HO HC HSy HKeep
    have hO2 := hO.later ((Below.refl _ _).alloc (Nat.le_refl _) (.cells #[.bool false, .int .i64 N] 52))
    have x0 := hO.g1
    obtain ⟨wf, hwf⟩ : ∃ W, wc.alloc (.cells #[.bool false, .int .i64 N] 52) = W := ⟨_, rfl⟩
    rw [hwf] at hO2
    have HO : Hid (O8 w T N (some ⟨b0, o0, none⟩) rc R ⟨1, a, b, c⟩ rb g d L l wf) := hO2
    have x1 := hO2.s0
    have x2 := hO2.s1
    have x3 := hO2.s2
    have x4 := hO2.r0
    have x5 := hO2.rf 0
    have sw := swapped8_any (w := wf) (n := L) (a := a) (b := b)
    have hO3 := hO2.setL (swapN a b L)
    obtain ⟨L', hL'⟩ : ∃ z, swapN a b L = z := ⟨_, rfl⟩
    rw [hL'] at hO3 sw
    have HL' : Hid (swapN a b L = L') := hL'
    have HO3 : Hid (O8 w T N (some ⟨b0, o0, none⟩) rc R ⟨1, a, b, c⟩ rb g d L' l (wf.setCell ⟨rb, 0, none⟩ (.int .i64 L'))) := hO3
    clear hO hO2 hO3 hL'
    go_wp2_with (go_at_call 16; refine sw.mono ?_; rintro e w5 ⟨rfl, hw5⟩; subst hw5)
    clear sw x0 x1 x2 x3 x4 x5 hwf
    go_loopw [9] (fun s9 wr => ∃ i : Nat, s9 = .int .i64 i ∧ i ≤ n ∧ O8 w T N (some ⟨b0, o0, none⟩) rc R ⟨1, a, b, c⟩ rb g d L' (swL a b l i) wr) (fun s _ => n - (intOf s).toNat)
    case atStart => exact ⟨0, rfl, Nat.zero_le _, by simpa [swL] using HO3.out⟩
    case round =>
      obtain ⟨i, rfl, hi, hOi⟩ := hrel
      have HOi : Hid (O8 w T N (some ⟨b0, o0, none⟩) rc R ⟨1, a, b, c⟩ rb g d L' (swL a b l i) wr) := hOi
      have y1 := hOi.r1
      rw [swL_len, HN.out] at y1
      by_cases hlt : i < n
      · have hli : i < l.length := by rw [HN.out]; exact hlt
        obtain ⟨b1, o1, c1, hv1, z1, z2⟩ := hOi.syms.2 i (by rw [swL_len]; exact hli)
        cases hv1
        rw [swL_at hli] at z1 z2
        simp only [Nat.zero_add] at z1 z2
        have hsame := swL_same (a := a) (b := b) hli
        have hsucc := swL_succ (a := a) (b := b) hli
        obtain ⟨⟨t, v⟩, hx⟩ : ∃ x, l.getD i (false, 0) = x := ⟨_, rfl⟩
        have HX : Hid (l.getD i (false, 0) = (t, v)) := hx
        rw [hx] at z1 z2 hsame hsucc
        simp only at z1 z2 hsame
        have i2 : (0 : Int) ≤ (i : Int) := Int.natCast_nonneg _
        have i3 : (i : Int) < (n : Int) := by omega
        have HSame : Hid (t = true → swL a b l (i + 1) = swL a b l i) := hsame
        have HSucc : Hid (swL a b l (i + 1) = (swL a b l i).set i (swapS a b (t, v))) := hsucc
        have y2 := hOi.s1
        have y3 := hOi.s2
        clear hx hsame hsucc hOi
        cases t with
        | true =>
          go_wp2_with fail
          go_roundw
          case rel => exact ⟨i + 1, by go_num, by omega, by rw [HSame.out rfl]; exact HOi.out⟩
          case measure => simp [intOf]; omega
        | false =>
          have hfz : wr.frozen? ⟨g, i * 2 + 1, none⟩ = false := HOi.out.own.frozenAt _
          have sw := swapped8_any (w := wr.drew) (n := v) (a := a) (b := b)
          obtain ⟨v', hv'⟩ : ∃ z, swapN a b v = z := ⟨_, rfl⟩
          rw [hv'] at sw
          have HO9 : Hid (O8 w T N (some ⟨b0, o0, none⟩) rc R ⟨1, a, b, c⟩ rb g d L' (swL a b l (i + 1)) (wr.drew.setCell ⟨g, i * 2 + 1, none⟩ (.int .i64 v'))) := by
            have h9 := (HOi.out.later ((Below.refl _ _).drew)).setN (i := i) (by rw [swL_len]; exact hli) v'
            rw [swL_at hli, HX.out] at h9
            show O8 w T N (some ⟨b0, o0, none⟩) rc R ⟨1, a, b, c⟩ rb g d L' (swL a b l (i + 1)) _
            rw [HSucc.out]
            have e : swapS a b (false, v) = (false, v') := by unfold swapS; simp [hv']
            rw [e]
            exact h9
          clear hv'
          go_upto_region 10 with fail
          refine wp_region_held_seq [0, 1, 2, 3, 4, 5, 6, 7, 8, 9, 10, 11, 12] [13, 14, 15, 16] 16 (fun w' => w'.cell? ⟨rb, 1, none⟩ = some (.slice (some ⟨g, 0, none⟩) n d) ∧ w'.cell? ⟨g, i * 2 + 1, none⟩ = some (.int .i64 v) ∧ w'.cell? ⟨w.heap.size + 1, 1, none⟩ = some (.int .i64 a) ∧ w'.cell? ⟨w.heap.size + 1, 2, none⟩ = some (.int .i64 b)) (by kernel_rfl) (by kernel_rfl) ⟨y1, z2, y2, y3⟩ ?_
          iterate 13
            refine StillI.con8 (v := ?_) rfl (by rfl) ?_ ?_
            rotate_left
            · intro w' hSw
              obtain ⟨q0, q1, q2, q3⟩ := hSw
              go_simp
              try with_reducible rfl
            simp only [Act.put, List.setIfInBounds_toArray, List.set_cons_zero, List.set_cons_succ]
          rw [StillI]
          refine TailI.con8 rfl (fun K hK => ?_)
          go_simp
          refine sw.mono ?_
          rintro e w6 ⟨rfl, hw6⟩
          subst hw6
          dsimp only
          refine hK.out _ _ (fun _ => ⟨y1, z2, y2, y3⟩) ?_
          clear hK
          iterate 2
            refine TailI.con8 rfl (fun K hK => ?_)
            go_simp
            refine hK.out _ _ (fun _ => ⟨y1, z2, y2, y3⟩) ?_
            clear hK
          refine TailI.con8 rfl (fun K hK => ?_)
          go_simp
          refine hK.out _ _ (fun h => absurd h (by omega)) ?_
          clear hK
          rw [TailI]
          refine NoPanic.normal ?_
          clear y1 y2 y3 z1 z2
          go_wp2_with fail
          go_roundw
          case rel => exact ⟨i + 1, by go_num, by omega, HO9.out⟩
          case measure => simp [intOf]; omega
      · obtain rfl : i = n := by omega
        have y0 := hOi.r0
        clear hOi
        go_wp2_with fail
        go_ret
        have ho := HOi.out.out
        rw [swL_len, HN.out] at ho
        first | refine ⟨_, _, rfl, ho.1, ?_, ho.2⟩ | refine ⟨_, rfl, _, ho.1, ?_, ho.2⟩
        have e : swL a b l i = l.map (swapS a b) := by rw [← HN.out]; exact swL_all a b l
        unfold oneR
        simp only [HRu.out, List.map_cons, List.map_nil]
        rw [e, HL'.out]
        rfl

end Go.Proofs.Ytikjekfpgklbdaa
