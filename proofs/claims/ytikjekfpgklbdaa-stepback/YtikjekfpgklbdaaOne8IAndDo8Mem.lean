import Derived.Test.YtikjekfpgklbdaaMay8AndOne8Mem
import Derived.Test.YtikjekfpgklbdaaStKpAndOne8P
import Derived.Test.YtikjekfpgklbdaaOne8L
import Derived.Test.YtikjekfpgklbdaaOne8EAndOne8S
/- The contract of pollardingref8.one, SInline. -/
namespace Go.Proofs.Ytikjekfpgklbdaa
open Go.RowKit

theorem filter_take8 {R : List Ru} {f : Ru → Bool} {i : Nat} (hi : i < R.length) : (R.take (i + 1)).filter f = (R.take i).filter f ++ (if f (R.getD i (0, [])) then [R.getD i (0, [])] else []) := by
  rw [List.take_succ_eq_append_getElem hi, List.filter_append]
  have e : R.getD i (0, []) = R[i] := by simp [List.getD, hi]
  rw [e]
  cases h : f R[i] <;> simp [h]

/-- A rule more. -/
theorem RlIn.push {w w7 w9 : World} {B : Nat} {ov : Value} {RL : List (Value × Ru)} (h : RlIn w B ov RL) (hB : B ≤ w.heap.size) (hb : Below w.heap.size w w7) {g7 d7 n g9 c9 : Nat} {r : Ru} {o : Obj} (hn : r.2.length = n) (ho : w7.ownsRow w.heap.size 52 2 (.slice (some ⟨g7, 0, none⟩) n d7) n (flatY r.2)) (hg : (w7.alloc o).grownBy w9 ov.ownBlock)
    (hown : w9.ownsRow B 44 2 (.slice (some ⟨g9, 0, none⟩) (RL.length + 1) c9) (RL.length + 1) (flatR RL ++ [.int .i64 r.1, .slice (some ⟨g7, 0, none⟩) n d7])) (hat : ov.ownBlock = some g9 ∨ g9 = w7.heap.size + 1) :
    RlIn w9 B (.slice (some ⟨g9, 0, none⟩) (RL.length + 1) c9) (RL ++ [(.slice (some ⟨g7, 0, none⟩) n d7, r)]) := by
  subst hn
  have hs7 := hb.size
  have hs9 := hg.size
  simp only [World.size_alloc] at hs9
  have hov : ∀ b, ov.ownBlock = some b → b < w.heap.size := fun b hb => (h.own.lt b hb).2
  refine ⟨by rw [List.length_append, flatR_append]; exact hown, fun x hx => ?_⟩
  rcases List.mem_append.1 hx with hx | hx
  · refine (h.sym x hx).kept (by omega) fun b hA hlt => ⟨?_, hA.1, fun e => ?_⟩
    · rw [hg.block b (by simp; omega) (fun e => hA.2 e.symm), heap_alloc_old w7 _ (by omega), hb.block b hlt]
    · simp only [Value.ownBlock, Option.some.injEq] at e
      subst e
      rcases hat with e | e
      · exact hA.2 e
      · omega
  · simp only [List.mem_singleton] at hx
    subst hx
    refine (own_syIn ho).kept (by omega) fun b hA hlt => ⟨?_, by have := hA.2; omega, fun e => ?_⟩
    · rw [hg.block b (by simp; omega) (fun e => by have := hov b e.symm; have := hA.2; omega), heap_alloc_old w7 _ hlt]
    · simp only [Value.ownBlock, Option.some.injEq] at e
      subst e
      rcases hat with e | e
      · have := hov _ e; have := hA.2; omega
      · omega

set_option maxRecDepth 100000 in
set_option maxHeartbeats 6400000 in
theorem one8_inline {w : World} {T N k : Nat} {rv : Value} {R : List Ru} (hr : RulesAt w w.heap.size rv R) (hm : mayB T N R = true) (hk : k < R.length) {a b c : Int} (hs : stepB N R ⟨3, a, b, c⟩ = true) :
    Calls Try.prog 11 #[.agg #[.int .i64 T, .int .i64 N, rv], .agg #[.int .i64 3, .int .i64 a, .int .i64 b, .int .i64 c], .int .i64 k] w fun e w' => ∃ lv RL, e = .returned lv ∧ RlIn w' w.heap.size lv RL ∧ (RL.map fun x => x.2) = oneR N R ⟨3, a, b, c⟩ k ∧ Below w.heap.size w w' := by
  obtain ⟨hT, hN1, hN, hRl, h5⟩ := may_fine hm
  obtain ⟨ra, rc, hrv⟩ := hr.1
  subst hrv
  obtain ⟨⟨L, l⟩, hrule⟩ : ∃ x, R.getD k (0, []) = x := ⟨_, rfl⟩
  have hk5 := h5 k hk
  rw [hrule] at hk5
  simp only at hk5
  have HRu : Hid (R.getD k (0, []) = (L, l)) := hrule
  have HM : Hid (mayB T N R = true) := hm
  have HR : Hid (RulesAt w w.heap.size (.slice ra R.length rc) R) := hr
  obtain ⟨W1, hW1⟩ : ∃ W, (w.alloc (.cells #[.int .i64 T, .int .i64 N, .slice ra R.length rc] 24)).alloc (.cells #[.int .i64 3, .int .i64 a, .int .i64 b, .int .i64 c] 26) = W := ⟨_, rfl⟩
  have hB1 : Below w.heap.size w W1 := by rw [← hW1]; exact ((Below.refl _ _).alloc (Nat.le_refl _) _).alloc (by simp) _
  have hs1 : W1.heap.size = w.heap.size + 2 := by rw [← hW1]; simp
  have HC : Hid (∀ wq, Below W1.heap.size W1 wq → wq.cell? ⟨w.heap.size, 0, none⟩ = some (.int .i64 T) ∧ wq.cell? ⟨w.heap.size, 1, none⟩ = some (.int .i64 N) ∧ wq.cell? ⟨w.heap.size, 2, none⟩ = some (.slice ra R.length rc) ∧ wq.cell? ⟨w.heap.size + 1, 0, none⟩ = some (.int .i64 3) ∧ wq.cell? ⟨w.heap.size + 1, 1, none⟩ = some (.int .i64 a) ∧ wq.cell? ⟨w.heap.size + 1, 2, none⟩ = some (.int .i64 b) ∧ wq.cell? ⟨w.heap.size + 1, 3, none⟩ = some (.int .i64 c) ∧ RulesAt wq w.heap.size (.slice ra R.length rc) R ∧ Below w.heap.size w wq) := fun wq hq => by
    rw [hs1] at hq
    have hB : Below w.heap.size w wq := hB1.trans (hq.mono (by omega))
    rw [← hW1] at hq
    exact ⟨(hq.cell (by simp only; omega)).trans (by simp [go_sem]), (hq.cell (by simp only; omega)).trans (by simp [go_sem]), (hq.cell (by simp only; omega)).trans (by simp [go_sem]), (hq.cell (by simp only; omega)).trans (by simp [go_sem]), (hq.cell (by simp only; omega)).trans (by simp [go_sem]), (hq.cell (by simp only; omega)).trans (by simp [go_sem]), (hq.cell (by simp only; omega)).trans (by simp [go_sem]), hr.below hB, hB⟩
  have HS1 : Hid (W1.heap.size = w.heap.size + 2) := hs1
  have hC1 := HC.out W1.drew ((Below.refl _ _).drew)
  have g2 := hC1.2.2.1
  obtain ⟨b0, o0, rc0, qa, qc, hv, _, k1, k2, hsy⟩ := hC1.2.2.2.2.2.2.2.1.syms hk
  cases hv
  rw [hrule] at k1 k2 hsy
  simp only at k1 k2 hsy
  obtain ⟨n, hn⟩ : ∃ n, l.length = n := ⟨_, rfl⟩
  have hn8 : n ≤ 8 := by rw [← hn]; exact hk5.2.2.1
  rw [hn] at k2 hsy
  have HN : Hid (l.length = n) := hn
  have HSy : Hid (SymsAt W1.drew (.slice qa n qc) l) := hsy
  have i0 : (0 : Int) ≤ (k : Int) := Int.natCast_nonneg _
  have i1 : (k : Int) < (R.length : Int) := by omega
  have HCo : Hid (∀ wq, Below W1.drew.heap.size W1.drew wq → Calls Try.prog 12 #[.slice qa n qc] wq fun e w' => ∃ g d, e = .returned (.slice (some ⟨g, 0, none⟩) n d) ∧ w'.ownsRow wq.heap.size 52 2 (.slice (some ⟨g, 0, none⟩) n d) n (flatY l) ∧ Below wq.heap.size wq w') := fun wq hq => by
    have := copied8_any (HSy.out.same (same_below hq)) (by rw [HN.out]; omega)
    rw [HN.out] at this
    exact this
  have HKeep : Hid (∀ wq p u, Below W1.drew.heap.size W1.drew wq → W1.drew.cell? p = some u → wq.cell? p = some u) := fun wq p u hq hp => (hq.cell (World.block_lt_of_cell? _ _ hp)).trans hp
  have HO : Hid (∀ wq rb g d, Below W1.heap.size W1 wq → wq.cell? ⟨rb, 0, none⟩ = some (.int .i64 L) → wq.cell? ⟨rb, 1, none⟩ = some (.slice (some ⟨g, 0, none⟩) n d) → (∀ o, wq.frozen? ⟨rb, o, none⟩ = false) → wq.ownsRow W1.heap.size 52 2 (.slice (some ⟨g, 0, none⟩) n d) n (flatY l) → g ≠ rb → W1.heap.size ≤ rb → O8 w T N (some ⟨b0, o0, none⟩) rc R ⟨3, a, b, c⟩ rb g d L l wq) := fun wq rb g d hq h1 h2 h3 h4 h6 h7 => by
    obtain ⟨c0, c1, c2, c3, c4, c5, c6, c7, c8⟩ := HC.out wq hq
    rw [HS1.out] at h4 h7
    exact ⟨c0, c1, c2, c3, c4, c5, c6, h1, by rw [HN.out]; exact h2, h3, by rw [HN.out]; exact h4, h6, h7, c7, c8⟩
  clear hr hm hrule hB1 hs1 hC1 hsy hn
  go_enter Try.func11, Try.ntmps11
  go_upto_region 1 with fail
  clear hW1
  go_cut [7] from 18 to 229 (fun s7 wx => ∃ rb g d, s7 = .pointer (some ⟨rb, 0, none⟩) ∧ O8 w T N (some ⟨b0, o0, none⟩) rc R ⟨3, a, b, c⟩ rb g d L l wx)
  case first =>
    refine wp_region_held_any [0, 1, 2, 3, 4, 5, 6, 7, 8, 9, 10, 11] 4 15 (fun w' => w'.cell? ⟨w.heap.size, 2, none⟩ = some (.slice (some ⟨b0, o0, none⟩) R.length rc) ∧ w'.cell? ⟨b0, o0 + k * 2, none⟩ = some (.int .i64 L) ∧ w'.cell? ⟨b0, o0 + k * 2 + 1, none⟩ = some (.slice qa n qc)) (by kernel_rfl) (by kernel_rfl) ⟨g2, k1, k2⟩ ?_
    iterate 12
      refine StillI.con8 (v := ?_) rfl (by rfl) ?_ ?_
      rotate_left
      · intro w' hSw
        obtain ⟨z0, z1, z2⟩ := hSw
        go_simp
        try with_reducible rfl
      simp only [Act.put, List.setIfInBounds_toArray, List.set_cons_zero, List.set_cons_succ]
    rw [StillI]
    have cop := HCo.out W1.drew (Below.refl _ _)
    refine TailA.two (i := 12) (i' := 14) (by kernel_rfl) ⟨_, rfl, fun K hK => ?_⟩ ⟨_, rfl, fun K hK => ?_⟩
    · go_simp
      refine cop.mono ?_
      rintro e w3 ⟨g, d, rfl, hown, hB3⟩
      dsimp only
      have q0 := HKeep.out w3 _ _ hB3 g2
      have q1 := HKeep.out w3 _ _ hB3 k1
      have q2 := HKeep.out w3 _ _ hB3 k2
      refine hK.out _ _ (fun _ => ⟨q0, q1, q2⟩) ?_
      have hBa : Below W1.drew.heap.size W1.drew (w3.alloc (.cells #[.int .i64 0, .slice none 0 0] 44)) := hB3.alloc hB3.size _
      have HF : Hid (O8 w T N (some ⟨b0, o0, none⟩) rc R ⟨3, a, b, c⟩ w3.heap.size g d L l (w3.alloc (.cells #[.int .i64 L, .slice (some ⟨g, 0, none⟩) n d] 44))) := by
        refine HO.out _ _ _ _ ((Below.refl _ _).drew.trans (hB3.alloc hB3.size _)) (by simp [go_sem]) (by simp [go_sem]) (fun o => by simp [go_sem]) (hown.alloc _) (fun e => ?_) hB3.size
        have := (hown.lt g rfl).2
        omega
      clear hK cop hown hB3 k1 k2 g2
      refine TailA.two (i := 13) (i' := 14) (by kernel_rfl) ⟨_, rfl, fun K hK => ?_⟩ ⟨_, rfl, fun K hK => ?_⟩
      · go_simp
        refine hK.out _ _ (fun _ => ⟨q0, q1, q2⟩) ?_
        clear hK
        refine TailA.one (i := 14) (by kernel_rfl) ⟨_, rfl, fun K hK => ?_⟩
        go_simp
        refine hK.out _ _ (fun _ => ⟨?_, ?_, ?_⟩) ?_
        · rw [World.cell?_alloc_past _ _ _ (World.block_lt_of_cell? _ _ q0)]; exact q0
        · rw [World.cell?_alloc_past _ _ _ (World.block_lt_of_cell? _ _ q1)]; exact q1
        · rw [World.cell?_alloc_past _ _ _ (World.block_lt_of_cell? _ _ q2)]; exact q2
        clear hK
        refine TailA.one (i := 15) (by kernel_rfl) ⟨_, rfl, fun K hK => ?_⟩
        go_simp
        refine hK.out _ _ (fun h => absurd h (by omega)) ?_
        clear hK
        refine TailA.end (by kernel_rfl) (NoPanic.normal ?_)
        go_wp2_with fail
        go_meet
        case rel => exact ⟨_, _, _, rfl, HF.out⟩
      · go_simp
        refine hK.out _ _ (fun _ => ⟨?_, ?_, ?_⟩) ?_
        · rw [World.cell?_alloc_past _ _ _ (World.block_lt_of_cell? _ _ q0)]; exact q0
        · rw [World.cell?_alloc_past _ _ _ (World.block_lt_of_cell? _ _ q1)]; exact q1
        · rw [World.cell?_alloc_past _ _ _ (World.block_lt_of_cell? _ _ q2)]; exact q2
        clear hK
        refine TailA.one (i := 13) (by kernel_rfl) ⟨_, rfl, fun K hK => ?_⟩
        go_simp
        refine hK.out _ _ (fun _ => ⟨?_, ?_, ?_⟩) ?_
        · rw [World.cell?_alloc_past _ _ _ (World.block_lt_of_cell? _ _ q0)]; exact q0
        · rw [World.cell?_alloc_past _ _ _ (World.block_lt_of_cell? _ _ q1)]; exact q1
        · rw [World.cell?_alloc_past _ _ _ (World.block_lt_of_cell? _ _ q2)]; exact q2
        clear hK
        refine TailA.one (i := 15) (by kernel_rfl) ⟨_, rfl, fun K hK => ?_⟩
        go_simp
        refine hK.out _ _ (fun h => absurd h (by omega)) ?_
        clear hK
        refine TailA.end (by kernel_rfl) (NoPanic.normal ?_)
        go_wp2_with fail
        go_meet
        case rel => exact ⟨_, _, _, rfl, HF.out⟩
    · go_simp
      have hBa : Below W1.drew.heap.size W1.drew (W1.drew.alloc (.cells #[.int .i64 0, .slice none 0 0] 44)) := (Below.refl _ _).alloc (Nat.le_refl _) _
      have cop2 := HCo.out _ hBa
      refine hK.out _ _ (fun _ => ⟨HKeep.out _ _ _ hBa g2, HKeep.out _ _ _ hBa k1, HKeep.out _ _ _ hBa k2⟩) ?_
      clear hK cop
      refine TailA.one (i := 12) (by kernel_rfl) ⟨_, rfl, fun K hK => ?_⟩
      go_simp
      refine cop2.mono ?_
      rintro e w3 ⟨g, d, rfl, hown, hB3⟩
      dsimp only
      have hB4 : Below W1.drew.heap.size W1.drew w3 := hBa.trans (hB3.mono (by simp))
      have q0 := HKeep.out w3 _ _ hB4 g2
      have q1 := HKeep.out w3 _ _ hB4 k1
      have q2 := HKeep.out w3 _ _ hB4 k2
      have y0 : w3.cell? ⟨W1.heap.size, 0, none⟩ = some (.int .i64 0) := (hB3.cell (by simp)).trans (by simp [go_sem])
      have y1 : w3.cell? ⟨W1.heap.size, 1, none⟩ = some (.slice none 0 0) := (hB3.cell (by simp)).trans (by simp [go_sem])
      have yf : ∀ o, w3.frozen? ⟨W1.heap.size, o, none⟩ = false := fun o => (hB3.frozen (by simp)).trans (by simp [go_sem])
      have yf0 := yf 0
      have yf1 := yf 1
      have hgl := hown.lt g rfl
      simp only [World.size_alloc] at hgl
      have hgd : W1.drew.heap.size = W1.heap.size := rfl
      have HF : Hid (O8 w T N (some ⟨b0, o0, none⟩) rc R ⟨3, a, b, c⟩ W1.heap.size g d L l ((w3.setCell ⟨W1.heap.size, 0, none⟩ (.int .i64 L)).setCell ⟨W1.heap.size, 1, none⟩ (.slice (some ⟨g, 0, none⟩) n d))) := by
        refine HO.out _ _ _ _ ((((Below.refl _ _).drew.trans hB4).setCell (by simp) _).setCell (by simp) _) ?_ ?_ (fun o => ?_) ?_ (fun e => by omega) (Nat.le_refl _)
        · rw [cell_set_other (.inr (by simp))]; exact World.cell?_setCell_same _ _ _ y0
        · exact World.cell?_setCell_same _ _ _ (by rw [cell_set_other (.inr (by simp))]; exact y1)
        · rw [World.frozen?_setCell, World.frozen?_setCell]; exact yf o
        · obtain ⟨z1, ⟨hx, _⟩ | ⟨g', c', cur, e, z2, z3, z4⟩⟩ := hown
          · cases hx
          · refine ⟨z1, .inr ⟨g', c', cur, e, by simp at z2; omega, ?_, z4⟩⟩
            injection e with e1
            injection e1 with e1
            injection e1 with e1
            subst e1
            rw [Below.heap_setCell _ _ _ _ (by simp only; omega), Below.heap_setCell _ _ _ _ (by simp only; omega)]
            exact z3
      refine hK.out _ _ (fun _ => ⟨q0, q1, q2⟩) ?_
      clear hK cop2 hown hB3 hB4 hBa k1 k2 g2 yf
      refine TailA.one (i := 13) (by kernel_rfl) ⟨_, rfl, fun K hK => ?_⟩
      go_simp
      refine hK.out _ _ (fun _ => ⟨q0, q1, q2⟩) ?_
      clear hK
      refine TailA.one (i := 15) (by kernel_rfl) ⟨_, rfl, fun K hK => ?_⟩
      go_simp
      refine hK.out _ _ (fun h => absurd h (by omega)) ?_
      clear hK
      refine TailA.end (by kernel_rfl) (NoPanic.normal ?_)
      go_wp2_with fail
      go_meet
      case rel => exact ⟨_, _, _, rfl, HF.out⟩
  case rest =>
    obtain ⟨rb, g, d, rfl, hO⟩ := hcut
    clear k1 k2 g2 HCo HO HC HSy HKeep
    have hO2 := hO.later ((Below.refl _ _).alloc (Nat.le_refl _) (.cells #[.bool false, .int .i64 N] 52))
    have x0 := hO.g1
    obtain ⟨wf, hwf⟩ : ∃ W, wc.alloc (.cells #[.bool false, .int .i64 N] 52) = W := ⟨_, rfl⟩
    rw [hwf] at hO2
    have HO : Hid (O8 w T N (some ⟨b0, o0, none⟩) rc R ⟨3, a, b, c⟩ rb g d L l wf) := hO2
    have x1 := hO2.s0
    have x2 := hO2.s1
    have x4 := hO2.r1
    have x5 := hO2.r0
    rw [HN.out] at x4
    by_cases hka : (k : Int) = a
    · have e1 : ((k : Int) == a) = true := by simpa using hka
      have hst : 0 ≤ b ∧ b < (n : Int) := by
        unfold stepB at hs
        have ht : a.toNat = k := by omega
        simp only [ht, HRu.out, HN.out] at hs
        simp at hs
        omega
      obtain ⟨bn, rfl⟩ : ∃ bn : Nat, b = bn := ⟨b.toNat, by omega⟩
      obtain ⟨m, rfl⟩ : ∃ m, n = (bn + 1) + m := ⟨n - (bn + 1), by omega⟩
      have hbn8 : bn ≤ 8 := by omega
      have hm8 : m ≤ 8 := by omega
      have hdn : bn + 1 + m ≤ d := by
        obtain ⟨_, _, hv, hle⟩ := hO2.syms.1
        cases hv
        rw [HN.out] at hle
        exact hle
      have hup := fun w => sy_upto (g := g) (f := bn) (sl := bn + 1 + m) (lc := d) (fi := (bn : Int)) rfl (by omega) w
      obtain ⟨A, hA, hA'⟩ := sy_from (la := some ⟨g, 0, none⟩) (f := bn + 1) (n := m) (sl := bn + 1 + m) (lc := d) (fi := (bn : Int) + 1) (by omega) rfl
      have HA' : Hid (d ≠ bn + 1 → A = (some (⟨g, 0, none⟩ : Addr)).map (·.add ((bn + 1) * 2))) := hA'
      have hwr : IntKind.i64.wrap ((bn : Int) + 1) = (bn : Int) + 1 := IntWalk.i64_in _ (by omega)
      have hlt : (l.take bn).length = bn := by rw [List.length_take, HN.out]; omega
      have HLt : Hid ((l.take bn).length = bn) := hlt
      have HDl : Hid ((l.drop (bn + 1)).length = m) := by show (l.drop (bn + 1)).length = m; rw [List.length_drop, HN.out]; omega
      have HKA : Hid ((k : Int) = a) := hka
      obtain ⟨X, hX⟩ : ∃ z, (l.getD bn (false, 0)).2 = z := ⟨_, rfl⟩
      have HX : Hid ((l.getD bn (false, 0)).2 = X) := hX
      have H5 : Hid (∀ i, i < R.length → (R.getD i (0, [])).2.length ≤ 8) := fun i hi => (h5 i hi).2.2.1
      have HSz : Hid (w.heap.size ≤ wf.heap.size) := hO2.below.size
      clear hA' hka hst hlt hs hO hO2 hX h5
      go_wp2_with fail
      clear x0 x1 x2 x4 x5 hwf e1
      go_loopw [11, 12] (fun s11 s12 wr => ∃ (i : Nat) (RL : List (Value × Ru)), s12 = .int .i64 i ∧ i ≤ R.length ∧ RlIn wr wf.heap.size s11 RL ∧ (RL.map fun x => x.2) = ((R.take i).filter fun x => decide (x.1 = X)).map (inlR bn (L, l)) ∧ Below wf.heap.size wf wr) (fun _ s _ => R.length - (intOf s).toNat)
      case atStart => exact ⟨0, [], rfl, Nat.zero_le _, rlIn_nil _ _, rfl, Below.refl _ _⟩
      case round =>
        obtain ⟨i, RL, rfl, hi, hRL, hmap, hB⟩ := hrel
        obtain ⟨oa, oc, hov⟩ := own_form hRL.own
        obtain ⟨p, hp⟩ : ∃ p, RL.length = p := ⟨_, rfl⟩
        rw [hp] at hov
        subst hov
        have hp40 : p ≤ 40 := by
          have h1 := congrArg List.length hmap
          simp only [List.length_map] at h1
          have h2 := List.length_filter_le (fun x : Ru => decide (x.1 = X)) (R.take i)
          rw [List.length_take] at h2
          omega
        have HP : Hid (RL.length = p) := hp
        have HRL : Hid (RlIn wr wf.heap.size (.slice oa p oc) RL) := hRL
        have HMap : Hid ((RL.map fun x => x.2) = ((R.take i).filter fun x => decide (x.1 = X)).map (inlR bn (L, l))) := hmap
        have HB : Hid (Below wf.heap.size wf wr) := hB
        have hOr := HO.out.later hB
        have HOr : Hid (O8 w T N (some ⟨b0, o0, none⟩) rc R ⟨3, a, (bn : Int), c⟩ rb g d L l wr) := hOr
        have y0 := hOr.g2
        clear hB hRL hmap hp
        by_cases hlt : i < R.length
        · obtain ⟨b1, o1, rc1, qa1, qc1, hv1, _, z1, z2, zs⟩ := hOr.rules.syms hlt
          cases hv1
          have hft := filter_take8 (f := fun x : Ru => decide (x.1 = X)) hlt
          have hri := H5.out i hlt
          obtain ⟨⟨Li, li⟩, hrule⟩ : ∃ x, R.getD i (0, []) = x := ⟨_, rfl⟩
          rw [hrule] at z1 z2 zs hft hri
          simp only at z1 z2 zs hft hri
          obtain ⟨ni, hni⟩ : ∃ n, li.length = n := ⟨_, rfl⟩
          rw [hni] at z2 zs hri
          have HNi : Hid (li.length = ni) := hni
          have HZs : Hid (SymsAt wr (.slice qa1 ni qc1) li) := zs
          have HFt : Hid ((R.take (i + 1)).filter (fun x : Ru => decide (x.1 = X)) = (R.take i).filter (fun x => decide (x.1 = X)) ++ (if decide (Li = X) then [(Li, li)] else [])) := hft
          have y1 := hOr.r1
          rw [HN.out] at y1
          have y2 := hOr.s2
          obtain ⟨b2, o2, c2, hv2, t1, t2⟩ := hOr.syms.2 bn (by rw [HN.out]; omega)
          cases hv2
          rw [HX.out] at t2
          simp only [Nat.zero_add] at t2
          have i2 : (0 : Int) ≤ (i : Int) := Int.natCast_nonneg _
          have i3 : (i : Int) < (R.length : Int) := by omega
          have j2 : (0 : Int) ≤ (bn : Int) := Int.natCast_nonneg _
          have j3 : (bn : Int) < (bn : Int) + 1 + (m : Int) := by omega
          clear hrule hni zs hft t1 hOr
          by_cases hLX : Li = X
          · have e2 : (Li == X) = true := by simpa using hLX
            have HLX : Hid (Li = X) := hLX
            clear hLX
            go_wp2_with fail
            go_big_quiet (fail)
            obtain ⟨W4, hW4⟩ : ∃ W, wr.drewN nq = W := ⟨_, rfl⟩
            have hb4 : Below wr.heap.size wr W4 := by rw [← hW4]; exact below_drewN (Below.refl _ _) _
            rw [hW4]
            have hO4 := HOr.out.later hb4
            have HRL4 : Hid (RlIn W4 wf.heap.size (.slice oa p oc) RL) := HRL.out.below hb4
            have HO4 : Hid (O8 w T N (some ⟨b0, o0, none⟩) rc R ⟨3, a, (bn : Int), c⟩ rb g d L l W4) := hO4
            have HB4 : Hid (Below wf.heap.size wf W4) := HB.out.trans (hb4.mono HB.out.size)
            have HZ4 : Hid (SymsAt W4 (.slice qa1 ni qc1) li) := HZs.out.same (same_below hb4)
            have a1 := hO4.r1
            rw [HN.out] at a1
            have a2 := hO4.s2
            have cp := copied8_any (hO4.syms.take8 (f := bn) (by rw [HN.out]; omega)) (by rw [HLt.out]; omega)
            rw [HLt.out] at cp
            have HK4 : Hid (W4.cell? ⟨b0, o0 + i * 2 + 1, none⟩ = some (.slice qa1 ni qc1)) := (hb4.cell (World.block_lt_of_cell? _ _ z2)).trans z2
            obtain ⟨i5, hi5, hz5, hz6, hz7⟩ := info_parts Try.infoRu8
            have hm1 : p + 1 ≤ maxLen := by unfold maxLen; omega
            have hm2 : (p + 1) * 32 ≤ 140737488355328 := by omega
            have tok1 : True := trivial
            have tok2 : True := trivial
            clear hW4 hb4 hO4 y0 y1 y2 z1 z2 t2 HZs HRL HOr
            go_wp2_with
              (first
               | (go_at_call 12; refine cp.mono ?_; rintro e w5 ⟨g5, d5, rfl, hown5, hB5⟩
                  have hO5 := HO4.out.later hB5
                  have b3 := hO5.g2
                  have b4 := (hB5.cell (World.block_lt_of_cell? _ _ HK4.out)).trans HK4.out
                  have sy5 : SymsAt w5 (.slice qa1 ni qc1) li := HZ4.out.same (same_below hB5)
                  have hs5 : W4.heap.size ≤ w5.heap.size := hB5.size
                  have HB5 : Hid (Below W4.heap.size W4 w5) := hB5
                  clear hB5 hO5 cp)
               | (at_builtin
                  have _t := tok1
                  refine wpList_append_syms rfl _ _ rfl rfl rfl rfl hown5 sy5 hs5 (by rw [HNi.out]; omega) ?_
                  rw [HNi.out]
                  intro g6 d6 w6 hown6 hgrow6 hat6
                  have hB6 : Below W4.heap.size W4 w6 := HB5.out.grown hgrow6 hs5 fun k hk => (hown5.lt k hk).1
                  have hO6 := HO4.out.later hB6
                  have b5 := hO6.r1
                  rw [HN.out] at b5
                  have b6 := hO6.s2
                  have sy6 : SymsAt w6 (.slice A m (d - (bn + 1))) (l.drop (bn + 1)) := hO6.syms.drop8 HN.out HA'.out
                  have hs6 : W4.heap.size ≤ w6.heap.size := hB6.size
                  have HB6 : Hid (Below W4.heap.size W4 w6) := hB6
                  clear tok1 hown5 sy5 hgrow6 hat6 hB6 hO6)
               | (at_builtin
                  have _t := tok2
                  refine wpList_append_syms rfl _ _ rfl rfl rfl rfl hown6 sy6 hs6 (by rw [HDl.out]; omega) ?_
                  rw [HDl.out]
                  intro g7 d7 w7 hown7 hgrow7 hat7
                  have hB7 : Below W4.heap.size W4 w7 := HB6.out.grown hgrow7 hs6 fun k hk => (hown6.lt k hk).1
                  have hO7 := HO4.out.later hB7
                  have b7 := hO7.r0
                  have own8 := (HRL4.out.below hB7).own.alloc (.cells #[.int .i64 L, .slice (some ⟨g7, 0, none⟩) (bn + ni + m) d7] 44)
                  rw [HP.out] at own8
                  have hs7 : wf.heap.size ≤ (w7.alloc (.cells #[.int .i64 L, .slice (some ⟨g7, 0, none⟩) (bn + ni + m) d7] 44)).heap.size := by have h1 := HB4.out.size; have h2 := hB7.size; simp; omega
                  have HB7 : Hid (Below W4.heap.size W4 w7) := hB7
                  have HOw7 : Hid (w7.ownsRow W4.heap.size 52 2 (.slice (some ⟨g7, 0, none⟩) (bn + ni + m) d7) (bn + ni + m) (flatY (l.take bn ++ li ++ l.drop (bn + 1)))) := hown7
                  clear tok2 hown6 sy6 hgrow7 hat7 hB7 hO7 hown7)
               | (at_builtin
                  refine wpList_append_lies _ rfl _ _ _ rfl wf.heap.size 44 i5 _ 2 32 Try.underlying22 hi5 hz5 hz6 hz7 rfl (by omega) (.slice oa p oc) p (flatR RL) rfl own8 ⟨w7.heap.size, 0, none⟩ 1 1 [.int .i64 L, .slice (some ⟨g7, 0, none⟩) (bn + ni + m) d7] rfl rfl (World.news_of_block (cs := #[.int .i64 L, .slice (some ⟨g7, 0, none⟩) (bn + ni + m) d7]) (t := 44) (fr := (0, 0)) (heap_alloc_new w7 _)) (by simp [Value.oneCell']) (by omega) hm1 hm2 hs7 (w7.heap.size + 1) (by simp) ?_
                  intro g9 c9 w9 hown9 hgrow9 hat9 hlt9))
            have hlen : (l.take bn ++ li ++ l.drop (bn + 1)).length = bn + ni + m := by rw [List.length_append, List.length_append, HLt.out, HDl.out, HNi.out]
            have hpush := HRL4.out.push (r := (L, l.take bn ++ li ++ l.drop (bn + 1))) HB4.out.size HB7.out hlen HOw7.out hgrow9 (by rw [HP.out]; exact hown9) (by
              rcases hat9 with e | e
              · exact .inl e
              · exact .inr e)
            rw [HP.out] at hpush
            have hB9 : Below wf.heap.size wf w9 := ((HB4.out.trans (HB7.out.mono HB4.out.size)).alloc (by have h1 := HB4.out.size; have h2 := HB7.out.size; omega) _).grown hgrow9 hs7 fun k hk => (own8.lt k hk).1
            go_roundw
            case rel =>
              refine ⟨i + 1, _, by go_num, by omega, hpush, ?_, hB9⟩
              rw [List.map_append, HMap.out, HFt.out, HLX.out]
              simp [inlR]
            case measure => simp [intOf]; omega
          · have e2 : (Li == X) = false := by simpa using hLX
            have HLX : Hid (¬ Li = X) := hLX
            clear hLX
            go_wp2_with fail
            go_big_quiet (fail)
            go_wp2_with fail
            go_roundw
            case rel => exact ⟨i + 1, RL, by go_num, by omega, HRL.out.below (below_drewN (Below.refl _ _) _), by rw [HMap.out, HFt.out]; simp [HLX.out], below_drewN HB.out _⟩
            case measure => simp [intOf]; omega
        · obtain rfl : i = R.length := by omega
          clear hOr
          go_wp2_with fail
          go_ret
          have hBw : Below w.heap.size w wr := HOr.out.below
          first | refine ⟨_, RL, rfl, HRL.out.mono HSz.out, ?_, hBw⟩ | refine ⟨_, rfl, RL, HRL.out.mono HSz.out, ?_, hBw⟩
          rw [HMap.out, List.take_length]
          unfold oneR
          simp only [HRu.out, HKA.out, Int.toNat_natCast, HX.out]
          simp
    · have e1 : ((k : Int) == a) = false := by simpa using hka
      have HKA : Hid (¬ (k : Int) = a) := hka
      clear hka hO hO2 hs
      go_wp2_with fail
      go_ret
      have ho := HO.out.out
      rw [HN.out] at ho
      first | refine ⟨_, _, rfl, ho.1, ?_, ho.2⟩ | refine ⟨_, rfl, _, ho.1, ?_, ho.2⟩
      unfold oneR
      simp only [HRu.out, HKA.out]
      simp

end Go.Proofs.Ytikjekfpgklbdaa

/- pollardingref8.one for whatever step; what pollardingref8.Do holds. No walk. -/
namespace Go.Proofs.Ytikjekfpgklbdaa
open Go.RowKit

theorem one8_any {w : World} {T N k : Nat} {rv : Value} {R : List Ru} (hr : RulesAt w w.heap.size rv R) (hm : mayB T N R = true) (hk : k < R.length) {s : Stp} (hs : stepB N R s = true) :
    Calls Try.prog 11 #[.agg #[.int .i64 T, .int .i64 N, rv], .agg #[.int .i64 s.op, .int .i64 s.a, .int .i64 s.b, .int .i64 s.c], .int .i64 k] w fun e w' => ∃ lv RL, e = .returned lv ∧ RlIn w' w.heap.size lv RL ∧ (RL.map fun x => x.2) = oneR N R s k ∧ Below w.heap.size w w' := by
  obtain ⟨op, a, b, c⟩ := s
  by_cases h1 : op = 1
  · subst h1; exact one8_swap hr hm hk
  by_cases h2 : op = 2
  · subst h2; exact one8_extract hr hm hk hs
  by_cases h3 : op = 3
  · subst h3; exact one8_inline hr hm hk hs
  by_cases h4 : op = 4
  · subst h4; exact one8_left hr hm hk
  by_cases h5 : op = 5
  · subst h5; exact one8_prune hr hm hk
  · exfalso
    unfold stepB at hs
    simp [h1, h2, h3, h4, h5] at hs

theorem append_no8r {w : World} {oa sa : Option Addr} {n d c : Nat} (hn : n ≤ d) (h0 : oa = none → n = 0 ∧ d = 0) : (Builtin.append_ #[ 22, 22 ] 22 #[.slice oa n d, .slice sa 0 c]).run Try.prog w = .ok (.slice oa n d) w := by
  cases oa with
  | none =>
    obtain ⟨rfl, rfl⟩ := h0 rfl
    cases sa <;> go_simp
  | some o => cases sa <;> go_simp

/-- append(x, l...) of rules, x being the call's own. -/
theorem append_rules {w : World} {B : Nat} {ov lv : Value} {RL RM : List (Value × Ru)} {C : Nat} (ho : w.ownsRow B 44 2 ov RL.length (flatR RL)) (hl : RlIn w C lv RM) (hb : B ≤ w.heap.size) (hs : RL.length + RM.length ≤ 100000) :
    ∃ a d w', (Builtin.append_ #[ 22, 22 ] 22 #[ov, lv]).run Try.prog w = .ok (.slice a (RL.length + RM.length) d) w' ∧ w'.ownsRow B 44 2 (.slice a (RL.length + RM.length) d) (RL.length + RM.length) (flatR (RL ++ RM)) ∧ w.grownBy w' ov.ownBlock ∧ ∀ g, (Value.slice a (RL.length + RM.length) d).ownBlock = some g → ov.ownBlock = some g ∨ g = w.heap.size := by
  obtain ⟨oa, od, hov⟩ := own_form ho
  obtain ⟨la, lc, hlv⟩ := own_form hl.own
  rcases Nat.eq_zero_or_pos RM.length with h0 | h0
  · have he : RM = [] := List.eq_nil_of_length_eq_zero h0
    subst he
    rw [hov, hlv]
    have hnd : RL.length ≤ od ∧ (oa = none → RL.length = 0 ∧ od = 0) := by
      obtain ⟨_, ⟨hx, hz⟩ | ⟨_, _, _, hx, _, _, h5, _⟩⟩ := ho
      · rw [hov] at hx
        injection hx with x1 x2 x3
        exact ⟨by omega, fun _ => ⟨by omega, by omega⟩⟩
      · rw [hov] at hx
        injection hx with x1 x2 x3
        exact ⟨by omega, fun e => by rw [e] at x1; cases x1⟩
    refine ⟨oa, od, w, append_no8r hnd.1 hnd.2, ?_, ⟨rfl, rfl, rfl, Nat.le_refl _, fun _ _ _ => rfl⟩, fun g hg => .inl hg⟩
    rw [hov] at ho
    simpa using ho
  · obtain ⟨g, cap, hg, _, _⟩ := hl.own.form h0
    have hlo := hl.own
    rw [hg] at hlo
    obtain ⟨i1, hi1, hy0, hy1, hy2⟩ := info_parts Try.infoRu8
    have hnews : ∀ j u, (flatR RM)[j]? = some u → w.cell? ((⟨g, 0, none⟩ : Addr).add j) = some u := fun j u hu => by
      have hj := (List.getElem?_eq_some_iff.1 hu).1
      rw [flatR_len] at hj
      rw [Addr.add_lit, Nat.zero_add, hlo.cellAt j hj, hu]
    obtain ⟨g', cap', w', hr, h2, h3, h4, _⟩ := run_append_lies (P := Try.prog) w 22 22 B 44 i1 _ 2 32 Try.underlying22 hi1 hy0 hy1 hy2 rfl (by omega) ov RL.length (flatR RL) ho ⟨g, 0, none⟩ RM.length cap (flatR RM) (flatR_len RM) hnews (flatR_one hl.slices) h0 (by simp only [maxLen]; omega) (by omega) hb w.heap.size rfl
    rw [hg]
    refine ⟨_, _, w', hr, by rw [flatR_append]; exact h2, h3, fun q hq => ?_⟩
    simp only [Value.ownBlock, Option.some.injEq] at hq
    subst hq
    exact h4

/-- Rules, and others that were made since. -/
theorem RlIn.join {w w5 w6 : World} {B : Nat} {ov lv nv : Value} {RL RM : List (Value × Ru)} (h : RlIn w B ov RL) (hB : B ≤ w.heap.size) (hb : Below w.heap.size w w5) (hl : RlIn w5 w.heap.size lv RM) (hg : w5.grownBy w6 ov.ownBlock) (ho : w6.ownsRow B 44 2 nv (RL.length + RM.length) (flatR (RL ++ RM))) (hat : ∀ g, nv.ownBlock = some g → ov.ownBlock = some g ∨ g = w5.heap.size) : RlIn w6 B nv (RL ++ RM) := by
  have hov : ∀ b, ov.ownBlock = some b → b < w.heap.size := fun b hb => (h.own.lt b hb).2
  have hs5 := hb.size
  have hs6 := hg.size
  refine ⟨by rw [List.length_append]; exact ho, fun x hx => ?_⟩
  rcases List.mem_append.1 hx with hx | hx
  · refine (h.sym x hx).kept (by omega) fun b hA hlt => ⟨?_, hA.1, fun e => ?_⟩
    · rw [hg.block b (by omega) (fun e => hA.2 e.symm), hb.block b hlt]
    · rcases hat b e with e | e
      · exact hA.2 e
      · omega
  · refine (hl.sym x hx).kept (by omega) fun b hA hlt => ⟨?_, by have := hA.1; omega, fun e => ?_⟩
    · rw [hg.block b hlt (fun e => by have := hov b e.symm; have := hA.1; omega)]
    · rcases hat b e with e | e
      · have := hov b e; have := hA.1; omega
      · omega

/-- The boxes of a grammar, of a step, of the result, of nothing; and what is made so far. -/
structure D8 (w : World) (T N : Nat) (ra : Option Addr) (rc : Nat) (R : List Ru) (s : Stp) (ob : Nat) (M : Nat) (ov : Value) (RL : List (Value × Ru)) (wq : World) : Prop where
  g0 : wq.cell? ⟨w.heap.size, 0, none⟩ = some (.int .i64 T)
  g1 : wq.cell? ⟨w.heap.size, 1, none⟩ = some (.int .i64 N)
  g2 : wq.cell? ⟨w.heap.size, 2, none⟩ = some (.slice ra R.length rc)
  s0 : wq.cell? ⟨w.heap.size + 1, 0, none⟩ = some (.int .i64 s.op)
  s1 : wq.cell? ⟨w.heap.size + 1, 1, none⟩ = some (.int .i64 s.a)
  s2 : wq.cell? ⟨w.heap.size + 1, 2, none⟩ = some (.int .i64 s.b)
  s3 : wq.cell? ⟨w.heap.size + 1, 3, none⟩ = some (.int .i64 s.c)
  x0 : wq.cell? ⟨w.heap.size + 2, 0, none⟩ = some (.int .i64 0)
  x1 : wq.cell? ⟨w.heap.size + 2, 1, none⟩ = some (.int .i64 0)
  x2 : wq.cell? ⟨w.heap.size + 2, 2, none⟩ = some (.slice none 0 0)
  xf : ∀ o, wq.frozen? ⟨w.heap.size + 2, o, none⟩ = false
  n0 : wq.cell? ⟨w.heap.size + 3, 0, none⟩ = some (.int .i64 0)
  n1 : wq.cell? ⟨w.heap.size + 3, 1, none⟩ = some (.int .i64 0)
  n2 : wq.cell? ⟨w.heap.size + 3, 2, none⟩ = some (.slice none 0 0)
  o0 : wq.cell? ⟨ob, 0, none⟩ = some (.int .i64 T)
  o1 : wq.cell? ⟨ob, 1, none⟩ = some (.int .i64 M)
  o2 : wq.cell? ⟨ob, 2, none⟩ = some ov
  of : ∀ o, wq.frozen? ⟨ob, o, none⟩ = false
  olo : w.heap.size + 4 ≤ ob
  rl : RlIn wq (ob + 1) ov RL
  rules : RulesAt wq w.heap.size (.slice ra R.length rc) R
  below : Below w.heap.size w wq

section
variable {w wq w' : World} {T N : Nat} {ra : Option Addr} {rc : Nat} {R : List Ru} {s : Stp} {ob M : Nat} {ov : Value} {RL : List (Value × Ru)}
theorem D8.lt (h : D8 w T N ra rc R s ob M ov RL wq) : ob < wq.heap.size := World.block_lt_of_cell? _ _ h.o0
theorem D8.later (h : D8 w T N ra rc R s ob M ov RL wq) (hb : Below wq.heap.size wq w') : D8 w T N ra rc R s ob M ov RL w' := by
  have hlt := h.lt
  have hlo := h.olo
  exact ⟨(hb.cell (by simp only; omega)).trans h.g0, (hb.cell (by simp only; omega)).trans h.g1, (hb.cell (by simp only; omega)).trans h.g2, (hb.cell (by simp only; omega)).trans h.s0, (hb.cell (by simp only; omega)).trans h.s1, (hb.cell (by simp only; omega)).trans h.s2, (hb.cell (by simp only; omega)).trans h.s3,
    (hb.cell (by simp only; omega)).trans h.x0, (hb.cell (by simp only; omega)).trans h.x1, (hb.cell (by simp only; omega)).trans h.x2, fun o => (hb.frozen (by simp only; omega)).trans (h.xf o), (hb.cell (by simp only; omega)).trans h.n0, (hb.cell (by simp only; omega)).trans h.n1, (hb.cell (by simp only; omega)).trans h.n2,
    (hb.cell (by simp only; omega)).trans h.o0, (hb.cell (by simp only; omega)).trans h.o1, (hb.cell (by simp only; omega)).trans h.o2, fun o => (hb.frozen (by simp only; omega)).trans (h.of o), h.olo, h.rl.below hb, h.rules.below (hb.mono (by omega)), h.below.trans (hb.mono (by omega))⟩

/-- A cell of the made grammar's box is written; the rules may have turned. -/
theorem D8.set (h : D8 w T N ra rc R s ob M ov RL wq) {w6 : World} {M' : Nat} {nv : Value} {RN : List (Value × Ru)} {i : Nat} {u : Value} (hs : wq.heap.size ≤ w6.heap.size) (hk : ∀ b, b < ob + 1 → w6.heap[b]? = wq.heap[b]?) (hB : Below w.heap.size w w6) (hrl : RlIn w6 (ob + 1) nv RN) (hi : (i = 1 ∧ u = .int .i64 M' ∧ nv = ov) ∨ (i = 2 ∧ u = nv ∧ M' = M)) : D8 w T N ra rc R s ob M' nv RN (w6.setCell ⟨ob, i, none⟩ u) := by
  have hlt := h.lt
  have hlo := h.olo
  have c6 : ∀ b o, b < ob + 1 → w6.cell? ⟨b, o, none⟩ = wq.cell? ⟨b, o, none⟩ := fun b o hb => World.cell?_of_block (w := wq) (a := ⟨b, o, none⟩) (hk b hb)
  have keep : ∀ b o v, b < ob → wq.cell? ⟨b, o, none⟩ = some v → (w6.setCell ⟨ob, i, none⟩ u).cell? ⟨b, o, none⟩ = some v := fun b o v hb hv => by
    rw [cell_set_other (.inl (by simp only; omega)), c6 b o (by omega)]; exact hv
  have kout : ∀ o v, o ≠ i → wq.cell? ⟨ob, o, none⟩ = some v → (w6.setCell ⟨ob, i, none⟩ u).cell? ⟨ob, o, none⟩ = some v := fun o v ho hv => by
    rw [cell_set_other (.inr (by simpa using ho)), c6 ob o (by omega)]; exact hv
  have krl : RlIn (w6.setCell ⟨ob, i, none⟩ u) (ob + 1) nv RN := by
    refine ⟨?_, fun x hx => (hrl.sym x hx).kept (by simp) fun b hA _ => ⟨Below.heap_setCell _ _ _ _ (by have := hA.1; simp only; omega), hA⟩⟩
    obtain ⟨z1, z2 | ⟨g', c', cur, e, z2, z3, z4⟩⟩ := hrl.own
    · exact ⟨z1, .inl z2⟩
    · exact ⟨z1, .inr ⟨g', c', cur, e, z2, by rw [Below.heap_setCell _ _ _ _ (by simp only; omega)]; exact z3, z4⟩⟩
  have kru : RulesAt (w6.setCell ⟨ob, i, none⟩ u) w.heap.size (.slice ra R.length rc) R := by
    have h8 := hB.setCell (p := ⟨ob, i, none⟩) (by simp only; omega) u
    refine h.rules.below ⟨h8.os.trans h.below.os.symm, h8.tape.trans h.below.tape.symm, h8.output.trans h.below.output.symm, by simpa using hs, fun k hk => (h8.block k hk).trans (h.below.block k hk).symm⟩
  have kf : ∀ b o, b < ob + 1 → wq.frozen? ⟨b, o, none⟩ = false → (w6.setCell ⟨ob, i, none⟩ u).frozen? ⟨b, o, none⟩ = false := fun b o hb hv =>
    (World.frozen?_setCell _ _ _ _).trans ((World.frozen?_of_block (w := wq) (a := ⟨b, o, none⟩) (hk b hb)).trans hv)
  have k1 : (w6.setCell ⟨ob, i, none⟩ u).cell? ⟨ob, 1, none⟩ = some (.int .i64 M') := by
    rcases hi with ⟨rfl, rfl, _⟩ | ⟨rfl, _, rfl⟩
    · exact World.cell?_setCell_same _ _ _ ((c6 ob 1 (by omega)).trans h.o1)
    · exact kout _ _ (by omega) h.o1
  have k2 : (w6.setCell ⟨ob, i, none⟩ u).cell? ⟨ob, 2, none⟩ = some nv := by
    rcases hi with ⟨rfl, _, rfl⟩ | ⟨rfl, rfl, _⟩
    · exact kout _ _ (by omega) h.o2
    · exact World.cell?_setCell_same _ _ _ ((c6 ob 2 (by omega)).trans h.o2)
  have hi0 : 0 ≠ i := by rcases hi with ⟨rfl, _⟩ | ⟨rfl, _⟩ <;> omega
  exact ⟨keep _ _ _ (by omega) h.g0, keep _ _ _ (by omega) h.g1, keep _ _ _ (by omega) h.g2, keep _ _ _ (by omega) h.s0, keep _ _ _ (by omega) h.s1, keep _ _ _ (by omega) h.s2, keep _ _ _ (by omega) h.s3, keep _ _ _ (by omega) h.x0, keep _ _ _ (by omega) h.x1, keep _ _ _ (by omega) h.x2, fun o => kf _ _ (by omega) (h.xf o), keep _ _ _ (by omega) h.n0, keep _ _ _ (by omega) h.n1, keep _ _ _ (by omega) h.n2, kout _ _ hi0 h.o0, k1, k2, fun o => kf _ _ (by omega) (h.of o), h.olo, krl, kru, hB.setCell (by simp only; omega) _⟩
end

end Go.Proofs.Ytikjekfpgklbdaa
