/- The contract of package step's (extract).outcome. -/
import Derived.Test.YtikjekfpgklbdaaStCatAndStepEx
namespace Go.Proofs.Ytikjekfpgklbdaa
open Go.RowKit

set_option maxRecDepth 100000 in
set_option maxHeartbeats 12800000 in
theorem st_outE {w : World} {T : Int} {N ka bn cn m : Nat} {ra : Option Addr} {rc : Nat} {op fr fo : Int} {R : List Ru} {L : Int} {l : List Sy} (hr : RulesAt w w.heap.size (.slice ra R.length rc) R) (hl : R.length ≤ 1000) (hl2 : ∀ q, q < R.length → (R.getD q (0, [])).2.length ≤ 1000) (hN : N ≤ 1000) (hk : ka < R.length) (hx : R.getD ka (0, []) = (L, l)) (hbc : bn < cn) (hcl : l.length = cn + m) :
    Calls Try.prog 82 #[.agg #[.int .i64 T, .int .i64 N, .slice ra R.length rc, .int .i64 op, .int .i64 ka, .int .i64 bn, .int .i64 cn, .int .i64 fr, .int .i64 fo]] w fun e w' => ∃ lv RL, e = .returned (.agg #[.int .i64 T, .int .i64 (N + 1), lv]) ∧ RlIn w' w.heap.size lv RL ∧ (RL.map fun x => x.2) = R.set ka (L, l.take bn ++ (false, (N : Int)) :: l.drop cn) ++ [((N : Int), (l.take cn).drop bn)] ∧ Below w.heap.size w w' := by
  obtain ⟨cs, hcs⟩ : ∃ cs : Array Value, #[.int .i64 T, .int .i64 N, .slice ra R.length rc, .int .i64 op, .int .i64 ka, .int .i64 bn, .int .i64 cn, .int .i64 fr, .int .i64 fo] = cs := ⟨_, rfl⟩
  have hC0 : CBox w cs 86 ra rc R ((w.alloc (.cells cs 86)).alloc (.cells #[.int .i64 0, .int .i64 0, .slice none 0 0] 24)) := cbox_start hr
  rw [← hcs] at hC0
  obtain ⟨W0, hW0⟩ : ∃ W, (w.alloc (.cells #[.int .i64 T, .int .i64 N, .slice ra R.length rc, .int .i64 op, .int .i64 ka, .int .i64 bn, .int .i64 cn, .int .i64 fr, .int .i64 fo] 86)).alloc (.cells #[.int .i64 0, .int .i64 0, .slice none 0 0] 24) = W := ⟨_, rfl⟩
  rw [hW0, hcs] at hC0
  have HCS : Hid (#[.int .i64 T, .int .i64 N, .slice ra R.length rc, .int .i64 op, .int .i64 ka, .int .i64 bn, .int .i64 cn, .int .i64 fr, .int .i64 fo] = cs) := hcs
  have HCell : Hid (∀ wq, CBox w cs 86 ra rc R wq → wq.cell? ⟨w.heap.size, 0, none⟩ = some (.int .i64 T) ∧ wq.cell? ⟨w.heap.size, 1, none⟩ = some (.int .i64 N) ∧ wq.cell? ⟨w.heap.size, 2, none⟩ = some (.slice ra R.length rc) ∧ wq.cell? ⟨w.heap.size, 3, none⟩ = some (.int .i64 op) ∧ wq.cell? ⟨w.heap.size, 4, none⟩ = some (.int .i64 ka) ∧ wq.cell? ⟨w.heap.size, 5, none⟩ = some (.int .i64 bn) ∧ wq.cell? ⟨w.heap.size, 6, none⟩ = some (.int .i64 cn)) := fun wq hq => by
    refine ⟨hq.cell ?_, hq.cell ?_, hq.cell ?_, hq.cell ?_, hq.cell ?_, hq.cell ?_, hq.cell ?_⟩ <;> (rw [← HCS.out]; rfl)
  obtain ⟨x0, x1, x2, x3, x4, x5, x6⟩ := HCell.out W0 hC0
  obtain ⟨b0, o0, rc0, qa, qc, hv, _, k1, k2, hsy⟩ := hC0.rules.syms hk
  cases hv
  have hn8 := hl2 ka hk
  rw [hx] at k1 k2 hsy hn8
  simp only at k1 k2 hsy hn8
  have hqc : l.length ≤ qc := by obtain ⟨_, _, hv, hle⟩ := hsy.1; cases hv; exact hle
  obtain ⟨ad, rfl⟩ := hsy.someG (by omega)
  rw [hcl] at k2 hn8 hqc
  have HSy : Hid (∀ wq, CBox w cs 86 (some ⟨b0, o0, none⟩) rc R wq → Below W0.heap.size W0 wq → SymsAt wq (.slice (some ad) (cn + m) qc) l) := fun wq _ hB => by
    have := hsy.same (same_below hB)
    rw [hcl] at this
    exact this
  have HC0 : Hid (CBox w cs 86 (some ⟨b0, o0, none⟩) rc R W0) := hC0
  have cop := st_copies (w := W0) (T := T) (N := N) (op := op) (a := ka) (b := bn) (c := cn) (hC0.rules.mono (Nat.le_trans (by omega) hC0.size)) hl hl2
  have HX : Hid (R.getD ka (0, []) = (L, l) ∧ l.length = cn + m) := ⟨hx, hcl⟩
  have i0 : (0 : Int) ≤ (ka : Int) := Int.natCast_nonneg _
  have i1 : (ka : Int) < (R.length : Int) := by omega
  clear hr hl2 hx hcl hC0 hcs hsy
  go_enter Try.func82, Try.ntmps82
  go_upto_region 3 with (go_at_call 76; refine cop.mono ?_; rintro e wq ⟨lv, RL, rfl, hO, hmap, hBq⟩; clear cop)
  have hlen : RL.length = R.length := by rw [← hmap, List.length_map]
  obtain ⟨g, cap, hlv, hg0, _⟩ := hO.rlOwn.form (by omega)
  subst hlv
  obtain ⟨Wd, hWd⟩ : ∃ W, wq.drew = W := ⟨_, rfl⟩
  have hBd : Below W0.heap.size W0 Wd := by rw [← hWd]; exact hBq.drew
  have hCd : CBox w cs 86 (some ⟨b0, o0, none⟩) rc R Wd := HC0.out.next hBd
  have hRd : RlIn Wd (w.heap.size + 2) (.slice (some ⟨g, 0, none⟩) RL.length cap) RL := by
    have := (hO.rlIn.mono HC0.out.size).below (w' := Wd) (by rw [← hWd]; exact (Below.refl _ _).drew)
    exact this
  have HM : Hid ((RL.map fun x => x.2) = R ∧ RL.length = R.length) := ⟨hmap, hlen⟩
  have HRd : Hid (RlIn Wd (w.heap.size + 2) (.slice (some ⟨g, 0, none⟩) RL.length cap) RL) := hRd
  have HCd : Hid (CBox w cs 86 (some ⟨b0, o0, none⟩) rc R Wd) := hCd
  have HBd : Hid (Below W0.heap.size W0 Wd) := hBd
  rw [hlen]
  have hup := fun w => sy_uptoG (ad := ad) (f := bn) (sl := cn + m) (lc := qc) (fi := (bn : Int)) rfl (by omega) w
  obtain ⟨A, hA, hA'⟩ := sy_from (la := some ad) (f := cn) (n := m) (sl := cn + m) (lc := qc) (fi := (cn : Int)) rfl rfl
  have HA' : Hid (qc ≠ cn → A = (some ad).map (·.add (cn * 2))) := hA'
  have S0 := HCell.out Wd hCd
  clear hO hmap hlen hBq hCd hRd hBd hA' k1 k2 x0 x1 x2 x3 x4 x5 x6 hW0
  refine wp_region_mix [0, 1, 2, 3, 4, 5, 6, 7, 8, 9, 10, 11, 12, 15, 16, 17, 18, 19, 20] 7 25 (fun wq => wq.cell? ⟨w.heap.size, 0, none⟩ = some (.int .i64 T) ∧ wq.cell? ⟨w.heap.size, 1, none⟩ = some (.int .i64 N) ∧ wq.cell? ⟨w.heap.size, 2, none⟩ = some (.slice (some ⟨b0, o0, none⟩) R.length rc) ∧ wq.cell? ⟨w.heap.size, 3, none⟩ = some (.int .i64 op) ∧ wq.cell? ⟨w.heap.size, 4, none⟩ = some (.int .i64 ka) ∧ wq.cell? ⟨w.heap.size, 5, none⟩ = some (.int .i64 bn) ∧ wq.cell? ⟨w.heap.size, 6, none⟩ = some (.int .i64 cn)) (by kernel_rfl) (by kernel_rfl) (by rw [hWd]; exact S0) ?_
  rw [hWd]
  clear hWd S0
  iterate 19
    refine StillI.con8 (v := ?_) rfl (by rfl) ?_ ?_
    rotate_left
    · intro w' hSw
      obtain ⟨z0, z1, z2, z3, z4, z5, z6⟩ := hSw
      go_simp
      try with_reducible rfl
    simp only [Act.put, List.setIfInBounds_toArray, List.set_cons_zero, List.set_cons_succ]
  rw [StillI]
  have mo := st_more (w := Wd) (T := T) (N := N) (ra := some ⟨b0, o0, none⟩) (rn := R.length) (rc := rc) (op := op) (a := ka) (b := bn) (c := cn)
  refine TailC.one (i := 13) (by kernel_rfl) ⟨_, rfl, fun K hK => ?_⟩
  go_simp
  refine mo.mono ?_
  rintro e w3 ⟨rfl, hB3⟩
  dsimp only
  have hC3 := HCd.out.next hB3
  refine hK.out _ _ (fun _ => HCell.out w3 hC3) ?_
  clear hK mo
  have hB4 : Below Wd.heap.size Wd (w3.alloc (.cells #[.bool false, .int .i64 N] 52)) := hB3.alloc hB3.size _
  refine TailC.one (i := 14) (by kernel_rfl) ⟨_, rfl, fun K hK => ?_⟩
  go_simp
  refine hK.out _ _ (fun _ => HCell.out _ (HCd.out.next hB4)) ?_
  clear hK
  obtain ⟨w4, hw4⟩ : ∃ W, w3.alloc (.cells #[.bool false, .int .i64 N] 52) = W := ⟨_, rfl⟩
  have hsr : SymsAt w4 (.slice (some ⟨w3.heap.size, 0, none⟩) 1 1) [(false, (N : Int))] := by rw [← hw4]; exact sym_row
  rw [hw4] at hB4 ⊢
  clear hw4
  have hB5 : Below w4.heap.size w4 (w4.alloc (.cells #[.slice (some ad) bn qc, .slice (some ⟨w3.heap.size, 0, none⟩) 1 1, .slice A m (qc - cn)] 41)) := (Below.refl _ _).alloc (Nat.le_refl _) _
  refine TailC.one (i := 21) (by kernel_rfl) ⟨_, rfl, fun K hK => ?_⟩
  go_simp
  have hB5' : Below Wd.heap.size Wd (w4.alloc (.cells #[.slice (some ad) bn qc, .slice (some ⟨w3.heap.size, 0, none⟩) 1 1, .slice A m (qc - cn)] 41)) := hB4.trans (hB5.mono hB4.size)
  refine hK.out _ _ (fun _ => HCell.out _ (HCd.out.next hB5')) ?_
  clear hK
  obtain ⟨w5, hw5⟩ : ∃ W, w4.alloc (.cells #[.slice (some ad) bn qc, .slice (some ⟨w3.heap.size, 0, none⟩) 1 1, .slice A m (qc - cn)] 41) = W := ⟨_, rfl⟩
  have p0 : w5.cell? ⟨w4.heap.size, 0, none⟩ = some (.slice (some ad) bn qc) := by rw [← hw5]; exact cell_of_blk (heap_alloc_new _ _) rfl
  have p1 : w5.cell? ⟨w4.heap.size, 1, none⟩ = some (.slice (some ⟨w3.heap.size, 0, none⟩) 1 1) := by rw [← hw5]; exact cell_of_blk (heap_alloc_new _ _) rfl
  have p2 : w5.cell? ⟨w4.heap.size, 2, none⟩ = some (.slice A m (qc - cn)) := by rw [← hw5]; exact cell_of_blk (heap_alloc_new _ _) rfl
  rw [hw5] at hB5 hB5' ⊢
  clear hw5
  have hs5 : SymsAt w5 (.slice (some ad) l.length qc) l := by
    rw [HX.out.2]
    exact HSy.out w5 (HCd.out.next hB5') (HBd.out.trans (hB5'.mono HBd.out.size))
  have hlt : (l.take bn).length = bn := by rw [List.length_take, HX.out.2]; omega
  have hld : (l.drop cn).length = m := by rw [List.length_drop, HX.out.2]; omega
  have cc := cat3 p0 p1 p2 (hs5.takeG (f := bn) (by rw [HX.out.2]; omega)) (hsr.same (same_below hB5)) (hs5.dropG HX.out.2 HA'.out) (by rw [hlt, hld]; simp only [List.length_singleton]; omega)
  rw [hlt, hld] at cc
  simp only [List.length_singleton] at cc
  refine TailC.one (i := 22) (by kernel_rfl) ⟨_, rfl, fun K hK => ?_⟩
  go_simp
  refine cc.mono ?_
  rintro e w6 ⟨a6, d6, rfl, hown6, hB6⟩
  dsimp only
  have hB6' : Below Wd.heap.size Wd w6 := hB5'.trans (hB6.mono hB5'.size)
  refine hK.out _ _ (fun _ => HCell.out _ (HCd.out.next hB6')) ?_
  clear hK cc
  refine TailC.one (i := 23) (by kernel_rfl) ⟨_, rfl, fun K hK => ?_⟩
  go_simp
  refine hK.out _ _ (fun _ => HCell.out _ (HCd.out.next hB6')) ?_
  clear hK
  refine TailC.one (i := 24) (by kernel_rfl) ⟨_, rfl, fun K hK => ?_⟩
  go_simp
  refine hK.out _ _ (fun _ => HCell.out _ (HCd.out.next hB6')) ?_
  clear hK
  have hR6 := HRd.out.below hB6'
  obtain ⟨u, hu⟩ : ∃ u, (flatR RL)[ka * 2 + 1]? = some u := ⟨_, List.getElem?_eq_getElem (by rw [flatR_len, HM.out.2]; omega)⟩
  have c6 : w6.cell? ⟨g, ka * 2 + 1, none⟩ = some u := (hR6.own.cellAt (ka * 2 + 1) (by rw [HM.out.2]; omega)).trans hu
  have f6 : w6.frozen? ⟨g, ka * 2 + 1, none⟩ = false := hR6.own.frozenAt (ka * 2 + 1)
  have hlen6 : (l.take bn ++ [(false, (N : Int))] ++ l.drop cn).length = bn + 1 + m := by rw [List.length_append, List.length_append, hlt, hld]; rfl
  have hkr : ka < RL.length := by rw [HM.out.2]; exact hk
  have hR7 := HRd.out.setR (w5 := w6) (k := ka) (v := .slice a6 (bn + 1 + m) d6) (l := l.take bn ++ [(false, (N : Int))] ++ l.drop cn) hB6' hkr (by rw [hlen6]; exact own_mono hown6 hB5'.size)
  have hC7 : CBox w cs 86 (some ⟨b0, o0, none⟩) rc R (w6.setCell ⟨g, ka * 2 + 1, none⟩ (.slice a6 (bn + 1 + m) d6)) := HCd.out.later ((hB6'.mono HCd.out.size).setCell (by simp only; have := HCd.out.size; have := HC0.out.size; omega) _)
  refine TailC.last (i := 25) (by kernel_rfl) ⟨_, rfl, fun K hK => ?_⟩
  go_simp
  refine hK.out _ _ (fun h => absurd h (by omega)) (NoPanic.normal ?_)
  clear hK
  obtain ⟨RM, hRM⟩ : ∃ RM, RL.set ka (.slice a6 (bn + 1 + m) d6, (RL[ka].2.1, l.take bn ++ [(false, (N : Int))] ++ l.drop cn)) = RM := ⟨_, rfl⟩
  have hMap : (RM.map fun x => x.2) = R.set ka (L, l.take bn ++ (false, (N : Int)) :: l.drop cn) := by
    have e1 : RL[ka].2 = (L, l) := by
      have h1 : (RL.map fun x => x.2).getD ka (0, []) = (L, l) := by rw [HM.out.1]; exact HX.out.1
      simpa [List.getD, hkr] using h1
    rw [← hRM, List.map_set, HM.out.1, e1]
    simp
  have hLen : RM.length = R.length := by rw [← hRM, List.length_set]; exact HM.out.2
  rw [hRM, HM.out.2.trans hLen.symm] at hR7
  have HB6 : Hid (Below W0.heap.size W0 w6) := HBd.out.trans (hB6'.mono HBd.out.size)
  have hgs : w.heap.size + 2 ≤ g := Nat.le_trans HC0.out.size hg0
  obtain ⟨w7, hw7⟩ : ∃ W, w6.setCell ⟨g, ka * 2 + 1, none⟩ (.slice a6 (bn + 1 + m) d6) = W := ⟨_, rfl⟩
  have HS7 : Hid (∀ wq, Below w7.heap.size w7 wq → SymsAt wq (.slice (some ad) l.length qc) l) := fun wq hB => by
    have h0 := HSy.out W0 HC0.out (Below.refl _ _)
    rw [HX.out.2]
    refine SymsAt.same (w := w7) ?_ (same_below hB)
    rw [← hw7]
    have h6 := hs5.same (same_below hB6)
    rw [HX.out.2] at h6
    refine ⟨h6.1, fun j hj => ?_⟩
    obtain ⟨b, o, c, h1, h2, h3⟩ := h0.2 j hj
    obtain ⟨b', o', c', h1', h2', h3'⟩ := h6.2 j hj
    rw [h1] at h1'
    cases h1'
    have hbl := World.block_lt_of_cell? _ _ h2
    refine ⟨b, o, c, h1, ?_, ?_⟩
    · rw [cell_set_other (.inl (by simp only at hbl ⊢; omega))]; exact h2'
    · rw [cell_set_other (.inl (by simp only at hbl ⊢; omega))]; exact h3'
  rw [hw7] at hR7 hC7 ⊢
  clear hw7 c6 f6 hB6 hB6' hB5 hB5' hB4 hB3 hs5 hsr hown6 p0 p1 p2 hu HRd HCd HBd hC3 hR6 hRM hkr
  have HMap : Hid ((RM.map fun x => x.2) = R.set ka (L, l.take bn ++ (false, (N : Int)) :: l.drop cn)) := hMap
  clear hMap HM
  go_upto_region 4 with fail
  go_cut [4] from 44 to 72 (fun s4 wx => ∃ lv RK, lv = s4 ∧ RlIn wx (w.heap.size + 2) lv RK ∧ (RK.map fun x => x.2) = R.set ka (L, l.take bn ++ (false, (N : Int)) :: l.drop cn) ++ [((N : Int), (l.take cn).drop bn)] ∧ CBox w cs 86 (some ⟨b0, o0, none⟩) rc R wx)
  case first =>
    obtain ⟨Wd, hWd⟩ : ∃ W, w7.drew = W := ⟨_, rfl⟩
    have hB7 : Below w7.heap.size w7 Wd := by rw [← hWd]; exact (Below.refl _ _).drew
    have HCd : Hid (CBox w cs 86 (some ⟨b0, o0, none⟩) rc R Wd) := hC7.next hB7
    have HRd : Hid (RlIn Wd (w.heap.size + 2) (.slice (some ⟨g, 0, none⟩) RM.length cap) RM) := hR7.below hB7
    have HLen : Hid (RM.length = R.length) := hLen
    obtain ⟨nn, hnn⟩ : ∃ nn, cn = bn + nn := ⟨cn - bn, by omega⟩
    have hlc : (l.take cn).length = cn := by rw [List.length_take, HX.out.2]; omega
    have HLm : Hid (((l.take cn).drop bn).length = nn) := by show _ = _; rw [List.length_drop, hlc]; omega
    obtain ⟨A2, hA2, hA2'⟩ := sy_midG (ad := ad) (f := bn) (n := nn) (g := cn) (sl := cn + m) (lc := qc) (fi := (bn : Int)) (gi := (cn : Int)) rfl rfl hnn (by omega)
    have HSm : Hid (∀ wq, Below Wd.heap.size Wd wq → SymsAt wq (.slice A2 nn (qc - bn)) ((l.take cn).drop bn)) := fun wq hB => by
      have h1 := (HS7.out wq (hB7.trans (hB.mono hB7.size))).takeG (f := cn) (by rw [HX.out.2]; omega)
      have h2 : SymsAt wq (.slice (some ad) (l.take cn).length qc) (l.take cn) := by rw [hlc]; exact h1
      exact h2.dropG (by rw [hlc]; exact hnn) (fun h => by rw [hA2' h]; rfl)
    have S0 := HCell.out Wd HCd.out
    have HNN : Hid (cn = bn + nn) := hnn
    have hRl8 : R.length + 1 ≤ 1001 := by omega
    clear hB7 hC7 hR7 hLen hA2' hnn hlc
    refine wp_region_mix [0, 1, 2, 5, 6, 7, 8, 9, 10, 11, 12, 13, 14] 8 20 (fun wq => wq.cell? ⟨w.heap.size, 0, none⟩ = some (.int .i64 T) ∧ wq.cell? ⟨w.heap.size, 1, none⟩ = some (.int .i64 N) ∧ wq.cell? ⟨w.heap.size, 2, none⟩ = some (.slice (some ⟨b0, o0, none⟩) R.length rc) ∧ wq.cell? ⟨w.heap.size, 3, none⟩ = some (.int .i64 op) ∧ wq.cell? ⟨w.heap.size, 4, none⟩ = some (.int .i64 ka) ∧ wq.cell? ⟨w.heap.size, 5, none⟩ = some (.int .i64 bn) ∧ wq.cell? ⟨w.heap.size, 6, none⟩ = some (.int .i64 cn)) (by kernel_rfl) (by kernel_rfl) (by rw [hWd]; exact S0) ?_
    rw [hWd]
    clear hWd S0
    iterate 13
      refine StillI.con8 (v := ?_) rfl (by rfl) ?_ ?_
      rotate_left
      · intro w' hSw
        obtain ⟨z0, z1, z2, z3, z4, z5, z6⟩ := hSw
        go_simp
        try with_reducible rfl
      simp only [Act.put, List.setIfInBounds_toArray, List.set_cons_zero, List.set_cons_succ]
    rw [StillI]
    refine TailC.two (i := 3) (i' := 15) (by kernel_rfl) ⟨_, rfl, fun K hK => ?_⟩ ⟨_, rfl, fun K hK => ?_⟩
    · have mo := st_more (w := Wd) (T := T) (N := N) (ra := some ⟨b0, o0, none⟩) (rn := R.length) (rc := rc) (op := op) (a := ka) (b := bn) (c := cn)
      go_simp
      refine mo.mono ?_
      rintro e w3 ⟨rfl, hB3⟩
      dsimp only
      refine hK.out _ _ (fun _ => HCell.out w3 (HCd.out.next hB3)) ?_
      clear hK mo
      refine TailC.read (i := 4) (v := .int .i64 N) rfl (by kernel_rfl) (by rfl) (fun w' _ => by unfold execOp; go_simp; unfold Instr.field asAgg; go_simp) (HCell.out w3 (HCd.out.next hB3)) ?_
      simp only [Act.put, List.setIfInBounds_toArray, List.set_cons_zero, List.set_cons_succ]
      have hBz : Below Wd.heap.size Wd (w3.alloc (.cells #[.slice A2 nn (qc - bn)] 41)) := hB3.alloc hB3.size _
      refine TailC.one (i := 15) (by kernel_rfl) ⟨_, rfl, fun K hK => ?_⟩
      go_simp
      refine hK.out _ _ (fun _ => HCell.out _ (HCd.out.next hBz)) ?_
      clear hK
      have pz0 : (w3.alloc (.cells #[.slice A2 nn (qc - bn)] 41)).cell? ⟨w3.heap.size, 0, none⟩ = some (.slice A2 nn (qc - bn)) := cell_of_blk (heap_alloc_new _ _) rfl
      obtain ⟨pz, hpz⟩ : ∃ x, w3.heap.size = x := ⟨_, rfl⟩
      obtain ⟨wz, hwz⟩ : ∃ W, w3.alloc (.cells #[.slice A2 nn (qc - bn)] 41) = W := ⟨_, rfl⟩
      rw [hwz] at hBz pz0 ⊢
      rw [hpz] at pz0 ⊢
      clear hwz hpz hB3
      have cc := cat1 (w := wz) (pb := pz) (va := .slice A2 nn (qc - bn)) (la := (l.take cn).drop bn) pz0 (HSm.out wz hBz) (by rw [HLm.out]; have := HNN.out; omega)
      rw [HLm.out] at cc
      refine TailC.one (i := 16) (by kernel_rfl) ⟨_, rfl, fun K hK => ?_⟩
      go_simp
      refine cc.mono ?_
      rintro e wa ⟨aa, da, rfl, hona, hBa⟩
      dsimp only
      have hBa2 : Below Wd.heap.size Wd wa := hBz.trans (hBa.mono hBz.size)
      refine hK.out _ _ (fun _ => HCell.out _ (HCd.out.next hBa2)) ?_
      clear hK cc
      refine TailC.one (i := 17) (by kernel_rfl) ⟨_, rfl, fun K hK => ?_⟩
      go_simp
      refine hK.out _ _ (fun _ => HCell.out _ (HCd.out.next hBa2)) ?_
      clear hK
      have hBb : Below Wd.heap.size Wd (wa.alloc (.cells #[.int .i64 N, .slice aa nn da] 44)) := hBa2.alloc hBa2.size _
      have hrow : RowAt (wa.alloc (.cells #[.int .i64 N, .slice aa nn da] 44)) (.slice (some ⟨wa.heap.size, 0, none⟩) 1 1) 1 [.int .i64 N, .slice aa nn da] := rule_row
      have ownb := own_below HRd.out.own hBb fun g hg => (HRd.out.own.lt g hg).2
      rw [HLen.out] at ownb
      have hsb : w.heap.size + 2 ≤ (wa.alloc (.cells #[.int .i64 N, .slice aa nn da] 44)).heap.size := Nat.le_trans HCd.out.size hBb.size
      refine TailC.one (i := 18) (by kernel_rfl) ⟨_, rfl, fun K hK => ?_⟩
      go_simp
      refine hK.out _ _ (fun _ => HCell.out _ (HCd.out.next hBb)) ?_
      clear hK
      refine TailC.one (i := 19) (by kernel_rfl) ⟨_, rfl, fun K hK => ?_⟩
      refine step_append_ccR rfl _ _ rfl rfl rfl rfl ownb hrow hsb (by omega) ?_
      intro a' d' wc hown6 hgrow hat
      have hBc : Below (w.heap.size + 2) Wd wc := (hBb.mono HCd.out.size).grown hgrow hsb fun k hk => (ownb.lt k hk).1
      have hCc := HCd.out.later hBc
      refine hK.out _ _ (fun _ => HCell.out _ hCc) ?_
      clear hK
      have hFin : RlIn wc (w.heap.size + 2) (.slice a' (R.length + 1) d') (RM ++ [(.slice aa nn da, ((N : Int), (l.take cn).drop bn))]) := by
        refine HRd.out.pushG (w5 := wa.alloc (.cells #[.int .i64 N, .slice aa nn da] 44)) HCd.out.size hBb ?_ hgrow ?_ ?_
        · rw [HLm.out]
          exact own_mono (hona.alloc _) hBz.size
        · rw [flatR_push, HLen.out]
          exact hown6
        · intro g hg
          exact (hat g hg).imp id fun e => by omega
      refine TailC.last (i := 20) (by kernel_rfl) ⟨_, rfl, fun K hK => ?_⟩
      go_simp
      refine hK.out _ _ (fun h => absurd h (by omega)) (NoPanic.normal ?_)
      clear hK
      go_wp2_with fail
      go_meet
      case rel => exact ⟨_, _, rfl, hFin, by rw [List.map_append, HMap.out]; rfl, hCc⟩
    · have hBy : Below Wd.heap.size Wd (Wd.alloc (.cells #[.slice A2 nn (qc - bn)] 41)) := (Below.refl _ _).alloc (Nat.le_refl _) _
      go_simp
      refine hK.out _ _ (fun _ => HCell.out _ (HCd.out.next hBy)) ?_
      clear hK
      have py0 : (Wd.alloc (.cells #[.slice A2 nn (qc - bn)] 41)).cell? ⟨Wd.heap.size, 0, none⟩ = some (.slice A2 nn (qc - bn)) := cell_of_blk (heap_alloc_new _ _) rfl
      obtain ⟨pz, hpz⟩ : ∃ x, Wd.heap.size = x := ⟨_, rfl⟩
      obtain ⟨wy, hwy⟩ : ∃ W, Wd.alloc (.cells #[.slice A2 nn (qc - bn)] 41) = W := ⟨_, rfl⟩
      rw [hwy] at hBy py0 ⊢
      rw [hpz] at py0 ⊢
      clear hwy
      have mo := st_more (w := wy) (T := T) (N := N) (ra := some ⟨b0, o0, none⟩) (rn := R.length) (rc := rc) (op := op) (a := ka) (b := bn) (c := cn)
      refine TailC.one (i := 3) (by kernel_rfl) ⟨_, rfl, fun K hK => ?_⟩
      clear hpz
      go_simp
      refine mo.mono ?_
      rintro e wz ⟨rfl, hB3⟩
      dsimp only
      have hBz : Below Wd.heap.size Wd wz := hBy.trans (hB3.mono hBy.size)
      have pz0 := (hB3.cell (World.block_lt_of_cell? _ _ py0)).trans py0
      refine hK.out _ _ (fun _ => HCell.out wz (HCd.out.next hBz)) ?_
      clear hK mo
      refine TailC.read (i := 4) (v := .int .i64 N) rfl (by kernel_rfl) (by rfl) (fun w' _ => by unfold execOp; go_simp; unfold Instr.field asAgg; go_simp) (HCell.out wz (HCd.out.next hBz)) ?_
      simp only [Act.put, List.setIfInBounds_toArray, List.set_cons_zero, List.set_cons_succ]
      clear hB3 hBy py0
      have cc := cat1 (w := wz) (pb := pz) (va := .slice A2 nn (qc - bn)) (la := (l.take cn).drop bn) pz0 (HSm.out wz hBz) (by rw [HLm.out]; have := HNN.out; omega)
      rw [HLm.out] at cc
      refine TailC.one (i := 16) (by kernel_rfl) ⟨_, rfl, fun K hK => ?_⟩
      go_simp
      refine cc.mono ?_
      rintro e wa ⟨aa, da, rfl, hona, hBa⟩
      dsimp only
      have hBa2 : Below Wd.heap.size Wd wa := hBz.trans (hBa.mono hBz.size)
      refine hK.out _ _ (fun _ => HCell.out _ (HCd.out.next hBa2)) ?_
      clear hK cc
      refine TailC.one (i := 17) (by kernel_rfl) ⟨_, rfl, fun K hK => ?_⟩
      go_simp
      refine hK.out _ _ (fun _ => HCell.out _ (HCd.out.next hBa2)) ?_
      clear hK
      have hBb : Below Wd.heap.size Wd (wa.alloc (.cells #[.int .i64 N, .slice aa nn da] 44)) := hBa2.alloc hBa2.size _
      have hrow : RowAt (wa.alloc (.cells #[.int .i64 N, .slice aa nn da] 44)) (.slice (some ⟨wa.heap.size, 0, none⟩) 1 1) 1 [.int .i64 N, .slice aa nn da] := rule_row
      have ownb := own_below HRd.out.own hBb fun g hg => (HRd.out.own.lt g hg).2
      rw [HLen.out] at ownb
      have hsb : w.heap.size + 2 ≤ (wa.alloc (.cells #[.int .i64 N, .slice aa nn da] 44)).heap.size := Nat.le_trans HCd.out.size hBb.size
      refine TailC.one (i := 18) (by kernel_rfl) ⟨_, rfl, fun K hK => ?_⟩
      go_simp
      refine hK.out _ _ (fun _ => HCell.out _ (HCd.out.next hBb)) ?_
      clear hK
      refine TailC.one (i := 19) (by kernel_rfl) ⟨_, rfl, fun K hK => ?_⟩
      refine step_append_ccR rfl _ _ rfl rfl rfl rfl ownb hrow hsb (by omega) ?_
      intro a' d' wc hown6 hgrow hat
      have hBc : Below (w.heap.size + 2) Wd wc := (hBb.mono HCd.out.size).grown hgrow hsb fun k hk => (ownb.lt k hk).1
      have hCc := HCd.out.later hBc
      refine hK.out _ _ (fun _ => HCell.out _ hCc) ?_
      clear hK
      have hFin : RlIn wc (w.heap.size + 2) (.slice a' (R.length + 1) d') (RM ++ [(.slice aa nn da, ((N : Int), (l.take cn).drop bn))]) := by
        refine HRd.out.pushG (w5 := wa.alloc (.cells #[.int .i64 N, .slice aa nn da] 44)) HCd.out.size hBb ?_ hgrow ?_ ?_
        · rw [HLm.out]
          exact own_mono (hona.alloc _) hBz.size
        · rw [flatR_push, HLen.out]
          exact hown6
        · intro g hg
          exact (hat g hg).imp id fun e => by omega
      refine TailC.last (i := 20) (by kernel_rfl) ⟨_, rfl, fun K hK => ?_⟩
      go_simp
      refine hK.out _ _ (fun h => absurd h (by omega)) (NoPanic.normal ?_)
      clear hK
      go_wp2_with fail
      go_meet
      case rel => exact ⟨_, _, rfl, hFin, by rw [List.map_append, HMap.out]; rfl, hCc⟩
  case rest =>
    obtain ⟨lv, RK, rfl, hR8, hmap8, hC8⟩ := hcut
    clear hR7 hC7
    obtain ⟨la, lc, hlv⟩ := own_form hR8.own
    subst hlv
    obtain ⟨x0, x1, x2, x3, x4, x5, x6⟩ := HCell.out wc hC8
    have HC8 : Hid (CBox w cs 86 (some ⟨b0, o0, none⟩) rc R wc) := hC8
    have HR8 : Hid (RlIn wc (w.heap.size + 2) (.slice la RK.length lc) RK) := hR8
    have HM8 : Hid ((RK.map fun x => x.2) = R.set ka (L, l.take bn ++ (false, (N : Int)) :: l.drop cn) ++ [((N : Int), (l.take cn).drop bn)]) := hmap8
    have wi := st_with (w := wc) (T := T) (N := N) (ra := some ⟨b0, o0, none⟩) (rn := R.length) (rc := rc) (op := op) (a := ka) (b := bn) (c := cn) (M := (N : Int) + 1) (oa := la) (on := RK.length) (oc := lc)
    clear hC8 hR8 hmap8
    go_wp2_with
      (go_at_call 78; refine wi.mono ?_; rintro e w3 ⟨rfl, hB3⟩
       have HC9 : Hid (CBox w cs 86 (some ⟨b0, o0, none⟩) rc R w3) := HC8.out.next hB3
       have HR9 : Hid (RlIn w3 (w.heap.size + 2) (.slice la RK.length lc) RK) := HR8.out.below hB3
       have y0 := HC9.out.y0
       have y1 := HC9.out.y1
       have y2 := HC9.out.y2
       have yf0 := HC9.out.yf 0
       have yf1 := HC9.out.yf 1
       have yf2 := HC9.out.yf 2
       clear wi hB3)
    have q0 := box3_0 (v0 := .int .i64 T) (v1 := .int .i64 (N + 1)) (v2 := .slice la RK.length lc) y0
    have q1 := box3_1 (v0 := .int .i64 T) (v1 := .int .i64 (N + 1)) (v2 := .slice la RK.length lc) y1
    have q2 := box3_2 (v0 := .int .i64 T) (v1 := .int .i64 (N + 1)) (v2 := .slice la RK.length lc) y2
    refine bodyPost_ret (v := .agg #[.int .i64 T, .int .i64 (N + 1), .slice la RK.length lc]) (by simp [results, Try.results82, go_sem, q0, q1, q2]) rfl ?_
    have ho := HC9.out.out HR9.out (.int .i64 T) (.int .i64 (N + 1)) (.slice la RK.length lc)
    exact ⟨_, RK, rfl, ho.1, HM8.out, ho.2⟩

end Go.Proofs.Ytikjekfpgklbdaa
