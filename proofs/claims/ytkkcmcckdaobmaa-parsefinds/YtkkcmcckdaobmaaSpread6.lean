/- The contract of pollardingref6.spread. -/
import Derived.Test.YtkkcmcckdaobmaaSpreadMathAndLooksMath
import Derived.Test.YtkkcmcckdaobmaaBuildMemAndHeldTail
namespace Go.Proofs.Ytkkcmcckdaobmaa
open Go.RowKit

/-- Where an automaton's rows lie. -/
structure Ads where
  sg : Nat
  scap : Nat
  ng : Nat
  ncap : Nat
  lg : Nat
  lcap : Nat
  ia : Nat → Option Addr
  ic : Nat → Nat
  rg : Nat → Nat
  rcap : Nat → Nat
  kg : Nat → Nat
  kcap : Nat → Nat

/-- A whole automaton can be read; V: the rows of its lookaheads. -/
structure AutoF (ab lim T N : Nat) (rv : Value) (R : List Ru) (nuv fiv : Value) (Nu : List Bool) (Fi : List (List Bool)) (OL : List (List It)) (NL : List (List Int)) (V : Nat × Nat → Value) (D : Ads) (w : World) : Prop where
  auto : AutoG w lim ab T N rv R
  c3 : w.cell? ⟨ab, 3, none⟩ = some nuv
  c4 : w.cell? ⟨ab, 4, none⟩ = some fiv
  nul : BoolsAt w nuv Nu
  fir : MatAt w fiv Fi
  c6 : w.cell? ⟨ab, 6, none⟩ = some (.slice (some ⟨D.sg, 0, none⟩) OL.length D.scap)
  st : ∀ i, i < OL.length → w.cell? ⟨D.sg, i, none⟩ = some (.slice (D.ia i) (OL.getD i []).length (D.ic i)) ∧ ItemsAt w w.heap.size (.slice (D.ia i) (OL.getD i []).length (D.ic i)) (OL.getD i [])
  c7 : w.cell? ⟨ab, 7, none⟩ = some (.slice (some ⟨D.ng, 0, none⟩) OL.length D.ncap)
  nx : ∀ i, i < OL.length → w.cell? ⟨D.ng, i, none⟩ = some (.slice (some ⟨D.rg i, 0, none⟩) (T + N) (D.rcap i)) ∧ ∀ x, x < T + N → w.cell? ⟨D.rg i, x, none⟩ = some (.int .i64 ((NL.getD i []).getD x 0))
  c8 : w.cell? ⟨ab, 8, none⟩ = some (.slice (some ⟨D.lg, 0, none⟩) OL.length D.lcap)
  lk : ∀ i, i < OL.length → w.cell? ⟨D.lg, i, none⟩ = some (.slice (some ⟨D.kg i, 0, none⟩) (OL.getD i []).length (D.kcap i)) ∧ ∀ j, j < (OL.getD i []).length → w.cell? ⟨D.kg i, j, none⟩ = some (V (i, j))
  cap : ∀ i, i < OL.length → T + N ≤ D.rcap i

theorem SymsAt.kept {K : Nat → Prop} {w w' : World} {b o c : Nat} {l : List Sy} (h : SymsAt w (.slice (some ⟨b, o, none⟩) l.length c) l) (hk : Kept K w w') (hb : ¬ K b) : SymsAt w' (.slice (some ⟨b, o, none⟩) l.length c) l :=
  ⟨h.1, fun j hj => by
    obtain ⟨b', o', c', e, h1, h2⟩ := h.2 j hj
    cases e
    exact ⟨b, o, c, rfl, hk.cell (p := ⟨b, o + j * 2, none⟩) hb h1, hk.cell (p := ⟨b, o + j * 2 + 1, none⟩) hb h2⟩⟩

set_option maxRecDepth 100000 in
set_option maxHeartbeats 12800000 in
theorem spread6_any {w : World} {ab lim T N B k j t : Nat} {rv nuv fiv : Value} {R : List Ru} {Nu : List Bool} {Fi : List (List Bool)} {OL : List (List It)} {NL : List (List Int)} {Ls : List SetI} {c : Tab (Nat × Nat)} {D : Ads} {X : LkX}
    (hF : ∀ w', Kept c.K w w' → AutoF ab lim T N rv R nuv fiv Nu Fi OL NL c.V D w') (hBt : Bt w B c X) (hok : AutoOk T N R OL NL Ls c.dom)
    (hT : T ≤ 8) (hR : R.length ≤ 40) (h8 : ∀ r, r ≤ R.length → (rightF R r).length ≤ 8) (hsym : ∀ r, r ≤ R.length → ∀ s ∈ rightF R r, 0 ≤ s.2 ∧ s.2 ≤ 1000) (hNm : ∀ r, r ≤ R.length → ∀ s ∈ rightF R r, s.1 = false → 0 ≤ s.2 ∧ s.2 < (N : Int)) (hNu : Nu.length = N) (hFi : Fi.length = N) (hFl : ∀ i, i < N → (Fi.getD i []).length = T)
    (hlim : ∀ b, b < lim → ¬ c.K b) (hk : k < OL.length) (hj : j < (OL.getD k []).length) (ht : t ≤ T) :
    Calls Try.prog 31 #[.pointer (some ⟨ab, 0, none⟩), .int .i64 k, .int .i64 j, .int .i64 t] w fun e w' =>
      e = .returned (.bool (sprN OL NL R T Nu Fi k j t X).2) ∧ Bt w' B c (sprN OL NL R T Nu Fi k j t X).1 ∧ Kept c.K w w' := by
  have HF : Hid (∀ w', Kept c.K w w' → AutoF ab lim T N rv R nuv fiv Nu Fi OL NL c.V D w') := hF
  have HBt : Hid (Bt w B c X) := hBt
  have HOk : Hid (AutoOk T N R OL NL Ls c.dom) := hok
  have hW := hF w (Kept.refl _ _)
  obtain ⟨rv1, hrv1⟩ := hW.auto.rules.1
  obtain ⟨_, _, hIok⟩ := hok.item hk hj
  obtain ⟨⟨r, d⟩, hrd⟩ : ∃ z, itemN OL k j = z := ⟨_, rfl⟩
  have HRD : Hid (itemN OL k j = (r, d)) := hrd
  rw [hrd] at hIok
  have hrR : r ≤ R.length := hIok.1
  have c6 := hW.c6
  obtain ⟨ck, hI⟩ := hW.st k hk
  obtain ⟨ib, io, ic', hve, hib, k3, k4⟩ := hI.2 j hj
  have hrd' : (OL.getD k []).getD j (0, 0) = (r, d) := hrd
  rw [hrd'] at k3 k4
  simp only at k3 k4
  have k4' : w.cell? ⟨ib, io + j * 2 + 1, none⟩ = some (.int .i64 d) := by rw [Nat.add_assoc]; exact k4
  have hOk369 : (OL.getD k []).length ≤ 369 := by
    have := ok_len h8 (hok.sok.rep k hk).nod (hok.sok.ok k hk)
    omega
  have k0 : (0 : Int) ≤ (k : Int) := Int.natCast_nonneg _
  have k1 : (k : Int) < (OL.length : Int) := by omega
  have j0 : (0 : Int) ≤ (j : Int) := Int.natCast_nonneg _
  have j1 : (j : Int) < ((OL.getD k []).length : Int) := by omega
  have t0 : (0 : Int) ≤ (t : Int) := Int.natCast_nonneg _
  obtain ⟨n0, hn0⟩ : ∃ n0, (OL.getD k []).length = n0 := ⟨_, rfl⟩
  have HN0 : Hid ((OL.getD k []).length = n0) := hn0
  rw [hve] at ck
  rw [hn0] at ck j1 hOk369
  obtain ⟨W, hWe⟩ : ∃ W, W = w.alloc (.cells #[.int .i64 r, .int .i64 d] 87) := ⟨_, rfl⟩
  have hKW : Kept c.K w W := by rw [hWe]; exact (Kept.refl _ _).alloc _
  have hFW := hF W hKW
  have q0 : W.cell? ⟨w.heap.size, 0, none⟩ = some (.int .i64 r) := by rw [hWe]; simp [go_sem]
  have q1 : W.cell? ⟨w.heap.size, 1, none⟩ = some (.int .i64 d) := by rw [hWe]; simp [go_sem]
  have hWs : w.heap.size < W.heap.size := by rw [hWe]; simp
  have call := right6_any hFW.auto hrR
  have h8' := h8 r hrR
  have hsy' := hsym r hrR
  obtain ⟨Rt, hRt⟩ : ∃ z, rightF R r = z := ⟨_, rfl⟩
  have HRt : Hid (rightF R r = Rt) := hRt
  rw [hRt] at call h8' hsy'
  rw [hWe] at call
  have HKW : Hid (Kept c.K w W) := hKW
  have HNm : Hid (∀ s ∈ Rt, s.1 = false → 0 ≤ s.2 ∧ s.2 < (N : Int)) := by have := hNm r hrR; rw [hRt] at this; exact this
  have HNF : Hid (Nu.length = N ∧ Fi.length = N ∧ ∀ i, i < N → (Fi.getD i []).length = T) := ⟨hNu, hFi, hFl⟩
  have HBW : Hid (Bt W B c X) := by rw [hWe]; exact hBt.alloc _
  have H8 : Hid (∀ r, r ≤ R.length → (rightF R r).length ≤ 8) := h8
  clear hF hBt hok hW hIok hrd hI hve k4 hrd' hn0 hKW hFW hsym h8 hRt hNm hNu hFi hFl
  by_cases hd : d < Rt.length
  · have e1 : decide ((Rt.length : Int) ≤ (d : Int)) = false := decide_eq_false (by omega)
    have d0 : (0 : Int) ≤ (d : Int) := Int.natCast_nonneg _
    have d1 : (d : Int) < (Rt.length : Int) := by omega
    have hge : Rt[d]? = some (Rt.getD d (false, 0)) := by simp [List.getD, hd]
    have hms : Rt.getD d (false, 0) ∈ Rt := by simp [List.getD, hd]
    have hsr := hsy' _ hms
    have hnm := HNm.out _ hms
    obtain ⟨⟨st, v⟩, htv⟩ : ∃ z, Rt.getD d (false, 0) = z := ⟨_, rfl⟩
    rw [htv] at hge hsr hnm
    have HTV : Hid (Rt.getD d (false, 0) = (st, v)) := htv
    have hs0 : (rightF R (itemN OL k j).1)[(itemN OL k j).2]? = some (st, v) := by rw [HRD.out]; simp only; rw [HRt.out, hge]
    obtain ⟨o1, o2, o3, o4, o5⟩ := HOk.out.on hk hj hs0
    rw [HRD.out] at o3
    simp only at o3
    have HS0 : Hid ((rightF R (itemN OL k j).1)[(itemN OL k j).2]? = some (st, v)) := hs0
    obtain ⟨h1, h2, h3⟩ := hasF_get o3
    obtain ⟨z, hz⟩ : ∃ z, toN NL T k (st, v) = z := ⟨_, rfl⟩
    rw [hz] at o1 o2 h1 h2 h3
    obtain ⟨y, hy⟩ : ∃ y, (hasF (OL.getD z []) (r, d + 1)).toNat = y := ⟨_, rfl⟩
    rw [hy] at h1 h2 h3
    obtain ⟨x, hx⟩ : ∃ x, (numF T (st, v)).toNat = x := ⟨_, rfl⟩
    rw [hx] at o1 o4 o5
    have HZ : Hid (toN NL T k (st, v) = z ∧ atN OL z (r, d + 1) = y) := ⟨hz, hy⟩
    have HX : Hid (numF T (st, v) = (x : Int)) := o5.symm
    have HH : Hid (hasF (OL.getD z []) (r, d + 1) = (y : Int)) := h3
    have HO1 : Hid ((NL.getD k []).getD x 0 = (z : Int)) := o1
    have hw1 : IntKind.i64.wrap ((d : Int) + 1) = (d : Int) + 1 := IntWalk.i64_in _ (by omega)
    have x0 : (0 : Int) ≤ (x : Int) := Int.natCast_nonneg _
    have x1 : (x : Int) < (T : Int) + (N : Int) := by omega
    have z0 : (0 : Int) ≤ (z : Int) := Int.natCast_nonneg _
    have z1 : (z : Int) < (OL.length : Int) := by omega
    have y0 : (0 : Int) ≤ (y : Int) := Int.natCast_nonneg _
    obtain ⟨m1, hm1⟩ : ∃ m1, (OL.getD z []).length = m1 := ⟨_, rfl⟩
    have HM1 : Hid ((OL.getD z []).length = m1) := hm1
    rw [hm1] at h1
    have y1 : (y : Int) < (m1 : Int) := by omega
    have t1 : (t : Int) < (T : Int) + 1 := by omega
    have hdom1 : c.dom (k, j) = some (T + 1) := by rw [HOk.out.dom, if_pos ⟨hk, hj⟩]
    have hdom2 : c.dom (z, y) = some (T + 1) := by rw [HOk.out.dom, if_pos ⟨o2, by rw [HM1.out]; exact h1⟩]
    obtain ⟨g1, cap1, hv1, _, _⟩ := HBt.out.form hdom1 (by omega)
    obtain ⟨g2, cap2, hv2, _, _⟩ := HBt.out.form hdom2 (by omega)
    obtain ⟨mine, hmine⟩ : ∃ b, bit X (k, j) t = b := ⟨_, rfl⟩
    have HMine : Hid (bit X (k, j) t = mine) := hmine
    have hOz369 : m1 ≤ 369 := by
      have := ok_len H8.out (HOk.out.sok.rep z o2).nod (HOk.out.sok.ok z o2)
      rw [hm1] at this
      omega
    have HV : Hid (c.V (k, j) = .slice (some ⟨g1, 0, none⟩) (T + 1) cap1 ∧ c.V (z, y) = .slice (some ⟨g2, 0, none⟩) (T + 1) cap2) := ⟨hv1, hv2⟩
    clear hge hms htv hs0 o1 o3 o5 h2 h3 hz hy hx hm1 hmine hv1 hv2 hsy'
    go_enter Try.func31, Try.ntmps31
    go_wp2_with
      (go_at_call 28; refine call.mono ?_; rintro e w2 ⟨la, lc', rfl, hsy, hbl, hB2⟩
       rw [← hWe] at hB2
       have hK2 : Kept c.K w w2 := HKW.out.trans (Kept.ofBelow hB2)
       have hF2 := HF.out w2 hK2
       have hBt2 := HBW.out.below hB2
       obtain ⟨sb, so, sc, hse, s1, s2⟩ := hsy.2 d hd
       cases hse
       rw [HTV.out] at s1 s2
       simp only at s1 s2
       have u0 := (hB2.cell (p := ⟨w.heap.size, 0, none⟩) hWs).trans q0
       have u1 := (hB2.cell (p := ⟨w.heap.size, 1, none⟩) hWs).trans q1
       have c8 := hF2.c8
       obtain ⟨l1, l2⟩ := hF2.lk k hk
       have l3 := l2 j hj
       rw [HV.out.1] at l3
       rw [HN0.out] at l1
       have l4 := (hBt2.cell hdom1 HV.out.1 (m := t) (by omega)).1
       rw [HMine.out] at l4
       have c7 := hF2.c7
       obtain ⟨n1, _⟩ := hF2.nx k hk
       have HSy : Hid (SymsAt w2 (.slice (some ⟨sb, so, none⟩) Rt.length lc') Rt ∧ ¬ c.K sb) := ⟨hsy, by
         rcases hbl sb so rfl (by omega) with h | h
         · exact hlim sb h
         · rw [h]; exact HBW.out.notK (by rw [← hWe]; exact Nat.le_refl _)⟩
       have HB2 : Hid (Below W.heap.size W w2) := hB2
       have num := number6_any (w := w2.drew) (s := (st, v)) ⟨hF2.auto.t, hF2.auto.n, hF2.auto.r, hF2.auto.rules, hF2.auto.le, hF2.auto.lt⟩ hsr (by omega)
       rw [HX.out] at num
       simp only at num
       clear hB2 hK2 hF2 hBt2 hsy hbl l2 call)
    clear c6 ck k3 k4' q0 q1
    refine wp_region_held_tail 13 16 (fun w' => w'.cell? ⟨ab, 7, none⟩ = some (.slice (some ⟨D.ng, 0, none⟩) OL.length D.ncap) ∧ w'.cell? ⟨D.ng, k, none⟩ = some (.slice (some ⟨D.rg k, 0, none⟩) (T + N) (D.rcap k)) ∧ w'.cell? ⟨w.heap.size, 1, none⟩ = some (.int .i64 d) ∧ w'.cell? ⟨sb, so + d * 2, none⟩ = some (.bool st) ∧ w'.cell? ⟨sb, so + d * 2 + 1, none⟩ = some (.int .i64 v)) (by kernel_rfl) (by kernel_rfl) ⟨c7, n1, u1, s1, s2⟩ ?_
    simp only [List.take_succ_cons, List.take_zero, List.drop_succ_cons, List.drop_zero]
    iterate 13
      refine StillS.cons (v := ?_) (by rfl) ?_ ?_
      rotate_left
      · intro w' hSw
        obtain ⟨s0', s1', s2', s3', s4'⟩ := hSw
        go_simp
        try with_reducible rfl
      simp only [Act.put, List.setIfInBounds_toArray, List.set_cons_zero, List.set_cons_succ]
    rw [StillS, TailS]
    intro K hK
    go_simp
    go_wp2_with
      (go_at_call 29; refine num.mono ?_; rintro e w3 ⟨rfl, hB3⟩
       have hB3' : Below w2.heap.size w2 w3 := (Below.refl _ _).drew.trans hB3
       have hK3 : Kept c.K w w3 := (HKW.out.trans (Kept.ofBelow HB2.out)).trans (Kept.ofBelow hB3')
       have hF3 := HF.out w3 hK3
       have v7 := hF3.c7
       obtain ⟨v8, v9⟩ := hF3.nx k hk
       have v10 := v9 x o4
       rw [HO1.out] at v10
       have v0 := (hB3'.cell (p := ⟨w.heap.size, 0, none⟩) (World.block_lt_of_cell? w2 _ u0)).trans u0
       have v1 := (hB3'.cell (p := ⟨w.heap.size, 1, none⟩) (World.block_lt_of_cell? w2 _ u1)).trans u1
       have v2 := (hB3'.cell (p := ⟨sb, so + d * 2, none⟩) (World.block_lt_of_cell? w2 _ s1)).trans s1
       have v3 := (hB3'.cell (p := ⟨sb, so + d * 2 + 1, none⟩) (World.block_lt_of_cell? w2 _ s2)).trans s2
       have c63 := hF3.c6
       obtain ⟨f1, f2⟩ := hF3.st z o2
       have has := has6_any (w := w3.drew) (i := (r, d + 1)) (show ItemsAt w3.drew w3.drew.heap.size _ _ from f2) (by rw [HM1.out]; omega)
       rw [HH.out] at has
       rw [HM1.out] at f1 has
       simp only at has
       have HB3 : Hid (Below w2.heap.size w2 w3) := hB3'
       clear hB3 hB3' hK3 hF3 v9 f2 num)
    refine hK.out _ _ (fun _ => ⟨v7, v8, v1, v2, v3⟩) ?_
    clear hK
    rw [TailS]
    intro K hK
    go_simp
    refine hK.out _ _ (fun _ => ⟨v7, v8, v1, v2, v3⟩) ?_
    clear hK
    rw [TailS]
    intro K hK
    go_simp
    refine hK.out _ _ (fun _ => ⟨v7, v8, v1, v2, v3⟩) ?_
    clear hK
    rw [TailS]
    intro K hK
    go_simp
    refine hK.out _ _ (fun h => absurd h (by omega)) ?_
    clear hK
    rw [TailS]
    refine NoPanic.normal ?_
    clear c8 l1 l3 l4 c7 n1 u0 u1 s1 s2
    go_wp2_with fail
    refine wp_region_tail 13 (by kernel_rfl) (by kernel_rfl) ?_
    simp only [List.take_succ_cons, List.take_zero, List.drop_succ_cons, List.drop_zero]
    repeat still_step
    refine wpStill_nil ?_
    go_upto_region 9 with
      (go_at_call 32; refine has.mono ?_; rintro e w4 ⟨rfl, hB4⟩
       have HB4 : Hid (Below w3.heap.size w3 w4) := (Below.refl _ _).drew.trans hB4
       clear hB4)
    have hK4 : Kept c.K w w4 := ((HKW.out.trans (Kept.ofBelow HB2.out)).trans (Kept.ofBelow HB3.out)).trans (Kept.ofBelow HB4.out)
    have hBt4 : Bt w4 B c X := ((HBW.out.below HB2.out).below HB3.out).below HB4.out
    have hF4 := HF.out w4 hK4
    have c8 := hF4.c8
    obtain ⟨l1, l2⟩ := hF4.lk z o2
    have l3 := l2 y (by rw [HM1.out]; exact h1)
    rw [HV.out.2] at l3
    rw [HM1.out] at l1
    obtain ⟨l4, l5⟩ := hBt4.cell hdom2 HV.out.2 (m := t) (by omega)
    obtain ⟨b2, hb2⟩ : ∃ b, bit X (z, y) t = b := ⟨_, rfl⟩
    rw [hb2] at l4
    have HK4 : Hid (Kept c.K w w4) := hK4
    have HBt4 : Hid (Bt w4 B c X) := hBt4
    have HOn : Hid (onN OL NL T k j t (st, v) X = if mine && !b2 then (setX X (z, y) t true, true) else (X, false)) := by
      show onN OL NL T k j t (st, v) X = _
      unfold onN
      rw [HMine.out, HRD.out]
      simp only
      rw [HZ.out.1, HZ.out.2]
      unfold putL
      simp only
      rw [hb2]
      cases mine <;> cases b2 <;> rfl
    have HI1 : Hid (w4.cell? ⟨w.heap.size, 1, none⟩ = some (.int .i64 d) ∧ SymsAt w4 (.slice (some ⟨sb, so, none⟩) Rt.length lc') Rt) := ⟨(HB4.out.cell (p := ⟨w.heap.size, 1, none⟩) (World.block_lt_of_cell? w3 _ v1)).trans v1, (HSy.out.1.same (same_below HB3.out)).same (same_below HB4.out)⟩
    clear hK4 hBt4 hF4 l2 hb2 has v7 v8 v10 v0 v1 v2 v3 c63 f1
    go_cut [97] from 81 to 97 (fun s97 wx => s97 = .bool (mine && !b2) ∧ wx = w4)
    case first =>
      cases mine with
      | false =>
        go_wp2_with fail
        go_meet
        case rel => exact ⟨rfl, rfl⟩
      | true =>
        cases b2 with
        | false =>
          go_wp2_with fail
          go_meet
          case rel => exact ⟨rfl, rfl⟩
        | true =>
          go_wp2_with fail
          go_meet
          case rel => exact ⟨rfl, rfl⟩
    case rest =>
      obtain ⟨rfl, rfl⟩ := hcut
      obtain ⟨q, hq⟩ : ∃ q, (mine && !b2) = q := ⟨_, rfl⟩
      rw [hq] at HOn ⊢
      clear hq
      go_upto_if 97 with fail
      go_cut [11] from 98 to 109 (fun s11 wx => s11 = .bool (onN OL NL T k j t (st, v) X).2 ∧ Bt wx B c (onN OL NL T k j t (st, v) X).1 ∧ Kept c.K wc wx)
      case first =>
        cases q with
        | false =>
          go_wp2_with fail
          go_meet
          case rel => exact ⟨by rw [HOn.out]; rfl, by rw [HOn.out]; exact HBt4.out, Kept.refl _ _⟩
        | true =>
          go_wp2_with fail
          go_meet
          case rel => exact ⟨by rw [HOn.out]; rfl, by rw [HOn.out]; exact HBt4.out.set hdom2 HV.out.2 t true, (Kept.refl _ _).setCell (Tab.inK hdom2 HV.out.2) _⟩
      case rest =>
        clear l1 l3 l4 l5 c8
        obtain ⟨hs11, hBt5, hK45⟩ := hcut
        subst hs11
        have hK5 : Kept c.K w wc := HK4.out.trans hK45
        have HK5 : Hid (Kept c.K w wc) := hK5
        have HBt5 : Hid (Bt wc B c (onN OL NL T k j t (st, v) X).1) := hBt5
        have hiK : ¬ c.K w.heap.size := HBt.out.notK (Nat.le_refl _)
        have u1 := hK45.cell (p := ⟨w.heap.size, 1, none⟩) hiK HI1.out.1
        have hsyc := HI1.out.2.kept hK45 HSy.out.2
        obtain ⟨sb', so', sc', hse, s1, s2⟩ := hsyc.2 d hd
        cases hse
        rw [HTV.out] at s1 s2
        simp only at s1 s2
        have HSyc : Hid (SymsAt wc (.slice (some ⟨sb, so, none⟩) Rt.length lc') Rt) := hsyc
        have HIK : Hid (¬ c.K w.heap.size) := hiK
        clear hBt5 hK45 hK5 hsyc hiK HBt4 HK4 HI1
        cases st with
        | true =>
          have HE : Hid (sprN OL NL R T Nu Fi k j t X = onN OL NL T k j t (true, v) X) := by
            show sprN OL NL R T Nu Fi k j t X = _
            unfold sprN
            rw [HS0.out]
          obtain ⟨Y, hY⟩ : ∃ Y, onN OL NL T k j t (true, v) X = Y := ⟨_, rfl⟩
          rw [hY] at HE HBt5 ⊢
          go_wp2_with fail
          go_ret
          exact ⟨by rw [HE.out]; rfl, by rw [HE.out]; exact HBt5.out, HK5.out⟩
        | false =>
          have hF5 := HF.out wc HK5.out
          obtain ⟨_, _, hqv, hqc⟩ := HSyc.out.1
          cases hqv
          have j4 : (d : Int) + 1 ≤ (Rt.length : Int) := by omega
          have j5 : (Rt.length : Int) ≤ (lc' : Int) := by omega
          have beh := behind6_any (N := N) (t := t) hF5.auto.t hF5.c3 hF5.c4 hF5.nul hF5.fir (HSyc.out.drop (d + 1) (by omega)) HNF.out.1 HNF.out.2.1 HNF.out.2.2 ht (fun s hs hf => HNm.out s (List.mem_of_mem_drop hs) hf) (by simp; omega)
          obtain ⟨⟨bb, nn⟩, hbn⟩ : ∃ p, behF Nu Fi T t (Rt.drop (d + 1)) = p := ⟨_, rfl⟩
          rw [hbn] at beh
          simp only at beh
          have HE : Hid (sprN OL NL R T Nu Fi k j t X = if bb || (nn && mine) then closeN OL R k t v R.length (onN OL NL T k j t (false, v) X) else onN OL NL T k j t (false, v) X) := by
            show sprN OL NL R T Nu Fi k j t X = _
            unfold sprN
            rw [HS0.out]
            simp only
            rw [HRD.out]
            simp only
            rw [HRt.out, hbn, HMine.out]
          obtain ⟨Y, hY⟩ : ∃ Y, onN OL NL T k j t (false, v) X = Y := ⟨_, rfl⟩
          rw [hY] at HE HBt5 ⊢
          clear hbn hF5 HOn hY
          go_upto_region 15 with
            (go_at_call 40; refine beh.mono ?_; rintro e w6 ⟨rfl, m6, rfl⟩
             clear beh)
          obtain ⟨av, hav⟩ : ∃ av, (if lc' = d + 1 then some (⟨sb, so, none⟩ : Addr) else some ⟨sb, so + (d + 1) * 2, none⟩) = av := ⟨_, rfl⟩
          rw [hav]
          clear hav
          have HK6 : Hid (Kept c.K w (wc.drewN m6)) := HK5.out.drewN m6
          have HBt6 : Hid (Bt (wc.drewN m6) B c Y.1) := HBt5.out.drewN m6
          have HI6 : Hid ((wc.drewN m6).cell? ⟨w.heap.size, 1, none⟩ = some (.int .i64 d) ∧ (wc.drewN m6).cell? ⟨sb, so + d * 2 + 1, none⟩ = some (.int .i64 v)) := ⟨u1, s2⟩
          clear HK5 HBt5 HSyc u1 s1 s2 j4 j5 hqc
          generalize wc.drewN m6 = w6 at HK6 HBt6 HI6 ⊢
          go_cut [136] from 128 to 136 (fun s136 wx => s136 = .bool (!(bb || (nn && mine))) ∧ wx = w6)
          case first =>
            cases bb with
            | true =>
              go_wp2_with fail
              go_meet
              case rel => exact ⟨rfl, rfl⟩
            | false =>
              cases nn with
              | false =>
                go_wp2_with fail
                go_meet
                case rel => exact ⟨rfl, rfl⟩
              | true =>
                cases mine with
                | false =>
                  go_wp2_with fail
                  go_meet
                  case rel => exact ⟨rfl, rfl⟩
                | true =>
                  go_wp2_with fail
                  go_meet
                  case rel => exact ⟨rfl, rfl⟩
          case rest =>
            obtain ⟨rfl, rfl⟩ := hcut
            obtain ⟨q', hq'⟩ : ∃ q, (bb || (nn && mine)) = q := ⟨_, rfl⟩
            rw [hq'] at HE ⊢
            clear hq'
            cases q' with
            | false =>
              have HE2 : Hid (sprN OL NL R T Nu Fi k j t X = Y) := by show sprN OL NL R T Nu Fi k j t X = Y; rw [HE.out]; simp
              go_wp2_with fail
              go_ret
              exact ⟨by rw [HE2.out]; rfl, by rw [HE2.out]; exact HBt6.out, HK6.out⟩
            | true =>
              have HE2 : Hid (sprN OL NL R T Nu Fi k j t X = closeN OL R k t v R.length Y) := by show sprN OL NL R T Nu Fi k j t X = _; rw [HE.out]; simp
              have HCl : Hid (∀ n, n < R.length → (R.getD n (0, [])).1 = v → (n, 0) ∈ OL.getD k []) := fun n hn hL => HOk.out.close hk hj HS0.out hn hL
              clear HE
              go_wp2_with fail
              go_loopw [11, 17] (fun s11 s17 wq => ∃ (q : Nat), s11 = .bool (closeN OL R k t v q Y).2 ∧ s17 = .int .i64 q ∧ q ≤ R.length ∧ Bt wq B c (closeN OL R k t v q Y).1 ∧ Kept c.K w wq ∧ wq.cell? ⟨w.heap.size, 1, none⟩ = some (.int .i64 d) ∧ wq.cell? ⟨sb, so + d * 2 + 1, none⟩ = some (.int .i64 v)) (fun _ s _ => R.length - (intOf s).toNat)
              case atStart => exact ⟨0, rfl, rfl, Nat.zero_le _, HBt6.out, HK6.out, HI6.out.1, HI6.out.2⟩
              case round =>
                clear HBt6 HK6 HI6
                obtain ⟨q, rfl, rfl, hq, hBq, hKq, u1, s2⟩ := hrel
                have HBq : Hid (Bt wr B c (closeN OL R k t v q Y).1) := hBq
                have HKq : Hid (Kept c.K w wr) := hKq
                have hFq := HF.out wr hKq
                have a2 := hFq.auto.r
                obtain ⟨ra, rc, hrv⟩ := hFq.auto.rules.1
                subst hrv
                by_cases hqlt : q < R.length
                · obtain ⟨rb, ro, rc', qa, qc, hve, _, r1, _⟩ := hFq.auto.rules.2 q hqlt
                  cases hve
                  have hstep : closeN OL R k t v (q + 1) Y = if (R.getD q (0, [])).1 = v then putL (k, atN OL k (q, 0)) t (closeN OL R k t v q Y) else closeN OL R k t v q Y := rfl
                  have hcl := HCl.out q hqlt
                  obtain ⟨L, hL⟩ : ∃ L, (R.getD q (0, [])).1 = L := ⟨_, rfl⟩
                  rw [hL] at r1 hstep hcl
                  have p0 : (0 : Int) ≤ (q : Int) := Int.natCast_nonneg _
                  have p1 : (q : Int) < (R.length : Int) := by omega
                  obtain ⟨Q, hQ⟩ : ∃ Q, closeN OL R k t v q Y = Q := ⟨_, rfl⟩
                  rw [hQ] at hstep HBq ⊢
                  by_cases hLv : L = v
                  · have hin := hcl hLv
                    obtain ⟨f1, f2, f3⟩ := hasF_get hin
                    have e2 : (L != v) = false := by simpa using hLv
                    obtain ⟨f, hf⟩ : ∃ f, (hasF (OL.getD k []) (q, 0)).toNat = f := ⟨_, rfl⟩
                    have hat : atN OL k (q, 0) = f := hf
                    rw [hf] at f1 f3
                    have HF3 : Hid (hasF (OL.getD k []) (q, 0) = (f : Int)) := f3
                    have hdomf : c.dom (k, f) = some (T + 1) := by rw [HOk.out.dom, if_pos ⟨hk, f1⟩]
                    obtain ⟨g3, cap3, hv3, _, _⟩ := HBq.out.form hdomf (by omega)
                    have HV3 : Hid (c.V (k, f) = .slice (some ⟨g3, 0, none⟩) (T + 1) cap3) := hv3
                    obtain ⟨b3, hb3⟩ : ∃ b, bit Q.1 (k, f) t = b := ⟨_, rfl⟩
                    have HB3 : Hid (bit Q.1 (k, f) t = b3) := hb3
                    have HSt : Hid (closeN OL R k t v (q + 1) Y = if b3 then Q else (setX Q.1 (k, f) t true, true)) := by
                      show closeN OL R k t v (q + 1) Y = _
                      rw [hstep, if_pos hLv, hat]
                      unfold putL
                      rw [hb3]
                    have f0 : (0 : Int) ≤ (f : Int) := Int.natCast_nonneg _
                    have hfn : (f : Int) < (n0 : Int) := by have := HN0.out; omega
                    clear hBq hKq hFq hstep hcl hL hQ hin f2 f3 hf hat hv3 hb3
                    go_wp2_with fail
                    go_big_quiet (fail)
                    have HK7 : Hid (Kept c.K w (wr.drewN nq)) := HKq.out.drewN nq
                    have HB7 : Hid (Bt (wr.drewN nq) B c Q.1) := HBq.out.drewN nq
                    have u7 : (wr.drewN nq).cell? ⟨w.heap.size, 1, none⟩ = some (.int .i64 d) := u1
                    have s7 : (wr.drewN nq).cell? ⟨sb, so + d * 2 + 1, none⟩ = some (.int .i64 v) := s2
                    clear HBq HKq u1 s2 a2 r1
                    generalize wr.drewN nq = w7 at HK7 HB7 u7 s7 ⊢
                    have hF7 := HF.out w7 HK7.out
                    have c67 := hF7.c6
                    obtain ⟨x7, y7⟩ := hF7.st k hk
                    have has := has6_any (i := (q, 0)) y7 (by have := HN0.out; omega)
                    rw [HF3.out] at has
                    rw [HN0.out] at x7 has
                    simp only at has
                    rw [show ((0 : Nat) : Int) = 0 from rfl] at has
                    clear hF7 y7
                    cases b3 with
                    | true =>
                      have HSt2 : Hid (closeN OL R k t v (q + 1) Y = Q) := by show closeN OL R k t v (q + 1) Y = Q; rw [HSt.out]; rfl
                      go_wp2_with
                        (go_at_call 32; refine has.mono ?_; rintro e w8 ⟨rfl, hB8⟩
                         have hK8 : Kept c.K w w8 := HK7.out.trans (Kept.ofBelow hB8)
                         have hBt8 := HB7.out.below hB8
                         have hF8 := HF.out w8 hK8
                         have c88 := hF8.c8
                         obtain ⟨l1, l2⟩ := hF8.lk k hk
                         have l3 := l2 f f1
                         rw [HV3.out] at l3
                         rw [HN0.out] at l1
                         obtain ⟨l4, l5⟩ := hBt8.cell hdomf HV3.out (m := t) (by omega)
                         rw [HB3.out] at l4
                         have HK8 : Hid (Kept c.K w w8 ∧ Bt w8 B c Q.1 ∧ w8.cell? ⟨w.heap.size, 1, none⟩ = some (.int .i64 d) ∧ w8.cell? ⟨sb, so + d * 2 + 1, none⟩ = some (.int .i64 v)) := ⟨hK8, hBt8, (hB8.cell (p := ⟨w.heap.size, 1, none⟩) (World.block_lt_of_cell? w7 _ u7)).trans u7, (hB8.cell (p := ⟨sb, so + d * 2 + 1, none⟩) (World.block_lt_of_cell? w7 _ s7)).trans s7⟩
                         clear hB8 hK8 hBt8 hF8 l2)
                      go_roundw
                      case rel =>
                        (repeat apply Exists.intro)
                        refine ⟨?_, ?_⟩
                        rotate_left
                        · rfl
                        exact ⟨q + 1, by rw [HSt2.out], by go_num, by omega, by rw [HSt2.out]; exact HK8.out.2.1, HK8.out.1, HK8.out.2.2.1, HK8.out.2.2.2⟩
                      case measure => simp [intOf]; omega
                    | false =>
                      have HSt2 : Hid (closeN OL R k t v (q + 1) Y = (setX Q.1 (k, f) t true, true)) := by show closeN OL R k t v (q + 1) Y = _; rw [HSt.out]; rfl
                      go_wp2_with
                        (go_at_call 32; refine has.mono ?_; rintro e w8 ⟨rfl, hB8⟩
                         have hK8 : Kept c.K w w8 := HK7.out.trans (Kept.ofBelow hB8)
                         have hBt8 := HB7.out.below hB8
                         have hF8 := HF.out w8 hK8
                         have c88 := hF8.c8
                         obtain ⟨l1, l2⟩ := hF8.lk k hk
                         have l3 := l2 f f1
                         rw [HV3.out] at l3
                         rw [HN0.out] at l1
                         obtain ⟨l4, l5⟩ := hBt8.cell hdomf HV3.out (m := t) (by omega)
                         rw [HB3.out] at l4
                         have HK8 : Hid (Kept c.K w w8 ∧ Bt w8 B c Q.1 ∧ w8.cell? ⟨w.heap.size, 1, none⟩ = some (.int .i64 d) ∧ w8.cell? ⟨sb, so + d * 2 + 1, none⟩ = some (.int .i64 v)) := ⟨hK8, hBt8, (hB8.cell (p := ⟨w.heap.size, 1, none⟩) (World.block_lt_of_cell? w7 _ u7)).trans u7, (hB8.cell (p := ⟨sb, so + d * 2 + 1, none⟩) (World.block_lt_of_cell? w7 _ s7)).trans s7⟩
                         clear hB8 hK8 hBt8 hF8 l2)
                      go_roundw
                      case rel =>
                        (repeat apply Exists.intro)
                        refine ⟨?_, ?_⟩
                        rotate_left
                        · rfl
                        have hKs : Kept c.K w8 (w8.setCell ⟨g3, t, none⟩ (.bool true)) := (Kept.refl _ _).setCell (Tab.inK hdomf HV3.out) _
                        exact ⟨q + 1, by rw [HSt2.out], by go_num, by omega, by rw [HSt2.out]; exact HK8.out.2.1.set hdomf HV3.out t true, HK8.out.1.trans hKs, hKs.cell (p := ⟨w.heap.size, 1, none⟩) HIK.out HK8.out.2.2.1, hKs.cell (p := ⟨sb, so + d * 2 + 1, none⟩) HSy.out.2 HK8.out.2.2.2⟩
                      case measure => simp [intOf]; omega
                  · have HSt : Hid (closeN OL R k t v (q + 1) Y = Q) := by show closeN OL R k t v (q + 1) Y = Q; rw [hstep, if_neg hLv]
                    have e2 : (L != v) = true := by simpa using hLv
                    clear hBq hKq hFq hstep hcl hL hQ hLv
                    go_wp2_with fail
                    go_big_quiet (fail)
                    go_wp2_with fail
                    go_roundw
                    case rel => exact ⟨q + 1, by rw [HSt.out], by go_num, by omega, by rw [HSt.out]; exact HBq.out.drewN _, HKq.out.drewN _, u1, s2⟩
                    case measure => simp [intOf]; omega
                · obtain rfl : q = R.length := by omega
                  clear hBq hKq hFq
                  go_wp2_with fail
                  go_ret
                  exact ⟨by rw [HE2.out]; rfl, by rw [HE2.out]; exact HBq.out, HKq.out⟩
  · have e1 : (Rt.length : Int) ≤ (d : Int) := by omega
    have HE : Hid (sprN OL NL R T Nu Fi k j t X = (X, false)) := by
      show sprN OL NL R T Nu Fi k j t X = (X, false)
      unfold sprN
      rw [HRD.out]
      simp only
      rw [HRt.out, List.getElem?_eq_none (by omega)]
    clear hsy'
    go_enter Try.func31, Try.ntmps31
    go_wp2_with
      (go_at_call 28; refine call.mono ?_; rintro e w2 ⟨la, lc', rfl, _, _, hB2⟩
       rw [← hWe] at hB2
       have u1 := (hB2.cell (p := ⟨w.heap.size, 1, none⟩) hWs).trans q1
       have HB2 : Hid (Below W.heap.size W w2) := hB2
       clear hB2)
    go_ret
    exact ⟨by rw [HE.out]; rfl, by rw [HE.out]; exact HBW.out.below HB2.out, HKW.out.trans (Kept.ofBelow HB2.out)⟩

end Go.Proofs.Ytkkcmcckdaobmaa
