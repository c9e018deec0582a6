import Derived.Test.YtikjekfpgklbdaaTrEbAndTrIf
import Derived.Test.YtikjekfpgklbdaaStCatAndStepEx
import Derived.Test.YtikjekfpgklbdaaMay8AndOne8Mem
/- inline's back. -/
namespace Go.Proofs.Ytikjekfpgklbdaa
open Go.RowKit

/-- What holds of each tree of a derivation of what came of it. -/
def InB (R : List Ru) (I : List Nat) (ush : Nat → Nat) (isIn : Nat → Option Nat) (m : Nat → Nat) (ka fr : Nat) (q : Nat) (ks : Fo) : Prop :=
  q ≤ 100000 ∧ (isIn q = none → (q < ka ∨ ka + I.length ≤ q) ∧ (q < ka ∨ I.length ≤ q + 1) ∧ ush q = (if q < ka then q else q + 1 - I.length)) ∧ (∀ j, isIn q = some j → ka ≤ q ∧ q - ka < I.length ∧ I.getD (q - ka) 0 = j ∧ fr + m j ≤ lenF ks ∧ j < R.length ∧ m j = (namesS (R.getD j (0, [])).2).length)

section
variable {w0 : World} {B : Nat} {ov : Value} {R : List Ru} {I : List Nat} {ush : Nat → Nat} {isIn : Nat → Option Nat} {m : Nat → Nat} {T N o b c : Int} {ra : Option Addr} {rc fr ka : Nat}

set_option maxRecDepth 100000 in
set_option maxHeartbeats 3200000 in
theorem inline_backs (hIl : I.length ≤ 100000) (hka : ka ≤ 100000) (hO : w0.ownsRow B 3 1 ov I.length (idxV I)) (hR : RulesAt w0 w0.heap.size (.slice ra R.length rc) R) (hRm : ∀ q, (R.getD q (0, [])).2.length ≤ 1000) : ∀ (n : Nat) (w : World) (q : Nat) (ks : Fo) (kv : Value) (A : Nat → Prop), (flatFo ks).length < n → Below w0.heap.size w0 w → InB R I ush isIn m ka fr q ks → allFo (InB R I ush isIn m ka fr) ks → (flatFo ks).length ≤ 2000 → FoIn w A kv ks → (∀ b, A b → b < w.heap.size) →
    Calls Try.prog 89 #[.agg #[.int .i64 T, .int .i64 N, .slice ra R.length rc, .int .i64 o, .int .i64 (ka : Int), .int .i64 b, .int .i64 c, ov, .int .i64 (fr : Int)], .agg #[.int .i64 (q : Int), kv]] w fun e w' => ∃ kv', e = .returned (.agg #[.int .i64 ((if (isIn q).isSome then ka else ush q : Nat) : Int), kv']) ∧ FoIn w' (fun b => A b ∨ w.heap.size ≤ b) kv' (if (isIn q).isSome then inF fr (m ((isIn q).getD 0)) ((isIn q).getD 0) (inlB ka fr ush isIn m ks) else inlB ka fr ush isIn m ks) ∧ Below w.heap.size w w' := by
  obtain ⟨ca, cc, hov⟩ := own_form hO
  subst hov
  intro n
  induction n with
  | zero => intro _ _ _ _ _ h; omega
  | succ n ih =>
  intro w q ks kv A hn hb0 hqP hall hl hk hA
  have hk1 := hk
  obtain ⟨ka1, kc, hkv, _⟩ := hk1
  obtain ⟨n1, hn1⟩ : ∃ n, lenF ks = n := ⟨_, rfl⟩
  rw [hn1] at hkv
  subst hkv
  obtain ⟨W, hW⟩ : ∃ W, ((w.alloc (.cells #[.int .i64 T, .int .i64 N, .slice ra R.length rc, .int .i64 o, .int .i64 (ka : Int), .int .i64 b, .int .i64 c, .slice ca I.length cc, .int .i64 (fr : Int)] 89)).alloc (.cells #[.int .i64 (q : Int), .slice ka1 n1 kc] 70)).alloc (.cells #[.int .i64 0, .slice none 0 0] 70) = W := ⟨_, rfl⟩
  have hM := mbox hW
  have HS : Hid (∀ wq, Below W.heap.size W wq → InlS w.heap.size T N o ka b c ra R.length rc (.slice ca I.length cc) fr q (.slice ka1 n1 kc) wq ∧ wq.heap[w.heap.size + 1 + 1]? = some (.cells #[.int .i64 0, .slice none 0 0] 70 (0, 0))) := fun wq h1 => by
    have hc := (h1.block _ (by have := hM.size; omega)).trans hM.chg
    have ht := (h1.block _ (by have := hM.size; omega)).trans hM.tre
    exact ⟨⟨cell_of_blk hc rfl, cell_of_blk hc rfl, cell_of_blk hc rfl, cell_of_blk hc rfl, cell_of_blk hc rfl, cell_of_blk hc rfl, cell_of_blk hc rfl, cell_of_blk hc rfl, cell_of_blk hc rfl, cell_of_blk ht rfl, cell_of_blk ht rfl⟩, (h1.block _ (by have := hM.size; omega)).trans hM.res⟩
  obtain ⟨x0, x1, x2, x3, x4, x5, x6, x7, x8, x9, x10⟩ := (HS.out W (Below.refl _ _)).1
  have ea := each_over (w := W) (A := A) (v := .slice ka1 n1 kc) (recv := .agg #[.int .i64 T, .int .i64 N, .slice ra R.length rc, .int .i64 o, .int .i64 (ka : Int), .int .i64 b, .int .i64 c, .slice ca I.length cc, .int .i64 (fr : Int)]) (dn := 89) (F := fun q ks => (if (isIn q).isSome then ka else ush q, if (isIn q).isSome then inF fr (m ((isIn q).getD 0)) ((isIn q).getD 0) (inlB ka fr ush isIn m ks) else inlB ka fr ush isIn m ks)) (G := inlB ka fr ush isIn m) (fun args w' => by simp [callFunc, Try.func89, Try.f89 ]) rfl (fun _ _ _ => rfl) (hk.below hM.below) (fun b hb => Nat.lt_of_lt_of_le (hA b hb) hM.below.size) (by omega) fun w' q' ks' kv' hm hb' hk' hA' => by
    have := memF_size hm
    have h2 := allFo_mem hall hm
    exact ih w' q' ks' kv' A (by omega) (hb0.trans ((hM.below.trans (hb'.mono hM.below.size)).mono hb0.size)) h2.1 h2.2 (by omega) hk' hA'
  have HM : Hid (Below w.heap.size w W ∧ w.heap.size + 3 ≤ W.heap.size ∧ Below w0.heap.size w0 W) := ⟨hM.below, by have := hM.size; omega, hb0.trans (hM.below.mono hb0.size)⟩
  have HA : Hid (∀ b, A b → b < w.heap.size) := hA
  have HK : Hid (lenF (inlB ka fr ush isIn m ks) = n1 ∧ n1 ≤ 2000) := ⟨(inlB_len ka fr ush isIn m ks).trans hn1, by obtain ⟨L, hL, _⟩ := hk.list; have := rowOf_size L; rw [hL] at this; have h3 := rowOf_len L; rw [hL] at h3; omega⟩
  have HQ : Hid (InB R I ush isIn m ka fr q ks) := hqP
  have hq1 := hqP.1
  have hwr : IntKind.i64.wrap ((q : Int) - (ka : Int)) = (q : Int) - (ka : Int) := IntWalk.i64_in _ (by omega)
  clear ih hn hall hl hk hA hM hn1 hb0 hqP
  cases hin : isIn q with
  | some j =>
    obtain ⟨hkq, hlt, hIj, hfm, hjR, hmj⟩ := HQ.out.2.2 j hin
    obtain ⟨kq, hkq2⟩ : ∃ x, q - ka = x := ⟨_, rfl⟩
    rw [hkq2] at hlt hIj
    have hwr2 : IntKind.i64.wrap ((q : Int) - (ka : Int)) = (kq : Int) := by rw [hwr]; omega
    have hbel : (decide (0 ≤ (kq : Int)) && decide ((kq : Int) < (I.length : Int))) = true := by
      rw [Bool.and_eq_true]
      exact ⟨decide_eq_true (by omega), decide_eq_true (by omega)⟩
    clear hwr
    obtain ⟨g, cap, hov, hBg, hgl⟩ := hO.form (by omega)
    injection hov with hov1 _ hov3
    subst hov1
    clear hov3
    have hgc : w0.cell? ⟨g, kq, none⟩ = some (.int .i64 (j : Int)) := by
      rw [hO.cellAt kq (by omega)]
      simp [idxV, hlt, ← hIj]
    obtain ⟨b0, o0, rc0, qa, qc, hv, _, k1, k2, hsy⟩ := hR.syms hjR
    injection hv with hv1 _ hv3
    subst hv1
    clear hv3
    have hsl := hRm j
    obtain ⟨l, hll⟩ : ∃ l, (R.getD j (0, [])).2 = l := ⟨_, rfl⟩
    rw [hll] at k2 hsy hsl hmj
    obtain ⟨mj, hmj2⟩ : ∃ x, m j = x := ⟨_, rfl⟩
    rw [hmj2] at hfm hmj
    obtain ⟨up, hup⟩ : ∃ x, fr + mj = x := ⟨_, rfl⟩
    rw [hup] at hfm
    have hfu : up ≤ n1 := by have := HK.out.1; rw [inlB_len] at this; omega
    have hn2 := HK.out.2
    have hwr3 : IntKind.i64.wrap ((fr : Int) + ((namesS l).length : Int)) = (up : Int) := by rw [← hmj, IntWalk.i64_in _ (by omega)]; omega
    have HUp : Hid (fr + mj = up) := hup
    have HC : Hid (∀ wq, Below W.heap.size W wq → wq.cell? ⟨g, kq, none⟩ = some (.int .i64 (j : Int)) ∧ wq.cell? ⟨b0, o0 + j * 2 + 1, none⟩ = some (.slice qa l.length qc) ∧ SymsAt wq (.slice qa l.length qc) l) := fun wq hq => by
      have hb : Below w0.heap.size w0 wq := HM.out.2.2.trans (hq.mono HM.out.2.2.size)
      exact ⟨(hb.cell hgl).trans hgc, (hb.cell (World.block_lt_of_cell? _ _ k2)).trans k2, hsy.same (same_below hb)⟩
    have i0 : (0 : Int) ≤ (kq : Int) := Int.natCast_nonneg _
    have i1 : (kq : Int) < (I.length : Int) := by omega
    have j0 : (0 : Int) ≤ (j : Int) := Int.natCast_nonneg _
    have j1 : (j : Int) < (R.length : Int) := by omega
    rw [if_pos (by rfl), if_pos (by rfl)]
    simp only [Option.getD_some]
    rw [hmj2]
    clear hkq hlt hIj hfm hjR hkq2 hgc k1 k2 hsy hll hmj2 hup hBg hgl hmj
    go_enter Try.func89, Try.ntmps89
    go_upto_region 6 with
      (first
       | (go_at_call 83; refine ea.mono ?_; rintro e w2 ⟨rv, L', rfl, hT2, hG2, hB2⟩
          obtain ⟨la, lc, hlv⟩ := own_form hT2.own
          subst hlv
          obtain ⟨z0, z1, z2, z3, z4, z5, z6, z7, z8, z9, z10⟩ := (HS.out w2 hB2).1
          have d1 := (HC.out w2 hB2).1
          have HT : Hid (TrOwn w2 W.heap.size A (.slice la L'.length lc) L' ∧ rowOf L' = inlB ka fr ush isIn m ks ∧ Below W.heap.size W w2) := ⟨hT2, hG2, hB2⟩
          have hLn : L'.length = n1 := by rw [← HK.out.1, ← hG2, rowOf_len]
          rw [hLn]
          rw [hLn] at HT
          have ib := st_isBelow (w := w2) (n := (kq : Int)) (m := (I.length : Int))
          rw [hbel] at ib
          clear ea hT2 hG2 hB2 x0 x1 x2 x3 x4 x5 x6 x7 x8 x9 x10 hW hbel)
       | (go_at_call 36; refine ib.mono ?_; rintro e w3 ⟨rfl, h3⟩; obtain rfl : w2 = w3 := h3.symm; clear ib))
    have hcap : n1 ≤ lc := by
      rcases HT.out.1.own.2 with ⟨h0, h00⟩ | ⟨g, cap, cur, hg, _, _, hle, _⟩
      · injection h0 with _ h1 h2; omega
      · injection hg with _ _ hg3; omega
    obtain ⟨A3, hmid, hmid'⟩ := tr_mid (la := la) (f := fr) (n := mj) (g := up) (sl := n1) (lc := lc) (fi := (fr : Int)) (gi := (up : Int)) rfl rfl HUp.out.symm (by omega)
    have HMid : Hid (lc ≠ fr → A3 = la.map (·.add (fr * 2))) := hmid'
    clear hmid' z0 z1 z2 z3 z4 z5 z6 z7 z8 z9 z10 d1
    obtain ⟨Wf, hWf⟩ : ∃ V, w2.drew = V := ⟨_, rfl⟩
    have hBf : Below w2.heap.size w2 Wf := by rw [← hWf]; exact (Below.refl _ _).drew
    have HSf : Hid (∀ wq, Below Wf.heap.size Wf wq → (InlS w.heap.size T N o ka b c (some ⟨b0, o0, none⟩) R.length rc (.slice (some ⟨g, 0, none⟩) I.length cc) fr q (.slice ka1 n1 kc) wq ∧ wq.cell? ⟨b0, o0 + j * 2 + 1, none⟩ = some (.slice qa l.length qc)) ∧ Below w2.heap.size w2 wq) := fun wq hq => by
      have h1 : Below w2.heap.size w2 wq := hBf.trans (hq.mono hBf.size)
      have h2 : Below W.heap.size W wq := HT.out.2.2.trans (h1.mono HT.out.2.2.size)
      exact ⟨⟨(HS.out wq h2).1, (HC.out wq h2).2.1⟩, h1⟩
    have S0 := (HSf.out Wf (Below.refl _ _)).1
    have na := st_namesIn (w := Wf) (HC.out Wf (HT.out.2.2.trans (hBf.mono HT.out.2.2.size))).2.2 hsl
    clear hBf
    refine wp_region_mix [0, 1, 2, 3, 4, 5, 6, 7, 8, 9] 3 12 (fun wq => InlS w.heap.size T N o ka b c (some ⟨b0, o0, none⟩) R.length rc (.slice (some ⟨g, 0, none⟩) I.length cc) fr q (.slice ka1 n1 kc) wq ∧ wq.cell? ⟨b0, o0 + j * 2 + 1, none⟩ = some (.slice qa l.length qc)) (by kernel_rfl) (by kernel_rfl) (by rw [hWf]; exact S0) ?_
    rw [hWf]
    clear hWf S0
    iterate 10
      refine StillI.con8 (v := ?_) rfl (by rfl) ?_ ?_
      rotate_left
      · intro w' hSw
        obtain ⟨⟨z0, z1, z2, z3, z4, z5, z6, z7, z8, z9, z10⟩, z11⟩ := hSw
        go_simp
        try with_reducible rfl
      simp only [Act.put, List.setIfInBounds_toArray, List.set_cons_zero, List.set_cons_succ]
    rw [StillI]
    refine TailC.one (i := 10) (by kernel_rfl) ⟨_, rfl, fun K hK => ?_⟩
    go_simp
    refine na.mono ?_
    rintro e w3 ⟨rfl, hB3⟩
    dsimp only
    refine hK.out _ _ (fun _ => (HSf.out w3 hB3).1) ?_
    clear hK na
    refine TailC.one (i := 11) (by kernel_rfl) ⟨_, rfl, fun K hK => ?_⟩
    go_simp
    refine hK.out _ _ (fun _ => (HSf.out w3 hB3).1) ?_
    clear hK
    refine TailC.last (i := 12) (by kernel_rfl) ⟨_, rfl, fun K hK => ?_⟩
    go_simp
    refine hK.out _ _ (fun h => absurd h (by omega)) (NoPanic.normal ?_)
    clear hK
    obtain ⟨⟨z0, z1, z2, z3, z4, z5, z6, z7, z8, z9, z10⟩, _⟩ := (HSf.out w3 hB3).1
    have hB3' := (HSf.out w3 hB3).2
    clear hB3
    go_upto_region 8 with fail
    obtain ⟨wc, hwc⟩ : ∃ V, w3.alloc (.cells #[.int .i64 (j : Int), .slice A3 mj (lc - fr)] 70) = V := ⟨_, rfl⟩
    have hBx : Below w2.heap.size w2 wc := by rw [← hwc]; exact hB3'.alloc hB3'.size _
    have hcb := heap_alloc_new w3 (.cells #[.int .i64 (j : Int), .slice A3 mj (lc - fr)] 70)
    obtain ⟨p, hp⟩ : ∃ x, w3.heap.size = x := ⟨_, rfl⟩
    rw [hwc, hp] at hcb
    rw [hwc]
    rw [hp]
    have c0 : wc.cell? ⟨p, 0, none⟩ = some (.int .i64 (j : Int)) := cell_of_blk (i := 0) hcb rfl
    have c1 : wc.cell? ⟨p, 1, none⟩ = some (.slice A3 mj (lc - fr)) := cell_of_blk (i := 1) hcb rfl
    clear z0 z1 z2 z3 z4 z5 z6 z7 z8 z9 z10 hB3' hwc
    obtain ⟨Wd, hWd⟩ : ∃ V, wc.drew = V := ⟨_, rfl⟩
    have hBd : Below w2.heap.size w2 Wd := by rw [← hWd]; exact hBx.drew
    have hBc : Below wc.heap.size wc Wd := by rw [← hWd]; exact (Below.refl _ _).drew
    have hW2 : Below W.heap.size W Wd := HT.out.2.2.trans (hBd.mono HT.out.2.2.size)
    have HSd : Hid (∀ wq, Below Wd.heap.size Wd wq → (InlS w.heap.size T N o ka b c (some ⟨b0, o0, none⟩) R.length rc (.slice (some ⟨g, 0, none⟩) I.length cc) fr q (.slice ka1 n1 kc) wq ∧ wq.cell? ⟨p, 0, none⟩ = some (.int .i64 (j : Int)) ∧ wq.cell? ⟨p, 1, none⟩ = some (.slice A3 mj (lc - fr))) ∧ Below W.heap.size W wq ∧ TrIn wq (fun b => A b ∨ W.heap.size ≤ b) (.slice la n1 lc) L') := fun wq hq => by
      have h1 : Below W.heap.size W wq := hW2.trans (hq.mono hW2.size)
      have h2 : Below wc.heap.size wc wq := hBc.trans (hq.mono hBc.size)
      exact ⟨⟨(HS.out wq h1).1, (h2.cell (World.block_lt_of_cell? _ _ c0)).trans c0, (h2.cell (World.block_lt_of_cell? _ _ c1)).trans c1⟩, h1, HT.out.1.trIn.below (hBd.trans (hq.mono hBd.size))⟩
    have S0 := (HSd.out Wd (Below.refl _ _)).1
    obtain ⟨nn, hnn⟩ : ∃ nn, n1 = up + nn := ⟨n1 - up, by omega⟩
    have hup1 := fun w => tr_upto (la := la) (f := fr) (sl := n1) (lc := lc) (fi := (fr : Int)) rfl (by have := HUp.out; omega) w
    obtain ⟨A4, hfro, hfro'⟩ := tr_from (la := la) (f := up) (n := nn) (sl := n1) (lc := lc) (fi := (up : Int)) rfl hnn
    have HF4 : Hid (lc ≠ up → A4 = la.map (·.add (up * 2))) := hfro'
    have HNN : Hid (n1 = up + nn) := hnn
    have HW2 : Hid (W.heap.size ≤ Wd.heap.size) := hW2.size
    clear hBd hBc hW2 hBx c0 c1 hp hfro' hnn hmid hcb
    refine wp_region_mix [0, 1, 2, 3, 4, 5, 6, 7, 8, 10, 11, 12] 5 16 (fun wq => InlS w.heap.size T N o ka b c (some ⟨b0, o0, none⟩) R.length rc (.slice (some ⟨g, 0, none⟩) I.length cc) fr q (.slice ka1 n1 kc) wq ∧ wq.cell? ⟨p, 0, none⟩ = some (.int .i64 (j : Int)) ∧ wq.cell? ⟨p, 1, none⟩ = some (.slice A3 mj (lc - fr))) (by kernel_rfl) (by kernel_rfl) (by rw [hWd]; exact S0) ?_
    rw [hWd]
    clear hWd S0
    iterate 12
      refine StillI.con8 (v := ?_) rfl (by rfl) ?_ ?_
      rotate_left
      · intro w' hSw
        obtain ⟨⟨z0, z1, z2, z3, z4, z5, z6, z7, z8, z9, z10⟩, z11, z12⟩ := hSw
        go_simp
        try with_reducible rfl
      simp only [Act.put, List.setIfInBounds_toArray, List.set_cons_zero, List.set_cons_succ]
    rw [StillI]
    have hB6 : Below Wd.heap.size Wd (Wd.alloc (.cells #[.int .i64 (j : Int), .slice A3 mj (lc - fr)] 70)) := (Below.refl _ _).alloc (Nat.le_refl _) _
    refine TailC.one (i := 9) (by kernel_rfl) ⟨_, rfl, fun K hK => ?_⟩
    go_simp
    refine hK.out _ _ (fun _ => (HSd.out _ hB6).1) ?_
    clear hK
    have hb6 := heap_alloc_new Wd (.cells #[.int .i64 (j : Int), .slice A3 mj (lc - fr)] 70)
    obtain ⟨p6, hp6⟩ : ∃ x, Wd.heap.size = x := ⟨_, rfl⟩
    obtain ⟨w6, hw6⟩ : ∃ V, Wd.alloc (.cells #[.int .i64 (j : Int), .slice A3 mj (lc - fr)] 70) = V := ⟨_, rfl⟩
    have hp6W : W.heap.size ≤ p6 := by rw [← hp6]; exact HW2.out
    rw [hw6] at hB6 hb6 ⊢
    rw [hp6] at hb6 ⊢
    clear hw6
    have hB7 : Below w6.heap.size w6 (w6.alloc (.cells #[.slice la fr lc, .slice (some ⟨p6, 0, none⟩) 1 1, .slice A4 nn (lc - up)] 68)) := (Below.refl _ _).alloc (Nat.le_refl _) _
    have hB7' : Below Wd.heap.size Wd (w6.alloc (.cells #[.slice la fr lc, .slice (some ⟨p6, 0, none⟩) 1 1, .slice A4 nn (lc - up)] 68)) := hB6.trans (hB7.mono hB6.size)
    refine TailC.one (i := 13) (by kernel_rfl) ⟨_, rfl, fun K hK => ?_⟩
    go_simp
    refine hK.out _ _ (fun _ => (HSd.out _ hB7').1) ?_
    clear hK
    have hb7 := heap_alloc_new w6 (.cells #[.slice la fr lc, .slice (some ⟨p6, 0, none⟩) 1 1, .slice A4 nn (lc - up)] 68)
    obtain ⟨p7, hp7⟩ : ∃ x, w6.heap.size = x := ⟨_, rfl⟩
    obtain ⟨w7, hw7⟩ : ∃ V, w6.alloc (.cells #[.slice la fr lc, .slice (some ⟨p6, 0, none⟩) 1 1, .slice A4 nn (lc - up)] 68) = V := ⟨_, rfl⟩
    rw [hw7] at hB7 hB7' hb7 ⊢
    rw [hp7] at hb7 ⊢
    have hb67 := (hB7.block _ (Array.getElem?_eq_some_iff.1 hb6).1).trans hb6
    clear hw7 hb6
    have hAll := (HSd.out w7 hB7').2.2
    have cc := tcat3 (w := w7) (pb := p7) (A := fun b => A b ∨ W.heap.size ≤ b) (La := L'.take fr) (Lb := [(.slice A3 mj (lc - fr), j, rowOf ((L'.drop fr).take mj))]) (Lc := L'.drop up) (cell_of_blk (i := 0) hb7 rfl) (cell_of_blk (i := 1) hb7 rfl) (cell_of_blk (i := 2) hb7 rfl)
      (by
        have h0 : TrIn w7 (fun b => A b ∨ W.heap.size ≤ b) (.slice la L'.length lc) L' := by rw [hLn]; exact hAll
        exact h0.take (by rw [hLn]; have := HUp.out; omega))
      (by
        have h0 : TrIn w7 (fun b => A b ∨ W.heap.size ≤ b) (.slice la L'.length lc) L' := by rw [hLn]; exact hAll
        have h1 := h0.drop (f := fr) (m := n1 - fr) (A := A3) (by rw [hLn]; have := HUp.out; omega) HMid.out
        have hdl : (L'.drop fr).length = n1 - fr := by rw [List.length_drop, hLn]
        have h2 : TrIn w7 (fun b => A b ∨ W.heap.size ≤ b) (.slice A3 (L'.drop fr).length (lc - fr)) (L'.drop fr) := by rw [hdl]; exact h1
        exact trIn_one hb67 (.inr hp6W) (h2.take (f := mj) (by rw [hdl]; have := HUp.out; omega)).fo)
      (by
        have h0 : TrIn w7 (fun b => A b ∨ W.heap.size ≤ b) (.slice la L'.length lc) L' := by rw [hLn]; exact hAll
        exact h0.drop (by rw [hLn]; exact HNN.out) HF4.out)
      (by have := HK.out.2; simp only [List.length_take, List.length_drop, List.length_cons, List.length_nil]; omega)
    clear hAll hb67 hb7 hp6W hp7 hp6 hB6 hB7
    refine TailC.one (i := 14) (by kernel_rfl) ⟨_, rfl, fun K hK => ?_⟩
    go_simp
    refine cc.mono ?_
    rintro e w8 ⟨a8, n8, d8, rfl, hT8, hB8⟩
    dsimp only
    have hB8' : Below Wd.heap.size Wd w8 := hB7'.trans (hB8.mono hB7'.size)
    refine hK.out _ _ (fun _ => (HSd.out _ hB8').1) ?_
    clear hK cc
    have hW8 := (HSd.out _ hB8').2.1
    have hres := (HS.out w8 hW8).2
    have y0 : w8.cell? ⟨w.heap.size + 1 + 1, 0, none⟩ = some (.int .i64 0) := cell_of_blk hres rfl
    have y1 : w8.cell? ⟨w.heap.size + 1 + 1, 1, none⟩ = some (.slice none 0 0) := cell_of_blk hres rfl
    have yf0 : w8.frozen? ⟨w.heap.size + 1 + 1, 0, none⟩ = false := frozen_of_blk hres
    have yf1 : w8.frozen? ⟨w.heap.size + 1 + 1, 1, none⟩ = false := frozen_of_blk hres
    have q0 := res_0 (v0 := .int .i64 (ka : Int)) (v1 := .slice a8 n8 d8) hres
    have q1 := res_1 (v0 := .int .i64 (ka : Int)) (v1 := .slice a8 n8 d8) hres
    have HR : Hid (FoIn w8 (fun b => A b ∨ W.heap.size ≤ b) (.slice a8 n8 d8) (inF fr mj j (inlB ka fr ush isIn m ks)) ∧ Below W.heap.size W w8) := by
      refine ⟨?_, hW8⟩
      have h1 := hT8.fo
      have h2 : rowOf (L'.take fr ++ [(Value.slice A3 mj (lc - fr), j, rowOf ((L'.drop fr).take mj))] ++ L'.drop up) = inF fr mj j (inlB ka fr ush isIn m ks) := by
        unfold inF
        rw [← HT.out.2.1, List.append_assoc, rowOf_app, rowOf_take, List.singleton_append, rowOf, rowOf_take, rowOf_drop, ← HUp.out, ← List.drop_drop, rowOf_drop, rowOf_drop]
      rw [h2] at h1
      refine h1.kept fun x hx _ => ⟨rfl, ?_⟩
      rcases hx with hx | hx
      · exact hx
      · exact .inr (Nat.le_trans (Nat.le_trans HW2.out hB7'.size) hx)
    refine TailC.one (i := 15) (by kernel_rfl) ⟨_, rfl, fun K hK => ?_⟩
    go_simp
    refine hK.out _ _ (fun _ => (HSd.out _ hB8').1) ?_
    clear hK hT8 hB8 hB8' hB7' hW8 hres
    refine TailC.last (i := 16) (by kernel_rfl) ⟨_, rfl, fun K hK => ?_⟩
    go_simp
    refine hK.out _ _ (fun h => absurd h (by omega)) (NoPanic.normal ?_)
    clear hK
    go_wp2_with fail
    refine bodyPost_ret (v := .agg #[.int .i64 (ka : Int), .slice a8 n8 d8]) (by simp [results, Try.results89, go_sem, q0, q1]) rfl ?_
    have hz := HM.out.2.1
    exact ⟨_, rfl, HR.out.1.laidR HA.out hz _ _, ((HM.out.1.trans (HR.out.2.mono HM.out.1.size)).setCell (by simp; omega) _).setCell (by simp; omega) _⟩
  | none =>
    obtain ⟨hq2, hq3, hush⟩ := HQ.out.2.1 hin
    have hbel : (decide (0 ≤ (q : Int) - (ka : Int)) && decide ((q : Int) - (ka : Int) < (I.length : Int))) = false := by
      rw [Bool.and_eq_false_iff]
      rcases hq2 with h | h
      · exact .inl (decide_eq_false (by omega))
      · exact .inr (decide_eq_false (by omega))
    have HNb : Hid (∀ wq : World, Calls Try.prog 92 #[.agg #[.int .i64 T, .int .i64 N, .slice ra R.length rc, .int .i64 o, .int .i64 (ka : Int), .int .i64 b, .int .i64 c, .slice ca I.length cc, .int .i64 (fr : Int)], .int .i64 (q : Int)] wq fun e w' => e = .returned (.int .i64 ((ush q : Nat) : Int)) ∧ Below wq.heap.size wq w') := fun wq => by
      rw [hush]
      exact st_numB hq3 hq1 hIl
    rw [if_neg (by simp), if_neg (by simp)]
    clear hq2 hq3 hush
    go_enter Try.func89, Try.ntmps89
    go_wp2_with
      (first
       | (go_at_call 83; refine ea.mono ?_; rintro e w2 ⟨rv, L', rfl, hT2, hG2, hB2⟩
          obtain ⟨la, lc, hlv⟩ := own_form hT2.own
          subst hlv
          obtain ⟨n2, hn2⟩ : ∃ n, L'.length = n := ⟨_, rfl⟩
          rw [hn2] at hT2 ⊢
          obtain ⟨z0, z1, z2, z3, z4, z5, z6, z7, z8, z9, z10⟩ := (HS.out w2 hB2).1
          have HT : Hid (FoIn w2 (fun b => A b ∨ W.heap.size ≤ b) (.slice la n2 lc) (inlB ka fr ush isIn m ks) ∧ Below W.heap.size W w2) := by
            refine ⟨?_, hB2⟩
            have := hT2.trIn.fo
            rw [hG2] at this
            exact this
          have ib := st_isBelow (w := w2) (n := (q : Int) - (ka : Int)) (m := (I.length : Int))
          rw [hbel] at ib
          have nb := HNb.out w2
          clear ea hT2 hG2 hB2 hn2 x0 x1 x2 x3 x4 x5 x6 x7 x8 x9 x10 hW hbel)
       | (go_at_call 36; refine ib.mono ?_; rintro e w3 ⟨rfl, h3⟩; obtain rfl : w2 = w3 := h3.symm; clear ib)
       | (go_at_call 92; refine nb.mono ?_; rintro e w4 ⟨rfl, hB4⟩
          have hW4 : Below W.heap.size W w4 := HT.out.2.trans (hB4.mono HT.out.2.size)
          have hres := (HS.out w4 hW4).2
          have y0 : w4.cell? ⟨w.heap.size + 1 + 1, 0, none⟩ = some (.int .i64 0) := cell_of_blk hres rfl
          have y1 : w4.cell? ⟨w.heap.size + 1 + 1, 1, none⟩ = some (.slice none 0 0) := cell_of_blk hres rfl
          have yf0 : w4.frozen? ⟨w.heap.size + 1 + 1, 0, none⟩ = false := frozen_of_blk hres
          have yf1 : w4.frozen? ⟨w.heap.size + 1 + 1, 1, none⟩ = false := frozen_of_blk hres
          have q0 := res_0 (v0 := .int .i64 ((ush q : Nat) : Int)) (v1 := .slice la n2 lc) hres
          have q1 := res_1 (v0 := .int .i64 ((ush q : Nat) : Int)) (v1 := .slice la n2 lc) hres
          have HT4 : Hid (FoIn w4 (fun b => A b ∨ W.heap.size ≤ b) (.slice la n2 lc) (inlB ka fr ush isIn m ks) ∧ Below W.heap.size W w4) := ⟨HT.out.1.below hB4, hW4⟩
          clear nb hB4 hW4 hres z0 z1 z2 z3 z4 z5 z6 z7 z8 z9 z10))
    refine bodyPost_ret (v := .agg #[.int .i64 ((ush q : Nat) : Int), .slice la n2 lc]) (by simp [results, Try.results89, go_sem, q0, q1]) rfl ?_
    have hz := HM.out.2.1
    exact ⟨_, rfl, HT4.out.1.laidR HA.out hz _ _, ((HM.out.1.trans (HT4.out.2.mono HM.out.1.size)).setCell (by simp; omega) _).setCell (by simp; omega) _⟩
end

end Go.Proofs.Ytikjekfpgklbdaa

/- The contracts of package step's (left).begins and leftOf. -/
namespace Go.Proofs.Ytikjekfpgklbdaa
open Go.RowKit

set_option maxRecDepth 100000 in
set_option maxHeartbeats 6400000 in
theorem st_begins {w : World} {T N : Int} {ra : Option Addr} {rc k : Nat} {op a b c : Int} {R : List Ru} (hr : RulesAt w w.heap.size (.slice ra R.length rc) R) (hk : k < R.length) :
    Calls Try.prog 39 #[.agg #[.int .i64 T, .int .i64 N, .slice ra R.length rc, .int .i64 op, .int .i64 a, .int .i64 b, .int .i64 c], .int .i64 k] w fun e w' => e = .returned (.bool (ownA a (R.getD k (0, [])))) ∧ Below w.heap.size w w' := by
  obtain ⟨W0, hW0⟩ : ∃ W, w.alloc (.cells #[.int .i64 T, .int .i64 N, .slice ra R.length rc, .int .i64 op, .int .i64 a, .int .i64 b, .int .i64 c] 90) = W := ⟨_, rfl⟩
  have hB0 : Below w.heap.size w W0 := by rw [← hW0]; exact (Below.refl _ _).alloc (Nat.le_refl _) _
  have x2 : W0.cell? ⟨w.heap.size, 2, none⟩ = some (.slice ra R.length rc) := by rw [← hW0]; exact cell_of_blk (heap_alloc_new _ _) rfl
  have x4 : W0.cell? ⟨w.heap.size, 4, none⟩ = some (.int .i64 a) := by rw [← hW0]; exact cell_of_blk (heap_alloc_new _ _) rfl
  obtain ⟨b0, o0, rc0, qa, qc, hv, _, k1, k2, hsy⟩ := (hr.below hB0).syms hk
  cases hv
  obtain ⟨⟨L, l⟩, hx⟩ : ∃ x, R.getD k (0, []) = x := ⟨_, rfl⟩
  rw [hx] at k1 k2 hsy ⊢
  simp only at k1 k2 hsy
  obtain ⟨W1, hW1⟩ : ∃ W, W0.alloc (.cells #[.int .i64 L, .slice qa l.length qc] 44) = W := ⟨_, rfl⟩
  have hB1 : Below W0.heap.size W0 W1 := by rw [← hW1]; exact (Below.refl _ _).alloc (Nat.le_refl _) _
  have y4 := (hB1.cell (World.block_lt_of_cell? _ _ x4)).trans x4
  have r0 : W1.cell? ⟨W0.heap.size, 0, none⟩ = some (.int .i64 L) := by rw [← hW1]; exact cell_of_blk (heap_alloc_new _ _) rfl
  have r1 : W1.cell? ⟨W0.heap.size, 1, none⟩ = some (.slice qa l.length qc) := by rw [← hW1]; exact cell_of_blk (heap_alloc_new _ _) rfl
  have HB : Hid (Below w.heap.size w W1) := hB0.trans (hB1.mono hB0.size)
  have hsy1 := hsy.same (same_below hB1)
  have i0 : (0 : Int) ≤ (k : Int) := Int.natCast_nonneg _
  have i1 : (k : Int) < (R.length : Int) := by omega
  clear hr hx hB0 hB1 hsy
  by_cases hLa : L = a
  · subst hLa
    by_cases h0 : 0 < l.length
    · obtain ⟨b1, o1, c1, h1, h2, h3⟩ := hsy1.2 0 h0
      cases h1
      simp only [Nat.zero_mul, Nat.add_zero] at h2 h3
      obtain ⟨⟨t, v⟩, hx⟩ : ∃ x, l.getD 0 (false, 0) = x := ⟨_, rfl⟩
      rw [hx] at h2 h3
      simp only at h2 h3
      have j0 : (0 : Int) < (l.length : Int) := by omega
      have hE : ownA L (L, l) = (!t && decide (v = L)) := by unfold ownA ownR; simp only [hx]; simp [h0]
      rw [hE]
      have eL : (L == L) = true := by simp
      clear hsy1 hx hE
      cases t with
      | true =>
        go_enter Try.func39, Try.ntmps39
        go_wp2_with fail
        go_big_quiet (fail)
        go_wp2_with fail
        go_ret
        exact ⟨rfl, below_drewN HB.out _⟩
      | false =>
        by_cases hv : v = L
        · subst hv
          go_enter Try.func39, Try.ntmps39
          go_wp2_with fail
          go_big_quiet (fail)
          go_wp2_with fail
          go_ret
          exact ⟨by simp, below_drewN HB.out _⟩
        · have e1 : (v == L) = false := by simpa using hv
          go_enter Try.func39, Try.ntmps39
          go_wp2_with fail
          go_big_quiet (fail)
          go_wp2_with fail
          go_ret
          exact ⟨by simp [hv], below_drewN HB.out _⟩
    · have hl0 : l.length = 0 := by omega
      have hE : ownA L (L, l) = false := by unfold ownA ownR; simp [hl0]
      rw [hE]
      rw [hl0] at r1 k2 hW1
      have eL : (L == L) = true := by simp
      clear hsy1 hE h0 hl0
      go_enter Try.func39, Try.ntmps39
      go_wp2_with fail
      go_big_quiet (fail)
      go_wp2_with fail
      go_ret
      exact ⟨rfl, below_drewN HB.out _⟩
  · have hE : ownA a (L, l) = false := by unfold ownA; simp [hLa]
    rw [hE]
    have eL : (L == a) = false := by simpa using hLa
    clear hsy1 hE hLa
    go_enter Try.func39, Try.ntmps39
    go_wp2_with fail
    go_big_quiet (fail)
    go_wp2_with fail
    go_ret
    exact ⟨rfl, below_drewN HB.out _⟩

end Go.Proofs.Ytikjekfpgklbdaa

/- each, where what carries the trees over is told of rows of derivations alone; how left's rows are carried over and back, tree by tree. No walk. -/
namespace Go.Proofs.Ytikjekfpgklbdaa
open Go.RowKit

theorem memF_ok {R : List Ru} {q' : Nat} {ks' : Fo} : ∀ {t : Fo} {ns : List Int}, okF R t ns → memF q' ks' t → ∃ n, n ∈ ns ∧ okF R (.nd q' ks' .no) [n]
  | .nd _ _ _, _, ⟨n, _, rfl, h1, h2, h3, h4⟩, hm => by
    rcases hm with ⟨rfl, rfl⟩ | hm
    · exact ⟨n, List.mem_cons_self .., n, [], rfl, h1, h2, h3, rfl⟩
    · obtain ⟨n', h5, h6⟩ := memF_ok h4 hm
      exact ⟨n', List.mem_cons_of_mem _ h5, h6⟩
theorem rowOf_each_on {F : Nat → Fo → Nat × Fo} {G : Fo → Fo} {P : Nat → Fo → Prop} (h0 : G .no = .no) (hG : ∀ q ks ts, P q ks → G (.nd q ks ts) = .nd (F q ks).1 (F q ks).2 (G ts)) : ∀ (L L' : List Tr), (∀ x ∈ L, P x.2.1 x.2.2) → (L'.map fun x => x.2) = L.map (fun x => F x.2.1 x.2.2) → rowOf L' = G (rowOf L)
  | [], [], _, _ => h0.symm
  | [], _ :: _, _, h => by simp at h
  | _ :: _, [], _, h => by simp at h
  | x :: L, y :: L', hP, h => by
    simp only [List.map_cons, List.cons.injEq] at h
    rw [rowOf, rowOf, hG _ _ _ (hP x (List.mem_cons_self ..)), rowOf_each_on h0 hG L L' (fun z hz => hP z (List.mem_cons_of_mem _ hz)) h.2, h.1]

theorem each_on {w : World} {A : Nat → Prop} {v recv : Value} {ks : Fo} {dn : Nat} {F : Nat → Fo → Nat × Fo} {G : Fo → Fo} {P : Nat → Fo → Prop} (hdn : ∀ args w, (callFunc dn args).run Try.prog w = .ok (.enter dn args) w) (h0 : G .no = .no) (hG : ∀ q ks ts, P q ks → G (.nd q ks ts) = .nd (F q ks).1 (F q ks).2 (G ts)) (hP : ∀ q' ks', memF q' ks' ks → P q' ks') (hk : FoIn w A v ks) (hA : ∀ b, A b → b < w.heap.size) (hl : (flatFo ks).length ≤ 50000)
    (hF : ∀ (w' : World) (q' : Nat) (ks' : Fo) (kv' : Value), memF q' ks' ks → Below w.heap.size w w' → FoIn w' A kv' ks' → (∀ b, A b → b < w'.heap.size) → Calls Try.prog dn #[recv, .agg #[.int .i64 (q' : Int), kv']] w' fun e w'' => ∃ kv, e = .returned (.agg #[.int .i64 ((F q' ks').1 : Int), kv]) ∧ FoIn w'' (fun b => A b ∨ w'.heap.size ≤ b) kv (F q' ks').2 ∧ Below w'.heap.size w' w'') :
    Calls Try.prog 83 #[v, .func (.func dn) #[recv] #[]] w fun e w' => ∃ ov L', e = .returned ov ∧ TrOwn w' w.heap.size A ov L' ∧ rowOf L' = G ks ∧ Below w.heap.size w w' := by
  obtain ⟨L, rfl, hL⟩ := hk.list
  refine (st_each (F := F) hdn hL hA (Nat.le_trans (rowOf_size L) hl) fun x hx w' hb => ?_).mono ?_
  · exact hF w' x.2.1 x.2.2 x.1 (mem_rowOf hx) hb ((hL.kids x hx).below hb) fun b hb' => Nat.lt_of_lt_of_le (hA b hb') hb.size
  · rintro e w' ⟨ov, L', rfl, h1, h2, h3⟩
    exact ⟨ov, L', rfl, h1, rowOf_each_on h0 hG L L' (fun x hx => hP _ _ (mem_rowOf hx)) h2, h3⟩

section
variable {N : Nat} {R R' : List Ru} {A : Int} {own isA : Nat → Bool}

/-- What one tree becomes. -/
def leF (L : Nat) (own isA : Nat → Bool) (q : Nat) (ks : Fo) : Nat × Fo := (headF (leG L own isA (.nd q ks .no) (.nd L .no .no)), kidsF (leG L own isA (.nd q ks .no) (.nd L .no .no)))
def leB (L : Nat) (own isA : Nat → Bool) (q : Nat) (ks : Fo) : Nat × Fo := (headF (leH L own isA (.nd q ks .no)).1, kidsF (leH L own isA (.nd q ks .no)).1)

theorem leF_row (h : LeIs N R R' A own isA) (q : Nat) (ks ts : Fo) (hP : ∃ n, okF R (.nd q ks .no) [n]) : leG R.length own isA (.nd q ks ts) (.nd R.length .no .no) = .nd (leF R.length own isA q ks).1 (leF R.length own isA q ks).2 (leG R.length own isA ts (.nd R.length .no .no)) := by
  obtain ⟨n, hP⟩ := hP
  obtain ⟨p, K, e⟩ := leG_single h _ q ks n (Nat.lt_succ_self _) hP (.nd R.length .no .no)
  unfold leF
  rw [leG_cons, e]
  rfl
theorem leF_of {q p : Nat} {ks K : Fo} (e : leG R.length own isA (.nd q ks .no) (.nd R.length .no .no) = .nd p K .no) : leF R.length own isA q ks = (p, K) := by
  unfold leF
  rw [e]
  rfl

/-- One tree becomes one tree, back. -/
theorem leH_single (h : LeIs N R R' A own isA) : ∀ (z : Nat) (c : Fo), (flatFo c).length < z → okF R' c [(N : Int)] → ∀ p K, ∃ p' K', (leH R.length own isA c).2 (.nd p K .no) = .nd p' K' .no := by
  intro z
  induction z with
  | zero => intro c h; omega
  | succ z ih =>
    intro c hz hc p K
    obtain ⟨q, ks, rfl, _, ⟨rfl, rfl⟩ | ⟨hq, ho⟩⟩ := chain_form h hc
    · rw [leH_chain, if_pos rfl]
      exact ⟨_, _, rfl⟩
    · obtain ⟨hA, l, hl, hR'⟩ := h.own1 q hq ho
      obtain ⟨n', ns', e, h1, h2, h3, h4⟩ := hc
      rw [hR', names_app] at h3
      obtain ⟨X, c1, rfl, x, hc1⟩ := ok_split _ _ _ h3
      rw [flatFo, flat_app, List.length_cons, List.length_append, List.length_append] at hz
      rw [leH_chain, if_neg (by omega), (chain_init h hc1).1, (chain_init h hc1).2]
      exact ih c1 (by omega) hc1 _ _
/-- A tree of the grammar that came: A's, or another's. -/
theorem leB_one (h : LeIs N R R' A own isA) {q : Nat} {ks : Fo} {n : Int} (hn : n < (N : Int)) (hok : okF R' (.nd q ks .no) [n]) : q < R.length ∧ own q = false ∧ ((isA q = true ∧ (R.getD q (0, [])).1 = A ∧ ∃ X c, ks = appF X c ∧ okF R' X (namesS (R.getD q (0, [])).2) ∧ okF R' c [(N : Int)] ∧ (leH R.length own isA (.nd q ks .no)).1 = (leH R.length own isA c).2 (.nd q (leH R.length own isA X).1 .no)) ∨ (isA q = false ∧ (R.getD q (0, [])).1 ≠ A ∧ okF R' ks (namesS (R.getD q (0, [])).2) ∧ (leH R.length own isA (.nd q ks .no)).1 = .nd q (leH R.length own isA ks).1 .no)) := by
  obtain ⟨n', ns', e, h1, h2, h3, h4⟩ := hok
  injection e with e1 e2
  subst e1
  have hlen := h.len
  have hqL : q ≠ R.length := fun e => by
    rw [e, h.last] at h2
    simp only at h2
    omega
  have hq : q < R.length := by omega
  have ho : own q = false := by
    cases ho : own q with
    | false => rfl
    | true =>
      obtain ⟨_, l, _, hR'⟩ := h.own1 q hq ho
      rw [hR'] at h2
      simp only at h2
      omega
  refine ⟨hq, ho, ?_⟩
  by_cases hA : (R.getD q (0, [])).1 = A
  · have hb := h.base q hq ho hA
    have hiA : isA q = true := (h.ofA q hq).2 hA
    rw [hb, names_app] at h3
    obtain ⟨X, c, rfl, c1, c2⟩ := ok_split _ _ _ h3
    refine .inl ⟨hiA, hA, X, c, rfl, c1, c2, ?_⟩
    rw [leH]
    simp only
    rw [if_pos (by rw [hiA, ho]; rfl), (chain_init h c2).1, (chain_init h c2).2, leH, app_no]
  · have hR' := h.other q hq hA
    have hiA : isA q = false := by
      cases hi : isA q with
      | false => rfl
      | true => exact absurd ((h.ofA q hq).1 hi) hA
    rw [hR'] at h3
    refine .inr ⟨hiA, hA, h3, ?_⟩
    rw [leH]
    simp only
    rw [if_neg (by rw [hiA]; simp)]
    rfl
theorem leB_single (h : LeIs N R R' A own isA) {q : Nat} {ks : Fo} {n : Int} (hn : n < (N : Int)) (hok : okF R' (.nd q ks .no) [n]) : ∃ p K, (leH R.length own isA (.nd q ks .no)).1 = .nd p K .no := by
  obtain ⟨_, _, ⟨_, _, X, c, _, _, hc, e⟩ | ⟨_, _, _, e⟩⟩ := leB_one h hn hok
  · rw [e]
    exact leH_single h _ c (Nat.lt_succ_self _) hc _ _
  · exact ⟨_, _, e⟩
theorem leB_row (h : LeIs N R R' A own isA) (q : Nat) (ks ts : Fo) (hP : ∃ n, n < (N : Int) ∧ okF R' (.nd q ks .no) [n]) : (leH R.length own isA (.nd q ks ts)).1 = .nd (leB R.length own isA q ks).1 (leB R.length own isA q ks).2 (leH R.length own isA ts).1 := by
  obtain ⟨n, hn, hP⟩ := hP
  obtain ⟨p, K, e⟩ := leB_single h hn hP
  have h1 := leH_app (L := R.length) (own := own) (isA := isA) (.nd q ks .no) ts
  rw [appF, appF] at h1
  unfold leB
  rw [h1, e]
  rfl
theorem leB_of {q p : Nat} {ks K : Fo} (e : (leH R.length own isA (.nd q ks .no)).1 = .nd p K .no) : leB R.length own isA q ks = (p, K) := by
  unfold leB
  rw [e]
  rfl
/-- The names of a rule that was there. -/
theorem le_low (h : LeIs N R R' A own isA) {q : Nat} (hq : q < R.length) : ∀ x ∈ namesS (R.getD q (0, [])).2, x < (N : Int) := fun x hx => by
  have : (false, x) ∈ (R.getD q (0, [])).2 := by
    generalize (R.getD q (0, [])).2 = l at hx
    induction l with
    | nil => cases hx
    | cons s l ihl =>
      obtain ⟨b, y⟩ := s
      cases b with
      | true => exact List.mem_cons_of_mem _ (ihl hx)
      | false =>
        rcases List.mem_cons.1 hx with rfl | hx
        · exact List.mem_cons_self ..
        · exact List.mem_cons_of_mem _ (ihl hx)
  exact (h.low _ (mem_getD hq)).2 _ this rfl
end

end Go.Proofs.Ytikjekfpgklbdaa
