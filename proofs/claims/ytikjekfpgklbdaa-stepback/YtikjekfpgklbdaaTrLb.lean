/- left's back. -/
import Derived.Test.YtikjekfpgklbdaaTrPt
namespace Go.Proofs.Ytikjekfpgklbdaa
open Go.RowKit

theorem leH_len {N : Nat} {R R' : List Ru} {A : Int} {own isA : Nat → Bool} (h : LeIs N R R' A own isA) : ∀ (t : Fo) (ns : List Int), (∀ n ∈ ns, n < (N : Int)) → okF R' t ns → lenF (leH R.length own isA t).1 = lenF t
  | .no, _, _, _ => rfl
  | .nd q ks ts, ns, hn, hok => by
    obtain ⟨n, ns', e, h1, h2, h3, h4⟩ := hok
    subst e
    rw [leB_row h q ks ts ⟨n, hn n (List.mem_cons_self ..), n, [], rfl, h1, h2, h3, rfl⟩, lenF, lenF, leH_len h ts _ (fun x hx => hn x (List.mem_cons_of_mem _ hx)) h4]
theorem lfM_start2 {w W w2 : World} {cx : Array Value} {q : Nat} {kv : Value} {A : Nat → Prop} (hM : MBox w W cx 90 (q : Int) kv) (hb : Below W.heap.size W w2) {cq : Nat} {cv : Value} {ck : Fo} (hk : FoIn w A cv ck) : LfM w cx w2.heap.size A q kv cq cv ck (w2.alloc (.cells #[.int .i64 (cq : Int), cv] 70)) := by
  have h1 := hM.size
  have h2 := hb.size
  have hb' : Below W.heap.size W (w2.alloc (.cells #[.int .i64 (cq : Int), cv] 70)) := hb.alloc hb.size _
  have hw := hM.below.trans (hb'.mono hM.below.size)
  exact ⟨hw, by omega, (hb'.block _ (by omega)).trans hM.chg, (hb'.block _ (by omega)).trans hM.tre, (hb'.block _ (by omega)).trans hM.res, heap_alloc_new w2 _, (hk.below hw).kept fun b hb _ => ⟨rfl, .inl hb⟩⟩
/-- A row ends with a chain. -/
theorem row_snoc {L : List Tr} {X : Fo} {q : Nat} {ks : Fo} (h : rowOf L = appF X (.nd q ks .no)) : ∃ L1 v, L = L1 ++ [(v, q, ks)] ∧ rowOf L1 = X := by
  induction X generalizing L with
  | no =>
    match L, h with
    | [x], h =>
      rw [rowOf, rowOf, appF] at h
      injection h with h1 h2 _
      obtain ⟨v, q', ks'⟩ := x
      simp only at h1 h2
      subst h1 h2
      exact ⟨[], v, rfl, rfl⟩
    | _ :: _ :: _, h => rw [rowOf, rowOf, appF] at h; injection h with _ _ h3; cases h3
  | nd p k t _ ih =>
    match L, h with
    | x :: L, h =>
      rw [rowOf, appF] at h
      injection h with h1 h2 h3
      obtain ⟨L1, v, e, e2⟩ := ih h3
      refine ⟨x :: L1, v, by rw [e]; rfl, ?_⟩
      rw [rowOf, e2, h1, h2]

section
variable {w0 : World} {R R' : List Ru} {own isA : Nat → Bool} {T Nn o a b c : Int} {N : Nat} {ra : Option Addr} {rc : Nat}

set_option maxRecDepth 100000 in
set_option maxHeartbeats 6400000 in
theorem left_backs (hL : LeIs N R R' a own isA) (hR : RulesAt w0 w0.heap.size (.slice ra R.length rc) R) : ∀ (n : Nat) (w : World) (q : Nat) (ks : Fo) (kv : Value) (A : Nat → Prop), (flatFo ks).length < n → Below w0.heap.size w0 w → (∃ nm, nm < (N : Int) ∧ okF R' (.nd q ks .no) [nm]) → (flatFo ks).length ≤ 2000 → FoIn w A kv ks → (∀ b, A b → b < w.heap.size) →
    Calls Try.prog 97 #[.agg #[.int .i64 T, .int .i64 Nn, .slice ra R.length rc, .int .i64 o, .int .i64 a, .int .i64 b, .int .i64 c], .agg #[.int .i64 (q : Int), kv]] w fun e w' => ∃ kv', e = .returned (.agg #[.int .i64 ((leB R.length own isA q ks).1 : Int), kv']) ∧ FoIn w' (fun b => A b ∨ w.heap.size ≤ b) kv' (leB R.length own isA q ks).2 ∧ Below w.heap.size w w' := by
  intro n
  induction n with
  | zero => intro _ _ _ _ _ h; omega
  | succ n ih =>
  intro w q ks kv A hn hb0 hqP hl hk hA
  obtain ⟨nm, hnm, hok⟩ := hqP
  have hk1 := hk
  obtain ⟨ka1, kc, hkv, _⟩ := hk1
  obtain ⟨n1, hn1⟩ : ∃ n, lenF ks = n := ⟨_, rfl⟩
  rw [hn1] at hkv
  subst hkv
  obtain ⟨W, hW⟩ : ∃ W, ((w.alloc (.cells #[.int .i64 T, .int .i64 Nn, .slice ra R.length rc, .int .i64 o, .int .i64 a, .int .i64 b, .int .i64 c] 90)).alloc (.cells #[.int .i64 (q : Int), .slice ka1 n1 kc] 70)).alloc (.cells #[.int .i64 0, .slice none 0 0] 70) = W := ⟨_, rfl⟩
  have hM := mbox hW
  have HS : Hid (∀ wq, Below W.heap.size W wq → LefS w.heap.size T Nn o a b c ra R.length rc q (.slice ka1 n1 kc) wq ∧ wq.heap[w.heap.size + 1 + 1]? = some (.cells #[.int .i64 0, .slice none 0 0] 70 (0, 0))) := fun wq h1 => by
    have hc := (h1.block _ (by have := hM.size; omega)).trans hM.chg
    have ht := (h1.block _ (by have := hM.size; omega)).trans hM.tre
    exact ⟨⟨cell_of_blk hc rfl, cell_of_blk hc rfl, cell_of_blk hc rfl, cell_of_blk hc rfl, cell_of_blk hc rfl, cell_of_blk hc rfl, cell_of_blk hc rfl, cell_of_blk ht rfl, cell_of_blk ht rfl⟩, (h1.block _ (by have := hM.size; omega)).trans hM.res⟩
  obtain ⟨x0, x1, x2, x3, x4, x5, x6, x7, x8⟩ := (HS.out W (Below.refl _ _)).1
  have HEa : Hid (∀ (wq : World) (A' : Nat → Prop) (v' : Value) (ks' : Fo) (ns : List Int), Below w.heap.size w wq → FoIn wq A' v' ks' → (∀ b, A' b → b < wq.heap.size) → (flatFo ks').length ≤ (flatFo ks).length → (∀ n ∈ ns, n < (N : Int)) → okF R' ks' ns → Calls Try.prog 83 #[v', .func (.func 97) #[.agg #[.int .i64 T, .int .i64 Nn, .slice ra R.length rc, .int .i64 o, .int .i64 a, .int .i64 b, .int .i64 c]] #[]] wq fun e w' => ∃ ov L', e = .returned ov ∧ TrOwn w' wq.heap.size A' ov L' ∧ rowOf L' = (leH R.length own isA ks').1 ∧ L'.length ≤ 2000 ∧ Below wq.heap.size wq w') := fun wq A' v' ks' ns hq' hk' hA' hs' hns hok' => by
    have hP : ∀ q' k', memF q' k' ks' → ∃ n, n < (N : Int) ∧ okF R' (.nd q' k' .no) [n] := fun q' k' hm => by
      obtain ⟨n, h1, h2⟩ := memF_ok hok' hm
      exact ⟨n, hns n h1, h2⟩
    refine (each_on (F := leB R.length own isA) (G := fun t => (leH R.length own isA t).1) (P := fun q ks => ∃ n, n < (N : Int) ∧ okF R' (.nd q ks .no) [n]) (fun args w' => by simp [callFunc, Try.func97, Try.f97 ]) rfl (leB_row hL) hP hk' hA' (by omega) fun w' q'' ks'' kv'' hm hb' hk'' hA'' => ?_).mono ?_
    · have := memF_size hm
      exact ih w' q'' ks'' kv'' A' (by omega) (hb0.trans ((hq'.trans (hb'.mono hq'.size)).mono hb0.size)) (hP _ _ hm) (by omega) hk'' hA''
    · rintro e w' ⟨ov, L', rfl, h1, h2, h3⟩
      refine ⟨ov, L', rfl, h1, h2, ?_, h3⟩
      rw [← rowOf_len, h2, leH_len hL _ _ hns hok']
      obtain ⟨LL, hLL, -⟩ := hk'.list
      have h2 := rowOf_size LL
      have h3 := rowOf_len LL
      rw [hLL] at h2 h3
      omega
  have HM : Hid (Below w.heap.size w W ∧ w.heap.size + 3 ≤ W.heap.size ∧ Below w0.heap.size w0 w) := ⟨hM.below, by have := hM.size; omega, hb0⟩
  have HMB : Hid (MBox w W #[.int .i64 T, .int .i64 Nn, .slice ra R.length rc, .int .i64 o, .int .i64 a, .int .i64 b, .int .i64 c] 90 (q : Int) (.slice ka1 n1 kc)) := hM
  have HA : Hid (∀ b, A b → b < w.heap.size) := hA
  have HK : Hid (FoIn w A (.slice ka1 n1 kc) ks ∧ (flatFo ks).length ≤ 2000) := ⟨hk, hl⟩
  obtain ⟨h1, hown, hcase⟩ := leB_one hL hnm hok
  have HLow : Hid (∀ x ∈ namesS (R.getD q (0, [])).2, x < (N : Int)) := le_low hL h1
  obtain ⟨b0, o0, rc0, qa, qc, hv, _, k1, -, -⟩ := (hR.below (hb0.trans (hM.below.mono hb0.size))).syms h1
  injection hv with hv1 _ hv3
  subst hv1
  subst hv3
  obtain ⟨Lq, hLq⟩ : ∃ x, (R.getD q (0, [])).1 = x := ⟨_, rfl⟩
  rw [hLq] at k1 hcase
  have i0 : (0 : Int) ≤ (q : Int) := Int.natCast_nonneg _
  have i1 : (q : Int) < (R.length : Int) := by omega
  clear ih hn hl hk hA hM hb0 hn1 hok hnm
  rcases hcase with ⟨hiA, hqa, X, ch, hks, hokX, hokc, hres⟩ | ⟨hiA, hqa, hokk, hres⟩
  · subst hqa
    have heq : (Lq == Lq) = true := by simp
    obtain ⟨cq, ck, rfl, -, -⟩ := chain_form hL hokc
    obtain ⟨LL, hLL, hTL⟩ := HK.out.1.list
    rw [hks] at hLL
    obtain ⟨L1, cv, rfl, hX⟩ := row_snoc hLL
    obtain ⟨m, hm⟩ : ∃ m, L1.length = m := ⟨_, rfl⟩
    have hn1m : n1 = m + 1 := by obtain ⟨_, _, h, _⟩ := hTL.form; injection h with _ h _; rw [List.length_append] at h; simp only [List.length_singleton] at h; omega
    subst hn1m
    have hsz : (flatFo ks).length = (flatFo X).length + ((flatFo ck).length + 1) := by rw [hks, flat_app, List.length_append, flatFo, List.length_cons, List.length_append]; rfl
    have hms : m ≤ 2000 := by have h2 := rowOf_size L1; rw [hX] at h2; have := HK.out.2; omega
    obtain ⟨ca, cc, hcv, hcc, -⟩ := hTL.kids (cv, cq, ck) (by simp)
    have hck := hTL.kids (cv, cq, ck) (by simp)
    simp only at hcv hck
    obtain ⟨cm, hcm⟩ : ∃ n, lenF ck = n := ⟨_, rfl⟩
    rw [hcm] at hcv
    subst hcv
    have hFX : FoIn w A (.slice ka1 m kc) X := by
      have h0 : TrIn w A (.slice ka1 (L1 ++ [(Value.slice ca cm cc, cq, ck)]).length kc) (L1 ++ [(.slice ca cm cc, cq, ck)]) := by rw [List.length_append, hm]; exact hTL
      have h1 := (h0.take (f := m) (by rw [List.length_append]; omega)).fo
      rw [← hm, List.take_left, hX, hm] at h1
      exact h1
    have HX : Hid (FoIn w A (.slice ka1 m kc) X ∧ okF R' X (namesS (R.getD q (0, [])).2) ∧ (flatFo ks).length = (flatFo X).length + ((flatFo ck).length + 1)) := ⟨hFX, hokX, hsz⟩
    have HC : Hid (FoIn w A (.slice ca cm cc) ck ∧ okF R' (.nd cq ck .no) [(N : Int)] ∧ (leH R.length own isA (.nd q ks .no)).1 = (leH R.length own isA (.nd cq ck .no)).2 (.nd q (leH R.length own isA X).1 .no)) := ⟨hck, hokc, hres⟩
    have HTL : Hid (TrIn w A (.slice ka1 (m + 1) kc) (L1 ++ [(.slice ca cm cc, cq, ck)])) := hTL
    clear hLq h1 hiA hks hokX hokc hres hLL hTL hX hm hsz hcc hck hcm hFX hR hown
    go_enter Try.func97, Try.ntmps97
    go_upto_region 1 with fail
    go_big_quiet (fail)
    go_upto_region 3 with fail
    obtain ⟨V0, hV0⟩ : ∃ V, W.drewN nq = V := ⟨_, rfl⟩
    have hB0 : Below W.heap.size W V0 := by rw [← hV0]; exact below_drewN (Below.refl _ _) _
    rw [hV0]
    clear hV0 x0 x1 x2 x3 x4 x5 x6 x7 x8
    obtain ⟨x0, x1, x2, x3, x4, x5, x6, x7, x8⟩ := (HS.out V0 hB0).1
    have HB0 : Hid (Below W.heap.size W V0 ∧ Below w.heap.size w V0) := ⟨hB0, HM.out.1.trans (hB0.mono HM.out.1.size)⟩
    have pa := st_parted (w := V0) (n := m) (HTL.out.below HB0.out.2) (by omega)
    simp only at pa
    obtain ⟨n1, hn1⟩ : ∃ n1, m + 1 = n1 := ⟨_, rfl⟩
    have HN1 : Hid (m + 1 = n1) := hn1
    rw [hn1] at x8 pa HS HMB
    clear hB0 hW k1
    go_upto_region 4 with
      (go_at_call 100; refine pa.mono ?_; rintro e w2 ⟨rfl, hB2⟩
       have HB2 : Hid (Below W.heap.size W w2) := HB0.out.1.trans (hB2.mono HB0.out.1.size)
       clear pa hB2 x0 x1 x2 x3 x4 x5 x6 x7 x8)
    obtain ⟨p6, hp6⟩ : ∃ x, w2.heap.size = x := ⟨_, rfl⟩
    obtain ⟨W4, hW4⟩ : ∃ V, w2.alloc (.cells #[.int .i64 (cq : Int), .slice ca cm cc] 70) = V := ⟨_, rfl⟩
    have hMf := lfM_start2 HMB.out HB2.out (cq := cq) HC.out.1
    rw [hW4, hp6] at hMf
    rw [hW4]
    rw [hp6]
    have HMf : Hid (LfM w #[.int .i64 T, .int .i64 Nn, .slice (some ⟨b0, o0, none⟩) R.length rc, .int .i64 o, .int .i64 Lq, .int .i64 b, .int .i64 c] p6 A q (.slice ka1 n1 kc) cq (.slice ca cm cc) ck W4) := hMf
    clear hMf hW4 hp6
    go_cut [7] from 37 to 43 (fun s7 wx => ∃ (p7 : Nat) (na : Option Addr) (nl nc : Nat), s7 = .pointer (some ⟨p7, 0, none⟩) ∧ LbM w #[.int .i64 T, .int .i64 Nn, .slice (some ⟨b0, o0, none⟩) R.length rc, .int .i64 o, .int .i64 Lq, .int .i64 b, .int .i64 c] p6 p7 A q (.slice ka1 n1 kc) cq (.slice ca cm cc) q (.slice na nl nc) (leH R.length own isA X).1 wx)
    case first =>
      obtain ⟨Wd, hWd⟩ : ∃ V, W4.drew = V := ⟨_, rfl⟩
      have hBd : Below W4.heap.size W4 Wd := by rw [← hWd]; exact (Below.refl _ _).drew
      have hMd := HMf.out.next hBd
      have HSd : Hid (∀ wq, Below Wd.heap.size Wd wq → LefS w.heap.size T Nn o Lq b c (some ⟨b0, o0, none⟩) R.length rc q (.slice ka1 n1 kc) wq ∧ LfM w #[.int .i64 T, .int .i64 Nn, .slice (some ⟨b0, o0, none⟩) R.length rc, .int .i64 o, .int .i64 Lq, .int .i64 b, .int .i64 c] p6 A q (.slice ka1 n1 kc) cq (.slice ca cm cc) ck wq) := fun wq hq => ⟨(hMd.next hq).cells.1, hMd.next hq⟩
      have S0 := (HSd.out Wd (Below.refl _ _)).1
      have HE2 : Hid (∀ wq, Below Wd.heap.size Wd wq → Calls Try.prog 83 #[.slice ka1 m kc, .func (.func 97) #[.agg #[.int .i64 T, .int .i64 Nn, .slice (some ⟨b0, o0, none⟩) R.length rc, .int .i64 o, .int .i64 Lq, .int .i64 b, .int .i64 c]] #[]] wq fun e w' => ∃ ov L', e = .returned ov ∧ TrOwn w' wq.heap.size A ov L' ∧ rowOf L' = (leH R.length own isA X).1 ∧ L'.length ≤ 2000 ∧ Below wq.heap.size wq w') := fun wq hq => by
        have hww : Below w.heap.size w wq := hMd.below.trans (hq.mono hMd.below.size)
        exact HEa.out wq A _ X _ hww (HX.out.1.below hww) (fun b hb => Nat.lt_of_lt_of_le (HA.out b hb) hww.size) (by have := HX.out.2.2; omega) HLow.out HX.out.2.1
      have HP6 : Hid (p6 < Wd.heap.size) := hMd.hi
      clear hBd hMd
      refine wp_region_mix [0, 1, 2, 3, 4] 4 8 (fun wq => LefS w.heap.size T Nn o Lq b c (some ⟨b0, o0, none⟩) R.length rc q (.slice ka1 n1 kc) wq) (by kernel_rfl) (by kernel_rfl) (by rw [hWd]; exact S0) ?_
      rw [hWd]
      clear hWd S0
      iterate 5
        refine StillI.con8 (v := ?_) rfl (by rfl) ?_ ?_
        rotate_left
        · intro w' hSw
          obtain ⟨z0, z1, z2, z3, z4, z5, z6, z7, z8⟩ := hSw
          go_simp
          try with_reducible rfl
        simp only [Act.put, List.setIfInBounds_toArray, List.set_cons_zero, List.set_cons_succ]
      rw [StillI]
      refine TailC.two (i := 5) (i' := 7) (by kernel_rfl) ⟨_, rfl, fun K hK => ?_⟩ ⟨_, rfl, fun K hK => ?_⟩
      · have ea := HE2.out Wd (Below.refl _ _)
        go_simp
        refine ea.mono ?_
        rintro e w3 ⟨rv, L', rfl, hT3, hG3, -, hB3⟩
        obtain ⟨la, lc, hlv⟩ := own_form hT3.own
        subst hlv
        obtain ⟨n3, hn3⟩ : ∃ n, L'.length = n := ⟨_, rfl⟩
        rw [hn3] at hT3 ⊢
        dsimp only
        refine hK.out _ _ (fun _ => (HSd.out w3 hB3).1) ?_
        clear hK ea
        refine TailC.read (i := 6) (v := .agg #[.int .i64 (q : Int), .slice la n3 lc]) rfl (by kernel_rfl) (by rfl) (fun w' _ => by unfold execOp; go_simp) (HSd.out w3 hB3).1 ?_
        simp only [Act.put, List.setIfInBounds_toArray, List.set_cons_zero, List.set_cons_succ]
        have hBz : Below Wd.heap.size Wd (w3.alloc (.cells #[.int .i64 0, .slice none 0 0] 70)) := hB3.alloc hB3.size _
        have hF3 : FoIn (w3.alloc (.cells #[.int .i64 0, .slice none 0 0] 70)) (fun b => A b ∨ (p6 < b ∧ b ≠ w3.heap.size)) (.slice la n3 lc) (leH R.length own isA X).1 := by
          have h1 := hT3.trIn.fo
          rw [hG3] at h1
          refine (h1.kept fun x hx hlt => ⟨rfl, hx.imp id fun h => ⟨?_, ?_⟩⟩ : FoIn w3 (fun b => A b ∨ (p6 < b ∧ b ≠ w3.heap.size)) (.slice la n3 lc) (leH R.length own isA X).1).below ((Below.refl _ _).alloc (Nat.le_refl _) _)
          · have := HP6.out; omega
          · omega
        refine TailC.one (i := 7) (by kernel_rfl) ⟨_, rfl, fun K hK => ?_⟩
        go_simp
        refine hK.out _ _ (fun _ => (HSd.out _ hBz).1) ?_
        clear hK
        have hres := heap_alloc_new w3 (.cells #[.int .i64 0, .slice none 0 0] 70)
        obtain ⟨pz, hpz⟩ : ∃ x, w3.heap.size = x := ⟨_, rfl⟩
        obtain ⟨wz, hwz⟩ : ∃ V, w3.alloc (.cells #[.int .i64 0, .slice none 0 0] 70) = V := ⟨_, rfl⟩
        have HP : Hid (p6 < pz) := by show _ < _; rw [← hpz]; exact Nat.lt_of_lt_of_le HP6.out hB3.size
        rw [hwz, hpz] at hres hF3
        rw [hwz] at hBz ⊢
        rw [hpz]
        have y0 : wz.cell? ⟨pz, 0, none⟩ = some (.int .i64 0) := cell_of_blk hres rfl
        have y1 : wz.cell? ⟨pz, 1, none⟩ = some (.slice none 0 0) := cell_of_blk hres rfl
        have yf0 : wz.frozen? ⟨pz, 0, none⟩ = false := frozen_of_blk hres
        have yf1 : wz.frozen? ⟨pz, 1, none⟩ = false := frozen_of_blk hres
        have HE : Hid (LbM w #[.int .i64 T, .int .i64 Nn, .slice (some ⟨b0, o0, none⟩) R.length rc, .int .i64 o, .int .i64 Lq, .int .i64 b, .int .i64 c] p6 pz A q (.slice ka1 n1 kc) cq (.slice ca cm cc) q (.slice la n3 lc) (leH R.length own isA X).1 ((wz.setCell ⟨pz, 0, none⟩ (.int .i64 (q : Int))).setCell ⟨pz, 1, none⟩ (.slice la n3 lc))) := (HSd.out wz hBz).2.out HA.out HP.out hres hF3
        clear hwz hpz hB3 hBz hres hF3 hT3 hG3
        refine TailC.last (i := 8) (by kernel_rfl) ⟨_, rfl, fun K hK => ?_⟩
        go_simp
        refine hK.out _ _ (fun h => absurd h (by omega)) (NoPanic.normal ?_)
        clear hK
        go_wp2_with fail
        go_meet
        case rel => exact ⟨pz, la, n3, lc, rfl, HE.out⟩
      · have hBy : Below Wd.heap.size Wd (Wd.alloc (.cells #[.int .i64 0, .slice none 0 0] 70)) := (Below.refl _ _).alloc (Nat.le_refl _) _
        have hBsz : (Wd.alloc (.cells #[.int .i64 0, .slice none 0 0] 70)).heap.size = Wd.heap.size + 1 := by simp
        go_simp
        refine hK.out _ _ (fun _ => (HSd.out _ hBy).1) ?_
        clear hK
        have hres := heap_alloc_new Wd (.cells #[.int .i64 0, .slice none 0 0] 70)
        obtain ⟨pz, hpz⟩ : ∃ x, Wd.heap.size = x := ⟨_, rfl⟩
        obtain ⟨wy, hwy⟩ : ∃ V, Wd.alloc (.cells #[.int .i64 0, .slice none 0 0] 70) = V := ⟨_, rfl⟩
        have HP : Hid (p6 < pz ∧ pz = Wd.heap.size) := ⟨by rw [← hpz]; exact HP6.out, hpz.symm⟩
        rw [hwy] at hBy hres hBsz ⊢
        rw [hpz] at hres hBsz ⊢
        have HBsz : Hid (wy.heap.size = pz + 1) := hBsz
        clear hwy hpz hBsz
        have ea := HE2.out wy hBy
        refine TailC.one (i := 5) (by kernel_rfl) ⟨_, rfl, fun K hK => ?_⟩
        go_simp
        refine ea.mono ?_
        rintro e wz ⟨rv, L', rfl, hT3, hG3, -, hB3⟩
        obtain ⟨la, lc, hlv⟩ := own_form hT3.own
        subst hlv
        obtain ⟨n3, hn3⟩ : ∃ n, L'.length = n := ⟨_, rfl⟩
        rw [hn3] at hT3 ⊢
        dsimp only
        have hBz : Below Wd.heap.size Wd wz := hBy.trans (hB3.mono hBy.size)
        refine hK.out _ _ (fun _ => (HSd.out wz hBz).1) ?_
        clear hK ea
        have hres := (hB3.block _ (Array.getElem?_eq_some_iff.1 hres).1).trans hres
        have hF3 : FoIn wz (fun b => A b ∨ (p6 < b ∧ b ≠ pz)) (.slice la n3 lc) (leH R.length own isA X).1 := by
          have h1 := hT3.trIn.fo
          rw [hG3] at h1
          refine h1.kept fun x hx hlt => ⟨rfl, hx.imp id fun h => ⟨?_, ?_⟩⟩
          · have := HP.out.1; have := HBsz.out; omega
          · have := HBsz.out; omega
        refine TailC.one (i := 6) (by kernel_rfl) ⟨_, rfl, fun K hK => ?_⟩
        go_simp
        refine hK.out _ _ (fun _ => (HSd.out _ hBz).1) ?_
        clear hK
        have y0 : wz.cell? ⟨pz, 0, none⟩ = some (.int .i64 0) := cell_of_blk hres rfl
        have y1 : wz.cell? ⟨pz, 1, none⟩ = some (.slice none 0 0) := cell_of_blk hres rfl
        have yf0 : wz.frozen? ⟨pz, 0, none⟩ = false := frozen_of_blk hres
        have yf1 : wz.frozen? ⟨pz, 1, none⟩ = false := frozen_of_blk hres
        have HE : Hid (LbM w #[.int .i64 T, .int .i64 Nn, .slice (some ⟨b0, o0, none⟩) R.length rc, .int .i64 o, .int .i64 Lq, .int .i64 b, .int .i64 c] p6 pz A q (.slice ka1 n1 kc) cq (.slice ca cm cc) q (.slice la n3 lc) (leH R.length own isA X).1 ((wz.setCell ⟨pz, 0, none⟩ (.int .i64 (q : Int))).setCell ⟨pz, 1, none⟩ (.slice la n3 lc))) := (HSd.out wz hBz).2.out HA.out HP.out.1 hres hF3
        clear hB3 hBz hres hF3 hT3 hG3 hBy
        refine TailC.last (i := 8) (by kernel_rfl) ⟨_, rfl, fun K hK => ?_⟩
        go_simp
        refine hK.out _ _ (fun h => absurd h (by omega)) (NoPanic.normal ?_)
        clear hK
        go_wp2_with fail
        go_meet
        case rel => exact ⟨pz, la, n3, lc, rfl, HE.out⟩
    case rest =>
      obtain ⟨p7, na, nl, nc, rfl, hm7⟩ := hcut
      have HM7 : Hid (LbM w #[.int .i64 T, .int .i64 Nn, .slice (some ⟨b0, o0, none⟩) R.length rc, .int .i64 o, .int .i64 Lq, .int .i64 b, .int .i64 c] p6 p7 A q (.slice ka1 n1 kc) cq (.slice ca cm cc) q (.slice na nl nc) (leH R.length own isA X).1 wc) := hm7
      clear hm7 HMf
      go_wp2_with fail
      go_loopg [] ((flatFo ck).length) (fun gk wr => ∃ (cq' : Nat) (ca' : Option Addr) (cm' cc' : Nat) (ck' : Fo) (oq : Nat) (ov : Value) (ok : Fo), gk = (flatFo ck').length ∧ LbM w #[.int .i64 T, .int .i64 Nn, .slice (some ⟨b0, o0, none⟩) R.length rc, .int .i64 o, .int .i64 Lq, .int .i64 b, .int .i64 c] p6 p7 A q (.slice ka1 n1 kc) cq' (.slice ca' cm' cc') oq ov ok wr ∧ FoIn w A (.slice ca' cm' cc') ck' ∧ okF R' (.nd cq' ck' .no) [(N : Int)] ∧ (leH R.length own isA (.nd q ks .no)).1 = (leH R.length own isA (.nd cq' ck' .no)).2 (.nd oq ok .no) ∧ (flatFo ck').length ≤ (flatFo ks).length)
      case atStart => exact ⟨cq, _, _, _, ck, q, _, _, rfl, HM7.out, HC.out.1, HC.out.2.1, HC.out.2.2, by have := HX.out.2.2; omega⟩
      case round =>
        clear HM7
        obtain ⟨cq', ca', cm', cc', ck', oq, ov, ok, hgk, hm, hk', hok', hG', hle'⟩ := hrel
        obtain ⟨oa, oc, hov, _⟩ := hm.oin
        obtain ⟨ol, hol⟩ : ∃ n, lenF ok = n := ⟨_, rfl⟩
        rw [hol] at hov
        subst hov
        clear hol
        have HMr : Hid (LbM w #[.int .i64 T, .int .i64 Nn, .slice (some ⟨b0, o0, none⟩) R.length rc, .int .i64 o, .int .i64 Lq, .int .i64 b, .int .i64 c] p6 p7 A q (.slice ka1 n1 kc) cq' (.slice ca' cm' cc') oq (.slice oa ol oc) ok wr) := hm
        have HG' : Hid ((leH R.length own isA (.nd q ks .no)).1 = (leH R.length own isA (.nd cq' ck' .no)).2 (.nd oq ok .no) ∧ gk = (flatFo ck').length ∧ (flatFo ck').length ≤ (flatFo ks).length ∧ FoIn w A (.slice ca' cm' cc') ck' ∧ okF R' (.nd cq' ck' .no) [(N : Int)]) := ⟨hG', hgk, hle', hk', hok'⟩
        clear hm hG' hle' hgk hk' hok'
        go_upto_region 5 with fail
        obtain ⟨Wd, hWd⟩ : ∃ V, wr.drew = V := ⟨_, rfl⟩
        have hBd : Below wr.heap.size wr Wd := by rw [← hWd]; exact (Below.refl _ _).drew
        have hMd := HMr.out.next hBd
        have HSd : Hid (∀ wq, Below Wd.heap.size Wd wq → (LefS w.heap.size T Nn o Lq b c (some ⟨b0, o0, none⟩) R.length rc q (.slice ka1 n1 kc) wq ∧ wq.cell? ⟨p6, 0, none⟩ = some (.int .i64 (cq' : Int))) ∧ LbM w #[.int .i64 T, .int .i64 Nn, .slice (some ⟨b0, o0, none⟩) R.length rc, .int .i64 o, .int .i64 Lq, .int .i64 b, .int .i64 c] p6 p7 A q (.slice ka1 n1 kc) cq' (.slice ca' cm' cc') oq (.slice oa ol oc) ok wq) := fun wq hq => ⟨⟨(hMd.next hq).cells.1, (hMd.next hq).cells.2.1⟩, hMd.next hq⟩
        have S0 := (HSd.out Wd (Below.refl _ _)).1
        have la1 := st_last (w := Wd) (T := T) (N := Nn) (ra := some ⟨b0, o0, none⟩) (rn := R.length) (rc := rc) (op := o) (a := Lq) (b := b) (c := c)
        clear hBd hMd
        refine wp_region_mix [0, 1, 2, 3] 2 5 (fun wq => LefS w.heap.size T Nn o Lq b c (some ⟨b0, o0, none⟩) R.length rc q (.slice ka1 n1 kc) wq ∧ wq.cell? ⟨p6, 0, none⟩ = some (.int .i64 (cq' : Int))) (by kernel_rfl) (by kernel_rfl) (by rw [hWd]; exact S0) ?_
        rw [hWd]
        clear hWd S0
        iterate 4
          refine StillI.con8 (v := ?_) rfl (by rfl) ?_ ?_
          rotate_left
          · intro w' hSw
            obtain ⟨⟨z0, z1, z2, z3, z4, z5, z6, z7, z8⟩, z9⟩ := hSw
            go_simp
            try with_reducible rfl
          simp only [Act.put, List.setIfInBounds_toArray, List.set_cons_zero, List.set_cons_succ]
        rw [StillI]
        refine TailC.one (i := 4) (by kernel_rfl) ⟨_, rfl, fun K hK => ?_⟩
        go_simp
        refine la1.mono ?_
        rintro e w3 ⟨rfl, hB3⟩
        dsimp only
        refine hK.out _ _ (fun _ => (HSd.out w3 hB3).1) ?_
        clear hK la1
        have HM3 : Hid (LbM w #[.int .i64 T, .int .i64 Nn, .slice (some ⟨b0, o0, none⟩) R.length rc, .int .i64 o, .int .i64 Lq, .int .i64 b, .int .i64 c] p6 p7 A q (.slice ka1 n1 kc) cq' (.slice ca' cm' cc') oq (.slice oa ol oc) ok w3) := (HSd.out w3 hB3).2
        clear hB3 HSd
        by_cases hcL : cq' = R.length
        · subst hcL
          have heq2 : ((R.length : Int) == (R.length : Int)) = true := by simp
          have HFin : Hid (leB R.length own isA q ks = (oq, ok)) := leB_of (by rw [HG'.out.1, leH_chain, if_pos rfl])
          obtain ⟨-, -, -, c3, c4⟩ := HM3.out.cells
          have hres := HM3.out.res
          have y0 : w3.cell? ⟨w.heap.size + 1 + 1, 0, none⟩ = some (.int .i64 0) := cell_of_blk hres rfl
          have y1 : w3.cell? ⟨w.heap.size + 1 + 1, 1, none⟩ = some (.slice none 0 0) := cell_of_blk hres rfl
          have yf0 : w3.frozen? ⟨w.heap.size + 1 + 1, 0, none⟩ = false := frozen_of_blk hres
          have yf1 : w3.frozen? ⟨w.heap.size + 1 + 1, 1, none⟩ = false := frozen_of_blk hres
          have q0 := res_0 (v0 := .int .i64 (oq : Int)) (v1 := .slice oa ol oc) hres
          have q1 := res_1 (v0 := .int .i64 (oq : Int)) (v1 := .slice oa ol oc) hres
          clear hres
          refine TailC.last (i := 5) (by kernel_rfl) ⟨_, rfl, fun K hK => ?_⟩
          go_simp
          refine hK.out _ _ (fun h => absurd h (by omega)) (NoPanic.normal ?_)
          clear hK
          go_wp2_with fail
          refine bodyPost_ret (v := .agg #[.int .i64 (oq : Int), .slice oa ol oc]) (by simp [results, Try.results97, go_sem, q0, q1]) rfl ?_
          rw [HFin.out]
          have hlo := HM3.out.lo
          refine ⟨_, rfl, HM3.out.oin.laid (fun h => ?_) _ _ fun b hb => hb.imp id fun h => by omega, (HM3.out.below.setCell (by simp only; omega) _).setCell (by simp only; omega) _⟩
          rcases h with h | h
          · have := HA.out _ h; omega
          · omega
        · have hne : ((cq' : Int) == (R.length : Int)) = false := by simp; omega
          have hok1 := HG'.out.2.2.2.2
          obtain ⟨q1, k1, e, -, hcf⟩ := chain_form hL hok1
          injection e with e1 e2 _
          subst e1 e2
          obtain ⟨hqlt, ho⟩ := hcf.resolve_left fun h => hcL h.1
          obtain ⟨hA1, l, hl1, hR1⟩ := hL.own1 cq' hqlt ho
          obtain ⟨n', ns', e, g1, g2, g3, g4⟩ := hok1
          rw [hR1, names_app] at g3
          obtain ⟨X1, c1, hck1, g5, g6⟩ := ok_split _ _ _ g3
          obtain ⟨c1q, c1k, rfl, -, -⟩ := chain_form hL g6
          have hgo : (leH R.length own isA (.nd cq' ck' .no)).2 (.nd oq ok .no) = (leH R.length own isA (.nd c1q c1k .no)).2 (.nd cq' (appF (.nd oq ok .no) (leH R.length own isA X1).1) .no) := by rw [leH_chain, if_neg hcL, hck1, (chain_init hL g6).1, (chain_init hL g6).2]
          have hlow : ∀ x ∈ namesS l, x < (N : Int) := fun x hx => le_low hL hqlt x (by rw [hl1]; exact List.mem_cons_of_mem _ hx)
          have hszc : (flatFo ck').length = (flatFo X1).length + ((flatFo c1k).length + 1) := by rw [hck1, flat_app, List.length_append, flatFo, List.length_cons, List.length_append]; rfl
          obtain ⟨LL, hLL, hTL2⟩ := HG'.out.2.2.2.1.list
          rw [hck1] at hLL
          obtain ⟨L2, dv, rfl, hX1⟩ := row_snoc hLL
          obtain ⟨m2, hm2⟩ : ∃ m, L2.length = m := ⟨_, rfl⟩
          have hcm2 : cm' = m2 + 1 := by obtain ⟨_, _, h, _⟩ := hTL2.form; injection h with _ h _; rw [List.length_append] at h; simp only [List.length_singleton] at h; omega
          have hms2 : m2 ≤ 2000 := by have h2 := rowOf_size L2; rw [hX1] at h2; have := HK.out.2; have := HG'.out.2.2.1; omega
          obtain ⟨da, dc, hdv, hdc, -⟩ := hTL2.kids (dv, c1q, c1k) (by simp)
          have hck2 := hTL2.kids (dv, c1q, c1k) (by simp)
          simp only at hdv hck2
          obtain ⟨dm, hdm⟩ : ∃ n, lenF c1k = n := ⟨_, rfl⟩
          rw [hdm] at hdv
          subst hdv
          subst hcm2
          have hFX1 : FoIn w A (.slice ca' m2 cc') X1 := by
            have h0 : TrIn w A (.slice ca' (L2 ++ [(Value.slice da dm dc, c1q, c1k)]).length cc') (L2 ++ [(.slice da dm dc, c1q, c1k)]) := by rw [List.length_append, hm2]; exact hTL2
            have h1 := (h0.take (f := m2) (by rw [List.length_append]; omega)).fo
            rw [← hm2, List.take_left, hX1, hm2] at h1
            exact h1
          have HX1 : Hid (FoIn w A (.slice ca' m2 cc') X1 ∧ okF R' X1 (namesS l) ∧ (∀ x ∈ namesS l, x < (N : Int)) ∧ (flatFo ck').length = (flatFo X1).length + ((flatFo c1k).length + 1)) := ⟨hFX1, g5, hlow, hszc⟩
          have HC1 : Hid (FoIn w A (.slice da dm dc) c1k ∧ okF R' (.nd c1q c1k .no) [(N : Int)] ∧ (leH R.length own isA (.nd cq' ck' .no)).2 (.nd oq ok .no) = (leH R.length own isA (.nd c1q c1k .no)).2 (.nd cq' (appF (.nd oq ok .no) (leH R.length own isA X1).1) .no)) := ⟨hck2, g6, hgo⟩
          have pa := st_parted (w := w3) (n := m2) (hTL2.below HM3.out.below) (by omega)
          simp only at pa
          obtain ⟨⟨x0, x1, x2, x3, x4, x5, x6, x7, x8⟩, x9, x10, x11, x12⟩ := HM3.out.cells
          obtain ⟨cm', hcm'⟩ : ∃ n, m2 + 1 = n := ⟨_, rfl⟩
          rw [hcm'] at x10 pa HM3
          clear hcf hqlt ho hA1 hl1 hR1 e g1 g2 g3 g4 hck1 g5 g6 hgo hlow hszc hLL hTL2 hX1 hm2 hdc hck2 hdm hFX1 HMr hcm'
          refine TailC.last (i := 5) (by kernel_rfl) ⟨_, rfl, fun K hK => ?_⟩
          go_simp
          refine hK.out _ _ (fun h => absurd h (by omega)) (NoPanic.normal ?_)
          clear hK
          go_upto_region 8 with
            (go_at_call 100; refine pa.mono ?_; rintro e w4 ⟨rfl, hB4⟩
             have hm4 := HM3.out.next hB4
             have HM4 : Hid (LbM w #[.int .i64 T, .int .i64 Nn, .slice (some ⟨b0, o0, none⟩) R.length rc, .int .i64 o, .int .i64 Lq, .int .i64 b, .int .i64 c] p6 p7 A q (.slice ka1 n1 kc) cq' (.slice ca' cm' cc') oq (.slice oa ol oc) ok w4) := hm4
             obtain ⟨-, y0, y1, -, -⟩ := hm4.cells
             have yf0 : w4.frozen? ⟨p6, 0, none⟩ = false := frozen_of_blk hm4.beh
             have yf1 : w4.frozen? ⟨p6, 1, none⟩ = false := frozen_of_blk hm4.beh
             clear pa hB4 hm4 x0 x1 x2 x3 x4 x5 x6 x7 x8 x9 x10 x11 x12)
          obtain ⟨W8, hW8⟩ : ∃ V, (w4.setCell ⟨p6, 0, none⟩ (.int .i64 (c1q : Int))).setCell ⟨p6, 1, none⟩ (.slice da dm dc) = V := ⟨_, rfl⟩
          have hm8 := HM4.out.setC HA.out (nq := c1q) (nv := .slice da dm dc)
          rw [hW8] at hm8
          rw [hW8]
          have HM8 : Hid (LbM w #[.int .i64 T, .int .i64 Nn, .slice (some ⟨b0, o0, none⟩) R.length rc, .int .i64 o, .int .i64 Lq, .int .i64 b, .int .i64 c] p6 p7 A q (.slice ka1 n1 kc) c1q (.slice da dm dc) oq (.slice oa ol oc) ok W8) := hm8
          clear hm8 hW8 y0 y1 yf0 yf1 HM4 HM3
          obtain ⟨Wd, hWd⟩ : ∃ V, W8.drew = V := ⟨_, rfl⟩
          have hBd : Below W8.heap.size W8 Wd := by rw [← hWd]; exact (Below.refl _ _).drew
          have hMd := HM8.out.next hBd
          have HSd : Hid (∀ wq, Below Wd.heap.size Wd wq → (LefS w.heap.size T Nn o Lq b c (some ⟨b0, o0, none⟩) R.length rc q (.slice ka1 n1 kc) wq ∧ wq.cell? ⟨p7, 0, none⟩ = some (.int .i64 (oq : Int)) ∧ wq.cell? ⟨p7, 1, none⟩ = some (.slice oa ol oc)) ∧ LbM w #[.int .i64 T, .int .i64 Nn, .slice (some ⟨b0, o0, none⟩) R.length rc, .int .i64 o, .int .i64 Lq, .int .i64 b, .int .i64 c] p6 p7 A q (.slice ka1 n1 kc) c1q (.slice da dm dc) oq (.slice oa ol oc) ok wq) := fun wq hq => ⟨⟨(hMd.next hq).cells.1, (hMd.next hq).cells.2.2.2⟩, hMd.next hq⟩
          have S0 := (HSd.out Wd (Below.refl _ _)).1
          have HE2 : Hid (∀ wq, Below Wd.heap.size Wd wq → Calls Try.prog 83 #[.slice ca' m2 cc', .func (.func 97) #[.agg #[.int .i64 T, .int .i64 Nn, .slice (some ⟨b0, o0, none⟩) R.length rc, .int .i64 o, .int .i64 Lq, .int .i64 b, .int .i64 c]] #[]] wq fun e w' => ∃ ov L', e = .returned ov ∧ TrOwn w' wq.heap.size A ov L' ∧ rowOf L' = (leH R.length own isA X1).1 ∧ L'.length ≤ 2000 ∧ Below wq.heap.size wq w') := fun wq hq => by
            have hww : Below w.heap.size w wq := hMd.below.trans (hq.mono hMd.below.size)
            exact HEa.out wq A _ X1 _ hww (HX1.out.1.below hww) (fun b hb => Nat.lt_of_lt_of_le (HA.out b hb) hww.size) (by have := HX1.out.2.2.2; have := HG'.out.2.2.1; omega) HX1.out.2.2.1 HX1.out.2.1
          have HP7 : Hid (p7 < Wd.heap.size ∧ p6 < p7) := ⟨hMd.hi, hMd.lt⟩
          clear hBd hMd
          refine wp_region_mix [0, 1, 3, 4, 5] 6 10 (fun wq => LefS w.heap.size T Nn o Lq b c (some ⟨b0, o0, none⟩) R.length rc q (.slice ka1 n1 kc) wq ∧ wq.cell? ⟨p7, 0, none⟩ = some (.int .i64 (oq : Int)) ∧ wq.cell? ⟨p7, 1, none⟩ = some (.slice oa ol oc)) (by kernel_rfl) (by kernel_rfl) (by rw [hWd]; exact S0) ?_
          rw [hWd]
          clear hWd S0
          iterate 5
            refine StillI.con8 (v := ?_) rfl (by rfl) ?_ ?_
            rotate_left
            · intro w' hSw
              obtain ⟨⟨z0, z1, z2, z3, z4, z5, z6, z7, z8⟩, z9, z10⟩ := hSw
              go_simp
              try with_reducible rfl
            simp only [Act.put, List.setIfInBounds_toArray, List.set_cons_zero, List.set_cons_succ]
          rw [StillI]
          refine TailC.two (i := 2) (i' := 6) (by kernel_rfl) ⟨_, rfl, fun K hK => ?_⟩ ⟨_, rfl, fun K hK => ?_⟩
          · have hBy : Below Wd.heap.size Wd (Wd.alloc (.cells #[.int .i64 (oq : Int), .slice oa ol oc] 70)) := (Below.refl _ _).alloc (Nat.le_refl _) _
            go_simp
            refine hK.out _ _ (fun _ => (HSd.out _ hBy).1) ?_
            clear hK
            have hblk := heap_alloc_new Wd (.cells #[.int .i64 (oq : Int), .slice oa ol oc] 70)
            obtain ⟨pz, hpz⟩ : ∃ x, Wd.heap.size = x := ⟨_, rfl⟩
            obtain ⟨wy, hwy⟩ : ∃ V, Wd.alloc (.cells #[.int .i64 (oq : Int), .slice oa ol oc] 70) = V := ⟨_, rfl⟩
            have HPz : Hid (Wd.heap.size ≤ pz) := by show _ ≤ _; omega
            rw [hwy] at hBy hblk ⊢
            rw [hpz] at hblk ⊢
            clear hwy hpz
            have ea := HE2.out wy hBy
            refine TailC.one (i := 6) (by kernel_rfl) ⟨_, rfl, fun K hK => ?_⟩
            go_simp
            refine ea.mono ?_
            rintro e w4 ⟨rv, L', rfl, hT4, hG4, hl4, hB4⟩
            obtain ⟨la, lc, hlv⟩ := own_form hT4.own
            subst hlv
            obtain ⟨n4, hn4⟩ : ∃ n, L'.length = n := ⟨_, rfl⟩
            have hT5 : TrIn w4 (fun b => A b ∨ Wd.heap.size ≤ b) (.slice la n4 lc) L' := by
              rw [← hn4]
              exact hT4.trIn.kept fun x hx _ => ⟨rfl, hx.imp id fun h => Nat.le_trans hBy.size h⟩
            rw [hn4] at hl4 ⊢
            dsimp only
            have hBz : Below Wd.heap.size Wd w4 := hBy.trans (hB4.mono hBy.size)
            refine hK.out _ _ (fun _ => (HSd.out w4 hBz).1) ?_
            have hblk4 := (hB4.block _ (Array.getElem?_eq_some_iff.1 hblk).1).trans hblk
            clear hK ea hblk hT4 hB4 hBy
            have hB7 : Below w4.heap.size w4 (w4.alloc (.cells #[.slice (some ⟨pz, 0, none⟩) 1 1, .slice la n4 lc] 68)) := (Below.refl _ _).alloc (Nat.le_refl _) _
            have hB7' : Below Wd.heap.size Wd (w4.alloc (.cells #[.slice (some ⟨pz, 0, none⟩) 1 1, .slice la n4 lc] 68)) := hBz.trans (hB7.mono hBz.size)
            refine TailC.one (i := 7) (by kernel_rfl) ⟨_, rfl, fun K hK => ?_⟩
            go_simp
            refine hK.out _ _ (fun _ => (HSd.out _ hB7').1) ?_
            clear hK
            have hb7 := heap_alloc_new w4 (.cells #[.slice (some ⟨pz, 0, none⟩) 1 1, .slice la n4 lc] 68)
            obtain ⟨p8, hp8⟩ : ∃ x, w4.heap.size = x := ⟨_, rfl⟩
            obtain ⟨w7, hw7⟩ : ∃ V, w4.alloc (.cells #[.slice (some ⟨pz, 0, none⟩) 1 1, .slice la n4 lc] 68) = V := ⟨_, rfl⟩
            rw [hw7] at hB7 hB7' hb7 ⊢
            rw [hp8] at hb7 ⊢
            have hb47 := (hB7.block _ (Array.getElem?_eq_some_iff.1 hblk4).1).trans hblk4
            clear hw7 hblk4
            have cc2 := tcat2 (w := w7) (pb := p8) (A := fun b => A b ∨ (p6 < b ∧ b ≠ p7)) (La := [(.slice oa ol oc, oq, ok)]) (Lb := L') (cell_of_blk (i := 0) hb7 rfl) (cell_of_blk (i := 1) hb7 rfl)
              (trIn_one hb47 (.inr (by have := HPz.out; have := HP7.out; omega)) (HSd.out w7 hB7').2.oin)
              ((hT5.below hB7).kept fun x hx _ => ⟨rfl, hx.imp id fun h => by have := HP7.out; omega⟩)
              (by simp only [List.length_singleton]; omega)
            clear hb7 hb47 hp8 hT5
            refine TailC.one (i := 8) (by kernel_rfl) ⟨_, rfl, fun K hK => ?_⟩
            go_simp
            refine cc2.mono ?_
            rintro e w8 ⟨a8, n8, d8, rfl, hT8, hB8⟩
            dsimp only
            have hB8' : Below Wd.heap.size Wd w8 := hB7'.trans (hB8.mono hB7'.size)
            refine hK.out _ _ (fun _ => (HSd.out _ hB8').1) ?_
            clear hK cc2
            have HM8b : Hid (LbM w #[.int .i64 T, .int .i64 Nn, .slice (some ⟨b0, o0, none⟩) R.length rc, .int .i64 o, .int .i64 Lq, .int .i64 b, .int .i64 c] p6 p7 A q (.slice ka1 n1 kc) c1q (.slice da dm dc) oq (.slice oa ol oc) ok w8 ∧ FoIn w8 (fun b => A b ∨ (p6 < b ∧ b ≠ p7)) (.slice a8 n8 d8) (appF (.nd oq ok .no) (leH R.length own isA X1).1)) := by
              refine ⟨(HSd.out w8 hB8').2, ?_⟩
              have h1 := hT8.fo
              rw [rowOf_app, rowOf, rowOf, hG4] at h1
              refine h1.kept fun x hx _ => ⟨rfl, ?_⟩
              rcases hx with hx | hx
              · exact hx
              · have h2 := hB7'.size
                have := HP7.out
                exact .inr (by omega)
            have hout := HM8b.out.1.out
            have y0 : w8.cell? ⟨p7, 0, none⟩ = some (.int .i64 (oq : Int)) := cell_of_blk hout rfl
            have y1 : w8.cell? ⟨p7, 1, none⟩ = some (.slice oa ol oc) := cell_of_blk hout rfl
            have yf0 : w8.frozen? ⟨p7, 0, none⟩ = false := frozen_of_blk hout
            have yf1 : w8.frozen? ⟨p7, 1, none⟩ = false := frozen_of_blk hout
            refine TailC.one (i := 9) (by kernel_rfl) ⟨_, rfl, fun K hK => ?_⟩
            go_simp
            refine hK.out _ _ (fun _ => (HSd.out _ hB8').1) ?_
            clear hK hT8 hB8 hout hG4
            refine TailC.last (i := 10) (by kernel_rfl) ⟨_, rfl, fun K hK => ?_⟩
            go_simp
            refine hK.out _ _ (fun h => absurd h (by omega)) (NoPanic.normal ?_)
            clear hK
            go_wp2_with fail
            go_roundg ((flatFo c1k).length)
            case rel =>
              exact ⟨c1q, da, dm, dc, c1k, cq', _, _, rfl, HM8b.out.1.setO HA.out HM8b.out.2, HC1.out.1, HC1.out.2.1, HG'.out.1.trans HC1.out.2.2, by have := HX1.out.2.2.2; have := HG'.out.2.2.1; omega⟩
            case measure =>
              have h1 := HG'.out.2.1
              have h2 := HX1.out.2.2.2
              omega
          · have ea := HE2.out Wd (Below.refl _ _)
            go_simp
            refine ea.mono ?_
            rintro e w5 ⟨rv, L', rfl, hT4, hG4, hl4, hB4⟩
            obtain ⟨la, lc, hlv⟩ := own_form hT4.own
            subst hlv
            obtain ⟨n4, hn4⟩ : ∃ n, L'.length = n := ⟨_, rfl⟩
            rw [hn4] at hl4 ⊢
            dsimp only
            refine hK.out _ _ (fun _ => (HSd.out w5 hB4).1) ?_
            clear hK ea
            have hBz : Below Wd.heap.size Wd (w5.alloc (.cells #[.int .i64 (oq : Int), .slice oa ol oc] 70)) := hB4.alloc hB4.size _
            have hT5 : TrIn (w5.alloc (.cells #[.int .i64 (oq : Int), .slice oa ol oc] 70)) (fun b => A b ∨ Wd.heap.size ≤ b) (.slice la n4 lc) L' := by
              rw [← hn4]
              exact hT4.trIn.below ((Below.refl _ _).alloc (Nat.le_refl _) _)
            refine TailC.one (i := 2) (by kernel_rfl) ⟨_, rfl, fun K hK => ?_⟩
            go_simp
            refine hK.out _ _ (fun _ => (HSd.out _ hBz).1) ?_
            clear hK
            have hblk4 := heap_alloc_new w5 (.cells #[.int .i64 (oq : Int), .slice oa ol oc] 70)
            obtain ⟨pz, hpz⟩ : ∃ x, w5.heap.size = x := ⟨_, rfl⟩
            obtain ⟨w4, hw4⟩ : ∃ V, w5.alloc (.cells #[.int .i64 (oq : Int), .slice oa ol oc] 70) = V := ⟨_, rfl⟩
            have HPz : Hid (Wd.heap.size ≤ pz) := by show _ ≤ _; rw [← hpz]; exact hB4.size
            rw [hw4] at hBz hblk4 hT5 ⊢
            rw [hpz] at hblk4 ⊢
            clear hw4 hpz hT4 hB4
            have hB7 : Below w4.heap.size w4 (w4.alloc (.cells #[.slice (some ⟨pz, 0, none⟩) 1 1, .slice la n4 lc] 68)) := (Below.refl _ _).alloc (Nat.le_refl _) _
            have hB7' : Below Wd.heap.size Wd (w4.alloc (.cells #[.slice (some ⟨pz, 0, none⟩) 1 1, .slice la n4 lc] 68)) := hBz.trans (hB7.mono hBz.size)
            refine TailC.one (i := 7) (by kernel_rfl) ⟨_, rfl, fun K hK => ?_⟩
            go_simp
            refine hK.out _ _ (fun _ => (HSd.out _ hB7').1) ?_
            clear hK
            have hb7 := heap_alloc_new w4 (.cells #[.slice (some ⟨pz, 0, none⟩) 1 1, .slice la n4 lc] 68)
            obtain ⟨p8, hp8⟩ : ∃ x, w4.heap.size = x := ⟨_, rfl⟩
            obtain ⟨w7, hw7⟩ : ∃ V, w4.alloc (.cells #[.slice (some ⟨pz, 0, none⟩) 1 1, .slice la n4 lc] 68) = V := ⟨_, rfl⟩
            rw [hw7] at hB7 hB7' hb7 ⊢
            rw [hp8] at hb7 ⊢
            have hb47 := (hB7.block _ (Array.getElem?_eq_some_iff.1 hblk4).1).trans hblk4
            clear hw7 hblk4
            have cc2 := tcat2 (w := w7) (pb := p8) (A := fun b => A b ∨ (p6 < b ∧ b ≠ p7)) (La := [(.slice oa ol oc, oq, ok)]) (Lb := L') (cell_of_blk (i := 0) hb7 rfl) (cell_of_blk (i := 1) hb7 rfl)
              (trIn_one hb47 (.inr (by have := HPz.out; have := HP7.out; omega)) (HSd.out w7 hB7').2.oin)
              ((hT5.below hB7).kept fun x hx _ => ⟨rfl, hx.imp id fun h => by have := HP7.out; omega⟩)
              (by simp only [List.length_singleton]; omega)
            clear hb7 hb47 hp8 hT5
            refine TailC.one (i := 8) (by kernel_rfl) ⟨_, rfl, fun K hK => ?_⟩
            go_simp
            refine cc2.mono ?_
            rintro e w8 ⟨a8, n8, d8, rfl, hT8, hB8⟩
            dsimp only
            have hB8' : Below Wd.heap.size Wd w8 := hB7'.trans (hB8.mono hB7'.size)
            refine hK.out _ _ (fun _ => (HSd.out _ hB8').1) ?_
            clear hK cc2
            have HM8b : Hid (LbM w #[.int .i64 T, .int .i64 Nn, .slice (some ⟨b0, o0, none⟩) R.length rc, .int .i64 o, .int .i64 Lq, .int .i64 b, .int .i64 c] p6 p7 A q (.slice ka1 n1 kc) c1q (.slice da dm dc) oq (.slice oa ol oc) ok w8 ∧ FoIn w8 (fun b => A b ∨ (p6 < b ∧ b ≠ p7)) (.slice a8 n8 d8) (appF (.nd oq ok .no) (leH R.length own isA X1).1)) := by
              refine ⟨(HSd.out w8 hB8').2, ?_⟩
              have h1 := hT8.fo
              rw [rowOf_app, rowOf, rowOf, hG4] at h1
              refine h1.kept fun x hx _ => ⟨rfl, ?_⟩
              rcases hx with hx | hx
              · exact hx
              · have h2 := hB7'.size
                have := HP7.out
                exact .inr (by omega)
            have hout := HM8b.out.1.out
            have y0 : w8.cell? ⟨p7, 0, none⟩ = some (.int .i64 (oq : Int)) := cell_of_blk hout rfl
            have y1 : w8.cell? ⟨p7, 1, none⟩ = some (.slice oa ol oc) := cell_of_blk hout rfl
            have yf0 : w8.frozen? ⟨p7, 0, none⟩ = false := frozen_of_blk hout
            have yf1 : w8.frozen? ⟨p7, 1, none⟩ = false := frozen_of_blk hout
            refine TailC.one (i := 9) (by kernel_rfl) ⟨_, rfl, fun K hK => ?_⟩
            go_simp
            refine hK.out _ _ (fun _ => (HSd.out _ hB8').1) ?_
            clear hK hT8 hB8 hout hG4
            refine TailC.last (i := 10) (by kernel_rfl) ⟨_, rfl, fun K hK => ?_⟩
            go_simp
            refine hK.out _ _ (fun h => absurd h (by omega)) (NoPanic.normal ?_)
            clear hK
            go_wp2_with fail
            go_roundg ((flatFo c1k).length)
            case rel =>
              exact ⟨c1q, da, dm, dc, c1k, cq', _, _, rfl, HM8b.out.1.setO HA.out HM8b.out.2, HC1.out.1, HC1.out.2.1, HG'.out.1.trans HC1.out.2.2, by have := HX1.out.2.2.2; have := HG'.out.2.2.1; omega⟩
            case measure =>
              have h1 := HG'.out.2.1
              have h2 := HX1.out.2.2.2
              omega
  · have hne : (Lq == a) = false := by simpa using hqa
    have hG : leB R.length own isA q ks = (q, (leH R.length own isA ks).1) := leB_of hres
    rw [hG]
    have HQ : Hid (okF R' ks (namesS (R.getD q (0, [])).2)) := hokk
    clear hG hiA hqa hLq h1 hokk hres hR hown
    go_enter Try.func97, Try.ntmps97
    go_upto_region 1 with fail
    go_big_quiet (fail)
    go_upto_region 2 with fail
    obtain ⟨V0, hV0⟩ : ∃ V, W.drewN nq = V := ⟨_, rfl⟩
    have hB0 : Below W.heap.size W V0 := by rw [← hV0]; exact below_drewN (Below.refl _ _) _
    rw [hV0]
    clear hV0
    obtain ⟨Wd, hWd⟩ : ∃ V, V0.drew = V := ⟨_, rfl⟩
    have hBd : Below W.heap.size W Wd := by rw [← hWd]; exact hB0.drew
    have S0 := (HS.out Wd hBd).1
    have hww : Below w.heap.size w Wd := HM.out.1.trans (hBd.mono HM.out.1.size)
    have ea := HEa.out Wd A (.slice ka1 n1 kc) ks _ hww (HK.out.1.below hww) (fun b hb => Nat.lt_of_lt_of_le (HA.out b hb) hww.size) (Nat.le_refl _) HLow.out HQ.out
    have HBd : Hid (Below W.heap.size W Wd) := hBd
    clear hBd hB0 hww x0 x1 x2 x3 x4 x5 x6 x7 x8 hW k1 HEa
    refine wp_region_mix [0, 1, 2, 3, 4, 5] 3 8 (LefS w.heap.size T Nn o a b c (some ⟨b0, o0, none⟩) R.length rc q (.slice ka1 n1 kc)) (by kernel_rfl) (by kernel_rfl) (by rw [hWd]; exact S0) ?_
    rw [hWd]
    clear hWd S0
    iterate 6
      refine StillI.con8 (v := ?_) rfl (by rfl) ?_ ?_
      rotate_left
      · intro w' hSw
        obtain ⟨z0, z1, z2, z3, z4, z5, z6, z7, z8⟩ := hSw
        go_simp
        try with_reducible rfl
      simp only [Act.put, List.setIfInBounds_toArray, List.set_cons_zero, List.set_cons_succ]
    rw [StillI]
    refine TailC.one (i := 6) (by kernel_rfl) ⟨_, rfl, fun K hK => ?_⟩
    go_simp
    refine ea.mono ?_
    rintro e w3 ⟨rv, L', rfl, hT3, hG3, -, hB3⟩
    obtain ⟨la, lc, hlv⟩ := own_form hT3.own
    subst hlv
    obtain ⟨n3, hn3⟩ : ∃ n, L'.length = n := ⟨_, rfl⟩
    rw [hn3] at hT3 ⊢
    dsimp only
    have hW3 : Below W.heap.size W w3 := HBd.out.trans (hB3.mono HBd.out.size)
    refine hK.out _ _ (fun _ => (HS.out w3 hW3).1) ?_
    clear hK ea
    have hres := (HS.out w3 hW3).2
    have y0 : w3.cell? ⟨w.heap.size + 1 + 1, 0, none⟩ = some (.int .i64 0) := cell_of_blk hres rfl
    have y1 : w3.cell? ⟨w.heap.size + 1 + 1, 1, none⟩ = some (.slice none 0 0) := cell_of_blk hres rfl
    have yf0 : w3.frozen? ⟨w.heap.size + 1 + 1, 0, none⟩ = false := frozen_of_blk hres
    have yf1 : w3.frozen? ⟨w.heap.size + 1 + 1, 1, none⟩ = false := frozen_of_blk hres
    have q0 := res_0 (v0 := .int .i64 (q : Int)) (v1 := .slice la n3 lc) hres
    have q1 := res_1 (v0 := .int .i64 (q : Int)) (v1 := .slice la n3 lc) hres
    refine TailC.one (i := 7) (by kernel_rfl) ⟨_, rfl, fun K hK => ?_⟩
    go_simp
    refine hK.out _ _ (fun _ => (HS.out w3 hW3).1) ?_
    clear hK
    have HT : Hid (FoIn w3 (fun b => A b ∨ W.heap.size ≤ b) (.slice la n3 lc) (leH R.length own isA ks).1 ∧ Below W.heap.size W w3) := by
      refine ⟨?_, hW3⟩
      have h1 := hT3.trIn.fo
      rw [hG3] at h1
      exact h1.kept fun x hx _ => ⟨rfl, hx.imp id fun h => Nat.le_trans HBd.out.size h⟩
    clear hT3 hG3 hB3 hn3 hres hW3
    refine TailC.last (i := 8) (by kernel_rfl) ⟨_, rfl, fun K hK => ?_⟩
    go_simp
    refine hK.out _ _ (fun h => absurd h (by omega)) (NoPanic.normal ?_)
    clear hK
    go_wp2_with fail
    refine bodyPost_ret (v := .agg #[.int .i64 (q : Int), .slice la n3 lc]) (by simp [results, Try.results97, go_sem, q0, q1]) rfl ?_
    have hz := HM.out.2.1
    exact ⟨_, rfl, HT.out.1.laidR HA.out hz _ _, ((HM.out.1.trans (HT.out.2.mono HM.out.1.size)).setCell (by simp; omega) _).setCell (by simp; omega) _⟩
end

end Go.Proofs.Ytikjekfpgklbdaa
