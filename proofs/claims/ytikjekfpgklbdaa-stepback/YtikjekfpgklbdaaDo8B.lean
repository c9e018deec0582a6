/- The contract of pollardingref8.Do, where the step may be done. -/
import Derived.Test.YtikjekfpgklbdaaDo8A
namespace Go.Proofs.Ytikjekfpgklbdaa
open Go.RowKit

theorem oneR_len (N : Nat) (R : List Ru) (s : Stp) (k : Nat) : (oneR N R s k).length ≤ R.length + 1 := by
  have hf := List.length_filter_le (fun x : Ru => decide (x.1 = ((R.getD k (0, [])).2.getD s.b.toNat (false, 0)).2)) R
  unfold oneR
  simp only
  repeat' split
  all_goals first | (rw [List.length_map]; omega) | (simp only [List.length_cons, List.length_nil]; omega) | (simp; done)
theorem made_len (N : Nat) (R : List Ru) (s : Stp) : ∀ k, ((List.range k).flatMap (oneR N R s)).length ≤ k * (R.length + 1)
  | 0 => by simp
  | k + 1 => by
    have := made_len N R s k
    have h1 := oneR_len N R s k
    rw [List.range_succ, List.flatMap_append, List.length_append, Nat.add_mul]
    simp only [List.flatMap_cons, List.flatMap_nil, List.append_nil]
    omega
theorem RlIn.setCell {w : World} {B : Nat} {lv : Value} {RL : List (Value × Ru)} (h : RlIn w B lv RL) {p : Addr} (hp : p.block < B) (u : Value) : RlIn (w.setCell p u) B lv RL := by
  refine ⟨?_, fun x hx => (h.sym x hx).kept (by simp) fun b hA _ => ⟨Below.heap_setCell _ _ _ _ (by have := hA.1; omega), hA⟩⟩
  obtain ⟨z1, z2 | ⟨g', c', cur, e, z2, z3, z4⟩⟩ := h.own
  · exact ⟨z1, .inl z2⟩
  · exact ⟨z1, .inr ⟨g', c', cur, e, z2, by rw [Below.heap_setCell _ _ _ _ (by omega)]; exact z3, z4⟩⟩
/-- append, as a step takes it. -/
theorem step_append_rules {w : World} {ops : Array Oper} {o : Oper} {a : Act} {K : Act → World → Prop} {Q : Exit → Act → World → Prop} {E : Prop} (hgd : o.guard = none) (s x : Operand) (ho' : o.op = .call { callee := .builtin .append, args := #[s, x], argTypes := #[ 22, 22 ] }) (hty : o.type = 22)
    {B C : Nat} {RL RM : List (Value × Ru)} {ov lv : Value} (hsv : a.eval s = ov) (hxv : a.eval x = lv) (ho : w.ownsRow B 44 2 ov RL.length (flatR RL)) (hl : RlIn w C lv RM) (hb : B ≤ w.heap.size) (hs : RL.length + RM.length ≤ 100000)
    (h : ∀ A d w', w'.ownsRow B 44 2 (.slice A (RL.length + RM.length) d) (RL.length + RM.length) (flatR (RL ++ RM)) → w.grownBy w' ov.ownBlock → (∀ g, (Value.slice A (RL.length + RM.length) d).ownBlock = some g → ov.ownBlock = some g ∨ g = w.heap.size) → K (a.put o.dst (.slice A (RL.length + RM.length) d)) w') : if Region.wanted o (yielded ops a.tmps) = true then Oper.wp Try.prog o a w K Q else E := by
  have hw : Region.wanted o (yielded ops a.tmps) = true := by simp [Region.wanted, hgd]
  rw [if_pos hw]
  obtain ⟨A, d, w', hr, h1, h2, h3⟩ := append_rules ho hl hb hs
  unfold Oper.wp execOp
  simp only [ho', hty, resolve, invoke, builtin, Sem.run_bind, Sem.run_pure, Result.andThen_ok, List.map_toArray, List.map_cons, List.map_nil, hsv, hxv, hr]
  exact h A d w' h1 h2 h3
/-- x[b:c] of symbols. -/
theorem sy_mid {g o b c sl lc : Nat} {bi ci : Int} (hb : bi = b) (hc : ci = c) (hbc : b < c) (hu : c ≤ lc) (w : World) : Sem.run Try.prog (Instr.sliceAt 41 (.slice (some ⟨g, o, none⟩) sl lc) (some (.int .i64 bi)) (some (.int .i64 ci)) none) w = .ok (.slice (some ⟨g, o + b * 2, none⟩) (c - b) (lc - b)) w := by
  subst hb hc
  have h0 : (0 : Int) ≤ (b : Int) := Int.natCast_nonneg _
  have h1 : (0 : Int) ≤ (c : Int) := Int.natCast_nonneg _
  have h2 : (c : Int) ≤ (lc : Int) := by omega
  have h3 : (b : Int) ≤ (c : Int) := by omega
  have h4 : ¬ lc = b := by omega
  go_simp
theorem SymsAt.mid8 {w : World} {g o d b c : Nat} {l : List Sy} (h : SymsAt w (.slice (some ⟨g, o, none⟩) l.length d) l) (hbc : b < c) (hcl : c ≤ l.length) (hd : l.length ≤ d) : SymsAt w (.slice (some ⟨g, o + b * 2, none⟩) (c - b) (d - b)) ((l.take c).drop b) := by
  have hlen : ((l.take c).drop b).length = c - b := by rw [List.length_drop, List.length_take]; omega
  refine ⟨⟨_, d - b, by rw [hlen], by omega⟩, fun j hj => ?_⟩
  rw [hlen] at hj
  obtain ⟨b1, o1, c1, hv, h1, h2⟩ := h.2 (b + j) (by omega)
  cases hv
  have e : ((l.take c).drop b).getD j (false, 0) = l.getD (b + j) (false, 0) := by
    have : b + j < c := by omega
    simp [List.getD, List.getElem?_drop, this]
  refine ⟨g, o + b * 2, d - b, by rw [hlen], ?_, ?_⟩
  · rw [e, Nat.add_assoc, ← Nat.add_mul]; exact h1
  · rw [e, Nat.add_assoc o, ← Nat.add_mul]; exact h2
theorem rl_lit {w : World} {B : Nat} (hB : B ≤ w.heap.size) {v : Value} {r : Ru} (hs : SyHas w (fun b => B ≤ b) v r.2) : RlIn (w.alloc (.cells #[.int .i64 r.1, v] 44)) B (.slice (some ⟨w.heap.size, 0, none⟩) 1 1) [(v, r)] := by
  refine ⟨World.ownsRow_lit (base := B) (e := 44) (size := 2) w #[.int .i64 r.1, v] 1 hB (by unfold maxLen; omega) rfl, fun x hx => ?_⟩
  simp only [List.mem_singleton] at hx
  subst hx
  refine hs.kept (by simp) fun b hA hlt => ⟨heap_alloc_old w _ hlt, hA, fun e => ?_⟩
  simp only [Value.ownBlock, Option.some.injEq] at e
  omega
theorem L8.made {w wq W : World} {T N : Nat} {ra : Option Addr} {rc : Nat} {R : List Ru} {s : Stp} (h : L8 w T N ra rc R s wq) (hW : wq.alloc (.cells #[.int .i64 T, .int .i64 N, .slice none 0 0] 24) = W) : D8 w T N ra rc R s wq.heap.size N (.slice none 0 0) [] W := by
  have h2 : L8 w T N ra rc R s W := by rw [← hW]; exact h.later ((Below.refl _ _).alloc (Nat.le_refl _) _)
  refine ⟨h2.g0, h2.g1, h2.g2, h2.s0, h2.s1, h2.s2, h2.s3, h2.x0, h2.x1, h2.x2, h2.xf, h2.n0, h2.n1, h2.n2, ?_, ?_, ?_, fun o => ?_, h.sz, rlIn_nil _ _, h2.rules, h2.below⟩
  all_goals rw [← hW]
  all_goals simp [go_sem]

set_option maxRecDepth 100000 in
set_option maxHeartbeats 6400000 in
theorem do8_yes {w : World} {T N : Nat} {rv : Value} {R : List Ru} (hr : RulesAt w w.heap.size rv R) (hm : mayB T N R = true) {s : Stp} (hs : stepB N R s = true) :
    Calls Try.prog 4 #[.agg #[.int .i64 T, .int .i64 N, rv], .agg #[.int .i64 s.op, .int .i64 s.a, .int .i64 s.b, .int .i64 s.c]] w fun e w' => ((mayB T (doN N s : Int) (doR N R s) = true ∧ ∃ ov, e = .returned (.tuple #[.agg #[.int .i64 T, .int .i64 (doN N s : Int), ov], .int .i64 0]) ∧ RulesAt w' w'.heap.size ov (doR N R s)) ∨ (mayB T (doN N s : Int) (doR N R s) = false ∧ e = .returned (.tuple #[.agg #[.int .i64 0, .int .i64 0, .slice none 0 0], .int .i64 1]))) ∧ Below w.heap.size w w' := by
  obtain ⟨hT, hN1, hN, hRl, h5⟩ := may_fine hm
  have H5 : Hid (∀ i, i < R.length → (R.getD i (0, [])).2.length ≤ 8) := fun i hi => (h5 i hi).2.2.1
  obtain ⟨ra, rc, hrv⟩ := hr.1
  subst hrv
  obtain ⟨W0, hW0⟩ : ∃ W, ((w.alloc (.cells #[.int .i64 T, .int .i64 N, .slice ra R.length rc] 24)).alloc (.cells #[.int .i64 s.op, .int .i64 s.a, .int .i64 s.b, .int .i64 s.c] 26)).alloc (.cells #[.int .i64 0, .int .i64 0, .slice none 0 0] 24) = W := ⟨_, rfl⟩
  have HS0 : Hid (W0.heap.size = w.heap.size + 3) := by show W0.heap.size = w.heap.size + 3; rw [← hW0]; simp
  have HX : Hid (∃ W, W0.alloc (.cells #[.int .i64 0, .int .i64 0, .slice none 0 0] 24) = W ∧ L8 w T N ra rc R s W) := ⟨_, rfl, laid8_at hr (by rw [← hW0])⟩
  have HM : Hid (mayB T N R = true) := hm
  have HSt : Hid (stepB N R s = true) := hs
  have HC8 : Hid (∀ wq, L8 w T N ra rc R s wq → Calls Try.prog 10 #[.agg #[.int .i64 T, .int .i64 N, .slice ra R.length rc], .agg #[.int .i64 s.op, .int .i64 s.a, .int .i64 s.b, .int .i64 s.c]] wq fun e w' => e = .returned (.bool true) ∧ Below wq.heap.size wq w') := fun wq hq => by
    have := may8_any (T := T) (N := N) (hq.rules.mono hq.below.size) (by omega) s
    rw [hs] at this
    exact this
  clear hr hm hs h5
  go_enter Try.func4, Try.ntmps4
  go_upto_region 1 with fail
  clear hW0
  go_upto_region 2 with fail
  obtain ⟨W1, hW1, hL⟩ := HX.out
  rw [hW1]
  have HL : Hid (L8 w T N ra rc R s W1) := hL
  have c1 := may1_any (T := T) (N := N) (hL.rules.mono hL.below.size)
  rw [HM.out] at c1
  have g0 := hL.g0
  have g1 := hL.g1
  have g2 := hL.g2
  clear hW1 hL HX
  go_upto_region 4 with
    (first
     | (go_at_call 9; refine c1.mono ?_; rintro e w2 ⟨rfl, hB2⟩
        have hL2 := HL.out.later hB2
        have HL2 : Hid (L8 w T N ra rc R s w2) := hL2
        have c8 := HC8.out w2 hL2
        have y0 := hL2.g0
        have y1 := hL2.g1
        have y2 := hL2.g2
        have y3 := hL2.s0
        have y4 := hL2.s1
        have y5 := hL2.s2
        have y6 := hL2.s3
        clear hL2 c1 g0 g1 g2 hB2)
     | (go_at_call 10; refine c8.mono ?_; rintro e w3 ⟨rfl, hB3⟩
        have hL3 := HL2.out.later hB3
        have HL3 : Hid (L8 w T N ra rc R s w3) := hL3
        have g0 := hL3.g0
        have g1 := hL3.g1
        clear hL3 c8 y0 y1 y2 y3 y4 y5 y6 hB3))
  have HW4 : Hid (∃ W, w3.alloc (.cells #[.int .i64 T, .int .i64 N, .slice none 0 0] 24) = W ∧ D8 w T N ra rc R s w3.heap.size N (.slice none 0 0) [] W) := ⟨_, rfl, HL3.out.made rfl⟩
  go_upto_region 5 with fail
  obtain ⟨W4, hW4, hD4⟩ := HW4.out
  rw [hW4]
  have HD4 : Hid (D8 w T N ra rc R s w3.heap.size N (.slice none 0 0) [] W4) := hD4
  obtain ⟨ob, hob⟩ : ∃ b, w3.heap.size = b := ⟨_, rfl⟩
  rw [hob] at HD4 ⊢
  clear hW4 hD4 HW4 g0 g1 HL3 HL2 HL HC8 hob
  go_wp2_with fail
  go_loopw [8] (fun s8 wr => ∃ (k : Nat) (oa : Option Addr) (oc : Nat) (RL : List (Value × Ru)), s8 = .int .i64 k ∧ k ≤ R.length ∧ D8 w T N ra rc R s ob N (.slice oa RL.length oc) RL wr ∧ (RL.map fun x => x.2) = (List.range k).flatMap (oneR N R s)) (fun s _ => R.length - (intOf s).toNat)
  case atStart => exact ⟨0, none, 0, [], rfl, Nat.zero_le _, HD4.out, rfl⟩
  case round =>
    obtain ⟨k, oa, oc, RL, rfl, hk, hD, hmap⟩ := hrel
    have HD : Hid (D8 w T N ra rc R s ob N (.slice oa RL.length oc) RL wr) := hD
    have HMap : Hid ((RL.map fun x => x.2) = (List.range k).flatMap (oneR N R s)) := hmap
    have y2 := hD.g2
    by_cases hlt : k < R.length
    · have y0 := hD.g0
      have y1 := hD.g1
      have y3 := hD.s0
      have y4 := hD.s1
      have y5 := hD.s2
      have y6 := hD.s3
      have c1 := one8_any (hD.rules.mono hD.below.size) HM.out hlt HSt.out
      have HLen : Hid (∀ RM : List (Value × Ru), (RM.map fun x => x.2) = oneR N R s k → RL.length + RM.length ≤ 100000) := fun RM hRM => by
        have h1 := made_len N R s (k + 1)
        rw [List.range_succ, List.flatMap_append, ← hmap, List.length_append] at h1
        simp only [List.flatMap_cons, List.flatMap_nil, List.append_nil] at h1
        rw [← hRM, List.length_map, List.length_map] at h1
        have h2 : (k + 1) * (R.length + 1) ≤ 41 * 41 := Nat.mul_le_mul (by omega) (by omega)
        omega
      clear hD hmap
      go_wp2_with
        (first
         | (go_at_call 11; refine c1.mono ?_; rintro e w5 ⟨lv, RM, rfl, hRM, hmp, hB5⟩
            have hD5 := HD.out.later hB5
            obtain ⟨la, lc, hlv⟩ := own_form hRM.own
            subst hlv
            have u2 := hD5.o2
            have HB5 : Hid (Below wr.heap.size wr w5) := hB5
            have HD5 : Hid (D8 w T N ra rc R s ob N (.slice oa RL.length oc) RL w5) := hD5
            have HRM : Hid (RlIn w5 wr.heap.size (.slice la RM.length lc) RM) := hRM
            have HMp : Hid ((RM.map fun x => x.2) = oneR N R s k) := hmp
            clear hD5 hRM hmp hB5 c1 y0 y1 y2 y3 y4 y5 y6)
         | (at_builtin
            refine wpList_append_rules rfl _ _ rfl rfl rfl rfl HD5.out.rl.own HRM.out (by have := HD5.out.lt; omega) (HLen.out _ HMp.out) ?_
            intro A d w6 hown6 hgrow6 hat6
            have hk6 : ∀ b, b < ob + 1 → w6.heap[b]? = w5.heap[b]? := fun b hb => hgrow6.block b (by have := HD5.out.lt; omega) (fun e => by have := (HD5.out.rl.own.lt b e.symm).1; omega)
            have hB6 : Below w.heap.size w w6 := HD5.out.below.grown hgrow6 HD5.out.below.size fun g hg => by have := (HD5.out.rl.own.lt g hg).1; have := HD5.out.olo; omega
            have hrl6 : RlIn w6 (ob + 1) (.slice A (RL.length + RM.length) d) (RL ++ RM) := HD.out.rl.join (by have := HD.out.lt; omega) HB5.out HRM.out hgrow6 hown6 hat6
            have u3 : w6.cell? ⟨ob, 2, none⟩ = some (.slice oa RL.length oc) := (World.cell?_of_block (w := w5) (a := ⟨ob, 2, none⟩) (hk6 ob (by omega))).trans HD5.out.o2
            have uf : w6.frozen? ⟨ob, 2, none⟩ = false := (World.frozen?_of_block (w := w5) (a := ⟨ob, 2, none⟩) (hk6 ob (by omega))).trans (HD5.out.of 2)
            have HD6 : Hid (D8 w T N ra rc R s ob N (.slice A (RL.length + RM.length) d) (RL ++ RM) (w6.setCell ⟨ob, 2, none⟩ (.slice A (RL.length + RM.length) d))) := HD5.out.set hgrow6.size hk6 hB6 hrl6 (.inr ⟨rfl, rfl, rfl⟩)
            clear hk6 hB6 hrl6 hown6 hgrow6 hat6 u2))
      go_roundw
      case rel =>
        refine ⟨k + 1, A, d, RL ++ RM, by go_num, by omega, ?_, ?_⟩
        · rw [List.length_append]; exact HD6.out
        · rw [List.map_append, HMap.out, HMp.out, List.range_succ, List.flatMap_append]
          simp
      case measure => simp [intOf]; omega
    · obtain rfl : k = R.length := by omega
      have y3 := hD.s0
      have HLR : Hid (RL.length ≤ 2000) := by
        show RL.length ≤ 2000
        have h1 := made_len N R s R.length
        rw [← hmap, List.length_map] at h1
        have h2 : R.length * (R.length + 1) ≤ 40 * 41 := Nat.mul_le_mul (by omega) (by omega)
        omega
      clear hD hmap
      by_cases h2 : s.op = 2
      · have e2 : (s.op == 2) = true := by simpa using h2
        have e4 : (s.op == 4) = false := by rw [h2]; rfl
        have HMn : Hid (N + 1 = doN N s) := by show N + 1 = doN N s; unfold doN; rw [if_pos h2]
        have HLa : Hid (lastR N R s = [((N : Int), ((R.getD s.a.toNat (0, [])).2.take s.c.toNat).drop s.b.toNat)]) := by show lastR N R s = _; unfold lastR; rw [if_pos h2]
        have hst : 0 ≤ s.a ∧ s.a < (R.length : Int) ∧ 0 ≤ s.b ∧ s.b < s.c ∧ s.c ≤ ((R.getD s.a.toNat (0, [])).2.length : Int) := by
          have hs := HSt.out
          unfold stepB at hs
          simp only [h2] at hs
          rw [if_neg (by decide), if_pos trivial] at hs
          simp only [Bool.and_eq_true, decide_eq_true_eq] at hs
          omega
        have hwr : IntKind.i64.wrap ((N : Int) + 1) = (N : Int) + 1 := IntWalk.i64_in _ (by omega)
        have u1 := HD.out.o1
        have uf := HD.out.of 1
        clear h2
        go_upto_region 12 with fail
        have hD5 : D8 w T N ra rc R s ob (N + 1) (.slice oa RL.length oc) RL (wr.setCell ⟨ob, 1, none⟩ (.int .i64 ((N : Int) + 1))) := HD.out.set (Nat.le_refl _) (fun _ _ => rfl) HD.out.below HD.out.rl (.inl ⟨rfl, rfl, rfl⟩)
        obtain ⟨W5, hW5⟩ : ∃ W, wr.setCell ⟨ob, 1, none⟩ (.int .i64 ((N : Int) + 1)) = W := ⟨_, rfl⟩
        rw [hW5] at hD5 ⊢
        replace hD5 := hD5.later (w' := W5.drew) ((Below.refl _ _).drew)
        obtain ⟨b0, o0, rc0, qa, qc, hv, hb0, k1, k2, hsy⟩ := hD5.rules.syms (q := s.a.toNat) (by omega)
        cases hv
        obtain ⟨⟨L, l⟩, hrule⟩ : ∃ x, R.getD s.a.toNat (0, []) = x := ⟨_, rfl⟩
        rw [hrule] at k1 k2 hsy hst
        have h8 := H5.out s.a.toNat (by omega)
        rw [hrule] at h8
        have HLa2 : Hid (lastR N R s = [((N : Int), (l.take s.c.toNat).drop s.b.toNat)]) := by
          have := HLa.out
          rw [hrule] at this
          exact this
        simp only at k1 k2 hsy hst h8
        obtain ⟨an, han⟩ : ∃ x : Nat, s.a = x := ⟨s.a.toNat, by omega⟩
        obtain ⟨bn, hbn⟩ : ∃ x : Nat, s.b = x := ⟨s.b.toNat, by omega⟩
        obtain ⟨cn, hcn⟩ : ∃ x : Nat, s.c = x := ⟨s.c.toNat, by omega⟩
        have v3 := hD5.s1
        have v4 := hD5.s2
        have v5 := hD5.s3
        rw [han] at v3 hst k2
        rw [hbn] at v4 hst
        rw [hcn] at v5 hst
        rw [hbn, hcn] at HLa2
        simp only [Int.toNat_natCast] at k2
        have HLa3 : Hid (lastR N R s = [((N : Int), (l.take cn).drop bn)]) := by
          have := HLa2.out
          simp only [Int.toNat_natCast] at this
          exact this
        have hbc : bn < cn := by omega
        have hcl : cn ≤ l.length := by omega
        have i1 : (an : Int) < (R.length : Int) := hst.2.1
        have i0 : (0 : Int) ≤ (an : Int) := Int.natCast_nonneg _
        obtain ⟨gq, oq, cq, hv2, _⟩ := hsy.2 0 (by omega)
        cases hv2
        have hqc : l.length ≤ qc := by
          obtain ⟨_, _, hv3, hle⟩ := hsy.1
          cases hv3
          exact hle
        obtain ⟨n, hn⟩ : ∃ n, l.length = n := ⟨_, rfl⟩
        obtain ⟨m, hm⟩ : ∃ m, cn - bn = m := ⟨_, rfl⟩
        have hmid := fun w => sy_mid (g := gq) (o := oq) (sl := n) (lc := qc) (bi := (bn : Int)) (ci := (cn : Int)) rfl rfl hbc (by omega) w
        rw [hm] at hmid
        have hlm : ((l.take cn).drop bn).length = m := by rw [List.length_drop, List.length_take]; omega
        have HLm : Hid (((l.take cn).drop bn).length = m) := hlm
        have hsm : SymsAt W5.drew (.slice (some ⟨gq, oq + bn * 2, none⟩) m (qc - bn)) ((l.take cn).drop bn) := by rw [← hm]; exact hsy.mid8 hbc hcl hqc
        have cop := copied8_any hsm (by omega)
        rw [hlm] at cop
        rw [hn] at k2
        have HD5 : Hid (D8 w T N (some ⟨b0, o0, none⟩) rc R s ob (N + 1) (.slice oa RL.length oc) RL W5.drew) := hD5
        have v0 := hD5.o2
        have v1 := hD5.g1
        have v2 := hD5.g2
        have HO : Hid (w.heap.size + 4 ≤ ob) := hD5.olo
        have HKp : Hid (∀ wq p u, Below W5.drew.heap.size W5.drew wq → W5.drew.cell? p = some u → wq.cell? p = some u) := fun wq p u hq hp => (hq.cell (World.block_lt_of_cell? _ _ hp)).trans hp
        obtain ⟨lm, hlmd⟩ : ∃ x, (l.take cn).drop bn = x := ⟨_, rfl⟩
        rw [hlmd] at cop HLm HLa3
        have HB0 : Hid (b0 < w.heap.size) := hb0
        clear hD5 hW5 hrule hst h8 hsy k1 han hbn hcn HLa HLa2 hqc hn hm hlm hsm hlmd u1 uf hwr y3 e2 y2 hbc hcl hb0
        refine wp_region_held_any [0, 1, 2, 3, 4, 5, 6, 7, 8, 9, 10, 11, 12, 13, 14, 15] 6 21 (fun w' => w'.cell? ⟨ob, 2, none⟩ = some (.slice oa RL.length oc) ∧ w'.cell? ⟨w.heap.size, 1, none⟩ = some (.int .i64 N) ∧ w'.cell? ⟨w.heap.size, 2, none⟩ = some (.slice (some ⟨b0, o0, none⟩) R.length rc) ∧ w'.cell? ⟨w.heap.size + 1, 1, none⟩ = some (.int .i64 an) ∧ w'.cell? ⟨b0, o0 + an * 2 + 1, none⟩ = some (.slice (some ⟨gq, oq, none⟩) n qc) ∧ w'.cell? ⟨w.heap.size + 1, 2, none⟩ = some (.int .i64 bn) ∧ w'.cell? ⟨w.heap.size + 1, 3, none⟩ = some (.int .i64 cn)) (by kernel_rfl) (by kernel_rfl) ⟨v0, v1, v2, v3, k2, v4, v5⟩ ?_
        iterate 16
          refine StillI.con8 (v := ?_) rfl (by rfl) ?_ ?_
          rotate_left
          · intro w' hSw
            obtain ⟨z0, z1, z2, z3, z4, z5, z6⟩ := hSw
            go_simp
            try with_reducible rfl
          simp only [Act.put, List.setIfInBounds_toArray, List.set_cons_zero, List.set_cons_succ]
        rw [StillI]
        refine TailA.one (i := 16) (by kernel_rfl) ⟨_, rfl, fun K hK => ?_⟩
        go_simp
        refine cop.mono ?_
        rintro e w5 ⟨g5, d5, rfl, hown5, hB5⟩
        dsimp only
        refine hK.out _ _ (fun _ => ⟨HKp.out _ _ _ hB5 v0, HKp.out _ _ _ hB5 v1, HKp.out _ _ _ hB5 v2, HKp.out _ _ _ hB5 v3, HKp.out _ _ _ hB5 k2, HKp.out _ _ _ hB5 v4, HKp.out _ _ _ hB5 v5⟩) ?_
        clear hK cop
        refine TailA.one (i := 17) (by kernel_rfl) ⟨_, rfl, fun K hK => ?_⟩
        go_simp
        refine hK.out _ _ (fun _ => ⟨HKp.out _ _ _ hB5 v0, HKp.out _ _ _ hB5 v1, HKp.out _ _ _ hB5 v2, HKp.out _ _ _ hB5 v3, HKp.out _ _ _ hB5 k2, HKp.out _ _ _ hB5 v4, HKp.out _ _ _ hB5 v5⟩) ?_
        clear hK
        have hB6 : Below W5.drew.heap.size W5.drew (w5.alloc (.cells #[.int .i64 N, .slice (some ⟨g5, 0, none⟩) m d5] 44)) := hB5.alloc hB5.size _
        have HB6 : Hid (Below W5.drew.heap.size W5.drew (w5.alloc (.cells #[.int .i64 N, .slice (some ⟨g5, 0, none⟩) m d5] 44))) := hB6
        have HD6 : Hid (D8 w T N (some ⟨b0, o0, none⟩) rc R s ob (N + 1) (.slice oa RL.length oc) RL (w5.alloc (.cells #[.int .i64 N, .slice (some ⟨g5, 0, none⟩) m d5] 44))) := HD5.out.later hB6
        obtain ⟨RM, hRM⟩ : ∃ M : List (Value × Ru), M = [(.slice (some ⟨g5, 0, none⟩) m d5, ((N : Int), lm))] := ⟨_, rfl⟩
        have HRM : Hid (RlIn (w5.alloc (.cells #[.int .i64 N, .slice (some ⟨g5, 0, none⟩) m d5] 44)) W5.drew.heap.size (.slice (some ⟨w5.heap.size, 0, none⟩) 1 1) RM) := by
          show RlIn _ _ _ _
          rw [hRM]
          refine rl_lit (r := ((N : Int), lm)) hB5.size ?_
          have ho := hown5
          rw [← HLm.out] at ho ⊢
          exact (own_syIn ho).kept (Nat.le_refl _) fun b hA _ => ⟨rfl, hA.2⟩
        have HMz : Hid (((RL ++ RM).map fun x => x.2) = doR N R s) := by
          show ((RL ++ RM).map fun x => x.2) = doR N R s
          unfold doR
          rw [HLa3.out, List.map_append, HMap.out, hRM]
          rfl
        have HLn : Hid (RL.length + RM.length ≤ 100000) := by
          show RL.length + RM.length ≤ 100000
          rw [hRM]
          have := HLR.out
          simp only [List.length_cons, List.length_nil]
          omega
        clear hRM
        refine TailA.one (i := 18) (by kernel_rfl) ⟨_, rfl, fun K hK => ?_⟩
        go_simp
        refine hK.out _ _ (fun _ => ⟨HKp.out _ _ _ hB6 v0, HKp.out _ _ _ hB6 v1, HKp.out _ _ _ hB6 v2, HKp.out _ _ _ hB6 v3, HKp.out _ _ _ hB6 k2, HKp.out _ _ _ hB6 v4, HKp.out _ _ _ hB6 v5⟩) ?_
        clear hK
        refine TailA.one (i := 19) (by kernel_rfl) ⟨_, rfl, fun K hK => ?_⟩
        refine step_append_rules rfl _ _ rfl rfl rfl rfl HD6.out.rl.own HRM.out (by have := HD6.out.lt; omega) HLn.out ?_
        intro A d w6 hown6 hgrow6 hat6
        have hk6 : ∀ b, b < ob + 1 → w6.heap[b]? = (w5.alloc (.cells #[.int .i64 N, .slice (some ⟨g5, 0, none⟩) m d5] 44)).heap[b]? := fun b hb => hgrow6.block b (by have := HD6.out.lt; omega) (fun e => by have := (HD6.out.rl.own.lt b e.symm).1; omega)
        have hB6' : Below w.heap.size w w6 := HD6.out.below.grown hgrow6 HD6.out.below.size fun g hg => by have := (HD6.out.rl.own.lt g hg).1; have := HD6.out.olo; omega
        have hrl6 : RlIn w6 (ob + 1) (.slice A (RL.length + RM.length) d) (RL ++ RM) := HD5.out.rl.join (by have := HD5.out.lt; omega) HB6.out HRM.out hgrow6 hown6 hat6
        have u3 : w6.cell? ⟨ob, 2, none⟩ = some (.slice oa RL.length oc) := (World.cell?_of_block (w := w5.alloc (.cells #[.int .i64 N, .slice (some ⟨g5, 0, none⟩) m d5] 44)) (a := ⟨ob, 2, none⟩) (hk6 ob (by omega))).trans HD6.out.o2
        have uf : w6.frozen? ⟨ob, 2, none⟩ = false := (World.frozen?_of_block (w := w5.alloc (.cells #[.int .i64 N, .slice (some ⟨g5, 0, none⟩) m d5] 44)) (a := ⟨ob, 2, none⟩) (hk6 ob (by omega))).trans (HD6.out.of 2)
        have HDz : Hid (D8 w T N (some ⟨b0, o0, none⟩) rc R s ob (N + 1) (.slice A (RL.length + RM.length) d) (RL ++ RM) (w6.setCell ⟨ob, 2, none⟩ (.slice A (RL.length + RM.length) d))) := HD6.out.set hgrow6.size hk6 hB6' hrl6 (.inr ⟨rfl, rfl, rfl⟩)
        have kp : ∀ b o u, b < ob + 1 → W5.drew.cell? ⟨b, o, none⟩ = some u → w6.cell? ⟨b, o, none⟩ = some u := fun b o u hb hp => (World.cell?_of_block (w := w5.alloc (.cells #[.int .i64 N, .slice (some ⟨g5, 0, none⟩) m d5] 44)) (a := ⟨b, o, none⟩) (hk6 b hb)).trans (HKp.out _ _ _ HB6.out hp)
        have hO := HO.out
        have hb0 := HB0.out
        have HSk : Hid (w6.cell? ⟨ob, 2, none⟩ = some (.slice oa RL.length oc) ∧ w6.cell? ⟨w.heap.size, 1, none⟩ = some (.int .i64 N) ∧ w6.cell? ⟨w.heap.size, 2, none⟩ = some (.slice (some ⟨b0, o0, none⟩) R.length rc) ∧ w6.cell? ⟨w.heap.size + 1, 1, none⟩ = some (.int .i64 an) ∧ w6.cell? ⟨b0, o0 + an * 2 + 1, none⟩ = some (.slice (some ⟨gq, oq, none⟩) n qc) ∧ w6.cell? ⟨w.heap.size + 1, 2, none⟩ = some (.int .i64 bn) ∧ w6.cell? ⟨w.heap.size + 1, 3, none⟩ = some (.int .i64 cn)) := ⟨u3, kp _ _ _ (by omega) v1, kp _ _ _ (by omega) v2, kp _ _ _ (by omega) v3, kp _ _ _ (by omega) k2, kp _ _ _ (by omega) v4, kp _ _ _ (by omega) v5⟩
        refine hK.out _ _ (fun _ => HSk.out) ?_
        clear hK kp hk6 hB6' hrl6 hown6 hgrow6 hat6 hO hb0 v0 v1 v2 v3 v4 v5 k2 hB6 hB5 hown5 hmid i0 i1
        refine TailA.one (i := 20) (by kernel_rfl) ⟨_, rfl, fun K hK => ?_⟩
        go_simp
        refine hK.out _ _ (fun _ => HSk.out) ?_
        clear hK
        refine TailA.one (i := 21) (by kernel_rfl) ⟨_, rfl, fun K hK => ?_⟩
        go_simp
        refine hK.out _ _ (fun h => absurd h (by omega)) ?_
        clear hK
        refine TailA.end (by kernel_rfl) (NoPanic.normal ?_)
        obtain ⟨Wz, hWz⟩ : ∃ W, w6.setCell ⟨ob, 2, none⟩ (.slice A (RL.length + RM.length) d) = W := ⟨_, rfl⟩
        rw [hWz] at HDz ⊢
        clear hWz u3 uf
        have y3 := HDz.out.s0
        go_upto_region 16 with fail
        clear y3
        have hDz := HDz.out
        have u0 := hDz.o0
        have u1 : Wz.cell? ⟨ob, 1, none⟩ = some (.int .i64 ((N : Int) + 1)) := hDz.o1
        have u2 := hDz.o2
        have cm := may1_any (T := (T : Int)) (N := ((N : Int) + 1)) hDz.rl.rules
        rw [HMz.out] at cm
        obtain ⟨zb, hzb⟩ : ∃ z, mayB T ((N : Int) + 1) (doR N R s) = z := ⟨_, rfl⟩
        have HZB : Hid (mayB T ((N : Int) + 1) (doR N R s) = zb) := hzb
        rw [hzb] at cm
        clear hzb hDz
        cases zb
        · go_wp2_with
            (go_at_call 9; refine cm.mono ?_; rintro e w9 ⟨rfl, hB9⟩
             have hD9 := HDz.out.later hB9
             have HB9 : Hid (Below w.heap.size w w9) := hD9.below
             have n0 : w9.cell? ⟨W0.heap.size, 0, none⟩ = some (.int .i64 0) := by rw [HS0.out]; exact hD9.n0
             have n1 : w9.cell? ⟨W0.heap.size, 1, none⟩ = some (.int .i64 0) := by rw [HS0.out]; exact hD9.n1
             have n2 : w9.cell? ⟨W0.heap.size, 2, none⟩ = some (.slice none 0 0) := by rw [HS0.out]; exact hD9.n2
             have x0 : w9.cell? ⟨w.heap.size + 1 + 1, 0, none⟩ = some (.int .i64 0) := hD9.x0
             have f0 : w9.frozen? ⟨w.heap.size + 1 + 1, 0, none⟩ = false := hD9.xf 0
             have x1 : w9.cell? ⟨w.heap.size + 1 + 1, 1, none⟩ = some (.int .i64 0) := hD9.x1
             have f1 : w9.frozen? ⟨w.heap.size + 1 + 1, 1, none⟩ = false := hD9.xf 1
             have x2 : w9.cell? ⟨w.heap.size + 1 + 1, 2, none⟩ = some (.slice none 0 0) := hD9.x2
             have f2 : w9.frozen? ⟨w.heap.size + 1 + 1, 2, none⟩ = false := hD9.xf 2
             clear hD9 cm u0 u1 u2 hB9)
          refine bodyPost_ret (v := .tuple #[.agg #[.int .i64 0, .int .i64 0, .slice none 0 0], .int .i64 1]) (by simp [results, Try.results4, go_sem, x0, x1, x2]) rfl ⟨.inr ⟨?_, rfl⟩, ((HB9.out.setCell (by simp only; omega) _).setCell (by simp only; omega) _).setCell (by simp only; omega) _⟩
          rw [← HMn.out]; exact HZB.out
        · go_wp2_with
            (go_at_call 9; refine cm.mono ?_; rintro e w9 ⟨rfl, hB9⟩
             have hD9 := HDz.out.later hB9
             have HD9 : Hid (D8 w T N (some ⟨b0, o0, none⟩) rc R s ob (N + 1) (.slice A (RL.length + RM.length) d) (RL ++ RM) w9) := hD9
             have v0 := hD9.o0
             have v1 : w9.cell? ⟨ob, 1, none⟩ = some (.int .i64 ((N : Int) + 1)) := hD9.o1
             have v2 := hD9.o2
             have x0 : w9.cell? ⟨w.heap.size + 1 + 1, 0, none⟩ = some (.int .i64 0) := hD9.x0
             have f0 : w9.frozen? ⟨w.heap.size + 1 + 1, 0, none⟩ = false := hD9.xf 0
             have x1 : w9.cell? ⟨w.heap.size + 1 + 1, 1, none⟩ = some (.int .i64 0) := hD9.x1
             have f1 : w9.frozen? ⟨w.heap.size + 1 + 1, 1, none⟩ = false := hD9.xf 1
             have x2 : w9.cell? ⟨w.heap.size + 1 + 1, 2, none⟩ = some (.slice none 0 0) := hD9.x2
             have f2 : w9.frozen? ⟨w.heap.size + 1 + 1, 2, none⟩ = false := hD9.xf 2
             clear hD9 cm u0 u1 u2 hB9)
          have hD9 := HD9.out
          have hlo := hD9.olo
          refine bodyPost_ret (v := .tuple #[.agg #[.int .i64 T, .int .i64 ((N : Int) + 1), .slice A (RL.length + RM.length) d], .int .i64 0]) (by simp [results, Try.results4, go_sem, x0, x1, x2]) rfl ⟨.inl ⟨?_, .slice A (RL.length + RM.length) d, by rw [← HMn.out] <;> rfl, ?_⟩, ((hD9.below.setCell (by simp only; omega) _).setCell (by simp only; omega) _).setCell (by simp only; omega) _⟩
          · rw [← HMn.out]; exact HZB.out
          · rw [← HMz.out]
            exact (((hD9.rl.setCell (by simp only; omega) _).setCell (by simp only; omega) _).setCell (by simp only; omega) _).rules

      by_cases h4 : s.op = 4
      · have e2 : (s.op == 2) = false := by simpa using h2
        have e4 : (s.op == 4) = true := by simpa using h4
        have HMn : Hid (N + 1 = doN N s) := by show N + 1 = doN N s; unfold doN; rw [if_neg h2, if_pos h4]
        have HLa : Hid (lastR N R s = [((N : Int), [])]) := by show lastR N R s = [((N : Int), [])]; unfold lastR; rw [if_neg h2, if_pos h4]
        have hwr : IntKind.i64.wrap ((N : Int) + 1) = (N : Int) + 1 := IntWalk.i64_in _ (by omega)
        have u1 := HD.out.o1
        have uf := HD.out.of 1
        clear h2 h4
        go_upto_region 15 with fail
        have hD5 : D8 w T N ra rc R s ob (N + 1) (.slice oa RL.length oc) RL (wr.setCell ⟨ob, 1, none⟩ (.int .i64 ((N : Int) + 1))) := HD.out.set (Nat.le_refl _) (fun _ _ => rfl) HD.out.below HD.out.rl (.inl ⟨rfl, rfl, rfl⟩)
        obtain ⟨W5, hW5⟩ : ∃ W, wr.setCell ⟨ob, 1, none⟩ (.int .i64 ((N : Int) + 1)) = W := ⟨_, rfl⟩
        rw [hW5] at hD5 ⊢
        have HD5 : Hid (D8 w T N ra rc R s ob (N + 1) (.slice oa RL.length oc) RL W5) := hD5
        have u2 := hD5.o2
        have k1 := hD5.g1
        have hB6 : Below W5.heap.size W5 (W5.alloc (.cells #[.int .i64 N, .slice none 0 0] 44)) := (Below.refl _ _).alloc (Nat.le_refl _) _
        have HB6 : Hid (Below W5.heap.size W5 (W5.alloc (.cells #[.int .i64 N, .slice none 0 0] 44))) := hB6
        have HD6 : Hid (D8 w T N ra rc R s ob (N + 1) (.slice oa RL.length oc) RL (W5.alloc (.cells #[.int .i64 N, .slice none 0 0] 44))) := hD5.later hB6
        obtain ⟨RM, hRM⟩ : ∃ M : List (Value × Ru), M = [(.slice none 0 0, ((N : Int), []))] := ⟨_, rfl⟩
        have HRM : Hid (RlIn (W5.alloc (.cells #[.int .i64 N, .slice none 0 0] 44)) W5.heap.size (.slice (some ⟨W5.heap.size, 0, none⟩) 1 1) RM) := by
          show RlIn _ _ _ _
          rw [hRM]
          exact rl_lit (r := ((N : Int), [])) (Nat.le_refl _) ⟨⟨none, 0, rfl, Nat.le_refl _⟩, fun j hj => absurd hj (by simp)⟩
        have HMz : Hid (((RL ++ RM).map fun x => x.2) = doR N R s) := by
          show ((RL ++ RM).map fun x => x.2) = doR N R s
          unfold doR
          rw [HLa.out, List.map_append, HMap.out, hRM]
          rfl
        have HLn : Hid (RL.length + RM.length ≤ 100000) := by
          show RL.length + RM.length ≤ 100000
          rw [hRM]
          have := HLR.out
          simp only [List.length_cons, List.length_nil]
          omega
        clear hB6 hD5 hW5 hRM u1 uf hwr y3 e4 y2
        go_upto_region 16 with
          (at_builtin
           refine wpList_append_rules rfl _ _ rfl rfl rfl rfl HD6.out.rl.own HRM.out (by have := HD6.out.lt; omega) HLn.out ?_
           intro A d w6 hown6 hgrow6 hat6
           have hk6 : ∀ b, b < ob + 1 → w6.heap[b]? = (W5.alloc (.cells #[.int .i64 N, .slice none 0 0] 44)).heap[b]? := fun b hb => hgrow6.block b (by have := HD6.out.lt; omega) (fun e => by have := (HD6.out.rl.own.lt b e.symm).1; omega)
           have hB6' : Below w.heap.size w w6 := HD6.out.below.grown hgrow6 HD6.out.below.size fun g hg => by have := (HD6.out.rl.own.lt g hg).1; have := HD6.out.olo; omega
           have hrl6 : RlIn w6 (ob + 1) (.slice A (RL.length + RM.length) d) (RL ++ RM) := HD5.out.rl.join (by have := HD5.out.lt; omega) HB6.out HRM.out hgrow6 hown6 hat6
           have u3 : w6.cell? ⟨ob, 2, none⟩ = some (.slice oa RL.length oc) := (World.cell?_of_block (w := W5.alloc (.cells #[.int .i64 N, .slice none 0 0] 44)) (a := ⟨ob, 2, none⟩) (hk6 ob (by omega))).trans HD6.out.o2
           have uf : w6.frozen? ⟨ob, 2, none⟩ = false := (World.frozen?_of_block (w := W5.alloc (.cells #[.int .i64 N, .slice none 0 0] 44)) (a := ⟨ob, 2, none⟩) (hk6 ob (by omega))).trans (HD6.out.of 2)
           have HDz : Hid (D8 w T N ra rc R s ob (N + 1) (.slice A (RL.length + RM.length) d) (RL ++ RM) (w6.setCell ⟨ob, 2, none⟩ (.slice A (RL.length + RM.length) d))) := HD6.out.set hgrow6.size hk6 hB6' hrl6 (.inr ⟨rfl, rfl, rfl⟩)
           clear hk6 hB6' hrl6 hown6 hgrow6 hat6 u2 k1)
        obtain ⟨Wz, hWz⟩ : ∃ W, w6.setCell ⟨ob, 2, none⟩ (.slice A (RL.length + RM.length) d) = W := ⟨_, rfl⟩
        rw [hWz] at HDz ⊢
        clear hWz u3 uf
        have hDz := HDz.out
        have u0 := hDz.o0
        have u1 : Wz.cell? ⟨ob, 1, none⟩ = some (.int .i64 ((N : Int) + 1)) := hDz.o1
        have u2 := hDz.o2
        have cm := may1_any (T := (T : Int)) (N := ((N : Int) + 1)) hDz.rl.rules
        rw [HMz.out] at cm
        obtain ⟨zb, hzb⟩ : ∃ z, mayB T ((N : Int) + 1) (doR N R s) = z := ⟨_, rfl⟩
        have HZB : Hid (mayB T ((N : Int) + 1) (doR N R s) = zb) := hzb
        rw [hzb] at cm
        clear hzb hDz
        cases zb
        · go_wp2_with
            (go_at_call 9; refine cm.mono ?_; rintro e w9 ⟨rfl, hB9⟩
             have hD9 := HDz.out.later hB9
             have HB9 : Hid (Below w.heap.size w w9) := hD9.below
             have n0 : w9.cell? ⟨W0.heap.size, 0, none⟩ = some (.int .i64 0) := by rw [HS0.out]; exact hD9.n0
             have n1 : w9.cell? ⟨W0.heap.size, 1, none⟩ = some (.int .i64 0) := by rw [HS0.out]; exact hD9.n1
             have n2 : w9.cell? ⟨W0.heap.size, 2, none⟩ = some (.slice none 0 0) := by rw [HS0.out]; exact hD9.n2
             have x0 : w9.cell? ⟨w.heap.size + 1 + 1, 0, none⟩ = some (.int .i64 0) := hD9.x0
             have f0 : w9.frozen? ⟨w.heap.size + 1 + 1, 0, none⟩ = false := hD9.xf 0
             have x1 : w9.cell? ⟨w.heap.size + 1 + 1, 1, none⟩ = some (.int .i64 0) := hD9.x1
             have f1 : w9.frozen? ⟨w.heap.size + 1 + 1, 1, none⟩ = false := hD9.xf 1
             have x2 : w9.cell? ⟨w.heap.size + 1 + 1, 2, none⟩ = some (.slice none 0 0) := hD9.x2
             have f2 : w9.frozen? ⟨w.heap.size + 1 + 1, 2, none⟩ = false := hD9.xf 2
             clear hD9 cm u0 u1 u2 hB9)
          refine bodyPost_ret (v := .tuple #[.agg #[.int .i64 0, .int .i64 0, .slice none 0 0], .int .i64 1]) (by simp [results, Try.results4, go_sem, x0, x1, x2]) rfl ⟨.inr ⟨?_, rfl⟩, ((HB9.out.setCell (by simp only; omega) _).setCell (by simp only; omega) _).setCell (by simp only; omega) _⟩
          rw [← HMn.out]; exact HZB.out
        · go_wp2_with
            (go_at_call 9; refine cm.mono ?_; rintro e w9 ⟨rfl, hB9⟩
             have hD9 := HDz.out.later hB9
             have HD9 : Hid (D8 w T N ra rc R s ob (N + 1) (.slice A (RL.length + RM.length) d) (RL ++ RM) w9) := hD9
             have v0 := hD9.o0
             have v1 : w9.cell? ⟨ob, 1, none⟩ = some (.int .i64 ((N : Int) + 1)) := hD9.o1
             have v2 := hD9.o2
             have x0 : w9.cell? ⟨w.heap.size + 1 + 1, 0, none⟩ = some (.int .i64 0) := hD9.x0
             have f0 : w9.frozen? ⟨w.heap.size + 1 + 1, 0, none⟩ = false := hD9.xf 0
             have x1 : w9.cell? ⟨w.heap.size + 1 + 1, 1, none⟩ = some (.int .i64 0) := hD9.x1
             have f1 : w9.frozen? ⟨w.heap.size + 1 + 1, 1, none⟩ = false := hD9.xf 1
             have x2 : w9.cell? ⟨w.heap.size + 1 + 1, 2, none⟩ = some (.slice none 0 0) := hD9.x2
             have f2 : w9.frozen? ⟨w.heap.size + 1 + 1, 2, none⟩ = false := hD9.xf 2
             clear hD9 cm u0 u1 u2 hB9)
          have hD9 := HD9.out
          have hlo := hD9.olo
          refine bodyPost_ret (v := .tuple #[.agg #[.int .i64 T, .int .i64 ((N : Int) + 1), .slice A (RL.length + RM.length) d], .int .i64 0]) (by simp [results, Try.results4, go_sem, x0, x1, x2]) rfl ⟨.inl ⟨?_, .slice A (RL.length + RM.length) d, by rw [← HMn.out] <;> rfl, ?_⟩, ((hD9.below.setCell (by simp only; omega) _).setCell (by simp only; omega) _).setCell (by simp only; omega) _⟩
          · rw [← HMn.out]; exact HZB.out
          · rw [← HMz.out]
            exact (((hD9.rl.setCell (by simp only; omega) _).setCell (by simp only; omega) _).setCell (by simp only; omega) _).rules

      have e2 : (s.op == 2) = false := by simpa using h2
      have e4 : (s.op == 4) = false := by simpa using h4
      have HMn : Hid ((N : Nat) = doN N s) := by show N = doN N s; unfold doN; rw [if_neg h2, if_neg h4]
      have HMz : Hid ((RL.map fun x => x.2) = doR N R s) := by show (RL.map fun x => x.2) = doR N R s; unfold doR lastR; rw [if_neg h2, if_neg h4, HMap.out, List.append_nil]
      clear h2 h4
      have HDz := HD
      go_upto_region 16 with fail
      have hDz := HDz.out
      have u0 := hDz.o0
      have u1 := hDz.o1
      have u2 := hDz.o2
      have cm := may1_any (T := (T : Int)) (N := (N : Int)) hDz.rl.rules
      rw [HMz.out] at cm
      obtain ⟨zb, hzb⟩ : ∃ z, mayB T (N : Int) (doR N R s) = z := ⟨_, rfl⟩
      have HZB : Hid (mayB T (N : Int) (doR N R s) = zb) := hzb
      rw [hzb] at cm
      clear hzb hDz
      cases zb
      · go_wp2_with
          (go_at_call 9; refine cm.mono ?_; rintro e w9 ⟨rfl, hB9⟩
           have hD9 := HDz.out.later hB9
           have HB9 : Hid (Below w.heap.size w w9) := hD9.below
           have n0 : w9.cell? ⟨W0.heap.size, 0, none⟩ = some (.int .i64 0) := by rw [HS0.out]; exact hD9.n0
           have n1 : w9.cell? ⟨W0.heap.size, 1, none⟩ = some (.int .i64 0) := by rw [HS0.out]; exact hD9.n1
           have n2 : w9.cell? ⟨W0.heap.size, 2, none⟩ = some (.slice none 0 0) := by rw [HS0.out]; exact hD9.n2
           have x0 : w9.cell? ⟨w.heap.size + 1 + 1, 0, none⟩ = some (.int .i64 0) := hD9.x0
           have f0 : w9.frozen? ⟨w.heap.size + 1 + 1, 0, none⟩ = false := hD9.xf 0
           have x1 : w9.cell? ⟨w.heap.size + 1 + 1, 1, none⟩ = some (.int .i64 0) := hD9.x1
           have f1 : w9.frozen? ⟨w.heap.size + 1 + 1, 1, none⟩ = false := hD9.xf 1
           have x2 : w9.cell? ⟨w.heap.size + 1 + 1, 2, none⟩ = some (.slice none 0 0) := hD9.x2
           have f2 : w9.frozen? ⟨w.heap.size + 1 + 1, 2, none⟩ = false := hD9.xf 2
           clear hD9 cm u0 u1 u2 hB9)
        refine bodyPost_ret (v := .tuple #[.agg #[.int .i64 0, .int .i64 0, .slice none 0 0], .int .i64 1]) (by simp [results, Try.results4, go_sem, x0, x1, x2]) rfl ⟨.inr ⟨?_, rfl⟩, ((HB9.out.setCell (by simp only; omega) _).setCell (by simp only; omega) _).setCell (by simp only; omega) _⟩
        rw [← HMn.out]; exact HZB.out
      · go_wp2_with
          (go_at_call 9; refine cm.mono ?_; rintro e w9 ⟨rfl, hB9⟩
           have hD9 := HDz.out.later hB9
           have HD9 : Hid (D8 w T N ra rc R s ob N (.slice oa RL.length oc) RL w9) := hD9
           have v0 := hD9.o0
           have v1 := hD9.o1
           have v2 := hD9.o2
           have x0 : w9.cell? ⟨w.heap.size + 1 + 1, 0, none⟩ = some (.int .i64 0) := hD9.x0
           have f0 : w9.frozen? ⟨w.heap.size + 1 + 1, 0, none⟩ = false := hD9.xf 0
           have x1 : w9.cell? ⟨w.heap.size + 1 + 1, 1, none⟩ = some (.int .i64 0) := hD9.x1
           have f1 : w9.frozen? ⟨w.heap.size + 1 + 1, 1, none⟩ = false := hD9.xf 1
           have x2 : w9.cell? ⟨w.heap.size + 1 + 1, 2, none⟩ = some (.slice none 0 0) := hD9.x2
           have f2 : w9.frozen? ⟨w.heap.size + 1 + 1, 2, none⟩ = false := hD9.xf 2
           clear hD9 cm u0 u1 u2 hB9)
        have hD9 := HD9.out
        have hlo := hD9.olo
        refine bodyPost_ret (v := .tuple #[.agg #[.int .i64 T, .int .i64 (N : Int), .slice oa RL.length oc], .int .i64 0]) (by simp [results, Try.results4, go_sem, x0, x1, x2]) rfl ⟨.inl ⟨?_, .slice oa RL.length oc, by rw [← HMn.out] <;> rfl, ?_⟩, ((hD9.below.setCell (by simp only; omega) _).setCell (by simp only; omega) _).setCell (by simp only; omega) _⟩
        · rw [← HMn.out]; exact HZB.out
        · rw [← HMz.out]
          exact (((hD9.rl.setCell (by simp only; omega) _).setCell (by simp only; omega) _).setCell (by simp only; omega) _).rules

end Go.Proofs.Ytikjekfpgklbdaa
