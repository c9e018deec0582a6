/- The contract of pollardingref8.Do, where nothing may be done. -/
import Derived.Test.YtikjekfpgklbdaaOne8IAndDo8Mem
import Derived.Test.YtikjekfpgklbdaaMathAndOwns
namespace Go.Proofs.Ytikjekfpgklbdaa
open Go.RowKit

/-- The boxes of a grammar, of a step, of the result, of nothing. -/
structure L8 (w : World) (T N : Int) (ra : Option Addr) (rc : Nat) (R : List Ru) (s : Stp) (wq : World) : Prop where
  g0 : wq.cell? ⟨w.heap.size, 0, none⟩ = some (.int .i64 T)
  g1 : wq.cell? ⟨w.heap.size, 1, none⟩ = some (.int .i64 N)
  g2 : wq.cell? ⟨w.heap.size, 2, none⟩ = some (.slice ra R.length rc)
  s0 : wq.cell? ⟨w.heap.size + 1, 0, none⟩ = some (.int .i64 s.op)
  s1 : wq.cell? ⟨w.heap.size + 1, 1, none⟩ = some (.int .i64 s.a)
  s2 : wq.cell? ⟨w.heap.size + 1, 2, none⟩ = some (.int .i64 s.b)
  s3 : wq.cell? ⟨w.heap.size + 1, 3, none⟩ = some (.int .i64 s.c)
  x0 : wq.cell? ⟨w.heap.size + 2, 0, none⟩ = some (.int .i64 0)
  x1 : wq.cell? ⟨w.heap.size + 2, 1, none⟩ = some (.int .i64 0)
  x2 : wq.cell? ⟨w.heap.size + 2, 2, none⟩ = some (.slice none 0 0)
  xf : ∀ o, wq.frozen? ⟨w.heap.size + 2, o, none⟩ = false
  n0 : wq.cell? ⟨w.heap.size + 3, 0, none⟩ = some (.int .i64 0)
  n1 : wq.cell? ⟨w.heap.size + 3, 1, none⟩ = some (.int .i64 0)
  n2 : wq.cell? ⟨w.heap.size + 3, 2, none⟩ = some (.slice none 0 0)
  sz : w.heap.size + 4 ≤ wq.heap.size
  rules : RulesAt wq w.heap.size (.slice ra R.length rc) R
  below : Below w.heap.size w wq

theorem laid8_at {w W1 : World} {T N : Int} {ra : Option Addr} {rc : Nat} {R : List Ru} {s : Stp} (hr : RulesAt w w.heap.size (.slice ra R.length rc) R) (hW1 : (((w.alloc (.cells #[.int .i64 T, .int .i64 N, .slice ra R.length rc] 24)).alloc (.cells #[.int .i64 s.op, .int .i64 s.a, .int .i64 s.b, .int .i64 s.c] 26)).alloc (.cells #[.int .i64 0, .int .i64 0, .slice none 0 0] 24)).alloc (.cells #[.int .i64 0, .int .i64 0, .slice none 0 0] 24) = W1) : L8 w T N ra rc R s W1 := by
  have hB : Below w.heap.size w W1 := by rw [← hW1]; exact ((((Below.refl _ _).alloc (Nat.le_refl _) _).alloc (by simp) _).alloc (by simp; omega) _).alloc (by simp; omega) _
  have hs : W1.heap.size = w.heap.size + 4 := by rw [← hW1]; simp
  refine ⟨?_, ?_, ?_, ?_, ?_, ?_, ?_, ?_, ?_, ?_, fun o => ?_, ?_, ?_, ?_, by omega, hr.below hB, hB⟩
  all_goals rw [← hW1]
  all_goals simp [go_sem]
theorem L8.later {w wq w' : World} {T N : Int} {ra : Option Addr} {rc : Nat} {R : List Ru} {s : Stp} (h : L8 w T N ra rc R s wq) (hb : Below wq.heap.size wq w') : L8 w T N ra rc R s w' := by
  have hlo := h.sz
  have hss := hb.size
  exact ⟨(hb.cell (by simp only; omega)).trans h.g0, (hb.cell (by simp only; omega)).trans h.g1, (hb.cell (by simp only; omega)).trans h.g2, (hb.cell (by simp only; omega)).trans h.s0, (hb.cell (by simp only; omega)).trans h.s1, (hb.cell (by simp only; omega)).trans h.s2, (hb.cell (by simp only; omega)).trans h.s3,
    (hb.cell (by simp only; omega)).trans h.x0, (hb.cell (by simp only; omega)).trans h.x1, (hb.cell (by simp only; omega)).trans h.x2, fun o => (hb.frozen (by simp only; omega)).trans (h.xf o), (hb.cell (by simp only; omega)).trans h.n0, (hb.cell (by simp only; omega)).trans h.n1, (hb.cell (by simp only; omega)).trans h.n2, by omega, h.rules.below (hb.mono (by omega)), h.below.trans (hb.mono (by omega))⟩

/-- append(x, l...), as a walk takes it. -/
theorem wpList_append_rules {w : World} {ops : Array Oper} {rest : List Oper} {o : Oper} {a : Act} {Q : Exit → Act → World → Prop} (hgd : o.guard = none) (s x : Operand) (ho' : o.op = .call { callee := .builtin .append, args := #[s, x], argTypes := #[ 22, 22 ] }) (hty : o.type = 22)
    {B C : Nat} {RL RM : List (Value × Ru)} {ov lv : Value} (hsv : a.eval s = ov) (hxv : a.eval x = lv) (ho : w.ownsRow B 44 2 ov RL.length (flatR RL)) (hl : RlIn w C lv RM) (hb : B ≤ w.heap.size) (hs : RL.length + RM.length ≤ 100000)
    (h : ∀ A d w', w'.ownsRow B 44 2 (.slice A (RL.length + RM.length) d) (RL.length + RM.length) (flatR (RL ++ RM)) → w.grownBy w' ov.ownBlock → (∀ g, (Value.slice A (RL.length + RM.length) d).ownBlock = some g → ov.ownBlock = some g ∨ g = w.heap.size) → wpList Try.prog ops Q rest (a.put o.dst (.slice A (RL.length + RM.length) d)) w') : wpList Try.prog ops Q (o :: rest) a w := by
  obtain ⟨A, d, w', hr, h1, h2, h3⟩ := append_rules ho hl hb hs
  refine wpList_plain hgd fun K hK => ?_
  unfold Oper.wp execOp
  simp only [ho', hty, resolve, invoke, builtin, Sem.run_bind, Sem.run_pure, Result.andThen_ok, List.map_toArray, List.map_cons, List.map_nil, hsv, hxv, hr]
  exact hK _ _ (h A d w' h1 h2 h3)

set_option maxRecDepth 100000 in
set_option maxHeartbeats 3200000 in
theorem do8_no1 {w : World} {T N : Int} {rv : Value} {R : List Ru} (hr : RulesAt w w.heap.size rv R) (hm : mayB T N R = false) (s : Stp) :
    Calls Try.prog 4 #[.agg #[.int .i64 T, .int .i64 N, rv], .agg #[.int .i64 s.op, .int .i64 s.a, .int .i64 s.b, .int .i64 s.c]] w fun e w' => e = .returned (.tuple #[.agg #[.int .i64 0, .int .i64 0, .slice none 0 0], .int .i64 2]) ∧ Below w.heap.size w w' := by
  obtain ⟨ra, rc, hrv⟩ := hr.1
  subst hrv
  obtain ⟨W0, hW0⟩ : ∃ W, ((w.alloc (.cells #[.int .i64 T, .int .i64 N, .slice ra R.length rc] 24)).alloc (.cells #[.int .i64 s.op, .int .i64 s.a, .int .i64 s.b, .int .i64 s.c] 26)).alloc (.cells #[.int .i64 0, .int .i64 0, .slice none 0 0] 24) = W := ⟨_, rfl⟩
  have HS0 : Hid (W0.heap.size = w.heap.size + 3) := by show W0.heap.size = w.heap.size + 3; rw [← hW0]; simp
  have HX : Hid (∃ W, W0.alloc (.cells #[.int .i64 0, .int .i64 0, .slice none 0 0] 24) = W ∧ L8 w T N ra rc R s W) := ⟨_, rfl, laid8_at hr (by rw [← hW0])⟩
  have HM1 : Hid (mayB T N R = false) := hm
  clear hr hm
  go_enter Try.func4, Try.ntmps4
  go_upto_region 1 with fail
  clear hW0
  go_upto_region 2 with fail
  obtain ⟨W1, hW1, hL⟩ := HX.out
  rw [hW1]
  have HL : Hid (L8 w T N ra rc R s W1) := hL
  have c1 := may1_any (T := T) (N := N) (hL.rules.mono hL.below.size)
  rw [HM1.out] at c1
  have g0 := hL.g0
  have g1 := hL.g1
  have g2 := hL.g2
  clear hW1 hL HX
  go_wp2_with
    (go_at_call 9; refine c1.mono ?_; rintro e w2 ⟨rfl, hB2⟩
     have hL2 := HL.out.later hB2
     have HL2 : Hid (L8 w T N ra rc R s w2) := hL2
     have n0 : w2.cell? ⟨W0.heap.size, 0, none⟩ = some (.int .i64 0) := by rw [HS0.out]; exact hL2.n0
     have n1 : w2.cell? ⟨W0.heap.size, 1, none⟩ = some (.int .i64 0) := by rw [HS0.out]; exact hL2.n1
     have n2 : w2.cell? ⟨W0.heap.size, 2, none⟩ = some (.slice none 0 0) := by rw [HS0.out]; exact hL2.n2
     have x0 : w2.cell? ⟨w.heap.size + 1 + 1, 0, none⟩ = some (.int .i64 0) := hL2.x0
     have x1 : w2.cell? ⟨w.heap.size + 1 + 1, 1, none⟩ = some (.int .i64 0) := hL2.x1
     have x2 : w2.cell? ⟨w.heap.size + 1 + 1, 2, none⟩ = some (.slice none 0 0) := hL2.x2
     have f0 : w2.frozen? ⟨w.heap.size + 1 + 1, 0, none⟩ = false := hL2.xf 0
     have f1 : w2.frozen? ⟨w.heap.size + 1 + 1, 1, none⟩ = false := hL2.xf 1
     have f2 : w2.frozen? ⟨w.heap.size + 1 + 1, 2, none⟩ = false := hL2.xf 2
     clear hL2 c1 g0 g1 g2 hB2)
  refine bodyPost_ret (v := .tuple #[.agg #[.int .i64 0, .int .i64 0, .slice none 0 0], .int .i64 2]) (by simp [results, Try.results4, go_sem, x0, x1, x2]) rfl ⟨rfl, ?_⟩
  have hL2 := HL2.out
  exact ((hL2.below.setCell (by simp only; omega) _).setCell (by simp only; omega) _).setCell (by simp only; omega) _

set_option maxRecDepth 100000 in
set_option maxHeartbeats 3200000 in
theorem do8_no2 {w : World} {T N : Int} {rv : Value} {R : List Ru} (hr : RulesAt w w.heap.size rv R) (hm : mayB T N R = true) (hR : R.length ≤ 1000) {s : Stp} (hs : stepB N R s = false) :
    Calls Try.prog 4 #[.agg #[.int .i64 T, .int .i64 N, rv], .agg #[.int .i64 s.op, .int .i64 s.a, .int .i64 s.b, .int .i64 s.c]] w fun e w' => e = .returned (.tuple #[.agg #[.int .i64 0, .int .i64 0, .slice none 0 0], .int .i64 2]) ∧ Below w.heap.size w w' := by
  obtain ⟨ra, rc, hrv⟩ := hr.1
  subst hrv
  obtain ⟨W0, hW0⟩ : ∃ W, ((w.alloc (.cells #[.int .i64 T, .int .i64 N, .slice ra R.length rc] 24)).alloc (.cells #[.int .i64 s.op, .int .i64 s.a, .int .i64 s.b, .int .i64 s.c] 26)).alloc (.cells #[.int .i64 0, .int .i64 0, .slice none 0 0] 24) = W := ⟨_, rfl⟩
  have HS0 : Hid (W0.heap.size = w.heap.size + 3) := by show W0.heap.size = w.heap.size + 3; rw [← hW0]; simp
  have HX : Hid (∃ W, W0.alloc (.cells #[.int .i64 0, .int .i64 0, .slice none 0 0] 24) = W ∧ L8 w T N ra rc R s W) := ⟨_, rfl, laid8_at hr (by rw [← hW0])⟩
  have HM1 : Hid (mayB T N R = true) := hm
  have HC8 : Hid (∀ wq, L8 w T N ra rc R s wq → Calls Try.prog 10 #[.agg #[.int .i64 T, .int .i64 N, .slice ra R.length rc], .agg #[.int .i64 s.op, .int .i64 s.a, .int .i64 s.b, .int .i64 s.c]] wq fun e w' => e = .returned (.bool false) ∧ Below wq.heap.size wq w') := fun wq hq => by
    have := may8_any (T := T) (N := N) (hq.rules.mono hq.below.size) hR s
    rw [hs] at this
    exact this
  clear hr hm hR hs
  go_enter Try.func4, Try.ntmps4
  go_upto_region 1 with fail
  clear hW0
  go_upto_region 2 with fail
  obtain ⟨W1, hW1, hL⟩ := HX.out
  rw [hW1]
  have HL : Hid (L8 w T N ra rc R s W1) := hL
  have c1 := may1_any (T := T) (N := N) (hL.rules.mono hL.below.size)
  rw [HM1.out] at c1
  have g0 := hL.g0
  have g1 := hL.g1
  have g2 := hL.g2
  clear hW1 hL HX
  go_wp2_with
    (first
     | (go_at_call 9; refine c1.mono ?_; rintro e w2 ⟨rfl, hB2⟩
        have hL2 := HL.out.later hB2
        have HL2 : Hid (L8 w T N ra rc R s w2) := hL2
        have c8 := HC8.out w2 hL2
        have y0 := hL2.g0
        have y1 := hL2.g1
        have y2 := hL2.g2
        have y3 := hL2.s0
        have y4 := hL2.s1
        have y5 := hL2.s2
        have y6 := hL2.s3
        clear hL2 c1 g0 g1 g2 hB2)
     | (go_at_call 10; refine c8.mono ?_; rintro e w3 ⟨rfl, hB3⟩
        have hL3 := HL2.out.later hB3
        have HL3 : Hid (L8 w T N ra rc R s w3) := hL3
        have n0 : w3.cell? ⟨W0.heap.size, 0, none⟩ = some (.int .i64 0) := by rw [HS0.out]; exact hL3.n0
        have n1 : w3.cell? ⟨W0.heap.size, 1, none⟩ = some (.int .i64 0) := by rw [HS0.out]; exact hL3.n1
        have n2 : w3.cell? ⟨W0.heap.size, 2, none⟩ = some (.slice none 0 0) := by rw [HS0.out]; exact hL3.n2
        have x0 : w3.cell? ⟨w.heap.size + 1 + 1, 0, none⟩ = some (.int .i64 0) := hL3.x0
        have x1 : w3.cell? ⟨w.heap.size + 1 + 1, 1, none⟩ = some (.int .i64 0) := hL3.x1
        have x2 : w3.cell? ⟨w.heap.size + 1 + 1, 2, none⟩ = some (.slice none 0 0) := hL3.x2
        have f0 : w3.frozen? ⟨w.heap.size + 1 + 1, 0, none⟩ = false := hL3.xf 0
        have f1 : w3.frozen? ⟨w.heap.size + 1 + 1, 1, none⟩ = false := hL3.xf 1
        have f2 : w3.frozen? ⟨w.heap.size + 1 + 1, 2, none⟩ = false := hL3.xf 2
        clear hL3 c8 y0 y1 y2 y3 y4 y5 y6 hB3))
  refine bodyPost_ret (v := .tuple #[.agg #[.int .i64 0, .int .i64 0, .slice none 0 0], .int .i64 2]) (by simp [results, Try.results4, go_sem, x0, x1, x2]) rfl ⟨rfl, ?_⟩
  have hL3 := HL3.out
  exact ((hL3.below.setCell (by simp only; omega) _).setCell (by simp only; omega) _).setCell (by simp only; omega) _

end Go.Proofs.Ytikjekfpgklbdaa
