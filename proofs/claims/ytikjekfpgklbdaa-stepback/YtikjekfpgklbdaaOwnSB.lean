/- PROVED: for every grammar, step and list of rules' numbers, such as may not be among them: where the step may be done and the list is a derivation of the name 0, of at most 200 rules, of what comes of it, step.Back carries it back to a derivation of the grammar, with the same yield, and step.Forward carries that over to just the list; where the step may not be done, or the list is none, step.Back tells so (the law pollardinglaw.StepBack returns true, and the arguments read as before). No condition. -/
import Derived.Test.YtikjekfpgklbdaaLawSBAndReadC
import Derived.ProofKit
import Derived.OpenShut
import Derived.JoinedOf
import Derived.Lib.SmallJoins
namespace Go.Proofs.Ytikjekfpgklbdaa
open Go.ChangeShapes Go.WideShapes Go.ChangeAt Go.RowKit

theorem sbk_own : ownKnob Try.prog.godebug = none := by kernel_rfl
theorem sbk_laidOut : laidOutB Try.prog = true := by kernel_rfl
theorem Try.cells24 : Try.prog.cellsOf 24 = 3 := by kernel_rfl
theorem Try.cells26 : Try.prog.cellsOf 26 = 4 := by kernel_rfl

set_option maxRecDepth 100000 in
theorem sbk_contract (H : Type) (enc : TypeId × Value → H) (W : World) (base : Nat) (args : Array Value) (ds gs : List (DataW H)) (before : List MemPlace)
    (hval : ∀ (j : Nat) t v, Try.f3.params[j]? = some t → args[j]? = some v → Value.okWide Try.prog W .any base t v)
    (hW : DataW.Whole enc Try.prog Try.f3.params.toList Rows.stepBackSpec.vars false W args.toList ds gs before) :
    Calls Try.prog 3 args W fun e W' => ∃ v, e = .returned v ∧ Rows.stepBackSpec.post enc Try.prog Try.f3 false true false false W args v W' := by
  have hW' := hW
  obtain ⟨p, q, hA0, hV, rfl, hfz, hnd⟩ := hW
  have hA : DataW.TrodAll enc Try.prog W 0 (fun _ => true) true Try.f3.params.toList args.toList ds p := hA0
  rw [Try.params3 ] at hA hval
  obtain ⟨v0, vs0, d0, ds0, p0, q0, hargs, rfl, rfl, h0, r0⟩ := trodAll_cons hA
  obtain ⟨v1, vs1, d1, ds1, p1, q1, rfl, rfl, rfl, h1, r1⟩ := trodAll_cons r0
  obtain ⟨v2, vs2, d2, ds2, p2, q2, rfl, rfl, rfl, h2, r2⟩ := trodAll_cons r1
  obtain ⟨rfl, rfl, rfl⟩ := trodAll_nil r2
  obtain rfl : args = #[v0, v1, v2] := by cases args; simp_all
  obtain ⟨rfl, rfl⟩ := trodVars_none hV
  have k0 := h0
  have k1 := h1
  have k2 := h2
  have lt2 : ∀ x ∈ p2, x.block < W.heap.size := by obtain ⟨m, hm⟩ := k2; exact DataW.trod_lt m _ _ _ hm
  have lt1 : ∀ x ∈ p1, x.block < W.heap.size := by obtain ⟨m, hm⟩ := k1; exact DataW.trod_lt m _ _ _ hm
  have lt0 : ∀ x ∈ p0, x.block < W.heap.size := by obtain ⟨m, hm⟩ := k0; exact DataW.trod_lt m _ _ _ hm
  obtain ⟨c0, c1, c2, y0, y1, y2, m, rfl, hd0, _, hy0, hy1, hy2⟩ := Joins.open_agg3 Try.underlying24 (by kernel_rfl) Try.cells24 (hval 0 24 v0 rfl rfl) h0
  obtain ⟨T, e0, _, _⟩ := DataW.trod_int Try.underlying3 hy0
  obtain ⟨N, e1, _, _⟩ := DataW.trod_int Try.underlying3 hy1
  simp only [List.cons.injEq, and_true] at e0 e1
  subst e0
  subst e1
  obtain ⟨R, hR, _⟩ := rules_read hy2
  obtain ⟨a0, a1, a2, a3, x0, x1, x2, x3, m2, rfl, hd1, _, hx0, hx1, hx2, hx3⟩ := Joins.open_agg4 Try.underlying26 (by kernel_rfl) Try.cells26 (hval 1 26 v1 rfl rfl) h1
  obtain ⟨so, f0, _, _⟩ := DataW.trod_int Try.underlying3 hx0
  obtain ⟨sa, f1, _, _⟩ := DataW.trod_int Try.underlying3 hx1
  obtain ⟨sb, f2, _, _⟩ := DataW.trod_int Try.underlying3 hx2
  obtain ⟨sc, f3, _, _⟩ := DataW.trod_int Try.underlying3 hx3
  simp only [List.cons.injEq, and_true] at f0 f1 f2 f3
  subst f0
  subst f1
  subst f2
  subst f3
  obtain ⟨da, dl, dc, rfl⟩ := okWide_slice Try.underlying27 (hval 2 27 v2 rfl rfl)
  obtain ⟨D, hD⟩ : ∃ D, ListAt W W.heap.size (.slice da dl dc) D := by
    obtain ⟨fuel, hf⟩ := h2
    exact list_read (by simpa [Value.cells] using hf)
  have hDc : ∃ a n c, Value.slice da dl dc = .slice a n c ∧ n ≤ c := by
    obtain ⟨fuel, hf⟩ := k2
    exact list_readC (by simpa [Value.cells] using hf)
  clear hA0
  refine (stepBack_any (T := T) (N := N) hR hD hDc ⟨so, sa, sb, sc⟩).mono fun e W' ⟨he, bel⟩ => ?_
  subst he
  exact ⟨_, rfl, _, _, _, [], _, [], hW', trodAll_mk1 (shut_bool Try.underlying4 _),
    trodAll_cons_mk (Below.trod sbk_laidOut (by kernel_rfl) (of_decide_eq_true (by kernel_rfl)) k0 bel lt0) (trodAll_cons_mk (Below.trod sbk_laidOut (by kernel_rfl) (of_decide_eq_true (by kernel_rfl)) k1 bel lt1) (trodAll_cons_mk (Below.trod sbk_laidOut (by kernel_rfl) (of_decide_eq_true (by kernel_rfl)) k2 bel lt2) trodAll_mk0)), rfl, bel.frame _, fun h => by cases h⟩

set_option maxRecDepth 100000 in
theorem sbk_lifted (os : Os) (started : os.Started) (H : Type) (enc : TypeId × Value → H) :
    ReturnsInHanded {} Try.checked os 3 .any (Rows.stepBackSpec.pre6 enc Try.prog Try.f3 Rows.stepBackRow.domain false) (Rows.stepBackSpec.post enc Try.prog Try.f3 false true false false) := by
  refine returnsInHanded_of_change (C := Try.checked) sbk_own started (by kernel_rfl) Try.func3
    (ChangeSpec.witness6 (enc := enc) (C := Try.checked) false ⟨#[], #[.agg #[.int .i64 0, .int .i64 0, .slice none 0 0], .agg #[.int .i64 0, .int .i64 0, .int .i64 0, .int .i64 0], .slice none 0 0], []⟩ 8 (by kernel_rfl) (by kernel_rfl) (by kernel_rfl) (by kernel_rfl)) ?_
  intro W base args ds gs before hval hW _ _
  exact sbk_contract H enc W base args ds gs before hval hW

/-- THE STATEMENT. -/
theorem stepBack_proved : Rows.StepBackSaid :=
  OpenClaim.holds_of_wide 3 Try.f3 rfl rfl rfl rfl rfl rfl rfl ⟨rfl, rfl, rfl, rfl, rfl⟩ rfl rfl rfl rfl rfl (by kernel_rfl) Try.func3 (by kernel_rfl)
    (of_decide_eq_true (by kernel_rfl)) (by unfold Func.isWrapper; first | (rw [if_pos (by decide +kernel)]; kernel_rfl) | (rw [if_neg (by decide +kernel)]; exact ⟨rfl, rfl⟩))
    (fun os started H enc _ => sbk_lifted os started H enc)

#print axioms stepBack_proved
end Go.Proofs.Ytikjekfpgklbdaa
