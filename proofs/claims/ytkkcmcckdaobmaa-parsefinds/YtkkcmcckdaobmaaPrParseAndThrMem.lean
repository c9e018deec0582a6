import Derived.Test.YtkkcmcckdaobmaaLRRunAndPrFor
import Derived.Test.YtkkcmcckdaobmaaPrRedAndPrRun
import Derived.Test.YtkkcmcckdaobmaaMathAndNull2
import Derived.OwnWalk
/- The contract of the program's parse.Parse: what is wrong, or what the parser answers in plain words. -/
namespace Go.Proofs.Ytkkcmcckdaobmaa
open Go.RowKit

set_option maxRecDepth 100000 in
set_option maxHeartbeats 1600000 in
theorem pr_err {w : World} {T N x : Int} {rv tv : Value} {R : List Ru} {tok : List Int} (hr : RulesAt w w.heap.size rv R) (ht : ListAt w w.heap.size tv tok) (hx : x ≠ 0)
    (tf : Calls Try.prog 10 #[.agg #[.int .i64 T, .int .i64 N, rv], tv] (w.alloc (.cells #[.int .i64 T, .int .i64 N, rv] 24)) fun e w' => e = .returned (errT x) ∧ Below (w.alloc (.cells #[.int .i64 T, .int .i64 N, rv] 24)).heap.size (w.alloc (.cells #[.int .i64 T, .int .i64 N, rv] 24)) w') :
    Calls Try.prog 5 #[.agg #[.int .i64 T, .int .i64 N, rv], tv] w fun e w' => e = .returned (.tuple #[.slice none 0 0, .int .i64 0, .int .i64 x]) ∧ Below w.heap.size w w' := by
  obtain ⟨ra, rc, hrv⟩ := hr.1
  obtain ⟨ta, tc, htv⟩ := ht.1
  subst hrv
  subst htv
  have HB0 : Hid (Below w.heap.size w (w.alloc (.cells #[.int .i64 T, .int .i64 N, .slice ra R.length rc] 24))) := (Below.refl _ _).alloc (Nat.le_refl _) _
  have hxn : (x != 0) = true := by simpa using hx
  clear hr ht
  go_enter Try.func5, Try.ntmps5
  go_wp2_with
    (go_at_call 10; refine tf.mono ?_; rintro e w1 ⟨rfl, hB1⟩
     have HB1 : Hid (Below w.heap.size w (w1.alloc (.cells #[.slice none 0 0, .slice none 0 0] 38))) := (HB0.out.trans (hB1.mono (by simp))).alloc (by have := hB1.size; simp at this; omega) _
     clear hB1)
  refine bodyPost_ret (v := .tuple #[.slice none 0 0, .int .i64 0, .int .i64 x]) (by simp [results, Try.results5, go_sem]) rfl ⟨rfl, HB1.out⟩

set_option maxRecDepth 100000 in
set_option maxHeartbeats 3200000 in
theorem pr_runs {w : World} {T N K : Nat} {rv tv : Value} {R : List Ru} {tok : List Int} (hr : RulesAt w w.heap.size rv R) (ht : ListAt w w.heap.size tv tok) (hf : Fine T N R) (hN : 0 < N) (hW : Whole T N R K) (hcl : clashN (tabC T N R K) = 0) (hin : inB T tok = true) (h30 : tok.length ≤ 30)
    (tf : Calls Try.prog 10 #[.agg #[.int .i64 T, .int .i64 N, rv], tv] (w.alloc (.cells #[.int .i64 T, .int .i64 N, rv] 24)) fun e w' => Below (w.alloc (.cells #[.int .i64 T, .int .i64 N, rv] 24)).heap.size (w.alloc (.cells #[.int .i64 T, .int .i64 N, rv] 24)) w' ∧
      ∃ ca cc ga gc, e = .returned (.tuple #[.agg #[.slice ca K cc, .slice ga K gc], .int .i64 0]) ∧ TabAt w' (.slice ca K cc) (.slice ga K gc) (tabC T N R K) (tabG T N R K)) :
    Calls Try.prog 5 #[.agg #[.int .i64 T, .int .i64 N, rv], tv] w fun e w' => ∃ dv D a x, e = .returned (.tuple #[dv, .int .i64 a, .int .i64 x]) ∧ ListC w' dv D ∧ (D, a, x) = ansP (parseN T N R (allN T N R K).1 (allN T N R K).2 tok) ∧ Below w.heap.size w w' := by
  obtain ⟨ra, rc, hrv⟩ := hr.1
  obtain ⟨ta, tc, htv⟩ := ht.1
  subst hrv
  subst htv
  have HB0 : Hid (Below w.heap.size w (w.alloc (.cells #[.int .i64 T, .int .i64 N, .slice ra R.length rc] 24))) := (Below.refl _ _).alloc (Nat.le_refl _) _
  have HR : Hid (RulesAt w w.heap.size (.slice ra R.length rc) R) := hr
  have HT : Hid (ListAt w w.heap.size (.slice ta tok.length tc) tok) := ht
  have HTok : Hid (∀ t ∈ tok, 0 ≤ t ∧ t < (T : Int)) := by
    intro t ht
    unfold inB at hin
    have := List.all_eq_true.1 hin t ht
    simpa using this
  have HF : Hid (Fine T N R) := hf
  have HW : Hid (Whole T N R K ∧ clashN (tabC T N R K) = 0) := ⟨hW, hcl⟩
  clear hr ht hf hW hcl hin
  go_enter Try.func5, Try.ntmps5
  go_upto_region 4 with
    (go_at_call 10
     go_loud
       (refine tf.mono ?_
        rintro e w1 ⟨hB1, ca, cc, ga, gc, rfl, hTb⟩
        rw [World.size_alloc] at hB1
        have HB1 : Hid (Below (w.heap.size + 1) (w.alloc (.cells #[.int .i64 T, .int .i64 N, .slice ra R.length rc] 24)) w1) := hB1
        have HTb : Hid (TabAt w1 (.slice ca K cc) (.slice ga K gc) (tabC T N R K) (tabG T N R K)) := hTb
        clear hB1 hTb))
  have hs1 : w.heap.size + 1 ≤ w1.heap.size := by have := HB1.out.size; simpa using this
  obtain ⟨W2, hW2⟩ : ∃ W, w1.alloc (.cells #[.slice ca K cc, .slice ga K gc] 38) = W := ⟨_, rfl⟩
  have hB2 : Below w1.heap.size w1 W2 := by rw [← hW2]; exact (Below.refl _ _).alloc (Nat.le_refl _) _
  have hBw : Below w.heap.size w W2 := (HB0.out.trans (HB1.out.mono (by omega))).trans (hB2.mono (by omega))
  have b0 : W2.cell? ⟨w.heap.size, 0, none⟩ = some (.int .i64 T) := (hB2.cell (by simp only; omega)).trans ((HB1.out.cell (by simp)).trans (by simp [go_sem]))
  have b1 : W2.cell? ⟨w.heap.size, 1, none⟩ = some (.int .i64 N) := (hB2.cell (by simp only; omega)).trans ((HB1.out.cell (by simp)).trans (by simp [go_sem]))
  have b2 : W2.cell? ⟨w.heap.size, 2, none⟩ = some (.slice ra R.length rc) := (hB2.cell (by simp only; omega)).trans ((HB1.out.cell (by simp)).trans (by simp [go_sem]))
  have t0 : W2.cell? ⟨w1.heap.size, 0, none⟩ = some (.slice ca K cc) := by rw [← hW2]; simp [go_sem]
  have t1 : W2.cell? ⟨w1.heap.size, 1, none⟩ = some (.slice ga K gc) := by rw [← hW2]; simp [go_sem]
  rw [hW2]
  clear hW2
  have E : RnE W2 ⟨W2.heap.size + 1, T, N, .slice ra R.length rc, .slice ca K cc, .slice ga K gc, .slice ta tok.length tc⟩ R tok (tabC T N R K) (tabG T N R K) :=
    ⟨(HR.out.below hBw).mono hBw.size, (HT.out.below hBw).mono hBw.size, HTb.out.below hB2⟩
  have M0 : RnM W2 ⟨W2.heap.size + 1, T, N, .slice ra R.length rc, .slice ca K cc, .slice ga K gc, .slice ta tok.length tc⟩ (.slice (some ⟨W2.heap.size, 0, none⟩) 1 1) [noPl] 0 0
      ((W2.alloc (.cells #[.int .i64 0, .slice none 0 0] 56)).alloc (.cells #[.int .i64 T, .int .i64 N, .slice ra R.length rc, .slice ca K cc, .slice ga K gc, .slice ta tok.length tc, .int .i64 0, .int .i64 0, .slice (some ⟨W2.heap.size, 0, none⟩) 1 1] 59)) := by
    refine ⟨⟨fun i r hr => ?_, fun i j x y hij hx hy g h1 h2 => ?_⟩, fun x hx => ?_, ((Below.refl _ _).alloc (Nat.le_refl _) _).alloc (by simp) _⟩
    · cases i with
      | ru =>
        simp only [RnP, Option.some.injEq] at hr
        subst hr
        have := World.ownsRow_lit (base := W2.heap.size) (e := 59) (size := 9) (W2.alloc (.cells #[.int .i64 0, .slice none 0 0] 56)) #[.int .i64 T, .int .i64 N, .slice ra R.length rc, .slice ca K cc, .slice ga K gc, .slice ta tok.length tc, .int .i64 0, .int .i64 0, .slice (some ⟨W2.heap.size, 0, none⟩) 1 1] 1 (by simp) (by unfold maxLen; omega) rfl
        simp only [World.size_alloc] at this
        exact this
      | st =>
        simp only [RnP, Option.some.injEq] at hr
        subst hr
        have := World.ownsRow_lit (base := W2.heap.size) (e := 56) (size := 2) W2 #[.int .i64 0, .slice none 0 0] 1 (Nat.le_refl _) (by unfold maxLen; omega) rfl
        exact this.alloc _
    · cases i <;> cases j <;> simp only [RnP, Option.some.injEq] at hx hy <;> subst hx <;> subst hy
      · exact hij rfl
      · simp only [Value.ownBlock, Option.some.injEq] at h1 h2; omega
      · simp only [Value.ownBlock, Option.some.injEq] at h1 h2; omega
      · exact hij rfl
    · simp only [List.mem_singleton] at hx
      subst hx
      exact .inl ⟨rfl, rfl⟩
  have rr := rn_run M0 E HF.out HW.out.1 hN HW.out.2 HTok.out h30
  have HBw : Hid (Below w.heap.size w W2) := hBw
  clear E M0 hB2 hBw
  go_wp2_with
    (go_at_call 11; refine rr.mono ?_; rintro e w3 ⟨dv, D, a, x, rfl, hL, hA, hB⟩
     obtain ⟨da, dc, hdv⟩ := hL.1.1
     obtain ⟨dn, hdn⟩ : ∃ n, D.length = n := ⟨_, rfl⟩
     rw [hdn] at hdv
     subst hdv
     have HRes : Hid (ListC w3 (.slice da dn dc) D ∧ (D, a, x) = ansP (parseN T N R (allN T N R K).1 (allN T N R K).2 tok) ∧ Below W2.heap.size W2 w3) := ⟨hL, hA, hB⟩
     clear hL hA hB hdn rr)
  refine bodyPost_ret (v := .tuple #[.slice da dn dc, .int .i64 a, .int .i64 x]) (by simp [results, Try.results5, go_sem]) rfl ?_
  exact ⟨_, D, a, x, rfl, HRes.out.1, HRes.out.2.1, HBw.out.trans (HRes.out.2.2.mono HBw.out.size)⟩

theorem list_nil (w : World) : ListAt w w.heap.size (.slice none 0 0) [] := ⟨⟨_, _, rfl⟩, fun _ hp => absurd hp (Nat.not_lt_zero _)⟩

theorem parse_anyC {w : World} {T N : Nat} {rv tv : Value} {R : List Ru} {tok : List Int} (hr : RulesAt w w.heap.size rv R) (ht : ListAt w w.heap.size tv tok) (hm : mayB T N R = true) :
    Calls Try.prog 5 #[.agg #[.int .i64 T, .int .i64 N, rv], tv] w fun e w' => ∃ dv D a x, e = .returned (.tuple #[dv, .int .i64 a, .int .i64 x]) ∧ ListC w' dv D ∧ ParseIs T N R tok (D, a, x) ∧ Below w.heap.size w w' := by
  have hr1 := hr.boxed (.cells #[.int .i64 T, .int .i64 N, rv] 24)
  have ht1 := ht.boxed (.cells #[.int .i64 T, .int .i64 N, rv] 24)
  by_cases h30 : 30 < tok.length
  · refine (pr_err hr ht (by decide) (tf_long hr1 ht1 hm h30)).mono fun e w' ⟨h1, h2⟩ => ⟨_, [], 0, 1, h1, ⟨list_nil _, _, _, _, rfl, Nat.le_refl _⟩, ?_, h2⟩
    by_cases hmo : More T N R 150
    · exact .inl ⟨hmo, rfl⟩
    · obtain ⟨K, hW, hK⟩ := not_more (by omega) hmo
      have e : wrongE T N R tok = 1 := by simp [wrongE, hm, h30]
      exact .inr ⟨K, hW, hK, .inl ⟨by rw [e]; decide, by rw [e]⟩⟩
  · by_cases hmo : More T N R 150
    · exact (pr_err hr ht (by decide) (tf_more hr1 ht1 hm (by omega) hmo)).mono fun e w' ⟨h1, h2⟩ => ⟨_, [], 0, 1, h1, ⟨list_nil _, _, _, _, rfl, Nat.le_refl _⟩, .inl ⟨hmo, rfl⟩, h2⟩
    · obtain ⟨K, hW, hK⟩ := not_more (by omega) hmo
      have tf := tf_whole hr1 ht1 hm (by omega) hmo
      cases hin : inB T tok with
      | false =>
        have e_ne : wrongE T N R tok = 3 := by simp [wrongE, hm, h30, hin]
        refine (pr_err (x := 3) hr ht (by decide) (tf.mono fun e w' ⟨K', k1, k2, k3, k4⟩ => ?_)).mono fun e w' ⟨h1, h2⟩ => ⟨_, [], 0, 3, h1, ⟨list_nil _, _, _, _, rfl, Nat.le_refl _⟩, .inr ⟨K, hW, hK, .inl ⟨by rw [e_ne]; decide, by rw [e_ne]⟩⟩, h2⟩
        · rcases k4 with ⟨_, k5⟩ | ⟨k5, _⟩ | ⟨k5, _⟩
          · exact ⟨k5, k3⟩
          · rw [hin] at k5; cases k5
          · rw [hin] at k5; cases k5
      | true =>
        have e0 : wrongE T N R tok = 0 := by simp [wrongE, hm, h30, hin]
        by_cases hcl : clashN (tabC T N R K) = 0
        · obtain ⟨_, hN1, _, _, _⟩ := may_fine hm
          refine (pr_runs hr ht (may_FineR hm) hN1 hW hcl hin (by omega) (tf.mono fun e w' ⟨K', k1, k2, k3, k4⟩ => ?_)).mono fun e w' ⟨dv, D, a, x, h1, h2, h3, h4⟩ => ⟨dv, D, a, x, h1, h2, .inr ⟨K, hW, hK, .inr (.inr ⟨e0, hcl, h3⟩)⟩, h4⟩
          have := whole_one k1 hW
          subst this
          rcases k4 with ⟨k5, _⟩ | ⟨_, k5, _⟩ | ⟨_, _, k5⟩
          · rw [hin] at k5; cases k5
          · omega
          · exact ⟨k3, k5⟩
        · refine (pr_err (x := 4) hr ht (by decide) (tf.mono fun e w' ⟨K', k1, k2, k3, k4⟩ => ?_)).mono fun e w' ⟨h1, h2⟩ => ⟨_, [], 0, 4, h1, ⟨list_nil _, _, _, _, rfl, Nat.le_refl _⟩, .inr ⟨K, hW, hK, .inr (.inl ⟨e0, by omega, rfl⟩)⟩, h2⟩
          have := whole_one k1 hW
          subst this
          rcases k4 with ⟨k5, _⟩ | ⟨_, _, k5⟩ | ⟨_, k5, _⟩
          · rw [hin] at k5; cases k5
          · exact ⟨k5, k3⟩
          · exact absurd k5 hcl

theorem parse_any {w : World} {T N : Nat} {rv tv : Value} {R : List Ru} {tok : List Int} (hr : RulesAt w w.heap.size rv R) (ht : ListAt w w.heap.size tv tok) (hm : mayB T N R = true) :
    Calls Try.prog 5 #[.agg #[.int .i64 T, .int .i64 N, rv], tv] w fun e w' => ∃ dv D a x, e = .returned (.tuple #[dv, .int .i64 a, .int .i64 x]) ∧ ListAt w' w'.heap.size dv D ∧ ParseIs T N R tok (D, a, x) ∧ Below w.heap.size w w' :=
  (parse_anyC hr ht hm).mono fun _ _ ⟨dv, D, a, x, h1, h2, h3, h4⟩ => ⟨dv, D, a, x, h1, h2.1, h3, h4⟩

end Go.Proofs.Ytkkcmcckdaobmaa

/- Plain: the grammar of one rule, by which the name 0 becomes nothing: its states, and what its parse answers. No program. -/
namespace Go.Proofs.Ytkkcmcckdaobmaa

/-- The rules. -/
abbrev R1 : List Ru := [((0 : Int), ([] : List Sy))]

theorem r1_zero : rightF R1 0 = [] := rfl
theorem r1_one : rightF R1 1 = [(false, 0)] := rfl

def S0 : SetI := Cl R1 fun i => i = (R1.length, 0)
def S1 : SetI := gotoS 0 R1 S0 0

theorem s0_mem : ∀ i, S0 i → i = (1, 0) ∨ i = (0, 0) := by
  intro i hi
  unfold S0 at hi
  induction hi with
  | base h => exact .inl h
  | @step r d n m _ _ h2 _ _ =>
    simp only [List.length_singleton] at h2
    exact .inr (by rw [show n = 0 by omega])
theorem s0_has : S0 (1, 0) := .base rfl

theorem s1_mem : ∀ i, S1 i → i = (1, 1) := by
  intro i hi
  unfold S1 gotoS at hi
  induction hi with
  | base h =>
    obtain ⟨j, hj, ⟨s, hs, _⟩, rfl⟩ := h
    rcases s0_mem j hj with rfl | rfl
    · rfl
    · rw [r1_zero] at hs; simp at hs
  | step _ h1 _ _ ih =>
    cases ih
    rw [r1_one] at h1
    simp at h1

theorem next0 : ∃ i, S0 i ∧ nextIs 0 R1 i 0 := ⟨(1, 0), s0_has, (false, 0), rfl, rfl⟩
theorem next1 : ¬ ∃ i, S1 i ∧ nextIs 0 R1 i 0 := by
  rintro ⟨i, hi, s, hs, _⟩
  rw [s1_mem i hi, r1_one] at hs
  simp at hs

theorem one_allN : (allN 0 1 R1 2).2 = [S0, S1] := by
  have h0 : (allN 0 1 R1 0).2 = [S0] := rfl
  have v0 : visit 0 R1 [S0] 0 0 = (1, [S0, S1]) := by
    have := visit_new (T := 0) (R := R1) (L := [S0]) (k := 0) (x := 0) next0 (fun n hn e => by
      have hn0 : n = 0 := by simpa using hn
      subst hn0
      have e' : S0 = S1 := e
      have h1 := s0_has
      rw [e'] at h1
      have := s1_mem _ h1
      cases this)
    rw [this]
    rfl
  have h1 : (allN 0 1 R1 1).2 = [S0, S1] := by
    have e : allN 0 1 R1 1 = allS 0 1 R1 0 (allN 0 1 R1 0) := rfl
    rw [e, allS]
    show (rowN 0 R1 0 1 [S0]).2 = _
    have e2 : rowN 0 R1 0 1 [S0] = rowS 0 R1 0 0 (rowN 0 R1 0 0 [S0]) := rfl
    rw [e2, rowS]
    show (visit 0 R1 [S0] 0 0).2 = _
    rw [v0]
  have e : allN 0 1 R1 2 = allS 0 1 R1 1 (allN 0 1 R1 1) := rfl
  rw [e, allS]
  show (rowN 0 R1 1 1 (allN 0 1 R1 1).2).2 = _
  rw [h1]
  have e2 : rowN 0 R1 1 1 [S0, S1] = rowS 0 R1 1 0 (rowN 0 R1 1 0 [S0, S1]) := rfl
  rw [e2, rowS]
  show (visit 0 R1 [S0, S1] 1 0).2 = _
  rw [visit_none (T := 0) (R := R1) (L := [S0, S1]) (k := 1) (x := 0) next1]

theorem one_whole : Whole 0 1 R1 2 := by
  unfold Whole
  rw [one_allN]
  rfl

open Classical in
theorem one_noclash : clashN (tabC 0 1 R1 2) = 0 := by
  refine one_clash fun k hk t ht => ?_
  have hs : k = 0 ∨ k = 1 := by omega
  have ht0 : t = 0 := by omega
  subst ht0
  unfold oneB
  have e1 : (cellP 0 1 R1 (allN 0 1 R1 2).1 (allN 0 1 R1 2).2 k 0).1 = -1 := rfl
  have hl : (cellP 0 1 R1 (allN 0 1 R1 2).1 (allN 0 1 R1 2).2 k 0).2.1.length ≤ 1 := by
    unfold cellP
    simp only [List.length_map]
    exact Nat.le_trans (List.length_filter_le _ _) (by simp)
  rw [e1]
  rcases hs with rfl | rfl
  · have e2 : (cellP 0 1 R1 (allN 0 1 R1 2).1 (allN 0 1 R1 2).2 0 0).2.2 = false := by
      unfold cellP
      refine decide_eq_false fun h => ?_
      have h1 := h.1
      rw [one_allN] at h1
      rcases s0_mem _ h1 with h2 | h2 <;> cases h2
    rw [e2]
    generalize (cellP 0 1 R1 (allN 0 1 R1 2).1 (allN 0 1 R1 2).2 0 0).2.1.length = n at hl
    have : n = 0 ∨ n = 1 := by omega
    rcases this with rfl | rfl <;> rfl
  · have e2 : (cellP 0 1 R1 (allN 0 1 R1 2).1 (allN 0 1 R1 2).2 1 0).2.1 = [] := by
      unfold cellP
      simp only [List.map_eq_nil_iff, List.filter_eq_nil_iff, decide_eq_true_eq, List.mem_range]
      intro n hn h
      have h1 := h.1
      rw [one_allN] at h1
      have h2 := s1_mem _ h1
      have hn0 : n = 0 := by simpa using hn
      subst hn0
      cases h2
    rw [e2]
    simp

theorem one_derD : DerD R1 0 [0] [] := ⟨1, 0, by simp, rfl, [], rfl, rfl, rfl⟩

/-- Its parse of nothing is its one rule. -/
theorem one_parse : ParseIs 0 1 R1 [] ([0], -1, 0) := by
  have hm : mayB (0 : Nat) (1 : Nat) R1 = true := by decide
  refine .inr ⟨2, one_whole, by omega, .inr (.inr ⟨by decide, one_noclash, ?_⟩)⟩
  have := (parse_finds (lr_of (may_FineR hm) one_whole (by omega)) (by rw [show (allN 0 1 R1 2).2.length = 2 from one_whole]; exact clash_one one_noclash) (tok := []) (fun t ht => by cases ht) one_derD).1 (by simp)
  rw [this]
  rfl

end Go.Proofs.Ytkkcmcckdaobmaa

/- Plain: a derivation read by a stack of what is still to come is read as by recursion. No program, no memory. -/
namespace Go.Proofs.Ytkkcmcckdaobmaa

/-- What is still to come: a symbol, or the end of the rule of a span. -/
inductive Jt where
  | sym (s : Sy)
  | close (k : Nat)

/-- Where a span ends is written. -/
def St.shut (st : St) (k : Nat) : St := { st with S := st.S.set k ((st.S.getD k (0, 0, 0)).1, (st.S.getD k (0, 0, 0)).2.1, st.Y.length) }

/-- What comes of all that is still to come, the next one first. -/
def fin (R : List Ru) (D : List Int) : List Jt → St → Option St
  | [], st => some st
  | .close k :: K, st => fin R D K (st.shut k)
  | .sym (true, v) :: K, st => fin R D K { st with Y := st.Y ++ [v] }
  | .sym (false, n) :: K, st =>
    match nameF R D (D.length - st.pos) n st with
    | none => none
    | some st' => fin R D K st'

theorem symsF_congr {f g : Int → St → Option St} (p : St → Prop) (hp : ∀ st n st', p st → f n st = some st' → p st') (hY : ∀ st Y, p st → p { st with Y := Y }) (h : ∀ n st, p st → f n st = g n st) :
    ∀ (l : List Sy) (st : St), p st → symsF f l st = symsF g l st := by
  intro l
  induction l with
  | nil => intro st _; rfl
  | cons s r ih =>
    intro st hst
    obtain ⟨b, v⟩ := s
    cases b with
    | true => simp only [symsF]; exact ih _ (hY _ _ hst)
    | false =>
      simp only [symsF]
      rw [← h v st hst]
      cases hf : f v st with
      | none => rfl
      | some st' => exact ih _ (hp _ _ _ hst hf)

theorem nameF_pos {R : List Ru} {D : List Int} {k : Nat} {n : Int} {st st' : St} (h : nameF R D k n st = some st') : st.pos < st'.pos :=
  (nameF_grew (M := ((R.map fun r => r.2.length).foldr max 0)) (fun q => by
    by_cases hq : q < R.length
    · have : R.getD q (0, []) ∈ R := by simp [List.getD, hq]
      generalize R.getD q (0, []) = r at this
      clear hq h
      induction R with
      | nil => cases this
      | cons a t ih =>
        simp only [List.map_cons, List.foldr_cons]
        cases this with
        | head => exact Nat.le_max_left _ _
        | tail _ hm => exact Nat.le_trans (ih hm) (Nat.le_max_right _ _)
    · simp [List.getD, List.getElem?_eq_none (by omega : R.length ≤ q)]) k n st st' h).2.1

theorem nameF_past {R : List Ru} {D : List Int} {n : Int} {st : St} (h : D.length ≤ st.pos) : ∀ k, nameF R D k n st = none := by
  intro k
  cases k with
  | zero => rfl
  | succ k =>
    have hn : nextF R D n st.pos = none := by simp [nextF, List.getElem?_eq_none h]
    simp [nameF, hn]

/-- More fuel tells no more. -/
theorem nameF_fuel {R : List Ru} {D : List Int} : ∀ (k k' : Nat) (n : Int) (st : St), D.length - st.pos ≤ k → D.length - st.pos ≤ k' → nameF R D k n st = nameF R D k' n st := by
  intro k
  induction k with
  | zero =>
    intro k' n st h _
    rw [nameF_past (by omega), nameF_past (by omega)]
  | succ k ih =>
    intro k' n st h h'
    cases k' with
    | zero => rw [nameF_past (by omega), nameF_past (by omega)]
    | succ k' =>
      simp only [nameF]
      cases hq : nextF R D n st.pos with
      | none => rfl
      | some q =>
        simp only
        rw [symsF_congr (f := nameF R D k) (g := nameF R D k') (fun x => D.length - x.pos ≤ k ∧ D.length - x.pos ≤ k') ?_ ?_ ?_ _ _ ?_]
        · intro x n' x' hx hf
          have := nameF_pos hf
          omega
        · intro x Y hx; exact hx
        · intro n' x hx
          exact ih k' n' x hx.1 hx.2
        · simp only; omega

theorem fin_syms {R : List Ru} {D : List Int} (k : Nat) : ∀ (l : List Sy) (K : List Jt) (st : St), D.length - st.pos ≤ k →
    fin R D (l.map Jt.sym ++ K) st = match symsF (nameF R D k) l st with
      | none => none
      | some st' => fin R D K st' := by
  intro l
  induction l with
  | nil => intro K st _; simp [symsF]
  | cons s r ih =>
    intro K st h
    obtain ⟨b, v⟩ := s
    cases b with
    | true =>
      simp only [List.map_cons, List.cons_append, fin, symsF]
      exact ih K _ h
    | false =>
      simp only [List.map_cons, List.cons_append, fin, symsF]
      rw [nameF_fuel (D.length - st.pos) k v st (Nat.le_refl _) h]
      cases hf : nameF R D k v st with
      | none => rfl
      | some st' =>
        have := nameF_pos hf
        exact ih K st' (by omega)

theorem maxR (R : List Ru) : ∀ q, (R.getD q (0, [])).2.length ≤ ((R.map fun r => r.2.length).foldr max 0) := fun q => by
  by_cases hq : q < R.length
  · have : R.getD q (0, []) ∈ R := by simp [List.getD, hq]
    generalize R.getD q (0, []) = r at this
    clear hq
    induction R with
    | nil => cases this
    | cons a t ih =>
      simp only [List.map_cons, List.foldr_cons]
      cases this with
      | head => exact Nat.le_max_left _ _
      | tail _ hm => exact Nat.le_trans (ih hm) (Nat.le_max_right _ _)
  · simp [List.getD, List.getElem?_eq_none (by omega : R.length ≤ q)]

/-- One rule is opened. -/
theorem fin_open {R : List Ru} {D : List Int} {n : Int} {q : Nat} {K : List Jt} {st : St} (hq : nextF R D n st.pos = some q) (hS : st.S.length = st.pos) :
    fin R D (.sym (false, n) :: K) st = fin R D ((R.getD q (0, [])).2.map Jt.sym ++ .close st.pos :: K) { pos := st.pos + 1, Y := st.Y, S := st.S ++ [((q : Int), st.Y.length, 0)] } := by
  have hlt : st.pos < D.length := by
    obtain ⟨h1, _, _⟩ := nextF_some hq
    rcases Nat.lt_or_ge st.pos D.length with h | h
    · exact h
    · rw [List.getElem?_eq_none h] at h1; cases h1
  obtain ⟨k, hk⟩ : ∃ k, D.length - st.pos = k + 1 := ⟨D.length - st.pos - 1, by omega⟩
  rw [fin, hk, fin_syms k _ _ _ (by simp only; omega)]
  cases hs : symsF (nameF R D k) (R.getD q (0, [])).2 { pos := st.pos + 1, Y := st.Y, S := st.S ++ [((q : Int), st.Y.length, 0)] } with
  | none => rw [nameF_none hq rfl hs]
  | some st' =>
    rw [nameF_some hq rfl hs]
    simp only [fin]
    have g := symsF_grew (M := ((R.map fun r => r.2.length).foldr max 0)) (D := D) (f := nameF R D k) (fun n st st' h => ?_) _ _ _ hs
    · obtain ⟨T, hT, _, _⟩ := g.seg
      simp only [List.append_assoc, List.singleton_append] at hT
      have hp : st'.S[st.S.length]? = some ((q : Int), st.Y.length, 0) := by rw [hT]; simp
      have : st'.shut st.pos = { st' with S := st'.S.set st.S.length ((q : Int), st.Y.length, st'.Y.length) } := by
        unfold St.shut
        rw [← hS]
        simp [List.getD, hp]
      rw [this]
    · exact (nameF_grew (maxR R) k n st st' h).1

theorem fin_stuck {R : List Ru} {D : List Int} {n : Int} {K : List Jt} {st : St} (hq : nextF R D n st.pos = none) : fin R D (.sym (false, n) :: K) st = none := by
  rw [fin]
  cases h : D.length - st.pos with
  | zero => rfl
  | succ k => simp [nameF, hq]

/-- What the stack tells of the whole is what readF tells. -/
theorem readF_fin {R : List Ru} {D : List Int} (hD : D.length ≤ 400) : readF R D = match fin R D [.sym (false, 0)] { pos := 0, Y := [], S := [] } with
    | none => none
    | some st => if st.pos < D.length then none else some st := by
  unfold readF
  rw [if_neg (by omega), fin, Nat.sub_zero]
  cases nameF R D D.length 0 { pos := 0, Y := [], S := [] } <;> rfl

end Go.Proofs.Ytkkcmcckdaobmaa

/- How pollardingref1.Through lies in memory while it goes through a list: its tokens, its spans, and what is still to come. No walk. -/
namespace Go.Proofs.Ytkkcmcckdaobmaa
open Go.RowKit

/-- A list of spans as cells. -/
def flat (S : List Sp) : List Value := S.flatMap fun t => [.int .i64 t.1, .int .i64 t.2.1, .int .i64 t.2.2]

theorem flat_append (S T : List Sp) : flat (S ++ T) = flat S ++ flat T := by simp [flat]

theorem flat_get {S : List Sp} {i : Nat} {t : Sp} (h : S[i]? = some t) :
    (flat S)[i * 3]? = some (.int .i64 t.1) ∧ (flat S)[i * 3 + 1]? = some (.int .i64 t.2.1) ∧ (flat S)[i * 3 + 2]? = some (.int .i64 t.2.2) := by
  induction S generalizing i with
  | nil => simp at h
  | cons a r ih =>
    cases i with
    | zero =>
      simp only [List.getElem?_cons_zero, Option.some.injEq] at h
      subst h
      simp [flat]
    | succ i =>
      simp only [List.getElem?_cons_succ] at h
      obtain ⟨h1, h2, h3⟩ := ih h
      have e : flat (a :: r) = [.int .i64 a.1, .int .i64 a.2.1, .int .i64 a.2.2] ++ flat r := by simp [flat]
      rw [e]
      refine ⟨?_, ?_, ?_⟩
      · rw [List.getElem?_append_right (by simp; omega), ← h1]; congr 1; simp; omega
      · rw [List.getElem?_append_right (by simp; omega), ← h2]; congr 1; simp; omega
      · rw [List.getElem?_append_right (by simp; omega), ← h3]; congr 1; simp; omega

theorem flat_set {S : List Sp} {i : Nat} {t : Sp} (v : Nat) (h : S[i]? = some t) : (flat S).set (i * 3 + 2) (.int .i64 v) = flat (S.set i (t.1, t.2.1, v)) := by
  induction S generalizing i with
  | nil => simp at h
  | cons a r ih =>
    have e : ∀ a r, flat (a :: r) = [.int .i64 a.1, .int .i64 a.2.1, .int .i64 a.2.2] ++ flat r := fun a r => by simp [flat]
    cases i with
    | zero =>
      simp only [List.getElem?_cons_zero, Option.some.injEq] at h
      subst h
      simp [flat]
    | succ i =>
      simp only [List.getElem?_cons_succ] at h
      rw [List.set_cons_succ, e, e, List.set_append_right _ _ (by simp; omega), ← ih h]
      congr 2
      simp; omega

/-- What is still to come, as cells. -/
def ic : Jt → List Value
  | .sym s => [.bool s.1, .int .i64 s.2, .bool false, .int .i64 0]
  | .close k => [.bool false, .int .i64 0, .bool true, .int .i64 k]

def flatO (M : List Jt) : List Value := M.flatMap ic

theorem ic_length (x : Jt) : (ic x).length = 4 := by cases x <;> rfl

theorem flatO_length (M : List Jt) : (flatO M).length = M.length * 4 := by
  unfold flatO
  induction M with
  | nil => rfl
  | cons a r ih => simp only [List.flatMap_cons, List.length_append, List.length_cons, ic_length, ih]; omega

theorem flatO_append (M K : List Jt) : flatO (M ++ K) = flatO M ++ flatO K := by simp [flatO]

theorem flatO_top (M : List Jt) (x : Jt) (i : Nat) (h : i < 4) : (flatO (M ++ [x]))[M.length * 4 + i]? = (ic x)[i]? := by
  rw [flatO_append, List.getElem?_append_right (by rw [flatO_length]; omega), flatO_length]
  simp [flatO]

/-- Tokens tv, spans sv, what is to come ov: each owns its own row; nothing below B has turned since W. -/
structure TI (W : World) (B : Nat) (w : World) (st : St) (M : List Jt) (tv sv ov : Value) : Prop where
  below : Below B W w
  le : B ≤ w.heap.size
  ownT : w.ownsRow B 3 1 tv st.Y.length (st.Y.map (Value.int .i64))
  ownS : w.ownsRow B 51 3 sv st.S.length (flat st.S)
  ownO : w.ownsRow B 48 4 ov M.length (flatO M)
  ts : ∀ g, tv.ownBlock = some g → sv.ownBlock = some g → False
  ta : ∀ g, tv.ownBlock = some g → ov.ownBlock = some g → False
  sa : ∀ g, sv.ownBlock = some g → ov.ownBlock = some g → False

theorem not_row {a b : Value} (h : ∀ g, a.ownBlock = some g → b.ownBlock = some g → False) : a.ownBlock = none ∨ a.ownBlock ≠ b.ownBlock := by
  cases e : a.ownBlock with
  | none => exact .inl rfl
  | some k => exact .inr fun e' => h k e e'.symm

section
variable {W : World} {B : Nat} {w : World} {st : St} {M : List Jt} {tv sv ov : Value}

theorem TI.drewN (h : TI W B w st M tv sv ov) (m : Nat) : TI W B (w.drewN m) st M tv sv ov :=
  ⟨below_drewN h.below m, h.le, h.ownT, h.ownS, h.ownO, h.ts, h.ta, h.sa⟩

theorem TI.pos (h : TI W B w st M tv sv ov) (p : Nat) : TI W B w { st with pos := p } M tv sv ov :=
  ⟨h.below, h.le, h.ownT, h.ownS, h.ownO, h.ts, h.ta, h.sa⟩

theorem TI.alloc (h : TI W B w st M tv sv ov) (o : Obj) : TI W B (w.alloc o) st M tv sv ov :=
  ⟨h.below.alloc h.le o, by simp; have := h.le; omega, h.ownT.alloc o, h.ownS.alloc o, h.ownO.alloc o, h.ts, h.ta, h.sa⟩

theorem TI.pushT (h : TI W B w st M tv sv ov) {w1 : World} {g cap : Nat} {x : Int} (hg : w.grownBy w1 tv.ownBlock)
    (hown : w1.ownsRow B 3 1 (.slice (some ⟨g, 0, none⟩) (st.Y.length + 1) cap) (st.Y.length + 1) (st.Y.map (Value.int .i64) ++ [.int .i64 x])) (hat : tv.ownBlock = some g ∨ g = w.heap.size) :
    TI W B w1 { st with Y := st.Y ++ [x] } M (.slice (some ⟨g, 0, none⟩) (st.Y.length + 1) cap) sv ov := by
  have hle := h.le
  have hsz := hg.size
  refine ⟨h.below.grown hg h.le (fun k hk => (h.ownT.lt k hk).1), by omega, by simpa using hown, h.ownS.kept hg (not_row fun g a b => h.ts g b a), h.ownO.kept hg (not_row fun g a b => h.ta g b a), fun k h1 h2 => ?_, fun k h1 h2 => ?_, h.sa⟩
  · simp only [Value.ownBlock, Option.some.injEq] at h1
    subst h1
    rcases hat with hat | hat
    · exact h.ts _ hat h2
    · have := (h.ownS.lt _ h2).2; omega
  · simp only [Value.ownBlock, Option.some.injEq] at h1
    subst h1
    rcases hat with hat | hat
    · exact h.ta _ hat h2
    · have := (h.ownO.lt _ h2).2; omega

theorem TI.pushS (h : TI W B w st M tv sv ov) {w1 : World} {g cap : Nat} {t : Sp} (hg : w.grownBy w1 sv.ownBlock)
    (hown : w1.ownsRow B 51 3 (.slice (some ⟨g, 0, none⟩) (st.S.length + 1) cap) (st.S.length + 1) (flat st.S ++ [.int .i64 t.1, .int .i64 t.2.1, .int .i64 t.2.2])) (hat : sv.ownBlock = some g ∨ g = w.heap.size) :
    TI W B w1 { st with S := st.S ++ [t] } M tv (.slice (some ⟨g, 0, none⟩) (st.S.length + 1) cap) ov := by
  have hle := h.le
  have hsz := hg.size
  refine ⟨h.below.grown hg h.le (fun k hk => (h.ownS.lt k hk).1), by omega, h.ownT.kept hg (not_row h.ts), by rw [flat_append]; simpa [flat] using hown, h.ownO.kept hg (not_row fun g a b => h.sa g b a), fun k h1 h2 => ?_, h.ta, fun k h1 h2 => ?_⟩
  · simp only [Value.ownBlock, Option.some.injEq] at h2
    subst h2
    rcases hat with hat | hat
    · exact h.ts _ h1 hat
    · have := (h.ownT.lt _ h1).2; omega
  · simp only [Value.ownBlock, Option.some.injEq] at h1
    subst h1
    rcases hat with hat | hat
    · exact h.sa _ hat h2
    · have := (h.ownO.lt _ h2).2; omega

theorem TI.pushO (h : TI W B w st M tv sv ov) {w1 : World} {g cap : Nat} {x : Jt} (hg : w.grownBy w1 ov.ownBlock)
    (hown : w1.ownsRow B 48 4 (.slice (some ⟨g, 0, none⟩) (M.length + 1) cap) (M.length + 1) (flatO M ++ ic x)) (hat : ov.ownBlock = some g ∨ g = w.heap.size) :
    TI W B w1 st (M ++ [x]) tv sv (.slice (some ⟨g, 0, none⟩) (M.length + 1) cap) := by
  have hle := h.le
  have hsz := hg.size
  refine ⟨h.below.grown hg h.le (fun k hk => (h.ownO.lt k hk).1), by omega, h.ownT.kept hg (not_row h.ta), h.ownS.kept hg (not_row h.sa), by rw [flatO_append]; simpa [flatO] using hown, h.ts, fun k h1 h2 => ?_, fun k h1 h2 => ?_⟩
  · simp only [Value.ownBlock, Option.some.injEq] at h2
    subst h2
    rcases hat with hat | hat
    · exact h.ta _ h1 hat
    · have := (h.ownT.lt _ h1).2; omega
  · simp only [Value.ownBlock, Option.some.injEq] at h2
    subst h2
    rcases hat with hat | hat
    · exact h.sa _ h1 hat
    · have := (h.ownS.lt _ h1).2; omega

theorem TI.popO {og n cap : Nat} {x : Jt} (h : TI W B w st (M ++ [x]) tv sv (.slice (some ⟨og, 0, none⟩) n cap)) : TI W B w st M tv sv (.slice (some ⟨og, 0, none⟩) M.length cap) := by
  refine ⟨h.below, h.le, h.ownT, h.ownS, ?_, h.ts, h.ta, h.sa⟩
  have hO := h.ownO
  have hn : n = M.length + 1 := by
    rcases hO.2 with ⟨h', _⟩ | ⟨_, _, _, h', _⟩
    · cases h'
    · simp only [Value.slice.injEq] at h'; simpa using h'.2.1
  subst hn
  rw [flatO_append] at hO
  exact ownsRow_pop (flatO_length M) (by simpa using hO)

theorem TI.setTo {sg n cap : Nat} (h : TI W B w st M tv (.slice (some ⟨sg, 0, none⟩) n cap) ov) {k : Nat} (hk : k < st.S.length) :
    TI W B (w.setCell ⟨sg, k * 3 + 2, none⟩ (.int .i64 st.Y.length)) (st.shut k) M tv (.slice (some ⟨sg, 0, none⟩) n cap) ov := by
  have hn : n = st.S.length := by
    rcases h.ownS.2 with ⟨h', _⟩ | ⟨_, _, _, h', _⟩
    · cases h'
    · simp only [Value.slice.injEq] at h'; exact h'.2.1
  subst hn
  obtain ⟨hown, hg⟩ := h.ownS.stored (k * 3 + 2) (.int .i64 st.Y.length)
  have hgr := h.ownS.lt sg rfl
  obtain ⟨t, ht⟩ : ∃ t, st.S[k]? = some t := ⟨st.S[k], by simp [hk]⟩
  refine ⟨h.below.grown hg h.le (fun j hj => by cases hj; exact hgr.1), by simpa using h.le, h.ownT.kept hg ?_, ?_, h.ownO.kept hg ?_, h.ts, h.ta, h.sa⟩
  · exact not_row (b := .slice (some ⟨sg, 0, none⟩) st.S.length cap) h.ts
  · rw [flat_set _ ht] at hown
    simpa [St.shut, List.getD, ht] using hown
  · exact not_row (b := .slice (some ⟨sg, 0, none⟩) st.S.length cap) fun g a b => h.sa g b a
end

end Go.Proofs.Ytkkcmcckdaobmaa
