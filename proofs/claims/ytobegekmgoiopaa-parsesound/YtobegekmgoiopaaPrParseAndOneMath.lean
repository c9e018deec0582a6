import Derived.Test.YtobegekmgoiopaaLRRunAndPrFor
import Derived.Test.YtobegekmgoiopaaPrRedAndPrRun
/- The contract of the program's parse.Parse: what is wrong, or what the parser answers in plain words. -/
namespace Go.Proofs.Ytobegekmgoiopaa
open Go.RowKit

set_option maxRecDepth 100000 in
set_option maxHeartbeats 1600000 in
theorem pr_err {w : World} {T N x : Int} {rv tv : Value} {R : List Ru} {tok : List Int} (hr : RulesAt w w.heap.size rv R) (ht : ListAt w w.heap.size tv tok) (hx : x ≠ 0)
    (tf : Calls Try.prog 8 #[.agg #[.int .i64 T, .int .i64 N, rv], tv] (w.alloc (.cells #[.int .i64 T, .int .i64 N, rv] 24)) fun e w' => e = .returned (errT x) ∧ Below (w.alloc (.cells #[.int .i64 T, .int .i64 N, rv] 24)).heap.size (w.alloc (.cells #[.int .i64 T, .int .i64 N, rv] 24)) w') :
    Calls Try.prog 4 #[.agg #[.int .i64 T, .int .i64 N, rv], tv] w fun e w' => e = .returned (.tuple #[.slice none 0 0, .int .i64 0, .int .i64 x]) ∧ Below w.heap.size w w' := by
  obtain ⟨ra, rc, hrv⟩ := hr.1
  obtain ⟨ta, tc, htv⟩ := ht.1
  subst hrv
  subst htv
  have HB0 : Hid (Below w.heap.size w (w.alloc (.cells #[.int .i64 T, .int .i64 N, .slice ra R.length rc] 24))) := (Below.refl _ _).alloc (Nat.le_refl _) _
  have hxn : (x != 0) = true := by simpa using hx
  clear hr ht
  go_enter Try.func4, Try.ntmps4
  go_wp2_with
    (go_at_call 8; refine tf.mono ?_; rintro e w1 ⟨rfl, hB1⟩
     have HB1 : Hid (Below w.heap.size w (w1.alloc (.cells #[.slice none 0 0, .slice none 0 0] 41))) := (HB0.out.trans (hB1.mono (by simp))).alloc (by have := hB1.size; simp at this; omega) _
     clear hB1)
  refine bodyPost_ret (v := .tuple #[.slice none 0 0, .int .i64 0, .int .i64 x]) (by simp [results, Try.results4, go_sem]) rfl ⟨rfl, HB1.out⟩

set_option maxRecDepth 100000 in
set_option maxHeartbeats 3200000 in
theorem pr_runs {w : World} {T N K : Nat} {rv tv : Value} {R : List Ru} {tok : List Int} (hr : RulesAt w w.heap.size rv R) (ht : ListAt w w.heap.size tv tok) (hf : Fine T N R) (hN : 0 < N) (hW : Whole T N R K) (hcl : clashN (tabC T N R K) = 0) (hin : inB T tok = true) (h30 : tok.length ≤ 30)
    (tf : Calls Try.prog 8 #[.agg #[.int .i64 T, .int .i64 N, rv], tv] (w.alloc (.cells #[.int .i64 T, .int .i64 N, rv] 24)) fun e w' => Below (w.alloc (.cells #[.int .i64 T, .int .i64 N, rv] 24)).heap.size (w.alloc (.cells #[.int .i64 T, .int .i64 N, rv] 24)) w' ∧
      ∃ ca cc ga gc, e = .returned (.tuple #[.agg #[.slice ca K cc, .slice ga K gc], .int .i64 0]) ∧ TabAt w' (.slice ca K cc) (.slice ga K gc) (tabC T N R K) (tabG T N R K)) :
    Calls Try.prog 4 #[.agg #[.int .i64 T, .int .i64 N, rv], tv] w fun e w' => ∃ dv D a x, e = .returned (.tuple #[dv, .int .i64 a, .int .i64 x]) ∧ ListC w' dv D ∧ (D, a, x) = ansP (parseN T N R (allN T N R K).1 (allN T N R K).2 tok) ∧ Below w.heap.size w w' := by
  obtain ⟨ra, rc, hrv⟩ := hr.1
  obtain ⟨ta, tc, htv⟩ := ht.1
  subst hrv
  subst htv
  have HB0 : Hid (Below w.heap.size w (w.alloc (.cells #[.int .i64 T, .int .i64 N, .slice ra R.length rc] 24))) := (Below.refl _ _).alloc (Nat.le_refl _) _
  have HR : Hid (RulesAt w w.heap.size (.slice ra R.length rc) R) := hr
  have HT : Hid (ListAt w w.heap.size (.slice ta tok.length tc) tok) := ht
  have HTok : Hid (∀ t ∈ tok, 0 ≤ t ∧ t < (T : Int)) := by
    intro t ht
    unfold inB at hin
    have := List.all_eq_true.1 hin t ht
    simpa using this
  have HF : Hid (Fine T N R) := hf
  have HW : Hid (Whole T N R K ∧ clashN (tabC T N R K) = 0) := ⟨hW, hcl⟩
  clear hr ht hf hW hcl hin
  go_enter Try.func4, Try.ntmps4
  go_upto_region 4 with
    (go_at_call 8
     go_loud
       (refine tf.mono ?_
        rintro e w1 ⟨hB1, ca, cc, ga, gc, rfl, hTb⟩
        rw [World.size_alloc] at hB1
        have HB1 : Hid (Below (w.heap.size + 1) (w.alloc (.cells #[.int .i64 T, .int .i64 N, .slice ra R.length rc] 24)) w1) := hB1
        have HTb : Hid (TabAt w1 (.slice ca K cc) (.slice ga K gc) (tabC T N R K) (tabG T N R K)) := hTb
        clear hB1 hTb))
  have hs1 : w.heap.size + 1 ≤ w1.heap.size := by have := HB1.out.size; simpa using this
  obtain ⟨W2, hW2⟩ : ∃ W, w1.alloc (.cells #[.slice ca K cc, .slice ga K gc] 41) = W := ⟨_, rfl⟩
  have hB2 : Below w1.heap.size w1 W2 := by rw [← hW2]; exact (Below.refl _ _).alloc (Nat.le_refl _) _
  have hBw : Below w.heap.size w W2 := (HB0.out.trans (HB1.out.mono (by omega))).trans (hB2.mono (by omega))
  have b0 : W2.cell? ⟨w.heap.size, 0, none⟩ = some (.int .i64 T) := (hB2.cell (by simp only; omega)).trans ((HB1.out.cell (by simp)).trans (by simp [go_sem]))
  have b1 : W2.cell? ⟨w.heap.size, 1, none⟩ = some (.int .i64 N) := (hB2.cell (by simp only; omega)).trans ((HB1.out.cell (by simp)).trans (by simp [go_sem]))
  have b2 : W2.cell? ⟨w.heap.size, 2, none⟩ = some (.slice ra R.length rc) := (hB2.cell (by simp only; omega)).trans ((HB1.out.cell (by simp)).trans (by simp [go_sem]))
  have t0 : W2.cell? ⟨w1.heap.size, 0, none⟩ = some (.slice ca K cc) := by rw [← hW2]; simp [go_sem]
  have t1 : W2.cell? ⟨w1.heap.size, 1, none⟩ = some (.slice ga K gc) := by rw [← hW2]; simp [go_sem]
  rw [hW2]
  clear hW2
  have E : RnE W2 ⟨W2.heap.size + 1, T, N, .slice ra R.length rc, .slice ca K cc, .slice ga K gc, .slice ta tok.length tc⟩ R tok (tabC T N R K) (tabG T N R K) :=
    ⟨(HR.out.below hBw).mono hBw.size, (HT.out.below hBw).mono hBw.size, HTb.out.below hB2⟩
  have M0 : RnM W2 ⟨W2.heap.size + 1, T, N, .slice ra R.length rc, .slice ca K cc, .slice ga K gc, .slice ta tok.length tc⟩ (.slice (some ⟨W2.heap.size, 0, none⟩) 1 1) [noPl] 0 0
      ((W2.alloc (.cells #[.int .i64 0, .slice none 0 0] 46)).alloc (.cells #[.int .i64 T, .int .i64 N, .slice ra R.length rc, .slice ca K cc, .slice ga K gc, .slice ta tok.length tc, .int .i64 0, .int .i64 0, .slice (some ⟨W2.heap.size, 0, none⟩) 1 1] 49)) := by
    refine ⟨⟨fun i r hr => ?_, fun i j x y hij hx hy g h1 h2 => ?_⟩, fun x hx => ?_, ((Below.refl _ _).alloc (Nat.le_refl _) _).alloc (by simp) _⟩
    · cases i with
      | ru =>
        simp only [RnP, Option.some.injEq] at hr
        subst hr
        have := World.ownsRow_lit (base := W2.heap.size) (e := 49) (size := 9) (W2.alloc (.cells #[.int .i64 0, .slice none 0 0] 46)) #[.int .i64 T, .int .i64 N, .slice ra R.length rc, .slice ca K cc, .slice ga K gc, .slice ta tok.length tc, .int .i64 0, .int .i64 0, .slice (some ⟨W2.heap.size, 0, none⟩) 1 1] 1 (by simp) (by unfold maxLen; omega) rfl
        simp only [World.size_alloc] at this
        exact this
      | st =>
        simp only [RnP, Option.some.injEq] at hr
        subst hr
        have := World.ownsRow_lit (base := W2.heap.size) (e := 46) (size := 2) W2 #[.int .i64 0, .slice none 0 0] 1 (Nat.le_refl _) (by unfold maxLen; omega) rfl
        exact this.alloc _
    · cases i <;> cases j <;> simp only [RnP, Option.some.injEq] at hx hy <;> subst hx <;> subst hy
      · exact hij rfl
      · simp only [Value.ownBlock, Option.some.injEq] at h1 h2; omega
      · simp only [Value.ownBlock, Option.some.injEq] at h1 h2; omega
      · exact hij rfl
    · simp only [List.mem_singleton] at hx
      subst hx
      exact .inl ⟨rfl, rfl⟩
  have rr := rn_run M0 E HF.out HW.out.1 hN HW.out.2 HTok.out h30
  have HBw : Hid (Below w.heap.size w W2) := hBw
  clear E M0 hB2 hBw
  go_wp2_with
    (go_at_call 9; refine rr.mono ?_; rintro e w3 ⟨dv, D, a, x, rfl, hL, hA, hB⟩
     obtain ⟨da, dc, hdv⟩ := hL.1.1
     obtain ⟨dn, hdn⟩ : ∃ n, D.length = n := ⟨_, rfl⟩
     rw [hdn] at hdv
     subst hdv
     have HRes : Hid (ListC w3 (.slice da dn dc) D ∧ (D, a, x) = ansP (parseN T N R (allN T N R K).1 (allN T N R K).2 tok) ∧ Below W2.heap.size W2 w3) := ⟨hL, hA, hB⟩
     clear hL hA hB hdn rr)
  refine bodyPost_ret (v := .tuple #[.slice da dn dc, .int .i64 a, .int .i64 x]) (by simp [results, Try.results4, go_sem]) rfl ?_
  exact ⟨_, D, a, x, rfl, HRes.out.1, HRes.out.2.1, HBw.out.trans (HRes.out.2.2.mono HBw.out.size)⟩

theorem list_nil (w : World) : ListAt w w.heap.size (.slice none 0 0) [] := ⟨⟨_, _, rfl⟩, fun _ hp => absurd hp (Nat.not_lt_zero _)⟩

theorem parse_form {w : World} {T N : Int} {rv tv : Value} {R : List Ru} {tok : List Int} (hr : RulesAt w w.heap.size rv R) (ht : ListAt w w.heap.size tv tok) (hm : mayB T N R = false) :
    Calls Try.prog 4 #[.agg #[.int .i64 T, .int .i64 N, rv], tv] w fun e w' => e = .returned (.tuple #[.slice none 0 0, .int .i64 0, .int .i64 2]) ∧ Below w.heap.size w w' :=
  pr_err hr ht (by decide) (tf_form (hr.boxed _) (ht.boxed _) hm)

theorem parse_anyC {w : World} {T N : Nat} {rv tv : Value} {R : List Ru} {tok : List Int} (hr : RulesAt w w.heap.size rv R) (ht : ListAt w w.heap.size tv tok) (hm : mayB T N R = true) :
    Calls Try.prog 4 #[.agg #[.int .i64 T, .int .i64 N, rv], tv] w fun e w' => ∃ dv D a x, e = .returned (.tuple #[dv, .int .i64 a, .int .i64 x]) ∧ ListC w' dv D ∧ ParseIs T N R tok (D, a, x) ∧ Below w.heap.size w w' := by
  have hr1 := hr.boxed (.cells #[.int .i64 T, .int .i64 N, rv] 24)
  have ht1 := ht.boxed (.cells #[.int .i64 T, .int .i64 N, rv] 24)
  by_cases h30 : 30 < tok.length
  · refine (pr_err hr ht (by decide) (tf_long hr1 ht1 hm h30)).mono fun e w' ⟨h1, h2⟩ => ⟨_, [], 0, 1, h1, ⟨list_nil _, _, _, _, rfl, Nat.le_refl _⟩, ?_, h2⟩
    by_cases hmo : More T N R 150
    · exact .inl ⟨hmo, rfl⟩
    · obtain ⟨K, hW, hK⟩ := not_more (by omega) hmo
      have e : wrongE T N R tok = 1 := by simp [wrongE, hm, h30]
      exact .inr ⟨K, hW, hK, .inl ⟨by rw [e]; decide, by rw [e]⟩⟩
  · by_cases hmo : More T N R 150
    · exact (pr_err hr ht (by decide) (tf_more hr1 ht1 hm (by omega) hmo)).mono fun e w' ⟨h1, h2⟩ => ⟨_, [], 0, 1, h1, ⟨list_nil _, _, _, _, rfl, Nat.le_refl _⟩, .inl ⟨hmo, rfl⟩, h2⟩
    · obtain ⟨K, hW, hK⟩ := not_more (by omega) hmo
      have tf := tf_whole hr1 ht1 hm (by omega) hmo
      cases hin : inB T tok with
      | false =>
        have e_ne : wrongE T N R tok = 3 := by simp [wrongE, hm, h30, hin]
        refine (pr_err (x := 3) hr ht (by decide) (tf.mono fun e w' ⟨K', k1, k2, k3, k4⟩ => ?_)).mono fun e w' ⟨h1, h2⟩ => ⟨_, [], 0, 3, h1, ⟨list_nil _, _, _, _, rfl, Nat.le_refl _⟩, .inr ⟨K, hW, hK, .inl ⟨by rw [e_ne]; decide, by rw [e_ne]⟩⟩, h2⟩
        · rcases k4 with ⟨_, k5⟩ | ⟨k5, _⟩ | ⟨k5, _⟩
          · exact ⟨k5, k3⟩
          · rw [hin] at k5; cases k5
          · rw [hin] at k5; cases k5
      | true =>
        have e0 : wrongE T N R tok = 0 := by simp [wrongE, hm, h30, hin]
        by_cases hcl : clashN (tabC T N R K) = 0
        · obtain ⟨_, hN1, _, _, _⟩ := may_fine hm
          refine (pr_runs hr ht (may_FineR hm) hN1 hW hcl hin (by omega) (tf.mono fun e w' ⟨K', k1, k2, k3, k4⟩ => ?_)).mono fun e w' ⟨dv, D, a, x, h1, h2, h3, h4⟩ => ⟨dv, D, a, x, h1, h2, .inr ⟨K, hW, hK, .inr (.inr ⟨e0, hcl, h3⟩)⟩, h4⟩
          have := whole_one k1 hW
          subst this
          rcases k4 with ⟨k5, _⟩ | ⟨_, k5, _⟩ | ⟨_, _, k5⟩
          · rw [hin] at k5; cases k5
          · omega
          · exact ⟨k3, k5⟩
        · refine (pr_err (x := 4) hr ht (by decide) (tf.mono fun e w' ⟨K', k1, k2, k3, k4⟩ => ?_)).mono fun e w' ⟨h1, h2⟩ => ⟨_, [], 0, 4, h1, ⟨list_nil _, _, _, _, rfl, Nat.le_refl _⟩, .inr ⟨K, hW, hK, .inr (.inl ⟨e0, by omega, rfl⟩)⟩, h2⟩
          have := whole_one k1 hW
          subst this
          rcases k4 with ⟨k5, _⟩ | ⟨_, _, k5⟩ | ⟨_, k5, _⟩
          · rw [hin] at k5; cases k5
          · exact ⟨k5, k3⟩
          · exact absurd k5 hcl

theorem parse_any {w : World} {T N : Nat} {rv tv : Value} {R : List Ru} {tok : List Int} (hr : RulesAt w w.heap.size rv R) (ht : ListAt w w.heap.size tv tok) (hm : mayB T N R = true) :
    Calls Try.prog 4 #[.agg #[.int .i64 T, .int .i64 N, rv], tv] w fun e w' => ∃ dv D a x, e = .returned (.tuple #[dv, .int .i64 a, .int .i64 x]) ∧ ListAt w' w'.heap.size dv D ∧ ParseIs T N R tok (D, a, x) ∧ Below w.heap.size w w' :=
  (parse_anyC hr ht hm).mono fun _ _ ⟨dv, D, a, x, h1, h2, h3, h4⟩ => ⟨dv, D, a, x, h1, h2.1, h3, h4⟩

end Go.Proofs.Ytobegekmgoiopaa

/- Plain: the grammar of one rule, by which the name 0 becomes nothing: its states, and what its parse answers. No program. -/
namespace Go.Proofs.Ytobegekmgoiopaa

/-- The rules. -/
abbrev R1 : List Ru := [((0 : Int), ([] : List Sy))]

theorem r1_zero : rightF R1 0 = [] := rfl
theorem r1_one : rightF R1 1 = [(false, 0)] := rfl

def S0 : SetI := Cl R1 fun i => i = (R1.length, 0)
def S1 : SetI := gotoS 0 R1 S0 0

theorem s0_mem : ∀ i, S0 i → i = (1, 0) ∨ i = (0, 0) := by
  intro i hi
  unfold S0 at hi
  induction hi with
  | base h => exact .inl h
  | @step r d n m _ _ h2 _ _ =>
    simp only [List.length_singleton] at h2
    exact .inr (by rw [show n = 0 by omega])
theorem s0_has : S0 (1, 0) := .base rfl

theorem s1_mem : ∀ i, S1 i → i = (1, 1) := by
  intro i hi
  unfold S1 gotoS at hi
  induction hi with
  | base h =>
    obtain ⟨j, hj, ⟨s, hs, _⟩, rfl⟩ := h
    rcases s0_mem j hj with rfl | rfl
    · rfl
    · rw [r1_zero] at hs; simp at hs
  | step _ h1 _ _ ih =>
    cases ih
    rw [r1_one] at h1
    simp at h1

theorem next0 : ∃ i, S0 i ∧ nextIs 0 R1 i 0 := ⟨(1, 0), s0_has, (false, 0), rfl, rfl⟩
theorem next1 : ¬ ∃ i, S1 i ∧ nextIs 0 R1 i 0 := by
  rintro ⟨i, hi, s, hs, _⟩
  rw [s1_mem i hi, r1_one] at hs
  simp at hs

theorem one_allN : (allN 0 1 R1 2).2 = [S0, S1] := by
  have h0 : (allN 0 1 R1 0).2 = [S0] := rfl
  have v0 : visit 0 R1 [S0] 0 0 = (1, [S0, S1]) := by
    have := visit_new (T := 0) (R := R1) (L := [S0]) (k := 0) (x := 0) next0 (fun n hn e => by
      have hn0 : n = 0 := by simpa using hn
      subst hn0
      have e' : S0 = S1 := e
      have h1 := s0_has
      rw [e'] at h1
      have := s1_mem _ h1
      cases this)
    rw [this]
    rfl
  have h1 : (allN 0 1 R1 1).2 = [S0, S1] := by
    have e : allN 0 1 R1 1 = allS 0 1 R1 0 (allN 0 1 R1 0) := rfl
    rw [e, allS]
    show (rowN 0 R1 0 1 [S0]).2 = _
    have e2 : rowN 0 R1 0 1 [S0] = rowS 0 R1 0 0 (rowN 0 R1 0 0 [S0]) := rfl
    rw [e2, rowS]
    show (visit 0 R1 [S0] 0 0).2 = _
    rw [v0]
  have e : allN 0 1 R1 2 = allS 0 1 R1 1 (allN 0 1 R1 1) := rfl
  rw [e, allS]
  show (rowN 0 R1 1 1 (allN 0 1 R1 1).2).2 = _
  rw [h1]
  have e2 : rowN 0 R1 1 1 [S0, S1] = rowS 0 R1 1 0 (rowN 0 R1 1 0 [S0, S1]) := rfl
  rw [e2, rowS]
  show (visit 0 R1 [S0, S1] 1 0).2 = _
  rw [visit_none (T := 0) (R := R1) (L := [S0, S1]) (k := 1) (x := 0) next1]

theorem one_whole : Whole 0 1 R1 2 := by
  unfold Whole
  rw [one_allN]
  rfl

open Classical in
theorem one_noclash : clashN (tabC 0 1 R1 2) = 0 := by
  refine one_clash fun k hk t ht => ?_
  have hs : k = 0 ∨ k = 1 := by omega
  have ht0 : t = 0 := by omega
  subst ht0
  unfold oneB
  have e1 : (cellP 0 1 R1 (allN 0 1 R1 2).1 (allN 0 1 R1 2).2 k 0).1 = -1 := rfl
  have hl : (cellP 0 1 R1 (allN 0 1 R1 2).1 (allN 0 1 R1 2).2 k 0).2.1.length ≤ 1 := by
    unfold cellP
    simp only [List.length_map]
    exact Nat.le_trans (List.length_filter_le _ _) (by simp)
  rw [e1]
  rcases hs with rfl | rfl
  · have e2 : (cellP 0 1 R1 (allN 0 1 R1 2).1 (allN 0 1 R1 2).2 0 0).2.2 = false := by
      unfold cellP
      refine decide_eq_false fun h => ?_
      have h1 := h.1
      rw [one_allN] at h1
      rcases s0_mem _ h1 with h2 | h2 <;> cases h2
    rw [e2]
    generalize (cellP 0 1 R1 (allN 0 1 R1 2).1 (allN 0 1 R1 2).2 0 0).2.1.length = n at hl
    have : n = 0 ∨ n = 1 := by omega
    rcases this with rfl | rfl <;> rfl
  · have e2 : (cellP 0 1 R1 (allN 0 1 R1 2).1 (allN 0 1 R1 2).2 1 0).2.1 = [] := by
      unfold cellP
      simp only [List.map_eq_nil_iff, List.filter_eq_nil_iff, decide_eq_true_eq, List.mem_range]
      intro n hn h
      have h1 := h.1
      rw [one_allN] at h1
      have h2 := s1_mem _ h1
      have hn0 : n = 0 := by simpa using hn
      subst hn0
      cases h2
    rw [e2]
    simp

theorem one_derD : DerD R1 0 [0] [] := ⟨1, 0, by simp, rfl, [], rfl, rfl, rfl⟩

/-- Its parse of nothing is its one rule. -/
theorem one_parse : ParseIs 0 1 R1 [] ([0], -1, 0) := by
  have hm : mayB (0 : Nat) (1 : Nat) R1 = true := by decide
  refine .inr ⟨2, one_whole, by omega, .inr (.inr ⟨by decide, one_noclash, ?_⟩)⟩
  have := (parse_finds (lr_of (may_FineR hm) one_whole (by omega)) (by rw [show (allN 0 1 R1 2).2.length = 2 from one_whole]; exact clash_one one_noclash) (tok := []) (fun t ht => by cases ht) one_derD).1 (by simp)
  rw [this]
  rfl

end Go.Proofs.Ytobegekmgoiopaa
