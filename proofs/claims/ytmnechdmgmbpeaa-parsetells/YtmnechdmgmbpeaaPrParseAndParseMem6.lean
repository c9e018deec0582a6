import Derived.Test.YtmnechdmgmbpeaaLRRunAndPrFor
import Derived.Test.YtmnechdmgmbpeaaPrRedAndPrRun
import Derived.Test.YtmnechdmgmbpeaaTkLookAndRowI
import Derived.Deep.CutRange
/- The contract of the program's parse.Parse: what is wrong, or what the parser answers in plain words. -/
namespace Go.Proofs.Ytmnechdmgmbpeaa
open Go.RowKit

set_option maxRecDepth 100000 in
set_option maxHeartbeats 1600000 in
theorem pr_err {w : World} {T N x : Int} {rv tv : Value} {R : List Ru} {tok : List Int} (hr : RulesAt w w.heap.size rv R) (ht : ListAt w w.heap.size tv tok) (hx : x ≠ 0)
    (tf : Calls Try.prog 7 #[.agg #[.int .i64 T, .int .i64 N, rv], tv] (w.alloc (.cells #[.int .i64 T, .int .i64 N, rv] 24)) fun e w' => e = .returned (errT x) ∧ Below (w.alloc (.cells #[.int .i64 T, .int .i64 N, rv] 24)).heap.size (w.alloc (.cells #[.int .i64 T, .int .i64 N, rv] 24)) w') :
    Calls Try.prog 4 #[.agg #[.int .i64 T, .int .i64 N, rv], tv] w fun e w' => e = .returned (.tuple #[.slice none 0 0, .int .i64 0, .int .i64 x]) ∧ Below w.heap.size w w' := by
  obtain ⟨ra, rc, hrv⟩ := hr.1
  obtain ⟨ta, tc, htv⟩ := ht.1
  subst hrv
  subst htv
  have HB0 : Hid (Below w.heap.size w (w.alloc (.cells #[.int .i64 T, .int .i64 N, .slice ra R.length rc] 24))) := (Below.refl _ _).alloc (Nat.le_refl _) _
  have hxn : (x != 0) = true := by simpa using hx
  clear hr ht
  go_enter Try.func4, Try.ntmps4
  go_wp2_with
    (go_at_call 7; refine tf.mono ?_; rintro e w1 ⟨rfl, hB1⟩
     have HB1 : Hid (Below w.heap.size w (w1.alloc (.cells #[.slice none 0 0, .slice none 0 0] 34))) := (HB0.out.trans (hB1.mono (by simp))).alloc (by have := hB1.size; simp at this; omega) _
     clear hB1)
  refine bodyPost_ret (v := .tuple #[.slice none 0 0, .int .i64 0, .int .i64 x]) (by simp [results, Try.results4, go_sem]) rfl ⟨rfl, HB1.out⟩

set_option maxRecDepth 100000 in
set_option maxHeartbeats 3200000 in
theorem pr_runs {w : World} {T N K : Nat} {rv tv : Value} {R : List Ru} {tok : List Int} (hr : RulesAt w w.heap.size rv R) (ht : ListAt w w.heap.size tv tok) (hf : Fine T N R) (hN : 0 < N) (hW : Whole T N R K) (hcl : clashN (tabC T N R K) = 0) (hin : inB T tok = true) (h30 : tok.length ≤ 30)
    (tf : Calls Try.prog 7 #[.agg #[.int .i64 T, .int .i64 N, rv], tv] (w.alloc (.cells #[.int .i64 T, .int .i64 N, rv] 24)) fun e w' => Below (w.alloc (.cells #[.int .i64 T, .int .i64 N, rv] 24)).heap.size (w.alloc (.cells #[.int .i64 T, .int .i64 N, rv] 24)) w' ∧
      ∃ ca cc ga gc, e = .returned (.tuple #[.agg #[.slice ca K cc, .slice ga K gc], .int .i64 0]) ∧ TabAt w' (.slice ca K cc) (.slice ga K gc) (tabC T N R K) (tabG T N R K)) :
    Calls Try.prog 4 #[.agg #[.int .i64 T, .int .i64 N, rv], tv] w fun e w' => ∃ dv D a x, e = .returned (.tuple #[dv, .int .i64 a, .int .i64 x]) ∧ ListC w' dv D ∧ (D, a, x) = ansP (parseN T N R (allN T N R K).1 (allN T N R K).2 tok) ∧ Below w.heap.size w w' := by
  obtain ⟨ra, rc, hrv⟩ := hr.1
  obtain ⟨ta, tc, htv⟩ := ht.1
  subst hrv
  subst htv
  have HB0 : Hid (Below w.heap.size w (w.alloc (.cells #[.int .i64 T, .int .i64 N, .slice ra R.length rc] 24))) := (Below.refl _ _).alloc (Nat.le_refl _) _
  have HR : Hid (RulesAt w w.heap.size (.slice ra R.length rc) R) := hr
  have HT : Hid (ListAt w w.heap.size (.slice ta tok.length tc) tok) := ht
  have HTok : Hid (∀ t ∈ tok, 0 ≤ t ∧ t < (T : Int)) := by
    intro t ht
    unfold inB at hin
    have := List.all_eq_true.1 hin t ht
    simpa using this
  have HF : Hid (Fine T N R) := hf
  have HW : Hid (Whole T N R K ∧ clashN (tabC T N R K) = 0) := ⟨hW, hcl⟩
  clear hr ht hf hW hcl hin
  go_enter Try.func4, Try.ntmps4
  go_upto_region 4 with
    (go_at_call 7
     go_loud
       (refine tf.mono ?_
        rintro e w1 ⟨hB1, ca, cc, ga, gc, rfl, hTb⟩
        rw [World.size_alloc] at hB1
        have HB1 : Hid (Below (w.heap.size + 1) (w.alloc (.cells #[.int .i64 T, .int .i64 N, .slice ra R.length rc] 24)) w1) := hB1
        have HTb : Hid (TabAt w1 (.slice ca K cc) (.slice ga K gc) (tabC T N R K) (tabG T N R K)) := hTb
        clear hB1 hTb))
  have hs1 : w.heap.size + 1 ≤ w1.heap.size := by have := HB1.out.size; simpa using this
  obtain ⟨W2, hW2⟩ : ∃ W, w1.alloc (.cells #[.slice ca K cc, .slice ga K gc] 34) = W := ⟨_, rfl⟩
  have hB2 : Below w1.heap.size w1 W2 := by rw [← hW2]; exact (Below.refl _ _).alloc (Nat.le_refl _) _
  have hBw : Below w.heap.size w W2 := (HB0.out.trans (HB1.out.mono (by omega))).trans (hB2.mono (by omega))
  have b0 : W2.cell? ⟨w.heap.size, 0, none⟩ = some (.int .i64 T) := (hB2.cell (by simp only; omega)).trans ((HB1.out.cell (by simp)).trans (by simp [go_sem]))
  have b1 : W2.cell? ⟨w.heap.size, 1, none⟩ = some (.int .i64 N) := (hB2.cell (by simp only; omega)).trans ((HB1.out.cell (by simp)).trans (by simp [go_sem]))
  have b2 : W2.cell? ⟨w.heap.size, 2, none⟩ = some (.slice ra R.length rc) := (hB2.cell (by simp only; omega)).trans ((HB1.out.cell (by simp)).trans (by simp [go_sem]))
  have t0 : W2.cell? ⟨w1.heap.size, 0, none⟩ = some (.slice ca K cc) := by rw [← hW2]; simp [go_sem]
  have t1 : W2.cell? ⟨w1.heap.size, 1, none⟩ = some (.slice ga K gc) := by rw [← hW2]; simp [go_sem]
  rw [hW2]
  clear hW2
  have E : RnE W2 ⟨W2.heap.size + 1, T, N, .slice ra R.length rc, .slice ca K cc, .slice ga K gc, .slice ta tok.length tc⟩ R tok (tabC T N R K) (tabG T N R K) :=
    ⟨(HR.out.below hBw).mono hBw.size, (HT.out.below hBw).mono hBw.size, HTb.out.below hB2⟩
  have M0 : RnM W2 ⟨W2.heap.size + 1, T, N, .slice ra R.length rc, .slice ca K cc, .slice ga K gc, .slice ta tok.length tc⟩ (.slice (some ⟨W2.heap.size, 0, none⟩) 1 1) [noPl] 0 0
      ((W2.alloc (.cells #[.int .i64 0, .slice none 0 0] 39)).alloc (.cells #[.int .i64 T, .int .i64 N, .slice ra R.length rc, .slice ca K cc, .slice ga K gc, .slice ta tok.length tc, .int .i64 0, .int .i64 0, .slice (some ⟨W2.heap.size, 0, none⟩) 1 1] 42)) := by
    refine ⟨⟨fun i r hr => ?_, fun i j x y hij hx hy g h1 h2 => ?_⟩, fun x hx => ?_, ((Below.refl _ _).alloc (Nat.le_refl _) _).alloc (by simp) _⟩
    · cases i with
      | ru =>
        simp only [RnP, Option.some.injEq] at hr
        subst hr
        have := World.ownsRow_lit (base := W2.heap.size) (e := 42) (size := 9) (W2.alloc (.cells #[.int .i64 0, .slice none 0 0] 39)) #[.int .i64 T, .int .i64 N, .slice ra R.length rc, .slice ca K cc, .slice ga K gc, .slice ta tok.length tc, .int .i64 0, .int .i64 0, .slice (some ⟨W2.heap.size, 0, none⟩) 1 1] 1 (by simp) (by unfold maxLen; omega) rfl
        simp only [World.size_alloc] at this
        exact this
      | st =>
        simp only [RnP, Option.some.injEq] at hr
        subst hr
        have := World.ownsRow_lit (base := W2.heap.size) (e := 39) (size := 2) W2 #[.int .i64 0, .slice none 0 0] 1 (Nat.le_refl _) (by unfold maxLen; omega) rfl
        exact this.alloc _
    · cases i <;> cases j <;> simp only [RnP, Option.some.injEq] at hx hy <;> subst hx <;> subst hy
      · exact hij rfl
      · simp only [Value.ownBlock, Option.some.injEq] at h1 h2; omega
      · simp only [Value.ownBlock, Option.some.injEq] at h1 h2; omega
      · exact hij rfl
    · simp only [List.mem_singleton] at hx
      subst hx
      exact .inl ⟨rfl, rfl⟩
  have rr := rn_run M0 E HF.out HW.out.1 hN HW.out.2 HTok.out h30
  have HBw : Hid (Below w.heap.size w W2) := hBw
  clear E M0 hB2 hBw
  go_wp2_with
    (go_at_call 8; refine rr.mono ?_; rintro e w3 ⟨dv, D, a, x, rfl, hL, hA, hB⟩
     obtain ⟨da, dc, hdv⟩ := hL.1.1
     obtain ⟨dn, hdn⟩ : ∃ n, D.length = n := ⟨_, rfl⟩
     rw [hdn] at hdv
     subst hdv
     have HRes : Hid (ListC w3 (.slice da dn dc) D ∧ (D, a, x) = ansP (parseN T N R (allN T N R K).1 (allN T N R K).2 tok) ∧ Below W2.heap.size W2 w3) := ⟨hL, hA, hB⟩
     clear hL hA hB hdn rr)
  refine bodyPost_ret (v := .tuple #[.slice da dn dc, .int .i64 a, .int .i64 x]) (by simp [results, Try.results4, go_sem]) rfl ?_
  exact ⟨_, D, a, x, rfl, HRes.out.1, HRes.out.2.1, HBw.out.trans (HRes.out.2.2.mono HBw.out.size)⟩

theorem list_nil (w : World) : ListAt w w.heap.size (.slice none 0 0) [] := ⟨⟨_, _, rfl⟩, fun _ hp => absurd hp (Nat.not_lt_zero _)⟩

theorem parse_form {w : World} {T N : Int} {rv tv : Value} {R : List Ru} {tok : List Int} (hr : RulesAt w w.heap.size rv R) (ht : ListAt w w.heap.size tv tok) (hm : mayB T N R = false) :
    Calls Try.prog 4 #[.agg #[.int .i64 T, .int .i64 N, rv], tv] w fun e w' => e = .returned (.tuple #[.slice none 0 0, .int .i64 0, .int .i64 2]) ∧ Below w.heap.size w w' :=
  pr_err hr ht (by decide) (tf_form (hr.boxed _) (ht.boxed _) hm)

theorem parse_anyC {w : World} {T N : Nat} {rv tv : Value} {R : List Ru} {tok : List Int} (hr : RulesAt w w.heap.size rv R) (ht : ListAt w w.heap.size tv tok) (hm : mayB T N R = true) :
    Calls Try.prog 4 #[.agg #[.int .i64 T, .int .i64 N, rv], tv] w fun e w' => ∃ dv D a x, e = .returned (.tuple #[dv, .int .i64 a, .int .i64 x]) ∧ ListC w' dv D ∧ ParseIs T N R tok (D, a, x) ∧ Below w.heap.size w w' := by
  have hr1 := hr.boxed (.cells #[.int .i64 T, .int .i64 N, rv] 24)
  have ht1 := ht.boxed (.cells #[.int .i64 T, .int .i64 N, rv] 24)
  by_cases h30 : 30 < tok.length
  · refine (pr_err hr ht (by decide) (tf_long hr1 ht1 hm h30)).mono fun e w' ⟨h1, h2⟩ => ⟨_, [], 0, 1, h1, ⟨list_nil _, _, _, _, rfl, Nat.le_refl _⟩, ?_, h2⟩
    by_cases hmo : More T N R 150
    · exact .inl ⟨hmo, rfl⟩
    · obtain ⟨K, hW, hK⟩ := not_more (by omega) hmo
      have e : wrongE T N R tok = 1 := by simp [wrongE, hm, h30]
      exact .inr ⟨K, hW, hK, .inl ⟨by rw [e]; decide, by rw [e]⟩⟩
  · by_cases hmo : More T N R 150
    · exact (pr_err hr ht (by decide) (tf_more hr1 ht1 hm (by omega) hmo)).mono fun e w' ⟨h1, h2⟩ => ⟨_, [], 0, 1, h1, ⟨list_nil _, _, _, _, rfl, Nat.le_refl _⟩, .inl ⟨hmo, rfl⟩, h2⟩
    · obtain ⟨K, hW, hK⟩ := not_more (by omega) hmo
      have tf := tf_whole hr1 ht1 hm (by omega) hmo
      cases hin : inB T tok with
      | false =>
        have e_ne : wrongE T N R tok = 3 := by simp [wrongE, hm, h30, hin]
        refine (pr_err (x := 3) hr ht (by decide) (tf.mono fun e w' ⟨K', k1, k2, k3, k4⟩ => ?_)).mono fun e w' ⟨h1, h2⟩ => ⟨_, [], 0, 3, h1, ⟨list_nil _, _, _, _, rfl, Nat.le_refl _⟩, .inr ⟨K, hW, hK, .inl ⟨by rw [e_ne]; decide, by rw [e_ne]⟩⟩, h2⟩
        · rcases k4 with ⟨_, k5⟩ | ⟨k5, _⟩ | ⟨k5, _⟩
          · exact ⟨k5, k3⟩
          · rw [hin] at k5; cases k5
          · rw [hin] at k5; cases k5
      | true =>
        have e0 : wrongE T N R tok = 0 := by simp [wrongE, hm, h30, hin]
        by_cases hcl : clashN (tabC T N R K) = 0
        · obtain ⟨_, hN1, _, _, _⟩ := may_fine hm
          refine (pr_runs hr ht (may_FineR hm) hN1 hW hcl hin (by omega) (tf.mono fun e w' ⟨K', k1, k2, k3, k4⟩ => ?_)).mono fun e w' ⟨dv, D, a, x, h1, h2, h3, h4⟩ => ⟨dv, D, a, x, h1, h2, .inr ⟨K, hW, hK, .inr (.inr ⟨e0, hcl, h3⟩)⟩, h4⟩
          have := whole_one k1 hW
          subst this
          rcases k4 with ⟨k5, _⟩ | ⟨_, k5, _⟩ | ⟨_, _, k5⟩
          · rw [hin] at k5; cases k5
          · omega
          · exact ⟨k3, k5⟩
        · refine (pr_err (x := 4) hr ht (by decide) (tf.mono fun e w' ⟨K', k1, k2, k3, k4⟩ => ?_)).mono fun e w' ⟨h1, h2⟩ => ⟨_, [], 0, 4, h1, ⟨list_nil _, _, _, _, rfl, Nat.le_refl _⟩, .inr ⟨K, hW, hK, .inr (.inl ⟨e0, by omega, rfl⟩)⟩, h2⟩
          have := whole_one k1 hW
          subst this
          rcases k4 with ⟨k5, _⟩ | ⟨_, _, k5⟩ | ⟨_, k5, _⟩
          · rw [hin] at k5; cases k5
          · exact ⟨k5, k3⟩
          · exact absurd k5 hcl

theorem parse_any {w : World} {T N : Nat} {rv tv : Value} {R : List Ru} {tok : List Int} (hr : RulesAt w w.heap.size rv R) (ht : ListAt w w.heap.size tv tok) (hm : mayB T N R = true) :
    Calls Try.prog 4 #[.agg #[.int .i64 T, .int .i64 N, rv], tv] w fun e w' => ∃ dv D a x, e = .returned (.tuple #[dv, .int .i64 a, .int .i64 x]) ∧ ListAt w' w'.heap.size dv D ∧ ParseIs T N R tok (D, a, x) ∧ Below w.heap.size w w' :=
  (parse_anyC hr ht hm).mono fun _ _ ⟨dv, D, a, x, h1, h2, h3, h4⟩ => ⟨dv, D, a, x, h1, h2.1, h3, h4⟩

end Go.Proofs.Ytmnechdmgmbpeaa

/- Trees in memory, by what they are as lists; the contract of pollardingref6.flat. -/
namespace Go.Proofs.Ytmnechdmgmbpeaa
open Go.RowKit

/-- What a tree with the rule r and the kids kv is, as a list; A: in these blocks all of it lies. -/
def FlatAt (w : World) (A : Nat → Prop) : Nat → Int → Value → List Int → Prop
  | 0, _, _, _ => False
  | k + 1, r, kv, f => ∃ (L : List (Int × Value × List Int)) (a : Option Addr) (c : Nat), kv = .slice a L.length c ∧ L.length ≤ 1000 ∧ f = r :: (L.map fun x => x.2.2).flatten ∧
      ∀ i, i < L.length → ∃ b o, a = some ⟨b, o, none⟩ ∧ A b ∧ w.cell? ⟨b, o + i * 2, none⟩ = some (.int .i64 (L.getD i (0, .slice none 0 0, [])).1) ∧ w.cell? ⟨b, o + (i * 2 + 1), none⟩ = some (L.getD i (0, .slice none 0 0, [])).2.1 ∧
        (((L.getD i (0, .slice none 0 0, [])).1 < 0 ∧ (L.getD i (0, .slice none 0 0, [])).2.2 = [] ∧ ∃ a' n' c', (L.getD i (0, .slice none 0 0, [])).2.1 = .slice a' n' c') ∨ (0 ≤ (L.getD i (0, .slice none 0 0, [])).1 ∧ FlatAt w A k (L.getD i (0, .slice none 0 0, [])).1 (L.getD i (0, .slice none 0 0, [])).2.1 (L.getD i (0, .slice none 0 0, [])).2.2))

/-- The blocks are as they were, and others may be among them. -/
theorem FlatAt.kept {w w' : World} {A A' : Nat → Prop} (hb : ∀ b, A b → w'.heap[b]? = w.heap[b]?) (hA : ∀ b, A b → A' b) : ∀ (k : Nat) {r : Int} {kv : Value} {f : List Int}, FlatAt w A k r kv f → FlatAt w' A' k r kv f := by
  intro k
  induction k with
  | zero => intro r kv f h; exact h
  | succ k ih =>
    rintro r kv f ⟨L, a, c, h1, h0, h2, h3⟩
    refine ⟨L, a, c, h1, h0, h2, fun i hi => ?_⟩
    obtain ⟨b, o, e1, e2, e3, e4, e5⟩ := h3 i hi
    refine ⟨b, o, e1, hA b e2, (World.cell?_of_block (a := ⟨b, o + i * 2, none⟩) (hb b e2)).trans e3, (World.cell?_of_block (a := ⟨b, o + (i * 2 + 1), none⟩) (hb b e2)).trans e4, ?_⟩
    rcases e5 with e5 | ⟨e5, e6⟩
    · exact .inl e5
    · exact .inr ⟨e5, ih e6⟩
theorem FlatAt.up {w : World} {A : Nat → Prop} : ∀ (k : Nat) {r : Int} {kv : Value} {f : List Int}, FlatAt w A k r kv f → FlatAt w A (k + 1) r kv f := by
  intro k
  induction k with
  | zero => intro r kv f h; exact h.elim
  | succ k ih =>
    rintro r kv f ⟨L, a, c, h1, h0, h2, h3⟩
    refine ⟨L, a, c, h1, h0, h2, fun i hi => ?_⟩
    obtain ⟨b, o, e1, e2, e3, e4, e5⟩ := h3 i hi
    refine ⟨b, o, e1, e2, e3, e4, ?_⟩
    rcases e5 with e5 | ⟨e5, e6⟩
    · exact .inl e5
    · exact .inr ⟨e5, ih e6⟩
theorem FlatAt.pos {w : World} {A : Nat → Prop} : ∀ {k : Nat} {r : Int} {kv : Value} {f : List Int}, FlatAt w A k r kv f → 0 < f.length
  | 0, _, _, _, h => h.elim
  | _ + 1, _, _, _, ⟨_, _, _, _, _, h2, _⟩ => by rw [h2]; simp
theorem FlatAt.slice {w : World} {A : Nat → Prop} : ∀ {k : Nat} {r : Int} {kv : Value} {f : List Int}, FlatAt w A k r kv f → ∃ a n c, kv = .slice a n c
  | 0, _, _, _, h => h.elim
  | _ + 1, _, _, _, ⟨_, a, c, h1, _⟩ => ⟨a, _, c, h1⟩

theorem flat_take {L : List (Int × Value × List Int)} {i : Nat} (hi : i < L.length) {f : List Int} (hf : (L.getD i (0, .slice none 0 0, [])).2.2 = f) : ((L.take (i + 1)).map fun x => x.2.2).flatten = ((L.take i).map fun x => x.2.2).flatten ++ f := by
  have e : L[i].2.2 = f := by rw [← hf]; simp [List.getD, hi]
  rw [List.take_succ_eq_append_getElem hi, List.map_append, List.flatten_append]
  simp [e]
theorem flat_take_le (L : List (Int × Value × List Int)) (i : Nat) : ((L.take i).map fun x => x.2.2).flatten.length ≤ (L.map fun x => x.2.2).flatten.length := by
  conv => rhs; rw [← List.take_append_drop i L, List.map_append, List.flatten_append, List.length_append]
  omega

set_option maxRecDepth 100000 in
set_option maxHeartbeats 3200000 in
theorem flat6_any : ∀ (k : Nat) {w : World} {A : Nat → Prop} {r : Int} {kv : Value} {f : List Int}, FlatAt w A k r kv f → (∀ b, A b → b < w.heap.size) → f.length ≤ 1000000 →
    Calls Try.prog 12 #[.agg #[.int .i64 r, kv]] w fun e w' => ∃ g cap, e = .returned (.slice (some ⟨g, 0, none⟩) f.length cap) ∧ Below w.heap.size w w' ∧ w'.ownsRow w.heap.size 3 1 (.slice (some ⟨g, 0, none⟩) f.length cap) f.length (f.map (Value.int .i64)) := by
  intro k
  induction k with
  | zero => intro w A r kv f h; exact h.elim
  | succ k ih =>
    rintro w A r kv f ⟨L, ka, kc, rfl, hL1, hf, h3⟩ hA hl
    have H3 : Hid (∀ i, i < L.length → ∃ b o, ka = some ⟨b, o, none⟩ ∧ A b ∧ w.cell? ⟨b, o + i * 2, none⟩ = some (.int .i64 (L.getD i (0, .slice none 0 0, [])).1) ∧ w.cell? ⟨b, o + (i * 2 + 1), none⟩ = some (L.getD i (0, .slice none 0 0, [])).2.1 ∧
        (((L.getD i (0, .slice none 0 0, [])).1 < 0 ∧ (L.getD i (0, .slice none 0 0, [])).2.2 = [] ∧ ∃ a' n' c', (L.getD i (0, .slice none 0 0, [])).2.1 = .slice a' n' c') ∨ (0 ≤ (L.getD i (0, .slice none 0 0, [])).1 ∧ FlatAt w A k (L.getD i (0, .slice none 0 0, [])).1 (L.getD i (0, .slice none 0 0, [])).2.1 (L.getD i (0, .slice none 0 0, [])).2.2))) := h3
    have HFl : Hid (f = r :: (L.map fun x => x.2.2).flatten) := hf
    have hLl : (L.map fun x => x.2.2).flatten.length + 1 = f.length := by rw [hf]; simp
    obtain ⟨ll, hll⟩ : ∃ ll, L.length = ll := ⟨_, rfl⟩
    have HLL : Hid (L.length = ll) := hll
    have own0 := World.ownsRow_lit (base := w.heap.size + 1) (e := 3) (size := 1) (w.alloc (.cells #[.int .i64 r, .slice ka ll kc] 54)) #[.int .i64 r] 1 (by simp) (by unfold maxLen; omega) rfl
    simp only [World.size_alloc] at own0
    have HO : Hid (World.ownsRow ((w.alloc (.cells #[.int .i64 r, .slice ka ll kc] 54)).alloc (.cells #[.int .i64 r] 3)) (w.heap.size + 1) 3 1 (.slice (some ⟨w.heap.size + 1, 0, none⟩) 1 1) 1 [.int .i64 r]) := own0
    have HB0 : Hid (Below (w.heap.size + 1) (w.alloc (.cells #[.int .i64 r, .slice ka ll kc] 54)) ((w.alloc (.cells #[.int .i64 r, .slice ka ll kc] 54)).alloc (.cells #[.int .i64 r] 3))) := (Below.refl _ _).alloc (by simp) _
    have HBX : Hid (∀ wr, Below (w.heap.size + 1) (w.alloc (.cells #[.int .i64 r, .slice ka ll kc] 54)) wr → Below w.heap.size w wr ∧ wr.cell? ⟨w.heap.size, 1, none⟩ = some (.slice ka ll kc) ∧ w.heap.size + 1 ≤ wr.heap.size) := fun wr hq =>
      ⟨((Below.refl _ _).alloc (Nat.le_refl _) _).trans (hq.mono (by omega)), (hq.cell (by simp)).trans (by simp [go_sem]), by have := hq.size; simpa using this⟩
    obtain ⟨i0, hi0, hz0, hz1, hz2⟩ := info_parts Try.infoInt
    rw [hll] at hL1
    clear hf h3 own0
    rw [hll]
    clear hll
    go_enter Try.func12, Try.ntmps12
    go_wp2_with fail
    go_loopw [3, 4] (fun s3 s4 wr => ∃ (i g cap : Nat), s3 = .slice (some ⟨g, 0, none⟩) (((L.take i).map fun x => x.2.2).flatten.length + 1) cap ∧ s4 = .int .i64 i ∧ i ≤ ll ∧ Below (w.heap.size + 1) (w.alloc (.cells #[.int .i64 r, .slice ka ll kc] 54)) wr ∧
        wr.ownsRow (w.heap.size + 1) 3 1 (.slice (some ⟨g, 0, none⟩) (((L.take i).map fun x => x.2.2).flatten.length + 1) cap) (((L.take i).map fun x => x.2.2).flatten.length + 1) ((r :: ((L.take i).map fun x => x.2.2).flatten).map (Value.int .i64))) (fun _ s _ => ll - (intOf s).toNat)
    case atStart => exact ⟨0, w.heap.size + 1, 1, by simp, rfl, Nat.zero_le _, HB0.out, by simpa using HO.out⟩
    case round =>
      clear HO HB0
      obtain ⟨i, g, cap, rfl, rfl, hi, hB, hown⟩ := hrel
      have HB : Hid (Below (w.heap.size + 1) (w.alloc (.cells #[.int .i64 r, .slice ka ll kc] 54)) wr) := hB
      obtain ⟨hBw, c1, hsz⟩ := HBX.out wr hB
      have hle := flat_take_le L i
      by_cases hlt : i < ll
      · have hiL : i < L.length := by rw [HLL.out]; exact hlt
        obtain ⟨b, o, rfl, hAb, k1, k2, k3⟩ := H3.out i hiL
        have hb := hA b hAb
        obtain ⟨⟨r', kv', f'⟩, hx⟩ : ∃ x, L.getD i (0, .slice none 0 0, []) = x := ⟨_, rfl⟩
        rw [hx] at k1 k2 k3
        simp only at k1 k2 k3
        have HT : Hid (((L.take (i + 1)).map fun x => x.2.2).flatten = ((L.take i).map fun x => x.2.2).flatten ++ f') := flat_take hiL (by rw [hx])
        have q1 := (hBw.cell (p := ⟨b, o + i * 2, none⟩) hb).trans k1
        have q2 : wr.cell? ⟨b, o + i * 2 + 1, none⟩ = some kv' := by rw [Nat.add_assoc]; exact (hBw.cell (p := ⟨b, o + (i * 2 + 1), none⟩) hb).trans k2
        have i0' : (0 : Int) ≤ (i : Int) := Int.natCast_nonneg _
        have i1' : (i : Int) < (ll : Int) := by omega
        obtain ⟨P, hP⟩ : ∃ P, ((L.take i).map fun x => x.2.2).flatten = P := ⟨_, rfl⟩
        rw [hP] at hown hle HT ⊢
        have hle2 := flat_take_le L (i + 1)
        rw [HT.out, List.length_append] at hle2
        have HO : Hid (wr.ownsRow (w.heap.size + 1) 3 1 (.slice (some ⟨g, 0, none⟩) (P.length + 1) cap) (P.length + 1) ((r :: P).map (Value.int .i64))) := hown
        clear hB hP hx k1 k2
        rcases k3 with ⟨hr', rfl, a', n', c', rfl⟩ | ⟨hr', hfl⟩
        · have hr2 : decide (0 ≤ r') = false := decide_eq_false (by omega)
          clear hown
          go_wp2_with fail
          go_roundw
          case rel => exact ⟨i + 1, g, cap, by rw [HT.out]; simp, by go_num, by omega, HB.out, by rw [HT.out]; simpa using HO.out⟩
          case measure => simp [intOf]; omega
        · have call := ih (hfl.kept (A' := A) (fun b hb => hBw.block b (hA b hb)) (fun _ h => h)) (fun b hb => Nat.lt_of_lt_of_le (hA b hb) hBw.size) (by omega)
          have hpos := hfl.pos
          have hkv := hfl.slice
          obtain ⟨a', n', c', rfl⟩ := hkv
          have n1 : P.length + 1 + f'.length ≤ maxLen := by unfold maxLen; omega
          have n2 : (P.length + 1 + f'.length) * 8 ≤ 140737488355328 := by omega
          clear hfl hown
          go_wp2_with
            (first
             | (go_at_call 12; refine call.mono ?_; rintro e w1 ⟨g2, cap2, rfl, hB1, hown1⟩
                have ownD : w1.ownsRow (w.heap.size + 1) 3 1 (.slice (some ⟨g, 0, none⟩) (P.length + 1) cap) (P.length + 1) ((r :: P).map (Value.int .i64)) := own_below HO.out hB1 fun k hk => (HO.out.lt k hk).2
                have hnews : ∀ j u, (f'.map (Value.int .i64))[j]? = some u → w1.cell? ((⟨g2, 0, none⟩ : Addr).add j) = some u := hown1.cells (g := g2) rfl
                have HB1 : Hid (Below wr.heap.size wr w1) := hB1
                have hs1 : w.heap.size + 1 ≤ w1.heap.size := Nat.le_trans hsz hB1.size
                clear hB1 hown1 call c1 q1 q2)
             | (at_builtin
                refine wpList_append_lies _ rfl _ _ _ rfl (w.heap.size + 1) 3 i0 _ 1 8 Try.underlying25 hi0 hz0 hz1 hz2 rfl (by omega) (.slice (some ⟨g, 0, none⟩) (P.length + 1) cap) (P.length + 1) ((r :: P).map (Value.int .i64)) rfl ownD
                  ⟨g2, 0, none⟩ f'.length cap2 (f'.map (Value.int .i64)) rfl (by simp) hnews (by intro u hu; obtain ⟨x, _, rfl⟩ := List.mem_map.1 hu; rfl) hpos n1 n2 hs1 w1.heap.size rfl ?_
                intro g3 cap3 w3 hown3 hgrow3 hat3 hlt3))
          go_roundw
          case rel =>
            refine ⟨i + 1, g3, cap3, by rw [HT.out, List.length_append, Nat.add_right_comm], by go_num, by omega, ?_, ?_⟩
            · exact (HB.out.trans (HB1.out.mono hsz)).grown hgrow3 hs1 (fun k hk => by have := (ownD.lt k hk).1; omega)
            · rw [HT.out, List.length_append, Nat.add_right_comm]
              simpa using hown3
          case measure => simp [intOf]; omega
      · obtain rfl : i = ll := by omega
        have HE : Hid (((L.take i).map fun x => x.2.2).flatten = (L.map fun x => x.2.2).flatten) := by
          show ((L.take i).map fun x => x.2.2).flatten = _
          rw [List.take_of_length_le (by rw [HLL.out]; exact Nat.le_refl _)]
        have HW : Hid (Below w.heap.size w wr) := hBw
        have HO : Hid (wr.ownsRow (w.heap.size + 1) 3 1 (.slice (some ⟨g, 0, none⟩) f.length cap) f.length (f.map (Value.int .i64))) := by
          rw [HE.out, hLl, ← HFl.out] at hown
          exact hown
        obtain ⟨m, hm⟩ : ∃ m, ((L.take i).map fun x => x.2.2).flatten.length + 1 = m := ⟨_, rfl⟩
        have HMf : Hid (m = f.length) := by show m = f.length; rw [← hm, HE.out]; exact hLl
        rw [hm]
        clear hm hown hB
        go_wp2_with fail
        go_ret
        exact ⟨g, cap, by rw [HMf.out]; rfl, HW.out, own_mono HO.out (by omega)⟩

end Go.Proofs.Ytmnechdmgmbpeaa

/- How the stacks of pollardingref6.Parse lie in memory. No walk. -/
namespace Go.Proofs.Ytmnechdmgmbpeaa
open Go.RowKit

/-- A tree: its rule, its kids, what it is as a list. -/
abbrev Tn := Int × Value × List Int
def flatTn (TL : List Tn) : List Value := TL.flatMap fun x => [.int .i64 x.1, x.2.1]
def TrOk (w : World) (A : Nat → Prop) (k : Nat) (x : Tn) : Prop := (x.1 < 0 ∧ x.2.2 = [] ∧ ∃ a n c, x.2.1 = .slice a n c) ∨ (0 ≤ x.1 ∧ FlatAt w A k x.1 x.2.1 x.2.2)
def notRows (w : World) (sv tv : Value) (b : Nat) : Prop := b < w.heap.size ∧ sv.ownBlock ≠ some b ∧ tv.ownBlock ≠ some b

theorem Try.infoTree : (Try.prog.info? 54).map (fun i => (i.zero, i.size, i.bytes)) = some (some (.agg #[.int .i64 0, .slice none 0 0]), 2, 32) := by kernel_rfl

section
variable {w w' : World} {B : Nat} {sv tv sv' tv' : Value} {S S' : List Nat} {TL TL' : List Tn} {k : Nat}

theorem flatTn_len (TL : List Tn) : (flatTn TL).length = TL.length * 2 := by
  unfold flatTn
  induction TL with
  | nil => rfl
  | cons a L ih => rw [List.flatMap_cons, List.length_append, ih]; simp; omega
theorem flatTn_get {i j : Nat} (hi : i < TL.length) (hj : j < 2) : (flatTn TL)[i * 2 + j]? = [Value.int .i64 (TL.getD i (0, .slice none 0 0, [])).1, (TL.getD i (0, .slice none 0 0, [])).2.1][j]? := by
  unfold flatTn
  induction TL generalizing i with
  | nil => simp at hi
  | cons a L ih =>
    rw [List.flatMap_cons]
    cases i with
    | zero => rw [List.getElem?_append_left (by simp; omega)]; simp
    | succ i =>
      rw [List.getElem?_append_right (by simp; omega)]
      simp only [List.length_cons, List.length_nil]
      rw [show (i + 1) * 2 + j - (0 + 1 + 1) = i * 2 + j by omega]
      have := ih (i := i) (by simpa using hi)
      simpa [List.getD] using this
theorem flatTn_one (h : ∀ x ∈ TL, ∃ a n c, x.2.1 = .slice a n c) : ∀ u ∈ flatTn TL, u.oneCell' = true := by
  intro u hu
  unfold flatTn at hu
  obtain ⟨x, hx, hu⟩ := List.mem_flatMap.1 hu
  obtain ⟨a, n, c, e⟩ := h x hx
  simp only [List.mem_cons, List.not_mem_nil, or_false] at hu
  rcases hu with rfl | rfl
  · rfl
  · rw [e]; rfl
theorem flatTn_append (A C : List Tn) : flatTn (A ++ C) = flatTn A ++ flatTn C := by simp [flatTn]
theorem flatTn_drop (n : Nat) : flatTn (TL.drop n) = (flatTn TL).drop (n * 2) := by
  have e : flatTn TL = flatTn (TL.take n) ++ flatTn (TL.drop n) := by rw [← flatTn_append, List.take_append_drop]
  by_cases h : n ≤ TL.length
  · have hl : (flatTn (TL.take n)).length = n * 2 := by rw [flatTn_len, List.length_take, Nat.min_eq_left h]
    rw [e, ← hl, List.drop_left]
  · rw [List.drop_eq_nil_of_le (by omega), List.drop_eq_nil_of_le (by rw [flatTn_len]; omega)]
    rfl
theorem flatTn_take {n : Nat} (h : n ≤ TL.length) : flatTn (TL.take n) = (flatTn TL).take (n * 2) := by
  have e : flatTn TL = flatTn (TL.take n) ++ flatTn (TL.drop n) := by rw [← flatTn_append, List.take_append_drop]
  have hl : (flatTn (TL.take n)).length = n * 2 := by rw [flatTn_len, List.length_take, Nat.min_eq_left h]
  rw [e, ← hl, List.take_left]

theorem TrOk.kept {A A' : Nat → Prop} (hb : ∀ b, A b → w'.heap[b]? = w.heap[b]?) (hA : ∀ b, A b → A' b) {x : Tn} (h : TrOk w A k x) : TrOk w' A' k x := by
  rcases h with h | ⟨h1, h2⟩
  · exact .inl h
  · exact .inr ⟨h1, h2.kept hb hA⟩
theorem TrOk.up {A : Nat → Prop} {x : Tn} (h : TrOk w A k x) : TrOk w A (k + 1) x := by
  rcases h with h | ⟨h1, h2⟩
  · exact .inl h
  · exact .inr ⟨h1, h2.up⟩
theorem TrOk.slice {A : Nat → Prop} {x : Tn} (h : TrOk w A k x) : ∃ a n c, x.2.1 = .slice a n c := by
  rcases h with ⟨_, _, h⟩ | ⟨_, h⟩
  · exact h
  · exact h.slice

/-- The stacks: states, trees. -/
structure PM (B : Nat) (sv tv : Value) (S : List Nat) (TL : List Tn) (k : Nat) (w : World) : Prop where
  ownS : w.ownsRow B 3 1 sv S.length (S.map fun n : Nat => Value.int .i64 n)
  ownT : w.ownsRow B 54 2 tv TL.length (flatTn TL)
  apart : ∀ g, sv.ownBlock = some g → tv.ownBlock = some g → False
  trees : ∀ x ∈ TL, TrOk w (notRows w sv tv) k x
  size : B ≤ w.heap.size

theorem PM.below (h : PM B sv tv S TL k w) (hb : Below w.heap.size w w') : PM B sv tv S TL k w' :=
  ⟨own_below h.ownS hb fun g hg => (h.ownS.lt g hg).2, own_below h.ownT hb fun g hg => (h.ownT.lt g hg).2, h.apart, fun x hx => (h.trees x hx).kept (fun b hb' => hb.block b hb'.1) (fun _ hb' => ⟨Nat.lt_of_lt_of_le hb'.1 hb.size, hb'.2⟩), Nat.le_trans h.size hb.size⟩
theorem PM.alloc (h : PM B sv tv S TL k w) (o : Obj) : PM B sv tv S TL k (w.alloc o) := h.below ((Below.refl _ _).alloc (Nat.le_refl _) o)
theorem PM.drew (h : PM B sv tv S TL k w) : PM B sv tv S TL k w.drew := h.below ((Below.refl _ _).drew)

theorem PM.turnS (h : PM B sv tv S TL k w) (hg : w.grownBy w' sv.ownBlock) (ho : w'.ownsRow B 3 1 sv' S'.length (S'.map fun n : Nat => Value.int .i64 n)) (hat : ∀ g, sv'.ownBlock = some g → sv.ownBlock = some g ∨ g = w.heap.size) : PM B sv' tv S' TL k w' := by
  refine ⟨ho, h.ownT.kept hg ?_, fun g h1 h2 => ?_, fun x hx => (h.trees x hx).kept (fun b hb => hg.block b hb.1 fun e => hb.2.1 e.symm) (fun b hb => ⟨Nat.lt_of_lt_of_le hb.1 hg.size, fun e => ?_, hb.2.2⟩), Nat.le_trans h.size hg.size⟩
  · cases e : tv.ownBlock with
    | none => exact .inl rfl
    | some g => exact .inr fun e' => h.apart g e'.symm e
  · rcases hat g h1 with e | e
    · exact h.apart g e h2
    · have := (h.ownT.lt g h2).2; omega
  · rcases hat b e with e' | e'
    · exact hb.2.1 e'
    · have := hb.1; omega

theorem PM.turnT (h : PM B sv tv S TL k w) (hg : w.grownBy w' tv.ownBlock) (ho : w'.ownsRow B 54 2 tv' TL'.length (flatTn TL')) (hat : ∀ g, tv'.ownBlock = some g → tv.ownBlock = some g ∨ g = w.heap.size) (htr : ∀ x ∈ TL', x ∈ TL ∨ (x.1 < 0 ∧ x.2.2 = [] ∧ ∃ a n c, x.2.1 = .slice a n c)) : PM B sv tv' S TL' k w' := by
  refine ⟨h.ownS.kept hg ?_, ho, fun g h1 h2 => ?_, fun x hx => ?_, Nat.le_trans h.size hg.size⟩
  · cases e : sv.ownBlock with
    | none => exact .inl rfl
    | some g => exact .inr fun e' => h.apart g e e'.symm
  · rcases hat g h2 with e | e
    · exact h.apart g h1 e
    · have := (h.ownS.lt g h1).2; omega
  · rcases htr x hx with hx' | hx'
    · refine (h.trees x hx').kept (fun b hb => hg.block b hb.1 fun e => hb.2.2 e.symm) (fun b hb => ⟨Nat.lt_of_lt_of_le hb.1 hg.size, hb.2.1, fun e => ?_⟩)
      rcases hat b e with e' | e'
      · exact hb.2.2 e'
      · have := hb.1; omega
    · exact .inl hx'

/-- Trees in a row that is new. -/
theorem PM.freshT (h : PM B sv tv S TL k w) (hb : Below w.heap.size w w') {k' : Nat} (ho : w'.ownsRow B 54 2 tv' TL'.length (flatTn TL')) (hat : ∀ g, tv'.ownBlock = some g → w.heap.size ≤ g) (htr : ∀ x ∈ TL', TrOk w' (notRows w' sv tv') k' x) : PM B sv tv' S TL' k' w' :=
  ⟨own_below h.ownS hb fun g hg => (h.ownS.lt g hg).2, ho, fun g h1 h2 => by have := (h.ownS.lt g h1).2; have := hat g h2; omega, htr, Nat.le_trans h.size hb.size⟩
/-- States in a row that is new. -/
theorem PM.freshS (h : PM B sv tv S TL k w) (hb : Below w.heap.size w w') (ho : w'.ownsRow B 3 1 sv' S'.length (S'.map fun n : Nat => Value.int .i64 n)) (hat : ∀ g, sv'.ownBlock = some g → w.heap.size ≤ g) : PM B sv' tv S' TL k w' :=
  ⟨ho, own_below h.ownT hb fun g hg => (h.ownT.lt g hg).2, fun g h1 h2 => by have := (h.ownT.lt g h2).2; have := hat g h1; omega,
    fun x hx => (h.trees x hx).kept (fun b hb' => hb.block b hb'.1) (fun b hb' => ⟨Nat.lt_of_lt_of_le hb'.1 hb.size, fun e => by have := hat b e; have := hb'.1; omega, hb'.2.2⟩), Nat.le_trans h.size hb.size⟩

/-- A tree that was made of others: its kids lie in a row of their own. -/
theorem tree_made (h : PM B sv tv S TL k w) (hb : Below w.heap.size w w') {n g cap : Nat} (hl : TL.length ≤ 1000) (hcap : n < TL.length → w.heap.size ≤ g ∧ g < w'.heap.size ∧ w'.ownsRow w.heap.size 54 2 (.slice (some ⟨g, 0, none⟩) (TL.drop n).length cap) (TL.drop n).length (flatTn (TL.drop n))) {q : Int} (hq : 0 ≤ q) :
    TrOk w' (notRows w' sv tv) (k + 1) (q, .slice (some ⟨g, 0, none⟩) (TL.drop n).length cap, q :: ((TL.drop n).map fun x => x.2.2).flatten) := by
  refine .inr ⟨hq, TL.drop n, some ⟨g, 0, none⟩, cap, rfl, by simp; omega, rfl, fun i hi => ?_⟩
  have hlt : n < TL.length := by simp at hi; omega
  obtain ⟨c1, c2, c3⟩ := hcap hlt
  have e0 := c3.cellAt (i * 2) (by omega)
  have e1 := c3.cellAt (i * 2 + 1) (by omega)
  have f0 := flatTn_get (TL := TL.drop n) (i := i) (j := 0) hi (by omega)
  have f1 := flatTn_get (TL := TL.drop n) (i := i) (j := 1) hi (by omega)
  have hns : ∀ v : Value, (∀ g', v.ownBlock = some g' → g' < w.heap.size) → v.ownBlock ≠ some g := fun v hv e => by have := hv g e; omega
  refine ⟨g, 0, rfl, ⟨c2, hns sv fun g' e => (h.ownS.lt g' e).2, hns tv fun g' e => (h.ownT.lt g' e).2⟩, by rw [Nat.zero_add, e0]; exact f0, by rw [Nat.zero_add, e1]; exact f1, ?_⟩
  have hm : (TL.drop n).getD i (0, .slice none 0 0, []) ∈ TL := by
    have e : (TL.drop n).getD i (0, .slice none 0 0, []) = (TL.drop n)[i] := by rw [List.getD, List.getElem?_eq_getElem hi]; rfl
    rw [e]
    exact List.mem_of_mem_drop (List.getElem_mem hi)
  exact (h.trees _ hm).kept (fun b hb' => hb.block b hb'.1) (fun _ hb' => ⟨Nat.lt_of_lt_of_le hb'.1 hb.size, hb'.2⟩)

/-- A tree on the stack can be read. -/
theorem PM.treeAt (h : PM B sv tv S TL k w) {g cap i : Nat} (hv : tv = .slice (some ⟨g, 0, none⟩) TL.length cap) (hi : i < TL.length) : w.cell? ⟨g, i * 2, none⟩ = some (.int .i64 (TL.getD i (0, .slice none 0 0, [])).1) ∧ w.cell? ⟨g, i * 2 + 1, none⟩ = some (TL.getD i (0, .slice none 0 0, [])).2.1 := by
  have ho := h.ownT
  rw [hv] at ho
  exact ⟨(ho.cellAt (i * 2) (by omega)).trans (flatTn_get (j := 0) hi (by omega)), (ho.cellAt (i * 2 + 1) (by omega)).trans (flatTn_get (j := 1) hi (by omega))⟩
theorem PM.stateAt (h : PM B sv tv S TL k w) {g cap i : Nat} (hv : sv = .slice (some ⟨g, 0, none⟩) S.length cap) (hi : i < S.length) : w.cell? ⟨g, i, none⟩ = some (.int .i64 ((S.getD i 0 : Nat) : Int)) := by
  have ho := h.ownS
  rw [hv] at ho
  rw [ho.cellAt i (by omega)]
  simp [List.getD, hi]
end

end Go.Proofs.Ytmnechdmgmbpeaa
