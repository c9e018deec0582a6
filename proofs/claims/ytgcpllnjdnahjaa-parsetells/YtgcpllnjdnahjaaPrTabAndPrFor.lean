import Derived.Test.YtgcpllnjdnahjaaTkOfAndTkClash
import Derived.Test.YtgcpllnjdnahjaaMayG
import Derived.Test.YtgcpllnjdnahjaaDerMathAndParseDef
import Derived.Deep.DeepCutAuto
/- The contracts of package parse's tableFor (with slices.ContainsFunc, slices.IndexFunc). -/
namespace Go.Proofs.Ytgcpllnjdnahjaa
open Go.RowKit

set_option maxRecDepth 100000 in
theorem pr_isWrong {w : World} {gb : Nat} {T x : Int} (hg : w.cell? ⟨gb, 0, none⟩ = some (.int .i64 T)) :
    Calls Try.prog 15 #[.int .i64 x, .pointer (some ⟨gb, 0, none⟩)] w fun e w' => e = .returned (.bool (!(decide (0 ≤ x) && decide (x < T)))) ∧ Below w.heap.size w w' := by
  by_cases h0 : x < 0
  · have e : (!(decide (0 ≤ x) && decide (x < T))) = true := by simp; omega
    rw [e]
    clear e
    go_enter Try.func15, Try.ntmps15
    go_wp2_with fail
    go_ret
    exact ⟨rfl, Below.refl _ _⟩
  · have hd : decide (x < 0) = false := decide_eq_false h0
    by_cases h1 : T ≤ x
    · have e : (!(decide (0 ≤ x) && decide (x < T))) = true := by simp; omega
      rw [e]
      clear e
      go_enter Try.func15, Try.ntmps15
      go_wp2_with fail
      go_ret
      exact ⟨rfl, Below.refl _ _⟩
    · have e : (!(decide (0 ≤ x) && decide (x < T))) = false := by simp; omega
      have hd1 : decide (T ≤ x) = false := decide_eq_false h1
      rw [e]
      clear e
      go_enter Try.func15, Try.ntmps15
      go_wp2_with fail
      go_ret
      exact ⟨rfl, Below.refl _ _⟩

set_option maxRecDepth 100000 in
set_option maxHeartbeats 1600000 in
theorem pr_index {w : World} {gb lim : Nat} {T : Int} {tv : Value} {tok : List Int} (hg : w.cell? ⟨gb, 0, none⟩ = some (.int .i64 T)) (ht : ListAt w lim tv tok) (hlim : lim ≤ w.heap.size) (h30 : tok.length ≤ 1000) :
    Calls Try.prog 32 #[tv, .func (.func 15) #[] #[.pointer (some ⟨gb, 0, none⟩)]] w fun e w' => ∃ z : Int, e = .returned (.int .i64 z) ∧ decide (0 ≤ z) = (!inB T tok) ∧ Below w.heap.size w w' := by
  obtain ⟨ta, tc, htv⟩ := ht.1
  subst htv
  have HT : Hid (ListAt w w.heap.size (.slice ta tok.length tc) tok) := ht.mono hlim
  have HG : Hid (w.cell? ⟨gb, 0, none⟩ = some (.int .i64 T)) := hg
  clear ht hg hlim
  go_enter Try.func32, Try.ntmps32
  go_wp2_with fail
  go_loopw [8] (fun s wr => ∃ k : Nat, s = .int .i64 k ∧ k ≤ tok.length ∧ Below w.heap.size w wr ∧ inB T (tok.take k) = true) (fun s _ => tok.length - (intOf s).toNat)
  case atStart => exact ⟨0, rfl, Nat.zero_le _, Below.refl _ _, rfl⟩
  case round =>
    obtain ⟨k, rfl, hk, hB, hIn⟩ := hrel
    have HB : Hid (Below w.heap.size w wr) := hB
    have HIn : Hid (inB T (tok.take k) = true) := hIn
    by_cases hlt : k < tok.length
    · obtain ⟨b, o, c, hv, hbl, q0⟩ := HT.out.2 k hlt
      cases hv
      have q1 := (hB.cell (p := ⟨b, o + k, none⟩) hbl).trans q0
      obtain ⟨x, hx⟩ : ∃ x, tok.getD k 0 = x := ⟨_, rfl⟩
      rw [hx] at q1
      have isw := pr_isWrong (x := x) ((hB.cell (World.block_lt_of_cell? _ _ HG.out)).trans HG.out)
      have hxe : tok[k] = x := by rw [← hx]; simp [List.getD, hlt]
      have i0 : (0 : Int) ≤ (k : Int) := Int.natCast_nonneg _
      have i1 : (k : Int) < (tok.length : Int) := by omega
      clear hB hIn q0 hx
      cases hw : (decide (0 ≤ x) && decide (x < T)) with
      | false =>
        rw [hw] at isw
        have HE : Hid (inB T tok = false) := by
          show inB T tok = false
          unfold inB
          rw [List.all_eq_false]
          exact ⟨tok[k], List.getElem_mem hlt, by rw [hxe, hw]; simp⟩
        clear hxe hw
        simp only [Bool.not_false] at isw
        go_wp2_with (go_at_call 15; refine isw.mono ?_; rintro e w1 ⟨rfl, hB1⟩)
        go_ret
        exact ⟨k, rfl, by rw [HE.out]; simp, HB.out.trans (hB1.mono HB.out.size)⟩
      | true =>
        rw [hw] at isw
        have HE : Hid (inB T (tok.take (k + 1)) = true) := by
          show inB T (tok.take (k + 1)) = true
          have := HIn.out
          unfold inB at this ⊢
          rw [List.take_succ_eq_append_getElem hlt, List.all_append, this, hxe]
          simpa using hw
        clear hxe hw
        simp only [Bool.not_true] at isw
        go_wp2_with (go_at_call 15; refine isw.mono ?_; rintro e w1 ⟨rfl, hB1⟩)
        go_roundw
        case rel => exact ⟨k + 1, by go_num, by omega, HB.out.trans (hB1.mono HB.out.size), HE.out⟩
        case measure => simp [intOf]; omega
    · have HE : Hid (inB T tok = true) := by
        show inB T tok = true
        have := HIn.out
        rwa [List.take_of_length_le (by omega)] at this
      clear hB hIn
      go_wp2_with fail
      go_ret
      exact ⟨-1, rfl, by rw [HE.out]; rfl, HB.out⟩

set_option maxRecDepth 100000 in
theorem pr_contains {w : World} {gb lim : Nat} {T : Int} {tv : Value} {tok : List Int} (hg : w.cell? ⟨gb, 0, none⟩ = some (.int .i64 T)) (ht : ListAt w lim tv tok) (hlim : lim ≤ w.heap.size) (h30 : tok.length ≤ 1000) :
    Calls Try.prog 16 #[tv, .func (.func 15) #[] #[.pointer (some ⟨gb, 0, none⟩)]] w fun e w' => e = .returned (.bool (!inB T tok)) ∧ Below w.heap.size w w' := by
  have ix := pr_index hg ht hlim h30
  obtain ⟨ta, tc, htv⟩ := ht.1
  subst htv
  clear hg ht hlim
  go_enter Try.func16, Try.ntmps16
  go_wp2_with (go_at_call 32; refine ix.mono ?_; rintro e w1 ⟨z, rfl, hz, hB1⟩)
  go_ret
  exact ⟨rfl, hB1⟩

end Go.Proofs.Ytgcpllnjdnahjaa

/- The contract of package parse's tableFor. -/
namespace Go.Proofs.Ytgcpllnjdnahjaa
open Go.RowKit

/-- What can be read all the while: the grammar's box, the result's, what came in. -/
structure TFx (w : World) (T N : Int) (ra : Option Addr) (rc : Nat) (ta : Option Addr) (tc : Nat) (R : List Ru) (tok : List Int) (wq : World) : Prop where
  b0 : wq.cell? ⟨w.heap.size, 0, none⟩ = some (.int .i64 T)
  b1 : wq.cell? ⟨w.heap.size, 1, none⟩ = some (.int .i64 N)
  b2 : wq.cell? ⟨w.heap.size, 2, none⟩ = some (.slice ra R.length rc)
  x0 : wq.cell? ⟨w.heap.size + 1, 0, none⟩ = some (.slice none 0 0)
  x1 : wq.cell? ⟨w.heap.size + 1, 1, none⟩ = some (.slice none 0 0)
  xf0 : wq.frozen? ⟨w.heap.size + 1, 0, none⟩ = false
  xf1 : wq.frozen? ⟨w.heap.size + 1, 1, none⟩ = false
  rules : RulesAt wq wq.heap.size (.slice ra R.length rc) R
  toks : ListAt wq w.heap.size (.slice ta tok.length tc) tok
  below : Below w.heap.size w wq
  size : w.heap.size + 2 ≤ wq.heap.size

theorem TFx.later {w : World} {T N : Int} {ra : Option Addr} {rc : Nat} {ta : Option Addr} {tc : Nat} {R : List Ru} {tok : List Int} {wq w' : World} (h : TFx w T N ra rc ta tc R tok wq) (hb : Below wq.heap.size wq w') : TFx w T N ra rc ta tc R tok w' := by
  have hs := h.size
  have hB := h.below.trans (hb.mono (by omega))
  exact ⟨(hb.cell (by simp only; omega)).trans h.b0, (hb.cell (by simp only; omega)).trans h.b1, (hb.cell (by simp only; omega)).trans h.b2, (hb.cell (by simp only; omega)).trans h.x0, (hb.cell (by simp only; omega)).trans h.x1, (hb.frozen (by simp only; omega)).trans h.xf0, (hb.frozen (by simp only; omega)).trans h.xf1, (h.rules.below hb).mono hb.size, h.toks.below (hb.mono (by omega)), hB, Nat.le_trans hs hb.size⟩

theorem tfx_start {w : World} {T N : Int} {ra : Option Addr} {rc : Nat} {ta : Option Addr} {tc : Nat} {R : List Ru} {tok : List Int} (hr : RulesAt w w.heap.size (.slice ra R.length rc) R) (ht : ListAt w w.heap.size (.slice ta tok.length tc) tok) :
    TFx w T N ra rc ta tc R tok ((w.alloc (.cells #[.int .i64 T, .int .i64 N, .slice ra R.length rc] 24)).alloc (.cells #[.slice none 0 0, .slice none 0 0] 34)) := by
  have hB : Below w.heap.size w ((w.alloc (.cells #[.int .i64 T, .int .i64 N, .slice ra R.length rc] 24)).alloc (.cells #[.slice none 0 0, .slice none 0 0] 34)) := ((Below.refl _ _).alloc (Nat.le_refl _) _).alloc (by simp) _
  exact ⟨by simp [go_sem], by simp [go_sem], by simp [go_sem], by simp [go_sem], by simp [go_sem], by simp [go_sem], by simp [go_sem], (hr.below hB).mono hB.size, ht.below hB, hB, by simp⟩

/-- A table that is none, and what is wrong. -/
abbrev errT (e : Int) : Value := .tuple #[.agg #[.slice none 0 0, .slice none 0 0], .int .i64 e]

set_option maxRecDepth 100000 in
set_option maxHeartbeats 1600000 in
theorem tf_form {w : World} {T N : Int} {rv tv : Value} {R : List Ru} {tok : List Int} (hr : RulesAt w w.heap.size rv R) (ht : ListAt w w.heap.size tv tok) (hm : mayB T N R = false) :
    Calls Try.prog 7 #[.agg #[.int .i64 T, .int .i64 N, rv], tv] w fun e w' => e = .returned (errT 2) ∧ Below w.heap.size w w' := by
  obtain ⟨ra, rc, hrv⟩ := hr.1
  obtain ⟨ta, tc, htv⟩ := ht.1
  subst hrv
  subst htv
  have HX : Hid (TFx w T N ra rc ta tc R tok ((w.alloc (.cells #[.int .i64 T, .int .i64 N, .slice ra R.length rc] 24)).alloc (.cells #[.slice none 0 0, .slice none 0 0] 34))) := tfx_start hr ht
  have may := mayG_any (T := T) (N := N) HX.out.rules
  rw [hm] at may
  clear hr ht hm
  go_enter Try.func7, Try.ntmps7
  go_wp2_with
    (go_at_call 13; refine may.mono ?_; rintro e w1 ⟨rfl, hB1⟩
     have hX := HX.out.later hB1
     have x0 := hX.x0
     have x1 := hX.x1
     have xf0 := hX.xf0
     have xf1 := hX.xf1
     have HB : Hid (Below w.heap.size w w1) := hX.below
     clear hX hB1 may)
  refine bodyPost_ret (v := errT 2) (by simp [results, Try.results7, go_sem, x0, x1]) rfl ⟨rfl, (HB.out.setCell (by simp) _).setCell (by simp) _⟩

set_option maxRecDepth 100000 in
set_option maxHeartbeats 1600000 in
theorem tf_long {w : World} {T N : Int} {rv tv : Value} {R : List Ru} {tok : List Int} (hr : RulesAt w w.heap.size rv R) (ht : ListAt w w.heap.size tv tok) (hm : mayB T N R = true) (h30 : 30 < tok.length) :
    Calls Try.prog 7 #[.agg #[.int .i64 T, .int .i64 N, rv], tv] w fun e w' => e = .returned (errT 1) ∧ Below w.heap.size w w' := by
  obtain ⟨ra, rc, hrv⟩ := hr.1
  obtain ⟨ta, tc, htv⟩ := ht.1
  subst hrv
  subst htv
  have HX : Hid (TFx w T N ra rc ta tc R tok ((w.alloc (.cells #[.int .i64 T, .int .i64 N, .slice ra R.length rc] 24)).alloc (.cells #[.slice none 0 0, .slice none 0 0] 34))) := tfx_start hr ht
  have may := mayG_any (T := T) (N := N) HX.out.rules
  rw [hm] at may
  have j0 : (30 : Int) < (tok.length : Int) := by omega
  clear hr ht hm
  go_enter Try.func7, Try.ntmps7
  go_wp2_with
    (go_at_call 13; refine may.mono ?_; rintro e w1 ⟨rfl, hB1⟩
     have hX := HX.out.later hB1
     have x0 := hX.x0
     have x1 := hX.x1
     have xf0 := hX.xf0
     have xf1 := hX.xf1
     have HB : Hid (Below w.heap.size w w1) := hX.below
     clear hX hB1 may)
  refine bodyPost_ret (v := errT 1) (by simp [results, Try.results7, go_sem, x0, x1]) rfl ⟨rfl, (HB.out.setCell (by simp) _).setCell (by simp) _⟩

set_option maxRecDepth 100000 in
set_option maxHeartbeats 1600000 in
theorem tf_more {w : World} {T N : Nat} {rv tv : Value} {R : List Ru} {tok : List Int} (hr : RulesAt w w.heap.size rv R) (ht : ListAt w w.heap.size tv tok) (hm : mayB T N R = true) (h30 : tok.length ≤ 30) (hmo : More T N R 150) :
    Calls Try.prog 7 #[.agg #[.int .i64 T, .int .i64 N, rv], tv] w fun e w' => e = .returned (errT 1) ∧ Below w.heap.size w w' := by
  obtain ⟨ra, rc, hrv⟩ := hr.1
  obtain ⟨ta, tc, htv⟩ := ht.1
  subst hrv
  subst htv
  have HX : Hid (TFx w T N ra rc ta tc R tok ((w.alloc (.cells #[.int .i64 T, .int .i64 N, .slice ra R.length rc] 24)).alloc (.cells #[.slice none 0 0, .slice none 0 0] 34))) := tfx_start hr ht
  have may := mayG_any (T := T) (N := N) HX.out.rules
  rw [hm] at may
  have HM : Hid (mayB T N R = true) := hm
  have HMo : Hid (More T N R 150) := hmo
  have j0 : decide ((30 : Int) < (tok.length : Int)) = false := decide_eq_false (by omega)
  clear hr ht hm hmo
  go_enter Try.func7, Try.ntmps7
  go_wp2_with
    (first
     | (go_at_call 13; refine may.mono ?_; rintro e w1 ⟨rfl, hB1⟩
        have hX := HX.out.later hB1
        have b0 := hX.b0
        have b1 := hX.b1
        have b2 := hX.b2
        have HX1 : Hid (TFx w T N ra rc ta tc R tok w1) := hX
        have tof := (tkOf_may (T := T) (N := N) hX.rules HM.out).mono (R' := fun e w' => e = .returned (.tuple #[.agg #[.slice none 0 0, .slice none 0 0], .int .i64 1]) ∧ Below w1.heap.size w1 w') fun e w' h => by
          rcases h with ⟨h1, h2, _⟩ | ⟨K, cv, gv, _, _, h3, h4, _⟩
          · exact ⟨h1, h2⟩
          · exact absurd HMo.out (whole_or h3 h4)
        clear hX hB1 may)
     | (go_at_call 14; refine tof.mono ?_; rintro e w2 ⟨rfl, hB2⟩
        have hX := (HX1.out.later hB2).later ((Below.refl _ _).alloc (Nat.le_refl _) (.cells #[.slice none 0 0, .slice none 0 0] 34))
        have x0 := hX.x0
        have x1 := hX.x1
        have xf0 := hX.xf0
        have xf1 := hX.xf1
        have HB : Hid (Below w.heap.size w (w2.alloc (.cells #[.slice none 0 0, .slice none 0 0] 34))) := hX.below
        clear hX hB2 tof))
  refine bodyPost_ret (v := errT 1) (by simp [results, Try.results7, go_sem, x0, x1]) rfl ⟨rfl, (HB.out.setCell (by simp) _).setCell (by simp) _⟩

set_option maxRecDepth 100000 in
set_option maxHeartbeats 3200000 in
theorem tf_whole {w : World} {T N : Nat} {rv tv : Value} {R : List Ru} {tok : List Int} (hr : RulesAt w w.heap.size rv R) (ht : ListAt w w.heap.size tv tok) (hm : mayB T N R = true) (h30 : tok.length ≤ 30) (hmo : ¬ More T N R 150) :
    Calls Try.prog 7 #[.agg #[.int .i64 T, .int .i64 N, rv], tv] w fun e w' => ∃ K, Whole T N R K ∧ K ≤ 150 ∧ Below w.heap.size w w' ∧ ((inB T tok = false ∧ e = .returned (errT 3)) ∨ (inB T tok = true ∧ 0 < clashN (tabC T N R K) ∧ e = .returned (errT 4)) ∨
      (inB T tok = true ∧ clashN (tabC T N R K) = 0 ∧ ∃ ca cc ga gc, e = .returned (.tuple #[.agg #[.slice ca K cc, .slice ga K gc], .int .i64 0]) ∧ TabAt w' (.slice ca K cc) (.slice ga K gc) (tabC T N R K) (tabG T N R K))) := by
  obtain ⟨hT, hN1, hN, hRl, hfine⟩ := may_fine hm
  obtain ⟨ra, rc, hrv⟩ := hr.1
  obtain ⟨ta, tc, htv⟩ := ht.1
  subst hrv
  subst htv
  have HX : Hid (TFx w T N ra rc ta tc R tok ((w.alloc (.cells #[.int .i64 T, .int .i64 N, .slice ra R.length rc] 24)).alloc (.cells #[.slice none 0 0, .slice none 0 0] 34))) := tfx_start hr ht
  have may := mayG_any (T := T) (N := N) HX.out.rules
  rw [hm] at may
  have HM : Hid (mayB T N R = true) := hm
  have HMo : Hid (¬ More T N R 150) := hmo
  have HRl : Hid (R.length ≤ 1000) := by show R.length ≤ 1000; omega
  have HT8 : Hid (T ≤ 900) := by show T ≤ 900; omega
  have j0 : decide ((30 : Int) < (tok.length : Int)) = false := decide_eq_false (by omega)
  clear hr ht hm hmo hfine
  go_enter Try.func7, Try.ntmps7
  go_upto_region 9 with
    (first
     | (go_at_call 13; refine may.mono ?_; rintro e w1 ⟨rfl, hB1⟩
        have hX := HX.out.later hB1
        have b0 := hX.b0
        have b1 := hX.b1
        have b2 := hX.b2
        have HX1 : Hid (TFx w T N ra rc ta tc R tok w1) := hX
        have tof := (tkOf_far (T := T) (N := N) hX.rules HM.out).mono (R' := fun e w' => ∃ K ca cc ga gc, e = .returned (.tuple #[.agg #[.slice ca K cc, .slice ga K gc], .int .i64 0]) ∧ Below w1.heap.size w1 w' ∧ Whole T N R K ∧ K ≤ 150 ∧ ∀ w'' : World, (∀ b, w1.heap.size ≤ b → b < w'.heap.size → w''.heap[b]? = w'.heap[b]?) → TabAt w'' (.slice ca K cc) (.slice ga K gc) (tabC T N R K) (tabG T N R K)) fun e w' h => by
          rcases h with ⟨_, _, h2⟩ | ⟨K, cv, gv, h1, h2, h3, h4, h5⟩
          · exact absurd h2 HMo.out
          · have h6 := h5 w' fun _ _ _ => rfl
            obtain ⟨ca, cc, hcv⟩ := h6.cells.1
            obtain ⟨ga, gc, hgv⟩ := h6.goto.1
            rw [tabC_len] at hcv
            rw [tabG_len] at hgv
            subst hcv
            subst hgv
            exact ⟨K, ca, cc, ga, gc, h1, h2, h3, h4, h5⟩
        clear hX hB1 may)
     | (go_at_call 14; refine tof.mono ?_; rintro e w2 ⟨K, ca, cc, ga, gc, rfl, hB2, hW, hK, hTb⟩
        have HX2 : Hid (TFx w T N ra rc ta tc R tok (w2.alloc (.cells #[.slice ca K cc, .slice ga K gc] 34))) := (HX1.out.later hB2).later ((Below.refl _ _).alloc (Nat.le_refl _) (.cells #[.slice ca K cc, .slice ga K gc] 34))
        have HWh : Hid (Whole T N R K) := hW
        have hs2 : w1.heap.size ≤ w2.heap.size := hB2.size
        have HTb : Hid (∀ w'' : World, (∀ b, w1.heap.size ≤ b → b < w2.heap.size → w''.heap[b]? = w2.heap[b]?) → TabAt w'' (.slice ca K cc) (.slice ga K gc) (tabC T N R K) (tabG T N R K)) := hTb
        clear hB2 tof hW hTb))
  obtain ⟨W4, hW4⟩ : ∃ W, w2.alloc (.cells #[.slice ca K cc, .slice ga K gc] 34) = W := ⟨_, rfl⟩
  have t0 : W4.cell? ⟨w2.heap.size, 0, none⟩ = some (.slice ca K cc) := by rw [← hW4]; simp [go_sem]
  have t1 : W4.cell? ⟨w2.heap.size, 1, none⟩ = some (.slice ga K gc) := by rw [← hW4]; simp [go_sem]
  have hs4 : w2.heap.size < W4.heap.size := by rw [← hW4]; simp
  have HO4 : Hid (∀ b, b < w2.heap.size → W4.heap[b]? = w2.heap[b]?) := fun b hb => by rw [← hW4]; exact heap_alloc_old w2 _ hb
  rw [hW4] at HX2 ⊢
  have con := pr_contains HX2.out.b0 HX2.out.toks (by have := HX2.out.size; omega) (by omega)
  have HSz : Hid (w.heap.size + 2 ≤ w1.heap.size) := HX1.out.size
  clear hW4 b0 b1 b2 HX HX1
  have HTab : Hid (∀ wq, Below W4.heap.size W4 wq → TFx w T N ra rc ta tc R tok wq ∧ wq.cell? ⟨w2.heap.size, 0, none⟩ = some (.slice ca K cc) ∧ wq.cell? ⟨w2.heap.size, 1, none⟩ = some (.slice ga K gc) ∧ (∀ b, b < w2.heap.size → wq.heap[b]? = w2.heap[b]?)) := fun wq hq =>
    ⟨HX2.out.later hq, (hq.cell (by simp only; omega)).trans t0, (hq.cell (by simp only; omega)).trans t1, fun b hb => (hq.block b (by omega)).trans (HO4.out b hb)⟩
  clear t0 t1
  cases hin : inB T tok with
  | false =>
    rw [hin] at con
    simp only [Bool.not_false] at con
    have HIN : Hid (inB T tok = false) := hin
    clear hin
    go_wp2_with
      (go_at_call 16; refine con.mono ?_; rintro e w5 ⟨rfl, hB5⟩
       obtain ⟨hX, -, -, -⟩ := HTab.out w5 hB5
       have x0 := hX.x0
       have x1 := hX.x1
       have xf0 := hX.xf0
       have xf1 := hX.xf1
       have HB : Hid (Below w.heap.size w w5) := hX.below
       clear hX hB5 con)
    refine bodyPost_ret (v := errT 3) (by simp [results, Try.results7, go_sem, x0, x1]) rfl ⟨K, HWh.out, hK, (HB.out.setCell (by simp) _).setCell (by simp) _, .inl ⟨HIN.out, rfl⟩⟩
  | true =>
    rw [hin] at con
    simp only [Bool.not_true] at con
    have HIN : Hid (inB T tok = true) := hin
    clear hin
    obtain ⟨cn, hcn⟩ : ∃ cn, clashN (tabC T N R K) = cn := ⟨_, rfl⟩
    have HCN : Hid (clashN (tabC T N R K) = cn) := hcn
    have HCl : Hid (∀ wq, Below W4.heap.size W4 wq → Calls Try.prog 17 #[.agg #[.slice ca K cc, .slice ga K gc]] wq fun e w' => e = .returned (.int .i64 cn) ∧ Below wq.heap.size wq w') := fun wq hq => by
      have h1 := HTb.out wq fun b _ hb2 => (HTab.out wq hq).2.2.2 b hb2
      have h2 := tk_clashes h1 (by rw [tabC_len]; omega) (fun i hi => by rw [tabC_len] at hi; rw [tabC_row hi, rowP_len]; have := HT8.out; omega) (fun i k hi hk => by
        rw [tabC_len] at hi
        rw [tabC_row hi, rowP_len] at hk
        rw [tabC_row hi, rowP_at (by omega)]
        unfold cellP
        simp only [List.length_map]
        have := List.length_filter_le (fun n => @decide (DoneP T N R (allN T N R K).1 (allN T N R K).2 i k n) (Classical.propDecidable _)) (List.range R.length)
        simp only [List.length_range] at this
        have := HRl.out
        omega)
      rw [HCN.out] at h2
      exact h2
    clear hcn
    by_cases hc0 : cn = 0
    · subst hc0
      have hz0 : decide ((0 : Int) < ((0 : Nat) : Int)) = false := by decide
      go_wp2_with
        (first
         | (go_at_call 16; refine con.mono ?_; rintro e w5 ⟨rfl, hB5⟩
            obtain ⟨-, t0, t1, -⟩ := HTab.out w5 hB5
            have cl := HCl.out w5 hB5
            have HB5 : Hid (Below W4.heap.size W4 w5) := hB5
            clear hB5 con)
         | (go_at_call 17; refine cl.mono ?_; rintro e w6 ⟨rfl, hB6⟩
            have hb6 : Below W4.heap.size W4 w6 := HB5.out.trans (hB6.mono HB5.out.size)
            obtain ⟨hX, u0, u1, hO6⟩ := HTab.out w6 hb6
            have x0 := hX.x0
            have x1 := hX.x1
            have xf0 := hX.xf0
            have xf1 := hX.xf1
            have HB : Hid (Below w.heap.size w w6) := hX.below
            have HO6 : Hid (∀ b, b < w2.heap.size → w6.heap[b]? = w2.heap[b]?) := hO6
            clear hX hB6 cl hb6 hO6))
      refine bodyPost_ret (v := .tuple #[.agg #[.slice ca K cc, .slice ga K gc], .int .i64 0]) (by simp [results, Try.results7, go_sem, x0, x1]) rfl ⟨K, HWh.out, hK, (HB.out.setCell (by simp) _).setCell (by simp) _, .inr (.inr ⟨HIN.out, HCN.out, ca, cc, ga, gc, rfl, HTb.out _ fun b hb1 hb2 => ?_⟩)⟩
      have h6 := HSz.out
      rw [Below.heap_setCell _ _ _ _ (by simp only; omega), Below.heap_setCell _ _ _ _ (by simp only; omega)]
      exact HO6.out b hb2
    · have hz0 : decide ((0 : Int) < (cn : Int)) = true := decide_eq_true (by omega)
      go_wp2_with
        (first
         | (go_at_call 16; refine con.mono ?_; rintro e w5 ⟨rfl, hB5⟩
            obtain ⟨-, t0, t1, -⟩ := HTab.out w5 hB5
            have cl := HCl.out w5 hB5
            have HB5 : Hid (Below W4.heap.size W4 w5) := hB5
            clear hB5 con)
         | (go_at_call 17; refine cl.mono ?_; rintro e w6 ⟨rfl, hB6⟩
            have hb6 : Below W4.heap.size W4 w6 := HB5.out.trans (hB6.mono HB5.out.size)
            obtain ⟨hX, u0, u1, -⟩ := HTab.out w6 hb6
            have x0 := hX.x0
            have x1 := hX.x1
            have xf0 := hX.xf0
            have xf1 := hX.xf1
            have HB : Hid (Below w.heap.size w w6) := hX.below
            clear hX hB6 cl hb6))
      refine bodyPost_ret (v := errT 4) (by simp [results, Try.results7, go_sem, x0, x1]) rfl ⟨K, HWh.out, hK, (HB.out.setCell (by simp) _).setCell (by simp) _, .inr (.inl ⟨HIN.out, by have := HCN.out; omega, rfl⟩)⟩

end Go.Proofs.Ytgcpllnjdnahjaa
