/- The contract of pollardingref6.Parse: what is wrong, or what the parser answers in plain words. -/
import Derived.Test.YtmnechdmgmbpeaaPrParseAndParseMem6
import Derived.Test.YtmnechdmgmbpeaaLRRunAndPrFor
import Derived.Test.YtmnechdmgmbpeaaOf6
import Derived.Test.YtmnechdmgmbpeaaWrong5AndRegionFacts
import Derived.Deep.DeepCutAuto
import Derived.Test.YtmnechdmgmbpeaaReg6bAndReg6c
namespace Go.Proofs.Ytmnechdmgmbpeaa
open Go.RowKit

/-- A token's tree. -/
abbrev termT : Tn := (-1, .slice none 0 0, [])

set_option maxRecDepth 100000 in
set_option maxHeartbeats 1600000 in
theorem parse6_form {w : World} {T N : Int} {rv tv : Value} {R : List Ru} {tok : List Int} (hr : RulesAt w w.heap.size rv R) (ht : ListAt w w.heap.size tv tok) (hm : mayB T N R = false) :
    Calls Try.prog 5 #[.agg #[.int .i64 T, .int .i64 N, rv], tv] w fun e w' => e = .returned (.tuple #[.slice none 0 0, .int .i64 0, .int .i64 2]) ∧ Below w.heap.size w w' := by
  obtain ⟨ra, rc, hrv⟩ := hr.1
  obtain ⟨ta, tc, htv⟩ := ht.1
  subst hrv
  subst htv
  have wr5 := wrong5_any (T := T) (N := N) (hr.boxed (.cells #[.int .i64 T, .int .i64 N, .slice ra R.length rc] 24)) (ht.boxed (.cells #[.int .i64 T, .int .i64 N, .slice ra R.length rc] 24))
  have e2 : wrongE T N R tok = 2 := by simp [wrongE, hm]
  rw [e2] at wr5
  simp only [World.size_alloc] at wr5
  have HB0 : Hid (Below w.heap.size w (w.alloc (.cells #[.int .i64 T, .int .i64 N, .slice ra R.length rc] 24))) := (Below.refl _ _).alloc (Nat.le_refl _) _
  clear hr ht hm e2
  go_enter Try.func5, Try.ntmps5
  go_wp2_with
    (go_at_call 9; refine wr5.mono ?_; rintro e w1 ⟨rfl, hB1⟩
     have HX : Hid (Below w.heap.size w w1) := HB0.out.trans (hB1.mono (by simp))
     clear hB1)
  refine bodyPost_ret (v := .tuple #[.slice none 0 0, .int .i64 0, .int .i64 2]) (by simp [results, Try.results5, go_sem]) rfl ⟨rfl, HX.out⟩

/-- What can be read all the while. -/
structure PBox (T N : Nat) (ra : Option Addr) (rc : Nat) (ta : Option Addr) (tc gb tb : Nat) (cv gv : Value) (R : List Ru) (tok : List Int) (K : Nat) (w : World) (B : Nat) (wr : World) : Prop where
  g0 : wr.cell? ⟨gb, 0, none⟩ = some (.int .i64 T)
  g2 : wr.cell? ⟨gb, 2, none⟩ = some (.slice ra R.length rc)
  t0 : wr.cell? ⟨tb, 0, none⟩ = some cv
  t1 : wr.cell? ⟨tb, 1, none⟩ = some gv
  rules : RulesAt wr wr.heap.size (.slice ra R.length rc) R
  toks : ListAt wr wr.heap.size (.slice ta tok.length tc) tok
  tab : TabAt wr cv gv (tabC T N R K) (tabG T N R K)
  below : Below w.heap.size w wr
  size : B ≤ wr.heap.size

/-- Whenever the parser's loop begins anew; n is what is left to be done, at most. -/
structure PRd (T N : Nat) (R : List Ru) (tok : List Int) (K B : Nat) (w3 : World) (sv tv : Value) (S : List Nat) (TL : List Tn) (p many lv n : Nat) (wr : World) : Prop where
  m : PM B sv tv S TL lv wr
  below : Below B w3 wr
  inv : PInv T N R (allN T N R K).1 (allN T N R K).2 tok ⟨S, TL.map fun x => x.2.2, p, many⟩
  num : n = (tok.length - p) + (401 - many)
  few : many ≤ 401
  run : runP T R (cellP T N R (allN T N R K).1 (allN T N R K).2) (goP T (allN T N R K).1) tok (n + 1) ⟨S, TL.map fun x => x.2.2, p, many⟩ = parseN T N R (allN T N R K).1 (allN T N R K).2 tok
  small : S.length ≤ n + 1000 ∧ S.length + n ≤ 1000

theorem of6_more {w : World} {T N : Nat} {rv : Value} {R : List Ru} (hr : RulesAt w w.heap.size rv R) (hm : mayB T N R = true) (hf : Fine T N R) (hM : More T N R 150) :
    Calls Try.prog 10 #[.agg #[.int .i64 T, .int .i64 N, rv]] w fun e w' => e = .returned (.tuple #[.agg #[.slice none 0 0, .slice none 0 0], .bool false]) ∧ Below w.heap.size w w' := by
  refine (of6_any hr hm hf).mono ?_
  rintro e w' (⟨h1, h2, _⟩ | ⟨K, _, _, _, _, h3, h4, _⟩)
  · exact ⟨h1, h2⟩
  · exact absurd hM (whole_or h3 h4)
theorem of6_whole {w : World} {T N : Nat} {rv : Value} {R : List Ru} (hr : RulesAt w w.heap.size rv R) (hm : mayB T N R = true) (hf : Fine T N R) (hM : ¬ More T N R 150) :
    Calls Try.prog 10 #[.agg #[.int .i64 T, .int .i64 N, rv]] w fun e w' => ∃ K ca cc ga gc, e = .returned (.tuple #[.agg #[.slice ca K cc, .slice ga K gc], .bool true]) ∧ Below w.heap.size w w' ∧ Whole T N R K ∧ K ≤ 150 ∧ TabAt w' (.slice ca K cc) (.slice ga K gc) (tabC T N R K) (tabG T N R K) := by
  refine (of6_any hr hm hf).mono ?_
  rintro e w' (⟨_, _, h3⟩ | ⟨K, cv, gv, h1, h2, h3, h4, h5⟩)
  · exact absurd h3 hM
  · obtain ⟨ca, cc, hcv⟩ := h5.cells.1
    obtain ⟨ga, gc, hgv⟩ := h5.goto.1
    rw [tabC_len] at hcv
    rw [tabG_len] at hgv
    subst hcv
    subst hgv
    exact ⟨K, ca, cc, ga, gc, h1, h2, h3, h4, h5⟩

set_option maxRecDepth 100000 in
set_option maxHeartbeats 6400000 in
theorem parse6_more {w : World} {T N : Nat} {rv tv : Value} {R : List Ru} {tok : List Int} (hr : RulesAt w w.heap.size rv R) (ht : ListAt w w.heap.size tv tok) (hm : mayB T N R = true) (hM : More T N R 150) :
    Calls Try.prog 5 #[.agg #[.int .i64 T, .int .i64 N, rv], tv] w fun e w' => e = .returned (.tuple #[.slice none 0 0, .int .i64 0, .int .i64 1]) ∧ Below w.heap.size w w' := by
  obtain ⟨hT, hN1, hN, hRl, hfine⟩ := may_fine hm
  have hf := may_FineR hm
  obtain ⟨ra, rc, hrv⟩ := hr.1
  obtain ⟨ta, tc, htv⟩ := ht.1
  subst hrv
  subst htv
  have wr5 := wrong5_any (T := T) (N := N) (hr.boxed (.cells #[.int .i64 T, .int .i64 N, .slice ra R.length rc] 24)) (ht.boxed (.cells #[.int .i64 T, .int .i64 N, .slice ra R.length rc] 24))
  simp only [World.size_alloc] at wr5
  obtain ⟨we, hwe⟩ : ∃ we, wrongE T N R tok = we := ⟨_, rfl⟩
  have hw2 : we ≠ 2 := by
    rw [← hwe]
    unfold wrongE
    rw [hm]
    simp only [Bool.true_eq_false, if_false]
    split
    · decide
    · split <;> decide
  rw [hwe] at wr5
  have HWE : Hid (wrongE T N R tok = we) := hwe
  have HBX : Hid (∀ wq, Below (w.heap.size + 1) (w.alloc (.cells #[.int .i64 T, .int .i64 N, .slice ra R.length rc] 24)) wq → wq.cell? ⟨w.heap.size, 0, none⟩ = some (.int .i64 T) ∧ wq.cell? ⟨w.heap.size, 1, none⟩ = some (.int .i64 N) ∧ wq.cell? ⟨w.heap.size, 2, none⟩ = some (.slice ra R.length rc) ∧ RulesAt wq wq.heap.size (.slice ra R.length rc) R ∧ ListAt wq wq.heap.size (.slice ta tok.length tc) tok ∧ Below w.heap.size w wq ∧ w.heap.size + 1 ≤ wq.heap.size) := fun wq hq => by
    have hB : Below w.heap.size w wq := ((Below.refl _ _).alloc (Nat.le_refl _) _).trans (hq.mono (by omega))
    exact ⟨(hq.cell (by simp)).trans (by simp [go_sem]), (hq.cell (by simp)).trans (by simp [go_sem]), (hq.cell (by simp)).trans (by simp [go_sem]), (hr.below hB).mono hB.size, (ht.below hB).mono hB.size, hB, by have := hq.size; simpa using this⟩
  have HM : Hid (mayB T N R = true) := hm
  have HF : Hid (Fine T N R) := hf
  have hb2 : (we == 2) = false := by simpa using hw2
  clear hr ht hm hf hwe hfine
  go_enter Try.func5, Try.ntmps5
  go_wp2_with
    (first
     | (go_at_call 9; refine wr5.mono ?_; rintro e w1 ⟨rfl, hB1⟩
        have HB1 : Hid (Below (w.heap.size + 1) (w.alloc (.cells #[.int .i64 T, .int .i64 N, .slice ra R.length rc] 24)) w1) := hB1
        obtain ⟨b0, b1, b2, hR, _, _, hs1⟩ := HBX.out w1 hB1
        have of6 := of6_more (T := T) (N := N) hR HM.out HF.out hM
        clear hB1 hR wr5)
     | (go_at_call 10; refine of6.mono ?_; rintro e w2 ⟨rfl, hB2⟩
        have HB2 : Hid (Below w.heap.size w w2) := (HBX.out w2 (HB1.out.trans (hB2.mono hs1))).2.2.2.2.2.1
        have hs2 : w1.heap.size ≤ w2.heap.size := hB2.size
        clear hB2 of6))
  refine bodyPost_ret (v := .tuple #[.slice none 0 0, .int .i64 0, .int .i64 1]) (by simp [results, Try.results5, go_sem]) rfl ⟨rfl, HB2.out.alloc (by omega) _⟩

theorem own_listP {w : World} {B : Nat} {v : Value} {Y : List Int} (h : w.ownsRow B 3 1 v Y.length (Y.map (Value.int .i64))) : ListAt w w.heap.size v Y := by
  obtain ⟨a, c, hv⟩ := own_form h
  refine ⟨⟨a, c, hv⟩, fun p hp => ?_⟩
  obtain ⟨g, cap, hg, _, hlt⟩ := h.form (by omega)
  refine ⟨g, 0, cap, hg, hlt, ?_⟩
  rw [hg] at h
  rw [Nat.zero_add, h.cellAt p (by omega)]
  simp [List.getD, hp]

/-- A step that goes on: what is left is less by one. -/
theorem PRd.next {T N : Nat} {R : List Ru} {tok : List Int} {K B : Nat} {w3 : World} {sv tv sv' tv' : Value} {S S' : List Nat} {TL TL' : List Tn} {p many lv n p' many' lv' : Nat} {wr wr' : World} (hRd : PRd T N R tok K B w3 sv tv S TL p many lv n wr) (lr : LRok T N R (allN T N R K).1 (allN T N R K).2) (htok : ∀ t ∈ tok, 0 ≤ t ∧ t < (T : Int)) (hm : many ≤ 400)
    (hst : stepP T R (cellP T N R (allN T N R K).1 (allN T N R K).2) (goP T (allN T N R K).1) tok ⟨S, TL.map fun x => x.2.2, p, many⟩ = .go ⟨S', TL'.map fun x => x.2.2, p', many'⟩) (hM : PM B sv' tv' S' TL' lv' wr') (hB : Below B w3 wr') (hS : S'.length ≤ S.length + 1) : n - 1 < n ∧ PRd T N R tok K B w3 sv' tv' S' TL' p' many' lv' (n - 1) wr' := by
  have hi := hRd.inv.go lr htok hst
  have hs := step_sum hst
  simp only at hs
  have hp := hi.pos
  have hp0 := hRd.inv.pos
  simp only at hp hp0
  have hn := hRd.num
  have hsm := hRd.small
  refine ⟨by omega, hM, hB, hi, by omega, by omega, ?_, by omega⟩
  have hr := hRd.run
  rw [run_step hst hm] at hr
  rw [show n - 1 + 1 = n by omega]
  exact hr

set_option maxRecDepth 100000 in
set_option maxHeartbeats 12800000 in
theorem parse6_run {w : World} {T N : Nat} {rv tv : Value} {R : List Ru} {tok : List Int} (hr : RulesAt w w.heap.size rv R) (ht : ListAt w w.heap.size tv tok) (hm : mayB T N R = true) (hM : ¬ More T N R 150) (hw0 : wrongE T N R tok = 0) :
    Calls Try.prog 5 #[.agg #[.int .i64 T, .int .i64 N, rv], tv] w fun e w' => ∃ dv D a x, e = .returned (.tuple #[dv, .int .i64 a, .int .i64 x]) ∧ ListAt w' w'.heap.size dv D ∧ ParseIs T N R tok (D, a, x) ∧ Below w.heap.size w w' := by
  obtain ⟨hT, hN1, hN, hRl, hfine⟩ := may_fine hm
  have hf := may_FineR hm
  obtain ⟨ra, rc, hrv⟩ := hr.1
  obtain ⟨ta, tc, htv⟩ := ht.1
  subst hrv
  subst htv
  have wr5 := wrong5_any (T := T) (N := N) (hr.boxed (.cells #[.int .i64 T, .int .i64 N, .slice ra R.length rc] 24)) (ht.boxed (.cells #[.int .i64 T, .int .i64 N, .slice ra R.length rc] 24))
  simp only [World.size_alloc] at wr5
  obtain ⟨we, hwe⟩ : ∃ we, wrongE T N R tok = we := ⟨_, rfl⟩
  have hw2 : we ≠ 2 := by
    rw [← hwe]
    unfold wrongE
    rw [hm]
    simp only [Bool.true_eq_false, if_false]
    split
    · decide
    · split <;> decide
  rw [hwe] at wr5
  have HWE : Hid (wrongE T N R tok = we) := hwe
  have HBX : Hid (∀ wq, Below (w.heap.size + 1) (w.alloc (.cells #[.int .i64 T, .int .i64 N, .slice ra R.length rc] 24)) wq → wq.cell? ⟨w.heap.size, 0, none⟩ = some (.int .i64 T) ∧ wq.cell? ⟨w.heap.size, 1, none⟩ = some (.int .i64 N) ∧ wq.cell? ⟨w.heap.size, 2, none⟩ = some (.slice ra R.length rc) ∧ RulesAt wq wq.heap.size (.slice ra R.length rc) R ∧ ListAt wq wq.heap.size (.slice ta tok.length tc) tok ∧ Below w.heap.size w wq ∧ w.heap.size + 1 ≤ wq.heap.size) := fun wq hq => by
    have hB : Below w.heap.size w wq := ((Below.refl _ _).alloc (Nat.le_refl _) _).trans (hq.mono (by omega))
    exact ⟨(hq.cell (by simp)).trans (by simp [go_sem]), (hq.cell (by simp)).trans (by simp [go_sem]), (hq.cell (by simp)).trans (by simp [go_sem]), (hr.below hB).mono hB.size, (ht.below hB).mono hB.size, hB, by have := hq.size; simpa using this⟩
  have HM : Hid (mayB T N R = true) := hm
  have HF : Hid (Fine T N R) := hf
  have hb2 : (we == 2) = false := by simpa using hw2
  clear hr ht hm hf hwe hfine
  have HMo : Hid (¬ More T N R 150) := hM
  have HW0 : Hid (wrongE T N R tok = 0) := hw0
  obtain rfl : we = 0 := HWE.out.symm.trans hw0
  have h30 : tok.length ≤ 30 := by
    rcases Nat.lt_or_ge 30 tok.length with h | h
    · exfalso
      have := HW0.out
      unfold wrongE at this
      rw [HM.out] at this
      simp [h] at this
    · exact h
  have HTok : Hid (∀ t ∈ tok, 0 ≤ t ∧ t < (T : Int)) := by
    have hin : inB T tok = true := by
      cases hin : inB T tok with
      | true => rfl
      | false =>
        exfalso
        have := HW0.out
        unfold wrongE at this
        rw [HM.out, hin] at this
        simp [show ¬ 30 < tok.length by omega] at this
    intro t ht
    unfold inB at hin
    have := List.all_eq_true.1 hin t ht
    simpa using this
  clear hM hw0 hw2 hb2
  go_enter Try.func5, Try.ntmps5
  go_upto_region 9 with
    (first
     | (go_at_call 9; refine wr5.mono ?_; rintro e w1 ⟨rfl, hB1⟩
        have HB1 : Hid (Below (w.heap.size + 1) (w.alloc (.cells #[.int .i64 T, .int .i64 N, .slice ra R.length rc] 24)) w1) := hB1
        obtain ⟨b0, b1, b2, hR, _, _, hs1⟩ := HBX.out w1 hB1
        have of6 := of6_whole (T := T) (N := N) hR HM.out HF.out HMo.out
        clear hB1 hR wr5)
     | (go_at_call 10; refine of6.mono ?_; rintro e w2 ⟨K, ca, cc, ga, gc, rfl, hB2, hW, hK, hTb⟩
        have HB2 : Hid (Below (w.heap.size + 1) (w.alloc (.cells #[.int .i64 T, .int .i64 N, .slice ra R.length rc] 24)) w2) := HB1.out.trans (hB2.mono hs1)
        have hs2 : w.heap.size + 1 ≤ w2.heap.size := Nat.le_trans hs1 hB2.size
        have HWh : Hid (Whole T N R K) := hW
        have HTb : Hid (TabAt w2 (.slice ca K cc) (.slice ga K gc) (tabC T N R K) (tabG T N R K)) := hTb
        clear hB2 of6 hW hTb b0 b1 b2))
  have hTb2 : TabAt (w2.alloc (.cells #[.slice ca K cc, .slice ga K gc] 34)) (.slice ca K cc) (.slice ga K gc) (tabC T N R K) (tabG T N R K) := HTb.out.below ((Below.refl _ _).alloc (Nat.le_refl _) _)
  have cl := clashes6_any hTb2 (by rw [tabC_len]; omega) (fun i hi => by rw [tabC_len] at hi; rw [tabC_row hi, rowP_len]; omega)
  simp only [World.size_alloc] at cl
  have HTb2 : Hid (TabAt (w2.alloc (.cells #[.slice ca K cc, .slice ga K gc] 34)) (.slice ca K cc) (.slice ga K gc) (tabC T N R K) (tabG T N R K)) := hTb2
  clear hTb2
  obtain ⟨cn, hcn⟩ : ∃ cn, clashN (tabC T N R K) = cn := ⟨_, rfl⟩
  rw [hcn] at cl
  have HCN : Hid (clashN (tabC T N R K) = cn) := hcn
  have HB2A : Hid (Below (w.heap.size + 1) (w.alloc (.cells #[.int .i64 T, .int .i64 N, .slice ra R.length rc] 24)) (w2.alloc (.cells #[.slice ca K cc, .slice ga K gc] 34))) := HB2.out.alloc (by omega) _
  clear hcn
  by_cases hc0 : cn = 0
  · subst hc0
    have hz0 : decide ((0 : Int) < ((0 : Nat) : Int)) = false := by decide
    go_upto_region 11 with
      (go_at_call 11; refine cl.mono ?_; rintro e w3 ⟨rfl, hB3⟩
       have HB3 : Hid (Below (w2.heap.size + 1) (w2.alloc (.cells #[.slice ca K cc, .slice ga K gc] 34)) w3) := hB3
       clear hB3 cl)
    have hs3 : w2.heap.size + 1 ≤ w3.heap.size := by have := HB3.out.size; simpa using this
    have HPB : Hid (∀ wr, Below w3.heap.size w3 wr → PBox T N ra rc ta tc w.heap.size w2.heap.size (.slice ca K cc) (.slice ga K gc) R tok K w w3.heap.size wr) := fun wr hq => by
      have q1 : Below (w.heap.size + 1) (w.alloc (.cells #[.int .i64 T, .int .i64 N, .slice ra R.length rc] 24)) wr := (HB2A.out.trans (HB3.out.mono (by omega))).trans (hq.mono (by omega))
      obtain ⟨a0, a1, a2, a3, a4, a5, a6⟩ := HBX.out wr q1
      have q2 : Below (w2.heap.size + 1) (w2.alloc (.cells #[.slice ca K cc, .slice ga K gc] 34)) wr := HB3.out.trans (hq.mono hs3)
      have q3 : TabAt wr (.slice ca K cc) (.slice ga K gc) (tabC T N R K) (tabG T N R K) := (HTb2.out.below (by simpa using HB3.out)).below hq
      exact ⟨a0, a2, (q2.cell (by simp)).trans (by simp [go_sem]), (q2.cell (by simp)).trans (by simp [go_sem]), a3, a4, q3, a5, hq.size⟩
    have hlr := lr_of HF.out HWh.out (whole_pos HWh.out)
    have HLR : Hid (LRok T N R (allN T N R K).1 (allN T N R K).2) := hlr
    have HOne : Hid (∀ k, k < K → ∀ t, t ≤ T → oneB (cellP T N R (allN T N R K).1 (allN T N R K).2 k t) = true) := clash_one HCN.out
    have HR0 : Hid (PRd T N R tok K w3.heap.size w3 (.slice (some ⟨w3.heap.size, 0, none⟩) 1 1) (.slice none 0 0) [0] [] 0 0 0 (tok.length + 401) (w3.alloc (.cells #[.int .i64 0] 3))) := by
      refine ⟨⟨?_, World.ownsRow_nil _ _ _ _, fun g _ h => (by cases h), fun x hx => (by cases hx), by simp⟩, (Below.refl _ _).alloc (Nat.le_refl _) _, pinv_start, by omega, by omega, rfl, by simp; omega⟩
      have := World.ownsRow_lit (base := w3.heap.size) (e := 3) (size := 1) w3 #[.int .i64 0] 1 (Nat.le_refl _) (by unfold maxLen; omega) rfl
      exact this
    clear hlr hz0
    go_wp2_with fail
    go_loopg [10, 11, 12, 13] (tok.length + 401) (fun n s10 s11 s12 s13 wr => ∃ (sa : Nat) (sl sc : Nat) (ua : Option Addr) (ul uc : Nat) (S : List Nat) (TL : List Tn) (p many lv : Nat), s10 = .slice (some ⟨sa, 0, none⟩) sl sc ∧ s11 = .slice ua ul uc ∧ s12 = .int .i64 p ∧ s13 = .int .i64 many ∧ PRd T N R tok K w3.heap.size w3 (.slice (some ⟨sa, 0, none⟩) sl sc) (.slice ua ul uc) S TL p many lv n wr)
    case atStart => exact ⟨w3.heap.size, 1, 1, none, 0, 0, [0], [], 0, 0, 0, rfl, rfl, rfl, rfl, HR0.out⟩
    case round =>
      clear HR0
      obtain ⟨sa, sl, sc, ua, ul, uc, S, TL, p, many, lv, rfl, rfl, rfl, rfl, hRd⟩ := hrel
      have HRd : Hid (PRd T N R tok K w3.heap.size w3 (.slice (some ⟨sa, 0, none⟩) sl sc) (.slice ua ul uc) S TL p many lv gk wr) := hRd
      have hPB := HPB.out wr hRd.below
      have HPB1 : Hid (PBox T N ra rc ta tc w.heap.size w2.heap.size (.slice ca K cc) (.slice ga K gc) R tok K w w3.heap.size wr) := hPB
      have hfew := hRd.few
      by_cases hmany : many ≤ 400
      · have hsl : sl = S.length := by
          rcases hRd.m.ownS.2 with ⟨e, _⟩ | ⟨g, cap, cur, e, _⟩
          · cases e
          · injection e
        have hul : ul = TL.length := by
          rcases hRd.m.ownT.2 with ⟨e, e2⟩ | ⟨g, cap, cur, e, _⟩
          · injection e with _ e3; omega
          · injection e
        obtain ⟨sh1, sh2, sh3⟩ := hRd.inv.shape HLR.out
        simp only [List.length_map] at sh1
        have hKl : (allN T N R K).2.length = K := HWh.out
        rw [hKl] at sh2 sh3
        obtain ⟨s', hs'⟩ : ∃ s', S.length = s' + 1 := ⟨TL.length, sh1⟩
        have htop : topS ⟨S, TL.map fun x => x.2.2, p, many⟩ = S.getD s' 0 := by unfold topS; simp only [hs']; rfl
        obtain ⟨tp, htp⟩ : ∃ tp, S.getD s' 0 = tp := ⟨_, rfl⟩
        rw [htop, htp] at sh2
        have hpl := hRd.inv.pos
        simp only at hpl
        have hcs := hRd.m.stateAt (by rw [hsl]) (show s' < S.length by omega)
        rw [htp] at hcs
        have hntl := nextT_le HTok.out p
        obtain ⟨nt, hnt⟩ : ∃ nt, nextT T tok p = nt := ⟨_, rfl⟩
        rw [hnt] at hntl
        -- the table's cell
        obtain ⟨cb, co, cc', rk, hcv, k1, hrow⟩ := hPB.tab.cells.2 tp (by rw [tabC_len]; exact sh2)
        rw [tabC_len] at hcv
        injection hcv with hca _ hcc
        subst hca
        subst hcc
        rw [tabC_row sh2] at hrow
        obtain ⟨rb2, ro2, rc2, rl, hrk, k2, k3, k4, k5⟩ := hrow.2 nt (by rw [rowP_len]; omega)
        rw [rowP_len] at hrk
        rw [rowP_at hntl] at k2 k4 k5
        obtain ⟨⟨sh, Ru', en⟩, hce⟩ : ∃ x, cellP T N R (allN T N R K).1 (allN T N R K).2 tp nt = x := ⟨_, rfl⟩
        rw [hce] at k2 k4 k5
        simp only at k2 k4 k5
        obtain ⟨ua2, uc2, hrl⟩ := k4.1
        obtain ⟨m2, hm2⟩ : ∃ m2, Ru'.length = m2 := ⟨_, rfl⟩
        rw [hm2] at hrl
        subst hrl
        subst hrk
        have hstep : stepP T R (cellP T N R (allN T N R K).1 (allN T N R K).2) (goP T (allN T N R K).1) tok ⟨S, TL.map fun x => x.2.2, p, many⟩ = stepC R (goP T (allN T N R K).1) ⟨S, TL.map fun x => x.2.2, p, many⟩ (sh, Ru', en) := by
          unfold stepP
          rw [htop, htp]
          simp only
          rw [hnt, hce]
        have HSt : Hid (stepP T R (cellP T N R (allN T N R K).1 (allN T N R K).2) (goP T (allN T N R K).1) tok ⟨S, TL.map fun x => x.2.2, p, many⟩ = stepC R (goP T (allN T N R K).1) ⟨S, TL.map fun x => x.2.2, p, many⟩ (sh, Ru', en)) := hstep
        have HCe : Hid (cellP T N R (allN T N R K).1 (allN T N R K).2 tp nt = (sh, Ru', en)) := hce
        have HTop : Hid (topS ⟨S, TL.map fun x => x.2.2, p, many⟩ = tp) := htop.trans htp
        have HK4 : Hid (ListAt wr wr.heap.size (.slice ua2 m2 uc2) Ru') := k4
        have HNt : Hid (nextT T tok p = nt) := hnt
        have HS3 : Hid (∀ s ∈ S, s < K) := sh3
        have HM2 : Hid (Ru'.length = m2) := hm2
        have HSh1 : Hid (S.length = TL.length + 1) := sh1
        have hsm := hRd.small
        have hnum := hRd.num
        have hub : s' ≤ 1000 := by omega
        have g0 := hPB.g0
        have t0 := hPB.t0
        have i0 : (0 : Int) ≤ (s' : Int) := Int.natCast_nonneg _
        have i1 : (s' : Int) < (s' : Int) + 1 := by omega
        have j0 : (0 : Int) ≤ (tp : Int) := Int.natCast_nonneg _
        have j1 : (tp : Int) < (K : Int) := by omega
        have l0 : (0 : Int) ≤ (nt : Int) := Int.natCast_nonneg _
        have l1 : (nt : Int) < (T : Int) + 1 := by omega
        have hd : (many : Int) ≤ 400 := by omega
        obtain rfl : sl = s' + 1 := by omega
        obtain rfl : ul = s' := by omega
        clear hstep hce htop htp k4 hnt sh3 hm2 sh1 hrow hsl hs' hul hRd hPB
        go_upto_if 46 with fail
        go_cut [14] from 39 to 143 (fun s14 wx => s14 = .int .i64 nt ∧ wx = wr)
        case first =>
          by_cases hpt : p < tok.length
          · obtain ⟨tb', to', tc', hte, _, x1⟩ := HPB1.out.toks.2 p hpt
            injection hte with h5 _ h6
            subst h5
            subst h6
            have hx : tok.getD p 0 = (nt : Int) := by
              rw [← HNt.out]
              unfold nextT
              rw [if_pos hpt]
              have e1 : tok.getD p 0 = tok[p] := by simp [List.getD, hpt]
              have := HTok.out tok[p] (List.getElem_mem hpt)
              rw [e1]
              omega
            rw [hx] at x1
            have p0 : (0 : Int) ≤ (p : Int) := Int.natCast_nonneg _
            have p1 : (p : Int) < (tok.length : Int) := by omega
            clear hx
            go_wp2_with fail
            go_meet
            case rel => exact ⟨rfl, rfl⟩
          · have hd2 : decide ((p : Int) < (tok.length : Int)) = false := decide_eq_false (by omega)
            have hTn : T = nt := by
              rw [← HNt.out]
              unfold nextT
              rw [if_neg hpt]
            subst hTn
            go_wp2_with fail
            go_meet
            case rel => exact ⟨rfl, rfl⟩
        case rest =>
          obtain ⟨rfl, hwc⟩ := hcut
          rw [hwc]
          clear hwc
          have b1 := World.block_lt_of_cell? wr _ t0
          have b2 := World.block_lt_of_cell? wr _ hcs
          have b3 := World.block_lt_of_cell? wr _ k1
          have b4 := World.block_lt_of_cell? wr _ k2
          simp only at b1 b2 b3 b4
          have q0 : (wr.alloc (.cells #[.int .i64 0, .slice none 0 0, .bool false] 50)).cell? ⟨w2.heap.size, 0, none⟩ = _ := (World.cell?_alloc_past _ _ _ b1).trans t0
          have q1 : (wr.alloc (.cells #[.int .i64 0, .slice none 0 0, .bool false] 50)).cell? ⟨sa, ul, none⟩ = _ := (World.cell?_alloc_past _ _ _ b2).trans hcs
          have q2 : (wr.alloc (.cells #[.int .i64 0, .slice none 0 0, .bool false] 50)).cell? ⟨cb, co + tp, none⟩ = _ := (World.cell?_alloc_past _ _ _ b3).trans k1
          have q3 : (wr.alloc (.cells #[.int .i64 0, .slice none 0 0, .bool false] 50)).cell? ⟨rb2, ro2 + nt * 3, none⟩ = _ := (World.cell?_alloc_past _ _ _ b4).trans k2
          have q4 : (wr.alloc (.cells #[.int .i64 0, .slice none 0 0, .bool false] 50)).cell? ⟨rb2, ro2 + nt * 3 + 1, none⟩ = _ := (World.cell?_alloc_past _ _ _ b4).trans k3
          have q5 : (wr.alloc (.cells #[.int .i64 0, .slice none 0 0, .bool false] 50)).cell? ⟨rb2, ro2 + nt * 3 + 2, none⟩ = _ := (World.cell?_alloc_past _ _ _ b4).trans k5
          go_wp2_with fail
          go_cut [15] from 39 to 143 (fun s15 wx => s15 = .pointer (some ⟨wr.heap.size, 0, none⟩) ∧ wx = (wr.alloc (.cells #[.int .i64 sh, .slice ua2 m2 uc2, .bool en] 50)).drew)
          case first =>
            go_region
            all_goals
              go_wp2_with fail
              go_meet
              case rel => exact ⟨by simp, rfl⟩
          case rest =>
            obtain ⟨rfl, hwc⟩ := hcut
            have hBc : Below wr.heap.size wr wc := by rw [hwc]; exact ((Below.refl _ _).alloc (Nat.le_refl _) _).drew
            have e0 : wc.cell? ⟨wr.heap.size, 0, none⟩ = some (.int .i64 sh) := by rw [hwc]; simp [go_sem]
            have e1 : wc.cell? ⟨wr.heap.size, 1, none⟩ = some (.slice ua2 m2 uc2) := by rw [hwc]; simp [go_sem]
            have e2 : wc.cell? ⟨wr.heap.size, 2, none⟩ = some (.bool en) := by rw [hwc]; simp [go_sem]
            have HBc : Hid (Below wr.heap.size wr wc) := hBc
            have hBc3 : Below w3.heap.size w3 wc := HRd.out.below.trans (hBc.mono HPB1.out.size)
            have HB3c : Hid (Below w3.heap.size w3 wc) := hBc3
            have hPBc := HPB.out wc hBc3
            have HPBc : Hid (PBox T N ra rc ta tc w.heap.size w2.heap.size (.slice (some ⟨cb, co, none⟩) K cc) (.slice ga K gc) R tok K w w3.heap.size wc) := hPBc
            have hMc := HRd.out.m.below hBc
            have HMc : Hid (PM w3.heap.size (.slice (some ⟨sa, 0, none⟩) (ul + 1) sc) (.slice ua ul uc) S TL lv wc) := hMc
            have hTLl : TL.length = ul := by
              rcases hMc.ownT.2 with ⟨e, e'⟩ | ⟨g, cap, cur, e, _⟩
              · injection e with _ e3; omega
              · injection e with _ e3; omega
            have hSl : S.length = ul + 1 := by rw [HSh1.out, hTLl]
            clear hwc q0 q1 q2 q3 q4 q5 b1 b2 b3 b4 g0 t0 k1 k2 k3 k5 hcs hBc hBc3
            cases en with
            | true =>
              have hfin := HRd.out.inv.fin HLR.out HTok.out (d := (TL.map fun x => x.2.2).getD 0 []) (by rw [HSt.out]; rfl)
              simp only at hfin
              obtain ⟨dd, hdd⟩ : ∃ dd, (TL.map fun x => x.2.2).getD 0 [] = dd := ⟨_, rfl⟩
              rw [hdd] at hfin
              have hdone : parseN T N R (allN T N R K).1 (allN T N R K).2 tok = .done dd := by
                rw [← HRd.out.run, runP, if_pos (by simpa using hmany)]
                simp only [HSt.out, stepC, if_true]
                rw [hdd]
              have hlen := (parse_sound HLR.out (by rw [show (allN T N R K).2.length = K from HWh.out]; exact HOne.out) HTok.out).1 dd hdone
              have HDn : Hid (parseN T N R (allN T N R K).1 (allN T N R K).2 tok = .done dd) := hdone
              have hT1 : TL.length = 1 := by have := congrArg List.length hfin.2; simpa using this
              obtain rfl : ul = 1 := by omega
              obtain ⟨⟨xr, xk, xf⟩, rfl⟩ := List.length_eq_one_iff.1 hT1
              simp only [List.map_cons, List.map_nil, List.cons.injEq, and_true] at hfin
              obtain ⟨hder, rfl⟩ := hfin
              have hx := hMc.trees (xr, xk, xf) (by simp)
              have hne : xf ≠ [] := fun e => by
                obtain ⟨k, hk⟩ := hder
                cases k with
                | zero => exact hk
                | succ k => obtain ⟨q, _, _, d', he, _⟩ := hk; rw [e] at he; cases he
              rcases hx with ⟨_, he, _⟩ | ⟨_, hfl⟩
              · exact absurd he hne
              · simp only at hfl
                obtain ⟨ug, ucap, hug, _, _⟩ := hMc.ownT.form (by simp)
                injection hug with hu1 hu2 hu3
                subst hu1
                clear hu2 hu3
                obtain ⟨x0', x1'⟩ := hMc.treeAt (g := ug) (cap := uc) (i := 0) rfl (by simp)
                have x0 : wc.cell? ⟨ug, 0, none⟩ = some (.int .i64 xr) := x0'
                have x1 : wc.cell? ⟨ug, 1, none⟩ = some xk := x1'
                clear x0' x1'
                obtain ⟨xa, xn, xc, rfl⟩ := hfl.slice
                have fl := flat6_any lv hfl (fun b hb => hb.1) (by omega)
                clear hMc hPBc hfl hder hlen hdd hdone hne hT1 hTLl hSl
                go_wp2_with
                  (go_at_call 12; refine fl.mono ?_; rintro e w6 ⟨fg, fcap, rfl, hB6, hown6⟩
                   have HL6 : Hid (ListAt w6 w6.heap.size (.slice (some ⟨fg, 0, none⟩) xf.length fcap) xf) := own_listP hown6
                   have HB6 : Hid (Below w.heap.size w w6) := HPBc.out.below.trans (hB6.mono HPBc.out.below.size)
                   clear hB6 hown6 fl)
                refine bodyPost_ret (v := .tuple #[.slice (some ⟨fg, 0, none⟩) xf.length fcap, .int .i64 (-1), .int .i64 0]) (by simp [results, Try.results5, go_sem]) rfl ?_
                exact ⟨_, xf, -1, 0, rfl, HL6.out, .inr ⟨K, HWh.out, hK, .inr (.inr ⟨HW0.out, HCN.out, by rw [HDn.out]; rfl⟩)⟩, HB6.out⟩
            | false =>
              by_cases hsh : 0 ≤ sh
              · obtain ⟨sn, rfl⟩ : ∃ sn : Nat, sh = sn := ⟨sh.toNat, by omega⟩
                have hgo : stepP T R (cellP T N R (allN T N R K).1 (allN T N R K).2) (goP T (allN T N R K).1) tok ⟨S, TL.map fun x => x.2.2, p, many⟩ = .go ⟨S ++ [sn], (TL ++ [termT]).map fun x : Tn => x.2.2, p + 1, many⟩ := by
                  rw [HSt.out]
                  unfold stepC
                  simp only [Bool.false_eq_true, if_false, hsh, if_true, Int.toNat_natCast, List.map_append, List.map_cons, List.map_nil]
                have HGo : Hid (stepP T R (cellP T N R (allN T N R K).1 (allN T N R K).2) (goP T (allN T N R K).1) tok ⟨S, TL.map fun x => x.2.2, p, many⟩ = .go ⟨S ++ [sn], (TL ++ [termT]).map fun x : Tn => x.2.2, p + 1, many⟩) := hgo
                have hM5 := hMc.alloc (.cells #[.int .i64 sn] 3)
                have HM5 : Hid (PM w3.heap.size (.slice (some ⟨sa, 0, none⟩) (ul + 1) sc) (.slice ua ul uc) S TL lv (wc.alloc (.cells #[.int .i64 sn] 3))) := hM5
                have own5 := hM5.ownS
                rw [hSl] at own5
                have hB5 : w3.heap.size ≤ (wc.alloc (.cells #[.int .i64 sn] 3)).heap.size := hM5.size
                have n1 : ul + 1 + 1 ≤ maxLen := by unfold maxLen; omega
                have n2 : (ul + 1 + 1) * 8 ≤ 140737488355328 := by omega
                have n3 : ul + 1 ≤ maxLen := by unfold maxLen; omega
                have n4 : (ul + 1) * 32 ≤ 140737488355328 := by omega
                obtain ⟨i0', hi0, hz0, hz1, hz2⟩ := info_parts Try.infoInt
                obtain ⟨i1', hi1, hy0, hy1, hy2⟩ := info_parts Try.infoTree
                have tok1 : True := trivial
                have HSl : Hid (S.length = ul + 1) := hSl
                have HTl : Hid (TL.length = ul) := hTLl
                have HB5 : Hid (Below w3.heap.size w3 (wc.alloc (.cells #[.int .i64 sn] 3))) := HB3c.out.alloc (by have := HPBc.out.size; omega) _
                clear hMc hPBc hM5 hgo hTLl hSl
                go_wp2_with
                  (first
                   | (at_builtin
                      have _t := tok1
                      go_loud (refine wpList_append_lies _ rfl _ _ _ rfl w3.heap.size 3 i0' _ 1 8 Try.underlying25 hi0 hz0 hz1 hz2 rfl (by omega) (.slice (some ⟨sa, 0, none⟩) (ul + 1) sc) (ul + 1) (S.map fun n : Nat => Value.int .i64 n) rfl own5 ⟨wc.heap.size, 0, none⟩ 1 1 [.int .i64 sn] rfl rfl (World.news_of_block (cs := #[.int .i64 sn]) (t := 3) (fr := (0, 0)) (heap_alloc_new wc _)) (by simp [Value.oneCell']) (by omega) n1 n2 hB5 (wc.heap.size + 1) (by simp) ?_)
                      intro g6 cap6 w6 hown6 hgrow6 hat6 hlt6
                      have hM6 : PM w3.heap.size (.slice (some ⟨g6, 0, none⟩) (ul + 1 + 1) cap6) (.slice ua ul uc) (S ++ [sn]) TL lv w6 := HM5.out.turnS hgrow6 (by simpa [HSl.out] using hown6) (fun g hg => by
                        obtain rfl : g6 = g := by simpa [Value.ownBlock] using hg
                        rcases hat6 with h | h
                        · exact .inl h
                        · exact .inr (by simpa using h))
                      have hM7 := hM6.alloc (.cells #[.int .i64 (-1), .slice none 0 0] 54)
                      have HM7 : Hid (PM w3.heap.size (.slice (some ⟨g6, 0, none⟩) (ul + 1 + 1) cap6) (.slice ua ul uc) (S ++ [sn]) TL lv (w6.alloc (.cells #[.int .i64 (-1), .slice none 0 0] 54))) := hM7
                      have own7 := hM7.ownT
                      rw [HTl.out] at own7
                      have hB7 : w3.heap.size ≤ (w6.alloc (.cells #[.int .i64 (-1), .slice none 0 0] 54)).heap.size := hM7.size
                      have HB7 : Hid (Below w3.heap.size w3 (w6.alloc (.cells #[.int .i64 (-1), .slice none 0 0] 54))) := (HB5.out.grown hgrow6 hB5 (fun k hk => (own5.lt k hk).1)).alloc hM6.size _
                      clear tok1 hown6 hgrow6 hat6 hlt6 hM6 hM7 own5)
                   | (at_builtin
                      have _t := own7
                      refine wpList_append_lies _ rfl _ _ _ rfl w3.heap.size 54 i1' _ 2 32 Try.underlying48 hi1 hy0 hy1 hy2 rfl (by omega) (.slice ua ul uc) ul (flatTn TL) rfl own7
                        ⟨w6.heap.size, 0, none⟩ 1 1 [.int .i64 (-1), .slice none 0 0] rfl rfl (World.news_of_block (cs := #[.int .i64 (-1), .slice none 0 0]) (t := 54) (fr := (0, 0)) (heap_alloc_new w6 _)) (by simp [Value.oneCell']) (by omega) n3 n4 hB7 (w6.heap.size + 1) (by simp) ?_
                      intro g8 cap8 w8 hown8 hgrow8 hat8 hlt8
                      have hM8 : PM w3.heap.size (.slice (some ⟨g6, 0, none⟩) (ul + 1 + 1) cap6) (.slice (some ⟨g8, 0, none⟩) (ul + 1) cap8) (S ++ [sn]) (TL ++ [termT]) lv w8 := HM7.out.turnT hgrow8 (by simpa [HTl.out, flatTn] using hown8) (fun g hg => by
                        obtain rfl : g8 = g := by simpa [Value.ownBlock] using hg
                        rcases hat8 with h | h
                        · exact .inl h
                        · exact .inr (by simpa using h)) (fun x hx => by
                        rcases List.mem_append.1 hx with hx | hx
                        · exact .inl hx
                        · simp only [List.mem_singleton] at hx
                          subst hx
                          exact .inr ⟨by decide, rfl, _, _, _, rfl⟩)
                      have HM8 : Hid (PM w3.heap.size (.slice (some ⟨g6, 0, none⟩) (ul + 1 + 1) cap6) (.slice (some ⟨g8, 0, none⟩) (ul + 1) cap8) (S ++ [sn]) (TL ++ [termT]) lv w8) := hM8
                      have HB8 : Hid (Below w3.heap.size w3 w8) := HB7.out.grown hgrow8 hB7 (fun k hk => (own7.lt k hk).1)
                      clear own7 hown8 hgrow8 hat8 hlt8 hM8))
                have hnx := HRd.out.next HLR.out HTok.out hmany HGo.out HM8.out HB8.out (by simp)
                go_roundg (gk - 1)
                case measure => exact hnx.1
                case rel => exact ⟨_, _, _, _, _, _, _, _, _, _, _, rfl, rfl, by go_num, rfl, hnx.2⟩
              · have hshd : decide (0 ≤ sh) = false := decide_eq_false hsh
                cases hRu : Ru' with
                | nil =>
                  have hm20 : m2 = 0 := by rw [← HM2.out, hRu]; rfl
                  subst hm20
                  have hno : parseN T N R (allN T N R K).1 (allN T N R K).2 tok = .none p := by
                    rw [← HRd.out.run, runP, if_pos (by simpa using hmany)]
                    simp only [HSt.out, stepC, hRu, if_neg hsh]
                    simp
                  have HDn : Hid (parseN T N R (allN T N R K).1 (allN T N R K).2 tok = .none p) := hno
                  have HBw : Hid (Below w.heap.size w wc) := hPBc.below
                  clear hMc hPBc hno hTLl hSl hRu
                  go_wp2_with fail
                  refine bodyPost_ret (v := .tuple #[.slice none 0 0, .int .i64 p, .int .i64 0]) (by simp [results, Try.results5, go_sem]) rfl ?_
                  exact ⟨_, [], p, 0, rfl, ⟨⟨_, _, rfl⟩, fun p hp => by simp at hp⟩, .inr ⟨K, HWh.out, hK, .inr (.inr ⟨HW0.out, HCN.out, by rw [HDn.out]; rfl⟩)⟩, HBw.out⟩
                | cons q rest =>
                  obtain ⟨m, rfl, hmR, hdn⟩ := rules_done (T := T) (N := N) (R := R) (NL := (allN T N R K).1) (Ls := (allN T N R K).2) (k := tp) (t := nt) (q := q) (by rw [HCe.out, hRu]; simp)
                  obtain ⟨_, hr1, hr2, gg, hr3⟩ := HRd.out.inv.red HLR.out (t := nt) (m := m) (by rw [HTop.out, HCe.out, hRu]; simp)
                  rw [show (allN T N R K).2.length = K from HWh.out] at hr2
                  simp only [List.length_map] at hr1 hr2 hr3
                  rw [hTLl] at hr1 hr2 hr3
                  obtain ⟨⟨L, Rt⟩, hre⟩ : ∃ x, R.getD m (0, []) = x := ⟨_, rfl⟩
                  have hLb := HF.out.left (R.getD m (0, [])) (by simp [List.getD, hmR])
                  rw [hre] at hr1 hr2 hr3 hLb
                  simp only at hr1 hr2 hr3 hLb
                  obtain ⟨rl8, hrl8⟩ : ∃ x, Rt.length = x := ⟨_, rfl⟩
                  rw [hrl8] at hr1 hr2 hr3
                  obtain ⟨kp, rfl⟩ : ∃ kp, ul = kp + rl8 := ⟨ul - rl8, by omega⟩
                  rw [show kp + rl8 - rl8 = kp by omega] at hr2 hr3
                  obtain ⟨qs, hqs⟩ : ∃ x, S.getD kp 0 = x := ⟨_, rfl⟩
                  rw [hqs] at hr2 hr3
                  have hgo : stepP T R (cellP T N R (allN T N R K).1 (allN T N R K).2) (goP T (allN T N R K).1) tok ⟨S, TL.map fun x => x.2.2, p, many⟩ = .go ⟨S.take (kp + 1) ++ [gg], (TL.map fun x => x.2.2).take kp ++ [(m : Int) :: ((TL.map fun x => x.2.2).drop kp).flatten], p, many + 1⟩ := by
                    rw [HSt.out, hRu]
                    unfold stepC
                    simp only [Bool.false_eq_true, if_false, if_neg hsh]
                    unfold redP
                    simp only [Int.toNat_natCast, List.length_map, hTLl, hre, hrl8]
                    rw [show kp + rl8 - rl8 = kp by omega, hqs, hr3]
                    simp
                  have HGo : Hid (stepP T R (cellP T N R (allN T N R K).1 (allN T N R K).2) (goP T (allN T N R K).1) tok ⟨S, TL.map fun x => x.2.2, p, many⟩ = .go ⟨S.take (kp + 1) ++ [gg], (TL.map fun x => x.2.2).take kp ++ [(m : Int) :: ((TL.map fun x => x.2.2).drop kp).flatten], p, many + 1⟩) := hgo
                  -- the rule
                  have hm2e : m2 = rest.length + 1 := by rw [← HM2.out, hRu]; rfl
                  obtain ⟨lb, lo, lc, hle, hlb, y0⟩ := HK4.out.2 0 (by rw [hRu]; simp)
                  rw [HM2.out] at hle
                  injection hle with hl1 _ hl3
                  subst hl1
                  subst hl3
                  rw [hRu] at y0
                  have y0c : wc.cell? ⟨lb, lo, none⟩ = some (.int .i64 m) := (HBc.out.cell (p := ⟨lb, lo, none⟩) hlb).trans y0
                  obtain ⟨rb, ro, rcc, qa, qc, hrv, _, z1, z2, _, _⟩ := hPBc.rules.2 m hmR
                  injection hrv with hv1 _ hv3
                  subst hv1
                  subst hv3
                  rw [hre] at z1 z2
                  simp only at z1 z2
                  rw [hrl8] at z2
                  have z2' : wc.cell? ⟨rb, ro + m * 2 + 1, none⟩ = some (.slice qa rl8 qc) := by rw [Nat.add_assoc]; exact z2
                  have g2c := hPBc.g2
                  have c1 := World.block_lt_of_cell? wc _ g2c
                  have c2 := World.block_lt_of_cell? wc _ e1
                  have c3 := World.block_lt_of_cell? wc _ y0c
                  have c4 := World.block_lt_of_cell? wc _ z1
                  simp only at c1 c2 c3 c4
                  have d1 : (wc.alloc (.cells #[.int .i64 0, .slice none 0 0] 57)).cell? ⟨w.heap.size, 2, none⟩ = _ := (World.cell?_alloc_past _ _ _ c1).trans g2c
                  have d2 : (wc.alloc (.cells #[.int .i64 0, .slice none 0 0] 57)).cell? ⟨wr.heap.size, 1, none⟩ = _ := (World.cell?_alloc_past _ _ _ c2).trans e1
                  have d3 : (wc.alloc (.cells #[.int .i64 0, .slice none 0 0] 57)).cell? ⟨lb, lo, none⟩ = _ := (World.cell?_alloc_past _ _ _ c3).trans y0c
                  have d4 : (wc.alloc (.cells #[.int .i64 0, .slice none 0 0] 57)).cell? ⟨rb, ro + m * 2, none⟩ = _ := (World.cell?_alloc_past _ _ _ c4).trans z1
                  have d5 : (wc.alloc (.cells #[.int .i64 0, .slice none 0 0] 57)).cell? ⟨rb, ro + m * 2 + 1, none⟩ = _ := (World.cell?_alloc_past _ _ _ c4).trans z2'
                  have v0 : (0 : Int) ≤ (m : Int) := Int.natCast_nonneg _
                  have v1 : (m : Int) < (R.length : Int) := by omega
                  have hmm2 : (0 : Int) < (m2 : Int) := by omega
                  have hm2n : ((m2 : Int) == 0) = false := by simp; omega
                  have HRu : Hid (Ru' = (m : Int) :: rest) := hRu
                  have HMM : Hid (PM w3.heap.size (.slice (some ⟨sa, 0, none⟩) (kp + rl8 + 1) sc) (.slice ua (kp + rl8) uc) S TL lv wc) := hMc
                  have HTl : Hid (TL.length = kp + rl8) := hTLl
                  have HSl : Hid (S.length = kp + rl8 + 1) := hSl
                  have HQs : Hid (S.getD kp 0 = qs) := hqs
                  have HR3 : Hid (goP T (allN T N R K).1 qs L.toNat = (gg : Int)) := hr3
                  clear hgo hMc hPBc hRu hm2e hre hrl8 hTLl hSl hqs hr3 y0 z2
                  obtain ⟨wA, hwA⟩ : ∃ wA, wA = wc := ⟨_, rfl⟩
                  subst hwA
                  go_wp2_with fail
                  go_cut [16] from 39 to 143 (fun s16 wx => s16 = .pointer (some ⟨wA.heap.size, 0, none⟩) ∧ wx = (wA.alloc (.cells #[.int .i64 L, .slice qa rl8 qc] 57)).drew)
                  case first =>
                    go_region
                    all_goals
                      go_wp2_with fail
                      go_meet
                      case rel => exact ⟨by simp, rfl⟩
                  case rest =>
                    obtain ⟨rfl, hw6⟩ := hcut
                    have hB6 : Below wA.heap.size wA wc := by rw [hw6]; exact ((Below.refl _ _).alloc (Nat.le_refl _) _).drew
                    have r0 : wc.cell? ⟨wA.heap.size, 0, none⟩ = some (.int .i64 L) := by rw [hw6]; simp [go_sem]
                    have r1 : wc.cell? ⟨wA.heap.size, 1, none⟩ = some (.slice qa rl8 qc) := by rw [hw6]; simp [go_sem]
                    have HM6 : Hid (PM w3.heap.size (.slice (some ⟨sa, 0, none⟩) (kp + rl8 + 1) sc) (.slice ua (kp + rl8) uc) S TL lv wc) := HMM.out.below hB6
                    have HB36 : Hid (Below w3.heap.size w3 wc) := HB3c.out.trans (hB6.mono HMM.out.size)
                    have x1 : wc.cell? ⟨wr.heap.size, 1, none⟩ = some (.slice (some ⟨lb, lo, none⟩) m2 uc2) := (hB6.cell (p := ⟨wr.heap.size, 1, none⟩) c2).trans e1
                    have x2 : wc.cell? ⟨lb, lo, none⟩ = some (.int .i64 m) := (hB6.cell (p := ⟨lb, lo, none⟩) c3).trans y0c
                    clear hw6 d1 d2 d3 d4 d5 e0 e1 e2 y0c z1 z2' g2c c1 c4 v0 v1
                    go_wp2_with fail
                    obtain ⟨Lf, hLf⟩ : ∃ Lf : Nat, L = (Lf : Int) := ⟨L.toNat, by omega⟩
                    subst hLf
                    have hsm : kp + rl8 + 1 ≤ 1000 := by
                      have := HRd.out.small.2
                      have := HSl.out
                      omega
                    have huc : kp + rl8 ≤ uc := by
                      have ho := HM6.out.ownT
                      rw [HTl.out] at ho
                      obtain ⟨_, ⟨hx, _⟩ | ⟨_, _, _, hx, _, _, h5, _⟩⟩ := ho
                      · injection hx with _ hx2
                        omega
                      · injection hx with _ _ hx3
                        omega
                    have hscc : kp + rl8 + 1 ≤ sc := by
                      have ho := HM6.out.ownS
                      rw [HSl.out] at ho
                      obtain ⟨_, ⟨hx, _⟩ | ⟨_, _, _, hx, _, _, h5, _⟩⟩ := ho
                      · cases hx
                      · injection hx with _ _ hx3
                        omega
                    have HX1 : Hid (wc.cell? ⟨wr.heap.size, 1, none⟩ = some (.slice (some ⟨lb, lo, none⟩) m2 uc2)) := x1
                    have HX2 : Hid (wc.cell? ⟨lb, lo, none⟩ = some (.int .i64 m)) := x2
                    have HR0 : Hid (wc.cell? ⟨wA.heap.size, 0, none⟩ = some (.int .i64 Lf)) := r0
                    clear x1 x2 r0 r1
                    obtain ⟨wB, hwB⟩ : ∃ wB, wB = wc := ⟨_, rfl⟩
                    subst hwB
                    go_cut [18] from 39 to 143 (fun s18 wx => ∃ xb g cap, s18 = .pointer (some ⟨xb, 0, none⟩) ∧ Below wB.heap.size wB wx ∧ wB.heap.size ≤ xb ∧ wx.cell? ⟨xb, 0, none⟩ = some (.int .i64 m) ∧ wx.cell? ⟨xb, 1, none⟩ = some (.slice (some ⟨g, 0, none⟩) rl8 cap) ∧ wB.heap.size ≤ g ∧ g < wx.heap.size ∧ (0 < rl8 → wx.ownsRow wB.heap.size 54 2 (.slice (some ⟨g, 0, none⟩) rl8 cap) rl8 (flatTn (TL.drop kp))))
                    case first =>
                      refine reg30_end (W := wB) (KL := TL.drop kp) (n := rl8) (kp := kp) rfl rfl rfl rfl HX1.out HX2.out (by omega) (fun w => slice_low w) (copy_low HM6.out HTl.out (by omega)) ?_
                      intro v0 v1 v2 v3 v4 v5 v6 v7 v8 v9 v11 xb g cap wx q1 q2 q3 q4 q5 q6 q7
                      have HQ : Hid (Below wB.heap.size wB wx ∧ wB.heap.size ≤ xb ∧ wx.cell? ⟨xb, 0, none⟩ = some (.int .i64 m) ∧ wx.cell? ⟨xb, 1, none⟩ = some (.slice (some ⟨g, 0, none⟩) rl8 cap) ∧ wB.heap.size ≤ g ∧ g < wx.heap.size ∧ (0 < rl8 → wx.ownsRow wB.heap.size 54 2 (.slice (some ⟨g, 0, none⟩) rl8 cap) rl8 (flatTn (TL.drop kp)))) := ⟨q1, q2, q3, q4, q5, q6, q7⟩
                      clear q1 q2 q3 q4 q5 q6 q7
                      simp only [Act.put, List.setIfInBounds_toArray, List.set_cons_zero, List.set_cons_succ]
                      go_wp2_with fail
                      go_meet
                      case rel => exact ⟨xb, g, cap, rfl, HQ.out⟩
                    case rest =>
                      go_wp2_with fail
                      obtain ⟨xb, kg, kc, rfl, hBC, hxb, k0, k1, hk2, hk3, hk4⟩ := hcut
                      have HBC : Hid (Below wB.heap.size wB wc) := hBC
                      have HKd : Hid (wB.heap.size ≤ kg ∧ kg < wc.heap.size ∧ (0 < rl8 → wc.ownsRow wB.heap.size 54 2 (.slice (some ⟨kg, 0, none⟩) rl8 kc) rl8 (flatTn (TL.drop kp)))) := ⟨hk2, hk3, hk4⟩
                      have HR1 : Hid (wc.cell? ⟨wA.heap.size, 0, none⟩ = some (.int .i64 Lf)) := (hBC.cell (World.block_lt_of_cell? wB _ HR0.out)).trans HR0.out
                      have HMC : Hid (PM w3.heap.size (.slice (some ⟨sa, 0, none⟩) (kp + rl8 + 1) sc) (.slice ua (kp + rl8) uc) S TL lv wc) := HM6.out.below hBC
                      have HX3 : Hid (wc.cell? ⟨xb, 0, none⟩ = some (.int .i64 m)) := k0
                      have HX4 : Hid (wc.cell? ⟨xb, 1, none⟩ = some (.slice (some ⟨kg, 0, none⟩) rl8 kc)) := k1
                      clear hBC hxb k0 k1 hk2 hk3 hk4
                      obtain ⟨wC, hwC⟩ : ∃ wC, wC = wc := ⟨_, rfl⟩
                      subst hwC
                      go_cut [11] from 39 to 143 (fun s11 wx => ∃ g2 cap2, s11 = .slice (some ⟨g2, 0, none⟩) (kp + 1) cap2 ∧ Below wC.heap.size wC wx ∧ wC.heap.size ≤ g2 ∧ wx.ownsRow wC.heap.size 54 2 (.slice (some ⟨g2, 0, none⟩) (kp + 1) cap2) (kp + 1) (flatTn (TL.take kp) ++ [.int .i64 m, .slice (some ⟨kg, 0, none⟩) rl8 kc]))
                      case first =>
                        refine reg31_end (W := wC) (KL := TL.take kp) (kp := kp) rfl rfl rfl rfl HX3.out HX4.out (by omega) (fun w => slice_high huc w) (copy_high HMC.out HTl.out (by omega)) ?_
                        intro v0 v1 v2 v3 v4 v5 v6 v7 g cap wx q1 q2 q3 q4
                        have HQ : Hid (Below wC.heap.size wC wx ∧ wC.heap.size ≤ g ∧ wx.ownsRow wC.heap.size 54 2 (.slice (some ⟨g, 0, none⟩) (kp + 1) cap) (kp + 1) (flatTn (TL.take kp) ++ [.int .i64 m, .slice (some ⟨kg, 0, none⟩) rl8 kc])) := ⟨q1, q2, q4⟩
                        clear q1 q2 q3 q4
                        simp only [Act.put, List.setIfInBounds_toArray, List.set_cons_zero, List.set_cons_succ]
                        go_wp2_with fail
                        go_meet
                        case rel => exact ⟨g, cap, rfl, HQ.out⟩
                      case rest =>
                        obtain ⟨g2, cap2, rfl, hBD, hg2, hown2⟩ := hcut
                        have HMD : Hid (PM w3.heap.size (.slice (some ⟨sa, 0, none⟩) (kp + rl8 + 1) sc) (.slice (some ⟨g2, 0, none⟩) (kp + 1) cap2) S (TL.take kp ++ [((m : Int), .slice (some ⟨kg, 0, none⟩) rl8 kc, (m : Int) :: ((TL.drop kp).map fun x => x.2.2).flatten)]) (lv + 1) wc) := by
                          have hd : (TL.drop kp).length = rl8 := by rw [List.length_drop, HTl.out]; omega
                          have := HM6.out.made (n := kp) (w1 := wC) HBC.out (by rw [HTl.out]; omega) (by rw [HTl.out]; omega) (g := kg) (cap := kc) (by rw [hd]; exact HKd.out.2.2) HKd.out.1 HKd.out.2.1 (q := (m : Int)) (by omega) hBD (by rw [hd]; exact hown2) hg2
                          rw [hd] at this
                          exact this
                        have HR2 : Hid (wc.cell? ⟨wA.heap.size, 0, none⟩ = some (.int .i64 Lf)) := (hBD.cell (World.block_lt_of_cell? wC _ HR1.out)).trans HR1.out
                        have HBD3 : Hid (Below w3.heap.size w3 wc) := (HB36.out.trans (HBC.out.mono HM6.out.size)).trans (hBD.mono HMC.out.size)
                        clear hBD hg2 hown2
                        obtain ⟨wD, hwD⟩ : ∃ wD, wD = wc := ⟨_, rfl⟩
                        subst hwD
                        obtain ⟨TL2, hTL2⟩ : ∃ TL2, TL2 = TL.take kp ++ [((m : Int), Value.slice (some ⟨kg, 0, none⟩) rl8 kc, (m : Int) :: ((TL.drop kp).map fun x => x.2.2).flatten)] := ⟨_, rfl⟩
                        rw [← hTL2] at HMD
                        have HT2 : Hid (TL2 = TL.take kp ++ [((m : Int), Value.slice (some ⟨kg, 0, none⟩) rl8 kc, (m : Int) :: ((TL.drop kp).map fun x => x.2.2).flatten)]) := hTL2
                        clear hTL2
                        have own0 : (wD.alloc (.cells #[] 3)).ownsRow wD.heap.size 3 1 (.slice (some ⟨wD.heap.size, 0, none⟩) 0 0) 0 [] := ⟨rfl, .inr ⟨wD.heap.size, 0, #[], rfl, Nat.le_refl _, heap_alloc_new _ _, Nat.le_refl _, by decide, rfl, rfl⟩⟩
                        have nws : ∀ j u, ((S.take (kp + 1)).map fun n : Nat => Value.int .i64 n)[j]? = some u → (wD.alloc (.cells #[] 3)).cell? ((⟨sa, 0, none⟩ : Addr).add j) = some u := fun j u hj => by
                          have hjl := (List.getElem?_eq_some_iff.1 hj).1
                          simp only [List.length_map, List.length_take, HSl.out] at hjl
                          have ho := HMD.out.ownS
                          rw [HSl.out] at ho
                          have hc := ho.cellAt j (by omega)
                          rw [Addr.add_lit, Nat.zero_add]
                          have hlt : sa < wD.heap.size := (ho.lt sa rfl).2
                          rw [World.cell?_alloc_past _ _ _ hlt, hc, ← hj, List.map_take, List.getElem?_take, if_pos (by omega)]
                        have nlen : ((S.take (kp + 1)).map fun n : Nat => Value.int .i64 n).length = (kp + 1) * 1 := by simp [HSl.out]
                        obtain ⟨i0', hi0, hz0, hz1, hz2⟩ := info_parts Try.infoInt
                        have y0 : (0 : Int) ≤ (kp : Int) + 1 := by omega
                        have y1 : (kp : Int) + 1 ≤ (sc : Int) := by omega
                        have ywr : IntKind.i64.wrap ((kp : Int) + 1) = (kp : Int) + 1 := IntWalk.i64_in _ (by omega)
                        have ytn : ((kp : Int) + 1).toNat = kp + 1 := by omega
                        have hsc0 : sc ≠ 0 := by omega
                        have hoc : ∀ u ∈ ((S.take (kp + 1)).map fun n : Nat => Value.int .i64 n), u.oneCell' = true := fun u hu => by
                          obtain ⟨n, _, rfl⟩ := List.mem_map.1 hu
                          rfl
                        have tok1 : True := trivial
                        go_upto_region 33 with
                          (at_builtin
                           have _t := tok1
                           go_loud (refine wpList_append_lies _ rfl _ _ _ rfl wD.heap.size 3 i0' _ 1 8 Try.underlying25 hi0 hz0 hz1 hz2 rfl (by omega) (.slice (some ⟨wD.heap.size, 0, none⟩) 0 0) 0 [] rfl own0 ⟨sa, 0, none⟩ (kp + 1) sc ((S.take (kp + 1)).map fun n : Nat => Value.int .i64 n) rfl nlen nws hoc (by omega) (by unfold maxLen; omega) (by omega) (by simp) (wD.heap.size + 1) (by simp) ?_)
                           intro g3 cap3 w4 hown3 hgrow3 hat3 hlt3
                           have hB34 : Below wD.heap.size wD w4 := ((Below.refl _ _).alloc (Nat.le_refl _) _).grown hgrow3 (by simp) (fun k hk => by simp only [Value.ownBlock, Option.some.injEq] at hk; omega)
                           have HME : Hid (PM w3.heap.size (.slice (some ⟨g3, 0, none⟩) (kp + 1) cap3) (.slice (some ⟨g2, 0, none⟩) (kp + 1) cap2) (S.take (kp + 1)) TL2 (lv + 1) w4) := HMD.out.freshS hB34 (by
                             have e : (S.take (kp + 1)).length = kp + 1 := by simp [HSl.out]
                             rw [e]
                             have := hown3.mono HMD.out.size
                             rw [Nat.zero_add, List.nil_append] at this
                             exact this) (fun g hg => by
                             simp only [Value.ownBlock, Option.some.injEq] at hg hat3
                             omega)
                           have HB4 : Hid (Below w3.heap.size w3 w4) := HBD3.out.trans (hB34.mono HMD.out.size)
                           have HR3' : Hid (w4.cell? ⟨wA.heap.size, 0, none⟩ = some (.int .i64 Lf)) := (hB34.cell (World.block_lt_of_cell? wD _ HR2.out)).trans HR2.out
                           clear tok1 hown3 hgrow3 hat3 hlt3 hB34 own0 nws nlen)
                        have hPB4 := HPB.out w4 HB4.out
                        have hSt : (S.take (kp + 1)).length = kp + 1 := by simp [HSl.out]
                        have hNl : ((tabG T N R K).getD qs []).length = N := goto_row HWh.out hr2 (by omega)
                        obtain ⟨gb, go, gc', rv, hgv, y2, hrow⟩ := hPB4.tab.goto.2 qs (by rw [tabG_len]; exact hr2)
                        rw [tabG_len] at hgv
                        injection hgv with hga _ hgc
                        subst hga
                        subst hgc
                        obtain ⟨hb, h0, hc, hrv, _, y3⟩ := hrow.2 Lf (by rw [hNl]; omega)
                        rw [hNl] at hrv
                        subst hrv
                        have hgg := HR3.out
                        rw [Int.toNat_natCast] at hgg
                        rw [tabG_at hr2, hgg] at y3
                        have st4 := HME.out.stateAt (g := g3) (cap := cap3) (i := kp) (by rw [hSt]) (by rw [hSt]; omega)
                        have eq4 : (S.take (kp + 1)).getD kp 0 = qs := by rw [← HQs.out]; simp [List.getD]
                        rw [eq4] at st4
                        have own4 := HME.out.ownS
                        rw [hSt] at own4
                        have hp1 := hPB4.t1
                        clear hPB4 hrow hNl hgg eq4
                        refine reg33_end (W := w4) (B := w3.heap.size) rfl rfl rfl rfl rfl hp1 st4 y2 HR3'.out y3 (by omega) hr2 (by omega) (by omega) HME.out.size own4 ?_
                        intro v0 v1 v2 v3 v4 v5 v6 v7 v8 v9 v10 v11 v12 v13 v14 g5 cap5 wm w5 q1 q2 q3 q4 q5
                        have hM5 : PM w3.heap.size (.slice (some ⟨g5, 0, none⟩) (kp + 1 + 1) cap5) (.slice (some ⟨g2, 0, none⟩) (kp + 1) cap2) (S.take (kp + 1) ++ [gg]) TL2 (lv + 1) w5 := (HME.out.below q1).turnS q2 (by
                          rw [List.length_append, hSt, List.map_append]
                          exact q5) (fun g hg => by
                          obtain rfl : g5 = g := by simpa [Value.ownBlock] using hg
                          rcases q3 with h | h
                          · exact .inl (by rw [h]; rfl)
                          · exact .inr h)
                        have hB5 : Below w3.heap.size w3 w5 := (HB4.out.trans (q1.mono HME.out.size)).grown q2 (Nat.le_trans HME.out.size q1.size) (fun k hk => by
                          simp only [Option.some.injEq] at hk
                          subst hk
                          exact (own4.lt g3 rfl).1)
                        have eTL : (TL2.map fun x : Tn => x.2.2) = (TL.map fun x => x.2.2).take kp ++ [(m : Int) :: ((TL.map fun x => x.2.2).drop kp).flatten] := by
                          rw [HT2.out]
                          simp [List.map_take, List.map_drop]
                        have HNx : Hid (gk - 1 < gk ∧ PRd T N R tok K w3.heap.size w3 (.slice (some ⟨g5, 0, none⟩) (kp + 1 + 1) cap5) (.slice (some ⟨g2, 0, none⟩) (kp + 1) cap2) (S.take (kp + 1) ++ [gg]) TL2 p (many + 1) (lv + 1) (gk - 1) w5) := HRd.out.next HLR.out HTok.out hmany (by rw [eTL]; exact HGo.out) hM5 hB5 (by rw [List.length_append, hSt]; simp [HSl.out])
                        clear q1 q2 q3 q4 q5 hM5 hB5 eTL own4 st4 y2 y3 hp1
                        simp only [Act.put, List.setIfInBounds_toArray, List.set_cons_zero, List.set_cons_succ]
                        go_wp2_with fail
                        go_roundg (gk - 1)
                        case measure => have h1 := HNx.out.1; have h2 := HRd.out.num; omega
                        case rel => exact ⟨_, _, _, _, _, _, _, _, _, _, _, rfl, rfl, rfl, by go_num, HNx.out.2⟩
      · have hd : decide ((many : Int) ≤ 400) = false := decide_eq_false (by omega)
        have HE : Hid (parseN T N R (allN T N R K).1 (allN T N R K).2 tok = .size) := by
          show parseN T N R (allN T N R K).1 (allN T N R K).2 tok = .size
          rw [← hRd.run, runP, if_neg (by simpa using hmany)]
        clear hRd hPB
        go_wp2_with fail
        refine bodyPost_ret (v := .tuple #[.slice none 0 0, .int .i64 0, .int .i64 1]) (by simp [results, Try.results5, go_sem]) rfl ?_
        exact ⟨_, [], 0, 1, rfl, ⟨⟨_, _, rfl⟩, fun p hp => by simp at hp⟩, .inr ⟨K, HWh.out, hK, .inr (.inr ⟨HW0.out, HCN.out, by rw [HE.out]; rfl⟩)⟩, HPB1.out.below⟩
  · have hcp : (0 : Int) < (cn : Int) := by omega
    go_wp2_with
      (go_at_call 11; refine cl.mono ?_; rintro e w3 ⟨rfl, hB3⟩
       have HB3 : Hid (Below w.heap.size w w3) := (HBX.out w3 (HB2A.out.trans (hB3.mono (by omega)))).2.2.2.2.2.1
       clear hB3 cl)
    refine bodyPost_ret (v := .tuple #[.slice none 0 0, .int .i64 0, .int .i64 4]) (by simp [results, Try.results5, go_sem]) rfl ?_
    exact ⟨_, [], 0, 4, rfl, ⟨⟨_, _, rfl⟩, fun p hp => by simp at hp⟩, .inr ⟨K, HWh.out, hK, .inr (.inl ⟨HW0.out, by rw [HCN.out]; omega, rfl⟩)⟩, HB3.out⟩

set_option maxRecDepth 100000 in
set_option maxHeartbeats 6400000 in
theorem parse6_whole {w : World} {T N : Nat} {rv tv : Value} {R : List Ru} {tok : List Int} (hr : RulesAt w w.heap.size rv R) (ht : ListAt w w.heap.size tv tok) (hm : mayB T N R = true) (hM : ¬ More T N R 150) :
    Calls Try.prog 5 #[.agg #[.int .i64 T, .int .i64 N, rv], tv] w fun e w' => ∃ dv D a x, e = .returned (.tuple #[dv, .int .i64 a, .int .i64 x]) ∧ ListAt w' w'.heap.size dv D ∧ ParseIs T N R tok (D, a, x) ∧ Below w.heap.size w w' := by
  by_cases hz : wrongE T N R tok = 0
  · exact parse6_run hr ht hm hM hz
  obtain ⟨hT, hN1, hN, hRl, hfine⟩ := may_fine hm
  have hf := may_FineR hm
  obtain ⟨ra, rc, hrv⟩ := hr.1
  obtain ⟨ta, tc, htv⟩ := ht.1
  subst hrv
  subst htv
  have wr5 := wrong5_any (T := T) (N := N) (hr.boxed (.cells #[.int .i64 T, .int .i64 N, .slice ra R.length rc] 24)) (ht.boxed (.cells #[.int .i64 T, .int .i64 N, .slice ra R.length rc] 24))
  simp only [World.size_alloc] at wr5
  obtain ⟨we, hwe⟩ : ∃ we, wrongE T N R tok = we := ⟨_, rfl⟩
  have hw2 : we ≠ 2 := by
    rw [← hwe]
    unfold wrongE
    rw [hm]
    simp only [Bool.true_eq_false, if_false]
    split
    · decide
    · split <;> decide
  rw [hwe] at wr5
  have HWE : Hid (wrongE T N R tok = we) := hwe
  have HBX : Hid (∀ wq, Below (w.heap.size + 1) (w.alloc (.cells #[.int .i64 T, .int .i64 N, .slice ra R.length rc] 24)) wq → wq.cell? ⟨w.heap.size, 0, none⟩ = some (.int .i64 T) ∧ wq.cell? ⟨w.heap.size, 1, none⟩ = some (.int .i64 N) ∧ wq.cell? ⟨w.heap.size, 2, none⟩ = some (.slice ra R.length rc) ∧ RulesAt wq wq.heap.size (.slice ra R.length rc) R ∧ ListAt wq wq.heap.size (.slice ta tok.length tc) tok ∧ Below w.heap.size w wq ∧ w.heap.size + 1 ≤ wq.heap.size) := fun wq hq => by
    have hB : Below w.heap.size w wq := ((Below.refl _ _).alloc (Nat.le_refl _) _).trans (hq.mono (by omega))
    exact ⟨(hq.cell (by simp)).trans (by simp [go_sem]), (hq.cell (by simp)).trans (by simp [go_sem]), (hq.cell (by simp)).trans (by simp [go_sem]), (hr.below hB).mono hB.size, (ht.below hB).mono hB.size, hB, by have := hq.size; simpa using this⟩
  have HM : Hid (mayB T N R = true) := hm
  have HF : Hid (Fine T N R) := hf
  have hb2 : (we == 2) = false := by simpa using hw2
  clear hr ht hm hf hwe hfine
  have HMo : Hid (¬ More T N R 150) := hM
  clear hM
  have hw0 : we ≠ 0 := fun e => hz (HWE.out.trans e)
  · have hb0 : (we != 0) = true := by simpa using hw0
    go_enter Try.func5, Try.ntmps5
    go_wp2_with
      (first
       | (go_at_call 9; refine wr5.mono ?_; rintro e w1 ⟨rfl, hB1⟩
          have HB1 : Hid (Below (w.heap.size + 1) (w.alloc (.cells #[.int .i64 T, .int .i64 N, .slice ra R.length rc] 24)) w1) := hB1
          obtain ⟨b0, b1, b2, hR, _, _, hs1⟩ := HBX.out w1 hB1
          have of6 := of6_whole (T := T) (N := N) hR HM.out HF.out HMo.out
          clear hB1 hR wr5)
       | (go_at_call 10; refine of6.mono ?_; rintro e w2 ⟨K, ca, cc, ga, gc, rfl, hB2, hW, hK, _⟩
          have HB2 : Hid (Below w.heap.size w w2) := (HBX.out w2 (HB1.out.trans (hB2.mono hs1))).2.2.2.2.2.1
          have hs2 : w1.heap.size ≤ w2.heap.size := hB2.size
          have HWh : Hid (Whole T N R K) := hW
          clear hB2 of6 hW))
    refine bodyPost_ret (v := .tuple #[.slice none 0 0, .int .i64 0, .int .i64 we]) (by simp [results, Try.results5, go_sem]) rfl ?_
    exact ⟨_, [], 0, we, rfl, ⟨⟨_, _, rfl⟩, fun p hp => by simp at hp⟩, .inr ⟨K, HWh.out, hK, .inl ⟨by rw [HWE.out]; exact hw0, by rw [HWE.out]⟩⟩, HB2.out.alloc (by omega) _⟩

end Go.Proofs.Ytmnechdmgmbpeaa
