import Derived.Test.YtkkcmcckdaobmaaPrParseAndThrMem
import Derived.Test.YtkkcmcckdaobmaaThrAndInts1
import Derived.Test.YtkkcmcckdaobmaaOf6
import Derived.Test.YtkkcmcckdaobmaaRows
import Derived.Test.YtkkcmcckdaobmaaMathAndNull2
import Derived.ProofKit
import Derived.Deep.SlicePairs
/- The law pollardinglaw.ParseFinds: it returns true. -/
namespace Go.Proofs.Ytkkcmcckdaobmaa
open Go.RowKit

/-- What can be read of the law's arguments, later. -/
structure LawBoxF (w : World) (T N : Int) (rv dv : Value) (R : List Ru) (D : List Int) (wq : World) : Prop where
  c0 : wq.cell? ⟨w.heap.size, 0, none⟩ = some (.int .i64 T)
  c1 : wq.cell? ⟨w.heap.size, 1, none⟩ = some (.int .i64 N)
  c2 : wq.cell? ⟨w.heap.size, 2, none⟩ = some rv
  rules : RulesAt wq wq.heap.size rv R
  list : ListAt wq wq.heap.size dv D
  below : Below w.heap.size w wq
  size : w.heap.size + 1 ≤ wq.heap.size

theorem lawBoxF {w : World} {T N : Int} {rv dv : Value} {R : List Ru} {D : List Int} (hr : RulesAt w w.heap.size rv R) (ht : ListAt w w.heap.size dv D) : ∀ wq, Below (w.heap.size + 1) (w.alloc (.cells #[.int .i64 T, .int .i64 N, rv] 24)) wq → LawBoxF w T N rv dv R D wq := fun wq hq => by
  have hB : Below w.heap.size w wq := ((Below.refl _ _).alloc (Nat.le_refl _) _).trans (hq.mono (by omega))
  exact ⟨(hq.cell (by simp)).trans (by simp [go_sem]), (hq.cell (by simp)).trans (by simp [go_sem]), (hq.cell (by simp)).trans (by simp [go_sem]), (hr.below hB).mono hB.size, (ht.below hB).mono hB.size, hB, by have := hq.size; simpa using this⟩
theorem LawBoxF.later {w : World} {T N : Int} {rv dv : Value} {R : List Ru} {D : List Int} {wq w' : World} (h : LawBoxF w T N rv dv R D wq) (hb : Below wq.heap.size wq w') : LawBoxF w T N rv dv R D w' := by
  have hs := h.size
  exact ⟨(hb.cell (by simp only; omega)).trans h.c0, (hb.cell (by simp only; omega)).trans h.c1, (hb.cell (by simp only; omega)).trans h.c2, (h.rules.below hb).mono hb.size, (h.list.below hb).mono hb.size, h.below.trans (hb.mono (by omega)), Nat.le_trans hs hb.size⟩

theorem own_listF {w : World} {B : Nat} {v : Value} {Y : List Int} (h : w.ownsRow B 3 1 v Y.length (Y.map (Value.int .i64))) : ListAt w w.heap.size v Y := by
  obtain ⟨a, c, hv⟩ := own_form h
  refine ⟨⟨a, c, hv⟩, fun p hp => ?_⟩
  obtain ⟨g, cap, hg, _, hlt⟩ := h.form (by omega)
  refine ⟨g, 0, cap, hg, hlt, ?_⟩
  rw [hg] at h
  rw [Nat.zero_add, h.cellAt p (by omega)]
  simp [List.getD, hp]

/-- A grammar of one rule, by which the name 0 becomes nothing. -/
theorem one_rules (w : World) (o : Obj) : RulesAt ((w.alloc (.cells #[.int .i64 0, .slice none 0 0] 31)).alloc o) ((w.alloc (.cells #[.int .i64 0, .slice none 0 0] 31)).alloc o).heap.size (.slice (some ⟨w.heap.size, 0, none⟩) 1 1) R1 := by
  refine ⟨⟨_, _, rfl⟩, fun q hq => ?_⟩
  have : q = 0 := by simpa using hq
  subst this
  refine ⟨w.heap.size, 0, 1, none, 0, rfl, by simp; omega, ?_, ?_, by simp, fun j hj => by simp at hj⟩
  · rw [World.cell?_alloc_past _ _ _ (by simp)]
    simp [go_sem]
  · rw [World.cell?_alloc_past _ _ _ (by simp)]
    simp [go_sem]

/-- The program's parse of it. -/
theorem one_call (w1 : World) : Calls Try.prog 5 #[.agg #[.int .i64 0, .int .i64 1, .slice (some ⟨w1.heap.size, 0, none⟩) 1 1], .slice none 0 0] ((w1.alloc (.cells #[.int .i64 0, .slice none 0 0] 31)).alloc (.cells #[.int .i64 0, .int .i64 1, .slice (some ⟨w1.heap.size, 0, none⟩) 1 1] 24)) fun e w' => ∃ xa xc, e = .returned (.tuple #[.slice xa 1 xc, .int .i64 (-1), .int .i64 0]) ∧ Below w1.heap.size w1 w' := by
  have := parse_any (w := (w1.alloc (.cells #[.int .i64 0, .slice none 0 0] 31)).alloc (.cells #[.int .i64 0, .int .i64 1, .slice (some ⟨w1.heap.size, 0, none⟩) 1 1] 24)) (T := 0) (N := 1) (tok := []) (one_rules w1 _) (list_nil _) (by decide)
  refine Calls.mono this fun e w' ⟨dv, D, a, x, h1, h2, h3, h4⟩ => ?_
  cases h3.one one_parse
  obtain ⟨xa, xc, hdv⟩ := h2.1
  simp only [List.length_singleton] at hdv
  subst hdv
  exact ⟨xa, xc, h1, (((Below.refl _ _).alloc (Nat.le_refl _) _).alloc (by simp) _).trans (h4.mono (by simp; omega))⟩

set_option maxRecDepth 100000 in
set_option maxHeartbeats 1600000 in
theorem parseFinds_none {w : World} {T N : Int} {rv dv : Value} {R : List Ru} {D : List Int} (hr : RulesAt w w.heap.size rv R) (hd : ListAt w w.heap.size dv D) (hn : mayB T N R = true → readF R D = none) :
    Calls Try.prog 3 #[.agg #[.int .i64 T, .int .i64 N, rv], dv] w fun e w' => e = .returned (.bool true) ∧ Below w.heap.size w w' := by
  obtain ⟨ra, rc, hrv⟩ := hr.1
  obtain ⟨da, dc, hdv⟩ := hd.1
  subst hrv
  subst hdv
  have thr : Calls Try.prog 4 #[.agg #[.int .i64 T, .int .i64 N, .slice ra R.length rc], .slice da D.length dc] (w.alloc (.cells #[.int .i64 T, .int .i64 N, .slice ra R.length rc] 24)) fun e w' => e = .returned noThrough ∧ Below (w.alloc (.cells #[.int .i64 T, .int .i64 N, .slice ra R.length rc] 24)).heap.size (w.alloc (.cells #[.int .i64 T, .int .i64 N, .slice ra R.length rc] 24)) w' := by
    cases hm : mayB T N R with
    | false => exact thr_not (hr.boxed _) (.inl hm)
    | true => exact thr_none (hr.boxed _) (hd.boxed _) hm (hn hm)
  unfold noThrough at thr
  simp only [World.size_alloc] at thr
  have HB0 : Hid (Below w.heap.size w (w.alloc (.cells #[.int .i64 T, .int .i64 N, .slice ra R.length rc] 24))) := (Below.refl _ _).alloc (Nat.le_refl _) _
  clear hr hd hn
  go_enter Try.func3, Try.ntmps3
  go_wp2_with
    (first
     | (go_at_call 4; refine thr.mono ?_; rintro e w1 ⟨rfl, hB1⟩
        have HB1 : Hid (Below w.heap.size w w1) := HB0.out.trans (hB1.mono (by simp))
        have one := one_call w1
        clear hB1 thr)
     | (go_at_call 5; refine one.mono ?_; rintro e w2 ⟨xa, xc, rfl, hB2⟩
        have HB2 : Hid (Below w.heap.size w w2) := HB1.out.trans (hB2.mono HB1.out.size)
        clear hB2 one))
  go_ret
  exact ⟨rfl, HB2.out⟩

/-- What a parse of what a derivation yields can be. -/
theorem found_is {T N : Nat} {R : List Ru} {D Y : List Int} {z : List Int × Int × Int} (hm : mayB T N R = true) (hD : DerD R 0 D Y) (hl : D.length ≤ 400) (hi : inB T Y = true) (h : ParseIs T N R Y z) :
    (More T N R 150 ∧ z = ([], 0, 1)) ∨ (¬ More T N R 150 ∧ ∃ K, Whole T N R K ∧ K ≤ 150 ∧ ((30 < Y.length ∧ z = ([], 0, 1)) ∨ (0 < clashN (tabC T N R K) ∧ z = ([], 0, 4)) ∨ z = (D, -1, 0))) := by
  rcases h with ⟨h1, h2⟩ | ⟨K, h1, h2, ⟨h3, h4⟩ | ⟨h3, h4, h5⟩ | ⟨h3, h4, h5⟩⟩
  · exact .inl ⟨h1, h2⟩
  · refine .inr ⟨whole_or h1 h2, K, h1, h2, .inl ?_⟩
    by_cases h30 : 30 < Y.length
    · have e : wrongE T N R Y = 1 := by simp [wrongE, hm, h30]
      rw [e] at h4
      exact ⟨h30, h4⟩
    · exact absurd (by simp [wrongE, hm, h30, hi]) h3
  · exact .inr ⟨whole_or h1 h2, K, h1, h2, .inr (.inl ⟨h4, h5⟩)⟩
  · refine .inr ⟨whole_or h1 h2, K, h1, h2, .inr (.inr ?_)⟩
    have := (parse_finds (lr_of (may_FineR hm) h1 (whole_pos h1)) (by rw [show (allN T N R K).2.length = K from h1]; exact clash_one h4) (tok_of hi) hD).1 hl
    rw [h5, this]
    rfl

set_option maxRecDepth 100000 in
set_option maxHeartbeats 3200000 in
theorem parseFinds_some {w : World} {T N : Nat} {rv dv : Value} {R : List Ru} {D : List Int} {st : St} (hr : RulesAt w w.heap.size rv R) (hd : ListAt w w.heap.size dv D) (hm : mayB T N R = true) (hn : readF R D = some st) :
    Calls Try.prog 3 #[.agg #[.int .i64 T, .int .i64 N, rv], dv] w fun e w' => e = .returned (.bool true) ∧ Below w.heap.size w w' := by
  obtain ⟨hT8, hN1, hN8, hRl, _⟩ := may_fine hm
  obtain ⟨ra, rc, hrv⟩ := hr.1
  obtain ⟨da, dc, hdv⟩ := hd.1
  subst hrv
  subst hdv
  have HBX : Hid (∀ wq, Below (w.heap.size + 1) (w.alloc (.cells #[.int .i64 T, .int .i64 N, .slice ra R.length rc] 24)) wq → LawBoxF w T N (.slice ra R.length rc) (.slice da D.length dc) R D wq) := lawBoxF hr hd
  have thr := thr_some (T := T) (N := N) (hr.boxed (.cells #[.int .i64 T, .int .i64 N, .slice ra R.length rc] 24)) (hd.boxed (.cells #[.int .i64 T, .int .i64 N, .slice ra R.length rc] 24)) hm hn
  simp only [World.size_alloc] at thr
  obtain ⟨hD, hl4⟩ := read_derD hn
  have hI : inB T st.Y = true := der_in hm (read_der hn)
  have HM : Hid (mayB T N R = true) := hm
  obtain ⟨Y, hY⟩ : ∃ Y, st.Y = Y := ⟨_, rfl⟩
  rw [hY] at thr hD hI
  obtain ⟨yl, hyl⟩ : ∃ n, Y.length = n := ⟨_, rfl⟩
  have HYl : Hid (Y.length = yl) := hyl
  rw [hyl] at thr
  obtain ⟨⟨X, a, x⟩, hA⟩ : ∃ z, ParseIs T N R Y z := by
    by_cases hM : More T N R 150
    · exact ⟨_, .inl ⟨hM, rfl⟩⟩
    · obtain ⟨K, hW, hK⟩ := not_more (by omega) hM
      by_cases hw : wrongE T N R Y = 0
      · by_cases hc : clashN (tabC T N R K) = 0
        · exact ⟨_, .inr ⟨K, hW, hK, .inr (.inr ⟨hw, hc, rfl⟩)⟩⟩
        · exact ⟨_, .inr ⟨K, hW, hK, .inr (.inl ⟨hw, by omega, rfl⟩)⟩⟩
      · exact ⟨_, .inr ⟨K, hW, hK, .inl ⟨hw, rfl⟩⟩⟩
  have hfi := found_is hm hD hl4 hI hA
  have HPa : Hid (∀ wq ta tc, RulesAt wq wq.heap.size (.slice ra R.length rc) R → ListAt wq wq.heap.size (.slice ta yl tc) Y → Calls Try.prog 5 #[.agg #[.int .i64 T, .int .i64 N, .slice ra R.length rc], .slice ta yl tc] wq fun e w' => ∃ xa xc, e = .returned (.tuple #[.slice xa X.length xc, .int .i64 a, .int .i64 x]) ∧ ListAt w' w'.heap.size (.slice xa X.length xc) X ∧ Below wq.heap.size wq w') := fun wq ta tc h1 h2 => by
    refine (parse_any h1 h2 HM.out).mono fun e w' ⟨dv, X', a', x', k1, k2, k3, k4⟩ => ?_
    cases k3.one hA
    obtain ⟨xa, xc, hdv⟩ := k2.1
    subst hdv
    exact ⟨xa, xc, k1, k2, k4⟩
  have HF : Hid (Fine T N R) := may_FineR hm
  clear hr hm hd hn hD hI hA hY hyl
  rcases hfi with ⟨hmo, hz⟩ | ⟨hmo, K, hW, hK, ⟨h30, hz⟩ | ⟨hcl, hz⟩ | hz⟩
  · cases hz
    have HMo : Hid (More T N R 150) := hmo
    clear hmo
    go_enter Try.func3, Try.ntmps3
    go_wp2_with
      (first
       | (go_at_call 4; refine thr.mono ?_; rintro e w1 ⟨ta, tc, sv, rfl, hB1, hown⟩
          have b := HBX.out w1 hB1
          have b0 := b.c0
          have b1 := b.c1
          have b2 := b.c2
          have par := HPa.out w1 ta tc b.rules (own_listF (Y := Y) (by rw [HYl.out]; exact hown))
          have HX1 : Hid (LawBoxF w T N (.slice ra R.length rc) (.slice da D.length dc) R D w1) := b
          clear hB1 b thr hown)
       | (go_at_call 5; refine par.mono ?_; rintro e w2 ⟨xa, xc, rfl, hL2, hB2⟩
          have b := HX1.out.later hB2
          clear b0 b1 b2
          have b0 := b.c0
          have b1 := b.c1
          have b2 := b.c2
          have ref := (of6_any (w := w2) (T := T) (N := N) b.rules HM.out HF.out).mono (R' := fun e w' => e = .returned (.tuple #[.agg #[.slice none 0 0, .slice none 0 0], .bool false]) ∧ Below w2.heap.size w2 w') fun e w' h => by
            rcases h with ⟨h1, h2, _⟩ | ⟨K, cv, gv, _, _, h3, h4, _⟩
            · exact ⟨h1, h2⟩
            · exact absurd HMo.out (whole_or h3 h4)
          have HX2 : Hid (LawBoxF w T N (.slice ra R.length rc) (.slice da D.length dc) R D w2) := b
          clear b hL2 hB2 par)
       | (go_at_call 6; refine ref.mono ?_; rintro e w3 ⟨rfl, hB3⟩
          have HB3 : Hid (Below w.heap.size w (w3.alloc (.cells #[.slice none 0 0, .slice none 0 0] 38))) := (HX2.out.later hB3).below.alloc (HX2.out.later hB3).below.size _
          clear hB3 ref))
    go_ret
    exact ⟨rfl, HB3.out⟩
  · cases hz
    have HMo : Hid (¬ More T N R 150) := hmo
    have HW : Hid (Whole T N R K) := hW
    have j0 : (30 : Int) < (yl : Int) := by have := HYl.out; omega
    clear hmo hW
    go_enter Try.func3, Try.ntmps3
    go_wp2_with
      (first
       | (go_at_call 4; refine thr.mono ?_; rintro e w1 ⟨ta, tc, sv, rfl, hB1, hown⟩
          have b := HBX.out w1 hB1
          have b0 := b.c0
          have b1 := b.c1
          have b2 := b.c2
          have par := HPa.out w1 ta tc b.rules (own_listF (Y := Y) (by rw [HYl.out]; exact hown))
          have HX1 : Hid (LawBoxF w T N (.slice ra R.length rc) (.slice da D.length dc) R D w1) := b
          clear hB1 b thr hown)
       | (go_at_call 5; refine par.mono ?_; rintro e w2 ⟨xa, xc, rfl, hL2, hB2⟩
          have b := HX1.out.later hB2
          clear b0 b1 b2
          have b0 := b.c0
          have b1 := b.c1
          have b2 := b.c2
          have ref := (of6_any (w := w2) (T := T) (N := N) b.rules HM.out HF.out).mono (R' := fun e w' => ∃ ca cc ga gc, e = .returned (.tuple #[.agg #[.slice ca K cc, .slice ga K gc], .bool true]) ∧ Below w2.heap.size w2 w' ∧ TabAt w' (.slice ca K cc) (.slice ga K gc) (tabC T N R K) (tabG T N R K)) fun e w' h => by
            rcases h with ⟨_, _, h2⟩ | ⟨K', cv, gv, h1, h2, h3, _, h5⟩
            · exact absurd h2 HMo.out
            · rw [← whole_one HW.out h3] at h5
              obtain ⟨ca, cc, hcv⟩ := h5.cells.1
              obtain ⟨ga, gc, hgv⟩ := h5.goto.1
              rw [tabC_len] at hcv
              rw [tabG_len] at hgv
              subst hcv
              subst hgv
              exact ⟨ca, cc, ga, gc, h1, h2, h5⟩
          have HX2 : Hid (LawBoxF w T N (.slice ra R.length rc) (.slice da D.length dc) R D w2) := b
          clear b hL2 hB2 par)
       | (go_at_call 6; refine ref.mono ?_; rintro e w3 ⟨ca, cc, ga, gc, rfl, hB3, _⟩
          have HB3 : Hid (Below w.heap.size w (w3.alloc (.cells #[.slice ca K cc, .slice ga K gc] 38))) := (HX2.out.later hB3).below.alloc (HX2.out.later hB3).below.size _
          clear hB3 ref))
    go_ret
    exact ⟨rfl, HB3.out⟩
  · cases hz
    have HMo : Hid (¬ More T N R 150) := hmo
    have HW : Hid (Whole T N R K) := hW
    obtain ⟨cn, hcn⟩ : ∃ cn, clashN (tabC T N R K) = cn := ⟨_, rfl⟩
    have HCN : Hid (clashN (tabC T N R K) = cn) := hcn
    have hz0 : 0 < cn := by omega
    clear hmo hW hcn hcl
    go_enter Try.func3, Try.ntmps3
    go_wp2_with
      (first
       | (go_at_call 4; refine thr.mono ?_; rintro e w1 ⟨ta, tc, sv, rfl, hB1, hown⟩
          have b := HBX.out w1 hB1
          have b0 := b.c0
          have b1 := b.c1
          have b2 := b.c2
          have par := HPa.out w1 ta tc b.rules (own_listF (Y := Y) (by rw [HYl.out]; exact hown))
          have HX1 : Hid (LawBoxF w T N (.slice ra R.length rc) (.slice da D.length dc) R D w1) := b
          clear hB1 b thr hown)
       | (go_at_call 5; refine par.mono ?_; rintro e w2 ⟨xa, xc, rfl, hL2, hB2⟩
          have b := HX1.out.later hB2
          clear b0 b1 b2
          have b0 := b.c0
          have b1 := b.c1
          have b2 := b.c2
          have ref := (of6_any (w := w2) (T := T) (N := N) b.rules HM.out HF.out).mono (R' := fun e w' => ∃ ca cc ga gc, e = .returned (.tuple #[.agg #[.slice ca K cc, .slice ga K gc], .bool true]) ∧ Below w2.heap.size w2 w' ∧ TabAt w' (.slice ca K cc) (.slice ga K gc) (tabC T N R K) (tabG T N R K)) fun e w' h => by
            rcases h with ⟨_, _, h2⟩ | ⟨K', cv, gv, h1, h2, h3, _, h5⟩
            · exact absurd h2 HMo.out
            · rw [← whole_one HW.out h3] at h5
              obtain ⟨ca, cc, hcv⟩ := h5.cells.1
              obtain ⟨ga, gc, hgv⟩ := h5.goto.1
              rw [tabC_len] at hcv
              rw [tabG_len] at hgv
              subst hcv
              subst hgv
              exact ⟨ca, cc, ga, gc, h1, h2, h5⟩
          have HX2 : Hid (LawBoxF w T N (.slice ra R.length rc) (.slice da D.length dc) R D w2) := b
          clear b hL2 hB2 par)
       | (go_at_call 6; refine ref.mono ?_; rintro e w3 ⟨ca, cc, ga, gc, rfl, hB3, hTb⟩
          have HB3 : Hid (Below w.heap.size w (w3.alloc (.cells #[.slice ca K cc, .slice ga K gc] 38))) := (HX2.out.later hB3).below.alloc (HX2.out.later hB3).below.size _
          have cl := clashes6_any (hTb.below ((Below.refl _ _).alloc (Nat.le_refl _) (.cells #[.slice ca K cc, .slice ga K gc] 38))) (by rw [tabC_len]; omega) (fun i hi => by rw [tabC_len] at hi; rw [tabC_row hi, rowP_len]; omega)
          rw [HCN.out] at cl
          clear hB3 ref hTb)
       | (go_at_call 7; refine cl.mono ?_; rintro e w4 ⟨rfl, hB4⟩
          have HB4 : Hid (Below w.heap.size w w4) := HB3.out.trans (hB4.mono HB3.out.size)
          clear hB4 cl))
    go_ret
    exact ⟨rfl, HB4.out⟩
  · cases hz
    clear hmo hW
    go_enter Try.func3, Try.ntmps3
    go_wp2_with
      (first
       | (go_at_call 4; refine thr.mono ?_; rintro e w1 ⟨ta, tc, sv, rfl, hB1, hown⟩
          have b := HBX.out w1 hB1
          have b0 := b.c0
          have b1 := b.c1
          have b2 := b.c2
          have par := HPa.out w1 ta tc b.rules (own_listF (Y := Y) (by rw [HYl.out]; exact hown))
          have HX1 : Hid (LawBoxF w T N (.slice ra R.length rc) (.slice da D.length dc) R D w1) := b
          clear hB1 b thr hown)
       | (go_at_call 5; refine par.mono ?_; rintro e w2 ⟨xa, xc, rfl, hL2, hB2⟩
          have ie := ints_eq hL2 (HX1.out.later hB2).list (by omega)
          have HB2 : Hid (Below w.heap.size w w2) := (HX1.out.later hB2).below
          clear hL2 hB2 par)
       | (go_at_call 8; refine ie.mono ?_; rintro e w4 ⟨rfl, m, rfl⟩))
    go_ret
    exact ⟨rfl, below_drewN HB2.out _⟩

theorem parseFinds_any {w : World} {T N : Int} {rv dv : Value} {R : List Ru} {D : List Int} (hr : RulesAt w w.heap.size rv R) (hd : ListAt w w.heap.size dv D) :
    Calls Try.prog 3 #[.agg #[.int .i64 T, .int .i64 N, rv], dv] w fun e w' => e = .returned (.bool true) ∧ Below w.heap.size w w' := by
  cases hm : mayB T N R with
  | false => exact parseFinds_none hr hd fun h => by rw [hm] at h; cases h
  | true =>
    cases hn : readF R D with
    | none => exact parseFinds_none hr hd fun _ => hn
    | some st =>
      have hh := hm
      simp only [mayB, headB, Bool.and_eq_true, decide_eq_true_eq] at hh
      obtain ⟨t, rfl⟩ : ∃ t : Nat, T = t := ⟨T.toNat, by omega⟩
      obtain ⟨n, rfl⟩ : ∃ n : Nat, N = n := ⟨N.toNat, by omega⟩
      exact parseFinds_some hr hd hm hn

end Go.Proofs.Ytkkcmcckdaobmaa

/- A grammar that came in as data lies in memory as RulesAt says; what the bound on the bulk gives. -/
namespace Go.Proofs.Ytkkcmcckdaobmaa
open Go.ChangeShapes Go.WideShapes Go.ChangeAt Go.RowKit Go.Deep

theorem Try.cells31 : Try.prog.cellsOf 31 = 2 := by kernel_rfl
theorem Try.cells46 : Try.prog.cellsOf 46 = 2 := by kernel_rfl
theorem Try.cells3 : Try.prog.cellsOf 3 = 1 := by kernel_rfl
theorem Try.cells4 : Try.prog.cellsOf 4 = 1 := by kernel_rfl
theorem Try.cells29 : Try.prog.cellsOf 29 = 1 := by kernel_rfl

theorem bulk_one {H : Type} (d : DataW H) : 1 ≤ Rows.uptoBulk d := by
  cases d with
  | lit l => cases l <;> simp [Rows.uptoBulk]
  | nil => simp [Rows.uptoBulk]
  | ptr d => simp [Rows.uptoBulk]
  | slice elems spare => simp [Rows.uptoBulk]
  | agg parts => simp [Rows.uptoBulk]
  | iface t d => simp [Rows.uptoBulk]
  | map entries => simp [Rows.uptoBulk]
  | held h => simp [Rows.uptoBulk]

theorem bulk_part {H : Type} {d : DataW H} {l : List (DataW H)} (h : d ∈ l) : Rows.uptoBulk d ≤ Rows.uptoBulkAll l := by
  induction l with
  | nil => cases h
  | cons x r ih =>
    simp only [Rows.uptoBulkAll]
    cases List.mem_cons.1 h with
    | inl e => subst e; omega
    | inr e => have := ih e; omega

theorem bulk_length {H : Type} (l : List (DataW H)) : l.length ≤ Rows.uptoBulkAll l := by
  induction l with
  | nil => simp
  | cons x r ih => have := bulk_one x; simp only [Rows.uptoBulkAll, List.length_cons]; omega

section
variable {H : Type} {enc : TypeId × Value → H} {W : World} {n : Nat} {v : Value} {x : DataW H × List MemPlace}

theorem plain_of_cell {a : Addr} {u : Value} (h : W.cell? (a.add 0) = some u) : ∃ b o, a = ⟨b, o, none⟩ := by
  obtain ⟨b, o, spot⟩ := a
  have : spot = none := by simpa [Addr.add] using World.cell?_spot h
  subst this
  exact ⟨b, o, rfl⟩

/-- The symbols of a rule. -/
theorem syms_read (h : DataW.trod enc Try.prog W 0 (fun _ => true) true n 29 [v] = some x) :
    ∃ (Rt : List Sy) (qa : Option Addr) (qc : Nat), v = .slice qa Rt.length qc ∧ Rt.length ≤ qc ∧ Rt.length ≤ Rows.uptoBulk x.1 ∧
      ∀ j, j < Rt.length → ∃ b' o', qa = some ⟨b', o', none⟩ ∧ b' < W.heap.size ∧
        W.cell? ⟨b', o' + j * 2, none⟩ = some (.bool (Rt.getD j (false, 0)).1) ∧ W.cell? ⟨b', o' + (j * 2 + 1), none⟩ = some (.int .i64 (Rt.getD j (false, 0)).2) := by
  rcases open_slice_pairs Try.underlying29 Try.underlying46 Try.cells46 rfl rfl Try.cells4 Try.cells3 h with ⟨hv, _⟩ | ⟨a, len, cap, m, n', V0, V1, D0, D1, P0, P1, hv, _, hl, _, hm, rfl, hx⟩
  · simp only [List.cons.injEq, and_true] at hv
    exact ⟨[], none, 0, hv, by simp, by simp, fun j hj => by simp at hj⟩
  · simp only [List.cons.injEq, and_true] at hv
    simp only [if_true] at hm
    have each : ∀ i, i < len → ∃ s : Sy, W.cell? (a.add (i * 2)) = some (.bool s.1) ∧ W.cell? (a.add (i * 2 + 1)) = some (.int .i64 s.2) := fun i hi => by
      obtain ⟨h1, h2, h3, h4⟩ := hx i (by omega)
      obtain ⟨t, ht, _⟩ := DataW.trod_bool Try.underlying4 h3
      obtain ⟨k, hk, _⟩ := DataW.trod_int Try.underlying3 h4
      simp only [List.cons.injEq, and_true] at ht hk
      exact ⟨(t, k), by rw [h1, ht], by rw [h2, hk]⟩
    obtain ⟨f, hf⟩ := choose_lt each
    have hlen : ((List.range len).map f).length = len := by simp
    have hget : ∀ j, j < len → ((List.range len).map f).getD j (false, 0) = f j := fun j hj => by simp [List.getD, hj]
    refine ⟨(List.range len).map f, some a, cap, by rw [hv, hlen], by rw [hlen]; exact hl, ?_, fun j hj => ?_⟩
    · have := bulk_length ((List.range len).map fun i => DataW.agg [D0 i, D1 i])
      simp only [Rows.uptoBulk, List.length_map, List.length_range] at this ⊢
      omega
    · rw [hlen] at hj
      rw [hget j hj]
      have h0 := (hf 0 (by omega)).1
      rw [Nat.zero_mul] at h0
      obtain ⟨b, o, rfl⟩ := plain_of_cell h0
      obtain ⟨h1, h2⟩ := hf j hj
      rw [add_plain] at h1 h2
      exact ⟨b, o, rfl, World.block_lt_of_cell? W _ h1, h1, h2⟩

/-- The rules of a grammar. -/
theorem rules_read (h : DataW.trod enc Try.prog W 0 (fun _ => true) true n 22 [v] = some x) :
    ∃ R : List Ru, RulesAt W W.heap.size v R ∧ ∀ q, (R.getD q (0, [])).2.length ≤ Rows.uptoBulk x.1 := by
  rcases open_slice_pairs Try.underlying22 Try.underlying31 Try.cells31 rfl rfl Try.cells3 Try.cells29 h with ⟨hv, _⟩ | ⟨a, len, cap, m, n', V0, V1, D0, D1, P0, P1, hv, _, hl, _, hm, rfl, hx⟩
  · simp only [List.cons.injEq, and_true] at hv
    exact ⟨[], ⟨⟨none, 0, hv⟩, fun q hq => by simp at hq⟩, fun q => by simp⟩
  · simp only [List.cons.injEq, and_true] at hv
    simp only [if_true] at hm
    have each : ∀ i, i < len → ∃ r : Ru, W.cell? (a.add (i * 2)) = some (.int .i64 r.1) ∧ ∃ qa qc, W.cell? (a.add (i * 2 + 1)) = some (.slice qa r.2.length qc) ∧ r.2.length ≤ qc ∧ r.2.length ≤ Rows.uptoBulk (D1 i) ∧
        ∀ j, j < r.2.length → ∃ b' o', qa = some ⟨b', o', none⟩ ∧ b' < W.heap.size ∧
          W.cell? ⟨b', o' + j * 2, none⟩ = some (.bool (r.2.getD j (false, 0)).1) ∧ W.cell? ⟨b', o' + (j * 2 + 1), none⟩ = some (.int .i64 (r.2.getD j (false, 0)).2) := fun i hi => by
      obtain ⟨h1, h2, h3, h4⟩ := hx i (by omega)
      obtain ⟨k, hk, _⟩ := DataW.trod_int Try.underlying3 h3
      simp only [List.cons.injEq, and_true] at hk
      obtain ⟨Rt, qa, qc, hq, hc, hb, hs⟩ := syms_read h4
      exact ⟨(k, Rt), by rw [h1, hk], qa, qc, by rw [h2, hq], hc, hb, hs⟩
    obtain ⟨f, hf⟩ := choose_lt each
    have hlen : ((List.range len).map f).length = len := by simp
    have hget : ∀ j, j < len → ((List.range len).map f).getD j (0, []) = f j := fun j hj => by simp [List.getD, hj]
    refine ⟨(List.range len).map f, ⟨⟨some a, cap, by rw [hv, hlen]⟩, fun q hq => ?_⟩, fun q => ?_⟩
    · rw [hlen] at hq
      rw [hget q hq]
      have h0 := (hf 0 (by omega)).1
      rw [Nat.zero_mul] at h0
      obtain ⟨b, o, rfl⟩ := plain_of_cell h0
      obtain ⟨h1, qa, qc, h2, hc, _, h3⟩ := hf q hq
      rw [add_plain] at h1 h2
      exact ⟨b, o, cap, qa, qc, by rw [hv, hlen], World.block_lt_of_cell? W _ h1, h1, h2, hc, h3⟩
    · by_cases hq : q < len
      · rw [hget q hq]
        obtain ⟨_, _, _, _, _, hb, _⟩ := hf q hq
        have h1 : DataW.agg [D0 q, D1 q] ∈ (List.range len).map fun i => DataW.agg [D0 i, D1 i] := List.mem_map.2 ⟨q, List.mem_range.2 hq, rfl⟩
        have h2 := bulk_part h1
        simp only [Rows.uptoBulk, Rows.uptoBulkAll] at h2 ⊢
        omega
      · simp [List.getD, List.getElem?_eq_none (show ((List.range len).map f).length ≤ q by omega)]

end

end Go.Proofs.Ytkkcmcckdaobmaa

/- A list that came in as data lies in memory as ListAt says. -/
namespace Go.Proofs.Ytkkcmcckdaobmaa
open Go.ChangeShapes Go.WideShapes Go.ChangeAt Go.RowKit Go.Deep

section
variable {H : Type} {enc : TypeId × Value → H} {W : World} {n : Nat} {v : Value} {x : DataW H × List MemPlace}

/-- The numbers of a list. -/
theorem list_read (h : DataW.trod enc Try.prog W 0 (fun _ => true) true n 25 [v] = some x) : ∃ D : List Int, ListAt W W.heap.size v D := by
  rcases open_slice1 Try.underlying25 Try.cells3 h with ⟨hv, _⟩ | ⟨a, len, cap, m, n', V, D, Pl, hv, _, hl, _, hm, rfl, hx⟩
  · simp only [List.cons.injEq, and_true] at hv
    exact ⟨[], ⟨none, 0, hv⟩, fun p hp => by simp at hp⟩
  · simp only [List.cons.injEq, and_true] at hv
    simp only [if_true] at hm
    have each : ∀ i, i < len → ∃ k : Int, W.cell? (a.add i) = some (.int .i64 k) := fun i hi => by
      obtain ⟨h1, h2⟩ := hx i (by omega)
      obtain ⟨k, hk, _⟩ := DataW.trod_int Try.underlying3 h2
      simp only [List.cons.injEq, and_true] at hk
      exact ⟨k, by rw [h1, hk]⟩
    obtain ⟨f, hf⟩ := choose_lt each
    have hlen : ((List.range len).map f).length = len := by simp
    refine ⟨(List.range len).map f, ⟨some a, cap, by rw [hv, hlen]⟩, fun p hp => ?_⟩
    rw [hlen] at hp
    obtain ⟨b, o, rfl⟩ := plain_of_cell (hf 0 (by omega))
    have h1 := hf p hp
    rw [add_plain] at h1
    exact ⟨b, o, cap, by rw [hv, hlen], World.block_lt_of_cell? W _ h1, by rw [h1]; simp [List.getD, hp]⟩
end

end Go.Proofs.Ytkkcmcckdaobmaa
