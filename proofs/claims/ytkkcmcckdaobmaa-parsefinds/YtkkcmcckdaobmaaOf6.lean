/- The contract of pollardingref6.Of: the table, in plain words; or that there are too many states. -/
import Derived.Test.YtkkcmcckdaobmaaOfMem6AndTkCell
import Derived.Test.YtkkcmcckdaobmaaLooks6
import Derived.Test.YtkkcmcckdaobmaaBuild6
import Derived.Test.YtkkcmcckdaobmaaOf2
import Derived.Test.YtkkcmcckdaobmaaSets2MathAndTabMath
import Derived.Test.YtkkcmcckdaobmaaTkCellsAndHeldSeq
namespace Go.Proofs.Ytkkcmcckdaobmaa
open Go.RowKit

section
open Classical
theorem cellF_P {T N : Nat} {R : List Ru} {OL : List (List It)} {NL : List (List Int)} {Ls : List SetI} {dom : Nat × Nat → Option Nat} {X : LkX} (hok : AutoOk T N R OL NL Ls dom) {k t : Nat} (hk : k < OL.length) (ht : t ≤ T)
    (hX : ∀ k, k < OL.length → ∀ j, j < (OL.getD k []).length → ∀ t, t ≤ T → (bit X (k, j) t = true ↔ LookQ T R (nullA R N) (firstA R (nullA R N) T N) NL Ls k (itemN OL k j) t)) : cellF OL NL R T X k t = cellP T N R NL Ls k t := by
  have hd : ∀ n, doneF OL R X k t n = decide (DoneP T N R NL Ls k t n) := fun n => by
    unfold doneF
    by_cases hm : (n, (rightF R n).length) ∈ OL.getD k []
    · obtain ⟨e1, e2⟩ := item_at hm
      have := hX k hk _ e2 t ht
      rw [e1] at this
      have hL := ((hok.sok.rep k hk).mem _).1 hm
      rw [decide_eq_true hm, Bool.true_and]
      cases hb : bit X (k, atN OL k (n, (rightF R n).length)) t with
      | true => exact (decide_eq_true (show DoneP T N R NL Ls k t n from ⟨hL, this.1 hb⟩)).symm
      | false => exact (decide_eq_false fun h : DoneP T N R NL Ls k t n => by rw [this.2 h.2] at hb; cases hb).symm
    · rw [decide_eq_false hm, Bool.false_and]
      exact (decide_eq_false fun h : DoneP T N R NL Ls k t n => hm (((hok.sok.rep k hk).mem _).2 h.1)).symm
  unfold cellF cellP rulesF
  rw [hd, show (doneF OL R X k t) = fun n => decide (DoneP T N R NL Ls k t n) from funext hd]
end

theorem pset_below {w w' : World} {base sb T N mf mg B : Nat} {nv fv gv : Value} {vf vg : Nat → Value} {Nu : List Bool} {Fi Fo : List (List Bool)} (h : Owns w base (Pset sb T N mf mg nv fv gv vf vg Nu Fi Fo)) (hF : Fi.length = mf) (hB : w.heap.size = B) (hw : ∀ b o, b < B → w'.cell? ⟨b, o, none⟩ = w.cell? ⟨b, o, none⟩) : BoolsAt w' nv Nu ∧ MatAt w' fv Fi := by
  subst hB
  exact ⟨h.bools.same hw, (h.mat hF).same hw⟩

/-- What build leaves is what looks leans on. -/
theorem looksIn_of {w2 w3 w4 : World} {ab lim T N sb : Nat} {rv sv nv nuv fiv gov : Value} {R : List Ru} {vi vr vf vg : Nat → Value} {OL : List (List It)} {NL : List (List Int)} {Ls : List SetI} {Fo : List (List Bool)} (hf : Fine T N R) (hT : T ≤ 8) (hN : N ≤ 12) (hR : R.length ≤ 40) (h8 : ∀ r, r ≤ R.length → (rightF R r).length ≤ 8)
    (h : B1 w3 ab lim T N rv R OL.length sv nv vi vr OL NL Ls w4) (hl : lim ≤ ab) (hab : w2.heap.size = ab) (h23 : Below ab w2 w3) (c3 : w3.cell? ⟨ab, 3, none⟩ = some nuv) (c4 : w3.cell? ⟨ab, 4, none⟩ = some fiv) {base : Nat} (hO : Owns w2 base (Pset sb T N N N nuv fiv gov vf vg (nullA R N) (firstA R (nullA R N) T N) Fo)) :
    LooksIn w4 ab lim T N rv R sv nv nuv fiv vi vr OL NL Ls (nullA R N) (firstA R (nullA R N) T N) ∧ Whole T N R OL.length := by
  have hW : Whole T N R OL.length := by unfold Whole; rw [h.all]; exact h.sok.len.symm
  have hnu := nullA_iff hf
  have hfi := firstA_iff hf hnu.2
  have hlen : NL.length = OL.length := by have := all_len (T := T) (N := N) (R := R) OL.length; rw [h.all] at this; exact this
  have hgo := all_go (T := T) (N := N) (R := R) (whole_reach hW)
  rw [h.all] at hgo
  have hcl := all_closed (T := T) (N := N) (R := R) OL.length
  rw [h.all] at hcl
  refine ⟨⟨h.bc.auto, hl, h.bc.fro, (h.bc.keep 3 (by omega) (by omega)).trans c3, (h.bc.keep 4 (by omega) (by omega)).trans c4, h.bc.c6, h.bc.c7, h.owns, ⟨h.sok, hlen, fun k hk x hx => hgo k hk x hx, fun k hk => hcl _ (getD_in (by rw [← h.sok.len]; exact hk)), fun k j => rfl, fun r hr s hs => (num_in hf hr s hs).1⟩,
    h.pos, h.few, fun w' hw => ?_, hnu.1, hfi.1.1, fun i hi => hfi.1.2 i hi, hT, hf.some, hN, hR, h8, fun r hr => right_sym hf hT hN hr, fun r hr s hs => (num_in hf hr s hs).2⟩, hW⟩
  refine pset_below hO hfi.1.1 hab (fun b o hb => (hw b o hb).trans ?_)
  exact (h.bc.below.cell (p := ⟨b, o, none⟩) hb).trans (h23.cell (p := ⟨b, o, none⟩) hb)

theorem Try.infoCell : (Try.prog.info? 74).map (fun i => (i.zero, i.size, i.bytes)) = some (some (.agg #[.int .i64 0, .slice none 0 0, .bool false]), 3, 40) := by kernel_rfl
theorem Try.infoCells : (Try.prog.info? 72).map (fun i => (i.zero, i.size, i.bytes)) = some (some (.slice none 0 0), 1, 24) := by kernel_rfl

/-- The table's own two places, in the block w5.heap.size. -/
structure TS (w5 : World) (cv gv : Value) (wr : World) : Prop where
  below : Below w5.heap.size w5 wr
  size : w5.heap.size + 1 ≤ wr.heap.size
  t0 : wr.cell? ⟨w5.heap.size, 0, none⟩ = some cv
  t1 : wr.cell? ⟨w5.heap.size, 1, none⟩ = some gv
  fr : ∀ o, wr.frozen? ⟨w5.heap.size, o, none⟩ = false

section
variable {w5 wr : World} {cv gv : Value}
theorem TS.grow (h : TS w5 cv gv wr) {w' : World} {row : Option Nat} (hg : wr.grownBy w' row) (hr : ∀ b, row = some b → w5.heap.size + 1 ≤ b) : TS w5 cv gv w' := by
  have hs := h.size
  have hb : ∀ k, k < w5.heap.size + 1 → w'.heap[k]? = wr.heap[k]? := fun k hk => hg.block k (by omega) (fun e => by have := hr k e.symm; omega)
  exact ⟨h.below.trans ⟨hg.os, hg.tape, hg.output, hg.size, fun k hk => hb k (by omega)⟩, Nat.le_trans hs hg.size, (World.cell?_of_block (hb _ (by simp))).trans h.t0, (World.cell?_of_block (hb _ (by simp))).trans h.t1, fun o => (World.frozen?_of_block (hb _ (by simp))).trans (h.fr o)⟩
theorem TS.later (h : TS w5 cv gv wr) {w' : World} (hb : Below wr.heap.size wr w') : TS w5 cv gv w' :=
  h.grow (row := none) ⟨hb.os, hb.tape, hb.output, hb.size, fun k hk _ => hb.block k hk⟩ (fun _ e => nomatch e)
theorem TS.set0 (h : TS w5 cv gv wr) (u : Value) : TS w5 u gv (wr.setCell ⟨w5.heap.size, 0, none⟩ u) :=
  ⟨h.below.setCell (by simp) _, by simpa using h.size, World.cell?_setCell_same (h := h.t0) .., (cell_set_other (.inr (by simp))).trans h.t1, fun o => by rw [World.frozen?_setCell]; exact h.fr o⟩
theorem TS.set1 (h : TS w5 cv gv wr) (u : Value) : TS w5 cv u (wr.setCell ⟨w5.heap.size, 1, none⟩ u) :=
  ⟨h.below.setCell (by simp) _, by simpa using h.size, (cell_set_other (.inr (by simp))).trans h.t0, World.cell?_setCell_same (h := h.t1) .., fun o => by rw [World.frozen?_setCell]; exact h.fr o⟩
end

set_option maxRecDepth 100000 in
set_option maxHeartbeats 12800000 in
theorem of6_any {w : World} {T N : Nat} {rv : Value} {R : List Ru} (hr : RulesAt w w.heap.size rv R) (hm : mayB T N R = true) (hf : Fine T N R) :
    Calls Try.prog 6 #[.agg #[.int .i64 T, .int .i64 N, rv]] w fun e w' =>
      (e = .returned (.tuple #[.agg #[.slice none 0 0, .slice none 0 0], .bool false]) ∧ Below w.heap.size w w' ∧ More T N R 150) ∨
      ∃ K cv gv, e = .returned (.tuple #[.agg #[cv, gv], .bool true]) ∧ Below w.heap.size w w' ∧ Whole T N R K ∧ K ≤ 150 ∧ TabAt w' cv gv (tabC T N R K) (tabG T N R K) := by
  obtain ⟨hT, hN1, hN, hRl, hfine⟩ := may_fine hm
  obtain ⟨ra, rc, hrv⟩ := hr.1
  subst hrv
  have H8 : Hid (∀ r, r ≤ R.length → (rightF R r).length ≤ 8) := fun r hr => by
    unfold rightF
    split
    · simp
    · exact (hfine r (by omega)).2.2.1
  have HR : Hid (RulesAt w w.heap.size (.slice ra R.length rc) R) := hr
  have HF : Hid (Fine T N R) := hf
  obtain ⟨W1, hW1⟩ : ∃ W1, W1 = (w.alloc (.cells #[.int .i64 T, .int .i64 N, .slice ra R.length rc] 24)).alloc (.cells #[.slice none 0 0, .slice none 0 0] 38) := ⟨_, rfl⟩
  have hB1 : Below w.heap.size w W1 := by rw [hW1]; exact ((Below.refl _ _).alloc (Nat.le_refl _) _).alloc (by simp) _
  have q0 : W1.cell? ⟨w.heap.size, 0, none⟩ = some (.int .i64 T) := by rw [hW1]; simp [go_sem]
  have q1 : W1.cell? ⟨w.heap.size, 1, none⟩ = some (.int .i64 N) := by rw [hW1]; simp [go_sem]
  have q2 : W1.cell? ⟨w.heap.size, 2, none⟩ = some (.slice ra R.length rc) := by rw [hW1]; simp [go_sem]
  have p0 : W1.cell? ⟨w.heap.size + 1, 0, none⟩ = some (.slice none 0 0) := by rw [hW1]; simp [go_sem]
  have p1 : W1.cell? ⟨w.heap.size + 1, 1, none⟩ = some (.slice none 0 0) := by rw [hW1]; simp [go_sem]
  have pf : ∀ o, W1.frozen? ⟨w.heap.size + 1, o, none⟩ = false := fun o => by rw [hW1]; simp [go_sem]
  have hs1 : W1.heap.size = w.heap.size + 2 := by rw [hW1]; simp
  have sets := of2_any (w := W1.drew) (T := T) (N := N) (show RulesAt W1.drew W1.drew.heap.size _ R from (hr.below hB1).mono hB1.size) hm
  have HPf : Hid (∀ o, W1.frozen? ⟨w.heap.size + 1, o, none⟩ = false) := pf
  have HB1 : Hid (Below w.heap.size w W1) := hB1
  clear hr hm hf hfine pf hB1
  go_enter Try.func6, Try.ntmps6
  go_wp2_with fail
  rw [← hW1]
  clear hW1
  refine wp_region_held_tail 2 5 (fun w' => w'.cell? ⟨w.heap.size, 0, none⟩ = some (.int .i64 T) ∧ w'.cell? ⟨w.heap.size, 1, none⟩ = some (.int .i64 N) ∧ w'.cell? ⟨w.heap.size, 2, none⟩ = some (.slice ra R.length rc)) (by kernel_rfl) (by kernel_rfl) ⟨q0, q1, q2⟩ ?_
  simp only [List.take_succ_cons, List.take_zero, List.drop_succ_cons, List.drop_zero]
  iterate 2
    refine StillS.cons (v := ?_) (by rfl) ?_ ?_
    rotate_left
    · intro w' hSw
      obtain ⟨s0', s1', s2'⟩ := hSw
      go_simp
      try with_reducible rfl
    simp only [Act.put, List.setIfInBounds_toArray, List.set_cons_zero, List.set_cons_succ]
  rw [StillS, TailS]
  intro K hK
  go_simp
  go_wp2_with
    (go_at_call 12; refine sets.mono ?_; rintro e w2 ⟨nuv, fiv, gov, vf, vg, sb, rfl, hB2, hO2⟩
     have hB2' : Below W1.heap.size W1 w2 := (Below.refl _ _).drew.trans hB2
     have u0 := (hB2'.cell (p := ⟨w.heap.size, 0, none⟩) (by simp; omega)).trans q0
     have u1 := (hB2'.cell (p := ⟨w.heap.size, 1, none⟩) (by simp; omega)).trans q1
     have u2 := (hB2'.cell (p := ⟨w.heap.size, 2, none⟩) (by simp; omega)).trans q2
     have HB2 : Hid (Below W1.heap.size W1 w2) := hB2'
     have HO2 : Hid (∃ base, Owns w2 base (Pset sb T N N N nuv fiv gov vf vg (nullA R N) (firstA R (nullA R N) T N) (followA R (nullA R N) (firstA R (nullA R N) T N) T N))) := ⟨_, hO2⟩
     clear hB2 hB2' hO2 sets)
  refine hK.out _ _ (fun _ => ⟨u0, u1, u2⟩) ?_
  clear hK
  rw [TailS]
  intro K hK
  go_simp
  refine hK.out _ _ (fun _ => ⟨u0, u1, u2⟩) ?_
  clear hK
  rw [TailS]
  intro K hK
  go_simp
  obtain ⟨W3, hW3⟩ : ∃ W3, W3 = w2.alloc (.cells #[.int .i64 T, .int .i64 N, .slice ra R.length rc, nuv, fiv, gov, .slice none 0 0, .slice none 0 0, .slice none 0 0] 70) := ⟨_, rfl⟩
  rw [← hW3]
  have hB23 : Below w2.heap.size w2 W3 := by rw [hW3]; exact (Below.refl _ _).alloc (Nat.le_refl _) _
  have hs2 : w.heap.size + 2 ≤ w2.heap.size := by have := HB2.out.size; omega
  have hBw : Below w.heap.size w W3 := HB1.out.trans ((HB2.out.mono (by omega)).trans (hB23.mono (by omega)))
  have x0 : W3.cell? ⟨w2.heap.size, 0, none⟩ = some (.int .i64 T) := by rw [hW3]; simp [go_sem]
  have x1 : W3.cell? ⟨w2.heap.size, 1, none⟩ = some (.int .i64 N) := by rw [hW3]; simp [go_sem]
  have x2 : W3.cell? ⟨w2.heap.size, 2, none⟩ = some (.slice ra R.length rc) := by rw [hW3]; simp [go_sem]
  have x3 : W3.cell? ⟨w2.heap.size, 3, none⟩ = some nuv := by rw [hW3]; simp [go_sem]
  have x4 : W3.cell? ⟨w2.heap.size, 4, none⟩ = some fiv := by rw [hW3]; simp [go_sem]
  have x6 : W3.cell? ⟨w2.heap.size, 6, none⟩ = some (.slice none 0 0) := by rw [hW3]; simp [go_sem]
  have x7 : W3.cell? ⟨w2.heap.size, 7, none⟩ = some (.slice none 0 0) := by rw [hW3]; simp [go_sem]
  have x8 : W3.cell? ⟨w2.heap.size, 8, none⟩ = some (.slice none 0 0) := by rw [hW3]; simp [go_sem]
  have xf : ∀ o, W3.frozen? ⟨w2.heap.size, o, none⟩ = false := fun o => by rw [hW3]; simp [go_sem]
  have hs3 : W3.heap.size = w2.heap.size + 1 := by rw [hW3]; simp
  have hA : AutoG W3 w.heap.size w2.heap.size T N (.slice ra R.length rc) R := ⟨x0, x1, x2, HR.out.below hBw, hBw.size, by omega⟩
  have bld := build6_any hA (by omega) xf x6 x7 hT hN1 hN hRl HF.out H8.out
  have y0 := (hB23.cell (p := ⟨w.heap.size, 0, none⟩) (by simp; omega)).trans u0
  have y1 := (hB23.cell (p := ⟨w.heap.size, 1, none⟩) (by simp; omega)).trans u1
  have y2 := (hB23.cell (p := ⟨w.heap.size, 2, none⟩) (by simp; omega)).trans u2
  have r0 := (hB23.cell (p := ⟨w.heap.size + 1, 0, none⟩) (by simp; omega)).trans ((HB2.out.cell (p := ⟨w.heap.size + 1, 0, none⟩) (by simp; omega)).trans p0)
  have r1 := (hB23.cell (p := ⟨w.heap.size + 1, 1, none⟩) (by simp; omega)).trans ((HB2.out.cell (p := ⟨w.heap.size + 1, 1, none⟩) (by simp; omega)).trans p1)
  have HRf : Hid (∀ o, W3.frozen? ⟨w.heap.size + 1, o, none⟩ = false) := fun o => (hB23.frozen (p := ⟨w.heap.size + 1, o, none⟩) (by simp; omega)).trans ((HB2.out.frozen (p := ⟨w.heap.size + 1, o, none⟩) (by simp; omega)).trans (HPf.out o))
  have HX : Hid (W3.cell? ⟨w2.heap.size, 3, none⟩ = some nuv ∧ W3.cell? ⟨w2.heap.size, 4, none⟩ = some fiv ∧ W3.cell? ⟨w2.heap.size, 8, none⟩ = some (.slice none 0 0)) := ⟨x3, x4, x8⟩
  have HBw : Hid (Below w.heap.size w W3) := hBw
  have HB23 : Hid (Below w2.heap.size w2 W3) := hB23
  refine hK.out _ _ (fun _ => ⟨y0, y1, y2⟩) ?_
  clear hK hW3 hA x0 x1 x2 x3 x4 x6 x7 x8 xf q0 q1 q2 p0 p1 u0 u1 u2 hBw hB23
  rw [TailS]
  intro K hK
  go_simp
  refine hK.out _ _ (fun h => absurd h (by omega)) ?_
  clear hK
  rw [TailS]
  refine NoPanic.normal ?_
  obtain ⟨ab, hab⟩ : ∃ ab, w2.heap.size = ab := ⟨_, rfl⟩
  rw [hab] at bld hs2 hs3 HX ⊢
  by_cases hMore : More T N R 150
  · have bldF := bld.mono (fun e w' h => (by
      rcases h with ⟨h1, h2, _⟩ | ⟨_, sv, nv, vi, vr, OL, NL, Ls, hB⟩
      · exact ⟨h1, h2⟩
      · exact absurd hMore (whole_or (K := OL.length) (by unfold Whole; rw [hB.all]; exact hB.sok.len.symm) hB.few) : e = .returned (.bool false) ∧ Below ab W3 w'))
    clear bld
    go_wp2_with
      (go_at_call 13; refine bldF.mono ?_; rintro e w4 ⟨rfl, hB4⟩
       have z0 := (hB4.cell (p := ⟨w.heap.size + 1, 0, none⟩) (by simp; omega)).trans r0
       have z1 := (hB4.cell (p := ⟨w.heap.size + 1, 1, none⟩) (by simp; omega)).trans r1
       have zf0 := (hB4.frozen (p := ⟨w.heap.size + 1, 0, none⟩) (by simp; omega)).trans (HRf.out 0)
       have zf1 := (hB4.frozen (p := ⟨w.heap.size + 1, 1, none⟩) (by simp; omega)).trans (HRf.out 1)
       have HB4 : Hid (Below w.heap.size w w4) := HBw.out.trans (hB4.mono (by omega))
       clear hB4 bldF)
    refine bodyPost_ret (v := .tuple #[.agg #[.slice none 0 0, .slice none 0 0], .bool false]) (by simp [results, Try.results6, go_sem, z0, z1]) rfl (.inl ⟨rfl, ?_, hMore⟩)
    exact (HB4.out.setCell (by simp) _).setCell (by simp) _
  · have bldT := bld.mono (fun e w' h => (by
      rcases h with ⟨_, _, h3⟩ | ⟨h1, sv, nv, vi, vr, OL, NL, Ls, hB⟩
      · exact absurd h3 hMore
      · exact ⟨h1, sv, nv, vi, vr, OL, NL, Ls, hB⟩ : e = .returned (.bool true) ∧ ∃ sv nv vi vr OL NL Ls, B1 W3 ab w.heap.size T N (.slice ra R.length rc) R OL.length sv nv vi vr OL NL Ls w'))
    clear bld hMore
    go_wp2_with
      (first
       | (go_at_call 13; refine bldT.mono ?_; rintro e w4 ⟨rfl, sv, nv, vi, vr, OL, NL, Ls, hB1'⟩
          obtain ⟨base, hO2⟩ := HO2.out
          have hLI := looksIn_of HF.out hT hN hRl H8.out hB1' (by omega) hab (by rw [← hab]; exact HB23.out) HX.out.1 HX.out.2.1 hO2
          have lk := looks6_any hLI.1 ((hB1'.bc.keep 8 (by omega) (by omega)).trans HX.out.2.2)
          have HLI : Hid (LooksIn w4 ab w.heap.size T N (.slice ra R.length rc) R sv nv nuv fiv vi vr OL NL Ls (nullA R N) (firstA R (nullA R N) T N) ∧ Whole T N R OL.length ∧ allN T N R OL.length = (NL, Ls)) := ⟨hLI.1, hLI.2, hB1'.all⟩
          have HB34 : Hid (Below ab W3 w4) := hB1'.bc.below
          have hab4 := hLI.1.auto.lt
          clear hB1' hO2 hLI bldT)
       | (go_at_call 14; refine lk.mono ?_; rintro e w5 ⟨rfl, hB5, lv, vl, vb, X, hBt5, hF5, hX5⟩
          have HB35 : Hid (Below ab W3 w5 ∧ w4.heap.size ≤ w5.heap.size) := ⟨HB34.out.trans hB5, hB5.size⟩
          have HBt5 : Hid (Bt w5 w4.heap.size (cL T OL vb) X) := hBt5
          have HF5 : Hid (∀ w'', Kept (cL T OL vb).K w5 w'' → AutoF ab w.heap.size T N (.slice ra R.length rc) R nuv fiv (nullA R N) (firstA R (nullA R N) T N) OL NL (cL T OL vb).V (adsOf sv nv lv vi vr vl) w'') := hF5
          have HX5 : Hid (∀ k, k < OL.length → ∀ j, j < (OL.getD k []).length → ∀ t, t ≤ T → (bit X (k, j) t = true ↔ LookQ T R (nullA R N) (firstA R (nullA R N) T N) NL Ls k (itemN OL k j) t)) := hX5
          have z0 := (HB35.out.1.cell (p := ⟨w.heap.size + 1, 0, none⟩) (by simp; omega)).trans r0
          have z1 := (HB35.out.1.cell (p := ⟨w.heap.size + 1, 1, none⟩) (by simp; omega)).trans r1
          clear hB5 hBt5 hF5 hX5 lk))
    have HTS0 : Hid (TS w5 (.slice none 0 0) (.slice none 0 0) (w5.alloc (.cells #[.slice none 0 0, .slice none 0 0] 38))) := ⟨(Below.refl _ _).alloc (Nat.le_refl _) _, by simp, by simp [go_sem], by simp [go_sem], fun o => by simp [go_sem]⟩
    have hK150 := HLI.out.1.few
    have hok : AutoOk T N R OL NL Ls (cL T OL vb).dom := HLI.out.1.ok
    have HOk : Hid (AutoOk T N R OL NL Ls (cL T OL vb).dom) := hok
    have HFw : Hid (∀ wq, Below w5.heap.size w5 wq → ∀ w'', Kept (cL T OL vb).K wq w'' → AutoF ab w.heap.size T N (.slice ra R.length rc) R nuv fiv (nullA R N) (firstA R (nullA R N) T N) OL NL (cL T OL vb).V (adsOf sv nv lv vi vr vl) w'') := fun wq hq w'' hk => HF5.out w'' ((Kept.ofBelow hq).trans hk)
    have HGr : Hid (∀ wq, Below w5.heap.size w5 wq → wq.cell? ⟨w.heap.size, 0, none⟩ = some (.int .i64 T)) := fun wq hq => (hq.cell (p := ⟨w.heap.size, 0, none⟩) (by have := HB35.out.1.size; simp; omega)).trans ((HB35.out.1.cell (p := ⟨w.heap.size, 0, none⟩) (by simp; omega)).trans y0)
    obtain ⟨D, hD⟩ : ∃ D, adsOf sv nv lv vi vr vl = D := ⟨_, rfl⟩
    rw [hD] at HFw
    clear hok HF5 y0 y1 y2 r0 r1 hD
    generalize (w5.alloc (.cells #[.slice none 0 0, .slice none 0 0] 38)) = W6 at HTS0 ⊢
    go_loopw [6] (fun s6 wr => ∃ (k : Nat) (cv gv : Value) (vc vg : Nat → Value) (vrr : Nat → Nat → Value), s6 = .int .i64 k ∧ k ≤ OL.length ∧ TS w5 cv gv wr ∧ Owns wr (w5.heap.size + 1) (PT cv gv vc vg vrr ((List.range k).map (rowP T N R NL Ls)) ((List.range k).map fun k => (NL.getD k []).drop T) none)) (fun s _ => OL.length - (intOf s).toNat)
    case atStart => exact ⟨0, _, _, fun _ => .slice none 0 0, fun _ => .slice none 0 0, fun _ _ => .slice none 0 0, rfl, Nat.zero_le _, HTS0.out, PT_start _ _⟩
    case round =>
      clear HTS0
      obtain ⟨k, cv, gv, vc, vg', vrr, rfl, hk, hTS, hPT⟩ := hrel
      have HTS : Hid (TS w5 cv gv wr) := hTS
      have HPT : Hid (Owns wr (w5.heap.size + 1) (PT cv gv vc vg' vrr ((List.range k).map (rowP T N R NL Ls)) ((List.range k).map fun k => (NL.getD k []).drop T) none)) := hPT
      obtain ⟨Ck, hCk⟩ : ∃ C, (List.range k).map (rowP T N R NL Ls) = C := ⟨_, rfl⟩
      obtain ⟨Gk, hGk⟩ : ∃ G, ((List.range k).map fun k => (NL.getD k []).drop T) = G := ⟨_, rfl⟩
      have HCk : Hid ((List.range k).map (rowP T N R NL Ls) = Ck ∧ ((List.range k).map fun k => (NL.getD k []).drop T) = Gk) := ⟨hCk, hGk⟩
      have hCl : Ck.length = k := by rw [← hCk]; simp
      have hGl : Gk.length = k := by rw [← hGk]; simp
      have HCl : Hid (Ck.length = k ∧ Gk.length = k) := ⟨hCl, hGl⟩
      rw [hCk, hGk] at HPT
      have hFr := HFw.out wr hTS.below wr (Kept.refl _ _)
      have c6 := hFr.c6
      clear hTS hPT hFr hCk hGk hCl hGl
      by_cases hlt : k < OL.length
      · have HP0 : Hid (Owns wr (w5.heap.size + 1) (PT cv gv vc vg' vrr Ck Gk (some (.slice none 0 0, [])))) := PT_nil HPT.out
        clear HPT
        go_wp2_with fail
        clear c6
        go_loopw [7, 8] (fun s7 s8 wq => ∃ (n : Nat) (v : Value) (vrr : Nat → Nat → Value), s7 = v ∧ s8 = .int .i64 n ∧ n ≤ T + 1 ∧ TS w5 cv gv wq ∧ Owns wq (w5.heap.size + 1) (PT cv gv vc vg' vrr Ck Gk (some (v, (List.range n).map (cellP T N R NL Ls k))))) (fun _ s _ => T + 1 - (intOf s).toNat)
        case atStart => exact ⟨0, _, vrr, rfl, rfl, Nat.zero_le _, HTS.out, HP0.out⟩
        case round =>
          clear HTS HP0
          obtain ⟨n, v, vrr, hv, rfl, hn, hTS, hPT⟩ := hrel
          have hv' := hv.symm
          subst hv'
          clear hv
          have HTS : Hid (TS w5 cv gv wr) := hTS
          have HPT : Hid (Owns wr (w5.heap.size + 1) (PT cv gv vc vg' vrr Ck Gk (some (v, (List.range n).map (cellP T N R NL Ls k))))) := hPT
          have a0 := HGr.out wr hTS.below
          have hszr := hTS.size
          by_cases hnlt : n ≤ T
          · have e1 : (n : Int) ≤ (T : Int) := by omega
            have call := cell6_any (k := k) (t := n) (HFw.out wr hTS.below) (HBt5.out.below hTS.below) HOk.out hRl H8.out hlt hnlt
            rw [cellF_P HOk.out hlt hnlt HX5.out] at call
            obtain ⟨⟨sh, L, en⟩, hce⟩ : ∃ c, cellP T N R NL Ls k n = c := ⟨_, rfl⟩
            have HCe : Hid ((List.range (n + 1)).map (cellP T N R NL Ls k) = (List.range n).map (cellP T N R NL Ls k) ++ [(sh, L, en)]) := by
              show (List.range (n + 1)).map (cellP T N R NL Ls k) = _
              rw [List.range_succ, List.map_append, ← hce]
              rfl
            rw [hce] at call
            simp only at call
            obtain ⟨Ln, hLn⟩ : ∃ Ln, (List.range n).map (cellP T N R NL Ls k) = Ln := ⟨_, rfl⟩
            have hLl : Ln.length = n := by rw [← hLn]; simp
            rw [hLn] at HCe HPT
            obtain ⟨i5, hi5, hz8, hz9, hz10⟩ := info_parts Try.infoCell
            have m1 : Ln.length + 1 ≤ maxLen := by unfold maxLen; omega
            have m2 : (Ln.length + 1) * 40 ≤ 140737488355328 := by omega
            clear hTS hPT hce hLn
            go_wp2_with
              (first
               | (go_at_call 15; refine call.mono ?_; rintro e w7 ⟨rl, rfl, hB7, hrl⟩
                  obtain ⟨la, lc, hrl'⟩ := own_form hrl
                  subst hrl'
                  have hg7 : wr.grownBy ((w7.alloc (.cells #[.int .i64 sh, .slice la L.length lc, .bool en] 74)).alloc (.cells #[.int .i64 sh, .slice la L.length lc, .bool en] 74)) none := by
                    have hB9 : Below wr.heap.size wr ((w7.alloc (.cells #[.int .i64 sh, .slice la L.length lc, .bool en] 74)).alloc (.cells #[.int .i64 sh, .slice la L.length lc, .bool en] 74)) := (hB7.alloc hB7.size _).alloc (by have := hB7.size; simp; omega) _
                    exact ⟨hB9.os, hB9.tape, hB9.output, hB9.size, fun q hq _ => hB9.block q hq⟩
                  have HG7 : Hid (wr.grownBy ((w7.alloc (.cells #[.int .i64 sh, .slice la L.length lc, .bool en] 74)).alloc (.cells #[.int .i64 sh, .slice la L.length lc, .bool en] 74)) none) := hg7
                  have own5 : ((w7.alloc (.cells #[.int .i64 sh, .slice la L.length lc, .bool en] 74)).alloc (.cells #[.int .i64 sh, .slice la L.length lc, .bool en] 74)).ownsRow (w5.heap.size + 1) 74 3 v Ln.length (flatC (vrr Ck.length) Ln) := (HPT.out.own .cur _ rfl).kept hg7 (by cases v.ownBlock <;> simp)
                  have hnw5 := World.news_of_block (cs := #[.int .i64 sh, .slice la L.length lc, .bool en]) (t := 74) (fr := (0, 0)) (heap_alloc_new (w7.alloc (.cells #[.int .i64 sh, .slice la L.length lc, .bool en] 74)) (.cells #[.int .i64 sh, .slice la L.length lc, .bool en] 74))
                  simp only [World.size_alloc] at hnw5
                  have hsz7 : wr.heap.size ≤ w7.heap.size := hB7.size
                  have HRl : Hid (((w7.alloc (.cells #[.int .i64 sh, .slice la L.length lc, .bool en] 74)).alloc (.cells #[.int .i64 sh, .slice la L.length lc, .bool en] 74)).ownsRow (w5.heap.size + 1) 3 1 (.slice la L.length lc) L.length (L.map (Value.int .i64)) ∧ ∀ g, (Value.slice la L.length lc).ownBlock = some g → wr.heap.size ≤ g) := ⟨own_mono ((hrl.alloc _).alloc _) hszr, fun g hg => (hrl.lt g hg).1⟩
                  clear hB7 hrl hg7 call)
               | (at_builtin
                  refine wpList_append_lies _ rfl _ _ _ rfl (w5.heap.size + 1) 74 i5 _ 3 40 Try.underlying72 hi5 hz8 hz9 hz10 rfl (by omega) v Ln.length (flatC (vrr Ck.length) Ln) rfl own5
                    ⟨w7.heap.size + 1, 0, none⟩ 1 1 [.int .i64 sh, .slice la L.length lc, .bool en] rfl rfl hnw5 (by simp [Value.oneCell']) (by omega) m1 m2 (by simp; omega) (w7.heap.size + 2) (by simp) ?_
                  intro g6 cap6 w6 hown6 hgrow6 hat6 hlt6))
            have HP6 := PT_cell (c := (sh, L, en)) HPT.out HG7.out HRl.out.1 HRl.out.2 hgrow6 hown6 (fun g hg => by
              simp only [Value.ownBlock, Option.some.injEq] at hg
              subst hg
              rcases hat6 with h | h
              · exact .inl h
              · exact .inr (by simp; omega))
            have HTS6 : Hid (TS w5 cv gv w6) := (HTS.out.grow HG7.out (fun _ e => nomatch e)).grow hgrow6 (fun b hb => (HPT.out.lt (i := Tx.cur) rfl hb).1)
            have HP6' : Hid (Owns w6 (w5.heap.size + 1) (PT cv gv vc vg' _ Ck Gk (some (.slice (some ⟨g6, 0, none⟩) (Ln.length + 1) cap6, Ln ++ [(sh, L, en)])))) := HP6
            clear hown6 hgrow6 hat6 hlt6 own5 hnw5 hi5 hz8 hz9 hz10 m1 m2 HP6
            go_roundw
            case rel =>
              have h6 := HP6'.out
              simp only [hLl] at h6
              rw [← HCe.out] at h6
              exact ⟨n + 1, _, _, rfl, by go_num, by omega, HTS6.out, h6⟩
            case measure => simp [intOf]; omega
          · obtain rfl : n = T + 1 := by omega
            have e1 : decide ((T : Int) + 1 ≤ (T : Int)) = false := decide_eq_false (by omega)
            have e2 : decide (((T + 1 : Nat) : Int) ≤ (T : Int)) = false := decide_eq_false (by omega)
            obtain ⟨va, vcap, hvv⟩ : ∃ a c, v = .slice a ((List.range (T + 1)).map (cellP T N R NL Ls k)).length c := own_form (HPT.out.own .cur _ rfl)
            obtain ⟨L, hL⟩ : ∃ L, (List.range (T + 1)).map (cellP T N R NL Ls k) = L := ⟨_, rfl⟩
            have HRow : Hid (rowP T N R NL Ls k = L) := hL
            rw [hL] at hvv HPT
            subst hvv
            obtain ⟨Lm, hLm⟩ : ∃ m, L.length = m := ⟨_, rfl⟩
            rw [hLm] at HPT ⊢
            have t0 := HTS.out.t0
            have hg7 := World.grownBy_alloc wr (.cells #[.slice va Lm vcap] 72) none
            have HPa : Hid (Owns (wr.alloc (.cells #[.slice va Lm vcap] 72)) (w5.heap.size + 1) (PT cv gv vc vg' vrr Ck Gk (some (.slice va Lm vcap, L)))) := HPT.out.alloc _
            have HTSa : Hid (TS w5 cv gv (wr.alloc (.cells #[.slice va Lm vcap] 72))) := HTS.out.grow hg7 (fun _ e => nomatch e)
            have own5 : (wr.alloc (.cells #[.slice va Lm vcap] 72)).ownsRow (w5.heap.size + 1) 72 1 cv Ck.length ((List.range Ck.length).map vc) := HPa.out.own .cs _ rfl
            have hnw5 := World.news_of_block (cs := #[.slice va Lm vcap]) (t := 72) (fr := (0, 0)) (heap_alloc_new wr (.cells #[.slice va Lm vcap] 72))
            obtain ⟨i5, hi5, hz8, hz9, hz10⟩ := info_parts Try.infoCells
            have hCl := HCl.out.1
            have m1 : Ck.length + 1 ≤ maxLen := by unfold maxLen; omega
            have m2 : (Ck.length + 1) * 24 ≤ 140737488355328 := by omega
            clear hTS hPT hL hg7 hCl hLm
            go_wp2_with
              (at_builtin
               refine wpList_append_lies _ rfl _ _ _ rfl (w5.heap.size + 1) 72 i5 _ 1 24 Try.underlying35 hi5 hz8 hz9 hz10 rfl (by omega) cv Ck.length ((List.range Ck.length).map vc) rfl own5
                 ⟨wr.heap.size, 0, none⟩ 1 1 [.slice va Lm vcap] rfl rfl hnw5 (by simp [Value.oneCell']) (by omega) m1 m2 (by simp; omega) (wr.heap.size + 1) (by simp) ?_
               intro g6 cap6 w6 hown6 hgrow6 hat6 hlt6
               have hts6 := HTSa.out.grow hgrow6 (fun b hb => (HPa.out.lt (i := Tx.cs) rfl hb).1)
               have t06 := hts6.t0
               have tf6 := hts6.fr 0
               have HTS6 : Hid (TS w5 cv gv w6) := hts6
               clear hts6)
            have HP6 : Hid (Owns w6 (w5.heap.size + 1) (PT (.slice (some ⟨g6, 0, none⟩) (Ck.length + 1) cap6) gv (fun q => if q = Ck.length then .slice va Lm vcap else vc q) vg' vrr (Ck ++ [L]) Gk none)) := PT_row HPa.out hgrow6 hown6 (fun g hg => by
              simp only [Value.ownBlock, Option.some.injEq] at hg
              subst hg
              rcases hat6 with h | h
              · exact .inl h
              · exact .inr (by simp; omega))
            clear hown6 hgrow6 hat6 hlt6 own5 hnw5 hi5 hz8 hz9 hz10 m1 m2 HPa HTSa HPT HTS t0
            have HTS8 : Hid (TS w5 (.slice (some ⟨g6, 0, none⟩) (Ck.length + 1) cap6) gv (w6.setCell ⟨w5.heap.size, 0, none⟩ (.slice (some ⟨g6, 0, none⟩) (Ck.length + 1) cap6))) := HTS6.out.set0 _
            have HP8 : Hid (Owns (w6.setCell ⟨w5.heap.size, 0, none⟩ (.slice (some ⟨g6, 0, none⟩) (Ck.length + 1) cap6)) (w5.heap.size + 1) (PT (.slice (some ⟨g6, 0, none⟩) (Ck.length + 1) cap6) gv (fun q => if q = Ck.length then .slice va Lm vcap else vc q) vg' vrr (Ck ++ [L]) Gk none)) := HP6.out.setBelow (a := ⟨w5.heap.size, 0, none⟩) (by simp) _
            clear HTS6 HP6 t06 tf6
            generalize (w6.setCell ⟨w5.heap.size, 0, none⟩ (.slice (some ⟨g6, 0, none⟩) (Ck.length + 1) cap6)) = W8 at HTS8 HP8 ⊢
            have hF8 := HFw.out W8 HTS8.out.below W8 (Kept.refl _ _)
            have c7 := hF8.c7
            obtain ⟨n1, n2⟩ := hF8.nx k hlt
            have hcap := hF8.cap k hlt
            have a08 := HGr.out W8 HTS8.out.below
            have t18 := HTS8.out.t1
            obtain ⟨rg, hrg⟩ : ∃ x, D.rg k = x := ⟨_, rfl⟩
            obtain ⟨rcp, hrcp⟩ : ∃ x, D.rcap k = x := ⟨_, rfl⟩
            rw [hrg, hrcp] at n1
            rw [hrg] at n2
            rw [hrcp] at hcap
            have k0 : (0 : Int) ≤ (k : Int) := Int.natCast_nonneg _
            have k1 : (k : Int) < (OL.length : Int) := by omega
            have T0 : (0 : Int) ≤ (T : Int) := Int.natCast_nonneg _
            have T1 : (T : Int) ≤ (T : Int) + (N : Int) := by omega
            have T2 : (T : Int) + (N : Int) ≤ (rcp : Int) := by omega
            have hne : ¬ rcp = T := by omega
            obtain ⟨row, hrow⟩ : ∃ r, (NL.getD k []).drop T = r := ⟨_, rfl⟩
            have hNl := (HOk.out.go k hlt 0 (by omega)).1
            have hrl : row.length = N := by rw [← hrow, List.length_drop, hNl]; omega
            have hcells : ∀ j, j < N → W8.cell? ⟨rg, T + j, none⟩ = some (.int .i64 (row.getD j 0)) := fun j hj => by
              have := n2 (T + j) (by omega)
              rw [this, ← hrow]
              simp [List.getD]
            have HCells : Hid (∀ j, j < N → W8.cell? ⟨rg, T + j, none⟩ = some (.int .i64 (row.getD j 0))) := hcells
            have HRowG : Hid ((NL.getD k []).drop T = row ∧ row.length = N) := ⟨hrow, hrl⟩
            have hrgl : rg < W8.heap.size := World.block_lt_of_cell? W8 _ (hcells 0 (by omega))
            have hsz8 := HTS8.out.size
            clear hF8 n2 hrg hrcp hrow hNl hcells
            refine wp_region_held_seq [0, 1, 3, 4, 5, 6, 7, 8, 9, 10, 11, 12] [2, 13, 14, 15, 16, 17] 17 (fun w' => w'.cell? ⟨ab, 7, none⟩ = some (.slice (some ⟨D.ng, 0, none⟩) OL.length D.ncap) ∧ w'.cell? ⟨D.ng, k, none⟩ = some (.slice (some ⟨rg, 0, none⟩) (T + N) rcp) ∧ w'.cell? ⟨w.heap.size, 0, none⟩ = some (.int .i64 T) ∧ w'.cell? ⟨w5.heap.size, 1, none⟩ = some gv) (by kernel_rfl) (by kernel_rfl) ⟨c7, n1, a08, t18⟩ ?_
            iterate 12
              refine StillI.cons (v := ?_) rfl (by rfl) ?_ ?_
              rotate_left
              · intro w' hSw
                obtain ⟨s0', s1', s2', s3'⟩ := hSw
                go_simp
                try with_reducible rfl
              simp only [Act.put, List.setIfInBounds_toArray]
            rw [StillI]
            refine TailI.cons rfl (fun K hK => ?_)
            go_simp
            have hs0 : (W8.alloc (.cells #[] 3)).cell? ⟨ab, 7, none⟩ = some (.slice (some ⟨D.ng, 0, none⟩) OL.length D.ncap) ∧ (W8.alloc (.cells #[] 3)).cell? ⟨D.ng, k, none⟩ = some (.slice (some ⟨rg, 0, none⟩) (T + N) rcp) ∧ (W8.alloc (.cells #[] 3)).cell? ⟨w.heap.size, 0, none⟩ = some (.int .i64 T) ∧ (W8.alloc (.cells #[] 3)).cell? ⟨w5.heap.size, 1, none⟩ = some gv :=
              ⟨(World.cell?_alloc_past _ _ _ (World.block_lt_of_cell? W8 _ c7)).trans c7, (World.cell?_alloc_past _ _ _ (World.block_lt_of_cell? W8 _ n1)).trans n1, (World.cell?_alloc_past _ _ _ (World.block_lt_of_cell? W8 _ a08)).trans a08, (World.cell?_alloc_past _ _ _ (World.block_lt_of_cell? W8 _ t18)).trans t18⟩
            refine hK.out _ _ (fun _ => hs0) ?_
            clear hK
            have own0 : (W8.alloc (.cells #[] 3)).drew.ownsRow W8.heap.size 3 1 (.slice (some ⟨W8.heap.size, 0, none⟩) 0 0) 0 [] := World.ownsRow_lit (base := W8.heap.size) (e := 3) (size := 1) W8 #[] 0 (Nat.le_refl _) (by unfold maxLen; omega) rfl
            have hnw0 : ∀ j u, (row.map (Value.int .i64))[j]? = some u → (W8.alloc (.cells #[] 3)).drew.cell? ((⟨rg, T, none⟩ : Addr).add j) = some u := fun j u hu => by
              have hadd : (⟨rg, T, none⟩ : Addr).add j = ⟨rg, T + j, none⟩ := by unfold Addr.add; split <;> simp_all
              have hj : j < row.length := by have := (List.getElem?_eq_some_iff.1 hu).1; simpa using this
              have hc := HCells.out j (by have := HRowG.out.2; omega)
              have hu' : u = .int .i64 (row.getD j 0) := by
                rw [List.getElem?_map, List.getElem?_eq_getElem hj] at hu
                simp only [Option.map_some, Option.some.injEq] at hu
                rw [← hu]
                simp [List.getD, hj]
              rw [hadd, hu']
              exact (World.cell?_alloc_past _ _ _ hrgl).trans hc
            obtain ⟨i5, hi5, hz8, hz9, hz10⟩ := info_parts Try.infoInt
            have hrl := HRowG.out.2
            refine TailI.cons rfl (fun K hK => ?_)
            refine step_append_lies _ rfl _ _ _ rfl W8.heap.size 3 i5 _ 1 8 Try.underlying25 hi5 hz8 hz9 hz10 rfl (by omega) (.slice (some ⟨W8.heap.size, 0, none⟩) 0 0) 0 [] rfl own0
              ⟨rg, T, none⟩ N (rcp - T) (row.map (Value.int .i64)) rfl (by simp [hrl]) hnw0 (by simp [Value.oneCell']) (by omega) (by unfold maxLen; omega) (by omega) (by simp) (W8.heap.size + 1) (by simp) ?_
            intro g9 cap9 w9 hown9 hgrow9 hat9 hlt9
            rw [Nat.zero_add, List.nil_append] at hown9
            have hg9 : W8.grownBy w9 none := ⟨hgrow9.os, hgrow9.tape, hgrow9.output, Nat.le_trans (by simp) hgrow9.size, fun q hq _ => (hgrow9.block q (by simp; omega) (fun e => by simp only [Value.ownBlock, Option.some.injEq] at e; omega)).trans (by
              show (W8.alloc (.cells #[] 3)).heap[q]? = W8.heap[q]?
              exact ((Below.refl W8.heap.size W8).alloc (Nat.le_refl _) (.cells #[] 3)).block q hq)⟩
            have hcell9 : ∀ p v, W8.cell? p = some v → w9.cell? p = some v := fun p v hp => hg9.cell hp (by simp)
            refine hK.out _ _ (fun _ => ⟨hcell9 _ _ c7, hcell9 _ _ n1, hcell9 _ _ a08, hcell9 _ _ t18⟩) ?_
            clear hK
            refine TailI.cons rfl (fun K hK => ?_)
            go_simp
            obtain ⟨W10, hW10⟩ : ∃ W, W = w9.alloc (.cells #[.slice (some ⟨g9, 0, none⟩) N cap9] 25) := ⟨_, rfl⟩
            have hg10 : W8.grownBy W10 none := by
              have b := World.grownBy_alloc w9 (.cells #[.slice (some ⟨g9, 0, none⟩) N cap9] 25) none
              rw [← hW10] at b
              exact ⟨b.os.trans hg9.os, b.tape.trans hg9.tape, b.output.trans hg9.output, Nat.le_trans hg9.size b.size, fun q hq hn => (b.block q (Nat.lt_of_lt_of_le hq hg9.size) hn).trans (hg9.block q hq hn)⟩
            have hcell10 : ∀ p v, W8.cell? p = some v → W10.cell? p = some v := fun p v hp => hg10.cell hp (by simp)
            have hr10 : W10.ownsRow (w5.heap.size + 1) 3 1 (.slice (some ⟨g9, 0, none⟩) N cap9) row.length (row.map (Value.int .i64)) := by
              rw [hW10, hrl]
              exact own_mono (hown9.alloc _) hsz8
            have hg9ge : W8.heap.size ≤ g9 := (hown9.lt g9 rfl).1
            have hnw5 := World.news_of_block (cs := #[.slice (some ⟨g9, 0, none⟩) N cap9]) (t := 25) (fr := (0, 0)) (heap_alloc_new w9 (.cells #[.slice (some ⟨g9, 0, none⟩) N cap9] 25))
            have own5 : W10.ownsRow (w5.heap.size + 1) 25 1 gv Gk.length ((List.range Gk.length).map vg') := (HP8.out.own .gs _ rfl).kept hg10 (by cases gv.ownBlock <;> simp)
            have HTS10 : Hid (TS w5 (.slice (some ⟨g6, 0, none⟩) (Ck.length + 1) cap6) gv W10) := HTS8.out.grow hg10 (fun _ e => nomatch e)
            obtain ⟨i6, hi6, hz11, hz12, hz13⟩ := info_parts Try.infoInts
            have hGl := HCl.out.2
            have m1 : Gk.length + 1 ≤ maxLen := by unfold maxLen; omega
            have m2 : (Gk.length + 1) * 24 ≤ 140737488355328 := by omega
            rw [← hW10] at hnw5
            have hs10 : W10.heap.size = w9.heap.size + 1 := by rw [hW10]; simp
            try rw [← hW10]
            refine hK.out _ _ (fun _ => ⟨hcell10 _ _ c7, hcell10 _ _ n1, hcell10 _ _ a08, hcell10 _ _ t18⟩) ?_
            clear hK
            refine TailI.cons rfl (fun K hK => ?_)
            refine step_append_lies _ rfl _ _ _ rfl (w5.heap.size + 1) 25 i6 _ 1 24 Try.underlying36 hi6 hz11 hz12 hz13 rfl (by omega) gv Gk.length ((List.range Gk.length).map vg') rfl own5
              ⟨w9.heap.size, 0, none⟩ 1 1 [.slice (some ⟨g9, 0, none⟩) N cap9] rfl rfl hnw5 (by simp [Value.oneCell']) (by omega) m1 m2 (by omega) (w9.heap.size + 1) hs10 ?_
            intro g11 cap11 w11 hown11 hgrow11 hat11 hlt11
            have hgb : ∀ b, gv.ownBlock = some b → w5.heap.size + 1 ≤ b := fun b hb => (HP8.out.lt (i := Tx.gs) rfl hb).1
            have hts11 := HTS10.out.grow hgrow11 hgb
            have HTS11 : Hid (TS w5 (.slice (some ⟨g6, 0, none⟩) (Ck.length + 1) cap6) gv w11) := hts11
            have t111 := hts11.t1
            have tf11 := hts11.fr 1
            have HP11 := PT_goto (Y := row) HP8.out hg10 hr10 (fun g hg => by simp only [Value.ownBlock, Option.some.injEq] at hg; omega) hgrow11 hown11 (fun g hg => by
              simp only [Value.ownBlock, Option.some.injEq] at hg
              subst hg
              rcases hat11 with h | h
              · exact .inl h
              · exact .inr (by omega))
            have hng : D.ng < w5.heap.size := World.block_lt_of_cell? w5 ⟨D.ng, k, none⟩ ((HFw.out w5 (Below.refl _ _) w5 (Kept.refl _ _)).nx k hlt).1
            have hab5 : ab < w5.heap.size := World.block_lt_of_cell? w5 ⟨ab, 7, none⟩ (HFw.out w5 (Below.refl _ _) w5 (Kept.refl _ _)).c7
            have hcell11 : ∀ q o v, q < w5.heap.size → W8.cell? ⟨q, o, none⟩ = some v → w11.cell? ⟨q, o, none⟩ = some v := fun q o v hq hp => hgrow11.cell (hcell10 _ _ hp) (fun e => by have := hgb q e.symm; omega)
            have hw5 : w.heap.size < w5.heap.size := by have := HB35.out.1.size; omega
            have S11 : w11.cell? ⟨ab, 7, none⟩ = some (.slice (some ⟨D.ng, 0, none⟩) OL.length D.ncap) ∧ w11.cell? ⟨D.ng, k, none⟩ = some (.slice (some ⟨rg, 0, none⟩) (T + N) rcp) ∧ w11.cell? ⟨w.heap.size, 0, none⟩ = some (.int .i64 T) ∧ w11.cell? ⟨w5.heap.size, 1, none⟩ = some gv := ⟨hcell11 _ _ _ hab5 c7, hcell11 _ _ _ hng n1, hcell11 _ _ _ hw5 a08, t111⟩
            have HP12 : Hid (Owns (w11.setCell ⟨w5.heap.size, 1, none⟩ (.slice (some ⟨g11, 0, none⟩) (Gk.length + 1) cap11)) (w5.heap.size + 1) (PT (.slice (some ⟨g6, 0, none⟩) (Ck.length + 1) cap6) (.slice (some ⟨g11, 0, none⟩) (Gk.length + 1) cap11) (fun q => if q = Ck.length then .slice va Lm vcap else vc q) (fun q => if q = Gk.length then .slice (some ⟨g9, 0, none⟩) N cap9 else vg' q) vrr (Ck ++ [L]) (Gk ++ [row]) none)) := HP11.setBelow (a := ⟨w5.heap.size, 1, none⟩) (by simp) _
            have HCG : Hid ((List.range (k + 1)).map (rowP T N R NL Ls) = Ck ++ [L] ∧ ((List.range (k + 1)).map fun k => (NL.getD k []).drop T) = Gk ++ [row]) := by
              refine ⟨?_, ?_⟩
              · rw [List.range_succ, List.map_append, HCk.out.1]
                show Ck ++ [rowP T N R NL Ls k] = _
                rw [HRow.out]
              · rw [List.range_succ, List.map_append, HCk.out.2]
                show Gk ++ [(NL.getD k []).drop T] = _
                rw [HRowG.out.1]
            refine hK.out _ _ (fun _ => S11) ?_
            clear hK hts11 HP11 hown11 hgrow11 hat11 hlt11 hown9 hgrow9 hat9 hlt9 own0 hnw0 own5 hnw5 hr10 hg10 hg9 hcell9 hcell10 hi5 hi6 hz8 hz9 hz10 hz11 hz12 hz13 m1 m2 hGl hs10 hW10
            refine TailI.cons rfl (fun K hK => ?_)
            go_simp
            refine hK.out _ _ (fun _ => S11) ?_
            clear hK
            refine TailI.cons rfl (fun K hK => ?_)
            go_simp
            refine hK.out _ _ (fun h => absurd h (by omega)) ?_
            clear hK
            rw [TailI]
            refine NoPanic.normal ?_
            go_wp2_with fail
            go_roundw
            case rel =>
              have h12 := HP12.out
              rw [← HCG.out.1, ← HCG.out.2] at h12
              exact ⟨k + 1, _, _, _, _, _, by go_num, by omega, HTS11.out.set1 _, h12⟩
            case measure => simp [intOf]; omega
      · obtain rfl : k = OL.length := by omega
        have hcutk : decide ((OL.length : Int) < (OL.length : Int)) = false := by simp
        obtain ⟨ca, cc, hcv⟩ : ∃ a c, cv = .slice a Ck.length c := own_form (HPT.out.own .cs _ rfl)
        obtain ⟨ga, gc, hgv⟩ : ∃ a c, gv = .slice a Gk.length c := own_form (HPT.out.own .gs _ rfl)
        subst hcv
        subst hgv
        have t0 := HTS.out.t0
        have t1 := HTS.out.t1
        have hw5 : w.heap.size + 1 < w5.heap.size := by have := HB35.out.1.size; omega
        have x0 := (HTS.out.below.cell (p := ⟨w.heap.size + 1, 0, none⟩) hw5).trans z0
        have x1 := (HTS.out.below.cell (p := ⟨w.heap.size + 1, 1, none⟩) hw5).trans z1
        have xf : ∀ o, wr.frozen? ⟨w.heap.size + 1, o, none⟩ = false := fun o => (HTS.out.below.frozen (p := ⟨w.heap.size + 1, o, none⟩) hw5).trans ((HB35.out.1.frozen (p := ⟨w.heap.size + 1, o, none⟩) (by simp; omega)).trans (HRf.out o))
        have xf0 := xf 0
        have xf1 := xf 1
        obtain ⟨c1, hc1⟩ : ∃ c, Ck.length = c := ⟨_, rfl⟩
        obtain ⟨c2, hc2⟩ : ∃ c, Gk.length = c := ⟨_, rfl⟩
        rw [hc1] at t0 HPT
        rw [hc2] at t1 HPT
        have HBf : Hid (Below w.heap.size w wr) := HBw.out.trans ((HB35.out.1.mono (by omega)).trans (HTS.out.below.mono (by omega)))
        clear xf hc1 hc2 HTS
        go_wp2_with fail
        refine bodyPost_ret (v := .tuple #[.agg #[.slice ca c1 cc, .slice ga c2 gc], .bool true]) (by simp [results, Try.results6, go_sem, x0, x1]) rfl (.inr ⟨OL.length, .slice ca c1 cc, .slice ga c2 gc, rfl, (HBf.out.setCell (by simp) _).setCell (by simp) _, HLI.out.2.1, hK150, ?_⟩)
        have hP := (HPT.out.setBelow (a := ⟨w.heap.size + 1, 0, none⟩) (by simp; omega) (.slice ca c1 cc)).setBelow (a := ⟨w.heap.size + 1, 1, none⟩) (by simp; omega) (.slice ga c2 gc)
        have hT' := PT_tab hP
        unfold tabC tabG
        rw [HLI.out.2.2]
        simp only
        rw [HCk.out.1, HCk.out.2]
        exact hT'

end Go.Proofs.Ytkkcmcckdaobmaa
