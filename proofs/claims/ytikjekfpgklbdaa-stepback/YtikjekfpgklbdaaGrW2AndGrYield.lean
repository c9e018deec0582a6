import Derived.Test.YtikjekfpgklbdaaTrGrowAndGrMem
import Derived.Deep.RegionHeld3
import Derived.Deep.RegionLaw
import Derived.Deep.Cut
import Derived.Deep.CutRange
import Derived.Deep.DrawnRows
import Derived.StillTactics
import Derived.OwnWalk
import Derived.Laws.Pointers
import Derived.Defers
import Derived.Recover
/- The contract of next, over a reader that lies in memory as Inv says. -/
namespace Go.Proofs.Ytikjekfpgklbdaa
open Go.RowKit

theorem next_inv {W : World} {B rb : Nat} {tv nv rv dv : Value} {w : World} {st : St} {yv sv : Value} {R : List Ru} {D : List Int} (n : Int)
    (h : Inv W B rb tv nv rv dv w st yv sv) (hr : RulesAt W B rv R) (hd : ListAt W B dv D) (hD : D.length ≤ 400) :
    Calls Try.prog 55 #[.pointer (some ⟨rb, 0, none⟩), .int .i64 n] w fun e w' =>
      (∃ q, nextF R D n st.pos = some q ∧ e = .returned (.int .i64 q) ∧ Inv W B rb tv nv rv dv w' { st with pos := st.pos + 1 } yv sv) ∨
      (nextF R D n st.pos = none ∧ e = .panicked gaveUp ∧ Weak W B rb w') := by
  have hr' := hr.below h.below
  have hd' := hd.below h.below
  by_cases hp : st.pos < D.length
  · obtain ⟨b, o, dc, rfl, hb, hc⟩ := hd'.2 _ hp
    obtain ⟨x, hx⟩ : ∃ x, D[st.pos]? = some x := ⟨D[st.pos], by simp [hp]⟩
    rw [getD_of_some hx] at hc
    by_cases hq : 0 ≤ x ∧ x < R.length
    · obtain ⟨q, rfl⟩ : ∃ q : Nat, x = q := ⟨x.toNat, by omega⟩
      have hq' : q < R.length := by omega
      obtain ⟨b2, o2, rc, qa, qc, rfl, hb2, k1, _, _, _⟩ := hr'.2 q hq'
      by_cases hn : (R.getD q (0, [])).1 = n
      · rw [hn] at k1
        refine (next_ok rb b o dc R.length rc b2 o2 st.pos q D.length n w h.c2 h.c3 h.c4 (h.fr 4) hp (by unfold maxLen; omega) hc hq' k1).mono ?_
        rintro e w' ⟨rfl, m, rfl⟩
        refine .inl ⟨q, by simp only [nextF, hx]; rw [if_pos hq]; simp only [Int.toNat_natCast]; rw [if_pos hn], rfl, ?_⟩
        have := (h.drewN m).setPos (st.pos + 1)
        simpa using this
      · refine (next_other rb b o dc R.length rc b2 o2 st.pos q D.length _ n w h.c2 h.c3 h.c4 hp hc hq' k1 hn).mono ?_
        rintro e w' ⟨rfl, m, rfl⟩
        exact .inr ⟨by simp only [nextF, hx]; rw [if_pos hq]; simp only [Int.toNat_natCast]; rw [if_neg hn], rfl, h.weak.drewN m⟩
    · obtain ⟨ra, rc, rfl⟩ := hr'.1
      refine (next_out rb b o dc R.length rc st.pos ra x D.length n w h.c2 h.c3 h.c4 hp hc hq).mono ?_
      rintro e w' ⟨rfl, m, rfl⟩
      exact .inr ⟨by simp only [nextF, hx]; rw [if_neg hq], rfl, h.weak.drewN m⟩
  · obtain ⟨da, dc, rfl⟩ := hd'.1
    refine (next_end rb D.length dc st.pos da n w h.c3 h.c4 (by omega)).mono ?_
    rintro e w' ⟨rfl, m, rfl⟩
    exact .inr ⟨by simp [nextF, List.getElem?_eq_none (show D.length ≤ st.pos by omega)], rfl, h.weak.drewN m⟩

theorem next_some {W : World} {B rb : Nat} {tv nv rv dv : Value} {w : World} {st : St} {yv sv : Value} {R : List Ru} {D : List Int} {n : Int} {q : Nat}
    (h : Inv W B rb tv nv rv dv w st yv sv) (hr : RulesAt W B rv R) (hd : ListAt W B dv D) (hD : D.length ≤ 400) (hq : nextF R D n st.pos = some q) :
    Calls Try.prog 55 #[.pointer (some ⟨rb, 0, none⟩), .int .i64 n] w fun e w' => e = .returned (.int .i64 q) ∧ Inv W B rb tv nv rv dv w' { st with pos := st.pos + 1 } yv sv := by
  refine (next_inv n h hr hd hD).mono ?_
  rintro e w' (⟨q', hq', rfl, hI⟩ | ⟨hq', _⟩)
  · rw [hq] at hq'
    cases hq'
    exact ⟨rfl, hI⟩
  · rw [hq] at hq'
    cases hq'

theorem next_none {W : World} {B rb : Nat} {tv nv rv dv : Value} {w : World} {st : St} {yv sv : Value} {R : List Ru} {D : List Int} {n : Int}
    (h : Inv W B rb tv nv rv dv w st yv sv) (hr : RulesAt W B rv R) (hd : ListAt W B dv D) (hD : D.length ≤ 400) (hq : nextF R D n st.pos = none) :
    Calls Try.prog 55 #[.pointer (some ⟨rb, 0, none⟩), .int .i64 n] w fun e w' => e = .panicked gaveUp ∧ Weak W B rb w' := by
  refine (next_inv n h hr hd hD).mono ?_
  rintro e w' (⟨q', hq', _⟩ | ⟨_, rfl, hW⟩)
  · rw [hq] at hq'
    cases hq'
  · exact ⟨rfl, hW⟩

end Go.Proofs.Ytikjekfpgklbdaa

/- The contract of name, which calls itself. -/
namespace Go.Proofs.Ytikjekfpgklbdaa
open Go.RowKit
attribute [local go_sem ↓] Go.wp_at_zero Go.wp_at_succ

theorem Try.infoGrSp : (Try.prog.info? 57).map (fun i => (i.zero, i.size, i.bytes)) = some (some (.agg #[.int .i64 0, .int .i64 0, .int .i64 0]), 3, 24) := by kernel_rfl
theorem Try.infoGrI : (Try.prog.info? 3).map (fun i => (i.zero, i.size, i.bytes)) = some (some (.int .i64 0), 1, 8) := by kernel_rfl

/-- What the numbers must meet. -/
structure GrFits (D : List Int) (M : Nat) (st : St) (more : Nat) : Prop where
  pos : st.pos ≤ D.length
  len : st.S.length ≤ st.pos
  pot : st.Y.length + more + (D.length - st.pos) * M ≤ 1099511627776

theorem GrFits.grew {D : List Int} {M : Nat} {st st' : St} {more : Nat} (h : GrFits D M st more) (g : Grew D M st st' 0) : GrFits D M st' more := by
  obtain ⟨T, h1, h2, _⟩ := g.seg
  have := g.pot h.pos
  have := h.pot
  have := h.len
  have := g.pos
  refine ⟨g.top h.pos, by rw [h1, List.length_append]; omega, by omega⟩

theorem GrFits.push {D : List Int} {M : Nat} {st : St} {more : Nat} (h : GrFits D M st (more + 1)) (x : Int) : GrFits D M { st with Y := st.Y ++ [x] } more := by
  have := h.pot
  exact ⟨h.pos, h.len, by simp only [List.length_append, List.length_cons, List.length_nil]; omega⟩

theorem GrFits.next {D : List Int} {M : Nat} {st : St} (h : GrFits D M st 0) (hp : st.pos < D.length) {m : Nat} (hm : m ≤ M) (t : Sp) : GrFits D M { pos := st.pos + 1, Y := st.Y, S := st.S ++ [t] } m := by
  have := h.len
  have e : D.length - st.pos = (D.length - (st.pos + 1)) + 1 := by omega
  refine ⟨by simp only; omega, by simp only [List.length_append, List.length_cons, List.length_nil]; omega, ?_⟩
  have h1 := h.pot
  rw [e, Nat.add_mul, Nat.one_mul] at h1
  simp only
  omega

theorem GrFits.less {D : List Int} {M : Nat} {st : St} {a b : Nat} (h : GrFits D M st a) (hb : b ≤ a) : GrFits D M st b := by
  have := h.pot
  exact ⟨h.pos, h.len, by omega⟩

set_option maxRecDepth 100000 in
set_option maxHeartbeats 3200000 in
theorem name_any {W : World} {B rb : Nat} {tv nv rv dv : Value} {R : List Ru} {D : List Int} {M : Nat}
    (hr : RulesAt W B rv R) (hd : ListAt W B dv D) (hD : D.length ≤ 400) (hM : ∀ q, (R.getD q (0, [])).2.length ≤ M) (hM' : M ≤ 2147483648) : ∀ (k : Nat) (n : Int) (st : St) (w : World) (yv sv : Value),
    Inv W B rb tv nv rv dv w st yv sv → D.length - st.pos ≤ k → GrFits D M st 0 →
    Calls Try.prog 52 #[.pointer (some ⟨rb, 0, none⟩), .int .i64 n] w fun e w' =>
      (∃ st' yv' sv', nameF R D k n st = some st' ∧ e = .returned (.tuple #[]) ∧ Inv W B rb tv nv rv dv w' st' yv' sv') ∨
      (nameF R D k n st = none ∧ e = .panicked gaveUp ∧ Weak W B rb w') := by
  intro k
  induction k with
  | zero =>
    intro n st w yv sv hI hk hF
    have hp := hF.pos
    have hq : nextF R D n st.pos = none := by simp [nextF, List.getElem?_eq_none (show D.length ≤ st.pos by omega)]
    go_enter Try.func52, Try.ntmps52
    go_wp2_with (go_at_call 55; refine (next_none hI hr hd hD hq).mono ?_; rintro e w1 ⟨rfl, hW⟩)
    exact ⟨rfl, .inr ⟨rfl, rfl, hW⟩⟩
  | succ k ih =>
    intro n st w yv sv hI hk hF
    cases hq : nextF R D n st.pos with
    | none =>
      go_enter Try.func52, Try.ntmps52
      go_wp2_with (go_at_call 55; refine (next_none hI hr hd hD hq).mono ?_; rintro e w1 ⟨rfl, hW⟩)
      exact ⟨rfl, .inr ⟨by simp only [nameF, hq], rfl, hW⟩⟩
    | some q =>
      obtain ⟨sa, sc, rfl⟩ := own_form hI.ownS
      obtain ⟨ya, yc, rfl⟩ := own_form hI.ownY
      go_enter Try.func52, Try.ntmps52
      go_wp2_with (go_at_call 55; refine (next_some hI hr hd hD hq).mono ?_; rintro e w1 ⟨rfl, hI1⟩; have c2 := hI1.c2; have c5 := hI1.c5; have c6 := hI1.c6; have f6 := hI1.fr 6)
      have ownS := hI1.ownS
      have hne : ∀ g, (Value.slice sa st.S.length sc).ownBlock = some g → g ≠ rb := fun g hg => by have := (hI1.ltS hg).1; omega
      have ag : (Value.slice sa st.S.length sc).ownBlock ≠ some rb := fun e => hne rb e rfl
      have hlt1 := hI1.lt
      have hSl := hF.len
      have hSp := hF.pos
      have hn1 : st.S.length + 1 ≤ maxLen := by unfold maxLen; omega
      have hn2 : (st.S.length + 1) * 24 ≤ 140737488355328 := by omega
      have hI2 := (hI1.alloc (.cells #[.int .i64 q, .int .i64 st.Y.length, .int .i64 0] 57)).drew
      have a6 := (hI1.alloc (.cells #[.int .i64 q, .int .i64 st.Y.length, .int .i64 0] 57)).c6
      have a5 := (hI1.alloc (.cells #[.int .i64 q, .int .i64 st.Y.length, .int .i64 0] 57)).c5
      obtain ⟨i0, hi0, hz0, hz1, hz2⟩ := info_parts Try.infoGrSp
      go_cut [] from 8 (fun wx => ∃ g cap, Inv W B rb tv nv rv dv wx { pos := st.pos + 1, Y := st.Y, S := st.S ++ [((q : Int), st.Y.length, 0)] } (.slice ya st.Y.length yc) (.slice (some ⟨g, 0, none⟩) (st.S.length + 1) cap))
      case first =>
        go_region_law
          ((refine step_append_lies _ (by rfl) _ _ _ (by rfl) (rb + 2) 57 i0 _ 3 24 Try.underlying33 hi0 hz0 hz1 hz2 rfl (by omega) (.slice sa st.S.length sc) st.S.length (flatG st.S) (by rfl) ((ownS.alloc _).drew)
              ⟨w1.heap.size, 0, none⟩ 1 1 [.int .i64 q, .int .i64 st.Y.length, .int .i64 0] (by rfl) (by rfl) (World.news_of_block (cs := #[.int .i64 q, .int .i64 st.Y.length, .int .i64 0]) (t := 57) (fr := (0, 0)) (heap_alloc_new w1 _)) (by simp [Value.oneCell'])
              (by omega) hn1 hn2 (by simp; omega) (w1.heap.size + 1) (by simp) ?_; intro g cap w2 hown2 hgrow hat hlt; have c6' := (hgrow.cell_far ⟨rb, 6, none⟩ (by simp; omega) (Ne.symm ag)).trans hI2.c6; have f6' := (hgrow.frozen_far ⟨rb, 6, none⟩ (by simp; omega) (Ne.symm ag)).trans (hI2.fr 6)))
        all_goals
          go_wp2_with fail
          go_meet
          case rel => exact ⟨_, _, Inv.pushS (t := ((q : Int), st.Y.length, 0)) hI2 hgrow hown2 (by simpa using hat)⟩
      case rest =>
        obtain ⟨g, cap, hI3⟩ := hcut
        clear hI2 hI1 ownS ag hne a5 a6 c2 c5 c6 f6 hlt1 hn1 hn2 hi0 hz0 hz1 hz2
        obtain ⟨hdq, hqR, _⟩ := nextF_some hq
        obtain ⟨b, o, rc, qa, qc, hv, hbB, _, k2, _, k3⟩ := hr.2 q hqR
        obtain ⟨Rt, hRt⟩ : ∃ Rt, (R.getD q (0, [])).2 = Rt := ⟨_, rfl⟩
        rw [hRt] at k2 k3
        have hRtM : Rt.length ≤ M := by rw [← hRt]; exact hM q
        have hpD : st.pos < D.length := by
          rcases Nat.lt_or_ge st.pos D.length with h | h
          · exact h
          · rw [List.getElem?_eq_none h] at hdq; cases hdq
        have HF3 : GrFits D M { pos := st.pos + 1, Y := st.Y, S := st.S ++ [((q : Int), st.Y.length, 0)] } Rt.length := hF.next hpD hRtM _
        have HQ : Hid (nextF R D n st.pos = some q) := hq
        have HR : Hid ((R.getD q (0, [])).2 = Rt) := hRt
        have c2 := hI3.c2
        rw [hv] at c2
        have k2' : wc.cell? ⟨b, o + q * 2 + 1, none⟩ = some (.slice qa Rt.length qc) := by rw [Nat.add_assoc]; exact (hI3.below.cell hbB).trans k2
        clear hv hRt k2 hq hdq
        go_wp2_with fail
        clear c2 k2' hbB
        go_loopw [42] (fun i wr => ∃ (j : Nat) (st1 : St) (yv1 sv1 : Value), i = .int .i64 j ∧ j ≤ Rt.length ∧ st.pos + 1 ≤ st1.pos ∧ Inv W B rb tv nv rv dv wr st1 yv1 sv1 ∧ GrFits D M st1 (Rt.length - j) ∧
            symsF (nameF R D k) (Rt.drop j) st1 = symsF (nameF R D k) Rt { pos := st.pos + 1, Y := st.Y, S := st.S ++ [((q : Int), st.Y.length, 0)] })
          (fun i _ => Rt.length - (intOf i).toNat)
        case atStart => exact ⟨0, _, _, _, rfl, Nat.zero_le _, Nat.le_refl _, hI3, by simpa using HF3, by simp⟩
        case round =>
          obtain ⟨j, st1, yv1, sv1, rfl, hj, hp1, hI4, hF4, hsy⟩ := hrel
          have HS : Hid (symsF (nameF R D k) (Rt.drop j) st1 = symsF (nameF R D k) Rt { pos := st.pos + 1, Y := st.Y, S := st.S ++ [((q : Int), st.Y.length, 0)] }) := hsy
          clear hsy HF3 hI3 hI
          by_cases hlt : j < Rt.length
          · obtain ⟨b', o', hqa, hb', k4, k5⟩ := k3 j hlt
            have k4' := (hI4.below.cell (p := ⟨b', o' + j * 2, none⟩) hb').trans k4
            have k5' : wr.cell? ⟨b', o' + j * 2 + 1, none⟩ = some (.int .i64 (Rt.getD j (false, 0)).2) := by rw [Nat.add_assoc]; exact (hI4.below.cell (p := ⟨b', o' + (j * 2 + 1), none⟩) hb').trans k5
            obtain ⟨⟨t, v⟩, hsym⟩ : ∃ x, Rt.getD j (false, 0) = x := ⟨_, rfl⟩
            have hdrop : Rt.drop j = (t, v) :: Rt.drop (j + 1) := by
              rw [List.drop_eq_getElem_cons hlt]
              congr 1
              rw [← hsym]
              simp [List.getD, hlt]
            rw [hsym] at k4' k5'
            have HD : Hid (Rt.drop j = (t, v) :: Rt.drop (j + 1)) := hdrop
            clear k4 k5 k3 hsym hdrop
            subst hqa
            cases t with
            | true =>
              obtain ⟨ya1, yc1, rfl⟩ := own_form hI4.ownY
              have ag : (Value.slice ya1 st1.Y.length yc1).ownBlock ≠ some rb := fun e => by have := (hI4.ltY e).1; omega
              have hlt1 := hI4.lt
              have hpot := hF4.pot
              have hn1 : st1.Y.length + 1 ≤ maxLen := by unfold maxLen; omega
              have hn2 : (st1.Y.length + 1) * 8 ≤ 140737488355328 := by omega
              have HF5 : GrFits D M { st1 with Y := st1.Y ++ [v] } (Rt.length - (j + 1)) := GrFits.push (more := Rt.length - (j + 1)) (by rw [show Rt.length - (j + 1) + 1 = Rt.length - j by omega]; exact hF4) v
              have HX : Hid (symsF (nameF R D k) (Rt.drop j) st1 = symsF (nameF R D k) (Rt.drop (j + 1)) { st1 with Y := st1.Y ++ [v] }) := by
                show symsF (nameF R D k) (Rt.drop j) st1 = _
                rw [HD.out, symsF]
              clear hpot
              have hI5 := hI4.alloc (.cells #[.bool true, .int .i64 v] 52)
              have c5 := hI5.c5
              have f5 := hI5.fr 5
              have hI6 := hI5.alloc (.cells #[.int .i64 v] 3)
              have a5 := hI6.c5
              have ownY := hI6.ownY
              have hI7 := hI6.drew
              have hnb : ((wr.alloc (.cells #[.bool true, .int .i64 v] 52)).alloc (.cells #[.int .i64 v] 3)).drew.heap[wr.heap.size + 1]? = some (.cells #[.int .i64 v] 3 (0, 0)) := by
                show ((wr.alloc (.cells #[.bool true, .int .i64 v] 52)).alloc (.cells #[.int .i64 v] 3)).heap[wr.heap.size + 1]? = _
                simpa using heap_alloc_new (wr.alloc (.cells #[.bool true, .int .i64 v] 52)) (.cells #[.int .i64 v] 3)
              have HB : Hid (((wr.alloc (.cells #[.bool true, .int .i64 v] 52)).alloc (.cells #[.int .i64 v] 3)).drew.heap[wr.heap.size + 1]? = some (.cells #[.int .i64 v] 3 (0, 0))) := hnb
              clear hnb
              have s1 : ((wr.alloc (.cells #[.bool true, .int .i64 v] 52)).alloc (.cells #[.int .i64 v] 3)).cell? ⟨wr.heap.size, 1, none⟩ = some (.int .i64 v) := by
                rw [World.cell?_alloc_past _ _ _ (by simp)]
                simp [go_sem]
              obtain ⟨i0, hi0, hz0, hz1, hz2⟩ := info_parts Try.infoGrI
              go_wp2_with fail
              go_region_law
                ((refine step_append_lies _ (by rfl) _ _ _ (by rfl) (rb + 2) 3 i0 _ 1 8 Try.underlying27 hi0 hz0 hz1 hz2 rfl (by omega) (.slice ya1 st1.Y.length yc1) st1.Y.length (st1.Y.map (Value.int .i64)) (by rfl) (ownY.drew)
                    ⟨wr.heap.size + 1, 0, none⟩ 1 1 [.int .i64 v] (by rfl) (by rfl) (World.news_of_block (cs := #[.int .i64 v]) (t := 3) (fr := (0, 0)) HB.out) (by simp [Value.oneCell'])
                    (by omega) hn1 hn2 (by simp; omega) (wr.heap.size + 2) (by simp) ?_; intro g2 cap2 w2 hown2 hgrow hat hlt; have c5' := (hgrow.cell_far ⟨rb, 5, none⟩ (by simp; omega) (Ne.symm ag)).trans hI7.c5; have f5' := (hgrow.frozen_far ⟨rb, 5, none⟩ (by simp; omega) (Ne.symm ag)).trans (hI7.fr 5)))
              all_goals
                go_wp2_with fail
                go_roundw
                case rel => exact ⟨j + 1, { st1 with Y := st1.Y ++ [v] }, _, _, by go_num, by omega, hp1, Inv.pushY hI7 hgrow hown2 (by simpa using hat), HF5, HX.out.symm.trans HS.out⟩
                case measure => simp [intOf]; omega
            | false =>
              have hI5 := hI4.alloc (.cells #[.bool false, .int .i64 v] 52)
              cases hn : nameF R D k v st1 with
              | none =>
                have call : Calls Try.prog 52 #[.pointer (some ⟨rb, 0, none⟩), .int .i64 v] (wr.alloc (.cells #[.bool false, .int .i64 v] 52)) fun e w' => e = .panicked gaveUp ∧ Weak W B rb w' :=
                  (ih v st1 _ _ _ hI5 (by omega) (hF4.less (Nat.zero_le _))).mono (by
                    rintro e w' (⟨st2, _, _, h2, _⟩ | ⟨_, rfl, hW⟩)
                    · rw [hn] at h2; cases h2
                    · exact ⟨rfl, hW⟩)
                have HX : Hid (symsF (nameF R D k) (Rt.drop j) st1 = none) := by
                  show symsF (nameF R D k) (Rt.drop j) st1 = none
                  rw [HD.out, symsF, hn]
                clear hn hI5
                go_wp2_with (go_at_call 52; refine call.mono ?_; rintro e w2 ⟨rfl, hW⟩)
                exact ⟨rfl, .inr ⟨nameF_none HQ.out HR.out (HS.out.symm.trans HX.out), rfl, hW⟩⟩
              | some st2 =>
                have call : Calls Try.prog 52 #[.pointer (some ⟨rb, 0, none⟩), .int .i64 v] (wr.alloc (.cells #[.bool false, .int .i64 v] 52)) fun e w' => e = .returned (.tuple #[]) ∧ ∃ yv2 sv2, Inv W B rb tv nv rv dv w' st2 yv2 sv2 :=
                  (ih v st1 _ _ _ hI5 (by omega) (hF4.less (Nat.zero_le _))).mono (by
                    rintro e w' (⟨st3, yv2, sv2, h2, rfl, hI6⟩ | ⟨h2, _⟩)
                    · rw [hn] at h2; cases h2; exact ⟨rfl, yv2, sv2, hI6⟩
                    · rw [hn] at h2; cases h2)
                have HX : Hid (symsF (nameF R D k) (Rt.drop j) st1 = symsF (nameF R D k) (Rt.drop (j + 1)) st2) := by
                  show symsF (nameF R D k) (Rt.drop j) st1 = _
                  rw [HD.out, symsF, hn]
                obtain ⟨gr, grp, _⟩ := nameF_grew hM k v st1 st2 hn
                have HF5 : GrFits D M st2 (Rt.length - (j + 1)) := (hF4.less (by omega)).grew gr
                clear hn hI5 gr
                go_wp2_with (go_at_call 52; refine call.mono ?_; rintro e w2 ⟨rfl, yv2, sv2, hI6⟩)
                go_roundw
                case rel => exact ⟨j + 1, st2, yv2, sv2, by go_num, by omega, by omega, hI6, HF5, HX.out.symm.trans HS.out⟩
                case measure => simp [intOf]; omega
          · have hje : Rt.drop j = [] := List.drop_of_length_le (by omega)
            have HX : symsF (nameF R D k) Rt { pos := st.pos + 1, Y := st.Y, S := st.S ++ [((q : Int), st.Y.length, 0)] } = some st1 := by rw [← HS.out, hje, symsF]
            have gr := symsF_grew (M := M) (fun n st st' h => (nameF_grew hM k n st st' h).1) _ _ _ HX
            obtain ⟨T, hT, _, _⟩ := gr.seg
            simp only [List.append_assoc, List.singleton_append] at hT
            have hplace : st1.S[st.S.length]? = some ((q : Int), st.Y.length, 0) := by rw [hT]; simp
            have hpl : st.S.length < st1.S.length := by rw [hT]; simp
            obtain ⟨g1, cap1, rfl, _, _⟩ := hI4.ownS.form (by omega)
            obtain ⟨ya1, yc1, rfl⟩ := own_form hI4.ownY
            have HN := nameF_some HQ.out HR.out HX
            have HN' : Hid (nameF R D (k + 1) n st = some { st1 with S := st1.S.set st.S.length ((q : Int), st.Y.length, st1.Y.length) }) := HN
            have HI := (hI4.drew).setTo (v := st1.Y.length) hplace
            have c5 := hI4.c5
            have c6 := hI4.c6
            have cT : wr.cell? ⟨g1, st.S.length * 3 + 2, none⟩ = some (.int .i64 0) := by rw [hI4.ownS.cellAt _ (by omega)]; exact (flatG_get hplace).2.2
            have fT := hI4.ownS.frozenAt (st.S.length * 3 + 2)
            have hi1 : (st.S.length : Int) < (st1.S.length : Int) := by omega
            have hi2 : (0 : Int) ≤ (st.S.length : Int) := Int.natCast_nonneg _
            clear HN HX hje hT gr hplace
            go_wp2_with fail
            go_region
            all_goals
              go_end0
              exact .inl ⟨_, _, _, HN'.out, rfl, HI⟩

end Go.Proofs.Ytikjekfpgklbdaa

/- The contracts of the deferred closure, of read, and of the two faces Yield and Spans. -/
namespace Go.Proofs.Ytikjekfpgklbdaa
open Go.RowKit

/-- The reader's cells, and its 'ok', when they are laid anew. -/
def relay (w : World) (rb : Nat) (v0 v1 v2 v3 v4 v5 v6 v7 : Value) : World :=
  (((((((w.setCell ⟨rb, 0, none⟩ v0).setCell ⟨rb, 1, none⟩ v1).setCell ⟨rb, 2, none⟩ v2).setCell ⟨rb, 3, none⟩ v3).setCell ⟨rb, 4, none⟩ v4).setCell ⟨rb, 5, none⟩ v5).setCell ⟨rb, 6, none⟩ v6).setCell ⟨rb + 1, 0, none⟩ v7

theorem relay_below {W w : World} {B rb : Nat} (h : Below B W w) (hb : B ≤ rb) (v0 v1 v2 v3 v4 v5 v6 v7 : Value) : Below B W (relay w rb v0 v1 v2 v3 v4 v5 v6 v7) := by
  unfold relay
  exact (((((((h.setCell hb _).setCell hb _).setCell hb _).setCell hb _).setCell hb _).setCell hb _).setCell hb _).setCell (by simp only; omega) _

theorem relay_own {w : World} {rb : Nat} {e : TypeId} {size : Nat} {v : Value} {n : Nat} {xs : List Value} (h : w.ownsRow (rb + 2) e size v n xs) (v0 v1 v2 v3 v4 v5 v6 v7 : Value) :
    (relay w rb v0 v1 v2 v3 v4 v5 v6 v7).ownsRow (rb + 2) e size v n xs := by
  unfold relay
  exact ownsRow_setCell_below (ownsRow_setCell_below (ownsRow_setCell_below (ownsRow_setCell_below (ownsRow_setCell_below (ownsRow_setCell_below (ownsRow_setCell_below (ownsRow_setCell_below h
    (by simp only; omega) _) (by simp only; omega) _) (by simp only; omega) _) (by simp only; omega) _) (by simp only; omega) _) (by simp only; omega) _) (by simp only; omega) _) (by simp only; omega) _

theorem relay_cells {W w : World} {B rb : Nat} (h : Weak W B rb w) (v0 v1 v2 v3 v4 v5 v6 v7 : Value) :
    (relay w rb v0 v1 v2 v3 v4 v5 v6 v7).cell? ⟨rb, 0, none⟩ = some v0 ∧ (relay w rb v0 v1 v2 v3 v4 v5 v6 v7).cell? ⟨rb, 1, none⟩ = some v1 ∧ (relay w rb v0 v1 v2 v3 v4 v5 v6 v7).cell? ⟨rb, 2, none⟩ = some v2 ∧
    (relay w rb v0 v1 v2 v3 v4 v5 v6 v7).cell? ⟨rb, 3, none⟩ = some v3 ∧ (relay w rb v0 v1 v2 v3 v4 v5 v6 v7).cell? ⟨rb, 4, none⟩ = some v4 ∧ (relay w rb v0 v1 v2 v3 v4 v5 v6 v7).cell? ⟨rb, 5, none⟩ = some v5 ∧
    (relay w rb v0 v1 v2 v3 v4 v5 v6 v7).cell? ⟨rb, 6, none⟩ = some v6 ∧ (relay w rb v0 v1 v2 v3 v4 v5 v6 v7).cell? ⟨rb + 1, 0, none⟩ = some v7 := by
  obtain ⟨u0, c0⟩ := h.cs 0 (by omega)
  obtain ⟨u1, c1⟩ := h.cs 1 (by omega)
  obtain ⟨u2, c2⟩ := h.cs 2 (by omega)
  obtain ⟨u3, c3⟩ := h.cs 3 (by omega)
  obtain ⟨u4, c4⟩ := h.cs 4 (by omega)
  obtain ⟨u5, c5⟩ := h.cs 5 (by omega)
  obtain ⟨u6, c6⟩ := h.cs 6 (by omega)
  have c7 := h.ok
  unfold relay
  refine ⟨?_, ?_, ?_, ?_, ?_, ?_, ?_, ?_⟩ <;> simp [go_sem, c0, c1, c2, c3, c4, c5, c6, c7]

theorem catch_panicking (rb : Nat) (u : TypeId) (pv : Value) (older : List PanicEntry) (w : World)
    (v0 v1 v2 v3 v4 v5 v6 v7 : Value) (c0 : w.cell? ⟨rb, 0, none⟩ = some v0) (c1 : w.cell? ⟨rb, 1, none⟩ = some v1) (c2 : w.cell? ⟨rb, 2, none⟩ = some v2) (c3 : w.cell? ⟨rb, 3, none⟩ = some v3)
    (c4 : w.cell? ⟨rb, 4, none⟩ = some v4) (c5 : w.cell? ⟨rb, 5, none⟩ = some v5) (c6 : w.cell? ⟨rb, 6, none⟩ = some v6)
    (hz : ∀ o, w.frozen? ⟨rb, o, none⟩ = false) (c7 : w.cell? ⟨rb + 1, 0, none⟩ = some v7) (hokz : w.frozen? ⟨rb + 1, 0, none⟩ = false) :
    CallsD Try.prog 51 #[.pointer (some ⟨rb, 0, none⟩), .pointer (some ⟨rb + 1, 0, none⟩)] (.panicking ({ v := .iface u pv, recovered := false } :: older)) w fun e u' w' =>
      e = .returned (.tuple #[]) ∧ u' = .panicking ({ v := .iface u pv, recovered := true } :: older) ∧ w' = relay w rb (.int .i64 0) (.int .i64 0) (.slice none 0 0) (.slice none 0 0) (.int .i64 0) (.slice none 0 0) (.slice none 0 0) (.bool false) := by
  refine callsD_of_wpS Try.func51 rfl fun c₀ cs hu => ?_
  apply wpS_seq
  apply wpS_region
  simp [wpOpsS, go_sem, recoverD, hu, Try.ntmps51, Exit.thenS]
  refine wpS_cond (t := true) (by simp [Act.eval, Array.replicate]) ?_
  simp only [if_true]
  apply wpS_region
  simp [wpOpsS, go_sem, c0, c1, c2, c3, c4, c5, c6, c7, hz, hokz, bodyPostS, results, Try.results51, relay]

theorem catch_idle (rb : Nat) (w : World) :
    CallsD Try.prog 51 #[.pointer (some ⟨rb, 0, none⟩), .pointer (some ⟨rb + 1, 0, none⟩)] .returning w fun e u' w' => e = .returned (.tuple #[]) ∧ u' = .returning ∧ w' = w := by
  refine callsD_of_wpS Try.func51 rfl fun c₀ cs hu => ?_
  apply wpS_seq
  apply wpS_region
  simp [wpOpsS, go_sem, recoverD, hu, Try.ntmps51, Exit.thenS]
  refine wpS_cond (t := false) (by simp [Act.eval, Array.replicate]) ?_
  simp only [Bool.false_eq_true, if_false]
  refine wpS_of_wp (wp_skip ?_)
  cases c₀
  simp_all [bodyPostS, results, Try.results51 ]

end Go.Proofs.Ytikjekfpgklbdaa

/- The contract of read. -/
namespace Go.Proofs.Ytikjekfpgklbdaa
open Go.RowKit

/-- The world in which name is called first. -/
def laid (w : World) (T N : Int) (rv dv : Value) : World :=
  ((w.alloc (.cells #[.int .i64 T, .int .i64 N, rv] 24)).alloc (.cells #[.int .i64 T, .int .i64 N, rv, dv, .int .i64 0, .slice none 0 0, .slice none 0 0] 98)).alloc (.cells #[.bool false] 4)

theorem start_inv (w : World) (T N : Int) (rv dv : Value) :
    Inv w w.heap.size (w.heap.size + 1) (.int .i64 T) (.int .i64 N) rv dv (laid w T N rv dv) { pos := 0, Y := [], S := [] } (.slice none 0 0) (.slice none 0 0) := by
  unfold laid
  refine ⟨((((Below.refl _ _).alloc (Nat.le_refl _) _).alloc (by simp) _).alloc (by simp; omega) _), by omega, by simp, ?_, ?_, ?_, ?_, ?_, ?_, ?_, fun o => ?_, ?_, ?_, World.ownsRow_nil _ _ _ _, World.ownsRow_nil _ _ _ _, fun g h => by simp [Value.ownBlock] at h⟩ <;> simp [go_sem]

/-- The zero reader, as a value. -/
def noReader : Value := .agg #[.int .i64 0, .int .i64 0, .slice none 0 0, .slice none 0 0, .int .i64 0, .slice none 0 0, .slice none 0 0]

set_option maxRecDepth 100000 in
set_option maxHeartbeats 3200000 in
theorem read_long (T N : Int) (rv : Value) (da : Option Addr) (L dc : Nat) (w : World) (hL : 400 < L) :
    Calls Try.prog 44 #[.agg #[.int .i64 T, .int .i64 N, rv], .slice da L dc] w fun e w' =>
      e = .returned (.tuple #[noReader, .bool false]) ∧ Below w.heap.size w w' := by
  unfold noReader
  go_enter_defers Try.func44, Try.ntmps44
  go_wp2_with fail
  exact ⟨_, by simp [results, Try.results44, go_sem], rfl, (((Below.refl _ _).alloc (Nat.le_refl _) _).alloc (by simp) _).alloc (by simp; omega) _⟩

set_option maxRecDepth 100000 in
set_option maxHeartbeats 3200000 in
theorem read_stuck (T N : Int) (ra : Option Addr) (rl rc : Nat) (da : Option Addr) (L dc : Nat) (w : World) (hL : L ≤ 400)
    (call : Calls Try.prog 52 #[.pointer (some ⟨w.heap.size + 1, 0, none⟩), .int .i64 0] (laid w T N (.slice ra rl rc) (.slice da L dc)) fun e w' => e = .panicked gaveUp ∧ Weak w w.heap.size (w.heap.size + 1) w') :
    Calls Try.prog 44 #[.agg #[.int .i64 T, .int .i64 N, .slice ra rl rc], .slice da L dc] w fun e w' =>
      e = .returned (.tuple #[noReader, .bool false]) ∧ Below w.heap.size w w' := by
  unfold noReader
  unfold laid at call
  have hmf : ∀ (fn : Fn) (first cap : Array Value) (w : World), (Instr.makeFunc fn first cap).run Try.prog w = .ok (.func fn first cap) w := fun _ _ _ _ => rfl
  go_enter_defers Try.func44, Try.ntmps44
  go_wp2_with (go_at_call 52; refine call.mono ?_; rintro e w2 ⟨rfl, hW⟩)
  refine leaves_cons (f := 51) (args := #[.pointer (some ⟨w.heap.size + 1, 0, none⟩), .pointer (some ⟨w.heap.size + 1 + 1, 0, none⟩)]) (by simp) (by simp [go_sem]) ?_
  obtain ⟨u0, c0⟩ := hW.cs 0 (by omega)
  obtain ⟨u1, c1⟩ := hW.cs 1 (by omega)
  obtain ⟨u2, c2⟩ := hW.cs 2 (by omega)
  obtain ⟨u3, c3⟩ := hW.cs 3 (by omega)
  obtain ⟨u4, c4⟩ := hW.cs 4 (by omega)
  obtain ⟨u5, c5⟩ := hW.cs 5 (by omega)
  obtain ⟨u6, c6⟩ := hW.cs 6 (by omega)
  refine (catch_panicking (w.heap.size + 1) 9 _ [] w2 u0 u1 u2 u3 u4 u5 u6 _ c0 c1 c2 c3 c4 c5 c6 hW.fr hW.ok hW.okf).mono ?_
  rintro e u' w'' ⟨rfl, rfl, rfl⟩
  obtain ⟨d0, d1, d2, d3, d4, d5, d6, d7⟩ := relay_cells hW (.int .i64 0) (.int .i64 0) (.slice none 0 0) (.slice none 0 0) (.int .i64 0) (.slice none 0 0) (.slice none 0 0) (.bool false)
  have hB := relay_below hW.below hW.le (.int .i64 0) (.int .i64 0) (.slice none 0 0) (.slice none 0 0) (.int .i64 0) (.slice none 0 0) (.slice none 0 0) (.bool false)
  simp [Leaves, settle, results, Try.results44, go_sem, d0, d1, d2, d3, d4, d5, d6, d7, hB]

set_option maxRecDepth 100000 in
set_option maxHeartbeats 3200000 in
theorem read_left (T N : Int) (ra : Option Addr) (rl rc : Nat) (da : Option Addr) (L dc : Nat) (w : World) (hL : L ≤ 400) (st : St) (hp : st.pos < L)
    (call : Calls Try.prog 52 #[.pointer (some ⟨w.heap.size + 1, 0, none⟩), .int .i64 0] (laid w T N (.slice ra rl rc) (.slice da L dc)) fun e w' => e = .returned (.tuple #[]) ∧ ∃ yv sv, Inv w w.heap.size (w.heap.size + 1) (.int .i64 T) (.int .i64 N) (.slice ra rl rc) (.slice da L dc) w' st yv sv) :
    Calls Try.prog 44 #[.agg #[.int .i64 T, .int .i64 N, .slice ra rl rc], .slice da L dc] w fun e w' =>
      e = .returned (.tuple #[noReader, .bool false]) ∧ Below w.heap.size w w' := by
  unfold noReader
  unfold laid at call
  have hmf : ∀ (fn : Fn) (first cap : Array Value) (w : World), (Instr.makeFunc fn first cap).run Try.prog w = .ok (.func fn first cap) w := fun _ _ _ _ => rfl
  go_enter_defers Try.func44, Try.ntmps44
  go_wp2_with (first
    | (go_at_call 52; refine call.mono ?_; rintro e w2 ⟨rfl, yv, sv, hI⟩)
    | (go_at_call 53; refine (end_left _ _ _ _ _ _ hI.c3 hI.c4 hp).mono ?_; rintro e w3 ⟨rfl, m, rfl⟩))
  have hW := hI.weak.drewN m
  refine leaves_cons (f := 51) (args := #[.pointer (some ⟨w.heap.size + 1, 0, none⟩), .pointer (some ⟨w.heap.size + 1 + 1, 0, none⟩)]) (by simp) (by simp [go_sem]) ?_
  obtain ⟨u0, c0⟩ := hW.cs 0 (by omega)
  obtain ⟨u1, c1⟩ := hW.cs 1 (by omega)
  obtain ⟨u2, c2⟩ := hW.cs 2 (by omega)
  obtain ⟨u3, c3⟩ := hW.cs 3 (by omega)
  obtain ⟨u4, c4⟩ := hW.cs 4 (by omega)
  obtain ⟨u5, c5⟩ := hW.cs 5 (by omega)
  obtain ⟨u6, c6⟩ := hW.cs 6 (by omega)
  refine (catch_panicking (w.heap.size + 1) 9 _ [] (w2.drewN m) u0 u1 u2 u3 u4 u5 u6 _ c0 c1 c2 c3 c4 c5 c6 hW.fr hW.ok hW.okf).mono ?_
  rintro e u' w'' ⟨rfl, rfl, rfl⟩
  obtain ⟨d0, d1, d2, d3, d4, d5, d6, d7⟩ := relay_cells hW (.int .i64 0) (.int .i64 0) (.slice none 0 0) (.slice none 0 0) (.int .i64 0) (.slice none 0 0) (.slice none 0 0) (.bool false)
  have hB := relay_below hW.below hW.le (.int .i64 0) (.int .i64 0) (.slice none 0 0) (.slice none 0 0) (.int .i64 0) (.slice none 0 0) (.slice none 0 0) (.bool false)
  simp [Leaves, settle, results, Try.results44, go_sem, d0, d1, d2, d3, d4, d5, d6, d7, hB]

set_option maxRecDepth 100000 in
set_option maxHeartbeats 3200000 in
theorem read_done (T N : Int) (ra : Option Addr) (rl rc : Nat) (da : Option Addr) (L dc : Nat) (w : World) (hL : L ≤ 400) (st : St) (hp : ¬ st.pos < L)
    (call : Calls Try.prog 52 #[.pointer (some ⟨w.heap.size + 1, 0, none⟩), .int .i64 0] (laid w T N (.slice ra rl rc) (.slice da L dc)) fun e w' => e = .returned (.tuple #[]) ∧ ∃ yv sv, Inv w w.heap.size (w.heap.size + 1) (.int .i64 T) (.int .i64 N) (.slice ra rl rc) (.slice da L dc) w' st yv sv) :
    Calls Try.prog 44 #[.agg #[.int .i64 T, .int .i64 N, .slice ra rl rc], .slice da L dc] w fun e w' => ∃ yv sv,
      e = .returned (.tuple #[.agg #[.int .i64 T, .int .i64 N, .slice ra rl rc, .slice da L dc, .int .i64 st.pos, yv, sv], .bool true]) ∧ Below w.heap.size w w' ∧
      w'.ownsRow (w.heap.size + 3) 3 1 yv st.Y.length (st.Y.map (Value.int .i64)) ∧ w'.ownsRow (w.heap.size + 3) 57 3 sv st.S.length (flatG st.S) := by
  unfold laid at call
  have hmf : ∀ (fn : Fn) (first cap : Array Value) (w : World), (Instr.makeFunc fn first cap).run Try.prog w = .ok (.func fn first cap) w := fun _ _ _ _ => rfl
  go_enter_defers Try.func44, Try.ntmps44
  go_wp2_with (first
    | (go_at_call 52; refine call.mono ?_; rintro e w2 ⟨rfl, yv, sv, hI⟩; obtain ⟨ya, yc, rfl⟩ := own_form hI.ownY; obtain ⟨sa, sc, rfl⟩ := own_form hI.ownS; have c0 := hI.c0; have c1 := hI.c1; have c2 := hI.c2; have c3 := hI.c3; have c4 := hI.c4; have c5 := hI.c5; have c6 := hI.c6; have fr := hI.fr; have ok := hI.ok; have okf := hI.okf)
    | (go_at_call 53; refine (end_ok _ _ _ _ _ _ hI.c3 hI.c4 hp).mono ?_; rintro e w3 ⟨rfl, m, rfl⟩))
  have hW := hI.weak.drewN m
  refine leaves_cons (f := 51) (args := #[.pointer (some ⟨w.heap.size + 1, 0, none⟩), .pointer (some ⟨w.heap.size + 1 + 1, 0, none⟩)]) (by simp) (by simp [go_sem]) ?_
  refine (catch_idle (w.heap.size + 1) _).mono ?_
  rintro e u' w'' ⟨rfl, rfl, rfl⟩
  obtain ⟨d0, d1, d2, d3, d4, d5, d6, d7⟩ := relay_cells hW (.int .i64 T) (.int .i64 N) (.slice ra rl rc) (.slice da L dc) (.int .i64 st.pos) (.slice ya st.Y.length yc) (.slice sa st.S.length sc) (.bool true)
  have hB := relay_below hW.below hW.le (.int .i64 T) (.int .i64 N) (.slice ra rl rc) (.slice da L dc) (.int .i64 st.pos) (.slice ya st.Y.length yc) (.slice sa st.S.length sc) (.bool true)
  have hY := relay_own (hI.drewN m).ownY (.int .i64 T) (.int .i64 N) (.slice ra rl rc) (.slice da L dc) (.int .i64 st.pos) (.slice ya st.Y.length yc) (.slice sa st.S.length sc) (.bool true)
  have hS := relay_own (hI.drewN m).ownS (.int .i64 T) (.int .i64 N) (.slice ra rl rc) (.slice da L dc) (.int .i64 st.pos) (.slice ya st.Y.length yc) (.slice sa st.S.length sc) (.bool true)
  refine ⟨.tuple #[.agg #[.int .i64 T, .int .i64 N, .slice ra rl rc, .slice da L dc, .int .i64 st.pos, .slice ya st.Y.length yc, .slice sa st.S.length sc], .bool true], ?_, _, _, rfl, hB, hY, hS⟩
  change (results Try.f44 _).run Try.prog (relay (w2.drewN m) (w.heap.size + 1) (.int .i64 T) (.int .i64 N) (.slice ra rl rc) (.slice da L dc) (.int .i64 st.pos) (.slice ya st.Y.length yc) (.slice sa st.S.length sc) (.bool true)) = _
  simp [results, Try.results44, go_sem, d0, d1, d2, d3, d4, d5, d6, d7]
  rfl

end Go.Proofs.Ytikjekfpgklbdaa

/- The contracts of read as a whole, of Yield and of Spans: they answer what the plain function readF tells, in new memory. -/
namespace Go.Proofs.Ytikjekfpgklbdaa
open Go.RowKit

theorem fits_start {D : List Int} {M : Nat} (hD : D.length ≤ 400) (hM' : M ≤ 2147483648) : GrFits D M { pos := 0, Y := [], S := [] } 0 := by
  refine ⟨Nat.zero_le _, Nat.le_refl _, ?_⟩
  have h : D.length * M ≤ 400 * 2147483648 := Nat.mul_le_mul hD hM'
  simp only [List.length_nil, Nat.sub_zero]
  omega

theorem read_none {w : World} {T N : Int} {rv dv : Value} {R : List Ru} {D : List Int} {M : Nat} (hr : RulesAt w w.heap.size rv R) (hd : ListAt w w.heap.size dv D)
    (hM : ∀ q, (R.getD q (0, [])).2.length ≤ M) (hM' : M ≤ 2147483648) (h : readF R D = none) :
    Calls Try.prog 44 #[.agg #[.int .i64 T, .int .i64 N, rv], dv] w fun e w' => e = .returned (.tuple #[noReader, .bool false]) ∧ Below w.heap.size w w' := by
  obtain ⟨ra, rc, hrv⟩ := hr.1
  obtain ⟨da, dc, hdv⟩ := hd.1
  unfold readF at h
  split at h
  · rename_i hl
    subst hdv
    exact read_long T N rv da D.length dc w hl
  · rename_i hl
    have call := name_any hr hd (by omega) hM hM' D.length 0 _ _ _ _ (start_inv w T N rv dv) (by simp) (fits_start (by omega) hM')
    split at h
    · rename_i hn
      subst hrv
      subst hdv
      refine read_stuck T N ra R.length rc da D.length dc w (by omega) (call.mono ?_)
      rintro e w' (⟨st, _, _, h2, _⟩ | ⟨_, rfl, hW⟩)
      · rw [hn] at h2; cases h2
      · exact ⟨rfl, hW⟩
    · rename_i st hn
      split at h
      · rename_i hp
        subst hrv
        subst hdv
        refine read_left T N ra R.length rc da D.length dc w (by omega) st hp (call.mono ?_)
        rintro e w' (⟨st2, yv, sv, h2, rfl, hI⟩ | ⟨h2, _⟩)
        · rw [hn] at h2; cases h2; exact ⟨rfl, yv, sv, hI⟩
        · rw [hn] at h2; cases h2
      · cases h

theorem read_some {w : World} {T N : Int} {rv dv : Value} {R : List Ru} {D : List Int} {M : Nat} {st : St} (hr : RulesAt w w.heap.size rv R) (hd : ListAt w w.heap.size dv D)
    (hM : ∀ q, (R.getD q (0, [])).2.length ≤ M) (hM' : M ≤ 2147483648) (h : readF R D = some st) :
    Calls Try.prog 44 #[.agg #[.int .i64 T, .int .i64 N, rv], dv] w fun e w' => ∃ yv sv,
      e = .returned (.tuple #[.agg #[.int .i64 T, .int .i64 N, rv, dv, .int .i64 st.pos, yv, sv], .bool true]) ∧ Below w.heap.size w w' ∧
      w'.ownsRow (w.heap.size + 3) 3 1 yv st.Y.length (st.Y.map (Value.int .i64)) ∧ w'.ownsRow (w.heap.size + 3) 57 3 sv st.S.length (flatG st.S) := by
  obtain ⟨ra, rc, hrv⟩ := hr.1
  obtain ⟨da, dc, hdv⟩ := hd.1
  unfold readF at h
  split at h
  · cases h
  · rename_i hl
    have call := name_any hr hd (by omega) hM hM' D.length 0 _ _ _ _ (start_inv w T N rv dv) (by simp) (fits_start (by omega) hM')
    split at h
    · cases h
    · rename_i st' hn
      split at h
      · cases h
      · rename_i hp
        cases h
        subst hrv
        subst hdv
        refine read_done T N ra R.length rc da D.length dc w (by omega) st hp (call.mono ?_)
        rintro e w' (⟨st2, yv, sv, h2, rfl, hI⟩ | ⟨h2, _⟩)
        · rw [hn] at h2; cases h2; exact ⟨rfl, yv, sv, hI⟩
        · rw [hn] at h2; cases h2

section
variable {w : World} {T N : Int} {rv dv : Value} {R : List Ru} {D : List Int} {M : Nat} {st : St}

set_option maxRecDepth 100000 in
theorem yield_none (hr : RulesAt w w.heap.size rv R) (hd : ListAt w w.heap.size dv D) (hM : ∀ q, (R.getD q (0, [])).2.length ≤ M) (hM' : M ≤ 2147483648) (h : readF R D = none) :
    Calls Try.prog 31 #[.agg #[.int .i64 T, .int .i64 N, rv], dv] w fun e w' => e = .returned (.tuple #[.slice none 0 0, .bool false]) ∧ Below w.heap.size w w' := by
  have call := read_none (T := T) (N := N) (hr.boxed (.cells #[.int .i64 T, .int .i64 N, rv] 24)) (hd.boxed (.cells #[.int .i64 T, .int .i64 N, rv] 24)) hM hM' h
  unfold noReader at call
  clear hr hd
  go_enter Try.func31, Try.ntmps31
  go_wp2_with (go_at_call 44; refine call.mono ?_; rintro e w1 ⟨rfl, hB⟩)
  go_ret2
  refine ⟨rfl, ?_⟩
  have hz := hB.size
  simp only [World.size_alloc] at hz
  exact (((Below.refl _ _).alloc (Nat.le_refl _) _).trans (hB.mono (by simp))).alloc (by omega) _

set_option maxRecDepth 100000 in
theorem yield_some (hr : RulesAt w w.heap.size rv R) (hd : ListAt w w.heap.size dv D) (hM : ∀ q, (R.getD q (0, [])).2.length ≤ M) (hM' : M ≤ 2147483648) (h : readF R D = some st) :
    Calls Try.prog 31 #[.agg #[.int .i64 T, .int .i64 N, rv], dv] w fun e w' => ∃ yv, e = .returned (.tuple #[yv, .bool true]) ∧ Below w.heap.size w w' ∧
      w'.ownsRow w.heap.size 3 1 yv st.Y.length (st.Y.map (Value.int .i64)) := by
  have call := read_some (T := T) (N := N) (hr.boxed (.cells #[.int .i64 T, .int .i64 N, rv] 24)) (hd.boxed (.cells #[.int .i64 T, .int .i64 N, rv] 24)) hM hM' h
  obtain ⟨ra, rc, rfl⟩ := hr.1
  obtain ⟨da, dc, rfl⟩ := hd.1
  clear hr hd
  go_enter Try.func31, Try.ntmps31
  go_wp2_with (go_at_call 44; refine call.mono ?_; rintro e w1 ⟨yv, sv, rfl, hB, hY, hS⟩; obtain ⟨ya, yc, rfl⟩ := own_form hY; obtain ⟨sa, sc, rfl⟩ := own_form hS)
  go_ret2
  have hz := hB.size
  simp only [World.size_alloc] at hz hY
  exact ⟨_, rfl, (((Below.refl _ _).alloc (Nat.le_refl _) _).trans (hB.mono (by simp))).alloc (by omega) _, (own_mono hY (by omega)).alloc _⟩

end
end Go.Proofs.Ytikjekfpgklbdaa
