/- The contract of name, which calls itself. -/
import Derived.Test.YtkmdbhajoabggaaW2
import Derived.Deep.RegionHeld3
import Derived.Deep.RegionLaw
import Derived.Deep.Cut
import Derived.Deep.CutRange
import Derived.Deep.DrawnRows
import Derived.StillTactics
import Derived.OwnWalk
import Derived.Laws.Pointers
namespace Go.Proofs.Ytkmdbhajoabggaa
open Go.RowKit
attribute [local go_sem ↓] Go.wp_at_zero Go.wp_at_succ

theorem Try.info35 : (Try.prog.info? 35).map (fun i => (i.zero, i.size, i.bytes)) = some (some (.agg #[.int .i64 0, .int .i64 0, .int .i64 0]), 3, 24) := by kernel_rfl
theorem Try.info3 : (Try.prog.info? 3).map (fun i => (i.zero, i.size, i.bytes)) = some (some (.int .i64 0), 1, 8) := by kernel_rfl

theorem own_form {w : World} {base : Nat} {e : TypeId} {size : Nat} {v : Value} {n : Nat} {xs : List Value} (h : w.ownsRow base e size v n xs) : ∃ a c, v = .slice a n c := by
  rcases h.2 with ⟨rfl, rfl⟩ | ⟨g, cap, _, rfl, _⟩
  · exact ⟨_, _, rfl⟩
  · exact ⟨_, _, rfl⟩

/-- What the numbers must meet. -/
structure Fits (D : List Int) (M : Nat) (st : St) (more : Nat) : Prop where
  pos : st.pos ≤ D.length
  len : st.S.length ≤ st.pos
  pot : st.Y.length + more + (D.length - st.pos) * M ≤ 1099511627776

theorem Fits.grew {D : List Int} {M : Nat} {st st' : St} {more : Nat} (h : Fits D M st more) (g : Grew D M st st' 0) : Fits D M st' more := by
  obtain ⟨T, h1, h2, _⟩ := g.seg
  have := g.pot h.pos
  have := h.pot
  have := h.len
  have := g.pos
  refine ⟨g.top h.pos, by rw [h1, List.length_append]; omega, by omega⟩

theorem Fits.push {D : List Int} {M : Nat} {st : St} {more : Nat} (h : Fits D M st (more + 1)) (x : Int) : Fits D M { st with Y := st.Y ++ [x] } more := by
  have := h.pot
  exact ⟨h.pos, h.len, by simp only [List.length_append, List.length_cons, List.length_nil]; omega⟩

theorem Fits.next {D : List Int} {M : Nat} {st : St} (h : Fits D M st 0) (hp : st.pos < D.length) {m : Nat} (hm : m ≤ M) (t : Sp) : Fits D M { pos := st.pos + 1, Y := st.Y, S := st.S ++ [t] } m := by
  have := h.len
  have e : D.length - st.pos = (D.length - (st.pos + 1)) + 1 := by omega
  refine ⟨by simp only; omega, by simp only [List.length_append, List.length_cons, List.length_nil]; omega, ?_⟩
  have h1 := h.pot
  rw [e, Nat.add_mul, Nat.one_mul] at h1
  simp only
  omega

theorem Fits.less {D : List Int} {M : Nat} {st : St} {a b : Nat} (h : Fits D M st a) (hb : b ≤ a) : Fits D M st b := by
  have := h.pot
  exact ⟨h.pos, h.len, by omega⟩

set_option maxRecDepth 100000 in
set_option maxHeartbeats 3200000 in
theorem name_any {W : World} {B rb : Nat} {tv nv rv dv : Value} {R : List Ru} {D : List Int} {M : Nat}
    (hr : RulesAt W B rv R) (hd : ListAt W B dv D) (hD : D.length ≤ 400) (hM : ∀ q, (R.getD q (0, [])).2.length ≤ M) (hM' : M ≤ 2147483648) : ∀ (k : Nat) (n : Int) (st : St) (w : World) (yv sv : Value),
    Inv W B rb tv nv rv dv w st yv sv → D.length - st.pos ≤ k → Fits D M st 0 →
    Calls Try.prog 8 #[.pointer (some ⟨rb, 0, none⟩), .int .i64 n] w fun e w' =>
      (∃ st' yv' sv', nameF R D k n st = some st' ∧ e = .returned (.tuple #[]) ∧ Inv W B rb tv nv rv dv w' st' yv' sv') ∨
      (nameF R D k n st = none ∧ e = .panicked gaveUp ∧ Weak W B rb w') := by
  intro k
  induction k with
  | zero =>
    intro n st w yv sv hI hk hF
    have hp := hF.pos
    have hq : nextF R D n st.pos = none := by simp [nextF, List.getElem?_eq_none (show D.length ≤ st.pos by omega)]
    go_enter Try.func8, Try.ntmps8
    go_wp2_with (go_at_call 10; refine (next_none hI hr hd hD hq).mono ?_; rintro e w1 ⟨rfl, hW⟩)
    exact ⟨rfl, .inr ⟨rfl, rfl, hW⟩⟩
  | succ k ih =>
    intro n st w yv sv hI hk hF
    cases hq : nextF R D n st.pos with
    | none =>
      go_enter Try.func8, Try.ntmps8
      go_wp2_with (go_at_call 10; refine (next_none hI hr hd hD hq).mono ?_; rintro e w1 ⟨rfl, hW⟩)
      exact ⟨rfl, .inr ⟨by simp only [nameF, hq], rfl, hW⟩⟩
    | some q =>
      obtain ⟨sa, sc, rfl⟩ := own_form hI.ownS
      obtain ⟨ya, yc, rfl⟩ := own_form hI.ownY
      go_enter Try.func8, Try.ntmps8
      go_wp2_with (go_at_call 10; refine (next_some hI hr hd hD hq).mono ?_; rintro e w1 ⟨rfl, hI1⟩; have c2 := hI1.c2; have c5 := hI1.c5; have c6 := hI1.c6; have f6 := hI1.fr 6)
      have ownS := hI1.ownS
      have hne : ∀ g, (Value.slice sa st.S.length sc).ownBlock = some g → g ≠ rb := fun g hg => by have := (hI1.ltS hg).1; omega
      have ag : (Value.slice sa st.S.length sc).ownBlock ≠ some rb := fun e => hne rb e rfl
      have hlt1 := hI1.lt
      have hSl := hF.len
      have hSp := hF.pos
      have hn1 : st.S.length + 1 ≤ maxLen := by unfold maxLen; omega
      have hn2 : (st.S.length + 1) * 24 ≤ 140737488355328 := by omega
      have hI2 := (hI1.alloc (.cells #[.int .i64 q, .int .i64 st.Y.length, .int .i64 0] 35)).drew
      have a6 := (hI1.alloc (.cells #[.int .i64 q, .int .i64 st.Y.length, .int .i64 0] 35)).c6
      have a5 := (hI1.alloc (.cells #[.int .i64 q, .int .i64 st.Y.length, .int .i64 0] 35)).c5
      obtain ⟨i0, hi0, hz0, hz1, hz2⟩ := info_parts Try.info35
      go_cut [] from 8 (fun wx => ∃ g cap, Inv W B rb tv nv rv dv wx { pos := st.pos + 1, Y := st.Y, S := st.S ++ [((q : Int), st.Y.length, 0)] } (.slice ya st.Y.length yc) (.slice (some ⟨g, 0, none⟩) (st.S.length + 1) cap))
      case first =>
        go_region_law
          ((refine step_append_lies _ (by rfl) _ _ _ (by rfl) (rb + 2) 35 i0 _ 3 24 Try.underlying28 hi0 hz0 hz1 hz2 rfl (by omega) (.slice sa st.S.length sc) st.S.length (flat st.S) (by rfl) ((ownS.alloc _).drew)
              ⟨w1.heap.size, 0, none⟩ 1 1 [.int .i64 q, .int .i64 st.Y.length, .int .i64 0] (by rfl) (by rfl) (World.news_of_block (cs := #[.int .i64 q, .int .i64 st.Y.length, .int .i64 0]) (t := 35) (fr := (0, 0)) (heap_alloc_new w1 _)) (by simp [Value.oneCell'])
              (by omega) hn1 hn2 (by simp; omega) (w1.heap.size + 1) (by simp) ?_; intro g cap w2 hown2 hgrow hat hlt; have c6' := (hgrow.cell_far ⟨rb, 6, none⟩ (by simp; omega) (Ne.symm ag)).trans hI2.c6; have f6' := (hgrow.frozen_far ⟨rb, 6, none⟩ (by simp; omega) (Ne.symm ag)).trans (hI2.fr 6)))
        all_goals
          go_wp2_with fail
          go_meet
          case rel => exact ⟨_, _, Inv.pushS (t := ((q : Int), st.Y.length, 0)) hI2 hgrow hown2 (by simpa using hat)⟩
      case rest =>
        obtain ⟨g, cap, hI3⟩ := hcut
        clear hI2 hI1 ownS ag hne a5 a6 c2 c5 c6 f6 hlt1 hn1 hn2 hi0 hz0 hz1 hz2
        obtain ⟨hdq, hqR, _⟩ := nextF_some hq
        obtain ⟨b, o, rc, qa, qc, hv, hbB, _, k2, k3⟩ := hr.2 q hqR
        obtain ⟨Rt, hRt⟩ : ∃ Rt, (R.getD q (0, [])).2 = Rt := ⟨_, rfl⟩
        rw [hRt] at k2 k3
        have hRtM : Rt.length ≤ M := by rw [← hRt]; exact hM q
        have hpD : st.pos < D.length := by
          rcases Nat.lt_or_ge st.pos D.length with h | h
          · exact h
          · rw [List.getElem?_eq_none h] at hdq; cases hdq
        have HF3 : Fits D M { pos := st.pos + 1, Y := st.Y, S := st.S ++ [((q : Int), st.Y.length, 0)] } Rt.length := hF.next hpD hRtM _
        have HQ : Hid (nextF R D n st.pos = some q) := hq
        have HR : Hid ((R.getD q (0, [])).2 = Rt) := hRt
        have c2 := hI3.c2
        rw [hv] at c2
        have k2' : wc.cell? ⟨b, o + q * 2 + 1, none⟩ = some (.slice qa Rt.length qc) := by rw [Nat.add_assoc]; exact (hI3.below.cell hbB).trans k2
        clear hv hRt k2 hq hdq
        go_wp2_with fail
        clear c2 k2' hbB
        go_loopw [42] (fun i wr => ∃ (j : Nat) (st1 : St) (yv1 sv1 : Value), i = .int .i64 j ∧ j ≤ Rt.length ∧ st.pos + 1 ≤ st1.pos ∧ Inv W B rb tv nv rv dv wr st1 yv1 sv1 ∧ Fits D M st1 (Rt.length - j) ∧
            symsF (nameF R D k) (Rt.drop j) st1 = symsF (nameF R D k) Rt { pos := st.pos + 1, Y := st.Y, S := st.S ++ [((q : Int), st.Y.length, 0)] })
          (fun i _ => Rt.length - (intOf i).toNat)
        case atStart => exact ⟨0, _, _, _, rfl, Nat.zero_le _, Nat.le_refl _, hI3, by simpa using HF3, by simp⟩
        case round =>
          obtain ⟨j, st1, yv1, sv1, rfl, hj, hp1, hI4, hF4, hsy⟩ := hrel
          have HS : Hid (symsF (nameF R D k) (Rt.drop j) st1 = symsF (nameF R D k) Rt { pos := st.pos + 1, Y := st.Y, S := st.S ++ [((q : Int), st.Y.length, 0)] }) := hsy
          clear hsy HF3 hI3 hI
          by_cases hlt : j < Rt.length
          · obtain ⟨b', o', hqa, hb', k4, k5⟩ := k3 j hlt
            have k4' := (hI4.below.cell (p := ⟨b', o' + j * 2, none⟩) hb').trans k4
            have k5' : wr.cell? ⟨b', o' + j * 2 + 1, none⟩ = some (.int .i64 (Rt.getD j (false, 0)).2) := by rw [Nat.add_assoc]; exact (hI4.below.cell (p := ⟨b', o' + (j * 2 + 1), none⟩) hb').trans k5
            obtain ⟨⟨t, v⟩, hsym⟩ : ∃ x, Rt.getD j (false, 0) = x := ⟨_, rfl⟩
            have hdrop : Rt.drop j = (t, v) :: Rt.drop (j + 1) := by
              rw [List.drop_eq_getElem_cons hlt]
              congr 1
              rw [← hsym]
              simp [List.getD, hlt]
            rw [hsym] at k4' k5'
            have HD : Hid (Rt.drop j = (t, v) :: Rt.drop (j + 1)) := hdrop
            clear k4 k5 k3 hsym hdrop
            subst hqa
            cases t with
            | true =>
              obtain ⟨ya1, yc1, rfl⟩ := own_form hI4.ownY
              have ag : (Value.slice ya1 st1.Y.length yc1).ownBlock ≠ some rb := fun e => by have := (hI4.ltY e).1; omega
              have hlt1 := hI4.lt
              have hpot := hF4.pot
              have hn1 : st1.Y.length + 1 ≤ maxLen := by unfold maxLen; omega
              have hn2 : (st1.Y.length + 1) * 8 ≤ 140737488355328 := by omega
              have HF5 : Fits D M { st1 with Y := st1.Y ++ [v] } (Rt.length - (j + 1)) := Fits.push (more := Rt.length - (j + 1)) (by rw [show Rt.length - (j + 1) + 1 = Rt.length - j by omega]; exact hF4) v
              have HX : Hid (symsF (nameF R D k) (Rt.drop j) st1 = symsF (nameF R D k) (Rt.drop (j + 1)) { st1 with Y := st1.Y ++ [v] }) := by
                show symsF (nameF R D k) (Rt.drop j) st1 = _
                rw [HD.out, symsF]
              clear hpot
              have hI5 := hI4.alloc (.cells #[.bool true, .int .i64 v] 45)
              have c5 := hI5.c5
              have f5 := hI5.fr 5
              have hI6 := hI5.alloc (.cells #[.int .i64 v] 3)
              have a5 := hI6.c5
              have ownY := hI6.ownY
              have hI7 := hI6.drew
              have hnb : ((wr.alloc (.cells #[.bool true, .int .i64 v] 45)).alloc (.cells #[.int .i64 v] 3)).drew.heap[wr.heap.size + 1]? = some (.cells #[.int .i64 v] 3 (0, 0)) := by
                show ((wr.alloc (.cells #[.bool true, .int .i64 v] 45)).alloc (.cells #[.int .i64 v] 3)).heap[wr.heap.size + 1]? = _
                simpa using heap_alloc_new (wr.alloc (.cells #[.bool true, .int .i64 v] 45)) (.cells #[.int .i64 v] 3)
              have HB : Hid (((wr.alloc (.cells #[.bool true, .int .i64 v] 45)).alloc (.cells #[.int .i64 v] 3)).drew.heap[wr.heap.size + 1]? = some (.cells #[.int .i64 v] 3 (0, 0))) := hnb
              clear hnb
              have s1 : ((wr.alloc (.cells #[.bool true, .int .i64 v] 45)).alloc (.cells #[.int .i64 v] 3)).cell? ⟨wr.heap.size, 1, none⟩ = some (.int .i64 v) := by
                rw [World.cell?_alloc_past _ _ _ (by simp)]
                simp [go_sem]
              obtain ⟨i0, hi0, hz0, hz1, hz2⟩ := info_parts Try.info3
              go_wp2_with fail
              go_region_law
                ((refine step_append_lies _ (by rfl) _ _ _ (by rfl) (rb + 2) 3 i0 _ 1 8 Try.underlying25 hi0 hz0 hz1 hz2 rfl (by omega) (.slice ya1 st1.Y.length yc1) st1.Y.length (st1.Y.map (Value.int .i64)) (by rfl) (ownY.drew)
                    ⟨wr.heap.size + 1, 0, none⟩ 1 1 [.int .i64 v] (by rfl) (by rfl) (World.news_of_block (cs := #[.int .i64 v]) (t := 3) (fr := (0, 0)) HB.out) (by simp [Value.oneCell'])
                    (by omega) hn1 hn2 (by simp; omega) (wr.heap.size + 2) (by simp) ?_; intro g2 cap2 w2 hown2 hgrow hat hlt; have c5' := (hgrow.cell_far ⟨rb, 5, none⟩ (by simp; omega) (Ne.symm ag)).trans hI7.c5; have f5' := (hgrow.frozen_far ⟨rb, 5, none⟩ (by simp; omega) (Ne.symm ag)).trans (hI7.fr 5)))
              all_goals
                go_wp2_with fail
                go_roundw
                case rel => exact ⟨j + 1, { st1 with Y := st1.Y ++ [v] }, _, _, by go_num, by omega, hp1, Inv.pushY hI7 hgrow hown2 (by simpa using hat), HF5, HX.out.symm.trans HS.out⟩
                case measure => simp [intOf]; omega
            | false =>
              have hI5 := hI4.alloc (.cells #[.bool false, .int .i64 v] 45)
              cases hn : nameF R D k v st1 with
              | none =>
                have call : Calls Try.prog 8 #[.pointer (some ⟨rb, 0, none⟩), .int .i64 v] (wr.alloc (.cells #[.bool false, .int .i64 v] 45)) fun e w' => e = .panicked gaveUp ∧ Weak W B rb w' :=
                  (ih v st1 _ _ _ hI5 (by omega) (hF4.less (Nat.zero_le _))).mono (by
                    rintro e w' (⟨st2, _, _, h2, _⟩ | ⟨_, rfl, hW⟩)
                    · rw [hn] at h2; cases h2
                    · exact ⟨rfl, hW⟩)
                have HX : Hid (symsF (nameF R D k) (Rt.drop j) st1 = none) := by
                  show symsF (nameF R D k) (Rt.drop j) st1 = none
                  rw [HD.out, symsF, hn]
                clear hn hI5
                go_wp2_with (go_at_call 8; refine call.mono ?_; rintro e w2 ⟨rfl, hW⟩)
                exact ⟨rfl, .inr ⟨nameF_none HQ.out HR.out (HS.out.symm.trans HX.out), rfl, hW⟩⟩
              | some st2 =>
                have call : Calls Try.prog 8 #[.pointer (some ⟨rb, 0, none⟩), .int .i64 v] (wr.alloc (.cells #[.bool false, .int .i64 v] 45)) fun e w' => e = .returned (.tuple #[]) ∧ ∃ yv2 sv2, Inv W B rb tv nv rv dv w' st2 yv2 sv2 :=
                  (ih v st1 _ _ _ hI5 (by omega) (hF4.less (Nat.zero_le _))).mono (by
                    rintro e w' (⟨st3, yv2, sv2, h2, rfl, hI6⟩ | ⟨h2, _⟩)
                    · rw [hn] at h2; cases h2; exact ⟨rfl, yv2, sv2, hI6⟩
                    · rw [hn] at h2; cases h2)
                have HX : Hid (symsF (nameF R D k) (Rt.drop j) st1 = symsF (nameF R D k) (Rt.drop (j + 1)) st2) := by
                  show symsF (nameF R D k) (Rt.drop j) st1 = _
                  rw [HD.out, symsF, hn]
                obtain ⟨gr, grp, _⟩ := nameF_grew hM k v st1 st2 hn
                have HF5 : Fits D M st2 (Rt.length - (j + 1)) := (hF4.less (by omega)).grew gr
                clear hn hI5 gr
                go_wp2_with (go_at_call 8; refine call.mono ?_; rintro e w2 ⟨rfl, yv2, sv2, hI6⟩)
                go_roundw
                case rel => exact ⟨j + 1, st2, yv2, sv2, by go_num, by omega, by omega, hI6, HF5, HX.out.symm.trans HS.out⟩
                case measure => simp [intOf]; omega
          · have hje : Rt.drop j = [] := List.drop_of_length_le (by omega)
            have HX : symsF (nameF R D k) Rt { pos := st.pos + 1, Y := st.Y, S := st.S ++ [((q : Int), st.Y.length, 0)] } = some st1 := by rw [← HS.out, hje, symsF]
            have gr := symsF_grew (M := M) (fun n st st' h => (nameF_grew hM k n st st' h).1) _ _ _ HX
            obtain ⟨T, hT, _, _⟩ := gr.seg
            simp only [List.append_assoc, List.singleton_append] at hT
            have hplace : st1.S[st.S.length]? = some ((q : Int), st.Y.length, 0) := by rw [hT]; simp
            have hpl : st.S.length < st1.S.length := by rw [hT]; simp
            obtain ⟨g1, cap1, rfl, _, _⟩ := hI4.ownS.form (by omega)
            obtain ⟨ya1, yc1, rfl⟩ := own_form hI4.ownY
            have HN := nameF_some HQ.out HR.out HX
            have HN' : Hid (nameF R D (k + 1) n st = some { st1 with S := st1.S.set st.S.length ((q : Int), st.Y.length, st1.Y.length) }) := HN
            have HI := (hI4.drew).setTo (v := st1.Y.length) hplace
            have c5 := hI4.c5
            have c6 := hI4.c6
            have cT : wr.cell? ⟨g1, st.S.length * 3 + 2, none⟩ = some (.int .i64 0) := by rw [hI4.ownS.cellAt _ (by omega)]; exact (flat_get hplace).2.2
            have fT := hI4.ownS.frozenAt (st.S.length * 3 + 2)
            have hi1 : (st.S.length : Int) < (st1.S.length : Int) := by omega
            have hi2 : (0 : Int) ≤ (st.S.length : Int) := Int.natCast_nonneg _
            clear HN HX hje hT gr hplace
            go_wp2_with fail
            go_region
            all_goals
              go_end0
              exact .inl ⟨_, _, _, HN'.out, rfl, HI⟩

end Go.Proofs.Ytkmdbhajoabggaa
