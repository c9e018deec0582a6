import Derived.Test.YtkkcmcckdaobmaaMay1AndSets2Mem
import Derived.Test.YtkkcmcckdaobmaaPrParseAndThrMem
import Derived.Deep.QuietTactic
import Derived.BigQuiet
import Derived.Deep.AppendLies
import Derived.Test.YtkkcmcckdaobmaaRows
import Derived.Test.YtkkcmcckdaobmaaMathAndNull2
import Derived.WalkKit
import Derived.WalkSpells
/- The contract of pollardingref1.Through: it tells what readF tells, of a grammar that may be. -/
namespace Go.Proofs.Ytkkcmcckdaobmaa
open Go.RowKit

theorem Try.infoSpan : (Try.prog.info? 51).map (fun i => (i.zero, i.size, i.bytes)) = some (some (.agg #[.int .i64 0, .int .i64 0, .int .i64 0]), 3, 24) := by kernel_rfl
theorem Try.infoThr : (Try.prog.info? 3).map (fun i => (i.zero, i.size, i.bytes)) = some (some (.int .i64 0), 1, 8) := by kernel_rfl
theorem Try.infoOpen : (Try.prog.info? 48).map (fun i => (i.zero, i.size, i.bytes)) = some (some (.agg #[.bool false, .int .i64 0, .bool false, .int .i64 0]), 4, 32) := by kernel_rfl

def lenOf : Value → Nat
  | .slice _ n _ => n
  | _ => 0

/-- What Through answers where there is nothing to tell. -/
def noThrough : Value := .tuple #[.slice none 0 0, .slice none 0 0, .bool false]

set_option maxRecDepth 100000 in
set_option maxHeartbeats 1600000 in
theorem thr_not {w : World} {T N : Int} {rv : Value} {R : List Ru} {da : Option Addr} {dl dc : Nat} (hr : RulesAt w w.heap.size rv R) (h : mayB T N R = false ∨ 400 < dl) :
    Calls Try.prog 4 #[.agg #[.int .i64 T, .int .i64 N, rv], .slice da dl dc] w fun e w' => e = .returned noThrough ∧ Below w.heap.size w w' := by
  have call := may1_any (T := T) (N := N) (hr.boxed (.cells #[.int .i64 T, .int .i64 N, rv] 24))
  obtain ⟨ra, rc, rfl⟩ := hr.1
  unfold noThrough
  clear hr
  cases hm : mayB T N R with
  | false =>
    rw [hm] at call
    clear hm h
    go_enter Try.func4, Try.ntmps4
    go_wp2_with (go_at_call 9; refine call.mono ?_; rintro e w1 ⟨rfl, hB⟩)
    go_ret3
    exact ⟨rfl, ((Below.refl _ _).alloc (Nat.le_refl _) _).trans (hB.mono (by simp))⟩
  | true =>
    have hl : 400 < dl := by
      rcases h with h | h
      · rw [hm] at h; cases h
      · exact h
    rw [hm] at call
    clear hm h
    go_enter Try.func4, Try.ntmps4
    go_wp2_with (go_at_call 9; refine call.mono ?_; rintro e w1 ⟨rfl, hB⟩)
    go_ret3
    exact ⟨rfl, ((Below.refl _ _).alloc (Nat.le_refl _) _).trans (hB.mono (by simp))⟩

theorem own_cap {w : World} {base : Nat} {e : TypeId} {size g n cap : Nat} {xs : List Value} (h : w.ownsRow base e size (.slice (some ⟨g, 0, none⟩) n cap) n xs) : n ≤ cap := by
  rcases h.2 with ⟨h', _⟩ | ⟨_, _, _, h', _, _, hn, _⟩
  · cases h'
  · cases h'; exact hn

/-- What holds at the head of each round. -/
def TRel (W : World) (B : Nat) (R : List Ru) (D : List Int) (tv sv ov u : Value) (wr : World) : Prop :=
  ∃ (st : St) (M : List Jt), u = .int .i64 st.pos ∧ TI W B wr st M tv sv ov ∧ st.S.length = st.pos ∧ st.pos ≤ D.length ∧ (∀ k, Jt.close k ∈ M → k < st.S.length) ∧ st.Y.length + M.length ≤ 1 + 8 * st.pos ∧
    fin R D M.reverse st = fin R D [.sym (false, 0)] { pos := 0, Y := [], S := [] }

theorem start_rel {W w1 : World} {B : Nat} {R : List Ru} {D : List Int} (hB : Below B W w1) (hs : B ≤ w1.heap.size) :
    TRel W B R D (.slice none 0 0) (.slice none 0 0) (.slice (some ⟨w1.heap.size, 0, none⟩) 1 1) (.int .i64 0) (w1.alloc (.cells #[.bool false, .int .i64 0, .bool false, .int .i64 0] 48)) := by
  refine ⟨{ pos := 0, Y := [], S := [] }, [.sym (false, 0)], rfl, ⟨hB.alloc hs _, by simp; omega, World.ownsRow_nil _ _ _ _, World.ownsRow_nil _ _ _ _, ?_, ?_, ?_, ?_⟩, rfl, Nat.zero_le _, ?_, ?_, rfl⟩
  · exact World.ownsRow_lit w1 #[.bool false, .int .i64 0, .bool false, .int .i64 0] 1 hs (by unfold maxLen; omega) rfl
  · intro g h; simp [Value.ownBlock] at h
  · intro g h; simp [Value.ownBlock] at h
  · intro g h; simp [Value.ownBlock] at h
  · intro k hk; simp at hk
  · simp

set_option maxRecDepth 100000 in
set_option maxHeartbeats 6400000 in
theorem thr_main {w : World} {T N : Int} {rv dv : Value} {R : List Ru} {D : List Int} (hr : RulesAt w w.heap.size rv R) (hd : ListAt w w.heap.size dv D) (hm : mayB T N R = true) (hD : D.length ≤ 400) :
    Calls Try.prog 4 #[.agg #[.int .i64 T, .int .i64 N, rv], dv] w fun e w' =>
      (∃ st tv sv, readF R D = some st ∧ e = .returned (.tuple #[tv, sv, .bool true]) ∧ Below w.heap.size w w' ∧ w'.ownsRow w.heap.size 3 1 tv st.Y.length (st.Y.map (Value.int .i64)) ∧
        w'.ownsRow w.heap.size 51 3 sv st.S.length (flat st.S)) ∨
      (readF R D = none ∧ e = .returned noThrough ∧ Below w.heap.size w w') := by
  have call := may1_any (T := T) (N := N) (hr.boxed (.cells #[.int .i64 T, .int .i64 N, rv] 24))
  rw [hm] at call
  have HR : Hid (RulesAt w w.heap.size rv R) := hr
  have HD : Hid (ListAt w w.heap.size dv D) := hd
  have h8 : ∀ q, (R.getD q (0, [])).2.length ≤ 8 := fun q => by
    by_cases hq : q < R.length
    · have h1 : R.all (ruleB T N) = true := by simp only [mayB, Bool.and_eq_true] at hm; exact hm.2
      have h2 := List.all_eq_true.1 h1 (R.getD q (0, [])) (by simp [List.getD, hq])
      simp only [ruleB, Bool.and_eq_true, decide_eq_true_eq] at h2
      exact h2.1.2.2
    · simp [List.getD, List.getElem?_eq_none (show R.length ≤ q by omega)]
  have H8 : Hid (∀ q, (R.getD q (0, [])).2.length ≤ 8) := h8
  obtain ⟨ra, rc, rfl⟩ := hr.1
  obtain ⟨da, dc, rfl⟩ := hd.1
  unfold noThrough
  have hDl : D.length ≤ 9223372036854775807 := by omega
  clear hr hd hm h8
  go_enter Try.func4, Try.ntmps4
  go_wp2_with (go_at_call 9; refine call.mono ?_; rintro e w1 ⟨rfl, hB⟩)
  clear call
  have hz := hB.size
  simp only [World.size_alloc] at hz
  have HS := start_rel (R := R) (D := D) (hB.mono (B' := w.heap.size + 1) (by simp)) (by omega)
  clear hB
  go_loopw [7, 8, 9, 10] (fun tv sv ov u wr => TRel (w.alloc (.cells #[.int .i64 T, .int .i64 N, .slice ra R.length rc] 24)) (w.heap.size + 1) R D tv sv ov u wr)
    (fun _ _ ov u _ => lenOf ov + 9 * (D.length - (intOf u).toNat))
  case atStart => exact HS
  case round =>
    clear HS hz
    obtain ⟨st, M, rfl, hI, hSp, hpD, hcl, hYM, hfin⟩ := hrel
    have HF : Hid (fin R D M.reverse st = fin R D [.sym (false, 0)] { pos := 0, Y := [], S := [] }) := hfin
    have HC : Hid (∀ k, Jt.close k ∈ M → k < st.S.length) := hcl
    have hBw : Below w.heap.size w wr := ((Below.refl _ _).alloc (Nat.le_refl _) _).trans (hI.below.mono (by omega))
    have HB : Hid (Below w.heap.size w wr) := hBw
    have hsz := hI.le
    have b2 : wr.cell? ⟨w.heap.size, 2, none⟩ = some (.slice ra R.length rc) := (hI.below.cell (by simp)).trans (by simp [go_sem])
    have HSp : Hid (st.S.length = st.pos) := hSp
    clear hfin hcl hBw hSp
    obtain ⟨ta, tc, rfl⟩ := own_form hI.ownT
    obtain ⟨sa, sc, rfl⟩ := own_form hI.ownS
    rcases List.eq_nil_or_concat M with rfl | ⟨M, x, rfl⟩
    · obtain ⟨oa, oc, rfl⟩ := own_form hI.ownO
      have HF' : Hid (readF R D = if st.pos < D.length then none else some st) := by
        show readF R D = _
        rw [readF_fin hD, ← HF.out]
        rfl
      by_cases hp : st.pos = D.length
      · have e1 : ((st.pos : Int) != (D.length : Int)) = false := by simp; omega
        go_wp2_with fail
        go_ret3
        exact .inl ⟨st, _, _, by rw [HF'.out, if_neg (by omega)], rfl, HB.out, own_mono hI.ownT (by omega), own_mono hI.ownS (by omega)⟩
      · have e1 : ((st.pos : Int) != (D.length : Int)) = true := by simp; omega
        go_wp2_with fail
        go_ret3
        exact .inr ⟨by rw [HF'.out, if_pos (by omega)], rfl, HB.out⟩
    · rw [List.concat_eq_append] at hI hYM HF HC
      obtain ⟨og, oc, rfl, _, _⟩ := hI.ownO.form (by simp)
      have hP := hI.popO
      have HP : Hid (TI (w.alloc (.cells #[.int .i64 T, .int .i64 N, .slice ra R.length rc] 24)) (w.heap.size + 1) wr st M (.slice ta st.Y.length tc) (.slice sa st.S.length sc) (.slice (some ⟨og, 0, none⟩) M.length oc)) := hP
      have hcell : ∀ i, i < 4 → wr.cell? ⟨og, M.length * 4 + i, none⟩ = (ic x)[i]? := fun i hi => by
        rw [hI.ownO.cellAt _ (by simp; omega)]
        exact flatO_top M x i hi
      have o0 := hcell 0 (by omega)
      have o1 := hcell 1 (by omega)
      have o2 := hcell 2 (by omega)
      have o3 := hcell 3 (by omega)
      rw [Nat.add_zero] at o0
      have hOl : (M ++ [x]).length = M.length + 1 := by simp
      rw [hOl] at hYM
      have hcap : M.length + 1 ≤ oc := by rw [← hOl]; exact own_cap hI.ownO
      rw [hOl]
      rw [List.reverse_append] at HF
      have hMl : M.length ≤ 3200 := by omega
      have hMs : Hid (st.Y.length + (M.length + 1) ≤ 1 + 8 * st.pos) := hYM
      clear hcell hP hI hOl
      cases x with
      | close k =>
        simp only [ic, List.getElem?_cons_zero, List.getElem?_cons_succ] at o0 o1 o2 o3
        have hk := HC.out k (by simp)
        obtain ⟨sg, sc', hsv, _, _⟩ := HP.out.ownS.form (by omega)
        simp only [Value.slice.injEq, true_and] at hsv
        obtain ⟨rfl, rfl⟩ := hsv
        obtain ⟨t3, ht3⟩ : ∃ t3, st.S[k]? = some t3 := ⟨st.S[k], by simp [hk]⟩
        have cT := (HP.out.ownS.cellAt (k * 3 + 2) (by omega)).trans (flat_get ht3).2.2
        have HP1 := HP.out.alloc (.cells #[.bool false, .int .i64 0, .bool true, .int .i64 k] 48)
        have cT1 := (HP1.ownS.cellAt (k * 3 + 2) (by omega)).trans (flat_get ht3).2.2
        have fT := HP.out.ownS.frozenAt (k * 3 + 2)
        have fT1 := HP1.ownS.frozenAt (k * 3 + 2)
        have hk0 : (0 : Int) ≤ (k : Int) := Int.natCast_nonneg _
        have hk1 : (k : Int) < (st.S.length : Int) := by omega
        have HQ := (HP.out.setTo hk).alloc (.cells #[.bool false, .int .i64 0, .bool true, .int .i64 k] 48)
        have HQ' : Hid (TRel (w.alloc (.cells #[.int .i64 T, .int .i64 N, .slice ra R.length rc] 24)) (w.heap.size + 1) R D (.slice ta st.Y.length tc) (.slice (some ⟨sg, 0, none⟩) st.S.length sc) (.slice (some ⟨og, 0, none⟩) M.length oc) (.int .i64 st.pos)
            ((wr.setCell ⟨sg, k * 3 + 2, none⟩ (.int .i64 st.Y.length)).alloc (.cells #[.bool false, .int .i64 0, .bool true, .int .i64 k] 48))) :=
          ⟨st.shut k, M, rfl, HQ, by simpa [St.shut] using HSp.out, hpD, fun j hj => by simpa [St.shut] using HC.out j (List.mem_append_left _ hj), by simpa [St.shut] using (by omega : st.Y.length + M.length ≤ 1 + 8 * st.pos), HF.out⟩
        clear HQ HP1 ht3 hk
        go_wp2_with fail
        go_roundw
        case rel => exact HQ'.out
        case measure => simp [lenOf]
      | sym s =>
        obtain ⟨t, v⟩ := s
        cases t with
        | true =>
          simp only [ic, List.getElem?_cons_zero, List.getElem?_cons_succ] at o0 o1 o2 o3
          have HP1 := (HP.out.alloc (.cells #[.bool true, .int .i64 v, .bool false, .int .i64 0] 48)).alloc (.cells #[.int .i64 v] 3)
          have HP2 : Hid (TI (w.alloc (.cells #[.int .i64 T, .int .i64 N, .slice ra R.length rc] 24)) (w.heap.size + 1) ((wr.alloc (.cells #[.bool true, .int .i64 v, .bool false, .int .i64 0] 48)).alloc (.cells #[.int .i64 v] 3)) st M (.slice ta st.Y.length tc) (.slice sa st.S.length sc) (.slice (some ⟨og, 0, none⟩) M.length oc)) := HP1
          have hnb : ((wr.alloc (.cells #[.bool true, .int .i64 v, .bool false, .int .i64 0] 48)).alloc (.cells #[.int .i64 v] 3)).heap[wr.heap.size + 1]? = some (.cells #[.int .i64 v] 3 (0, 0)) := by
            simpa using heap_alloc_new (wr.alloc (.cells #[.bool true, .int .i64 v, .bool false, .int .i64 0] 48)) (.cells #[.int .i64 v] 3)
          have HN : Hid (((wr.alloc (.cells #[.bool true, .int .i64 v, .bool false, .int .i64 0] 48)).alloc (.cells #[.int .i64 v] 3)).heap[wr.heap.size + 1]? = some (.cells #[.int .i64 v] 3 (0, 0))) := hnb
          have n1 : st.Y.length + 1 ≤ maxLen := by unfold maxLen; omega
          have n2 : (st.Y.length + 1) * 8 ≤ 140737488355328 := by omega
          obtain ⟨i0, hi0, hz0, hz1, hz2⟩ := info_parts Try.infoThr
          clear HP1 hnb
          go_wp2_with
            (at_builtin
             refine wpList_append_lies _ rfl _ _ _ rfl (w.heap.size + 1) 3 i0 _ 1 8 Try.underlying25 hi0 hz0 hz1 hz2 rfl (by omega) (.slice ta st.Y.length tc) st.Y.length (st.Y.map (Value.int .i64)) rfl HP2.out.ownT
              ⟨wr.heap.size + 1, 0, none⟩ 1 1 [.int .i64 v] rfl rfl (World.news_of_block (cs := #[.int .i64 v]) (t := 3) (fr := (0, 0)) HN.out) (by simp [Value.oneCell']) (by omega) n1 n2 (by simp; omega) (wr.heap.size + 2) (by simp) ?_
             intro g cap w2 hown2 hgrow hat hlt)
          go_roundw
          case rel => exact ⟨{ st with Y := st.Y ++ [v] }, M, rfl, HP2.out.pushT hgrow hown2 (by simpa using hat), HSp.out, hpD, fun j hj => HC.out j (List.mem_append_left _ hj), by simp only [List.length_append, List.length_cons, List.length_nil]; omega, HF.out⟩
          case measure => simp [lenOf]
        | false =>
          simp only [ic, List.getElem?_cons_zero, List.getElem?_cons_succ] at o0 o1 o2 o3
          have HZ : Hid (nextF R D v st.pos = none → readF R D = none) := fun h => by
            rw [readF_fin hD, ← HF.out]
            have : ([Jt.sym (false, v)].reverse ++ M.reverse) = Jt.sym (false, v) :: M.reverse := rfl
            rw [this, fin_stuck h]
          have HE : Hid (Below w.heap.size w (wr.alloc (.cells #[.bool false, .int .i64 v, .bool false, .int .i64 0] 48))) := HB.out.alloc (by omega) _
          have hlw : w.heap.size < wr.heap.size := by omega
          have m2 : (wr.alloc (.cells #[.bool false, .int .i64 v, .bool false, .int .i64 0] 48)).cell? ⟨w.heap.size, 2, none⟩ = some (.slice ra R.length rc) := by rw [World.cell?_alloc_past _ _ _ hlw]; exact b2
          have m3 : (wr.alloc (.cells #[.bool false, .int .i64 v, .bool false, .int .i64 0] 48)).cell? ⟨wr.heap.size, 1, none⟩ = some (.int .i64 v) := by simp [go_sem]
          clear b2
          by_cases hp : D.length ≤ st.pos
          · have e1 : decide (D.length ≤ st.pos) = true := by simpa using hp
            have HX : Hid (readF R D = none) := HZ.out (by simp [nextF, List.getElem?_eq_none hp])
            go_wp2_with fail
            go_big_quiet (fail)
            go_wp2_with fail
            go_ret3
            exact .inr ⟨HX.out, rfl, below_drewN HE.out _⟩
          · have e1 : decide (D.length ≤ st.pos) = false := by simpa using hp
            have hp' : st.pos < D.length := by omega
            obtain ⟨db, dO, dc', hdv, hdb, d0⟩ := HD.out.2 _ hp'
            simp only [Value.slice.injEq, true_and] at hdv
            obtain ⟨rfl, rfl⟩ := hdv
            obtain ⟨y, hy⟩ : ∃ y, D[st.pos]? = some y := ⟨D[st.pos], by simp [hp']⟩
            rw [getD_of_some hy] at d0
            have d1 : (wr.alloc (.cells #[.bool false, .int .i64 v, .bool false, .int .i64 0] 48)).cell? ⟨db, dO + st.pos, none⟩ = some (.int .i64 y) := by
              rw [World.cell?_alloc_past _ _ _ (by omega)]; exact (HB.out.cell (p := ⟨db, dO + st.pos, none⟩) hdb).trans d0
            have i1 : (0 : Int) ≤ (st.pos : Int) := Int.natCast_nonneg _
            have i2 : (st.pos : Int) < (D.length : Int) := by omega
            have HY : Hid (D[st.pos]? = some y) := hy
            clear hy d0 hp
            by_cases hy0 : y < 0
            · have e2 : decide (y < 0) = true := by simpa using hy0
              have HX : Hid (readF R D = none) := HZ.out (by simp only [nextF, HY.out]; rw [if_neg (by omega)])
              go_wp2_with fail
              go_big_quiet (fail)
              go_wp2_with fail
              go_ret3
              exact .inr ⟨HX.out, rfl, below_drewN HE.out _⟩
            by_cases hy1 : (R.length : Int) ≤ y
            · have e2 : decide (y < 0) = false := by simpa using hy0
              have e3 : decide ((R.length : Int) ≤ y) = true := by simpa using hy1
              have HX : Hid (readF R D = none) := HZ.out (by simp only [nextF, HY.out]; rw [if_neg (by omega)])
              go_wp2_with fail
              go_big_quiet (fail)
              go_wp2_with fail
              go_ret3
              exact .inr ⟨HX.out, rfl, below_drewN HE.out _⟩
            obtain ⟨q, rfl⟩ : ∃ q : Nat, y = q := ⟨y.toNat, by omega⟩
            have hq : q < R.length := by omega
            obtain ⟨b, o, rc', qa, qc, hrv, hb, k1, k2, _, k3⟩ := HR.out.2 q hq
            simp only [Value.slice.injEq, true_and] at hrv
            obtain ⟨rfl, rfl⟩ := hrv
            obtain ⟨⟨L, Rt⟩, hru⟩ : ∃ x, R.getD q (0, []) = x := ⟨_, rfl⟩
            rw [hru] at k1 k2 k3
            have k1' : (wr.alloc (.cells #[.bool false, .int .i64 v, .bool false, .int .i64 0] 48)).cell? ⟨b, o + q * 2, none⟩ = some (.int .i64 L) := by
              rw [World.cell?_alloc_past _ _ _ (by omega)]; exact (HB.out.cell (p := ⟨b, o + q * 2, none⟩) hb).trans k1
            have k2' : (wr.alloc (.cells #[.bool false, .int .i64 v, .bool false, .int .i64 0] 48)).cell? ⟨b, o + q * 2 + 1, none⟩ = some (.slice qa Rt.length qc) := by
              rw [World.cell?_alloc_past _ _ _ (by omega), Nat.add_assoc]; exact (HB.out.cell (p := ⟨b, o + (q * 2 + 1), none⟩) hb).trans k2
            have j1 : (0 : Int) ≤ (q : Int) := Int.natCast_nonneg _
            have j2 : (q : Int) < (R.length : Int) := by omega
            have e2 : decide ((q : Int) < 0) = false := by simp
            have e3 : decide (R.length ≤ q) = false := by simp; omega
            have HU : Hid (R.getD q (0, []) = (L, Rt)) := hru
            have HK : Hid (∀ i, i < Rt.length → ∃ b' o', qa = some ⟨b', o', none⟩ ∧ b' < w.heap.size ∧ w.cell? ⟨b', o' + i * 2, none⟩ = some (.bool (Rt.getD i (false, 0)).1) ∧ w.cell? ⟨b', o' + (i * 2 + 1), none⟩ = some (.int .i64 (Rt.getD i (false, 0)).2)) := k3
            clear k1 k2 k3 hru hy0 hy1
            by_cases hL : L = v
            · have e4 : (L != v) = false := by simp [hL]
              have e5 : (v != v) = false := by simp
              have HL : Hid (L = v) := hL
              clear hL
              go_upto_region 16 with (first | (go_big_quiet (fail)) | fail)
              go_cut [12] from 24 to 132 (fun s12 wx => s12 = .slice qa Rt.length qc ∧ TI (w.alloc (.cells #[.int .i64 T, .int .i64 N, .slice (some ⟨b, o, none⟩) R.length rc] 24)) (w.heap.size + 1) wx st M (.slice ta st.Y.length tc) (.slice sa st.S.length sc) (.slice (some ⟨og, 0, none⟩) M.length oc) ∧ wx.cell? ⟨db, dO + st.pos, none⟩ = some (.int .i64 q))
              case first =>
                go_big_quiet (fail)
                go_wp2_with fail
                go_meet
                case rel => exact ⟨rfl, ((HP.out.alloc _).drewN _).drewN _, d1⟩
              case rest =>
                obtain ⟨rfl, hT, dcell⟩ := hcut
                clear k1' k2' d1 m2 m3 e2 e3 e4 e5 o0 o1 o2 o3
                have HT1 : Hid (TI (w.alloc (.cells #[.int .i64 T, .int .i64 N, .slice (some ⟨b, o, none⟩) R.length rc] 24)) (w.heap.size + 1) wc st M (.slice ta st.Y.length tc) (.slice sa st.S.length sc) (.slice (some ⟨og, 0, none⟩) M.length oc)) := hT
                have hwc := hT.le
                clear hT
                obtain ⟨i0, hi0, hz0, hz1, hz2⟩ := info_parts Try.infoSpan
                have n1 : st.S.length + 1 ≤ maxLen := by unfold maxLen; rw [HSp.out]; omega
                have n2 : (st.S.length + 1) * 24 ≤ 140737488355328 := by rw [HSp.out]; omega
                have ownS := HT1.out.ownS
                go_upto_region 18 with
                  (at_builtin
                   refine wpList_append_lies _ rfl _ _ _ rfl (w.heap.size + 1) 51 i0 _ 3 24 Try.underlying26 hi0 hz0 hz1 hz2 rfl (by omega) (.slice sa st.S.length sc) st.S.length (flat st.S) rfl (ownS.alloc _)
                     ⟨wc.heap.size, 0, none⟩ 1 1 [.int .i64 q, .int .i64 st.Y.length, .int .i64 0] rfl rfl (World.news_of_block (cs := #[.int .i64 q, .int .i64 st.Y.length, .int .i64 0]) (t := 51) (fr := (0, 0)) (heap_alloc_new wc _)) (by simp [Value.oneCell']) (by omega) n1 n2 (by simp; omega) (wc.heap.size + 1) (by simp) ?_
                   intro g3 cap3 w3 hown3 hgrow3 hat3 hlt3)
                have HT3 := (HT1.out.alloc (.cells #[.int .i64 q, .int .i64 st.Y.length, .int .i64 0] 51)).pushS (t := ((q : Int), st.Y.length, 0)) hgrow3 hown3 (by simpa using hat3)
                clear hown3 hgrow3 hat3 hlt3 ownS hi0 hz0 hz1 hz2 dcell n1 n2
                have HT3' : Hid (TI (w.alloc (.cells #[.int .i64 T, .int .i64 N, .slice (some ⟨b, o, none⟩) R.length rc] 24)) (w.heap.size + 1) w3 { pos := st.pos + 1, Y := st.Y, S := st.S ++ [((q : Int), st.Y.length, 0)] } M (.slice ta st.Y.length tc) (.slice (some ⟨g3, 0, none⟩) (st.S.length + 1) cap3) (.slice (some ⟨og, 0, none⟩) M.length oc)) := HT3.pos _
                have hw3 := HT3.le
                have ownO := HT3.ownO
                clear HT3
                obtain ⟨i0, hi0, hz0, hz1, hz2⟩ := info_parts Try.infoOpen
                have n1 : M.length + 1 ≤ maxLen := by unfold maxLen; omega
                have n2 : (M.length + 1) * 32 ≤ 140737488355328 := by omega
                go_upto_region 19 with
                  (at_builtin
                   refine wpList_append_lies _ rfl _ _ _ rfl (w.heap.size + 1) 48 i0 _ 4 32 Try.underlying49 hi0 hz0 hz1 hz2 rfl (by omega) (.slice (some ⟨og, 0, none⟩) M.length oc) M.length (flatO M) rfl (ownO.alloc _)
                     ⟨w3.heap.size, 0, none⟩ 1 1 (ic (.close st.pos)) rfl rfl (World.news_of_block (cs := #[.bool false, .int .i64 0, .bool true, .int .i64 st.pos]) (t := 48) (fr := (0, 0)) (heap_alloc_new w3 _)) (by simp [ic, Value.oneCell']) (by omega) n1 n2 (by simp; omega) (w3.heap.size + 1) (by simp) ?_
                   intro g4 cap4 w4 hown4 hgrow4 hat4 hlt4)
                have HT4 := (HT3'.out.alloc (.cells #[.bool false, .int .i64 0, .bool true, .int .i64 st.pos] 48)).pushO (x := .close st.pos) hgrow4 hown4 (by simpa using hat4)
                have HT4' : Hid (TI (w.alloc (.cells #[.int .i64 T, .int .i64 N, .slice (some ⟨b, o, none⟩) R.length rc] 24)) (w.heap.size + 1) w4 { pos := st.pos + 1, Y := st.Y, S := st.S ++ [((q : Int), st.Y.length, 0)] } (M ++ [.close st.pos]) (.slice ta st.Y.length tc) (.slice (some ⟨g3, 0, none⟩) (st.S.length + 1) cap3) (.slice (some ⟨g4, 0, none⟩) (M.length + 1) cap4)) := HT4
                clear hown4 hgrow4 hat4 hlt4 ownO n1 n2 HT4
                have h8 : Rt.length ≤ 8 := by have := H8.out q; rw [HU.out] at this; exact this
                go_wp2_with fail
                go_loopw [9, 13] (fun ov k wx => ∃ m : Nat, k = .int .i64 ((m : Int) - 1) ∧ m ≤ Rt.length ∧ TI (w.alloc (.cells #[.int .i64 T, .int .i64 N, .slice (some ⟨b, o, none⟩) R.length rc] 24)) (w.heap.size + 1) wx { pos := st.pos + 1, Y := st.Y, S := st.S ++ [((q : Int), st.Y.length, 0)] } (M ++ [.close st.pos] ++ (Rt.drop m).reverse.map Jt.sym) (.slice ta st.Y.length tc) (.slice (some ⟨g3, 0, none⟩) (st.S.length + 1) cap3) ov)
                  (fun _ k _ => (intOf k + 1).toNat)
                case atStart => exact ⟨Rt.length, rfl, Nat.le_refl _, by simpa using HT4'.out⟩
                case round =>
                  obtain ⟨m, rfl, hm, hT5⟩ := hrel
                  have HT5 : Hid (TI (w.alloc (.cells #[.int .i64 T, .int .i64 N, .slice (some ⟨b, o, none⟩) R.length rc] 24)) (w.heap.size + 1) wr { pos := st.pos + 1, Y := st.Y, S := st.S ++ [((q : Int), st.Y.length, 0)] } (M ++ [.close st.pos] ++ (Rt.drop m).reverse.map Jt.sym) (.slice ta st.Y.length tc) (.slice (some ⟨g3, 0, none⟩) (st.S.length + 1) cap3) u9) := hT5
                  have hl5 : (M ++ [Jt.close st.pos] ++ (Rt.drop m).reverse.map Jt.sym).length = M.length + 1 + (Rt.length - m) := by simp; omega
                  obtain ⟨oa5, oc5, hu9⟩ := own_form hT5.ownO
                  rw [hl5] at hu9
                  have hwr := hT5.le
                  clear hT5 HT4' HT3' HT1
                  subst hu9
                  cases m with
                  | zero =>
                    have HG : Hid (TRel (w.alloc (.cells #[.int .i64 T, .int .i64 N, .slice (some ⟨b, o, none⟩) R.length rc] 24)) (w.heap.size + 1) R D (.slice ta st.Y.length tc) (.slice (some ⟨g3, 0, none⟩) (st.S.length + 1) cap3) (.slice oa5 (M.length + 1 + (Rt.length - 0)) oc5) (.int .i64 (st.pos + 1)) wr) := by
                      refine ⟨{ pos := st.pos + 1, Y := st.Y, S := st.S ++ [((q : Int), st.Y.length, 0)] }, _, rfl, HT5.out, ?_, ?_, ?_, ?_, ?_⟩
                      · simp only [List.length_append, List.length_cons, List.length_nil]; rw [HSp.out]
                      · simp only; omega
                      · intro k hk
                        simp only [List.mem_append, List.mem_singleton, List.mem_map] at hk
                        simp only [List.length_append, List.length_cons, List.length_nil]
                        rcases hk with (hk | hk) | ⟨a, _, hk⟩
                        · have := HC.out k (List.mem_append_left _ hk); omega
                        · cases hk; rw [HSp.out]; omega
                        · cases hk
                      · rw [hl5]; have := hMs.out; simp only; omega
                      · rw [← HF.out]
                        have hnx : nextF R D v st.pos = some q := by
                          simp only [nextF, HY.out]
                          rw [if_pos (by omega)]
                          simp only [Int.toNat_natCast]
                          rw [if_pos (by rw [HU.out]; exact HL.out)]
                        have e : ([Jt.sym (false, v)].reverse ++ M.reverse) = Jt.sym (false, v) :: M.reverse := rfl
                        rw [e, fin_open hnx HSp.out, HU.out]
                        simp
                    go_wp2_with fail
                    go_roundw
                    case rel => exact HG.out
                    case measure => simp [lenOf, intOf]; omega
                  | succ m =>
                    have ek : (((m + 1 : Nat) : Int) - 1) = (m : Int) := by omega
                    rw [ek]
                    obtain ⟨b', o', rfl, hb', k3, k4⟩ := HK.out m (by omega)
                    obtain ⟨⟨t, x⟩, hsy⟩ : ∃ y, Rt.getD m (false, 0) = y := ⟨_, rfl⟩
                    rw [hsy] at k3 k4
                    have hBi : Below w.heap.size w wr := ((Below.refl _ _).alloc (Nat.le_refl _) _).trans (HT5.out.below.mono (by omega))
                    have k3' := (hBi.cell (p := ⟨b', o' + m * 2, none⟩) hb').trans k3
                    have k4' : wr.cell? ⟨b', o' + m * 2 + 1, none⟩ = some (.int .i64 x) := by rw [Nat.add_assoc]; exact (hBi.cell (p := ⟨b', o' + (m * 2 + 1), none⟩) hb').trans k4
                    have HDr : Hid (Rt.drop m = (t, x) :: Rt.drop (m + 1)) := by
                      show Rt.drop m = _
                      rw [List.drop_eq_getElem_cons (by omega)]
                      congr 1
                      rw [← hsy]
                      simp [List.getD, show m < Rt.length by omega]
                    have ownO := HT5.out.ownO
                    rw [hl5] at ownO
                    have HO : Hid (wr.ownsRow (w.heap.size + 1) 48 4 (.slice oa5 (M.length + 1 + (Rt.length - (m + 1))) oc5) (M.length + 1 + (Rt.length - (m + 1))) (flatO (M ++ [.close st.pos] ++ (Rt.drop (m + 1)).reverse.map Jt.sym))) := ownO
                    have n1 : M.length + 1 + (Rt.length - (m + 1)) + 1 ≤ maxLen := by unfold maxLen; omega
                    have n2 : (M.length + 1 + (Rt.length - (m + 1)) + 1) * 32 ≤ 140737488355328 := by omega
                    have j3 : (0 : Int) ≤ (m : Int) := Int.natCast_nonneg _
                    have j4 : (m : Int) < (Rt.length : Int) := by omega
                    have HL5 : Hid ((M ++ [Jt.close st.pos] ++ (Rt.drop (m + 1)).reverse.map Jt.sym).length = M.length + 1 + (Rt.length - (m + 1))) := hl5
                    clear k3 k4 hsy hBi ownO hl5 ek
                    go_wp2_with
                      (at_builtin
                       refine wpList_append_lies _ rfl _ _ _ rfl (w.heap.size + 1) 48 i0 _ 4 32 Try.underlying49 hi0 hz0 hz1 hz2 rfl (by omega) (.slice oa5 (M.length + 1 + (Rt.length - (m + 1))) oc5) (M.length + 1 + (Rt.length - (m + 1))) (flatO (M ++ [.close st.pos] ++ (Rt.drop (m + 1)).reverse.map Jt.sym)) rfl (HO.out.alloc _)
                         ⟨wr.heap.size, 0, none⟩ 1 1 (ic (.sym (t, x))) rfl rfl (World.news_of_block (cs := #[.bool t, .int .i64 x, .bool false, .int .i64 0]) (t := 48) (fr := (0, 0)) (heap_alloc_new wr _)) (by simp [ic, Value.oneCell']) (by omega) n1 n2 (by simp; omega) (wr.heap.size + 1) (by simp) ?_
                       intro g6 cap6 w6 hown6 hgrow6 hat6 hlt6)
                    go_roundw
                    case rel =>
                      refine ⟨m, rfl, by omega, ?_⟩
                      have hT6 := (HT5.out.alloc (.cells #[.bool t, .int .i64 x, .bool false, .int .i64 0] 48)).pushO (x := .sym (t, x)) (g := g6) (cap := cap6) hgrow6 (by rw [HL5.out]; exact hown6) (by simpa using hat6)
                      rw [HL5.out] at hT6
                      rw [HDr.out]
                      simpa using hT6
                    case measure => simp [intOf]

            · have e4 : (L != v) = true := by simpa using hL
              have HX : Hid (readF R D = none) := HZ.out (by simp only [nextF, HY.out]; rw [if_pos (by omega)]; simp only [Int.toNat_natCast]; rw [if_neg (by rw [HU.out]; exact hL)])
              clear hL
              go_wp2_with fail
              go_big_quiet (fail)
              go_wp2_with fail
              go_ret3
              exact .inr ⟨HX.out, rfl, below_drewN HE.out _⟩

end Go.Proofs.Ytkkcmcckdaobmaa

/- pollardingref1.Through: where the list is a derivation, and where it is none. No walk. -/
namespace Go.Proofs.Ytkkcmcckdaobmaa
open Go.RowKit

theorem thr_none {w : World} {T N : Int} {rv dv : Value} {R : List Ru} {D : List Int} (hr : RulesAt w w.heap.size rv R) (hd : ListAt w w.heap.size dv D) (hm : mayB T N R = true) (h : readF R D = none) :
    Calls Try.prog 4 #[.agg #[.int .i64 T, .int .i64 N, rv], dv] w fun e w' => e = .returned noThrough ∧ Below w.heap.size w w' := by
  by_cases hD : 400 < D.length
  · obtain ⟨da, dc, rfl⟩ := hd.1
    exact thr_not hr (.inr hD)
  · refine (thr_main hr hd hm (by omega)).mono ?_
    rintro e w' (⟨st, tv, sv, h1, _⟩ | ⟨_, h2, h3⟩)
    · rw [h] at h1; cases h1
    · exact ⟨h2, h3⟩

theorem thr_some {w : World} {T N : Int} {rv dv : Value} {R : List Ru} {D : List Int} {st : St} (hr : RulesAt w w.heap.size rv R) (hd : ListAt w w.heap.size dv D) (hm : mayB T N R = true) (h : readF R D = some st) :
    Calls Try.prog 4 #[.agg #[.int .i64 T, .int .i64 N, rv], dv] w fun e w' => ∃ ta tc sv, e = .returned (.tuple #[.slice ta st.Y.length tc, sv, .bool true]) ∧ Below w.heap.size w w' ∧
      w'.ownsRow w.heap.size 3 1 (.slice ta st.Y.length tc) st.Y.length (st.Y.map (Value.int .i64)) := by
  have hD : D.length ≤ 400 := by
    unfold readF at h
    split at h
    · cases h
    · omega
  refine (thr_main hr hd hm hD).mono ?_
  rintro e w' (⟨st', tv, sv, h1, h2, h3, h4, _⟩ | ⟨h1, _⟩)
  · rw [h] at h1
    cases h1
    obtain ⟨ta, tc, rfl⟩ := own_form h4
    exact ⟨ta, tc, sv, h2, h3, h4⟩
  · rw [h] at h1; cases h1

end Go.Proofs.Ytkkcmcckdaobmaa

/- The contract of pollardingref1.Ints, where both sides are one. -/
namespace Go.Proofs.Ytkkcmcckdaobmaa
open Go.RowKit

set_option maxRecDepth 100000 in
set_option maxHeartbeats 1600000 in
theorem ints_eq {w : World} {la lb : Nat} {a b : Value} {X : List Int} (ha : ListAt w la a X) (hb : ListAt w lb b X) (hl : X.length ≤ 1000000) :
    Calls Try.prog 8 #[a, b] w fun e w' => e = .returned (.bool true) ∧ ∃ m, w' = w.drewN m := by
  obtain ⟨aa, ac, hav⟩ := ha.1
  obtain ⟨ba, bc, hbv⟩ := hb.1
  have HA : Hid (ListAt w la a X) := ha
  have HB : Hid (ListAt w lb b X) := hb
  clear ha hb
  subst hav
  subst hbv
  have e0 : ((X.length : Int) != (X.length : Int)) = false := by simp
  go_enter Try.func8, Try.ntmps8
  go_wp2_with fail
  go_loopw [5] (fun k wr => ∃ i m : Nat, k = .int .i64 i ∧ i ≤ X.length ∧ wr = w.drewN m) (fun k _ => X.length - (intOf k).toNat)
  case atStart => exact ⟨0, 0, rfl, Nat.zero_le _, rfl⟩
  case round =>
    obtain ⟨i, m, rfl, hi, rfl⟩ := hrel
    by_cases hlt : i < X.length
    · obtain ⟨g1, o1, c1, hv1, _, k1⟩ := HA.out.2 i hlt
      obtain ⟨g2, o2, c2, hv2, _, k2⟩ := HB.out.2 i hlt
      cases hv1
      cases hv2
      obtain ⟨z, hz⟩ : ∃ z, X.getD i 0 = z := ⟨_, rfl⟩
      rw [hz] at k1 k2
      have j0 : (0 : Int) ≤ (i : Int) := Int.natCast_nonneg _
      have j1 : (i : Int) < (X.length : Int) := by omega
      have e1 : (z != z) = false := by simp
      clear hz
      go_wp2_with fail
      go_big_quiet (fail)
      go_wp2_with fail
      go_roundw
      case rel => exact ⟨i + 1, _, by go_num, by omega, rfl⟩
      case measure => simp [intOf]; omega
    · go_wp2_with fail
      go_ret
      exact ⟨rfl, m, rfl⟩

end Go.Proofs.Ytkkcmcckdaobmaa
