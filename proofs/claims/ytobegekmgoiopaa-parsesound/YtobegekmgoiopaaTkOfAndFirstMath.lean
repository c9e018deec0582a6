import Derived.Test.YtobegekmgoiopaaTkTabAndTkPlain
import Derived.Test.YtobegekmgoiopaaSetsReadyAndSetsIs
import Derived.Test.YtobegekmgoiopaaTab6AndTkMath
import Derived.Test.YtobegekmgoiopaaMathAndBits
import Derived.Test.YtobegekmgoiopaaBuildMathAndMayFine
/- The contract of table.Of. -/
namespace Go.Proofs.Ytobegekmgoiopaa
open Go.RowKit

def tkA0 (w : World) (T N : Nat) (rv nv fv wv : Value) : TkA := ⟨w.heap.size + 1 + 1, w.heap.size, w.heap.size + 1, T, N, rv, nv, fv, wv⟩
def tkV0 : TkV := ⟨.slice none 0 0, fun _ => .slice none 0 0, .slice none 0 0, []⟩

theorem tkm_start (w : World) (T N : Nat) (rv nv fv wv : Value) :
    TkM w (((w.alloc (.map #[] 0)).alloc (.map #[] 0)).alloc (.cells #[.int .i64 T, .int .i64 N, rv, nv, fv, wv, .slice none 0 0, .map (some w.heap.size), .map (some (w.heap.size + 1)), .slice none 0 0] 95)) (tkA0 w T N rv nv fv wv) tkV0 (goM T []) 0 ⟨fun _ => 0, [], 0⟩ := by
  have m1 := mapAt_made w Try.prog 126 wyV
  have m2 := mapAt_made (w.alloc (.map #[] 0)) Try.prog 128 soV
  simp only [World.size_alloc] at m2
  have eL : (fun _ => none) = lkM (fun _ => 0) := by funext x; simp [lkM]
  refine ⟨⟨fun i r hr => ?_, fun i j x y hij hx hy g h1 h2 => ?_⟩, ((m1.alloc _).alloc _).congr (goM_nil T).symm, (m2.alloc _).congr eL, by simp only [tkA0]; omega, by simp only [tkA0]; omega, (((Below.refl _ _).alloc (Nat.le_refl _) _).alloc (by simp) _).alloc (by simp; omega) _⟩
  · cases i with
    | ma =>
      simp only [TkP, Option.some.injEq] at hr
      subst hr
      have := World.ownsRow_lit (base := w.heap.size) (e := 95) (size := 10) ((w.alloc (.map #[] 0)).alloc (.map #[] 0)) #[.int .i64 T, .int .i64 N, rv, nv, fv, wv, .slice none 0 0, .map (some w.heap.size), .map (some (w.heap.size + 1)), .slice none 0 0] 1 (by simp; omega) (by unfold maxLen; omega) rfl
      simp only [World.size_alloc] at this
      exact this
    | st => simp only [TkP, Option.some.injEq] at hr; subst hr; exact World.ownsRow_nil _ _ _ _
    | op => simp only [TkP, Option.some.injEq] at hr; subst hr; exact World.ownsRow_nil _ _ _ _
    | it k => simp [TkP, tkV0] at hr
  · cases i <;> cases j <;> simp only [TkP, tkV0, Option.some.injEq, List.length_nil, Nat.not_lt_zero, if_false, reduceCtorEq] at hx hy <;> subst hx <;> subst hy <;> first | exact hij rfl | (cases h2; done) | (cases h1; done)

theorem all_zero {T N : Nat} {R : List Ru} (K : Nat) : 0 < (allN T N R K).2.length ∧ (allN T N R K).2.getD 0 noS = Cl R fun i => i = (R.length, 0) := by
  obtain ⟨E, hE⟩ := all_pre (T := T) (N := N) (R := R) 0 K (Nat.zero_le _)
  have h0 : (allN T N R 0).2 = [Cl R fun i => i = (R.length, 0)] := rfl
  rw [hE, h0]
  exact ⟨by simp, by simp [List.getD]⟩

/-- What was there before the maker. -/
theorem tkE_of {w : World} {T N : Nat} {rv nv fv wv : Value} {R : List Ru} (hm : mayB T N R = true) (hr : RulesAt w w.heap.size rv R) (hn : BoolsAt w nv (nullA R N)) (hfi : MatAt w fv (firstA R (nullA R N) T N)) : TkE w (tkA0 w T N rv nv fv wv) R (nullA R N) (firstA R (nullA R N) T N) := by
  obtain ⟨hT, hN1, hN, hRl, h5⟩ := may_fine hm
  obtain ⟨hf, h8⟩ := fine_of hm
  obtain ⟨n1, n2⟩ := nullA_iff hf
  obtain ⟨f1, f2⟩ := firstA_iff hf n2
  refine ⟨hr, hn, hfi, n1, f1.1, f1.2, hT, ⟨hN1, hN⟩, hRl, fun q hq => (h8 q hq).2, fun r hr s hs => ?_⟩
  unfold rightF at hs
  split at hs
  · simp only [List.mem_singleton] at hs
    subst hs
    exact ⟨fun h => (nomatch h), fun _ => ⟨by simp, by simp [tkA0]; omega⟩⟩
  · have hm' : R.getD r (0, []) ∈ R := by simp [List.getD, show r < R.length by omega]
    exact ⟨fun h => hf.term _ hm' _ hs h, fun h => hf.name _ hm' _ hs h⟩

set_option maxRecDepth 100000 in
set_option maxHeartbeats 3200000 in
theorem tkOf_far {w : World} {T N : Nat} {rv : Value} {R : List Ru} (hr : RulesAt w w.heap.size rv R) (hm : mayB T N R = true) :
    Calls Try.prog 15 #[.agg #[.int .i64 T, .int .i64 N, rv]] w fun e w' =>
      (e = .returned (.tuple #[.agg #[.slice none 0 0, .slice none 0 0], .int .i64 1]) ∧ Below w.heap.size w w' ∧ More T N R 150) ∨
      ∃ K cv gv, e = .returned (.tuple #[.agg #[cv, gv], .int .i64 0]) ∧ Below w.heap.size w w' ∧ Whole T N R K ∧ K ≤ 150 ∧ ∀ w'' : World, (∀ b, w.heap.size ≤ b → b < w'.heap.size → w''.heap[b]? = w'.heap[b]?) → TabAt w'' cv gv (tabC T N R K) (tabG T N R K) := by
  obtain ⟨ra, rc, hrv⟩ := hr.1
  subst hrv
  have hr1 := (hr.boxed (.cells #[.int .i64 T, .int .i64 N, .slice ra R.length rc] 24)).boxed (.cells #[.slice none 0 0, .slice none 0 0] 41)
  have sets := setsOf_may (T := T) (N := N) hr1 hm
  have HR1 : Hid (RulesAt ((w.alloc (.cells #[.int .i64 T, .int .i64 N, .slice ra R.length rc] 24)).alloc (.cells #[.slice none 0 0, .slice none 0 0] 41)) ((w.alloc (.cells #[.int .i64 T, .int .i64 N, .slice ra R.length rc] 24)).alloc (.cells #[.slice none 0 0, .slice none 0 0] 41)).heap.size (.slice ra R.length rc) R) := hr1
  have HM : Hid (mayB T N R = true) := hm
  have HB0 : Hid (Below w.heap.size w ((w.alloc (.cells #[.int .i64 T, .int .i64 N, .slice ra R.length rc] 24)).alloc (.cells #[.slice none 0 0, .slice none 0 0] 41))) := ((Below.refl _ _).alloc (Nat.le_refl _) _).alloc (by simp) _
  clear hr hm hr1
  have hmm := @run_makeMap Try.prog
  go_enter Try.func15, Try.ntmps15
  go_upto_region 5 with
    (go_at_call 30; refine sets.mono ?_; rintro e w2 ⟨nv, fv, gv, vf, vg, rfl, hB2, gb, B, Y, hBB, hA, hg, hBt, hF, hG⟩
     obtain ⟨na, nc, hnv⟩ := (dev_bools hBt).1
     obtain ⟨fa, fc, hfv⟩ := hF.1
     obtain ⟨ga, gc, hgv⟩ := hG.1
     have hN' : nv = .slice na N nc := by rw [hnv, hA.shp .null N rfl]
     clear hnv
     subst hN'
     subst hfv
     subst hgv
     have hs2 : w.heap.size + 2 ≤ w2.heap.size := by have := hB2.size; simp at this; omega
     have x0 : w2.cell? ⟨w.heap.size + 1, 0, none⟩ = some (.slice none 0 0) := (hB2.cell (by simp)).trans (by simp [go_sem])
     have x1 : w2.cell? ⟨w.heap.size + 1, 1, none⟩ = some (.slice none 0 0) := (hB2.cell (by simp)).trans (by simp [go_sem])
     have xf0 : w2.frozen? ⟨w.heap.size + 1, 0, none⟩ = false := (hB2.frozen (by simp)).trans (by simp [go_sem])
     have xf1 : w2.frozen? ⟨w.heap.size + 1, 1, none⟩ = false := (hB2.frozen (by simp)).trans (by simp [go_sem])
     have b0 : w2.cell? ⟨w.heap.size, 0, none⟩ = some (.int .i64 T) := (hB2.cell (by simp; omega)).trans (by simp [go_sem])
     have b1 : w2.cell? ⟨w.heap.size, 1, none⟩ = some (.int .i64 N) := (hB2.cell (by simp; omega)).trans (by simp [go_sem])
     have b2 : w2.cell? ⟨w.heap.size, 2, none⟩ = some (.slice ra R.length rc) := (hB2.cell (by simp; omega)).trans (by simp [go_sem])
     have HR2 : Hid (RulesAt w2 w2.heap.size (.slice ra R.length rc) R) := (HR1.out.below hB2).mono hB2.size
     have HD1 : Hid (BoolsAt w2 (.slice na N nc) (Y .null)) := dev_bools hBt
     have HD2 : Hid (MatAt w2 (.slice fa N fc) ((List.range N).map fun n => Y (.f n))) := dev_first hBt hF
     have HE : Hid (Y .null = nullA R N ∧ ((List.range N).map fun n => Y (.f n)) = firstA R (nullA R N) T N ∧ ((List.range N).map fun n => Y (.g n)) = followA R (nullA R N) (firstA R (nullA R N) T N) T N) := dev_is_ref (fine_of HM.out).1 hA hg
     have HB2 : Hid (Below w.heap.size w w2) := HB0.out.trans (hB2.mono (by simp; omega))
     have hal : Below w2.heap.size w2 (w2.alloc (.cells #[.slice na N nc, .slice fa N fc, .slice ga N gc] 86)) := (Below.refl _ _).alloc (Nat.le_refl _) _
     have y0 := (hal.cell (p := ⟨w.heap.size, 0, none⟩) (by simp only; omega)).trans b0
     have y1 := (hal.cell (p := ⟨w.heap.size, 1, none⟩) (by simp only; omega)).trans b1
     have y2 := (hal.cell (p := ⟨w.heap.size, 2, none⟩) (by simp only; omega)).trans b2
     clear hB2 hal hBB hA hg hBt hF hG sets b0 b1 b2)
  clear hmm y0 y1 y2
  obtain ⟨W3, hW3⟩ : ∃ W, w2.alloc (.cells #[.slice na N nc, .slice fa N fc, .slice ga N gc] 86) = W := ⟨_, rfl⟩
  have hs3 : W3.heap.size = w2.heap.size + 1 := by rw [← hW3]; simp
  have hB3 : Below w2.heap.size w2 W3 := by rw [← hW3]; exact (Below.refl _ _).alloc (Nat.le_refl _) _
  have hst := tkm_start W3 T N (.slice ra R.length rc) (.slice na N nc) (.slice fa N fc) (.slice ga N gc)
  have E := tkE_of (wv := .slice ga N gc) HM.out ((HR2.out.below hB3).mono (by omega)) (by have := HD1.out; rw [HE.out.1] at this; exact this.same (same_below hB3)) (by have := HD2.out; rw [HE.out.2.1] at this; exact this.same (same_below hB3))
  have HRes : Hid (∀ wq, Below W3.heap.size W3 wq → wq.cell? ⟨w.heap.size + 1, 0, none⟩ = some (.slice none 0 0) ∧ wq.cell? ⟨w.heap.size + 1, 1, none⟩ = some (.slice none 0 0) ∧ wq.frozen? ⟨w.heap.size + 1, 0, none⟩ = false ∧ wq.frozen? ⟨w.heap.size + 1, 1, none⟩ = false ∧ Below w.heap.size w wq) := fun wq hb => by
    have hb2 : Below w2.heap.size w2 wq := hB3.trans (hb.mono (by omega))
    exact ⟨(hb2.cell (p := ⟨w.heap.size + 1, 0, none⟩) hs2).trans x0, (hb2.cell (p := ⟨w.heap.size + 1, 1, none⟩) hs2).trans x1, (hb2.frozen (p := ⟨w.heap.size + 1, 0, none⟩) hs2).trans xf0, (hb2.frozen (p := ⟨w.heap.size + 1, 1, none⟩) hs2).trans xf1, HB2.out.trans (hb2.mono (by omega))⟩
  have hfr : ∀ n, ((firstA R (nullA R N) T N).getD n []).length ≤ T := fun n => by
    by_cases hn : n < N
    · exact Nat.le_of_eq (E.frow n hn)
    · have : (firstA R (nullA R N) T N).length = N := E.flen
      simp [List.getD, List.getElem?_eq_none (show (firstA R (nullA R N) T N).length ≤ n by omega)]
  obtain ⟨d, hd⟩ : ∃ d, tkA0 W3 T N (.slice ra R.length rc) (.slice na N nc) (.slice fa N fc) (.slice ga N gc) = d := ⟨_, rfl⟩
  have hT : d.T = T := by rw [← hd]; rfl
  have hN : d.N = N := by rw [← hd]; rfl
  have hma : d.ma = w2.heap.size + 1 + 1 + 1 := by rw [← hd]; show W3.heap.size + 1 + 1 = _; rw [hs3]
  rw [hd] at hst E
  rw [hW3]
  rw [hs3] at hst
  obtain ⟨W4, hW4⟩ : ∃ W, (((W3.alloc (.map #[] 0)).alloc (.map #[] 0)).alloc (.cells #[.int .i64 T, .int .i64 N, .slice ra R.length rc, .slice na N nc, .slice fa N fc, .slice ga N gc, .slice none 0 0, .map (some (w2.heap.size + 1)), .map (some (w2.heap.size + 1 + 1)), .slice none 0 0] 95)) = W := ⟨_, rfl⟩
  rw [hW4] at hst ⊢
  subst hT
  subst hN
  have HST : Hid (TkM W3 W4 d tkV0 (goM d.T []) 0 ⟨fun _ => 0, [], 0⟩) := hst
  have HEE : Hid (TkE W3 d R (nullA R d.N) (firstA R (nullA R d.N) d.T d.N)) := E
  have HFR : Hid (∀ n, ((firstA R (nullA R d.N) d.T d.N).getD n []).length ≤ d.T) := hfr
  have fs := tk_findStates E hst rfl
  rw [hma] at fs
  have HMA : Hid (d.ma = w2.heap.size + 1 + 1 + 1) := hma
  clear hW3 hW4 hB3 hd hst E hfr hma x0 x1 xf0 xf1 HR1 HR2 HD1 HD2 HE HB0 HB2
  have HS3 : Hid (W3.heap.size = w2.heap.size + 1) := hs3
  clear hs3
  by_cases hmore : More d.T d.N R 150
  · have fsT : Calls Try.prog 31 #[.pointer (some ⟨w2.heap.size + 1 + 1 + 1, 0, none⟩)] W4 fun e w5 => e = .returned (.bool false) ∧ Below W3.heap.size W4 w5 := fs.mono fun e w5 h => by
      rcases h with ⟨h1, _, h2⟩ | ⟨_, K, v', ng, h3, h4⟩
      · exact ⟨h1, h2⟩
      · refine absurd hmore (whole_or (K := K) ?_ (by rw [← h4]; exact h3.few))
        unfold Whole
        rw [← h3.s.len]
        exact h4
    clear fs
    go_wp2_with
      (go_at_call 31; refine fsT.mono ?_; rintro e w5 ⟨rfl, hB5⟩
       obtain ⟨x0, x1, xf0, xf1, hb5⟩ := HRes.out w5 (HST.out.since.trans hB5)
       have HB5 : Hid (Below w.heap.size w w5) := hb5
       clear hb5 hB5 fsT)
    refine bodyPost_ret (v := .tuple #[.agg #[.slice none 0 0, .slice none 0 0], .int .i64 1]) (by simp [results, Try.results15, go_sem, x0, x1]) rfl (.inl ⟨rfl, (HB5.out.setCell (by simp) _).setCell (by simp) _, hmore⟩)
  · have fsF : Calls Try.prog 31 #[.pointer (some ⟨w2.heap.size + 1 + 1 + 1, 0, none⟩)] W4 fun e w5 => e = .returned (.bool true) ∧ ∃ K v' ng, F1 W3 W4 d tkV0 ⟨fun _ => 0, [], 0⟩ R K v' ng w5 ∧ v'.OL.length = K := fs.mono fun e w5 h => by
      rcases h with ⟨_, h1, _⟩ | h
      · exact absurd h1 hmore
      · exact h
    clear fs
    go_wp2_with
      (first
       | (go_at_call 31; refine fsF.mono ?_; rintro e w5 ⟨rfl, K, v', ng, hF1, hK⟩
          have hz := all_zero (T := d.T) (N := d.N) (R := R) K
          obtain ⟨hAut, hW⟩ := autD_of hF1.s hK (⟨by show 0 < v'.OL.length; rw [hF1.s.len]; exact hz.1, ((hF1.s.rep 0 (by rw [hF1.s.len]; exact hz.1)).mem _).2 (by rw [hz.2]; exact Cl.base rfl)⟩) HEE.out.sym
          have hng : ng ≤ 10000000 := by have := hF1.ng; have := hF1.few; have := hF1.le; omega
          have fl := tk_findLooks HEE.out hF1.m hAut hF1.few hng
          rw [HMA.out] at fl
          have HF1 : Hid (F1 W3 W4 d tkV0 ⟨fun _ => 0, [], 0⟩ R K v' ng w5 ∧ v'.OL.length = K) := ⟨hF1, hK⟩
          have HAut : Hid (AutD d.T d.N R v'.OL (allN d.T d.N R K).1 (allN d.T d.N R K).2 ∧ Whole d.T d.N R K) := ⟨hAut, hW⟩
          clear hF1 hK hz hAut hW)
       | (go_at_call 32; refine fl.mono ?_; rintro e w6 ⟨rfl, ov', st', hM6, hL6, hG6⟩
          have tab := tk_table (v := { v' with ov := ov' }) HEE.out hM6 HF1.out.1.s HF1.out.1.few hng hL6.c hL6.lk (fun k hk n hn => says_term HAut.out.1 hk hn) (fun k hk n hn => says_name HAut.out.1 hk hn)
          rw [HMA.out] at tab
          have HL6 : Hid (LkEnd d.T d.N R v'.OL (allN d.T d.N R K).1 (allN d.T d.N R K).2 (nullA R d.N) (firstA R (nullA R d.N) d.T d.N) st') := hL6
          have HM6 : Hid (TkM W3 w6 d { v' with ov := ov' } (goM d.T (allN d.T d.N R K).1) ng st') := hM6
          clear hM6 hL6 hG6 fl)
       | (go_at_call 33; refine tab.mono ?_; rintro e w7 ⟨cv, gv, rfl, hT7, hB7⟩
          obtain ⟨x0, x1, xf0, xf1, hb7⟩ := HRes.out w7 (HM6.out.since.trans (hB7.mono HM6.out.le))
          have HB7 : Hid (Below w.heap.size w w7) := hb7
          have HT7 : Hid (∀ w'' : World, (∀ b, w6.heap.size ≤ b → b < w7.heap.size → w''.heap[b]? = w7.heap[b]?) → TabAt w'' cv gv (tabC d.T d.N R K) (tabG d.T d.N R K)) := fun w'' hw => by
            have h9 := hT7 w'' hw
            obtain ⟨e1, e2⟩ := tab_plain HEE.out.hN.1 HAut.out.1 HF1.out.2 HFR.out HL6.out
            rw [← e1, ← e2]
            exact h9
          obtain ⟨ca, cc, hcv⟩ := (hT7 w7 (fun _ _ _ => rfl)).cells.1
          obtain ⟨ga7, gc7, hgv⟩ := (hT7 w7 (fun _ _ _ => rfl)).goto.1
          simp only [List.length_map, List.length_range] at hcv hgv
          subst hcv
          subst hgv
          clear hb7 hB7 hT7))
    refine bodyPost_ret (v := .tuple #[.agg #[.slice ca v'.OL.length cc, .slice ga7 v'.OL.length gc7], .int .i64 0]) (by simp [results, Try.results15, go_sem, x0, x1]) rfl (.inr ⟨K, .slice ca v'.OL.length cc, .slice ga7 v'.OL.length gc7, rfl, (HB7.out.setCell (by simp) _).setCell (by simp) _, HAut.out.2, by rw [← HF1.out.2]; exact HF1.out.1.few, fun w'' hw => HT7.out _ fun b hb hlt => ?_⟩)
    have h6 := HM6.out.le
    rw [HS3.out] at h6
    rw [hw b (by omega) (by simpa using hlt), Below.heap_setCell _ _ _ _ (by simp only; omega), Below.heap_setCell _ _ _ _ (by simp only; omega)]

theorem tkOf_may {w : World} {T N : Nat} {rv : Value} {R : List Ru} (hr : RulesAt w w.heap.size rv R) (hm : mayB T N R = true) :
    Calls Try.prog 15 #[.agg #[.int .i64 T, .int .i64 N, rv]] w fun e w' =>
      (e = .returned (.tuple #[.agg #[.slice none 0 0, .slice none 0 0], .int .i64 1]) ∧ Below w.heap.size w w' ∧ More T N R 150) ∨
      ∃ K cv gv, e = .returned (.tuple #[.agg #[cv, gv], .int .i64 0]) ∧ Below w.heap.size w w' ∧ Whole T N R K ∧ K ≤ 150 ∧ TabAt w' cv gv (tabC T N R K) (tabG T N R K) := by
  refine (tkOf_far hr hm).mono fun e w' h => ?_
  rcases h with h | ⟨K, cv, gv, h1, h2, h3, h4, h5⟩
  · exact .inl h
  · exact .inr ⟨K, cv, gv, h1, h2, h3, h4, h5 w' fun _ _ _ => rfl⟩

end Go.Proofs.Ytobegekmgoiopaa

/- The contracts of package table's says and Clashes. -/
namespace Go.Proofs.Ytobegekmgoiopaa
open Go.RowKit

def saysN (c : Ce) : Nat := c.2.1.length + (if 0 ≤ c.1 then 1 else 0) + (if c.2.2 then 1 else 0)
theorem says_one (c : Ce) : decide (1 < saysN c) = !oneB c := by
  obtain ⟨sh, ru, en⟩ := c
  unfold saysN oneB
  simp only
  cases en <;> by_cases h : sh < 0 <;> by_cases h0 : ru.length = 0 <;> by_cases h1 : ru.length = 1 <;> simp [h, h0, h1, show (0 ≤ sh) ↔ ¬ sh < 0 by omega] <;> omega

set_option maxRecDepth 100000 in
set_option maxHeartbeats 1600000 in
theorem tk_says {w : World} {sh : Int} {ra : Option Addr} {n rc : Nat} {en : Bool} (hn : n ≤ 1000) :
    Calls Try.prog 35 #[.agg #[.int .i64 sh, .slice ra n rc, .bool en]] w fun e w' => e = .returned (.int .i64 ((n + (if 0 ≤ sh then 1 else 0) + (if en then 1 else 0) : Nat) : Int)) ∧ Below w.heap.size w w' := by
  have HB0 : Hid (Below w.heap.size w (w.alloc (.cells #[.int .i64 sh, .slice ra n rc, .bool en] 65))) := (Below.refl _ _).alloc (Nat.le_refl _) _
  go_enter Try.func35, Try.ntmps35
  by_cases h : 0 ≤ sh
  · have hd : decide (0 ≤ sh) = true := decide_eq_true h
    cases en
    · go_wp2_with fail
      go_ret
      exact ⟨by simp, HB0.out⟩
    · go_wp2_with fail
      go_ret
      exact ⟨by simp, HB0.out⟩
  · have hd : decide (0 ≤ sh) = false := decide_eq_false h
    cases en
    · go_wp2_with fail
      go_ret
      exact ⟨by simp, HB0.out⟩
    · go_wp2_with fail
      go_ret
      exact ⟨by simp, HB0.out⟩

set_option maxRecDepth 100000 in
set_option maxHeartbeats 3200000 in
theorem tk_clashes {w : World} {cv gv : Value} {C : List (List Ce)} {G : List (List Int)} (h : TabAt w cv gv C G) (hC : C.length ≤ 1000) (hR : ∀ i, i < C.length → (C.getD i []).length ≤ 1000) (hU : ∀ i k, i < C.length → k < (C.getD i []).length → ((C.getD i []).getD k (0, [], false)).2.1.length ≤ 1000) :
    Calls Try.prog 18 #[.agg #[cv, gv]] w fun e w' => e = .returned (.int .i64 (clashN C)) ∧ Below w.heap.size w w' := by
  obtain ⟨ca, cc, hcv⟩ := h.cells.1
  obtain ⟨ga, gc, hgv⟩ := h.goto.1
  subst hcv
  subst hgv
  have HH : Hid (CellsMat w (.slice ca C.length cc) C) := h.cells
  have HR : Hid (∀ i, i < C.length → (C.getD i []).length ≤ 1000) := hR
  have HB0 : Hid (Below w.heap.size w (w.alloc (.cells #[.slice ca C.length cc, .slice ga G.length gc] 41))) := (Below.refl _ _).alloc (Nat.le_refl _) _
  have HBX : Hid (∀ wr, Below (w.heap.size + 1) (w.alloc (.cells #[.slice ca C.length cc, .slice ga G.length gc] 41)) wr → wr.cell? ⟨w.heap.size, 0, none⟩ = some (.slice ca C.length cc) ∧ Below w.heap.size w wr ∧ w.heap.size + 1 ≤ wr.heap.size) := fun wr hB =>
    ⟨(hB.cell (by simp)).trans (by simp [go_sem]), HB0.out.trans (hB.mono (by omega)), by have := hB.size; simpa using this⟩
  have HU : Hid (∀ i k, i < C.length → k < (C.getD i []).length → ((C.getD i []).getD k (0, [], false)).2.1.length ≤ 1000) := hU
  clear h hR hU
  go_enter Try.func18, Try.ntmps18
  go_wp2_with fail
  obtain ⟨WT, hWT⟩ : ∃ W, w.alloc (.cells #[.slice ca C.length cc, .slice ga G.length gc] 41) = W := ⟨_, rfl⟩
  rw [hWT] at HBX ⊢
  clear hWT HB0
  go_loopw [3, 11] (fun s3 s4 wr => ∃ i : Nat, s3 = .int .i64 (clashN (C.take i)) ∧ s4 = .int .i64 i ∧ i ≤ C.length ∧ Below (w.heap.size + 1) WT wr) (fun _ s _ => C.length - (intOf s).toNat)
  case atStart => exact ⟨0, rfl, rfl, Nat.zero_le _, Below.refl _ _⟩
  case round =>
    obtain ⟨i, rfl, rfl, hi, hB⟩ := hrel
    have HB : Hid (Below (w.heap.size + 1) WT wr) := hB
    obtain ⟨b0, hBw, hsz⟩ := HBX.out wr hB
    by_cases hlt : i < C.length
    · have hCl : clashN (C.take i) ≤ i * 1000 := by
        have := clashN_le (C := C.take i) (m := 1000) fun j hj => by
          have hj' : j < i := by simp at hj; omega
          have e : (C.take i).getD j [] = C.getD j [] := by simp [List.getD, hj']
          rw [e]; exact HR.out j (by omega)
        simp only [List.length_take] at this
        rw [Nat.min_eq_left hi] at this
        exact this
      obtain ⟨Xr, hXr⟩ : ∃ x, C.getD i [] = x := ⟨_, rfl⟩
      have HXr : Hid (C.getD i [] = Xr) := hXr
      have hXl : Xr.length ≤ 1000 := by rw [← hXr]; exact HR.out i hlt
      obtain ⟨b, o, c, rv, hv, d0, hcs⟩ := (HH.out.below hBw).2 i hlt
      cases hv
      rw [hXr] at hcs
      obtain ⟨xa, xc, hrv⟩ := hcs.1
      subst hrv
      have i0 : (0 : Int) ≤ (i : Int) := Int.natCast_nonneg _
      have i1 : (i : Int) < (C.length : Int) := by omega
      have HCS : Hid (∀ wq, Below wr.heap.size wr wq → CellsAt wq (.slice xa Xr.length xc) Xr) := fun wq hb => hcs.below hb
      clear hB hBw hXr hcs
      go_wp2_with fail
      clear b0 d0
      obtain ⟨wi, hwi⟩ : ∃ x, wr = x := ⟨_, rfl⟩
      have HB' : Hid (Below (w.heap.size + 1) WT wi) := by rw [← hwi]; exact HB.out
      have hsz' : w.heap.size + 1 ≤ wi.heap.size := by rw [← hwi]; exact hsz
      rw [hwi] at HCS
      go_loopw [3, 17] (fun s3 s5 wq => ∃ k : Nat, s3 = .int .i64 ((clashN (C.take i) + clashR (Xr.take k) : Nat) : Int) ∧ s5 = .int .i64 k ∧ k ≤ Xr.length ∧ Below wi.heap.size wi wq) (fun _ s _ => Xr.length - (intOf s).toNat)
      case atStart => exact ⟨0, by simp [clashR], rfl, Nat.zero_le _, by subst hwi; exact Below.refl _ _⟩
      case round =>
        obtain ⟨k, rfl, rfl, hk, hB⟩ := hrel
        have HB2 : Hid (Below wi.heap.size wi wr) := hB
        have hcs := HCS.out wr hB
        have hcr := clashR_le (Xr.take k)
        simp only [List.length_take] at hcr
        obtain ⟨q, hq⟩ : ∃ q, clashN (C.take i) + clashR (Xr.take k) = q := ⟨_, rfl⟩
        have HQ : Hid (clashN (C.take i) + clashR (Xr.take k) = q) := hq
        have hqb : q ≤ 2000000 := by omega
        rw [hq]
        have hszi := hB.size
        clear hB hq
        by_cases hklt : k < Xr.length
        · obtain ⟨b', o', c', rl, hv', e0, e1, e2, e3⟩ := hcs.2 k hklt
          cases hv'
          have hstep := clashR_take hklt
          have hul := HU.out i k hlt (by rw [HXr.out]; exact hklt)
          rw [HXr.out] at hul
          obtain ⟨⟨sh, ru, en⟩, hce⟩ : ∃ x, Xr.getD k (0, [], false) = x := ⟨_, rfl⟩
          rw [hce] at e0 e2 e3 hstep hul
          simp only at e0 e2 e3 hul
          obtain ⟨ra, rc, hrl⟩ := e2.1
          subst hrl
          have k0 : (0 : Int) ≤ (k : Int) := Int.natCast_nonneg _
          have k1 : (k : Int) < (Xr.length : Int) := by omega
          have hsy := says_one (sh, ru, en)
          have say := tk_says (w := wr.alloc (.cells #[.int .i64 sh, .slice ra ru.length rc, .bool en] 65)) (sh := sh) (ra := ra) (rc := rc) (en := en) hul
          obtain ⟨m, hmm⟩ : ∃ m, saysN (sh, ru, en) = m := ⟨_, rfl⟩
          have hmm' : ru.length + (if 0 ≤ sh then 1 else 0) + (if en then 1 else 0) = m := hmm
          rw [hmm'] at say
          rw [hmm] at hsy
          obtain ⟨z, hz⟩ : ∃ z, oneB (sh, ru, en) = z := ⟨_, rfl⟩
          rw [hz] at hstep hsy
          have HSt : Hid (clashR (Xr.take (k + 1)) = clashR (Xr.take k) + (if z then 0 else 1)) := hstep
          have hd : decide ((1 : Int) < (m : Int)) = !z := by rw [← hsy, Bool.eq_iff_iff, decide_eq_true_eq, decide_eq_true_eq]; omega
          have HA : Hid (Below wi.heap.size wi (wr.alloc (.cells #[.int .i64 sh, .slice ra ru.length rc, .bool en] 65))) := HB2.out.alloc hszi _
          clear hcs hstep hce e2 hz hsy hmm hmm'
          cases z with
          | true =>
            simp only [Bool.not_true] at hd
            simp only [if_true, Nat.add_zero] at HSt
            go_wp2_with (go_at_call 35; refine say.mono ?_; rintro e w5 ⟨rfl, hB5⟩
                         have HB5 : Hid (Below wi.heap.size wi w5) := HA.out.trans (hB5.mono (by simp; omega))
                         clear hB5)
            go_roundw
            case rel => exact ⟨k + 1, by rw [HSt.out, ← HQ.out] <;> first | rfl | go_num, by go_num, by omega, HB5.out⟩
            case measure => simp [intOf]; omega
          | false =>
            simp only [Bool.not_false] at hd
            simp only [Bool.false_eq_true, if_false] at HSt
            go_wp2_with (go_at_call 35; refine say.mono ?_; rintro e w5 ⟨rfl, hB5⟩
                         have HB5 : Hid (Below wi.heap.size wi w5) := HA.out.trans (hB5.mono (by simp; omega))
                         clear hB5)
            go_roundw
            case rel => exact ⟨k + 1, by rw [HSt.out, ← HQ.out] <;> first | rfl | go_num, by go_num, by omega, HB5.out⟩
            case measure => simp [intOf]; omega
        · have HE : Hid (clashN (C.take (i + 1)) = q) := by
            show clashN (C.take (i + 1)) = q
            rw [clashN_take hlt, HXr.out, ← HQ.out, List.take_of_length_le (by omega : Xr.length ≤ k)]
          have HB9 : Hid (Below (w.heap.size + 1) WT wr) := HB'.out.trans (HB2.out.mono hsz')
          clear hcs
          go_wp2_with fail
          go_roundw
          case rel => exact ⟨i + 1, by rw [HE.out], by go_num, by omega, HB9.out⟩
          case measure => simp [intOf]; omega
    · obtain rfl : i = C.length := by omega
      have HBw : Hid (Below w.heap.size w wr) := hBw
      rw [List.take_length]
      clear hB hBw
      go_wp2_with fail
      go_ret
      exact ⟨rfl, HBw.out⟩

end Go.Proofs.Ytobegekmgoiopaa

/- Plain: what a name derives, as lists of tokens; what derivations yield is derived; how parts of tokens are put together. No program. -/
namespace Go.Proofs.Ytobegekmgoiopaa

/-- Symbols become tokens, where names become what A says. -/
def SeqD (A : Int → List Int → Prop) : List Sy → List Int → Prop
  | [], Z => Z = []
  | (true, v) :: l, Z => ∃ Z', Z = v :: Z' ∧ SeqD A l Z'
  | (false, n) :: l, Z => ∃ Z1 Z2, Z = Z1 ++ Z2 ∧ A n Z1 ∧ SeqD A l Z2
def DerF (R : List Ru) (A : Int → List Int → Prop) (n : Int) (Z : List Int) : Prop := ∃ r ∈ R, r.1 = n ∧ SeqD A r.2 Z
def DerL (R : List Ru) : Nat → Int → List Int → Prop
  | 0, _, _ => False
  | k + 1, n, Z => DerF R (DerL R k) n Z
/-- There is a derivation of the name n, however long, that yields Z. -/
def Der (R : List Ru) (n : Int) (Z : List Int) : Prop := ∃ k, DerL R k n Z

theorem SeqD.mono {A B : Int → List Int → Prop} (h : ∀ n Z, A n Z → B n Z) : ∀ {l : List Sy} {Z : List Int}, SeqD A l Z → SeqD B l Z := by
  intro l
  induction l with
  | nil => intro Z hZ; exact hZ
  | cons s l ih =>
    intro Z hZ
    obtain ⟨b, n⟩ := s
    cases b with
    | true => obtain ⟨Z', h1, h2⟩ := hZ; exact ⟨Z', h1, ih h2⟩
    | false => obtain ⟨Z1, Z2, h1, h2, h3⟩ := hZ; exact ⟨Z1, Z2, h1, h _ _ h2, ih h3⟩

theorem DerF.mono {R : List Ru} {A B : Int → List Int → Prop} (h : ∀ n Z, A n Z → B n Z) {n : Int} {Z : List Int} (hZ : DerF R A n Z) : DerF R B n Z := by
  obtain ⟨r, h1, h2, h3⟩ := hZ
  exact ⟨r, h1, h2, h3.mono h⟩

theorem DerL_succ {R : List Ru} : ∀ k n Z, DerL R k n Z → DerL R (k + 1) n Z := by
  intro k
  induction k with
  | zero => intro n Z h; exact h.elim
  | succ k ih => intro n Z h; exact DerF.mono ih h
theorem DerL_le {R : List Ru} {k m : Nat} (h : k ≤ m) : ∀ n Z, DerL R k n Z → DerL R m n Z := by
  induction h with
  | refl => intro n Z h; exact h
  | step _ ih => intro n Z h; exact DerL_succ _ _ _ (ih n Z h)

theorem SeqD_level {R : List Ru} : ∀ {l : List Sy} {Z : List Int}, SeqD (Der R) l Z → ∃ k, SeqD (DerL R k) l Z := by
  intro l
  induction l with
  | nil => intro Z h; exact ⟨0, h⟩
  | cons s l ih =>
    intro Z h
    obtain ⟨b, n⟩ := s
    cases b with
    | true =>
      obtain ⟨Z', h1, h2⟩ := h
      obtain ⟨k, hk⟩ := ih h2
      exact ⟨k, Z', h1, hk⟩
    | false =>
      obtain ⟨Z1, Z2, h1, ⟨m, h2⟩, h3⟩ := h
      obtain ⟨k, hk⟩ := ih h3
      exact ⟨max m k, Z1, Z2, h1, DerL_le (Nat.le_max_left _ _) _ _ h2, hk.mono (DerL_le (Nat.le_max_right _ _))⟩

theorem Der_step {R : List Ru} {r : Ru} (hr : r ∈ R) {Z : List Int} (h : SeqD (Der R) r.2 Z) : Der R r.1 Z := by
  obtain ⟨k, hk⟩ := SeqD_level h
  exact ⟨k + 1, r, hr, rfl, hk⟩

/-! ### What a derivation yields is derived -/

section
variable {R : List Ru}

end

/-! ### Parts of the tokens -/

/-- The tokens from i to below j. -/
def part (tok : List Int) (i j : Nat) : List Int := (tok.drop i).take (j - i)

theorem part_self (tok : List Int) (i : Nat) : part tok i i = [] := by simp [part]
theorem part_all (tok : List Int) : part tok 0 tok.length = tok := by simp [part]
theorem part_len {tok : List Int} {i j : Nat} (h : i ≤ j) (hj : j ≤ tok.length) : (part tok i j).length = j - i := by
  simp [part]
  omega
theorem part_cons {tok : List Int} {i j : Nat} (h : i < j) (hj : j ≤ tok.length) : part tok i j = tok.getD i 0 :: part tok (i + 1) j := by
  have hi : i < tok.length := by omega
  unfold part
  rw [List.drop_eq_getElem_cons hi, show j - i = (j - (i + 1)) + 1 by omega, List.take_succ_cons]
  simp [List.getD, hi]
theorem part_append {tok : List Int} {i m j : Nat} (h1 : i ≤ m) (h2 : m ≤ j) : part tok i j = part tok i m ++ part tok m j := by
  unfold part
  have e : tok.drop m = (tok.drop i).drop (m - i) := by rw [List.drop_drop]; congr 1; omega
  rw [e, show j - i = (m - i) + (j - m) by omega, List.take_add]
/-- A part's beginning is a part. -/
theorem part_split {tok Z1 Z2 : List Int} {i j : Nat} (h : i ≤ j) (hj : j ≤ tok.length) (e : part tok i j = Z1 ++ Z2) : i + Z1.length ≤ j ∧ Z1 = part tok i (i + Z1.length) ∧ Z2 = part tok (i + Z1.length) j := by
  have hl := part_len h hj
  have hl2 : Z1.length + Z2.length = j - i := by rw [← hl, e]; simp
  have hle : i + Z1.length ≤ j := by omega
  have e2 := part_append (tok := tok) (i := i) (m := i + Z1.length) (j := j) (by omega) hle
  rw [e] at e2
  have hl3 : (part tok i (i + Z1.length)).length = Z1.length := by rw [part_len (by omega) (by omega)]; omega
  obtain ⟨a, b⟩ := List.append_inj e2 hl3.symm
  exact ⟨hle, a, b⟩

/-- A symbol leads from i to m, by what is known of names. -/
def Mv (K : Nat → Nat → Nat → Bool) (tok : List Int) (upto : Nat) (s : Sy) (i m : Nat) : Prop :=
  (s.1 = true ∧ i < upto ∧ m = i + 1 ∧ tok.getD i 0 = s.2) ∨ (s.1 = false ∧ i ≤ m ∧ m ≤ upto ∧ K i m s.2.toNat = true)
def Rch (K : Nat → Nat → Nat → Bool) (tok : List Int) (upto : Nat) : List Sy → Nat → Nat → Prop
  | [], i, x => i = x
  | s :: l, i, x => ∃ m, Mv K tok upto s i m ∧ Rch K tok upto l m x

section
variable {K : Nat → Nat → Nat → Bool} {tok : List Int} {upto : Nat}

theorem Mv.le {s : Sy} {i m : Nat} (h : Mv K tok upto s i m) : i ≤ m ∧ m ≤ upto := by
  rcases h with ⟨_, h1, h2, _⟩ | ⟨_, h1, h2, _⟩ <;> omega
theorem Rch.le {l : List Sy} {i x : Nat} (h : Rch K tok upto l i x) (hi : i ≤ upto) : i ≤ x ∧ x ≤ upto := by
  induction l generalizing i with
  | nil => have : i = x := h; omega
  | cons s l ih =>
    obtain ⟨m, h1, h2⟩ := h
    have := h1.le
    have := ih h2 this.2
    omega

end

end Go.Proofs.Ytobegekmgoiopaa

/- Plain: derivations as lists of rules' numbers, with what they yield: just the lists that the reader of package gram takes. No program. -/
namespace Go.Proofs.Ytobegekmgoiopaa

/-- Symbols become tokens, by lists of rules' numbers, where names do so as A says. -/
def SeqDD (A : Int → List Int → List Int → Prop) : List Sy → List Int → List Int → Prop
  | [], d, Z => d = [] ∧ Z = []
  | (true, v) :: l, d, Z => ∃ Z', Z = v :: Z' ∧ SeqDD A l d Z'
  | (false, n) :: l, d, Z => ∃ d1 d2 Z1 Z2, d = d1 ++ d2 ∧ Z = Z1 ++ Z2 ∧ A n d1 Z1 ∧ SeqDD A l d2 Z2
def DerDL (R : List Ru) : Nat → Int → List Int → List Int → Prop
  | 0, _, _, _ => False
  | k + 1, n, d, Z => ∃ q : Nat, q < R.length ∧ (R.getD q (0, [])).1 = n ∧ ∃ d', d = (q : Int) :: d' ∧ SeqDD (DerDL R k) (R.getD q (0, [])).2 d' Z
/-- d is a derivation of the name n (however long), and yields Z. -/
def DerD (R : List Ru) (n : Int) (d Z : List Int) : Prop := ∃ k, DerDL R k n d Z

theorem SeqDD.mono {A B : Int → List Int → List Int → Prop} (h : ∀ n d Z, A n d Z → B n d Z) : ∀ {l : List Sy} {d Z : List Int}, SeqDD A l d Z → SeqDD B l d Z := by
  intro l
  induction l with
  | nil => intro d Z hZ; exact hZ
  | cons s l ih =>
    intro d Z hZ
    obtain ⟨b, n⟩ := s
    cases b with
    | true => obtain ⟨Z', h1, h2⟩ := hZ; exact ⟨Z', h1, ih h2⟩
    | false => obtain ⟨d1, d2, Z1, Z2, h1, h2, h3, h4⟩ := hZ; exact ⟨d1, d2, Z1, Z2, h1, h2, h _ _ _ h3, ih h4⟩

theorem DerDL_succ {R : List Ru} : ∀ k n d Z, DerDL R k n d Z → DerDL R (k + 1) n d Z := by
  intro k
  induction k with
  | zero => intro n d Z h; exact h.elim
  | succ k ih =>
    rintro n d Z ⟨q, h1, h2, d', h3, h4⟩
    exact ⟨q, h1, h2, d', h3, h4.mono ih⟩
theorem DerDL_le {R : List Ru} {k m : Nat} (h : k ≤ m) : ∀ n d Z, DerDL R k n d Z → DerDL R m n d Z := by
  induction h with
  | refl => intro n d Z h; exact h
  | step _ ih => intro n d Z h; exact DerDL_succ _ _ _ _ (ih n d Z h)

theorem SeqDD_level {R : List Ru} : ∀ {l : List Sy} {d Z : List Int}, SeqDD (DerD R) l d Z → ∃ k, SeqDD (DerDL R k) l d Z := by
  intro l
  induction l with
  | nil => intro d Z h; exact ⟨0, h⟩
  | cons s l ih =>
    intro d Z h
    obtain ⟨b, n⟩ := s
    cases b with
    | true =>
      obtain ⟨Z', h1, h2⟩ := h
      obtain ⟨k, hk⟩ := ih h2
      exact ⟨k, Z', h1, hk⟩
    | false =>
      obtain ⟨d1, d2, Z1, Z2, h1, h2, ⟨m, h3⟩, h4⟩ := h
      obtain ⟨k, hk⟩ := ih h4
      exact ⟨max m k, d1, d2, Z1, Z2, h1, h2, DerDL_le (Nat.le_max_left _ _) _ _ _ h3, hk.mono (DerDL_le (Nat.le_max_right _ _))⟩

theorem DerD_step {R : List Ru} {q : Nat} (hq : q < R.length) {d Z : List Int} (h : SeqDD (DerD R) (R.getD q (0, [])).2 d Z) : DerD R (R.getD q (0, [])).1 ((q : Int) :: d) Z := by
  obtain ⟨k, hk⟩ := SeqDD_level h
  exact ⟨k + 1, q, hq, rfl, d, rfl, hk⟩

theorem SeqDD_append {A : Int → List Int → List Int → Prop} : ∀ {l m : List Sy} {d d' Z Z' : List Int}, SeqDD A l d Z → SeqDD A m d' Z' → SeqDD A (l ++ m) (d ++ d') (Z ++ Z') := by
  intro l
  induction l with
  | nil => rintro m d d' Z Z' ⟨rfl, rfl⟩ h'; exact h'
  | cons s l ih =>
    intro m d d' Z Z' h h'
    obtain ⟨b, n⟩ := s
    cases b with
    | true => obtain ⟨Y, rfl, h2⟩ := h; exact ⟨Y ++ Z', rfl, ih h2 h'⟩
    | false =>
      obtain ⟨d1, d2, Z1, Z2, rfl, rfl, h3, h4⟩ := h
      exact ⟨d1, d2 ++ d', Z1, Z2 ++ Z', by rw [List.append_assoc], by rw [List.append_assoc], h3, ih h4 h'⟩

/-! ### A list with a yield is a yield -/

theorem derD_der {R : List Ru} : ∀ k n d Z, DerDL R k n d Z → DerL R k n Z := by
  intro k
  induction k with
  | zero => intro n d Z h; exact h.elim
  | succ k ih =>
    rintro n d Z ⟨q, hq, hL, d', _, hs⟩
    refine ⟨R.getD q (0, []), by simp [List.getD, hq], hL, ?_⟩
    have main : ∀ (l : List Sy) (d Z : List Int), SeqDD (DerDL R k) l d Z → SeqD (DerL R k) l Z := by
      intro l
      induction l with
      | nil => rintro d Z ⟨_, h⟩; exact h
      | cons s l ihl =>
        intro d Z h
        obtain ⟨b, v⟩ := s
        cases b with
        | true => obtain ⟨Z', h1, h2⟩ := h; exact ⟨Z', h1, ihl _ _ h2⟩
        | false => obtain ⟨d1, d2, Z1, Z2, _, h2, h3, h4⟩ := h; exact ⟨Z1, Z2, h2, ih _ _ _ h3, ihl _ _ h4⟩
    exact main _ _ _ hs
theorem der_derD {R : List Ru} : ∀ k n Z, DerL R k n Z → ∃ d, DerDL R k n d Z := by
  intro k
  induction k with
  | zero => intro n Z h; exact h.elim
  | succ k ih =>
    rintro n Z ⟨r, hr, hL, hs⟩
    have main : ∀ (l : List Sy) (Z : List Int), SeqD (DerL R k) l Z → ∃ d, SeqDD (DerDL R k) l d Z := by
      intro l
      induction l with
      | nil => intro Z h; exact ⟨[], rfl, h⟩
      | cons s l ihl =>
        intro Z h
        obtain ⟨b, v⟩ := s
        cases b with
        | true => obtain ⟨Z', h1, h2⟩ := h; obtain ⟨d, hd⟩ := ihl _ h2; exact ⟨d, Z', h1, hd⟩
        | false =>
          obtain ⟨Z1, Z2, h1, h2, h3⟩ := h
          obtain ⟨d1, hd1⟩ := ih _ _ h2
          obtain ⟨d2, hd2⟩ := ihl _ h3
          exact ⟨d1 ++ d2, d1, d2, Z1, Z2, rfl, h1, hd1, hd2⟩
    obtain ⟨q, hq, hqe⟩ := List.getElem_of_mem hr
    have hg : R.getD q (0, []) = r := by simp [List.getD, hq, hqe]
    obtain ⟨d, hd⟩ := main _ _ hs
    exact ⟨(q : Int) :: d, q, hq, by rw [hg]; exact hL, d, rfl, by rw [hg]; exact hd⟩
theorem Der_iff {R : List Ru} {n : Int} {Z : List Int} : Der R n Z ↔ ∃ d, DerD R n d Z :=
  ⟨fun ⟨k, h⟩ => by obtain ⟨d, hd⟩ := der_derD k n Z h; exact ⟨d, k, hd⟩, fun ⟨d, k, h⟩ => ⟨k, derD_der k n d Z h⟩⟩

/-! ### What the reader takes -/

section
variable {R : List Ru} {D : List Int}

theorem syms_takes {f : Int → St → Option St} {A : Int → List Int → List Int → Prop} {m : Nat} (hF : ∀ n d Z, A n d Z → d.length ≤ m → ∀ st E, D.drop st.pos = d ++ E → ∃ st', f n st = some st' ∧ st'.pos = st.pos + d.length ∧ st'.Y = st.Y ++ Z) :
    ∀ (l : List Sy) (d Z : List Int), SeqDD A l d Z → d.length ≤ m → ∀ st E, D.drop st.pos = d ++ E → ∃ st', symsF f l st = some st' ∧ st'.pos = st.pos + d.length ∧ st'.Y = st.Y ++ Z := by
  intro l
  induction l with
  | nil =>
    rintro d Z ⟨rfl, rfl⟩ _ st E _
    exact ⟨st, rfl, by simp, by simp⟩
  | cons s l ih =>
    intro d Z h hm st E he
    obtain ⟨b, v⟩ := s
    cases b with
    | true =>
      obtain ⟨Z', rfl, h2⟩ := h
      obtain ⟨st', a1, a2, a3⟩ := ih d Z' h2 hm { st with Y := st.Y ++ [v] } E he
      exact ⟨st', a1, a2, by rw [a3]; simp⟩
    | false =>
      obtain ⟨d1, d2, Z1, Z2, rfl, rfl, h3, h4⟩ := h
      simp only [List.length_append] at hm
      obtain ⟨st1, a1, a2, a3⟩ := hF v d1 Z1 h3 (by omega) st (d2 ++ E) (by rw [he, List.append_assoc])
      have he1 : D.drop st1.pos = d2 ++ E := by
        rw [a2, ← List.drop_drop, he, List.append_assoc]
        simp
      obtain ⟨st', b1, b2, b3⟩ := ih d2 Z2 h4 (by omega) st1 E he1
      refine ⟨st', ?_, by rw [b2, a2]; simp; omega, by rw [b3, a3, List.append_assoc]⟩
      simp only [symsF, a1]
      exact b1

theorem name_takes : ∀ (k : Nat) (n : Int) (d Z : List Int), DerDL R k n d Z → ∀ m, d.length ≤ m → ∀ st E, D.drop st.pos = d ++ E → ∃ st', nameF R D m n st = some st' ∧ st'.pos = st.pos + d.length ∧ st'.Y = st.Y ++ Z := by
  intro k
  induction k with
  | zero => intro n d Z h; exact h.elim
  | succ k ih =>
    rintro n d Z ⟨q, hq, hL, d', rfl, hs⟩ m hm st E he
    simp only [List.length_cons] at hm
    obtain ⟨m, rfl⟩ : ∃ j, m = j + 1 := ⟨m - 1, by omega⟩
    have hlt : st.pos < D.length := by
      rcases Nat.lt_or_ge st.pos D.length with h | h
      · exact h
      · rw [List.drop_eq_nil_of_le h] at he; cases he
    rw [List.drop_eq_getElem_cons hlt] at he
    simp only [List.cons_append, List.cons.injEq] at he
    have hn : nextF R D n st.pos = some q := by
      unfold nextF
      rw [List.getElem?_eq_getElem hlt, he.1]
      simp only
      rw [if_pos ⟨by omega, by omega⟩]
      simp only [Int.toNat_natCast]
      rw [if_pos hL]
    obtain ⟨st', a1, a2, a3⟩ := syms_takes (f := nameF R D m) (A := DerDL R k) (m := m) (fun n d Z h hd st E he => ih n d Z h m hd st E he) _ d' Z hs (by omega) { pos := st.pos + 1, Y := st.Y, S := st.S ++ [((q : Int), st.Y.length, 0)] } E he.2
    refine ⟨{ st' with S := st'.S.set st.S.length ((q : Int), st.Y.length, st'.Y.length) }, ?_, by simp only [List.length_cons]; rw [a2]; simp only; omega, a3⟩
    rw [nameF]
    simp only [hn, a1]

/-- A derivation that is not too long is taken, and yields just so. -/
theorem derD_read {Z : List Int} (h : DerD R 0 D Z) (hl : D.length ≤ 400) : ∃ st, readF R D = some st ∧ st.Y = Z := by
  obtain ⟨k, hk⟩ := h
  obtain ⟨st', a1, a2, a3⟩ := name_takes (D := D) k 0 D Z hk D.length (Nat.le_refl _) { pos := 0, Y := [], S := [] } [] (by simp)
  refine ⟨st', ?_, by simpa using a3⟩
  unfold readF
  rw [if_neg (by omega)]
  simp only [a1]
  rw [if_neg (by simp only at a2; omega)]
end

end Go.Proofs.Ytobegekmgoiopaa

/- Plain: what a derivation yields is foreseen: nothing, where its name is Null; else its first token is in First of its name. -/
namespace Go.Proofs.Ytobegekmgoiopaa

section
variable {T N : Nat} {R : List Ru} (hf : Fine T N R)
include hf

/-- What has been yielded since: nothing, and all names are Null; or the first of it is one with which the symbols may begin. -/
def Foreseen (N : Nat) (R : List Ru) (Z : List Int) (l : List Sy) : Prop := (Z = [] → AllN (NullP N R) l) ∧ ∀ t z, Z = t :: z → Beg (NullP N R) (FirstP N R t) t l

omit hf in
theorem Beg.cons {Nu A : Int → Prop} {t : Int} {s : Sy} {l : List Sy} (h1 : s.1 = false) (h2 : Nu s.2) (h : Beg Nu A t l) : Beg Nu A t (s :: l) := by
  obtain ⟨i, x, a1, a2, a3⟩ := h
  refine ⟨i + 1, x, by simpa using a1, a2, fun y hy => ?_⟩
  simp only [List.take_succ_cons, List.mem_cons] at hy
  rcases hy with rfl | hy
  · exact ⟨h1, h2⟩
  · exact a3 y hy

end

end Go.Proofs.Ytobegekmgoiopaa
