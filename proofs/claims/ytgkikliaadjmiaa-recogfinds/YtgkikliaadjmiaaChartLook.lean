/- The contract of recog's look. -/
import Derived.Test.YtgkikliaadjmiaaChartWait
import Derived.BigQuiet
namespace Go.Proofs.Ytgkikliaadjmiaa
open Go.RowKit

/-- What a look may be asked of. -/
structure Fits (R : List Ru) (tok : List Int) (it : Itm) : Prop where
  rule : it.rule < R.length
  read : it.read ≤ (R.getD it.rule (0, [])).2.length
  fr : it.fr ≤ 30
  upto : it.upto ≤ 30
  R40 : R.length ≤ 40
  r8 : (R.getD it.rule (0, [])).2.length ≤ 8
  l0 : 0 ≤ (R.getD it.rule (0, [])).1
  l1 : (R.getD it.rule (0, [])).1 ≤ 1000
  s0 : ∀ s ∈ (R.getD it.rule (0, [])).2, 0 ≤ s.2 ∧ s.2 ≤ 1000
  tok : tok.length ≤ 30

set_option maxRecDepth 100000 in
set_option maxHeartbeats 6400000 in
theorem look_any {w : World} {B nm : Nat} {d : Ad} {v : CM} {st : ChS} {R : List Ru} {tok : List Int} (h : ChM w B d v st nm) (hr : RulesAt w B d.rv R) (ht : ListAt w B d.tv tok) {a b c e : Nat} (hF : Fits R tok ⟨a, b, c, e⟩) (hn : nm + 1 ≤ 1000000)
    (hI : st.I.length ≤ 345960) (hO : st.O.length ≤ 345960) (hWl : ∀ s, (st.W s).length ≤ 345960) (hEl : ∀ s, (st.E s).length ≤ 345960) (hWs : ∀ s, ∀ it ∈ st.W s, Small (adv it e)) (hEs : ∀ s, ∀ j ∈ st.E s, Small (adv ⟨a, b, c, e⟩ j)) :
    Calls Try.prog 13 #[.pointer (some ⟨d.ca, 0, none⟩), .agg #[.int .i64 a, .int .i64 b, .int .i64 c, .int .i64 e]] w fun r w' => r = .returned (.tuple #[]) ∧ ∃ v', ChM w' B d v' (chLookF R tok ⟨a, b, c, e⟩ st) (nm + 1) ∧ Goes d v v' w w' := by
  obtain ⟨f1, f2, f3, f4, f5, f6, f7, f8, f9, f10⟩ := hF
  simp only at f1 f2 f3 f4 f5 f6 f7 f8 f9 f10
  obtain ⟨ra, rc, hrv⟩ := hr.1
  obtain ⟨rb, ro, rc', qa, qc, hv, hrb, k1, k2, hqc, k3⟩ := hr.2 a f1
  have hB : B ≤ w.heap.size := by have := h.ge.1; have := h.mapI.lt; omega
  obtain ⟨⟨L, Rt⟩, hre⟩ : ∃ x, R.getD a (0, []) = x := ⟨_, rfl⟩
  rw [hre] at k1 k2 k3 f2 f6 f7 f8 f9 hqc
  simp only at k1 k2 k3 f2 f6 f7 f8 f9 hqc
  have hRlen : R.length = R.length := rfl
  -- the worlds
  have hb1 : Below w.heap.size w (w.alloc (.cells #[.int .i64 a, .int .i64 b, .int .i64 c, .int .i64 e] 58)) := (Below.refl _ _).alloc (Nat.le_refl _) _
  have j1 := h.alloc (.cells #[.int .i64 a, .int .i64 b, .int .i64 c, .int .i64 e] 58)
  have j2 := j1.alloc (.cells #[.int .i64 0, .slice none 0 0] 31)
  have c2 := (j1.cell (i := 2) rfl (by omega)).1
  have d2 := (j2.cell (i := 2) rfl (by omega)).1
  rw [hv] at c2 d2
  have past : ∀ (o o' : Obj) (x y : Nat), x < B → ((w.alloc o).alloc o').cell? ⟨x, y, none⟩ = w.cell? ⟨x, y, none⟩ ∧ (w.alloc o).cell? ⟨x, y, none⟩ = w.cell? ⟨x, y, none⟩ := fun o o' x y hx =>
    ⟨(World.cell?_alloc_past _ _ _ (by simp; omega)).trans (World.cell?_alloc_past _ _ _ (by omega)), World.cell?_alloc_past _ _ _ (by omega)⟩
  have x1 := ((past (.cells #[.int .i64 a, .int .i64 b, .int .i64 c, .int .i64 e] 58) (.cells #[.int .i64 0, .slice none 0 0] 31) rb (ro + a * 2) hrb).2).trans k1
  have y1 := ((past (.cells #[.int .i64 a, .int .i64 b, .int .i64 c, .int .i64 e] 58) (.cells #[.int .i64 0, .slice none 0 0] 31) rb (ro + a * 2) hrb).1).trans k1
  have k2' : w.cell? ⟨rb, ro + a * 2 + 1, none⟩ = some (.slice qa Rt.length qc) := by rw [Nat.add_assoc]; exact k2
  have x2 := ((past (.cells #[.int .i64 a, .int .i64 b, .int .i64 c, .int .i64 e] 58) (.cells #[.int .i64 0, .slice none 0 0] 31) rb (ro + a * 2 + 1) hrb).2).trans k2'
  have y2 := ((past (.cells #[.int .i64 a, .int .i64 b, .int .i64 c, .int .i64 e] 58) (.cells #[.int .i64 0, .slice none 0 0] 31) rb (ro + a * 2 + 1) hrb).1).trans k2'
  have i0 : (0 : Int) ≤ (a : Int) := Int.natCast_nonneg _
  have i1 : (a : Int) < (R.length : Int) := by omega
  obtain ⟨rl, hrl⟩ : ∃ rl, R.length = rl := ⟨_, rfl⟩
  obtain ⟨m, hm⟩ : ∃ m, Rt.length = m := ⟨_, rfl⟩
  have H : Hid (ChM w B d v st nm) := h
  have HR : Hid (RulesAt w B d.rv R) := hr
  have HT : Hid (ListAt w B d.tv tok) := ht
  have HRe : Hid (R.getD a (0, []) = (L, Rt)) := hre
  have HM : Hid (Rt.length = m) := hm
  have HRl : Hid (R.length = rl) := hrl
  rw [hrl] at c2 d2 i1
  rw [hm] at x2 y2 f2 f6
  clear h hr ht j1 j2 hv hre past k1 k2 k2' hrv hrl hm hRlen hb1
  -- the world behind the first statement
  have hj : ∃ W2, ((w.alloc (.cells #[.int .i64 a, .int .i64 b, .int .i64 c, .int .i64 e] 58)).alloc (.cells #[.int .i64 L, .slice qa m qc] 31)).drew = W2 := ⟨_, rfl⟩
  obtain ⟨W2, hW2⟩ := hj
  have hbW : Below w.heap.size w W2 := by rw [← hW2]; exact (((Below.refl _ _).alloc (Nat.le_refl _) _).alloc (by simp) _).drew
  have u0 : W2.cell? ⟨w.heap.size, 0, none⟩ = some (.int .i64 a) := by rw [← hW2]; simp [go_sem]
  have u1 : W2.cell? ⟨w.heap.size, 1, none⟩ = some (.int .i64 b) := by rw [← hW2]; simp [go_sem]
  have u2 : W2.cell? ⟨w.heap.size, 2, none⟩ = some (.int .i64 c) := by rw [← hW2]; simp [go_sem]
  have u3 : W2.cell? ⟨w.heap.size, 3, none⟩ = some (.int .i64 e) := by rw [← hW2]; simp [go_sem]
  have u4 : W2.cell? ⟨w.heap.size + 1, 0, none⟩ = some (.int .i64 L) := by rw [← hW2]; simp [go_sem]
  have u5 : W2.cell? ⟨w.heap.size + 1, 1, none⟩ = some (.slice qa m qc) := by rw [← hW2]; simp [go_sem]
  have HW2 : Hid (((w.alloc (.cells #[.int .i64 a, .int .i64 b, .int .i64 c, .int .i64 e] 58)).alloc (.cells #[.int .i64 L, .slice qa m qc] 31)).drew = W2) := hW2
  have hs2 : W2.heap.size = w.heap.size + 2 := by rw [← hW2]; simp
  clear hW2
  have HBW : Hid (Below w.heap.size w W2) := hbW
  have HK2 : Hid (ChM W2 B d v st nm) := H.out.below hbW
  have HLO : Hid (chLookF R tok ⟨a, b, c, e⟩ st = if b = m then endF (L, c) e st else if (Rt.getD b (false, 0)).1 = false then waitF R ((Rt.getD b (false, 0)).2, e) ⟨a, b, c, e⟩ st else if e < tok.length ∧ tok.getD e 0 = (Rt.getD b (false, 0)).2 then putF st (adv ⟨a, b, c, e⟩ (e + 1)) else st) := by
    show chLookF R tok ⟨a, b, c, e⟩ st = _
    unfold chLookF
    simp only [HRe.out, HM.out]
  clear hbW
  go_enter Try.func13, Try.ntmps13
  go_wp2_with fail
  go_cut [4] from 5 (fun s4 wx => s4 = .pointer (some ⟨w.heap.size + 1, 0, none⟩) ∧ wx = W2)
  case first =>
    go_region
    all_goals
      go_wp2_with fail
      go_meet
      case rel => exact ⟨by simp, HW2.out⟩
  case rest =>
    obtain ⟨rfl, hwc⟩ := hcut
    rw [hwc]
    clear hwc c2 d2 x1 x2 y1 y2 HW2
    by_cases hbm : b = m
    · subst hbm
      have en := end_any HK2.out (n := L) (p := c) (j := e) f7 f8 (by omega) hn (by have := hEl (L, c); omega) (hWs (L, c)) (by have := hWl (L, c); omega) (by have := hWl (L, c); omega)
      have HE : Hid (chLookF R tok ⟨a, b, c, e⟩ st = endF (L, c) e st) := by show chLookF R tok ⟨a, b, c, e⟩ st = _; rw [HLO.out, if_pos rfl]
      clear k3 HLO
      go_wp2_with (go_at_call 18; refine en.mono ?_; rintro r w1 ⟨rfl, v', h3, h4⟩)
      refine bodyPost_ret (v := .tuple #[]) (results_none Try.results13 _ _ _) rfl ?_
      exact ⟨rfl, v', by rw [HE.out]; exact h3, (Goes.ofBelow HBW.out).trans h4⟩
    · have hb : b < Rt.length := by rw [HM.out]; omega
      have hbm' : ((b : Int) == (m : Int)) = false := by simp; omega
      obtain ⟨sb, so, rfl, hsb, k4, k5⟩ := k3 b hb
      have hmem : Rt.getD b (false, 0) ∈ Rt := by simp [List.getD, hb]
      have hsy := f9 _ hmem
      obtain ⟨⟨t, s⟩, hsym⟩ : ∃ x, Rt.getD b (false, 0) = x := ⟨_, rfl⟩
      rw [hsym] at k4 k5 hsy
      simp only at k4 k5 hsy
      have v4 : W2.cell? ⟨sb, so + b * 2, none⟩ = some (.bool t) := (HBW.out.cell (by simp only; omega)).trans k4
      have v5 : W2.cell? ⟨sb, so + b * 2 + 1, none⟩ = some (.int .i64 s) := by rw [Nat.add_assoc]; exact (HBW.out.cell (by simp only; omega)).trans k5
      have b0 : (0 : Int) ≤ (b : Int) := Int.natCast_nonneg _
      have b1 : (b : Int) < (m : Int) := by omega
      have HE : Hid (chLookF R tok ⟨a, b, c, e⟩ st = if t = false then waitF R (s, e) ⟨a, b, c, e⟩ st else if e < tok.length ∧ tok.getD e 0 = s then putF st (adv ⟨a, b, c, e⟩ (e + 1)) else st) := by
        show chLookF R tok ⟨a, b, c, e⟩ st = _
        rw [HLO.out, if_neg hbm, hsym]
      have HB3 : Hid (Below w.heap.size w (W2.alloc (.cells #[.bool t, .int .i64 s] 38))) := HBW.out.alloc (by omega) _
      have pst : ∀ (x y : Nat), x < W2.heap.size → (W2.alloc (.cells #[.bool t, .int .i64 s] 38)).cell? ⟨x, y, none⟩ = W2.cell? ⟨x, y, none⟩ := fun x y hx => World.cell?_alloc_past _ _ _ hx
      have q0 := (pst w.heap.size 0 (by omega)).trans u0
      have q1 := (pst w.heap.size 1 (by omega)).trans u1
      have q2 := (pst w.heap.size 2 (by omega)).trans u2
      have q3 := (pst w.heap.size 3 (by omega)).trans u3
      have k6 := HK2.out.alloc (.cells #[.bool t, .int .i64 s] 38)
      have HK6 : Hid (ChM (W2.alloc (.cells #[.bool t, .int .i64 s] 38)) B d v st nm) := k6
      have hBw := H.out.goes_below (Goes.ofBelow (d := d) (v := v) HB3.out)
      clear k3 k4 k5 hmem hsym HLO pst f9
      cases t with
      | false =>
        have wt := wait_any k6 (HR.out.below hBw) (n := s) (p := e) (a := a) (b := b) (c := c) (e := e) hsy.1 hsy.2 (by omega) hn f5 (hEs (s, e)) (by have := hEl (s, e); omega) (by have := hEl (s, e); omega) (by have := hWl (s, e); omega)
        have HE2 : Hid (chLookF R tok ⟨a, b, c, e⟩ st = waitF R (s, e) ⟨a, b, c, e⟩ st) := by show chLookF R tok ⟨a, b, c, e⟩ st = _; rw [HE.out, if_pos rfl]
        clear k6 hBw HE
        go_wp2_with (go_at_call 19; refine wt.mono ?_; rintro r w1 ⟨rfl, v', h3, h4⟩)
        refine bodyPost_ret (v := .tuple #[]) (results_none Try.results13 _ _ _) rfl ?_
        exact ⟨rfl, v', by rw [HE2.out]; exact h3, (Goes.ofBelow HB3.out).trans h4⟩
      | true =>
        have c3 := (k6.cell (i := 3) rfl (by omega)).1
        obtain ⟨ta, tc, htv⟩ := HT.out.1
        rw [htv] at c3
        have HT3 : Hid (ListAt (W2.alloc (.cells #[.bool true, .int .i64 s] 38)) B (.slice ta tok.length tc) tok) := by rw [htv] at HT; exact HT.out.below hBw
        clear k6 hBw htv
        by_cases het : e < tok.length
        · obtain ⟨tb, to_, tc', hte, htb, x1⟩ := HT3.out.2 e het
          injection hte with h5 _ h6
          subst h5
          subst h6
          obtain ⟨x, hx⟩ : ∃ x, tok.getD e 0 = x := ⟨_, rfl⟩
          rw [hx] at x1 HE
          obtain ⟨tl, htl⟩ : ∃ tl, tok.length = tl := ⟨_, rfl⟩
          rw [htl] at c3 het
          have e0 : (0 : Int) ≤ (e : Int) := Int.natCast_nonneg _
          have e1 : (e : Int) < (tl : Int) := by omega
          have e2 : e < tok.length := by omega
          by_cases hxs : x = s
          · subst hxs
            have HE2 : Hid (chLookF R tok ⟨a, b, c, e⟩ st = putF st (adv ⟨a, b, c, e⟩ (e + 1))) := by show chLookF R tok ⟨a, b, c, e⟩ st = _; rw [HE.out, if_neg (by simp), if_pos ⟨e2, rfl⟩]
            have on : ∀ nq, Calls Try.prog 20 #[.pointer (some ⟨d.ca, 0, none⟩), .agg #[.int .i64 a, .int .i64 b, .int .i64 c, .int .i64 e], .int .i64 ((e : Int) + 1)] ((W2.alloc (.cells #[.bool true, .int .i64 x] 38)).drewN nq) fun r w' => r = .returned (.tuple #[]) ∧ ∃ ov', ChM w' B d { v with ov := ov' } (putF st (adv ⟨a, b, c, e⟩ (e + 1))) nm ∧ Goes d v { v with ov := ov' } ((W2.alloc (.cells #[.bool true, .int .i64 x] 38)).drewN nq) w' := fun nq =>
              readOn_any (HK6.out.below (below_drewN (Below.refl _ _) nq)) (a := a) (b := b) (c := c) (e := e) (j := e + 1) ⟨by simp [adv]; omega, by simp [adv]; omega, by simp [adv]; omega, by simp [adv]; omega⟩ (by omega) (by omega)
            clear hx HE HT3 htl e2
            go_wp2_with fail
            go_big_quiet (fail)
            go_wp2_with (go_at_call 20; refine (on _).mono ?_; rintro r w1 ⟨rfl, v', h3, h4⟩)
            go_end0
            exact ⟨rfl, _, by rw [HE2.out]; exact h3.mono (Nat.le_succ _), (Goes.ofBelow (below_drewN HB3.out _)).trans h4⟩
          · have hxs' : (x == s) = false := by simpa using hxs
            have HE2 : Hid (chLookF R tok ⟨a, b, c, e⟩ st = st) := by show chLookF R tok ⟨a, b, c, e⟩ st = _; rw [HE.out, if_neg (by simp), if_neg (fun h => hxs h.2)]
            clear hx HE HT3 htl e2
            go_wp2_with fail
            go_big_quiet (fail)
            go_wp2_with fail
            go_end0
            exact ⟨rfl, _, by rw [HE2.out]; exact (HK6.out.below (below_drewN (Below.refl _ _) _)).mono (Nat.le_succ _), Goes.ofBelow (below_drewN HB3.out _)⟩
        · have HE2 : Hid (chLookF R tok ⟨a, b, c, e⟩ st = st) := by show chLookF R tok ⟨a, b, c, e⟩ st = _; rw [HE.out, if_neg (by simp), if_neg (fun h => het h.1)]
          have e1 : decide ((e : Int) < (tok.length : Int)) = false := decide_eq_false (by omega)
          clear HE HT3
          go_wp2_with fail
          go_big_quiet (fail)
          go_wp2_with fail
          go_end0
          exact ⟨rfl, _, by rw [HE2.out]; exact (HK6.out.below (below_drewN (Below.refl _ _) _)).mono (Nat.le_succ _), Goes.ofBelow (below_drewN HB3.out _)⟩

end Go.Proofs.Ytgkikliaadjmiaa
