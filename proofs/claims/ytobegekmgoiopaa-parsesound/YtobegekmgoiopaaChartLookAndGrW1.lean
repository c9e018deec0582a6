import Derived.Test.YtobegekmgoiopaaChartInAndChartWait
import Derived.BigQuiet
import Derived.Deep.LoopGhost
import Derived.Carry
import Derived.Test.YtobegekmgoiopaaMayGAndSetsPut
import Derived.Test.YtobegekmgoiopaaLRRunAndPrFor
import Derived.Test.YtobegekmgoiopaaRows
import Derived.Test.YtobegekmgoiopaaMathAndBits
import Derived.WalkKit
import Derived.WalkSpells
import Derived.Deep.QuietTactic
/- The contract of recog's look. -/
namespace Go.Proofs.Ytobegekmgoiopaa
open Go.RowKit

/-- What a look may be asked of. -/
structure Fits (R : List Ru) (tok : List Int) (it : Itm) : Prop where
  rule : it.rule < R.length
  read : it.read ≤ (R.getD it.rule (0, [])).2.length
  fr : it.fr ≤ 30
  upto : it.upto ≤ 30
  R40 : R.length ≤ 40
  r8 : (R.getD it.rule (0, [])).2.length ≤ 8
  l0 : 0 ≤ (R.getD it.rule (0, [])).1
  l1 : (R.getD it.rule (0, [])).1 ≤ 1000
  s0 : ∀ s ∈ (R.getD it.rule (0, [])).2, 0 ≤ s.2 ∧ s.2 ≤ 1000
  tok : tok.length ≤ 30

set_option maxRecDepth 100000 in
set_option maxHeartbeats 6400000 in
theorem look_any {w : World} {B nm : Nat} {d : Ad} {v : CM} {st : ChS} {R : List Ru} {tok : List Int} (h : ChM w B d v st nm) (hr : RulesAt w B d.rv R) (ht : ListAt w B d.tv tok) {a b c e : Nat} (hF : Fits R tok ⟨a, b, c, e⟩) (hn : nm + 1 ≤ 1000000)
    (hI : st.I.length ≤ 345960) (hO : st.O.length ≤ 345960) (hWl : ∀ s, (st.W s).length ≤ 345960) (hEl : ∀ s, (st.E s).length ≤ 345960) (hWs : ∀ s, ∀ it ∈ st.W s, Small (adv it e)) (hEs : ∀ s, ∀ j ∈ st.E s, Small (adv ⟨a, b, c, e⟩ j)) :
    Calls Try.prog 25 #[.pointer (some ⟨d.ca, 0, none⟩), .agg #[.int .i64 a, .int .i64 b, .int .i64 c, .int .i64 e]] w fun r w' => r = .returned (.tuple #[]) ∧ ∃ v', ChM w' B d v' (chLookF R tok ⟨a, b, c, e⟩ st) (nm + 1) ∧ Goes d v v' w w' := by
  obtain ⟨f1, f2, f3, f4, f5, f6, f7, f8, f9, f10⟩ := hF
  simp only at f1 f2 f3 f4 f5 f6 f7 f8 f9 f10
  obtain ⟨ra, rc, hrv⟩ := hr.1
  obtain ⟨rb, ro, rc', qa, qc, hv, hrb, k1, k2, hqc, k3⟩ := hr.2 a f1
  have hB : B ≤ w.heap.size := by have := h.ge.1; have := h.mapI.lt; omega
  obtain ⟨⟨L, Rt⟩, hre⟩ : ∃ x, R.getD a (0, []) = x := ⟨_, rfl⟩
  rw [hre] at k1 k2 k3 f2 f6 f7 f8 f9 hqc
  simp only at k1 k2 k3 f2 f6 f7 f8 f9 hqc
  have hRlen : R.length = R.length := rfl
  -- the worlds
  have hb1 : Below w.heap.size w (w.alloc (.cells #[.int .i64 a, .int .i64 b, .int .i64 c, .int .i64 e] 80)) := (Below.refl _ _).alloc (Nat.le_refl _) _
  have j1 := h.alloc (.cells #[.int .i64 a, .int .i64 b, .int .i64 c, .int .i64 e] 80)
  have j2 := j1.alloc (.cells #[.int .i64 0, .slice none 0 0] 28)
  have c2 := (j1.cell (i := 2) rfl (by omega)).1
  have d2 := (j2.cell (i := 2) rfl (by omega)).1
  rw [hv] at c2 d2
  have past : ∀ (o o' : Obj) (x y : Nat), x < B → ((w.alloc o).alloc o').cell? ⟨x, y, none⟩ = w.cell? ⟨x, y, none⟩ ∧ (w.alloc o).cell? ⟨x, y, none⟩ = w.cell? ⟨x, y, none⟩ := fun o o' x y hx =>
    ⟨(World.cell?_alloc_past _ _ _ (by simp; omega)).trans (World.cell?_alloc_past _ _ _ (by omega)), World.cell?_alloc_past _ _ _ (by omega)⟩
  have x1 := ((past (.cells #[.int .i64 a, .int .i64 b, .int .i64 c, .int .i64 e] 80) (.cells #[.int .i64 0, .slice none 0 0] 28) rb (ro + a * 2) hrb).2).trans k1
  have y1 := ((past (.cells #[.int .i64 a, .int .i64 b, .int .i64 c, .int .i64 e] 80) (.cells #[.int .i64 0, .slice none 0 0] 28) rb (ro + a * 2) hrb).1).trans k1
  have k2' : w.cell? ⟨rb, ro + a * 2 + 1, none⟩ = some (.slice qa Rt.length qc) := by rw [Nat.add_assoc]; exact k2
  have x2 := ((past (.cells #[.int .i64 a, .int .i64 b, .int .i64 c, .int .i64 e] 80) (.cells #[.int .i64 0, .slice none 0 0] 28) rb (ro + a * 2 + 1) hrb).2).trans k2'
  have y2 := ((past (.cells #[.int .i64 a, .int .i64 b, .int .i64 c, .int .i64 e] 80) (.cells #[.int .i64 0, .slice none 0 0] 28) rb (ro + a * 2 + 1) hrb).1).trans k2'
  have i0 : (0 : Int) ≤ (a : Int) := Int.natCast_nonneg _
  have i1 : (a : Int) < (R.length : Int) := by omega
  obtain ⟨rl, hrl⟩ : ∃ rl, R.length = rl := ⟨_, rfl⟩
  obtain ⟨m, hm⟩ : ∃ m, Rt.length = m := ⟨_, rfl⟩
  have H : Hid (ChM w B d v st nm) := h
  have HR : Hid (RulesAt w B d.rv R) := hr
  have HT : Hid (ListAt w B d.tv tok) := ht
  have HRe : Hid (R.getD a (0, []) = (L, Rt)) := hre
  have HM : Hid (Rt.length = m) := hm
  have HRl : Hid (R.length = rl) := hrl
  rw [hrl] at c2 d2 i1
  rw [hm] at x2 y2 f2 f6
  clear h hr ht j1 j2 hv hre past k1 k2 k2' hrv hrl hm hRlen hb1
  -- the world behind the first statement
  have hj : ∃ W2, ((w.alloc (.cells #[.int .i64 a, .int .i64 b, .int .i64 c, .int .i64 e] 80)).alloc (.cells #[.int .i64 L, .slice qa m qc] 28)).drew = W2 := ⟨_, rfl⟩
  obtain ⟨W2, hW2⟩ := hj
  have hbW : Below w.heap.size w W2 := by rw [← hW2]; exact (((Below.refl _ _).alloc (Nat.le_refl _) _).alloc (by simp) _).drew
  have u0 : W2.cell? ⟨w.heap.size, 0, none⟩ = some (.int .i64 a) := by rw [← hW2]; simp [go_sem]
  have u1 : W2.cell? ⟨w.heap.size, 1, none⟩ = some (.int .i64 b) := by rw [← hW2]; simp [go_sem]
  have u2 : W2.cell? ⟨w.heap.size, 2, none⟩ = some (.int .i64 c) := by rw [← hW2]; simp [go_sem]
  have u3 : W2.cell? ⟨w.heap.size, 3, none⟩ = some (.int .i64 e) := by rw [← hW2]; simp [go_sem]
  have u4 : W2.cell? ⟨w.heap.size + 1, 0, none⟩ = some (.int .i64 L) := by rw [← hW2]; simp [go_sem]
  have u5 : W2.cell? ⟨w.heap.size + 1, 1, none⟩ = some (.slice qa m qc) := by rw [← hW2]; simp [go_sem]
  have HW2 : Hid (((w.alloc (.cells #[.int .i64 a, .int .i64 b, .int .i64 c, .int .i64 e] 80)).alloc (.cells #[.int .i64 L, .slice qa m qc] 28)).drew = W2) := hW2
  have hs2 : W2.heap.size = w.heap.size + 2 := by rw [← hW2]; simp
  clear hW2
  have HBW : Hid (Below w.heap.size w W2) := hbW
  have HK2 : Hid (ChM W2 B d v st nm) := H.out.below hbW
  have HLO : Hid (chLookF R tok ⟨a, b, c, e⟩ st = if b = m then endF (L, c) e st else if (Rt.getD b (false, 0)).1 = false then waitF R ((Rt.getD b (false, 0)).2, e) ⟨a, b, c, e⟩ st else if e < tok.length ∧ tok.getD e 0 = (Rt.getD b (false, 0)).2 then putF st (adv ⟨a, b, c, e⟩ (e + 1)) else st) := by
    show chLookF R tok ⟨a, b, c, e⟩ st = _
    unfold chLookF
    simp only [HRe.out, HM.out]
  clear hbW
  go_enter Try.func25, Try.ntmps25
  go_wp2_with fail
  go_cut [4] from 5 (fun s4 wx => s4 = .pointer (some ⟨w.heap.size + 1, 0, none⟩) ∧ wx = W2)
  case first =>
    go_region
    all_goals
      go_wp2_with fail
      go_meet
      case rel => exact ⟨by simp, HW2.out⟩
  case rest =>
    obtain ⟨rfl, hwc⟩ := hcut
    rw [hwc]
    clear hwc c2 d2 x1 x2 y1 y2 HW2
    by_cases hbm : b = m
    · subst hbm
      have en := end_any HK2.out (n := L) (p := c) (j := e) f7 f8 (by omega) hn (by have := hEl (L, c); omega) (hWs (L, c)) (by have := hWl (L, c); omega) (by have := hWl (L, c); omega)
      have HE : Hid (chLookF R tok ⟨a, b, c, e⟩ st = endF (L, c) e st) := by show chLookF R tok ⟨a, b, c, e⟩ st = _; rw [HLO.out, if_pos rfl]
      clear k3 HLO
      go_wp2_with (go_at_call 39; refine en.mono ?_; rintro r w1 ⟨rfl, v', h3, h4⟩)
      refine bodyPost_ret (v := .tuple #[]) (results_none Try.results25 _ _ _) rfl ?_
      exact ⟨rfl, v', by rw [HE.out]; exact h3, (Goes.ofBelow HBW.out).trans h4⟩
    · have hb : b < Rt.length := by rw [HM.out]; omega
      have hbm' : ((b : Int) == (m : Int)) = false := by simp; omega
      obtain ⟨sb, so, rfl, hsb, k4, k5⟩ := k3 b hb
      have hmem : Rt.getD b (false, 0) ∈ Rt := by simp [List.getD, hb]
      have hsy := f9 _ hmem
      obtain ⟨⟨t, s⟩, hsym⟩ : ∃ x, Rt.getD b (false, 0) = x := ⟨_, rfl⟩
      rw [hsym] at k4 k5 hsy
      simp only at k4 k5 hsy
      have v4 : W2.cell? ⟨sb, so + b * 2, none⟩ = some (.bool t) := (HBW.out.cell (by simp only; omega)).trans k4
      have v5 : W2.cell? ⟨sb, so + b * 2 + 1, none⟩ = some (.int .i64 s) := by rw [Nat.add_assoc]; exact (HBW.out.cell (by simp only; omega)).trans k5
      have b0 : (0 : Int) ≤ (b : Int) := Int.natCast_nonneg _
      have b1 : (b : Int) < (m : Int) := by omega
      have HE : Hid (chLookF R tok ⟨a, b, c, e⟩ st = if t = false then waitF R (s, e) ⟨a, b, c, e⟩ st else if e < tok.length ∧ tok.getD e 0 = s then putF st (adv ⟨a, b, c, e⟩ (e + 1)) else st) := by
        show chLookF R tok ⟨a, b, c, e⟩ st = _
        rw [HLO.out, if_neg hbm, hsym]
      have HB3 : Hid (Below w.heap.size w (W2.alloc (.cells #[.bool t, .int .i64 s] 102))) := HBW.out.alloc (by omega) _
      have pst : ∀ (x y : Nat), x < W2.heap.size → (W2.alloc (.cells #[.bool t, .int .i64 s] 102)).cell? ⟨x, y, none⟩ = W2.cell? ⟨x, y, none⟩ := fun x y hx => World.cell?_alloc_past _ _ _ hx
      have q0 := (pst w.heap.size 0 (by omega)).trans u0
      have q1 := (pst w.heap.size 1 (by omega)).trans u1
      have q2 := (pst w.heap.size 2 (by omega)).trans u2
      have q3 := (pst w.heap.size 3 (by omega)).trans u3
      have k6 := HK2.out.alloc (.cells #[.bool t, .int .i64 s] 102)
      have HK6 : Hid (ChM (W2.alloc (.cells #[.bool t, .int .i64 s] 102)) B d v st nm) := k6
      have hBw := H.out.goes_below (Goes.ofBelow (d := d) (v := v) HB3.out)
      clear k3 k4 k5 hmem hsym HLO pst f9
      cases t with
      | false =>
        have wt := wait_any k6 (HR.out.below hBw) (n := s) (p := e) (a := a) (b := b) (c := c) (e := e) hsy.1 hsy.2 (by omega) hn f5 (hEs (s, e)) (by have := hEl (s, e); omega) (by have := hEl (s, e); omega) (by have := hWl (s, e); omega)
        have HE2 : Hid (chLookF R tok ⟨a, b, c, e⟩ st = waitF R (s, e) ⟨a, b, c, e⟩ st) := by show chLookF R tok ⟨a, b, c, e⟩ st = _; rw [HE.out, if_pos rfl]
        clear k6 hBw HE
        go_wp2_with (go_at_call 40; refine wt.mono ?_; rintro r w1 ⟨rfl, v', h3, h4⟩)
        refine bodyPost_ret (v := .tuple #[]) (results_none Try.results25 _ _ _) rfl ?_
        exact ⟨rfl, v', by rw [HE2.out]; exact h3, (Goes.ofBelow HB3.out).trans h4⟩
      | true =>
        have c3 := (k6.cell (i := 3) rfl (by omega)).1
        obtain ⟨ta, tc, htv⟩ := HT.out.1
        rw [htv] at c3
        have HT3 : Hid (ListAt (W2.alloc (.cells #[.bool true, .int .i64 s] 102)) B (.slice ta tok.length tc) tok) := by rw [htv] at HT; exact HT.out.below hBw
        clear k6 hBw htv
        by_cases het : e < tok.length
        · obtain ⟨tb, to_, tc', hte, htb, x1⟩ := HT3.out.2 e het
          injection hte with h5 _ h6
          subst h5
          subst h6
          obtain ⟨x, hx⟩ : ∃ x, tok.getD e 0 = x := ⟨_, rfl⟩
          rw [hx] at x1 HE
          obtain ⟨tl, htl⟩ : ∃ tl, tok.length = tl := ⟨_, rfl⟩
          rw [htl] at c3 het
          have e0 : (0 : Int) ≤ (e : Int) := Int.natCast_nonneg _
          have e1 : (e : Int) < (tl : Int) := by omega
          have e2 : e < tok.length := by omega
          by_cases hxs : x = s
          · subst hxs
            have HE2 : Hid (chLookF R tok ⟨a, b, c, e⟩ st = putF st (adv ⟨a, b, c, e⟩ (e + 1))) := by show chLookF R tok ⟨a, b, c, e⟩ st = _; rw [HE.out, if_neg (by simp), if_pos ⟨e2, rfl⟩]
            have on : ∀ nq, Calls Try.prog 41 #[.pointer (some ⟨d.ca, 0, none⟩), .agg #[.int .i64 a, .int .i64 b, .int .i64 c, .int .i64 e], .int .i64 ((e : Int) + 1)] ((W2.alloc (.cells #[.bool true, .int .i64 x] 102)).drewN nq) fun r w' => r = .returned (.tuple #[]) ∧ ∃ ov', ChM w' B d { v with ov := ov' } (putF st (adv ⟨a, b, c, e⟩ (e + 1))) nm ∧ Goes d v { v with ov := ov' } ((W2.alloc (.cells #[.bool true, .int .i64 x] 102)).drewN nq) w' := fun nq =>
              readOn_any (HK6.out.below (below_drewN (Below.refl _ _) nq)) (a := a) (b := b) (c := c) (e := e) (j := e + 1) ⟨by simp [adv]; omega, by simp [adv]; omega, by simp [adv]; omega, by simp [adv]; omega⟩ (by omega) (by omega)
            clear hx HE HT3 htl e2
            go_wp2_with fail
            go_big_quiet (fail)
            go_wp2_with (go_at_call 41; refine (on _).mono ?_; rintro r w1 ⟨rfl, v', h3, h4⟩)
            go_end0
            exact ⟨rfl, _, by rw [HE2.out]; exact h3.mono (Nat.le_succ _), (Goes.ofBelow (below_drewN HB3.out _)).trans h4⟩
          · have hxs' : (x == s) = false := by simpa using hxs
            have HE2 : Hid (chLookF R tok ⟨a, b, c, e⟩ st = st) := by show chLookF R tok ⟨a, b, c, e⟩ st = _; rw [HE.out, if_neg (by simp), if_neg (fun h => hxs h.2)]
            clear hx HE HT3 htl e2
            go_wp2_with fail
            go_big_quiet (fail)
            go_wp2_with fail
            go_end0
            exact ⟨rfl, _, by rw [HE2.out]; exact (HK6.out.below (below_drewN (Below.refl _ _) _)).mono (Nat.le_succ _), Goes.ofBelow (below_drewN HB3.out _)⟩
        · have HE2 : Hid (chLookF R tok ⟨a, b, c, e⟩ st = st) := by show chLookF R tok ⟨a, b, c, e⟩ st = _; rw [HE.out, if_neg (by simp), if_neg (fun h => het h.1)]
          have e1 : decide ((e : Int) < (tok.length : Int)) = false := decide_eq_false (by omega)
          clear HE HT3
          go_wp2_with fail
          go_big_quiet (fail)
          go_wp2_with fail
          go_end0
          exact ⟨rfl, _, by rw [HE2.out]; exact (HK6.out.below (below_drewN (Below.refl _ _) _)).mono (Nat.le_succ _), Goes.ofBelow (below_drewN HB3.out _)⟩

end Go.Proofs.Ytobegekmgoiopaa

/- The contract of recog's chartOf. -/
namespace Go.Proofs.Ytobegekmgoiopaa
open Go.RowKit

def cm0 : CM := ⟨.slice none 0 0, fun _ => .slice none 0 0, fun _ => .slice none 0 0⟩
/-- Where the chart lies that is made ahead of block number k. -/
def adOf (k T N : Nat) (rv tv : Value) : Ad := ⟨k + 1 + 1 + 1, k, k + 1, k + 1 + 1, T, N, rv, tv⟩

theorem ch_start (w : World) (T N : Nat) (rv tv : Value) :
    ChM ((((w.alloc (.map #[] 0)).alloc (.map #[] 0)).alloc (.map #[] 0)).alloc (.cells #[.int .i64 T, .int .i64 N, rv, tv, .map (some w.heap.size), .slice none 0 0, .map (some (w.heap.size + 1)), .map (some (w.heap.size + 1 + 1))] 75)) w.heap.size (adOf w.heap.size T N rv tv) cm0 cs0 0 := by
  have m1 := mapAt_made w Try.prog 80 itV
  have m2 := mapAt_made (w.alloc (.map #[] 0)) Try.prog 78 spV
  have m3 := mapAt_made ((w.alloc (.map #[] 0)).alloc (.map #[] 0)) Try.prog 78 spV
  simp only [World.size_alloc] at m2 m3
  have eI : (fun _ => none) = inI ([] : List Itm) := by funext x; simp [inI]
  have eW : (fun _ => none) = inV cs0.W cm0.VW := by funext x; simp [inV, cs0]
  have eE : (fun _ => none) = inV cs0.E cm0.VE := by funext x; simp [inV, cs0]
  refine ⟨⟨fun i r hr => ?_, fun i j x y hij hx hy g h1 h2 => ?_⟩, (((m1.alloc _).alloc _).alloc _).congr eI, ((m2.alloc _).alloc _).congr eW, (m3.alloc _).congr eE, fun _ _ => rfl, fun _ _ => rfl, by simp only [adOf]; omega, by simp only [adOf]; omega, by simp only [adOf]; omega, by simp only [adOf]; omega⟩
  · cases i <;> simp only [Pc, Option.some.injEq] at hr <;> subst hr
    · have := World.ownsRow_lit (base := w.heap.size) (e := 75) (size := 8) (((w.alloc (.map #[] 0)).alloc (.map #[] 0)).alloc (.map #[] 0)) #[.int .i64 T, .int .i64 N, rv, tv, .map (some w.heap.size), .slice none 0 0, .map (some (w.heap.size + 1)), .map (some (w.heap.size + 1 + 1))] 1 (by simp; omega) (by unfold maxLen; omega) rfl
      simp only [World.size_alloc] at this
      exact this
    · exact World.ownsRow_nil _ _ _ _
    · exact World.ownsRow_nil _ _ _ _
    · exact World.ownsRow_nil _ _ _ _
  · cases i <;> cases j <;> simp only [Pc, Option.some.injEq] at hx hy <;> subst hx <;> subst hy <;> first | exact hij rfl | (cases h2; done) | (cases h1; done)

/-- What holds whenever the chart's loop begins anew. -/
structure RdC (R : List Ru) (tok : List Int) (B : Nat) (d : Ad) (W : World) (st : ChS) (v : CM) (nm : Nat) (wq : World) : Prop where
  m : ChM wq B d v st nm
  nc : nm ≤ st.c
  c : Cht R tok (fun _ => False) st
  b : Bnd st
  g : Begun R st (0, 0)
  below : Below B W wq

theorem Bnd.small {st : ChS} (h : Bnd st) : st.I.length ≤ 345960 ∧ st.O.length ≤ 345960 ∧ st.c ≤ 345960 := by
  have := h.fit
  have := h.cnt
  omega

set_option maxRecDepth 100000 in
set_option maxHeartbeats 6400000 in
theorem chartOf_any {w : World} {T N : Nat} {rv tv : Value} {R : List Ru} {tok : List Int} (hr : RulesAt w w.heap.size rv R) (ht : ListAt w w.heap.size tv tok) (hm : mayB T N R = true) (htl : tok.length ≤ 30) :
    Calls Try.prog 12 #[.agg #[.int .i64 T, .int .i64 N, rv], tv] w fun r w' => ∃ d v st nm, r = .returned (.pointer (some ⟨d.ca, 0, none⟩)) ∧ d.tv = tv ∧ ChM w' (w.heap.size + 1) d v st nm ∧ nm ≤ 1000000 ∧ (st.E (0, 0)).length ≤ 1000000 ∧ (tok.length ∈ st.E (0, 0) ↔ Der R 0 tok) ∧ Below w.heap.size w w' := by
  obtain ⟨hT, hN1, hN, hRl, hfine⟩ := may_fine hm
  obtain ⟨ra, rc, hrv⟩ := hr.1
  obtain ⟨ta, tc, htv⟩ := ht.1
  obtain ⟨rl, hrl⟩ : ∃ rl, R.length = rl := ⟨_, rfl⟩
  obtain ⟨tl, htl'⟩ : ∃ tl, tok.length = tl := ⟨_, rfl⟩
  have HTL : Hid (tok.length = tl) := htl'
  rw [hrl] at hrv
  rw [htl'] at htv
  clear hrl htl'
  subst hrv
  subst htv
  obtain ⟨rv, hrv⟩ : ∃ rv, Value.slice ra rl rc = rv := ⟨_, rfl⟩
  obtain ⟨tv, htv⟩ : ∃ tv, Value.slice ta tl tc = tv := ⟨_, rfl⟩
  rw [hrv] at hr
  rw [htv] at ht
  have hall : ∀ it, ItOk R tok it → it ∈ chAllIt := fun it h => h.all hRl (fun q hq => (hfine q hq).2.2.1) htl
  have hst := ch_start (w.alloc (.cells #[.int .i64 T, .int .i64 N, rv] 24)) T N rv tv
  simp only [World.size_alloc] at hst
  obtain ⟨d, hd⟩ : ∃ d, adOf (w.heap.size + 1) T N rv tv = d := ⟨_, rfl⟩
  have hca : d.ca = w.heap.size + 1 + 1 + 1 + 1 := by rw [← hd]; rfl
  have hdr : d.rv = rv := by rw [← hd]; rfl
  have hdt : d.tv = tv := by rw [← hd]; rfl
  rw [hd] at hst
  obtain ⟨W5, hW5⟩ : ∃ W5, (((((w.alloc (.cells #[.int .i64 T, .int .i64 N, rv] 24)).alloc (.map #[] 0)).alloc (.map #[] 0)).alloc (.map #[] 0)).alloc (.cells #[.int .i64 T, .int .i64 N, rv, tv, .map (some (w.heap.size + 1)), .slice none 0 0, .map (some (w.heap.size + 1 + 1)), .map (some (w.heap.size + 1 + 1 + 1))] 75)) = W5 := ⟨_, rfl⟩
  rw [hW5] at hst
  have hb5 : Below w.heap.size w W5 := by rw [← hW5]; exact (((((Below.refl _ _).alloc (Nat.le_refl _) _).alloc (by simp) _).alloc (by simp; omega) _).alloc (by simp; omega) _).alloc (by simp; omega) _
  have bg := begin_any hst (R := R) (n := 0) (p := 0) (by rw [hdr]; exact (hr.below hb5).mono (by omega)) hRl (by omega) (by simp [cs0]) (by simp [cs0])
  rw [show ((0 : Nat) : Int) = 0 from rfl, hca] at bg
  have HRT : Hid (∀ wq, Below (w.heap.size + 1) W5 wq → RulesAt wq (w.heap.size + 1) d.rv R ∧ ListAt wq (w.heap.size + 1) d.tv tok ∧ Below w.heap.size w wq) := fun wq hb => by
    rw [hdr, hdt]
    have h5 : Below w.heap.size w wq := hb5.trans (hb.mono (by omega))
    exact ⟨(hr.below h5).mono (by omega), (ht.below h5).mono (by omega), h5⟩
  have HS : Hid (ChM W5 (w.heap.size + 1) d cm0 cs0 0) := hst
  have HALL : Hid (∀ it, ItOk R tok it → it ∈ chAllIt) := hall
  have HFI : Hid (∀ i, i < R.length → 0 ≤ (R.getD i (0, [])).1 ∧ (R.getD i (0, [])).1 < (N : Int) ∧ (R.getD i (0, [])).2.length ≤ 8 ∧ ∀ s ∈ (R.getD i (0, [])).2, 0 ≤ s.2 ∧ s.2 < if s.1 then (T : Int) else (N : Int)) := hfine
  have HDT : Hid (d.tv = tv) := hdt
  have HW5 : Hid ((((((w.alloc (.cells #[.int .i64 T, .int .i64 N, rv] 24)).alloc (.map #[] 0)).alloc (.map #[] 0)).alloc (.map #[] 0)).alloc (.cells #[.int .i64 T, .int .i64 N, rv, tv, .map (some (w.heap.size + 1)), .slice none 0 0, .map (some (w.heap.size + 1 + 1)), .map (some (w.heap.size + 1 + 1 + 1))] 75)) = W5) := hW5
  clear hr ht hm hst hall hd hdr hdt hb5 hW5 hfine
  rw [← hrv, ← htv] at HW5
  rw [← htv] at HDT
  clear hrv htv rv tv
  have hmm := @run_makeMap Try.prog
  go_enter Try.func12, Try.ntmps12
  go_upto_region 2 with fail
  clear hmm
  have HCA : Hid (w.heap.size + 1 + 1 + 1 + 1 = d.ca) := hca.symm
  clear hca
  go_cut [5] from 6 (fun s5 wx => s5 = .pointer (some ⟨d.ca, 0, none⟩) ∧ ∃ v st nm, RdC R tok (w.heap.size + 1) d W5 st v nm wx)
  case first =>
    rw [HW5.out]
    go_wp2_with (go_at_call 24; refine bg.mono ?_; rintro r w1 ⟨rfl, ov', h3, h4⟩)
    go_meet
    case rel =>
      obtain ⟨s1, s2, s3⟩ := cht_start R tok
      exact ⟨by rw [HCA.out], _, _, 0, h3, Nat.zero_le _, s1, bnd_start HALL.out, s2, HS.out.goes_below h4⟩
  case rest =>
    obtain ⟨rfl, v0, st0, nm0, hRd⟩ := hcut
    have HRD : Hid (RdC R tok (w.heap.size + 1) d W5 st0 v0 nm0 wc) := hRd
    clear hRd bg HS HW5 HCA
    go_wp2_with fail
    go_loopg [] (2 * chTogo st0.I + st0.O.length) (fun n wq => ∃ v st nm, n = 2 * chTogo st.I + st.O.length ∧ RdC R tok (w.heap.size + 1) d W5 st v nm wq)
    case atStart => exact ⟨v0, st0, nm0, rfl, HRD.out⟩
    case round =>
      clear HRD
      obtain ⟨v, st, nm, hgk, hRd⟩ := hrel
      have HRD : Hid (RdC R tok (w.heap.size + 1) d W5 st v nm wr) := hRd
      have HGK : Hid (gk = 2 * chTogo st.I + st.O.length) := hgk
      obtain ⟨oa, oc, hov⟩ := hRd.m.own.slice (i := .op) rfl
      have hov' : v.ov = .slice oa st.O.length oc := hov
      have c5 := (hRd.m.cell (i := 5) rfl (by omega)).1
      obtain ⟨sI, sO, sc⟩ := hRd.b.small
      by_cases hO : 0 < st.O.length
      · obtain ⟨g, cap, hgv, _, hglt⟩ := hRd.m.own.form (i := .op) rfl hO
        have hgv' : v.ov = .slice (some ⟨g, 0, none⟩) st.O.length cap := hgv
        obtain ⟨k, hk⟩ : ∃ k, st.O.length = k + 1 := ⟨st.O.length - 1, by omega⟩
        have ho := hRd.m.own.own .op _ rfl
        simp only at ho
        obtain ⟨it, hit⟩ : ∃ it, lastO st = it := ⟨_, rfl⟩
        have hit' : st.O.getD k ⟨0, 0, 0, 0⟩ = it := by rw [← hit]; unfold lastO; rw [hk]; rfl
        obtain ⟨q0, q1, q2, q3⟩ := row_item ho hgv' (i := k) (by omega) hit'
        have hcap : k + 1 ≤ cap := by
          rw [hgv'] at ho
          rcases ho.2 with ⟨e, _⟩ | ⟨g', cap', cur, e, _, _, h4, _⟩
          · cases e
          · injection e with _ _ e3
            omega
        obtain ⟨pin, pc⟩ := hRd.c.pop hO
        rw [hit] at pin pc
        have hok := hRd.c.ok it pin
        have hlk := pc.look pin
        have hless := look_less hRd.b hRd.c hO HALL.out
        rw [hit] at hless
        obtain ⟨hR1, hT1, _⟩ := HRT.out wr hRd.below
        obtain ⟨pm0, pg⟩ := hRd.m.pop hgv' hO
        rw [hk] at pm0 pg
        rw [show k + 1 - 1 = k from rfl] at pm0 pg
        have pm := pm0.alloc (.cells #[.int .i64 it.rule, .int .i64 it.read, .int .i64 it.fr, .int .i64 it.upto] 80)
        have hca : d.ca < wr.heap.size := (hRd.m.kc (.inr (.inr (.inr (.inl rfl))))).2
        have pb := hRd.m.goes_below (pg.alloc (.cells #[.int .i64 it.rule, .int .i64 it.read, .int .i64 it.fr, .int .i64 it.upto] 80))
        have wl : ∀ s, ((popF st).W s).length ≤ 345960 := fun s => by have := hRd.b.wl s; show (st.W s).length ≤ _; omega
        have el : ∀ s, ((popF st).E s).length ≤ 345960 := fun s => by have := hRd.b.el s; show (st.E s).length ≤ _; omega
        have hfr : it.fr ≤ 30 ∧ it.upto ≤ 30 := by have := hok.le; have := hok.len; omega
        have hrd := hok.read
        have h8 := (HFI.out _ hok.rule).2.2.1
        have hru := hok.rule
        have lk := look_any (R := R) (tok := tok) pm (hR1.below pb) (hT1.below pb) (a := it.rule) (b := it.read) (c := it.fr) (e := it.upto)
          ⟨hok.rule, hok.read, hfr.1, hfr.2, hRl, h8, (HFI.out _ hok.rule).1, by have := (HFI.out _ hok.rule).2.1; show (R.getD it.rule (0, [])).1 ≤ 1000; omega, fun s hs => by have := (HFI.out _ hok.rule).2.2.2 s hs; split at this <;> omega, htl⟩ (by have := hRd.nc; omega) sI (by show st.O.dropLast.length ≤ _; simp; omega) wl el
          (fun s x hx => by
            obtain ⟨a1, a2, _⟩ := pc.wok s x hx
            have o1 := hRd.c.ok x a1
            have := o1.rule
            have := (HFI.out _ o1.rule).2.2.1
            have := o1.le
            have := o1.len
            unfold rightOf at a2
            exact ⟨by simp only [adv]; omega, by simp only [adv]; omega, by simp only [adv]; omega, by simp only [adv]; omega⟩)
          (fun s j hj => by
            obtain ⟨_, a2, _⟩ := pc.eok s j hj
            unfold rightOf at hrd
            exact ⟨by simp only [adv]; omega, by simp only [adv]; omega, by simp only [adv]; omega, by simp only [adv]; omega⟩)
        have HLK : Hid (Cht R tok (fun _ => False) (chLookF R tok it (popF st))) := hlk
        have HLS : Hid (Less st (chLookF R tok it (popF st))) := hless
        have HPB : Hid (Below (w.heap.size + 1) wr ((wr.setCell ⟨d.ca, 5, none⟩ (.slice (some ⟨g, 0, none⟩) k cap)).alloc (.cells #[.int .i64 it.rule, .int .i64 it.read, .int .i64 it.fr, .int .i64 it.upto] 80))) := pb
        have HPM : Hid (ChM ((wr.setCell ⟨d.ca, 5, none⟩ (.slice (some ⟨g, 0, none⟩) k cap)).alloc (.cells #[.int .i64 it.rule, .int .i64 it.read, .int .i64 it.fr, .int .i64 it.upto] 80)) (w.heap.size + 1) d { v with ov := .slice (some ⟨g, 0, none⟩) k cap } (popF st) nm) := pm
        have f5 := (hRd.m.cell (i := 5) rfl (by omega)).2
        rw [hgv', hk] at c5
        have i0 : (0 : Int) ≤ (k : Int) := Int.natCast_nonneg _
        have i1 : (k : Int) < (k : Int) + 1 := by omega
        have i2 : (k : Int) ≤ (cap : Int) := by omega
        have hkb : k ≤ 345960 := by omega
        obtain ⟨ra', rb', rc', re'⟩ := it
        simp only at q0 q1 q2 q3 lk HPB HPM
        clear hRd hgk hov hov' hgv hgv' ho hit hit' pin pc hok hlk hless hR1 hT1 pm pm0 pg pb wl el hfr hrd h8 hru hO hcap hglt
        go_wp2_with (go_at_call 25; refine lk.mono ?_; rintro r w1 ⟨rfl, v', h3, h4⟩)
        go_roundg (2 * chTogo (chLookF R tok ⟨ra', rb', rc', re'⟩ (popF st)).I + (chLookF R tok ⟨ra', rb', rc', re'⟩ (popF st)).O.length)
        case measure => rw [HGK.out]; exact HLS.out.less
        case rel =>
          exact ⟨v', _, nm + 1, rfl, h3, by rw [HLS.out.c]; have := HRD.out.nc; omega, HLK.out, HLS.out.bnd, fun q hq he => HLS.out.mono _ (HRD.out.g q hq he), (HRD.out.below.trans HPB.out).trans (HPM.out.goes_below h4)⟩
      · have hO0 : st.O.length = 0 := by omega
        rw [hov', hO0] at c5
        have HO : Hid (st.O = []) := List.length_eq_zero_iff.1 hO0
        clear hRd hgk hov hov' hO hO0
        go_wp2_with fail
        go_ret
        refine ⟨d, v, st, nm, rfl, HDT.out, HRD.out.m, by have := HRD.out.nc; omega, by have := HRD.out.b.el (0, 0); omega, ?_, (HRT.out wr HRD.out.below).2.2⟩
        exact HRD.out.c.tells HO.out HRD.out.g

end Go.Proofs.Ytobegekmgoiopaa

/- The contract of the program's recog.Has. -/
namespace Go.Proofs.Ytobegekmgoiopaa
open Go.RowKit

set_option maxRecDepth 100000 in
set_option maxHeartbeats 1600000 in
theorem allTerms_any {w : World} {T N : Int} {rv tv : Value} {tok : List Int} (hr : ∃ ra rl rc, rv = .slice ra rl rc) (ht : ListAt w w.heap.size tv tok) (h30 : tok.length ≤ 30) :
    Calls Try.prog 11 #[.agg #[.int .i64 T, .int .i64 N, rv], tv] w fun e w' => e = .returned (.bool (inB T tok)) ∧ Below w.heap.size w w' := by
  obtain ⟨ra, rl, rc, rfl⟩ := hr
  obtain ⟨ta, tc, htv⟩ := ht.1
  subst htv
  have HT1 : Hid (ListAt (w.alloc (.cells #[.int .i64 T, .int .i64 N, .slice ra rl rc] 24)) w.heap.size (.slice ta tok.length tc) tok) := ht.below ((Below.refl _ _).alloc (Nat.le_refl _) _)
  have HB : Hid (Below w.heap.size w (w.alloc (.cells #[.int .i64 T, .int .i64 N, .slice ra rl rc] 24))) := (Below.refl _ _).alloc (Nat.le_refl _) _
  clear ht
  go_enter Try.func11, Try.ntmps11
  go_wp2_with fail
  go_loopw [9] (fun s wr => ∃ i : Nat, s = .int .i64 i ∧ i ≤ tok.length ∧ inB T (tok.take i) = true ∧ wr = w.alloc (.cells #[.int .i64 T, .int .i64 N, .slice ra rl rc] 24)) (fun s _ => tok.length - (intOf s).toNat)
  case atStart => exact ⟨0, rfl, Nat.zero_le _, rfl, rfl⟩
  case round =>
    obtain ⟨i, rfl, hi, hIn, rfl⟩ := hrel
    have HIn : Hid (inB T (tok.take i) = true) := hIn
    clear hIn
    by_cases hlt : i < tok.length
    · obtain ⟨tg, tO, tc', hte, _, d1⟩ := HT1.out.2 i hlt
      injection hte with h5 _ h6
      subst h5
      subst h6
      obtain ⟨x, hx⟩ : ∃ x, tok.getD i 0 = x := ⟨_, rfl⟩
      have hxe : tok[i] = x := by rw [← hx]; simp [List.getD, hlt]
      have HBad : Hid (¬ (0 ≤ x ∧ x < T) → inB T tok = false) := fun h => by
        unfold inB
        rw [List.all_eq_false]
        exact ⟨tok[i], List.getElem_mem hlt, by rw [hxe]; simpa using fun h1 => by have := fun h2 => h ⟨h1, h2⟩; omega⟩
      have HGood : Hid (0 ≤ x ∧ x < T → inB T (tok.take (i + 1)) = true) := fun h => by
        have := HIn.out
        unfold inB at this ⊢
        rw [List.take_succ_eq_append_getElem hlt, List.all_append, this, hxe]
        simp [h.1, h.2]
      rw [hx] at d1
      have i0 : (0 : Int) ≤ (i : Int) := Int.natCast_nonneg _
      have i1 : (i : Int) < (tok.length : Int) := by omega
      clear hx hxe
      by_cases hx0 : x < 0
      · have HE : Hid (inB T tok = false) := HBad.out (by omega)
        go_wp2_with fail
        go_ret
        exact ⟨by rw [HE.out]; rfl, HB.out⟩
      · have hx1 : decide (x < 0) = false := decide_eq_false hx0
        by_cases hxT : T ≤ x
        · have HE : Hid (inB T tok = false) := HBad.out (by omega)
          go_wp2_with fail
          go_ret
          exact ⟨by rw [HE.out]; rfl, HB.out⟩
        · have hx2 : decide (T ≤ x) = false := decide_eq_false hxT
          have HG : Hid (inB T (tok.take (i + 1)) = true) := HGood.out ⟨by omega, by omega⟩
          go_wp2_with fail
          go_roundw
          case rel => exact ⟨i + 1, by go_num, by omega, HG.out, trivial⟩
          case measure => simp [intOf]; omega
    · have HE : Hid (inB T tok = true) := by
        show inB T tok = true
        have := HIn.out
        rw [List.take_of_length_le (by omega)] at this
        exact this
      go_wp2_with fail
      go_ret
      exact ⟨by rw [HE.out]; rfl, HB.out⟩

set_option maxRecDepth 100000 in
set_option maxHeartbeats 1600000 in
theorem hasAll_any {w : World} {B nm : Nat} {d : Ad} {v : CM} {st : ChS} (h : ChM w B d v st nm) (hn : nm ≤ 1000000) (hE : (st.E (0, 0)).length ≤ 1000000) {ta : Option Addr} {tl tc : Nat} (ht : d.tv = .slice ta tl tc) :
    Calls Try.prog 13 #[.pointer (some ⟨d.ca, 0, none⟩)] w fun r w' => r = .returned (.bool (decide (tl ∈ st.E (0, 0)))) ∧ Below w.heap.size w w' := by
  have c7 := (h.cell (i := 7) rfl (by omega)).1
  have c3 := (h.cell (i := 3) rfl (by omega)).1
  rw [ht] at c3
  have l1 := look_E h.drew (s := (0, 0)) (by decide) (by decide) (by decide) hn
  unfold spV at l1
  simp only at l1
  rw [show ((0 : Nat) : Int) = 0 from rfl] at l1
  have ct := contains_any (ends_list h.drew (0, 0)) (by simpa using hE) tl
  have hmem : decide ((tl : Int) ∈ (st.E (0, 0)).map fun j : Nat => (j : Int)) = decide (tl ∈ st.E (0, 0)) := by
    apply decide_eq_decide.2
    rw [List.mem_map]
    constructor
    · rintro ⟨x, hx, e⟩
      have : x = tl := by omega
      rw [← this]; exact hx
    · intro hx; exact ⟨tl, hx, rfl⟩
  rw [hmem] at ct
  obtain ⟨z, hz⟩ : ∃ z, decide (tl ∈ st.E (0, 0)) = z := ⟨_, rfl⟩
  rw [hz] at ct ⊢
  obtain ⟨ev, hev⟩ : ∃ ev, v.VE (0, 0) = ev := ⟨_, rfl⟩
  rw [hev] at l1 ct
  clear h hmem hz hev ht
  go_enter Try.func13, Try.ntmps13
  go_wp2_with fail
  refine wp_region_tail 11 (by kernel_rfl) (by kernel_rfl) ?_
  simp only [List.take_succ_cons, List.take_zero, List.drop_succ_cons, List.drop_zero]
  repeat still_step
  refine wpStill_nil ?_
  go_wp2_with (go_at_call 26; refine ct.mono ?_; rintro r w1 ⟨rfl, rfl⟩)
  go_ret
  exact ⟨rfl, (Below.refl _ _).drew⟩

set_option maxRecDepth 100000 in
set_option maxHeartbeats 1600000 in
theorem has_right {w : World} {T N : Nat} {rv tv : Value} {R : List Ru} {tok : List Int} (hr : RulesAt w w.heap.size rv R) (ht : ListAt w w.heap.size tv tok) (hm : mayB T N R = true) (h30 : tok.length ≤ 30) (hin : inB T tok = true) :
    Calls Try.prog 5 #[.agg #[.int .i64 T, .int .i64 N, rv], tv] w fun e w' => ∃ z, e = .returned (.tuple #[.bool z, .int .i64 0]) ∧ (z = true ↔ Der R 0 tok) ∧ Below w.heap.size w w' := by
  obtain ⟨ra, rc, hrv⟩ := hr.1
  obtain ⟨ta, tc, htv⟩ := ht.1
  subst hrv
  subst htv
  have may := mayG_any (T := T) (N := N) (hr.boxed (.cells #[.int .i64 T, .int .i64 N, .slice ra R.length rc] 24))
  simp only [World.size_alloc] at may
  rw [hm] at may
  have HB0 : Hid (Below w.heap.size w (w.alloc (.cells #[.int .i64 T, .int .i64 N, .slice ra R.length rc] 24))) := (Below.refl _ _).alloc (Nat.le_refl _) _
  have HT : Hid (ListAt w w.heap.size (.slice ta tok.length tc) tok) := ht
  have HR : Hid (RulesAt w w.heap.size (.slice ra R.length rc) R) := hr
  have j0 : decide ((30 : Int) < (tok.length : Int)) = false := decide_eq_false (by omega)
  have HIN : Hid (inB T tok = true) := hin
  have HM : Hid (mayB T N R = true) := hm
  obtain ⟨tl, htl⟩ : ∃ tl, tok.length = tl := ⟨_, rfl⟩
  have HTL : Hid (tok.length = tl) := htl
  clear hm hin hr ht
  rw [htl] at j0 h30 ⊢
  clear htl
  go_enter Try.func5, Try.ntmps5
  go_wp2_with
    (first
     | (go_at_call 10; refine may.mono ?_; rintro e w1 ⟨rfl, hB1⟩
        have HB1 : Hid (Below w.heap.size w w1) := HB0.out.trans (hB1.mono (by simp))
        have b0 : w1.cell? ⟨w.heap.size, 0, none⟩ = some (.int .i64 T) := (hB1.cell (by simp)).trans (by simp [go_sem])
        have b1 : w1.cell? ⟨w.heap.size, 1, none⟩ = some (.int .i64 N) := (hB1.cell (by simp)).trans (by simp [go_sem])
        have b2 : w1.cell? ⟨w.heap.size, 2, none⟩ = some (.slice ra R.length rc) := (hB1.cell (by simp)).trans (by simp [go_sem])
        have hs1 : w.heap.size + 1 ≤ w1.heap.size := by have := hB1.size; simpa using this
        have at1 := allTerms_any (w := w1) (T := T) (N := N) (rv := .slice ra R.length rc) ⟨_, _, _, rfl⟩ ((HT.out.below HB1.out).mono HB1.out.size) (by rw [HTL.out]; exact h30)
        rw [HIN.out, HTL.out] at at1
        clear hB1 may)
     | (go_at_call 11; refine at1.mono ?_; rintro e w2 ⟨rfl, hB2⟩
        have HB2 : Hid (Below w.heap.size w w2) := HB1.out.trans (hB2.mono HB1.out.size)
        have d0 := (hB2.cell (p := ⟨w.heap.size, 0, none⟩) (by simp only; omega)).trans b0
        have d1 := (hB2.cell (p := ⟨w.heap.size, 1, none⟩) (by simp only; omega)).trans b1
        have d2 := (hB2.cell (p := ⟨w.heap.size, 2, none⟩) (by simp only; omega)).trans b2
        have co := chartOf_any (w := w2) (T := T) (N := N) ((HR.out.below HB2.out).mono HB2.out.size) ((HT.out.below HB2.out).mono HB2.out.size) HM.out (by rw [HTL.out]; exact h30)
        rw [HTL.out] at co
        clear hB2 at1)
     | (go_at_call 12; refine co.mono ?_; rintro e w3 ⟨d, v, st, nm, rfl, hdt, hC, hnm, hE, hD, hB3⟩
        have HB3 : Hid (Below w.heap.size w w3) := HB2.out.trans (hB3.mono HB2.out.size)
        have ha := hasAll_any hC hnm hE hdt
        obtain ⟨z, hz⟩ : ∃ z, decide (tl ∈ st.E (0, 0)) = z := ⟨_, rfl⟩
        have HZ : Hid (z = true ↔ Der R 0 tok) := by
          show z = true ↔ Der R 0 tok
          rw [← hz, decide_eq_true_iff]
          exact hD
        rw [hz] at ha
        clear hB3 hC hdt hD hz co)
     | (go_at_call 13; refine ha.mono ?_; rintro e w4 ⟨rfl, hB4⟩
        have HB4 : Hid (Below w.heap.size w w4) := HB3.out.trans (hB4.mono HB3.out.size)
        clear hB4))
  refine bodyPost_ret (v := .tuple #[.bool z, .int .i64 0]) (by simp [results, Try.results5, go_sem]) rfl ⟨z, rfl, HZ.out, HB4.out⟩

end Go.Proofs.Ytobegekmgoiopaa

/- The contracts of isBelow, next and end. -/
namespace Go.Proofs.Ytobegekmgoiopaa
open Go.RowKit

theorem below_any (n m : Int) (w : World) :
    Calls Try.prog 36 #[.int .i64 n, .int .i64 m] w fun e w' => e = .returned (.bool (decide (0 ≤ n ∧ n < m))) ∧ w' = w := by
  by_cases h0 : 0 ≤ n
  · go_enter Try.func36, Try.ntmps36
    go_wp2
    go_ret
    exact ⟨by simp [h0], rfl⟩
  · go_enter Try.func36, Try.ntmps36
    go_wp2
    go_ret
    exact ⟨by simp; omega, rfl⟩

/-- What the reader panics with. -/
def gaveUp : List PanicEntry := [{ v := .iface 9 (.string { data := #[110, 111, 32, 100, 101, 114, 105, 118, 97, 116, 105, 111, 110] }), recovered := false }]

theorem next_ok (rb b o c rl rc b2 o2 p q : Nat) (L : Nat) (n : Int) (w : World)
    (c2 : w.cell? ⟨rb, 2, none⟩ = some (.slice (some ⟨b2, o2, none⟩) rl rc))
    (c3 : w.cell? ⟨rb, 1 + 2, none⟩ = some (.slice (some ⟨b, o, none⟩) L c))
    (c4 : w.cell? ⟨rb, 4, none⟩ = some (.int .i64 p))
    (f4 : w.frozen? ⟨rb, 4, none⟩ = false)
    (hp : p < L) (hL : L ≤ maxLen) (hd : w.cell? ⟨b, o + p, none⟩ = some (.int .i64 q)) (hq : q < rl) (hl : w.cell? ⟨b2, o2 + q * 2, none⟩ = some (.int .i64 n)) :
    Calls Try.prog 43 #[.pointer (some ⟨rb, 0, none⟩), .int .i64 n] w fun e w' => e = .returned (.int .i64 q) ∧ ∃ m, w' = (w.drewN m).setCell ⟨rb, 4, none⟩ (.int .i64 (p + 1)) := by
  unfold maxLen at hL
  go_enter Try.func43, Try.ntmps43
  go_wp2_with fail
  go_quiet (fail)
  go_wp2_with fail
  go_quiet (fail)
  go_wp2_with (go_at_call 36; refine (below_any _ _ _).mono ?_; rintro e w' ⟨rfl, rfl⟩)
  go_ret
  exact ⟨rfl, _, rfl⟩

theorem next_end (rb L c p : Nat) (da : Option Addr) (n : Int) (w : World)
    (c3 : w.cell? ⟨rb, 1 + 2, none⟩ = some (.slice da L c)) (c4 : w.cell? ⟨rb, 4, none⟩ = some (.int .i64 p)) (hp : L ≤ p) :
    Calls Try.prog 43 #[.pointer (some ⟨rb, 0, none⟩), .int .i64 n] w fun e w' => e = .panicked gaveUp ∧ ∃ m, w' = w.drewN m := by
  go_enter Try.func43, Try.ntmps43
  go_wp2_with fail
  go_quiet (fail)
  go_wp2_with fail
  exact ⟨rfl, rfl, _, rfl⟩

theorem next_out (rb b o c rl rc p : Nat) (ra : Option Addr) (x : Int) (L : Nat) (n : Int) (w : World)
    (c2 : w.cell? ⟨rb, 2, none⟩ = some (.slice ra rl rc))
    (c3 : w.cell? ⟨rb, 1 + 2, none⟩ = some (.slice (some ⟨b, o, none⟩) L c))
    (c4 : w.cell? ⟨rb, 4, none⟩ = some (.int .i64 p))
    (hp : p < L) (hd : w.cell? ⟨b, o + p, none⟩ = some (.int .i64 x)) (hx : ¬ (0 ≤ x ∧ x < rl)) :
    Calls Try.prog 43 #[.pointer (some ⟨rb, 0, none⟩), .int .i64 n] w fun e w' => e = .panicked gaveUp ∧ ∃ m, w' = w.drewN m := by
  have hd' : decide (0 ≤ x ∧ x < (rl : Int)) = false := by simpa using hx
  clear hx
  go_enter Try.func43, Try.ntmps43
  go_wp2_with fail
  go_quiet (fail)
  go_wp2_with fail
  go_quiet (fail)
  go_wp2_with (go_at_call 36; refine (below_any _ _ _).mono ?_; rintro e w' ⟨rfl, rfl⟩)
  exact ⟨rfl, rfl, _, rfl⟩

theorem next_other (rb b o c rl rc b2 o2 p q : Nat) (L : Nat) (l n : Int) (w : World)
    (c2 : w.cell? ⟨rb, 2, none⟩ = some (.slice (some ⟨b2, o2, none⟩) rl rc))
    (c3 : w.cell? ⟨rb, 1 + 2, none⟩ = some (.slice (some ⟨b, o, none⟩) L c))
    (c4 : w.cell? ⟨rb, 4, none⟩ = some (.int .i64 p))
    (hp : p < L) (hd : w.cell? ⟨b, o + p, none⟩ = some (.int .i64 q)) (hq : q < rl) (hl : w.cell? ⟨b2, o2 + q * 2, none⟩ = some (.int .i64 l)) (hn : ¬ l = n) :
    Calls Try.prog 43 #[.pointer (some ⟨rb, 0, none⟩), .int .i64 n] w fun e w' => e = .panicked gaveUp ∧ ∃ m, w' = w.drewN m := by
  go_enter Try.func43, Try.ntmps43
  go_wp2_with fail
  go_quiet (fail)
  go_wp2_with fail
  go_quiet (fail)
  go_wp2_with (go_at_call 36; refine (below_any _ _ _).mono ?_; rintro e w' ⟨rfl, rfl⟩)
  exact ⟨rfl, rfl, _, rfl⟩

theorem end_ok (rb L c p : Nat) (da : Option Addr) (w : World)
    (c3 : w.cell? ⟨rb, 1 + 2, none⟩ = some (.slice da L c)) (c4 : w.cell? ⟨rb, 4, none⟩ = some (.int .i64 p)) (hp : ¬ p < L) :
    Calls Try.prog 29 #[.pointer (some ⟨rb, 0, none⟩)] w fun e w' => e = .returned (.tuple #[]) ∧ ∃ m, w' = w.drewN m := by
  go_enter Try.func29, Try.ntmps29
  go_wp2_with fail
  go_quiet (fail)
  go_wp2_with fail
  go_end0
  exact ⟨rfl, _, rfl⟩

end Go.Proofs.Ytobegekmgoiopaa
