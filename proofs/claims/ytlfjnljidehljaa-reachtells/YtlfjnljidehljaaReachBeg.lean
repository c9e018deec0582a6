/- The contracts of the program's reach.growBegins and reach.Left$1. -/
import Derived.Test.YtlfjnljidehljaaReachMake
import Derived.Test.YtlfjnljidehljaaSetsPut
namespace Go.Proofs.Ytlfjnljidehljaa
open Go.RowKit

section
variable {N : Nat} {va vb : Value} {vr : Nat → Value} {gb : Nat}

set_option maxRecDepth 100000 in
set_option maxHeartbeats 3200000 in
theorem growBegins_any {w : World} {B L lc : Nat} {bv : Value} {la : Option Addr} {X : Vs} {l : List Sy} (h : Bt w B (VTab (ldom N) va vb vr gb) X) (hB : B ≤ w.heap.size) (hL : L < N) (hN : N ≤ 900)
    (hG : Heads w (VTab (ldom N) va vb vr gb).K N bv vr) (hl : RightAt w B la l) (hin : ∀ s ∈ l, s.1 = false → 0 ≤ s.2 ∧ s.2 < (N : Int)) (h8 : l.length ≤ 1000) :
    Calls Try.prog 20 #[bv, va, .agg #[.int .i64 L, .slice la l.length lc], .func (.func 25) #[] #[.pointer (some ⟨gb, 0, none⟩)]] w fun e w' =>
      e = .returned (.tuple #[]) ∧ Bt w' B (VTab (ldom N) va vb vr gb) (begX N L l X) ∧ Kept (VTab (ldom N) va vb vr gb).K w w' := by
  have hdom : ∀ n, n < N → ldom N (.r n) = some N := fun n hn => by simp [ldom, hn]
  obtain ⟨na, nc, hv', _, _⟩ := Bt.form (i := Iv.a) (n := N) h rfl (by omega)
  have hv : va = .slice (some ⟨na, 0, none⟩) N nc := hv'
  clear hv'
  subst hv
  obtain ⟨gg, gc, hgv, hgK, hgL⟩ := hG.2 L hL
  subst hgv
  obtain ⟨ya, yc, hvL⟩ := Bt.slice (i := Iv.r L) (n := N) h (hdom L hL)
  have hvL' : vr L = .slice ya N yc := hvL
  have HB : Hid (Bt w B (VTab (ldom N) (.slice (some ⟨na, 0, none⟩) N nc) vb vr gb) X) := h
  have HG : Hid (Heads w (VTab (ldom N) (.slice (some ⟨na, 0, none⟩) N nc) vb vr gb).K N (.slice (some ⟨gg, 0, none⟩) N gc) vr) := hG
  have HL : Hid (RightAt w B la l) := hl
  have HI : Hid (∀ s ∈ l, s.1 = false → 0 ≤ s.2 ∧ s.2 < (N : Int)) := hin
  have HgL : Hid (w.cell? ⟨gg, L, none⟩ = some (vr L)) := hgL
  clear h hG hl hin hgL hvL
  go_enter Try.func20, Try.ntmps20
  go_wp2_with fail
  go_loopw [13] (fun s wr => ∃ k : Nat, s = .int .i64 k ∧ k ≤ l.length ∧ ∃ Y, begX N L l X = begX N L (l.drop k) Y ∧ Bt wr B (VTab (ldom N) (.slice (some ⟨na, 0, none⟩) N nc) vb vr gb) Y ∧
      Kept (VTab (ldom N) (.slice (some ⟨na, 0, none⟩) N nc) vb vr gb).K (w.alloc (.cells #[.int .i64 L, .slice la l.length lc] 35)) wr) (fun s _ => l.length - (intOf s).toNat)
  case atStart => exact ⟨0, rfl, Nat.zero_le _, X, rfl, Bt.alloc HB.out _, Kept.refl _ _⟩
  case round =>
    obtain ⟨k, rfl, hk, Y, hY, hBr, hKr⟩ := hrel
    have HY : Hid (begX N L l X = begX N L (l.drop k) Y) := hY
    have HBr : Hid (Bt wr B (VTab (ldom N) (.slice (some ⟨na, 0, none⟩) N nc) vb vr gb) Y) := hBr
    have HKr : Hid (Kept (VTab (ldom N) (.slice (some ⟨na, 0, none⟩) N nc) vb vr gb).K (w.alloc (.cells #[.int .i64 L, .slice la l.length lc] 35)) wr) := hKr
    have HK0 : Hid (Kept (VTab (ldom N) (.slice (some ⟨na, 0, none⟩) N nc) vb vr gb).K w wr) := ((Kept.refl _ _).alloc _).trans hKr
    have hsz : w.heap.size + 1 ≤ wr.heap.size := by have := hKr.size; simpa using this
    have b3 : wr.cell? ⟨w.heap.size, 0, none⟩ = some (.int .i64 L) := hKr.cell (Bt.notK HB.out (Nat.le_refl _)) (by simp [go_sem])
    have HBL : Hid (Below B w wr) := HK0.out.below (fun b hb => Bt.ge HB.out hb) hB
    clear hY hBr hKr
    by_cases hlt : k < l.length
    · obtain ⟨b', o', hqa, hb', k3, k4⟩ := HL.out k hlt
      subst hqa
      have hmem : l.getD k (false, 0) ∈ l := by simp [List.getD, hlt]
      have hr := HI.out _ hmem
      have hdrop : l.drop k = l.getD k (false, 0) :: l.drop (k + 1) := by rw [List.drop_eq_getElem_cons hlt]; simp [List.getD, hlt]
      obtain ⟨⟨t, v⟩, hsy⟩ : ∃ x, l.getD k (false, 0) = x := ⟨_, rfl⟩
      rw [hsy] at k3 k4 hr hdrop
      have k3' : wr.cell? ⟨b', o' + k * 2, none⟩ = some (.bool t) := (HBL.out.cell (p := ⟨b', o' + k * 2, none⟩) hb').trans k3
      have k4' : wr.cell? ⟨b', o' + k * 2 + 1, none⟩ = some (.int .i64 v) := by rw [Nat.add_assoc]; exact (HBL.out.cell (p := ⟨b', o' + (k * 2 + 1), none⟩) hb').trans k4
      have j0 : (0 : Int) ≤ (k : Int) := Int.natCast_nonneg _
      have j1 : (k : Int) < (l.length : Int) := by omega
      have HA : Hid (Bt (wr.alloc (.cells #[.bool t, .int .i64 v] 48)) B (VTab (ldom N) (.slice (some ⟨na, 0, none⟩) N nc) vb vr gb) Y) := Bt.alloc HBr.out _
      have HKA : Hid (Kept (VTab (ldom N) (.slice (some ⟨na, 0, none⟩) N nc) vb vr gb).K wr (wr.alloc (.cells #[.bool t, .int .i64 v] 48))) := (Kept.refl _ _).alloc _
      have HD : Hid (l.drop k = (t, v) :: l.drop (k + 1)) := hdrop
      clear hmem hsy k3 k4 hdrop
      cases t with
      | true =>
        have HP : Hid (begX N L l X = Y) := by
          show begX N L l X = Y
          rw [HY.out, HD.out]
          simp [begX]
        clear hr
        go_wp2_with fail
        refine bodyPost_ret (v := .tuple #[]) (results_none Try.results20 _ _ _) rfl ?_
        exact ⟨rfl, by rw [HP.out]; exact HA.out, HK0.out.trans HKA.out⟩
      | false =>
        have hr' : 0 ≤ v ∧ v < (N : Int) := hr rfl
        clear hr
        obtain ⟨y, rfl⟩ : ∃ y : Nat, v = y := ⟨v.toNat, by omega⟩
        have hyN : y < N := by omega
        have m3 := HKA.out.cell (p := ⟨w.heap.size, 0, none⟩) (Bt.notK HB.out (Nat.le_refl _)) b3
        have m5 := (HK0.out.trans HKA.out).cell hgK HgL.out
        obtain ⟨gg', gc', hge, _, k5⟩ := HG.out.2 y hyN
        cases hge
        have HgY : Hid (w.cell? ⟨gg, y, none⟩ = some (vr y)) := k5
        have j2 : (0 : Int) ≤ (y : Int) := Int.natCast_nonneg _
        have j3 : (y : Int) < (N : Int) := by omega
        have j6 : (0 : Int) ≤ (L : Int) := Int.natCast_nonneg _
        have j7 : (L : Int) < (N : Int) := by omega
        have put := put_gen (i := Iv.r L) (n := N) (m := y) (Bt.drew HA.out) (vmark rfl) (hdom L hL) hyN (by simp)
        have put' : Calls Try.prog 25 #[vr L, .int .i64 y, .pointer (some ⟨gb, 0, none⟩)] _ _ := put
        rw [hvL'] at put' m5
        have HP : Hid (begX N L l X = if bit (putAllG .gr (.r L) (.r y) N (putG .gr Y (.r L) y)) .a y then begX N L (l.drop (k + 1)) (putAllG .gr (.r L) (.r y) N (putG .gr Y (.r L) y)) else putAllG .gr (.r L) (.r y) N (putG .gr Y (.r L) y)) := by
          show begX N L l X = _
          rw [HY.out, HD.out]
          simp [begX]
        clear put b3 k5 hr'
        go_wp2_with fail
        go_cut [] from 14 to 46 (fun wx => Bt wx B (VTab (ldom N) (.slice (some ⟨na, 0, none⟩) N nc) vb vr gb) (putG .gr Y (.r L) y) ∧ Kept (VTab (ldom N) (.slice (some ⟨na, 0, none⟩) N nc) vb vr gb).K (wr.alloc (.cells #[.bool false, .int .i64 y] 48)) wx)
        case first =>
          refine wp_region_tail 8 (by kernel_rfl) (by kernel_rfl) ?_
          simp only [List.take_succ_cons, List.take_zero, List.drop_succ_cons, List.drop_zero]
          repeat still_step
          refine wpStill_nil ?_
          go_wp2_with (go_at_call 25; refine put'.mono ?_; rintro e w2 ⟨rfl, hB2, hK2⟩)
          go_meet
          case rel => exact ⟨hB2, (Kept.refl _ _).drew.trans hK2⟩
        case rest =>
          obtain ⟨hB2, hK2⟩ := hcut
          have n0 := hK2.cell (p := ⟨wr.heap.size, 1, none⟩) (Bt.notK HBr.out (Nat.le_refl _)) (v := .int .i64 y) (by simp [go_sem])
          have n3 := hK2.cell (p := ⟨w.heap.size, 0, none⟩) (Bt.notK HB.out (Nat.le_refl _)) m3
          have n5 := hK2.cell (p := ⟨gg, L, none⟩) hgK m5
          have n6 := ((HK0.out.trans HKA.out).trans hK2).cell hgK HgY.out
          have all := putAll_gen (i := Iv.r L) (j := Iv.r y) (n := N) (nj := N) (Bt.drew hB2) (vmark rfl) (hdom L hL) (hdom y hyN) (Nat.le_refl _) (by simp) (by omega)
          have all' : Calls Try.prog 30 #[vr L, vr y, .func (.func 25) #[] #[.pointer (some ⟨gb, 0, none⟩)]] _ _ := all
          obtain ⟨za, zc, hvY⟩ := Bt.slice (i := Iv.r y) (n := N) hB2 (hdom y hyN)
          have hvY' : vr y = .slice za N zc := hvY
          rw [hvL', hvY'] at all'
          rw [hvY'] at n6
          have HK2 : Hid (Kept (VTab (ldom N) (.slice (some ⟨na, 0, none⟩) N nc) vb vr gb).K (wr.alloc (.cells #[.bool false, .int .i64 y] 48)) wc) := hK2
          obtain ⟨w3, hw3⟩ : ∃ w3, w3 = wc := ⟨_, rfl⟩
          subst hw3
          clear hB2 hK2 put' m3 m5 k3' k4' all hvY
          go_wp2_with fail
          go_cut [] from 14 to 46 (fun wx => Bt wx B (VTab (ldom N) (.slice (some ⟨na, 0, none⟩) N nc) vb vr gb) (putAllG .gr (.r L) (.r y) N (putG .gr Y (.r L) y)) ∧ Kept (VTab (ldom N) (.slice (some ⟨na, 0, none⟩) N nc) vb vr gb).K w3 wx)
          case first =>
            refine wp_region_tail 11 (by kernel_rfl) (by kernel_rfl) ?_
            simp only [List.take_succ_cons, List.take_zero, List.drop_succ_cons, List.drop_zero]
            repeat still_step
            refine wpStill_nil ?_
            go_wp2_with (go_at_call 30; refine all'.mono ?_; rintro e w2 ⟨rfl, hB2, hK2⟩)
            go_meet
            case rel => exact ⟨hB2, (Kept.refl _ _).drew.trans hK2⟩
          case rest =>
            obtain ⟨hB2, hK2⟩ := hcut
            have p0 := hK2.cell (p := ⟨wr.heap.size, 1, none⟩) (Bt.notK HBr.out (Nat.le_refl _)) n0
            obtain ⟨p1, _⟩ := Bt.cell (i := Iv.a) (n := N) hB2 rfl rfl hyN
            have HB2 : Hid (Bt wc B (VTab (ldom N) (.slice (some ⟨na, 0, none⟩) N nc) vb vr gb) (putAllG .gr (.r L) (.r y) N (putG .gr Y (.r L) y))) := hB2
            have HK3 : Hid (Kept (VTab (ldom N) (.slice (some ⟨na, 0, none⟩) N nc) vb vr gb).K (w.alloc (.cells #[.int .i64 L, .slice (some ⟨b', o', none⟩) l.length lc] 35)) wc) := ((HKr.out.trans HKA.out).trans HK2.out).trans hK2
            clear hB2 hK2 all' n0 n3 n5 n6
            cases hz : bit (putAllG .gr (.r L) (.r y) N (putG .gr Y (.r L) y)) .a y with
            | true =>
              rw [hz] at HP p1
              clear hz
              go_wp2_with fail
              go_roundw
              case rel => exact ⟨k + 1, by go_num, by omega, _, HP.out, HB2.out, HK3.out⟩
              case measure => simp [intOf]; omega
            | false =>
              rw [hz] at HP p1
              clear hz
              go_wp2_with fail
              refine bodyPost_ret (v := .tuple #[]) (results_none Try.results20 _ _ _) rfl ?_
              exact ⟨rfl, by rw [HP.out]; exact HB2.out, ((Kept.refl _ _).alloc _).trans HK3.out⟩
    · obtain rfl : k = l.length := by omega
      have HP : Hid (begX N L l X = Y) := by
        show begX N L l X = Y
        rw [HY.out, List.drop_length]
        rfl
      go_wp2_with fail
      go_end0
      exact ⟨rfl, by rw [HP.out]; exact HBr.out, HK0.out⟩

set_option maxRecDepth 100000 in
set_option maxHeartbeats 1600000 in
theorem left1_any {w : World} {B bx sx qc T : Nat} {bv : Value} {qa : Option Addr} {X : Vs} {R : List Ru} {r : Ru} (h : Bt w B (VTab (ldom N) va vb vr gb) X) (hB : B ≤ w.heap.size) (hN : N ≤ 900) (hs : w.cell? ⟨bx, 0, none⟩ = some bv) (hsK : ¬ (VTab (ldom N) va vb vr gb).K bx)
    (hx : w.cell? ⟨sx, 0, none⟩ = some va) (hxK : ¬ (VTab (ldom N) va vb vr gb).K sx) (hG : Heads w (VTab (ldom N) va vb vr gb).K N bv vr) (hf : Fine T N R) (hr : r ∈ R) (h8 : r.2.length ≤ 8) (hR : RightAt w B qa r.2) :
    Calls Try.prog 19 #[.agg #[.int .i64 r.1, .slice qa r.2.length qc], .func (.func 25) #[] #[.pointer (some ⟨gb, 0, none⟩)], .pointer (some ⟨bx, 0, none⟩), .pointer (some ⟨sx, 0, none⟩)] w fun e w' =>
      e = .returned (.tuple #[]) ∧ Bt w' B (VTab (ldom N) va vb vr gb) (beginsX N r X) ∧ Kept (VTab (ldom N) va vb vr gb).K w w' := by
  have hL := hf.left r hr
  have hin := hf.name r hr
  obtain ⟨L, Rt⟩ := r
  simp only at hL hin h8 hR ⊢
  obtain ⟨l, rfl⟩ : ∃ l : Nat, L = l := ⟨L.toNat, by omega⟩
  obtain ⟨aa, ac, hv'⟩ := Bt.slice (i := Iv.a) (n := N) h rfl
  have hv : va = .slice aa N ac := hv'
  clear hv'
  subst hv
  obtain ⟨ba, bc, hbv⟩ := hG.1
  subst hbv
  have hK1 : Kept (VTab (ldom N) (.slice aa N ac) vb vr gb).K w (w.alloc (.cells #[.int .i64 l, .slice qa Rt.length qc] 35)) := (Kept.refl _ _).alloc _
  have hR1 := hR.below (hK1.below (fun b hb => Bt.ge h hb) hB)
  have call := growBegins_any (lc := qc) (Bt.alloc h (.cells #[.int .i64 l, .slice qa Rt.length qc] 35)) (by simp; omega) (L := l) (by omega) hN (hG.kept hK1) hR1 hin (by omega)
  have hs1 := hK1.cell hsK hs
  have hx1 := hK1.cell hxK hx
  have HM : Hid (beginsX N ((l : Int), Rt) X = begX N l Rt X) := by show beginsX N ((l : Int), Rt) X = _; simp [beginsX]
  clear h hsK hxK hR hR1 hin hG
  go_enter Try.func19, Try.ntmps19
  go_wp2_with (go_at_call 20; refine call.mono ?_; rintro e w2 ⟨rfl, hB2, hK2⟩)
  go_end0
  exact ⟨rfl, by rw [HM.out]; exact hB2, hK1.trans hK2⟩
end

end Go.Proofs.Ytlfjnljidehljaa
