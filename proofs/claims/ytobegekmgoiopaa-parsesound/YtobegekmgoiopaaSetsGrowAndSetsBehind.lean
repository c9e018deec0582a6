import Derived.Test.YtobegekmgoiopaaMayGAndSetsPut
import Derived.Deep.DrawnRows
/- The contract of the program's sets.growAhead; what growing is, as plain functions. -/
namespace Go.Proofs.Ytobegekmgoiopaa
open Go.RowKit

def aheadX (T : Nat) (L : Nat) (l : List Sy) (X : Xs) : Xs := if (pfX T (.f L) l X).2 then putX (pfX T (.f L) l X).1 .null L else (pfX T (.f L) l X).1
def stepX (T : Nat) (L : Nat) (l : List Sy) (k : Nat) (Y : Xs) : Xs :=
  if (l.getD k (false, 0)).1 then Y else
    if (pfX T (.g (l.getD k (false, 0)).2.toNat) (l.drop (k + 1)) Y).2 then putAllX (.g (l.getD k (false, 0)).2.toNat) (.g L) (T + 1) (pfX T (.g (l.getD k (false, 0)).2.toNat) (l.drop (k + 1)) Y).1
    else (pfX T (.g (l.getD k (false, 0)).2.toNat) (l.drop (k + 1)) Y).1
def behindX (T : Nat) (L : Nat) (l : List Sy) (X : Xs) : Xs := loopN l.length (stepX T L l) X

theorem RightAt.drop {w : World} {B b o c : Nat} {l : List Sy} (h : RightAt w B (some ⟨b, o, none⟩) l) (n : Nat) (hc : l.length ≤ c) (hn : n ≤ l.length) :
    RightAt w B (if c = n then some ⟨b, o, none⟩ else some ⟨b, o + n * 2, none⟩) (l.drop n) := fun j hj => by
  have hl : (l.drop n).length = l.length - n := by simp
  rw [hl] at hj
  obtain ⟨b', o', e, h0, h1, h2⟩ := h (n + j) (by omega)
  cases e
  have hg : (l.drop n).getD j (false, 0) = l.getD (n + j) (false, 0) := by simp [List.getD]
  refine ⟨b, o + n * 2, by rw [if_neg (by omega)], h0, ?_, ?_⟩
  · rw [hg, ← h1]; congr 2; omega
  · rw [hg, ← h2]; congr 2; omega

section
variable {T N : Nat} {nv : Value} {vf vg : Nat → Value} {gb : Nat}

set_option maxRecDepth 100000 in
set_option maxHeartbeats 3200000 in
theorem growAhead_any {w : World} {B lc L gl gc : Nat} {fv : Value} {la ga : Option Addr} {X : Xs} {l : List Sy} (h : Bt w B (STab T N nv vf vg gb) X) (hB : B ≤ w.heap.size) (hL : L < N)
    (hF : Heads w (STab T N nv vf vg gb).K N fv vf) (hl : RightAt w B la l) (hin : ∀ s ∈ l, 0 ≤ s.2 ∧ s.2 < if s.1 then (T : Int) else (N : Int)) (hT : T ≤ 1000) (h8 : l.length ≤ 1000) :
    Calls Try.prog 47 #[.agg #[nv, fv, .slice ga gl gc], .agg #[.int .i64 L, .slice la l.length lc], .func (.func 58) #[] #[.pointer (some ⟨gb, 0, none⟩)]] w fun e w' =>
      e = .returned (.tuple #[]) ∧ Bt w' B (STab T N nv vf vg gb) (aheadX T L l X) ∧ Kept (STab T N nv vf vg gb).K w w' := by
  obtain ⟨na, nc, hvn'⟩ := Bt.slice (i := Iy.null) (n := N) h rfl
  have hvn : nv = .slice na N nc := hvn'
  clear hvn'
  obtain ⟨fg, fc, hfv, hfK, hfc⟩ := hF.2 L hL
  subst hvn
  subst hfv
  obtain ⟨ia, ic, hvi⟩ := Bt.slice (i := Iy.f L) (n := T) h (by simp [STab, sdom, hL])
  have hvi' : vf L = .slice ia T ic := hvi
  have hK0 : Kept (STab T N (.slice na N nc) vf vg gb).K w ((w.alloc (.cells #[.slice na N nc, .slice (some ⟨fg, 0, none⟩) N fc, .slice ga gl gc] 86)).alloc (.cells #[.int .i64 L, .slice la l.length lc] 28)) := ((Kept.refl _ _).alloc _).alloc _
  have first := putFirst_any (w := ((w.alloc (.cells #[.slice na N nc, .slice (some ⟨fg, 0, none⟩) N fc, .slice ga gl gc] 86)).alloc (.cells #[.int .i64 L, .slice la l.length lc] 28)).drew)
    (i := .f L) (lc := lc) (gl := gl) (gc := gc) (ga := ga) (Bt.drew (Bt.alloc (Bt.alloc h _) _)) (by show B ≤ ((w.alloc _).alloc _).heap.size; simp; omega) (n := T) (by simp [sdom, hL]) (Nat.le_refl _) (by simp) (hF.kept hK0.drew) (hl.below (hK0.drew.below (fun b hb => Bt.ge h hb) hB)) hin hT h8
  have first' : Calls Try.prog 59 #[.agg #[.slice na N nc, .slice (some ⟨fg, 0, none⟩) N fc, .slice ga gl gc], vf L, .slice la l.length lc, .func (.func 58) #[] #[.pointer (some ⟨gb, 0, none⟩)]] _ _ := first
  rw [hvi'] at first'
  have HB : Hid (Bt w B (STab T N (.slice na N nc) vf vg gb) X) := h
  have HK0 : Hid (Kept (STab T N (.slice na N nc) vf vg gb).K w ((w.alloc (.cells #[.slice na N nc, .slice (some ⟨fg, 0, none⟩) N fc, .slice ga gl gc] 86)).alloc (.cells #[.int .i64 L, .slice la l.length lc] 28))) := hK0
  have k6 : ((w.alloc (.cells #[.slice na N nc, .slice (some ⟨fg, 0, none⟩) N fc, .slice ga gl gc] 86)).alloc (.cells #[.int .i64 L, .slice la l.length lc] 28)).cell? ⟨fg, L, none⟩ = some (vf L) := hK0.cell hfK hfc
  have j2 : (0 : Int) ≤ (L : Int) := Int.natCast_nonneg _
  have j3 : (L : Int) < (N : Int) := by omega
  clear h hF hl hin hK0 first hfc hvi
  go_enter Try.func47, Try.ntmps47
  go_upto_region 2 with fail
  go_cut [16] from 6 to 22 (fun s16 wx => s16 = .bool (pfX T (.f L) l X).2 ∧ Bt wx B (STab T N (.slice na N nc) vf vg gb) (pfX T (.f L) l X).1 ∧
    Kept (STab T N (.slice na N nc) vf vg gb).K ((w.alloc (.cells #[.slice na N nc, .slice (some ⟨fg, 0, none⟩) N fc, .slice ga gl gc] 86)).alloc (.cells #[.int .i64 L, .slice la l.length lc] 28)) wx)
  case first =>
    refine wp_region_tail 10 (by kernel_rfl) (by kernel_rfl) ?_
    simp only [List.take_succ_cons, List.take_zero, List.drop_succ_cons, List.drop_zero]
    repeat still_step
    refine wpStill_nil ?_
    go_wp2_with (go_at_call 59; refine first'.mono ?_; rintro e w2 ⟨rfl, hB2, hK2⟩)
    go_meet
    case rel => exact ⟨rfl, hB2, (Kept.refl _ _).drew.trans hK2⟩
  case rest =>
    obtain ⟨rfl, hB2, hK2⟩ := hcut
    have b0 := hK2.cell (p := ⟨w.heap.size, 0, none⟩) (Bt.notK HB.out (Nat.le_refl _)) (v := .slice na N nc) (by simp [go_sem])
    have b1 := hK2.cell (p := ⟨w.heap.size + 1, 0, none⟩) (Bt.notK HB.out (Nat.le_succ _)) (v := .int .i64 L) (by simp [go_sem])
    have HB2 : Hid (Bt wc B (STab T N (.slice na N nc) vf vg gb) (pfX T (.f L) l X).1) := hB2
    have HK2 : Hid (Kept (STab T N (.slice na N nc) vf vg gb).K w wc) := HK0.out.trans hK2
    clear hB2 hK2 first' k6
    cases hz : (pfX T (.f L) l X).2 with
    | true =>
      have put := put_any (i := .null) HB2.out (n := N) rfl hL (by simp)
      have put' : Calls Try.prog 58 #[.slice na N nc, .int .i64 L, .pointer (some ⟨gb, 0, none⟩)] _ _ := put
      have HP : Hid (aheadX T L l X = putX (pfX T (.f L) l X).1 .null L) := by show aheadX T L l X = _; simp [aheadX, hz]
      clear hz put
      go_wp2_with (go_at_call 58; refine put'.mono ?_; rintro e w2 ⟨rfl, hB3, hK3⟩)
      go_end0
      exact ⟨rfl, by rw [HP.out]; exact hB3, HK2.out.trans hK3⟩
    | false =>
      have HP : Hid (aheadX T L l X = (pfX T (.f L) l X).1) := by show aheadX T L l X = _; simp [aheadX, hz]
      clear hz
      go_wp2_with fail
      go_end0
      exact ⟨rfl, by rw [HP.out]; exact HB2.out, HK2.out⟩

end

end Go.Proofs.Ytobegekmgoiopaa

/- The contract of the program's sets.growBehind. -/
namespace Go.Proofs.Ytobegekmgoiopaa
open Go.RowKit

section
variable {T N : Nat} {nv : Value} {vf vg : Nat → Value} {gb : Nat}

set_option maxRecDepth 100000 in
set_option maxHeartbeats 1600000 in
theorem growBehind_any {w : World} {B lc L : Nat} {fv gv : Value} {la : Option Addr} {X : Xs} {l : List Sy} (h : Bt w B (STab T N nv vf vg gb) X) (hB : B ≤ w.heap.size) (hL : L < N) (hlc : l.length ≤ lc)
    (hF : Heads w (STab T N nv vf vg gb).K N fv vf) (hG : Heads w (STab T N nv vf vg gb).K N gv vg) (hl : RightAt w B la l) (hin : ∀ s ∈ l, 0 ≤ s.2 ∧ s.2 < if s.1 then (T : Int) else (N : Int)) (hT : T ≤ 900) (h8 : l.length ≤ 1000) :
    Calls Try.prog 48 #[.agg #[nv, fv, gv], .agg #[.int .i64 L, .slice la l.length lc], .func (.func 58) #[] #[.pointer (some ⟨gb, 0, none⟩)]] w fun e w' =>
      e = .returned (.tuple #[]) ∧ Bt w' B (STab T N nv vf vg gb) (behindX T L l X) ∧ Kept (STab T N nv vf vg gb).K w w' := by
  obtain ⟨na, nc, hvn'⟩ := Bt.slice (i := Iy.null) (n := N) h rfl
  have hvn : nv = .slice na N nc := hvn'
  clear hvn'
  obtain ⟨fa, fc, hfv⟩ := hF.1
  obtain ⟨gg, gc, hgv, hgK, hgL⟩ := hG.2 L hL
  subst hvn
  subst hfv
  subst hgv
  have HB : Hid (Bt w B (STab T N (.slice na N nc) vf vg gb) X) := h
  have HF : Hid (Heads w (STab T N (.slice na N nc) vf vg gb).K N (.slice fa N fc) vf) := hF
  have HG : Hid (Heads w (STab T N (.slice na N nc) vf vg gb).K N (.slice (some ⟨gg, 0, none⟩) N gc) vg) := hG
  have HL : Hid (RightAt w B la l) := hl
  have HI : Hid (∀ s ∈ l, 0 ≤ s.2 ∧ s.2 < if s.1 then (T : Int) else (N : Int)) := hin
  have HgL : Hid (w.cell? ⟨gg, L, none⟩ = some (vg L)) := hgL
  clear h hF hG hl hin hgL
  go_enter Try.func48, Try.ntmps48
  go_wp2_with fail
  go_loopw [12] (fun s wr => ∃ k : Nat, s = .int .i64 k ∧ k ≤ l.length ∧ Bt wr B (STab T N (.slice na N nc) vf vg gb) (loopN k (stepX T L l) X) ∧
      Kept (STab T N (.slice na N nc) vf vg gb).K ((w.alloc (.cells #[.slice na N nc, .slice fa N fc, .slice (some ⟨gg, 0, none⟩) N gc] 86)).alloc (.cells #[.int .i64 L, .slice la l.length lc] 28)) wr) (fun s _ => l.length - (intOf s).toNat)
  case atStart => exact ⟨0, rfl, Nat.zero_le _, Bt.alloc (Bt.alloc HB.out _) _, Kept.refl _ _⟩
  case round =>
    obtain ⟨k, rfl, hk, hBr, hKr⟩ := hrel
    obtain ⟨Y, hY⟩ : ∃ Y, loopN k (stepX T L l) X = Y := ⟨_, rfl⟩
    rw [hY] at hBr
    have HY : Hid (loopN k (stepX T L l) X = Y) := hY
    have HBr : Hid (Bt wr B (STab T N (.slice na N nc) vf vg gb) Y) := hBr
    have HKr : Hid (Kept (STab T N (.slice na N nc) vf vg gb).K ((w.alloc (.cells #[.slice na N nc, .slice fa N fc, .slice (some ⟨gg, 0, none⟩) N gc] 86)).alloc (.cells #[.int .i64 L, .slice la l.length lc] 28)) wr) := hKr
    have HK0 : Hid (Kept (STab T N (.slice na N nc) vf vg gb).K w wr) := (((Kept.refl _ _).alloc _).alloc _).trans hKr
    have hsz : w.heap.size + 2 ≤ wr.heap.size := by have := hKr.size; simp at this; omega
    have b0 : wr.cell? ⟨w.heap.size, 0, none⟩ = some (.slice na N nc) := hKr.cell (Bt.notK HB.out (Nat.le_refl _)) (by simp [go_sem])
    have b1 : wr.cell? ⟨w.heap.size, 1, none⟩ = some (.slice fa N fc) := hKr.cell (Bt.notK HB.out (Nat.le_refl _)) (by simp [go_sem])
    have b2 : wr.cell? ⟨w.heap.size, 2, none⟩ = some (.slice (some ⟨gg, 0, none⟩) N gc) := hKr.cell (Bt.notK HB.out (Nat.le_refl _)) (by simp [go_sem])
    have b3 : wr.cell? ⟨w.heap.size + 1, 0, none⟩ = some (.int .i64 L) := hKr.cell (Bt.notK HB.out (Nat.le_succ _)) (by simp [go_sem])
    have b4 : wr.cell? ⟨w.heap.size + 1, 1, none⟩ = some (.slice la l.length lc) := hKr.cell (Bt.notK HB.out (Nat.le_succ _)) (by simp [go_sem])
    have HBL : Hid (Below B w wr) := HK0.out.below (fun b hb => Bt.ge HB.out hb) hB
    clear hY hBr hKr
    by_cases hlt : k < l.length
    · obtain ⟨b', o', hqa, hb', k3, k4⟩ := HL.out k hlt
      subst hqa
      have hmem : l.getD k (false, 0) ∈ l := by simp [List.getD, hlt]
      have hin := HI.out _ hmem
      obtain ⟨⟨t, v⟩, hsy⟩ : ∃ x, l.getD k (false, 0) = x := ⟨_, rfl⟩
      have hstep : loopN (k + 1) (stepX T L l) X = if t then Y else if (pfX T (.g v.toNat) (l.drop (k + 1)) Y).2 then putAllX (.g v.toNat) (.g L) (T + 1) (pfX T (.g v.toNat) (l.drop (k + 1)) Y).1 else (pfX T (.g v.toNat) (l.drop (k + 1)) Y).1 := by
        rw [loopN, HY.out, stepX, hsy]
      rw [hsy] at k3 k4 hin
      simp only at hin
      obtain ⟨y, rfl⟩ : ∃ y : Nat, v = y := ⟨v.toNat, by omega⟩
      have k3' : wr.cell? ⟨b', o' + k * 2, none⟩ = some (.bool t) := (HBL.out.cell (p := ⟨b', o' + k * 2, none⟩) hb').trans k3
      have k4' : wr.cell? ⟨b', o' + k * 2 + 1, none⟩ = some (.int .i64 y) := by rw [Nat.add_assoc]; exact (HBL.out.cell (p := ⟨b', o' + (k * 2 + 1), none⟩) hb').trans k4
      have j0 : (0 : Int) ≤ (k : Int) := Int.natCast_nonneg _
      have j1 : (k : Int) < (l.length : Int) := by omega
      have HA : Hid (Bt (wr.alloc (.cells #[.bool t, .int .i64 y] 102)) B (STab T N (.slice na N nc) vf vg gb) Y) := Bt.alloc HBr.out _
      have HKA : Hid (Kept (STab T N (.slice na N nc) vf vg gb).K wr (wr.alloc (.cells #[.bool t, .int .i64 y] 102))) := (Kept.refl _ _).alloc _
      clear hmem hsy k3 k4
      cases t with
      | true =>
        have HS : Hid (loopN (k + 1) (stepX T L l) X = Y) := by show loopN (k + 1) _ X = Y; rw [hstep]; simp
        clear hstep hin
        go_wp2_with fail
        go_roundw
        case rel => exact ⟨k + 1, by go_num, by omega, by rw [HS.out]; exact HA.out, HKr.out.alloc _⟩
        case measure => simp [intOf]; omega
      | false =>
        have hyN : y < N := by simp at hin; omega
        simp only [Bool.false_eq_true, if_false, Int.toNat_natCast] at hstep
        have HS : Hid (loopN (k + 1) (stepX T L l) X = if (pfX T (.g y) (l.drop (k + 1)) Y).2 then putAllX (.g y) (.g L) (T + 1) (pfX T (.g y) (l.drop (k + 1)) Y).1 else (pfX T (.g y) (l.drop (k + 1)) Y).1) := hstep
        have m0 := HKA.out.cell (p := ⟨w.heap.size, 0, none⟩) (Bt.notK HB.out (Nat.le_refl _)) b0
        have m1 := HKA.out.cell (p := ⟨w.heap.size, 1, none⟩) (Bt.notK HB.out (Nat.le_refl _)) b1
        have m2 := HKA.out.cell (p := ⟨w.heap.size, 2, none⟩) (Bt.notK HB.out (Nat.le_refl _)) b2
        have m3 := HKA.out.cell (p := ⟨w.heap.size + 1, 0, none⟩) (Bt.notK HB.out (Nat.le_succ _)) b3
        have m4 := HKA.out.cell (p := ⟨w.heap.size + 1, 1, none⟩) (Bt.notK HB.out (Nat.le_succ _)) b4
        obtain ⟨gg', gc', hge, _, k5⟩ := HG.out.2 y hyN
        cases hge
        have k6 : (wr.alloc (.cells #[.bool false, .int .i64 y] 102)).cell? ⟨gg, y, none⟩ = some (vg y) := (HK0.out.trans HKA.out).cell hgK k5
        have j2 : (0 : Int) ≤ (y : Int) := Int.natCast_nonneg _
        have j3 : (y : Int) < (N : Int) := by omega
        have j4 : (k : Int) + 1 ≤ (l.length : Int) := by omega
        have j5 : (l.length : Int) ≤ (lc : Int) := by omega
        have hw : IntKind.i64.wrap ((k : Int) + 1) = (k : Int) + 1 := IntWalk.i64_in _ (by omega)
        have j8 : (0 : Int) ≤ (k : Int) + 1 := by omega
        obtain ⟨ya, yc, hvy⟩ := Bt.slice (i := Iy.g y) (n := T + 1) HB.out (by simp [STab, sdom, hyN])
        have hvy' : vg y = .slice ya (T + 1) yc := hvy
        have first := putFirst_any (w := (wr.alloc (.cells #[.bool false, .int .i64 y] 102)).drew)
          (i := .g y) (lc := lc - (k + 1)) (gl := N) (gc := gc) (ga := some ⟨gg, 0, none⟩) (Bt.drew HA.out) (by show B ≤ (wr.alloc _).heap.size; simp; omega) (n := T + 1) (by simp [sdom, hyN]) (by omega) (by simp) (HF.out.kept (HK0.out.trans HKA.out).drew)
          ((HL.out.drop (c := lc) (k + 1) hlc (by omega)).below ((HK0.out.trans HKA.out).drew.below (fun b hb => Bt.ge HB.out hb) hB)) (fun s hs => HI.out s (List.mem_of_mem_drop hs)) (by omega) (by simp; omega)
        have first' : Calls Try.prog 59 #[.agg #[.slice na N nc, .slice fa N fc, .slice (some ⟨gg, 0, none⟩) N gc], vg y, .slice (if lc = k + 1 then some ⟨b', o', none⟩ else some ⟨b', o' + (k + 1) * 2, none⟩) (l.drop (k + 1)).length (lc - (k + 1)), .func (.func 58) #[] #[.pointer (some ⟨gb, 0, none⟩)]] _ _ := first
        rw [List.length_drop, hvy'] at first'
        clear first hvy hstep hin b0 b1 b2 b3 b4 k5
        go_upto_region 8 with fail
        go_cut [33] from 13 to 43 (fun s33 wx => s33 = .bool (pfX T (.g y) (l.drop (k + 1)) Y).2 ∧ Bt wx B (STab T N (.slice na N nc) vf vg gb) (pfX T (.g y) (l.drop (k + 1)) Y).1 ∧
          Kept (STab T N (.slice na N nc) vf vg gb).K (wr.alloc (.cells #[.bool false, .int .i64 y] 102)) wx)
        case first =>
          by_cases hck : lc = k + 1
          · subst hck
            rw [if_pos rfl, Nat.sub_self, show l.length - (k + 1) = 0 by omega] at first'
            refine wp_region_tail 8 (by kernel_rfl) (by kernel_rfl) ?_
            simp only [List.take_succ_cons, List.take_zero, List.drop_succ_cons, List.drop_zero]
            repeat still_step
            refine wpStill_nil ?_
            go_wp2_with (go_at_call 59; refine first'.mono ?_; rintro e w2 ⟨rfl, hB2, hK2⟩)
            go_meet
            case rel => exact ⟨rfl, hB2, (Kept.refl _ _).drew.trans hK2⟩
          · rw [if_neg hck] at first'
            refine wp_region_tail 8 (by kernel_rfl) (by kernel_rfl) ?_
            simp only [List.take_succ_cons, List.take_zero, List.drop_succ_cons, List.drop_zero]
            repeat still_step
            refine wpStill_nil ?_
            go_wp2_with (go_at_call 59; refine first'.mono ?_; rintro e w2 ⟨rfl, hB2, hK2⟩)
            go_meet
            case rel => exact ⟨rfl, hB2, (Kept.refl _ _).drew.trans hK2⟩
        case rest =>
          obtain ⟨rfl, hB2, hK2⟩ := hcut
          have n2 := hK2.cell (p := ⟨w.heap.size, 2, none⟩) (Bt.notK HB.out (Nat.le_refl _)) m2
          have n3 := hK2.cell (p := ⟨w.heap.size + 1, 0, none⟩) (Bt.notK HB.out (Nat.le_succ _)) m3
          have n5 := ((HK0.out.trans HKA.out).trans hK2).cell hgK HgL.out
          have HB2 : Hid (Bt wc B (STab T N (.slice na N nc) vf vg gb) (pfX T (.g y) (l.drop (k + 1)) Y).1) := hB2
          have HK2 : Hid (Kept (STab T N (.slice na N nc) vf vg gb).K ((w.alloc (.cells #[.slice na N nc, .slice fa N fc, .slice (some ⟨gg, 0, none⟩) N gc] 86)).alloc (.cells #[.int .i64 L, .slice (some ⟨b', o', none⟩) l.length lc] 28)) wc) := (HKr.out.trans HKA.out).trans hK2
          have j6 : (0 : Int) ≤ (L : Int) := Int.natCast_nonneg _
          have j7 : (L : Int) < (N : Int) := by omega
          clear hB2 hK2 first' m0 m1 m2 m3 m4 k6 k3' k4'
          cases hz : (pfX T (.g y) (l.drop (k + 1)) Y).2 with
          | true =>
            have all := putAll_any (i := .g y) (j := .g L) (n := T + 1) (nj := T + 1) HB2.out (by simp [sdom, hyN]) (by simp [sdom, hL]) (Nat.le_refl _) (by simp) (by omega)
            have all' : Calls Try.prog 60 #[vg y, vg L, .func (.func 58) #[] #[.pointer (some ⟨gb, 0, none⟩)]] _ _ := all
            rw [hvy'] at all'
            rw [hz] at HS
            clear hz all
            go_wp2_with (go_at_call 60; refine all'.mono ?_; rintro e w2 ⟨rfl, hB3, hK3⟩)
            go_roundw
            case rel => exact ⟨k + 1, by go_num, by omega, by rw [HS.out]; exact hB3, HK2.out.trans hK3⟩
            case measure => simp [intOf]; omega
          | false =>
            rw [hz] at HS
            clear hz
            go_wp2_with fail
            go_roundw
            case rel => exact ⟨k + 1, by go_num, by omega, by rw [HS.out]; exact HB2.out, HK2.out⟩
            case measure => simp [intOf]; omega
    · obtain rfl : k = l.length := by omega
      have HS : Hid (behindX T L l X = Y) := HY.out
      go_wp2_with fail
      go_end0
      exact ⟨rfl, by rw [HS.out]; exact HBr.out, HK0.out⟩
end

end Go.Proofs.Ytobegekmgoiopaa
