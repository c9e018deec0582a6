/- The contract of the program's sets.growAhead; what growing is, as plain functions. -/
import Derived.Test.YtlfjnljidehljaaSetsPut
import Derived.Deep.DrawnRows
namespace Go.Proofs.Ytlfjnljidehljaa
open Go.RowKit

def aheadX (T : Nat) (L : Nat) (l : List Sy) (X : Xs) : Xs := if (pfX T (.f L) l X).2 then putX (pfX T (.f L) l X).1 .null L else (pfX T (.f L) l X).1
def stepX (T : Nat) (L : Nat) (l : List Sy) (k : Nat) (Y : Xs) : Xs :=
  if (l.getD k (false, 0)).1 then Y else
    if (pfX T (.g (l.getD k (false, 0)).2.toNat) (l.drop (k + 1)) Y).2 then putAllX (.g (l.getD k (false, 0)).2.toNat) (.g L) (T + 1) (pfX T (.g (l.getD k (false, 0)).2.toNat) (l.drop (k + 1)) Y).1
    else (pfX T (.g (l.getD k (false, 0)).2.toNat) (l.drop (k + 1)) Y).1
def behindX (T : Nat) (L : Nat) (l : List Sy) (X : Xs) : Xs := loopN l.length (stepX T L l) X

theorem RightAt.drop {w : World} {B b o c : Nat} {l : List Sy} (h : RightAt w B (some ⟨b, o, none⟩) l) (n : Nat) (hc : l.length ≤ c) (hn : n ≤ l.length) :
    RightAt w B (if c = n then some ⟨b, o, none⟩ else some ⟨b, o + n * 2, none⟩) (l.drop n) := fun j hj => by
  have hl : (l.drop n).length = l.length - n := by simp
  rw [hl] at hj
  obtain ⟨b', o', e, h0, h1, h2⟩ := h (n + j) (by omega)
  cases e
  have hg : (l.drop n).getD j (false, 0) = l.getD (n + j) (false, 0) := by simp [List.getD]
  refine ⟨b, o + n * 2, by rw [if_neg (by omega)], h0, ?_, ?_⟩
  · rw [hg, ← h1]; congr 2; omega
  · rw [hg, ← h2]; congr 2; omega

section
variable {T N : Nat} {nv : Value} {vf vg : Nat → Value} {gb : Nat}

set_option maxRecDepth 100000 in
set_option maxHeartbeats 3200000 in
theorem growAhead_any {w : World} {B lc L gl gc : Nat} {fv : Value} {la ga : Option Addr} {X : Xs} {l : List Sy} (h : Bt w B (STab T N nv vf vg gb) X) (hB : B ≤ w.heap.size) (hL : L < N)
    (hF : Heads w (STab T N nv vf vg gb).K N fv vf) (hl : RightAt w B la l) (hin : ∀ s ∈ l, 0 ≤ s.2 ∧ s.2 < if s.1 then (T : Int) else (N : Int)) (hT : T ≤ 1000) (h8 : l.length ≤ 1000) :
    Calls Try.prog 28 #[.agg #[nv, fv, .slice ga gl gc], .agg #[.int .i64 L, .slice la l.length lc], .func (.func 25) #[] #[.pointer (some ⟨gb, 0, none⟩)]] w fun e w' =>
      e = .returned (.tuple #[]) ∧ Bt w' B (STab T N nv vf vg gb) (aheadX T L l X) ∧ Kept (STab T N nv vf vg gb).K w w' := by
  obtain ⟨na, nc, hvn'⟩ := Bt.slice (i := Iy.null) (n := N) h rfl
  have hvn : nv = .slice na N nc := hvn'
  clear hvn'
  obtain ⟨fg, fc, hfv, hfK, hfc⟩ := hF.2 L hL
  subst hvn
  subst hfv
  obtain ⟨ia, ic, hvi⟩ := Bt.slice (i := Iy.f L) (n := T) h (by simp [STab, sdom, hL])
  have hvi' : vf L = .slice ia T ic := hvi
  have hK0 : Kept (STab T N (.slice na N nc) vf vg gb).K w ((w.alloc (.cells #[.slice na N nc, .slice (some ⟨fg, 0, none⟩) N fc, .slice ga gl gc] 43)).alloc (.cells #[.int .i64 L, .slice la l.length lc] 35)) := ((Kept.refl _ _).alloc _).alloc _
  have first := putFirst_any (w := ((w.alloc (.cells #[.slice na N nc, .slice (some ⟨fg, 0, none⟩) N fc, .slice ga gl gc] 43)).alloc (.cells #[.int .i64 L, .slice la l.length lc] 35)).drew)
    (i := .f L) (lc := lc) (gl := gl) (gc := gc) (ga := ga) (Bt.drew (Bt.alloc (Bt.alloc h _) _)) (by show B ≤ ((w.alloc _).alloc _).heap.size; simp; omega) (n := T) (by simp [sdom, hL]) (Nat.le_refl _) (by simp) (hF.kept hK0.drew) (hl.below (hK0.drew.below (fun b hb => Bt.ge h hb) hB)) hin hT h8
  have first' : Calls Try.prog 35 #[.agg #[.slice na N nc, .slice (some ⟨fg, 0, none⟩) N fc, .slice ga gl gc], vf L, .slice la l.length lc, .func (.func 25) #[] #[.pointer (some ⟨gb, 0, none⟩)]] _ _ := first
  rw [hvi'] at first'
  have HB : Hid (Bt w B (STab T N (.slice na N nc) vf vg gb) X) := h
  have HK0 : Hid (Kept (STab T N (.slice na N nc) vf vg gb).K w ((w.alloc (.cells #[.slice na N nc, .slice (some ⟨fg, 0, none⟩) N fc, .slice ga gl gc] 43)).alloc (.cells #[.int .i64 L, .slice la l.length lc] 35))) := hK0
  have k6 : ((w.alloc (.cells #[.slice na N nc, .slice (some ⟨fg, 0, none⟩) N fc, .slice ga gl gc] 43)).alloc (.cells #[.int .i64 L, .slice la l.length lc] 35)).cell? ⟨fg, L, none⟩ = some (vf L) := hK0.cell hfK hfc
  have j2 : (0 : Int) ≤ (L : Int) := Int.natCast_nonneg _
  have j3 : (L : Int) < (N : Int) := by omega
  clear h hF hl hin hK0 first hfc hvi
  go_enter Try.func28, Try.ntmps28
  go_upto_region 2 with fail
  go_cut [16] from 6 to 22 (fun s16 wx => s16 = .bool (pfX T (.f L) l X).2 ∧ Bt wx B (STab T N (.slice na N nc) vf vg gb) (pfX T (.f L) l X).1 ∧
    Kept (STab T N (.slice na N nc) vf vg gb).K ((w.alloc (.cells #[.slice na N nc, .slice (some ⟨fg, 0, none⟩) N fc, .slice ga gl gc] 43)).alloc (.cells #[.int .i64 L, .slice la l.length lc] 35)) wx)
  case first =>
    refine wp_region_tail 10 (by kernel_rfl) (by kernel_rfl) ?_
    simp only [List.take_succ_cons, List.take_zero, List.drop_succ_cons, List.drop_zero]
    repeat still_step
    refine wpStill_nil ?_
    go_wp2_with (go_at_call 35; refine first'.mono ?_; rintro e w2 ⟨rfl, hB2, hK2⟩)
    go_meet
    case rel => exact ⟨rfl, hB2, (Kept.refl _ _).drew.trans hK2⟩
  case rest =>
    obtain ⟨rfl, hB2, hK2⟩ := hcut
    have b0 := hK2.cell (p := ⟨w.heap.size, 0, none⟩) (Bt.notK HB.out (Nat.le_refl _)) (v := .slice na N nc) (by simp [go_sem])
    have b1 := hK2.cell (p := ⟨w.heap.size + 1, 0, none⟩) (Bt.notK HB.out (Nat.le_succ _)) (v := .int .i64 L) (by simp [go_sem])
    have HB2 : Hid (Bt wc B (STab T N (.slice na N nc) vf vg gb) (pfX T (.f L) l X).1) := hB2
    have HK2 : Hid (Kept (STab T N (.slice na N nc) vf vg gb).K w wc) := HK0.out.trans hK2
    clear hB2 hK2 first' k6
    cases hz : (pfX T (.f L) l X).2 with
    | true =>
      have put := put_any (i := .null) HB2.out (n := N) rfl hL (by simp)
      have put' : Calls Try.prog 25 #[.slice na N nc, .int .i64 L, .pointer (some ⟨gb, 0, none⟩)] _ _ := put
      have HP : Hid (aheadX T L l X = putX (pfX T (.f L) l X).1 .null L) := by show aheadX T L l X = _; simp [aheadX, hz]
      clear hz put
      go_wp2_with (go_at_call 25; refine put'.mono ?_; rintro e w2 ⟨rfl, hB3, hK3⟩)
      go_end0
      exact ⟨rfl, by rw [HP.out]; exact hB3, HK2.out.trans hK3⟩
    | false =>
      have HP : Hid (aheadX T L l X = (pfX T (.f L) l X).1) := by show aheadX T L l X = _; simp [aheadX, hz]
      clear hz
      go_wp2_with fail
      go_end0
      exact ⟨rfl, by rw [HP.out]; exact HB2.out, HK2.out⟩

end

end Go.Proofs.Ytlfjnljidehljaa
