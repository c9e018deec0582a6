/- The rows of the program's package sets; the contract of sets.putFirst. -/
import Derived.Test.YtlfjnljidehljaaGrow
namespace Go.Proofs.Ytlfjnljidehljaa
open Go.RowKit

/-- The rows of the program's sets, and the truth that tells whether any has grown. -/
inductive Iy where
  | null | gr
  | f (n : Nat)
  | g (n : Nat)
  deriving DecidableEq

abbrev Xs := Iy → List Bool

def putX (X : Xs) (i : Iy) (m : Nat) : Xs := if bit X i m then X else setX (setX X i m true) .gr 0 true
def putAllX (i j : Iy) (n : Nat) (X : Xs) : Xs := loopN n (fun m Y => if bit Y j m then putX Y i m else Y) X
def pfX (T : Nat) (i : Iy) : List Sy → Xs → Xs × Bool
  | [], X => (X, true)
  | s :: l, X => if s.1 then (putX X i s.2.toNat, false) else
      if bit (putAllX i (.f s.2.toNat) T X) .null s.2.toNat then pfX T i l (putAllX i (.f s.2.toNat) T X) else (putAllX i (.f s.2.toNat) T X, false)

def sdom (T N : Nat) : Iy → Option Nat
  | .null => some N
  | .gr => some 1
  | .f n => if n < N then some T else none
  | .g n => if n < N then some (T + 1) else none
def STab (T N : Nat) (nv : Value) (vf vg : Nat → Value) (gb : Nat) : Tab Iy :=
  ⟨fun | .null => nv | .gr => .slice (some ⟨gb, 0, none⟩) 1 1 | .f n => vf n | .g n => vg n, sdom T N⟩

/-- The values vs lie in memory at a slice value, outside K. -/
def Heads (w : World) (K : Nat → Prop) (N : Nat) (fv : Value) (vs : Nat → Value) : Prop :=
  (∃ a c, fv = .slice a N c) ∧ ∀ n, n < N → ∃ g c, fv = .slice (some ⟨g, 0, none⟩) N c ∧ ¬ K g ∧ w.cell? ⟨g, n, none⟩ = some (vs n)
theorem Heads.kept {w w' : World} {K : Nat → Prop} {N : Nat} {fv : Value} {vs : Nat → Value} (h : Heads w K N fv vs) (hk : Kept K w w') : Heads w' K N fv vs :=
  ⟨h.1, fun n hn => let ⟨g, c, h1, h2, h3⟩ := h.2 n hn; ⟨g, c, h1, h2, hk.cell h2 h3⟩⟩

section
variable {T N : Nat} {nv : Value} {vf vg : Nat → Value} {gb : Nat}

theorem stab_mark (T N : Nat) (nv : Value) (vf vg : Nat → Value) (gb : Nat) : Mark (STab T N nv vf vg gb) .gr gb := ⟨rfl, rfl⟩

theorem put_any {w : World} {B n m : Nat} {i : Iy} {X : Xs} (h : Bt w B (STab T N nv vf vg gb) X) (hd : sdom T N i = some n) (hm : m < n) (hi : i ≠ .gr) :
    Calls Try.prog 25 #[(STab T N nv vf vg gb).V i, .int .i64 m, .pointer (some ⟨gb, 0, none⟩)] w fun e w' => e = .returned (.tuple #[]) ∧ Bt w' B (STab T N nv vf vg gb) (putX X i m) ∧ Kept (STab T N nv vf vg gb).K w w' := put_gen h (stab_mark T N nv vf vg gb) hd hm hi

theorem putAll_any {w : World} {B n nj : Nat} {i j : Iy} {X : Xs} (h : Bt w B (STab T N nv vf vg gb) X) (hd : sdom T N i = some n) (hdj : sdom T N j = some nj) (hle : nj ≤ n) (hi : i ≠ .gr) (hs : nj ≤ 1000) :
    Calls Try.prog 30 #[(STab T N nv vf vg gb).V i, (STab T N nv vf vg gb).V j, .func (.func 25) #[] #[.pointer (some ⟨gb, 0, none⟩)]] w fun e w' => e = .returned (.tuple #[]) ∧ Bt w' B (STab T N nv vf vg gb) (putAllX i j nj X) ∧ Kept (STab T N nv vf vg gb).K w w' := putAll_gen h (stab_mark T N nv vf vg gb) hd hdj hle hi hs

set_option maxRecDepth 100000 in
set_option maxHeartbeats 3200000 in
theorem putFirst_any {w : World} {B n lc gl gc : Nat} {fv : Value} {la ga : Option Addr} {i : Iy} {X : Xs} {l : List Sy} (h : Bt w B (STab T N nv vf vg gb) X) (hB : B ≤ w.heap.size) (hd : sdom T N i = some n) (hTn : T ≤ n) (hi : i ≠ .gr)
    (hF : Heads w (STab T N nv vf vg gb).K N fv vf) (hl : RightAt w B la l) (hin : ∀ s ∈ l, 0 ≤ s.2 ∧ s.2 < if s.1 then (T : Int) else (N : Int)) (hT : T ≤ 1000) (h8 : l.length ≤ 1000) :
    Calls Try.prog 35 #[.agg #[nv, fv, .slice ga gl gc], (STab T N nv vf vg gb).V i, .slice la l.length lc, .func (.func 25) #[] #[.pointer (some ⟨gb, 0, none⟩)]] w fun e w' =>
      e = .returned (.bool (pfX T i l X).2) ∧ Bt w' B (STab T N nv vf vg gb) (pfX T i l X).1 ∧ Kept (STab T N nv vf vg gb).K w w' := by
  obtain ⟨ia, ic, hvi⟩ := Bt.slice h hd
  obtain ⟨na, nc, hvn'⟩ := Bt.slice (i := Iy.null) (n := N) h rfl
  have hvn : nv = .slice na N nc := hvn'
  clear hvn'
  obtain ⟨fa, fc, hfv⟩ := hF.1
  subst hvn
  subst hfv
  have HB : Hid (Bt w B (STab T N (.slice na N nc) vf vg gb) X) := h
  have HV : Hid ((STab T N (.slice na N nc) vf vg gb).V i = .slice ia n ic) := hvi
  have HF : Hid (Heads w (STab T N (.slice na N nc) vf vg gb).K N (.slice fa N fc) vf) := hF
  have HL : Hid (RightAt w B la l) := hl
  have HI : Hid (∀ s ∈ l, 0 ≤ s.2 ∧ s.2 < if s.1 then (T : Int) else (N : Int)) := hin
  rw [hvi]
  clear h hvi hF hl hin
  go_enter Try.func35, Try.ntmps35
  go_wp2_with fail
  go_loopw [13] (fun s wr => ∃ k : Nat, s = .int .i64 k ∧ k ≤ l.length ∧ ∃ Y, pfX T i l X = pfX T i (l.drop k) Y ∧ Bt wr B (STab T N (.slice na N nc) vf vg gb) Y ∧
      Kept (STab T N (.slice na N nc) vf vg gb).K (w.alloc (.cells #[.slice na N nc, .slice fa N fc, .slice ga gl gc] 43)) wr) (fun s _ => l.length - (intOf s).toNat)
  case atStart => exact ⟨0, rfl, Nat.zero_le _, X, rfl, Bt.alloc HB.out _, Kept.refl _ _⟩
  case round =>
    obtain ⟨k, rfl, hk, Y, hY, hBr, hKr⟩ := hrel
    have HY : Hid (pfX T i l X = pfX T i (l.drop k) Y) := hY
    have HBr : Hid (Bt wr B (STab T N (.slice na N nc) vf vg gb) Y) := hBr
    have HKr : Hid (Kept (STab T N (.slice na N nc) vf vg gb).K (w.alloc (.cells #[.slice na N nc, .slice fa N fc, .slice ga gl gc] 43)) wr) := hKr
    have HK0 : Hid (Kept (STab T N (.slice na N nc) vf vg gb).K w wr) := ((Kept.refl _ _).alloc _).trans hKr
    have hsz : w.heap.size + 1 ≤ wr.heap.size := by have := hKr.size; simpa using this
    have b0 : wr.cell? ⟨w.heap.size, 0, none⟩ = some (.slice na N nc) := hKr.cell (Bt.notK HB.out (Nat.le_refl _)) (by simp [go_sem])
    have b1 : wr.cell? ⟨w.heap.size, 1, none⟩ = some (.slice fa N fc) := hKr.cell (Bt.notK HB.out (Nat.le_refl _)) (by simp [go_sem])
    have HBL : Hid (Below B w wr) := HK0.out.below (fun b hb => Bt.ge HB.out hb) hB
    clear hY hBr hKr
    by_cases hlt : k < l.length
    · obtain ⟨b', o', hqa, hb', k3, k4⟩ := HL.out k hlt
      subst hqa
      have hmem : l.getD k (false, 0) ∈ l := by simp [List.getD, hlt]
      have hin := HI.out _ hmem
      have hdrop : l.drop k = l.getD k (false, 0) :: l.drop (k + 1) := by rw [List.drop_eq_getElem_cons hlt]; simp [List.getD, hlt]
      obtain ⟨⟨t, v⟩, hsy⟩ : ∃ x, l.getD k (false, 0) = x := ⟨_, rfl⟩
      rw [hsy] at k3 k4 hin hdrop
      simp only at hin
      obtain ⟨y, rfl⟩ : ∃ y : Nat, v = y := ⟨v.toNat, by omega⟩
      have k3' : wr.cell? ⟨b', o' + k * 2, none⟩ = some (.bool t) := (HBL.out.cell (p := ⟨b', o' + k * 2, none⟩) hb').trans k3
      have k4' : wr.cell? ⟨b', o' + k * 2 + 1, none⟩ = some (.int .i64 y) := by rw [Nat.add_assoc]; exact (HBL.out.cell (p := ⟨b', o' + (k * 2 + 1), none⟩) hb').trans k4
      have j0 : (0 : Int) ≤ (k : Int) := Int.natCast_nonneg _
      have j1 : (k : Int) < (l.length : Int) := by omega
      have m0 : (wr.alloc (.cells #[.bool t, .int .i64 y] 48)).cell? ⟨w.heap.size, 0, none⟩ = some (.slice na N nc) := by rw [World.cell?_alloc_past _ _ _ (by omega)]; exact b0
      have m1 : (wr.alloc (.cells #[.bool t, .int .i64 y] 48)).cell? ⟨w.heap.size, 1, none⟩ = some (.slice fa N fc) := by rw [World.cell?_alloc_past _ _ _ (by omega)]; exact b1
      have HA : Hid (Bt (wr.alloc (.cells #[.bool t, .int .i64 y] 48)) B (STab T N (.slice na N nc) vf vg gb) Y) := Bt.alloc HBr.out _
      have HKA : Hid (Kept (STab T N (.slice na N nc) vf vg gb).K w (wr.alloc (.cells #[.bool t, .int .i64 y] 48))) := HK0.out.alloc _
      have HD : Hid (l.drop k = (t, (y : Int)) :: l.drop (k + 1)) := hdrop
      clear hmem hsy k3 k4 b0 b1 hdrop
      cases t with
      | true =>
        have hyT : y < T := by simp at hin; omega
        have put := put_any HA.out hd (m := y) (by omega) hi
        rw [HV.out] at put
        have HP : Hid (pfX T i l X = (putX Y i y, false)) := by
          show pfX T i l X = _
          rw [HY.out, HD.out]
          simp [pfX]
        clear hin
        go_wp2_with (go_at_call 25; refine put.mono ?_; rintro e w2 ⟨rfl, hB2, hK2⟩)
        go_ret
        exact ⟨by rw [HP.out]; rfl, by rw [HP.out]; exact hB2, HKA.out.trans hK2⟩
      | false =>
        have hyN : y < N := by simp at hin; omega
        have all := putAll_any (i := i) (j := .f y) (nj := T) HA.out hd (by simp [sdom, hyN]) hTn hi hT
        rw [HV.out] at all
        have all' : Calls Try.prog 30 #[.slice ia n ic, vf y, .func (.func 25) #[] #[.pointer (some ⟨gb, 0, none⟩)]] _ _ := all
        obtain ⟨fg, fc', hfe, hnK, k5⟩ := HF.out.2 y hyN
        cases hfe
        have k6 : (wr.alloc (.cells #[.bool false, .int .i64 y] 48)).cell? ⟨fg, y, none⟩ = some (vf y) := HKA.out.cell hnK k5
        have j2 : (0 : Int) ≤ (y : Int) := Int.natCast_nonneg _
        have j3 : (y : Int) < (N : Int) := by omega
        have HP : Hid (pfX T i l X = if bit (putAllX i (.f y) T Y) .null y then pfX T i (l.drop (k + 1)) (putAllX i (.f y) T Y) else (putAllX i (.f y) T Y, false)) := by
          show pfX T i l X = _
          rw [HY.out, HD.out]
          simp [pfX]
        clear hin k5 all
        cases hz : bit (putAllX i (.f y) T Y) .null y with
        | true =>
          rw [hz] at HP
          have HZ : Hid (bit (putAllX i (.f y) T Y) .null y = true) := hz
          clear hz
          go_wp2_with
            (go_at_call 30; refine all'.mono ?_; rintro e w2 ⟨rfl, hB2, hK2⟩
             have n0 := hK2.cell (p := ⟨w.heap.size, 0, none⟩) (Bt.notK HB.out (Nat.le_refl _)) m0
             have n2 := hK2.cell (p := ⟨wr.heap.size, 1, none⟩) (Bt.notK HBr.out (Nat.le_refl _)) (v := .int .i64 y) (by simp [go_sem])
             obtain ⟨ng, nc', hne, _, _⟩ := Bt.form (i := Iy.null) (n := N) hB2 rfl (by omega)
             cases hne
             obtain ⟨n3, _⟩ := Bt.cell (i := Iy.null) (n := N) hB2 rfl rfl hyN
             rw [HZ.out] at n3
             have HB2 : Hid (Bt w2 B _ _) := hB2
             have HK2 : Hid (Kept _ _ w2) := hK2
             clear hB2 hK2)
          go_roundw
          case rel => exact ⟨k + 1, by go_num, by omega, _, HP.out, HB2.out, (HKr.out.alloc _).trans HK2.out⟩
          case measure => simp [intOf]; omega
        | false =>
          rw [hz] at HP
          have HZ : Hid (bit (putAllX i (.f y) T Y) .null y = false) := hz
          clear hz
          go_wp2_with
            (go_at_call 30; refine all'.mono ?_; rintro e w2 ⟨rfl, hB2, hK2⟩
             have n0 := hK2.cell (p := ⟨w.heap.size, 0, none⟩) (Bt.notK HB.out (Nat.le_refl _)) m0
             have n2 := hK2.cell (p := ⟨wr.heap.size, 1, none⟩) (Bt.notK HBr.out (Nat.le_refl _)) (v := .int .i64 y) (by simp [go_sem])
             obtain ⟨ng, nc', hne, _, _⟩ := Bt.form (i := Iy.null) (n := N) hB2 rfl (by omega)
             cases hne
             obtain ⟨n3, _⟩ := Bt.cell (i := Iy.null) (n := N) hB2 rfl rfl hyN
             rw [HZ.out] at n3
             have HB2 : Hid (Bt w2 B _ _) := hB2
             have HK2 : Hid (Kept _ _ w2) := hK2
             clear hB2 hK2)
          go_ret
          exact ⟨by rw [HP.out]; rfl, by rw [HP.out]; exact HB2.out, HKA.out.trans HK2.out⟩
    · obtain rfl : k = l.length := by omega
      have HP : Hid (pfX T i l X = (Y, true)) := by
        show pfX T i l X = _
        rw [HY.out, List.drop_length]
        rfl
      go_wp2_with fail
      go_ret
      exact ⟨by rw [HP.out]; rfl, by rw [HP.out]; exact HBr.out, HK0.out⟩
end

end Go.Proofs.Ytlfjnljidehljaa
