/- The contracts of the program's reach.allIn and reach.putNames; the rows of package reach. -/
import Derived.Test.YtifacfhlgilgoaaReachMath
namespace Go.Proofs.Ytifacfhlgilgoaa
open Go.RowKit

def VTab (dom : Iv → Option Nat) (va vb : Value) (vr : Nat → Value) (gb : Nat) : Tab Iv := ⟨fun | .gr => .slice (some ⟨gb, 0, none⟩) 1 1 | .a => va | .b => vb | .r n => vr n, dom⟩
theorem vmark {dom : Iv → Option Nat} {va vb : Value} {vr : Nat → Value} {gb : Nat} (h : dom .gr = some 1) : Mark (VTab dom va vb vr gb) .gr gb := ⟨rfl, h⟩

set_option maxRecDepth 100000 in
set_option maxHeartbeats 1600000 in
theorem allIn_any {ι : Type} {c : Tab ι} {w : World} {B N lc : Nat} {la : Option Addr} {i : ι} {X : ι → List Bool} {l : List Sy} (h : Bt w B c X) (hB : B ≤ w.heap.size) (hd : c.dom i = some N) (hl : RightAt w B la l) (hin : ∀ s ∈ l, s.1 = false → 0 ≤ s.2 ∧ s.2 < (N : Int)) (h8 : l.length ≤ 1000) :
    Calls Try.prog 11 #[c.V i, .slice la l.length lc] w fun e w' => e = .returned (.bool (allB (X i) l)) ∧ Below w.heap.size w w' := by
  obtain ⟨va, vc, hv⟩ := Bt.slice h hd
  have HB : Hid (Bt w B c X) := h
  have HV : Hid (c.V i = .slice va N vc) := hv
  have HL : Hid (RightAt w B la l) := hl
  have HI : Hid (∀ s ∈ l, s.1 = false → 0 ≤ s.2 ∧ s.2 < (N : Int)) := hin
  rw [hv]
  clear h hv hl hin
  go_enter Try.func11, Try.ntmps11
  go_wp2_with fail
  go_loopw [9] (fun s wr => ∃ k : Nat, s = .int .i64 k ∧ k ≤ l.length ∧ allB (X i) (l.take k) = true ∧ Below w.heap.size w wr) (fun s _ => l.length - (intOf s).toNat)
  case atStart => exact ⟨0, rfl, Nat.zero_le _, rfl, Below.refl _ _⟩
  case round =>
    obtain ⟨k, rfl, hk, hn, hb⟩ := hrel
    have HN : Hid (allB (X i) (l.take k) = true) := hn
    have HBe : Hid (Below w.heap.size w wr) := hb
    have HBr : Hid (Bt wr B c X) := Bt.below HB.out hb
    clear hn hb
    by_cases hlt : k < l.length
    · obtain ⟨b', o', hqa, hb', k3, k4⟩ := HL.out k hlt
      subst hqa
      have hmem : l.getD k (false, 0) ∈ l := by simp [List.getD, hlt]
      have hr := HI.out _ hmem
      obtain ⟨⟨t, v⟩, hs⟩ : ∃ x, l.getD k (false, 0) = x := ⟨_, rfl⟩
      have HT := allB_take (X i) l k hlt
      have HBd := allB_bad (X i) l k hlt
      rw [hs] at k3 k4 hr HT HBd
      rw [HN.out, Bool.true_and] at HT
      have HT' : Hid (allB (X i) (l.take (k + 1)) = (t || (X i).getD v.toNat false)) := HT
      have HB' : Hid ((t || (X i).getD v.toNat false) = false → allB (X i) l = false) := HBd
      have k3' : wr.cell? ⟨b', o' + k * 2, none⟩ = some (.bool t) := (HBe.out.cell (p := ⟨b', o' + k * 2, none⟩) (by simp only; omega)).trans k3
      have k4' : wr.cell? ⟨b', o' + k * 2 + 1, none⟩ = some (.int .i64 v) := by rw [Nat.add_assoc]; exact (HBe.out.cell (p := ⟨b', o' + (k * 2 + 1), none⟩) (by simp only; omega)).trans k4
      have j0 : (0 : Int) ≤ (k : Int) := Int.natCast_nonneg _
      have j1 : (k : Int) < (l.length : Int) := by omega
      have HA : Hid (Below w.heap.size w (wr.alloc (.cells #[.bool t, .int .i64 v] 45))) := HBe.out.alloc HBe.out.size _
      clear hs hmem HT HBd k3 k4
      cases t with
      | true =>
        go_wp2_with fail
        go_roundw
        case rel => exact ⟨k + 1, by go_num, by omega, by rw [HT'.out]; rfl, HA.out⟩
        case measure => simp [intOf]; omega
      | false =>
        have hr' : 0 ≤ v ∧ v < (N : Int) := hr rfl
        clear hr
        obtain ⟨y, rfl⟩ : ∃ y : Nat, v = y := ⟨v.toNat, by omega⟩
        obtain ⟨g, cap, hv, _, hgl⟩ := Bt.form HBr.out hd (by omega)
        have hv' := HV.out
        rw [hv] at hv'
        cases hv'
        obtain ⟨k5, _⟩ := Bt.cell HBr.out hd hv (m := y) (by omega)
        have k6 : (wr.alloc (.cells #[.bool false, .int .i64 y] 45)).cell? ⟨g, y, none⟩ = some (.bool (bit X i y)) := by rw [World.cell?_alloc_past _ _ _ hgl]; exact k5
        have j2 : (0 : Int) ≤ (y : Int) := Int.natCast_nonneg _
        have j3 : (y : Int) < (N : Int) := by omega
        obtain ⟨z, hz⟩ : ∃ z, bit X i y = z := ⟨_, rfl⟩
        have hz' : (X i).getD y false = z := hz
        rw [hz] at k6
        simp only [Int.toNat_natCast, hz'] at HT' HB'
        clear hz hz' hr' k5 hv
        cases z with
        | true =>
          go_wp2_with fail
          go_roundw
          case rel => exact ⟨k + 1, by go_num, by omega, by rw [HT'.out]; rfl, HA.out⟩
          case measure => simp [intOf]; omega
        | false =>
          go_wp2_with fail
          go_ret
          exact ⟨by rw [HB'.out (by simp)]; rfl, HA.out⟩
    · go_wp2_with fail
      go_ret
      exact ⟨by rw [← HN.out, List.take_of_length_le (by omega)]; rfl, HBe.out⟩

set_option maxRecDepth 100000 in
set_option maxHeartbeats 1600000 in
theorem putNames_any {w : World} {B N lc gb : Nat} {dom : Iv → Option Nat} {va vb : Value} {vr : Nat → Value} {la : Option Addr} {X : Vs} {l : List Sy} (h : Bt w B (VTab dom va vb vr gb) X) (hB : B ≤ w.heap.size) (hgr : dom .gr = some 1) (hd : dom .b = some N) (hl : RightAt w B la l) (hin : ∀ s ∈ l, s.1 = false → 0 ≤ s.2 ∧ s.2 < (N : Int)) (h8 : l.length ≤ 1000) :
    Calls Try.prog 13 #[vb, .slice la l.length lc, .func (.func 15) #[] #[.pointer (some ⟨gb, 0, none⟩)]] w fun e w' => e = .returned (.tuple #[]) ∧ Bt w' B (VTab dom va vb vr gb) (namesX l X) ∧ Kept (VTab dom va vb vr gb).K w w' := by
  obtain ⟨ba, bc, hv'⟩ := Bt.slice (i := Iv.b) h hd
  have hv : vb = .slice ba N bc := hv'
  subst hv
  have HB : Hid (Bt w B (VTab dom va (.slice ba N bc) vr gb) X) := h
  have HL : Hid (RightAt w B la l) := hl
  have HI : Hid (∀ s ∈ l, s.1 = false → 0 ≤ s.2 ∧ s.2 < (N : Int)) := hin
  clear h hv' hl hin
  go_enter Try.func13, Try.ntmps13
  go_wp2_with fail
  go_loopw [10] (fun s wr => ∃ k : Nat, s = .int .i64 k ∧ k ≤ l.length ∧ Bt wr B (VTab dom va (.slice ba N bc) vr gb) (loopN k (nameX l) X) ∧ Kept (VTab dom va (.slice ba N bc) vr gb).K w wr) (fun s _ => l.length - (intOf s).toNat)
  case atStart => exact ⟨0, rfl, Nat.zero_le _, HB.out, Kept.refl _ _⟩
  case round =>
    obtain ⟨k, rfl, hk, hBr, hKr⟩ := hrel
    obtain ⟨Y, hY⟩ : ∃ Y, loopN k (nameX l) X = Y := ⟨_, rfl⟩
    rw [hY] at hBr
    have HY : Hid (loopN k (nameX l) X = Y) := hY
    have HBr : Hid (Bt wr B (VTab dom va (.slice ba N bc) vr gb) Y) := hBr
    have HKr : Hid (Kept (VTab dom va (.slice ba N bc) vr gb).K w wr) := hKr
    have HBL : Hid (Below B w wr) := hKr.below (fun b hb => Bt.ge HB.out hb) hB
    clear hY hBr hKr
    by_cases hlt : k < l.length
    · obtain ⟨b', o', hqa, hb', k3, k4⟩ := HL.out k hlt
      subst hqa
      have hmem : l.getD k (false, 0) ∈ l := by simp [List.getD, hlt]
      have hr := HI.out _ hmem
      have hstep : loopN (k + 1) (nameX l) X = if (l.getD k (false, 0)).1 then Y else putG .gr Y .b (l.getD k (false, 0)).2.toNat := by rw [← HY.out]; rfl
      obtain ⟨⟨t, v⟩, hs⟩ : ∃ x, l.getD k (false, 0) = x := ⟨_, rfl⟩
      rw [hs] at k3 k4 hr hstep
      have k3' : wr.cell? ⟨b', o' + k * 2, none⟩ = some (.bool t) := (HBL.out.cell (p := ⟨b', o' + k * 2, none⟩) hb').trans k3
      have k4' : wr.cell? ⟨b', o' + k * 2 + 1, none⟩ = some (.int .i64 v) := by rw [Nat.add_assoc]; exact (HBL.out.cell (p := ⟨b', o' + (k * 2 + 1), none⟩) hb').trans k4
      have j0 : (0 : Int) ≤ (k : Int) := Int.natCast_nonneg _
      have j1 : (k : Int) < (l.length : Int) := by omega
      have HA : Hid (Bt (wr.alloc (.cells #[.bool t, .int .i64 v] 45)) B (VTab dom va (.slice ba N bc) vr gb) Y) := Bt.alloc HBr.out _
      have HKA : Hid (Kept (VTab dom va (.slice ba N bc) vr gb).K w (wr.alloc (.cells #[.bool t, .int .i64 v] 45))) := HKr.out.alloc _
      have HS : Hid (loopN (k + 1) (nameX l) X = if t then Y else putG .gr Y .b v.toNat) := hstep
      clear hs hmem k3 k4 hstep
      cases t with
      | true =>
        go_wp2_with fail
        go_roundw
        case rel => exact ⟨k + 1, by go_num, by omega, by rw [HS.out]; exact HA.out, HKA.out⟩
        case measure => simp [intOf]; omega
      | false =>
        have hr' : 0 ≤ v ∧ v < (N : Int) := hr rfl
        clear hr
        obtain ⟨y, rfl⟩ : ∃ y : Nat, v = y := ⟨v.toNat, by omega⟩
        have put := put_gen (i := Iv.b) (m := y) HA.out (vmark hgr) hd (by omega) (by simp)
        have put' : Calls Try.prog 15 #[.slice ba N bc, .int .i64 y, .pointer (some ⟨gb, 0, none⟩)] _ _ := put
        clear put hr'
        go_wp2_with (go_at_call 15; refine put'.mono ?_; rintro e w2 ⟨rfl, hB2, hK2⟩)
        go_roundw
        case rel => exact ⟨k + 1, by go_num, by omega, by rw [HS.out]; simpa using hB2, HKA.out.trans hK2⟩
        case measure => simp [intOf]; omega
    · obtain rfl : k = l.length := by omega
      go_wp2_with fail
      go_end0
      exact ⟨rfl, by show Bt _ _ _ (loopN l.length (nameX l) X); rw [HY.out]; exact HBr.out, HKr.out⟩

end Go.Proofs.Ytifacfhlgilgoaa
