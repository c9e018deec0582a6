/- The law pollardingkeep.TextAgain: it returns true. -/
import Derived.Test.YtganeciagepcpaaDoorTxAg
import Derived.Test.YtganeciagepcpaaDoorTxPr
namespace Go.Proofs.YtganeciagepcpaaDoor
open Go.RowKit

def oneT : List UInt8 := [116, 101, 114, 109, 115, 32, 48, 32, 110, 97, 109, 101, 115, 32, 49, 10]
theorem oneT_ok : pOk oneT = true ∧ (all9 oneT).1.1 = 0 ∧ (all9 oneT).1.2.1 = 1 := by
  refine ⟨?_, ?_, ?_⟩ <;> decide +kernel

section
variable {w : World} {s : List UInt8}
set_option maxRecDepth 100000 in
set_option maxHeartbeats 3200000 in
theorem textAgain_ok (hs : s.length ≤ 9223372036854775807) (hok : pOk s = true) : Calls Tryd.prog 3 #[.string ⟨s.toArray⟩] w fun e w' => e = .returned (.bool true) ∧ Below w.heap.size w w' := by
  have one := parse_ok (w := w) (s := oneT) (by simp [oneT]) oneT_ok.1
  rw [oneT_ok.2.1, oneT_ok.2.2] at one
  obtain ⟨R0, hR0⟩ : ∃ x, (all9 oneT).1.2.2 = x := ⟨_, rfl⟩
  rw [hR0] at one
  unfold oneT at one
  clear hR0
  go_enter Tryd.func3, Tryd.ntmps3
  go_upto_region 4 with
    (go_at_call 4; refine one.mono ?_; rintro e w2 ⟨rv0, rfl, h0, h2⟩
     obtain ⟨a0, c0, hrv0⟩ := h0.1
     subst hrv0)
  obtain ⟨W3, hW3⟩ : ∃ V, (w2.alloc (.cells #[.int .i64 0, .int .i64 1, .slice a0 R0.length c0] 24)).alloc (.cells #[.int .i64 0, .int .i64 0] 27) = V := ⟨_, rfl⟩
  rw [hW3]
  have HB3 : Hid (Below w.heap.size w W3) := by
    have hz := h2.size
    show Below w.heap.size w W3
    rw [← hW3]
    exact (h2.alloc hz _).alloc (by simp; omega) _
  clear one h0 h2 hW3
  have two := parse_ok (w := W3) hs hok
  have htx := all_took hok
  simp only [pOk, Bool.and_eq_true] at hok
  obtain ⟨⟨⟨T, N, R⟩, k, ok⟩, hall⟩ : ∃ x, all9 s = x := ⟨_, rfl⟩
  rw [hall] at two htx hok
  simp only at two htx hok
  have HM : Hid (mayB (T : Int) (N : Int) R = true ∧ textB T N R = s) := ⟨hok.2, htx⟩
  clear hok htx hall
  go_wp2_with
    (first
     | (go_at_call 4; refine two.mono ?_; rintro e w4 ⟨rv, rfl, h4, h5⟩
        obtain ⟨ra, rc, hrv⟩ := h4.1
        subst hrv
        have pr := print_yes (T := T) (N := N) ((h4.boxed (.cells #[.int .i64 (T : Int), .int .i64 (N : Int), .slice ra R.length rc] 24)).boxed (.cells #[.int .i64 0, .int .i64 0] 27)) HM.out.1
        rw [HM.out.2] at pr
        have HB5 : Hid (Below w.heap.size w ((w4.alloc (.cells #[.int .i64 (T : Int), .int .i64 (N : Int), .slice ra R.length rc] 24)).alloc (.cells #[.int .i64 0, .int .i64 0] 27))) := by
          have h6 := HB3.out.trans (h5.mono HB3.out.size)
          have hz := h6.size
          exact (h6.alloc hz _).alloc (by simp; omega) _
        clear two h4 h5)
     | (go_at_call 5; refine pr.mono ?_; rintro e w6 ⟨rfl, h6⟩
        have HB6 : Hid (Below w.heap.size w w6) := HB5.out.trans (h6.mono HB5.out.size)
        clear pr h6))
  go_ret
  exact ⟨rfl, HB6.out⟩

set_option maxRecDepth 100000 in
set_option maxHeartbeats 3200000 in
theorem textAgain_may (hs : s.length ≤ 9223372036854775807) (hok1 : (all9 s).2.2 = true) (hok2 : mayB ((all9 s).1.1 : Nat) ((all9 s).1.2.1 : Nat) (all9 s).1.2.2 = false) : Calls Tryd.prog 3 #[.string ⟨s.toArray⟩] w fun e w' => e = .returned (.bool true) ∧ Below w.heap.size w w' := by
  have one := parse_ok (w := w) (s := oneT) (by simp [oneT]) oneT_ok.1
  rw [oneT_ok.2.1, oneT_ok.2.2] at one
  obtain ⟨R0, hR0⟩ : ∃ x, (all9 oneT).1.2.2 = x := ⟨_, rfl⟩
  rw [hR0] at one
  unfold oneT at one
  clear hR0
  go_enter Tryd.func3, Tryd.ntmps3
  go_upto_region 4 with
    (go_at_call 4; refine one.mono ?_; rintro e w2 ⟨rv0, rfl, h0, h2⟩
     obtain ⟨a0, c0, hrv0⟩ := h0.1
     subst hrv0)
  obtain ⟨W3, hW3⟩ : ∃ V, (w2.alloc (.cells #[.int .i64 0, .int .i64 1, .slice a0 R0.length c0] 24)).alloc (.cells #[.int .i64 0, .int .i64 0] 27) = V := ⟨_, rfl⟩
  rw [hW3]
  have HB3 : Hid (Below w.heap.size w W3) := by
    have hz := h2.size
    show Below w.heap.size w W3
    rw [← hW3]
    exact (h2.alloc hz _).alloc (by simp; omega) _
  clear one h0 h2 hW3
  have two := parse_may (w := W3) hs hok1 hok2
  obtain ⟨k, hk⟩ : ∃ x, (all9 s).2.1 = x := ⟨_, rfl⟩
  rw [hk] at two
  clear hk hok1 hok2
  go_wp2_with
    (go_at_call 4; refine two.mono ?_; rintro e w4 ⟨rfl, h5⟩
     have HB5 : Hid (Below w.heap.size w ((w4.alloc (.cells #[.int .i64 0, .int .i64 0, .slice none 0 0] 24)).alloc (.cells #[.int .i64 2, .int .i64 (k : Int)] 27))) := by
       have h6 := HB3.out.trans (h5.mono HB3.out.size)
       have hz := h6.size
       exact (h6.alloc hz _).alloc (by simp; omega) _
     clear two h5)
  go_ret
  exact ⟨rfl, HB5.out⟩

set_option maxRecDepth 100000 in
set_option maxHeartbeats 3200000 in
theorem textAgain_line (hs : s.length ≤ 9223372036854775807) (hok1 : (all9 s).2.2 = false) : Calls Tryd.prog 3 #[.string ⟨s.toArray⟩] w fun e w' => e = .returned (.bool true) ∧ Below w.heap.size w w' := by
  have one := parse_ok (w := w) (s := oneT) (by simp [oneT]) oneT_ok.1
  rw [oneT_ok.2.1, oneT_ok.2.2] at one
  obtain ⟨R0, hR0⟩ : ∃ x, (all9 oneT).1.2.2 = x := ⟨_, rfl⟩
  rw [hR0] at one
  unfold oneT at one
  clear hR0
  go_enter Tryd.func3, Tryd.ntmps3
  go_upto_region 4 with
    (go_at_call 4; refine one.mono ?_; rintro e w2 ⟨rv0, rfl, h0, h2⟩
     obtain ⟨a0, c0, hrv0⟩ := h0.1
     subst hrv0)
  obtain ⟨W3, hW3⟩ : ∃ V, (w2.alloc (.cells #[.int .i64 0, .int .i64 1, .slice a0 R0.length c0] 24)).alloc (.cells #[.int .i64 0, .int .i64 0] 27) = V := ⟨_, rfl⟩
  rw [hW3]
  have HB3 : Hid (Below w.heap.size w W3) := by
    have hz := h2.size
    show Below w.heap.size w W3
    rw [← hW3]
    exact (h2.alloc hz _).alloc (by simp; omega) _
  clear one h0 h2 hW3
  have two := parse_line (w := W3) hs hok1
  obtain ⟨k, hk⟩ : ∃ x, (all9 s).2.1 = x := ⟨_, rfl⟩
  rw [hk] at two
  clear hk hok1
  go_wp2_with
    (go_at_call 4; refine two.mono ?_; rintro e w4 ⟨rfl, h5⟩
     have HB5 : Hid (Below w.heap.size w ((w4.alloc (.cells #[.int .i64 0, .int .i64 0, .slice none 0 0] 24)).alloc (.cells #[.int .i64 2, .int .i64 (k : Int)] 27))) := by
       have h6 := HB3.out.trans (h5.mono HB3.out.size)
       have hz := h6.size
       exact (h6.alloc hz _).alloc (by simp; omega) _
     clear two h5)
  go_ret
  exact ⟨rfl, HB5.out⟩

theorem textAgain_any (hs : s.length ≤ 9223372036854775807) : Calls Tryd.prog 3 #[.string ⟨s.toArray⟩] w fun e w' => e = .returned (.bool true) ∧ Below w.heap.size w w' := by
  cases h1 : (all9 s).2.2 with
  | false => exact textAgain_line hs h1
  | true =>
    cases h2 : mayB ((all9 s).1.1 : Nat) ((all9 s).1.2.1 : Nat) (all9 s).1.2.2 with
    | false => exact textAgain_may hs h1 h2
    | true => exact textAgain_ok hs (by simp only [pOk, h1, h2, Bool.and_self])
end
end Go.Proofs.YtganeciagepcpaaDoor
