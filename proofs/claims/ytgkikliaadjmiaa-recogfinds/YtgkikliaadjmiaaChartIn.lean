/- The contracts of slices.Index and slices.Contains, of numbers. -/
import Derived.Test.YtgkikliaadjmiaaMayFine
namespace Go.Proofs.Ytgkikliaadjmiaa
open Go.RowKit

set_option maxRecDepth 100000 in
set_option maxHeartbeats 1600000 in
theorem index_any {w : World} {lim : Nat} {sv : Value} {L : List Int} (h : ListAt w lim sv L) (hl : L.length ≤ 1000000) (x : Int) :
    Calls Try.prog 21 #[sv, .int .i64 x] w fun e w' => (∃ r : Int, e = .returned (.int .i64 r) ∧ (0 ≤ r ↔ x ∈ L)) ∧ w' = w := by
  obtain ⟨sa, sc, hsv⟩ := h.1
  subst hsv
  have HL : Hid (ListAt w lim (.slice sa L.length sc) L) := h
  clear h
  go_enter Try.func21, Try.ntmps21
  go_wp2_with fail
  go_loop [8] (fun s => ∃ k : Nat, s = .int .i64 k ∧ k ≤ L.length ∧ x ∉ L.take k) (fun s => L.length - (intOf s).toNat)
  case atStart => exact ⟨0, rfl, Nat.zero_le _, by simp⟩
  case round =>
    obtain ⟨k, rfl, hk, hn⟩ := hrel
    by_cases hlt : k < L.length
    · obtain ⟨b, o, sc', he, _, c1⟩ := HL.out.2 k hlt
      injection he with ha _ hc
      subst ha
      subst hc
      obtain ⟨y, hy⟩ : ∃ y, L.getD k 0 = y := ⟨_, rfl⟩
      rw [hy] at c1
      have hyk : L[k] = y := by rw [← hy]; simp [List.getD, hlt]
      have HT : Hid (L.take (k + 1) = L.take k ++ [y]) := by show L.take (k + 1) = _; rw [List.take_succ_eq_append_getElem hlt, hyk]
      have HM : Hid (y ∈ L) := by show y ∈ L; rw [← hyk]; exact List.getElem_mem hlt
      have HN : Hid (x ∉ L.take k) := hn
      have i0 : (0 : Int) ≤ (k : Int) := Int.natCast_nonneg _
      have i1 : (k : Int) < (L.length : Int) := by omega
      clear hn hy hyk
      by_cases hxy : x = y
      · subst hxy
        go_wp2_with fail
        go_ret
        exact ⟨⟨k, rfl, fun _ => HM.out, fun _ => i0⟩, rfl⟩
      · have hb : (x == y) = false := by simpa using hxy
        go_wp2_with fail
        go_round
        case rel => exact ⟨k + 1, by go_num, by omega, by rw [HT.out]; simp only [List.mem_append, List.mem_singleton, not_or]; exact ⟨HN.out, hxy⟩⟩
        case measure => simp [intOf]; omega
    · have HN : Hid (x ∉ L) := by
        show x ∉ L
        rw [List.take_of_length_le (by omega)] at hn
        exact hn
      clear hn
      go_wp2_with fail
      go_ret
      exact ⟨⟨-1, rfl, fun h => by omega, fun h => absurd h HN.out⟩, rfl⟩

set_option maxRecDepth 100000 in
set_option maxHeartbeats 1600000 in
theorem contains_any {w : World} {lim : Nat} {sv : Value} {L : List Int} (h : ListAt w lim sv L) (hl : L.length ≤ 1000000) (x : Int) :
    Calls Try.prog 14 #[sv, .int .i64 x] w fun e w' => e = .returned (.bool (decide (x ∈ L))) ∧ w' = w := by
  have ix := index_any h hl x
  clear h
  by_cases hx : x ∈ L
  · rw [decide_eq_true hx]
    go_enter Try.func14, Try.ntmps14
    go_wp2_with (go_at_call 21; refine ix.mono ?_; rintro e w1 ⟨⟨r, rfl, hr⟩, rfl⟩; have h0 : 0 ≤ r := hr.2 hx; clear hr)
    go_ret
    exact ⟨rfl, rfl⟩
  · rw [decide_eq_false hx]
    go_enter Try.func14, Try.ntmps14
    go_wp2_with (go_at_call 21; refine ix.mono ?_; rintro e w1 ⟨⟨r, rfl, hr⟩, rfl⟩; have h0 : decide (0 ≤ r) = false := decide_eq_false (fun h => hx (hr.1 h)); clear hr)
    go_ret
    exact ⟨rfl, rfl⟩

end Go.Proofs.Ytgkikliaadjmiaa
