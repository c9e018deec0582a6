/- The contracts of the program's short.shorter and short.total. -/
import Derived.Test.YtolkfmddghkkeaaRowI
import Derived.Test.YtolkfmddghkkeaaShortDMath
import Derived.Lib.MinMax
namespace Go.Proofs.Ytolkfmddghkkeaa
open Go.RowKit

set_option maxRecDepth 100000 in
theorem shorter_any {w : World} {a b : Int} : Calls Try.prog 8 #[.int .i64 a, .int .i64 b] w fun e w' => e = .returned (.int .i64 (lessV a b)) ∧ w' = w := by
  by_cases ha : a = -1
  · have HL : Hid (lessV a b = b) := by show lessV a b = b; unfold lessV; rw [if_pos (.inl ha)]
    have e1 : (a == -1) = true := by simpa using ha
    clear ha
    go_enter Try.func8, Try.ntmps8
    go_wp2_with fail
    go_ret
    exact ⟨by rw [HL.out]; rfl, rfl⟩
  · have e1 : (a == -1) = false := by simpa using ha
    by_cases hb : b = -1
    · have HL : Hid (lessV a b = a) := by show lessV a b = a; unfold lessV; rw [if_neg (by omega)]
      have e2 : (b != -1) = false := by simpa using hb
      clear ha hb
      go_enter Try.func8, Try.ntmps8
      go_wp2_with fail
      go_ret
      exact ⟨by rw [HL.out]; rfl, rfl⟩
    · have e2 : (b != -1) = true := by simpa using hb
      by_cases hlt : b < a
      · have HL : Hid (lessV a b = b) := by show lessV a b = b; unfold lessV; rw [if_pos (.inr ⟨hb, hlt⟩)]
        clear ha hb
        go_enter Try.func8, Try.ntmps8
        go_wp2_with fail
        go_ret
        exact ⟨by rw [HL.out]; rfl, rfl⟩
      · have HL : Hid (lessV a b = a) := by show lessV a b = a; unfold lessV; rw [if_neg (by omega)]
        have e3 : decide (b < a) = false := decide_eq_false hlt
        clear ha hb
        go_enter Try.func8, Try.ntmps8
        go_wp2_with fail
        go_ret
        exact ⟨by rw [HL.out]; rfl, rfl⟩

/-! ### A sum that is held at the lid while it grows -/

theorem sumV_nonneg {O : List Int} : ∀ {l : List Sy} {s : Int}, sumV O l = some s → 0 ≤ s := by
  intro l
  induction l with
  | nil => intro s h; simp only [sumV, Option.some.injEq] at h; omega
  | cons x l ih =>
    intro s h
    obtain ⟨b, n⟩ := x
    cases b with
    | true =>
      simp only [sumV, Option.map_eq_some_iff] at h
      obtain ⟨u, h1, rfl⟩ := h
      have := ih h1
      omega
    | false =>
      simp only [sumV] at h
      split at h
      · cases h
      · simp only [Option.map_eq_some_iff] at h
        obtain ⟨u, h1, rfl⟩ := h
        have := ih h1
        omega

def restV (O : List Int) (l : List Sy) (k : Nat) (p : Int) : Int := match sumV O (l.drop k) with | none => -1 | some s => min (p + s) lid

theorem restV_step {O : List Int} {l : List Sy} {k : Nat} {p : Int} {t : Bool} {v : Int} (hk : k < l.length) (hs : l.getD k (false, 0) = (t, v)) :
    restV O l k p = if t then restV O l (k + 1) (min (p + 1) lid) else if O.getD v.toNat 0 < 0 then -1 else restV O l (k + 1) (min (p + O.getD v.toNat 0) lid) := by
  have hd : l.drop k = (t, v) :: l.drop (k + 1) := by rw [List.drop_eq_getElem_cons hk, ← hs]; simp [List.getD, hk]
  unfold restV
  rw [hd]
  cases t with
  | true =>
    simp only [sumV, if_true]
    cases h : sumV O (l.drop (k + 1)) with
    | none => rfl
    | some s =>
      have := sumV_nonneg h
      simp only [Option.map_some, lid]
      omega
  | false =>
    simp only [sumV, Bool.false_eq_true, if_false]
    by_cases hn : O.getD v.toNat 0 < 0
    · rw [if_pos hn, if_pos hn]
    · rw [if_neg hn, if_neg hn]
      cases h : sumV O (l.drop (k + 1)) with
      | none => rfl
      | some s =>
        have := sumV_nonneg h
        simp only [Option.map_some, lid]
        omega

set_option maxRecDepth 100000 in
set_option maxHeartbeats 1600000 in
theorem total_any {w : World} {lim qc N : Nat} {qa : Option Addr} {ov : Value} {l : List Sy} {O : List Int} (hl : RightAt w lim qa l) (hlim : lim ≤ w.heap.size) (ho : ListAt w w.heap.size ov O) (hO : O.length = N) (hin : ∀ s ∈ l, s.1 = false → 0 ≤ s.2 ∧ s.2 < (N : Int))
    (hlid : ∀ i, i < N → O.getD i 0 ≤ lid) (hneg : ∀ i, i < N → O.getD i 0 < 0 → O.getD i 0 = -1) (h8 : l.length ≤ 8) :
    Calls Try.prog 9 #[ov, .slice qa l.length qc] w fun e w' => e = .returned (.int .i64 (ruleV O l)) ∧ Below w.heap.size w w' := by
  obtain ⟨oa, oc, hov⟩ := ho.1
  subst hov
  have HL : Hid (RightAt w lim qa l) := hl
  have HO : Hid (ListAt w w.heap.size (.slice oa O.length oc) O) := ho
  have HI : Hid (∀ s ∈ l, s.1 = false → 0 ≤ s.2 ∧ s.2 < (N : Int)) := hin
  have HLid : Hid (∀ i, i < N → O.getD i 0 ≤ lid ∧ (O.getD i 0 < 0 → O.getD i 0 = -1)) := fun i hi => ⟨hlid i hi, hneg i hi⟩
  clear hl ho hin hlid hneg
  go_enter Try.func9, Try.ntmps9
  go_wp2_with fail
  go_loopw [5, 11] (fun s5 s11 wr => ∃ (k : Nat) (p : Int), s5 = .int .i64 p ∧ s11 = .int .i64 k ∧ k ≤ l.length ∧ 0 ≤ p ∧ p ≤ lid ∧ ruleV O l = restV O l k p ∧ Below w.heap.size w wr) (fun _ s _ => l.length - (intOf s).toNat)
  case atStart => exact ⟨0, 0, rfl, rfl, Nat.zero_le _, Int.le_refl _, by simp [lid], by unfold ruleV restV; rw [List.drop_zero]; cases sumV O l <;> simp, Below.refl _ _⟩
  case round =>
    obtain ⟨k, p, rfl, rfl, hk, hp0, hp1, hS, hB⟩ := hrel
    have HB : Hid (Below w.heap.size w wr) := hB
    have hsz := hB.size
    by_cases hlt : k < l.length
    · obtain ⟨b', o', hqa, hb', k3, k4⟩ := (HL.out.below (hB.mono hlim)) k hlt
      subst hqa
      have hmem : l.getD k (false, 0) ∈ l := by simp [List.getD, hlt]
      have hr := HI.out _ hmem
      obtain ⟨⟨t, v⟩, hs⟩ : ∃ x, l.getD k (false, 0) = x := ⟨_, rfl⟩
      have hS' := hS.trans (restV_step hlt hs)
      rw [hs] at k3 k4 hr
      have k4' : wr.cell? ⟨b', o' + k * 2 + 1, none⟩ = some (.int .i64 v) := by rw [Nat.add_assoc]; exact k4
      have j0 : (0 : Int) ≤ (k : Int) := Int.natCast_nonneg _
      have j1 : (k : Int) < (l.length : Int) := by omega
      have hk8 : (k : Int) ≤ 8 := by omega
      have hp2 : p ≤ 1000000000 := by unfold lid at hp1; omega
      have HS : Hid (ruleV O l = if t then restV O l (k + 1) (min (p + 1) lid) else if O.getD v.toNat 0 < 0 then -1 else restV O l (k + 1) (min (p + O.getD v.toNat 0) lid)) := hS'
      clear hS hS' hs hmem k4
      cases t with
      | true =>
        have hw : IntKind.i64.wrap (p + 1) = p + 1 := IntWalk.i64_in _ (by omega)
        have HA : Hid (Below w.heap.size w (wr.alloc (.cells #[.bool true, .int .i64 v] 40))) := HB.out.alloc hsz _
        clear hB
        go_wp2_with fail
        go_roundw
        case rel => exact ⟨k + 1, min (p + 1) lid, by simp [lid], by go_num, by omega, by unfold lid; omega, by unfold lid; omega, by simpa using HS.out, HA.out⟩
        case measure => simp [intOf]; omega
      | false =>
        have hr' : 0 ≤ v ∧ v < (N : Int) := hr rfl
        clear hr
        obtain ⟨y, rfl⟩ : ∃ y : Nat, v = y := ⟨v.toNat, by omega⟩
        obtain ⟨ob, oo, oc', hoe, hob, d0⟩ := HO.out.2 y (by omega)
        cases hoe
        have d1 := (hB.cell (p := ⟨ob, oo + y, none⟩) hob).trans d0
        have hlv := HLid.out y (by omega)
        have i0 : (0 : Int) ≤ (y : Int) := Int.natCast_nonneg _
        have i1 : (y : Int) < (O.length : Int) := by omega
        have HA : Hid (Below w.heap.size w (wr.alloc (.cells #[.bool false, .int .i64 y] 40))) := HB.out.alloc hsz _
        have d2 : (wr.alloc (.cells #[.bool false, .int .i64 y] 40)).cell? ⟨ob, oo + y, none⟩ = some (.int .i64 (O.getD y 0)) := by rw [World.cell?_alloc_past _ _ _ (by show ob < wr.heap.size; omega)]; exact d1
        simp only [Bool.false_eq_true, if_false, Int.toNat_natCast] at HS
        obtain ⟨x, hx⟩ : ∃ x, O.getD y 0 = x := ⟨_, rfl⟩
        rw [hx] at d2 hlv HS
        clear hx hr' d0 d1 hB
        by_cases hneg : x < 0
        · have HR : Hid (ruleV O l = -1) := by
            have := HS.out
            rw [if_pos hneg] at this
            exact this
          obtain rfl : x = -1 := hlv.2 hneg
          clear hlv HS
          go_wp2_with fail
          go_ret
          exact ⟨by rw [HR.out]; rfl, HA.out⟩
        · have HX0 : Hid (0 ≤ x) := by show 0 ≤ x; omega
          have hw : IntKind.i64.wrap (p + x) = p + x := IntWalk.i64_in _ (by have := hlv.1; unfold lid at this; omega)
          have e1 : (x == -1) = false := by simp; omega
          have HS2 : Hid (ruleV O l = restV O l (k + 1) (min (p + x) lid)) := by
            have := HS.out
            rw [if_neg hneg] at this
            exact this
          clear HS hneg hlv
          go_wp2_with fail
          go_roundw
          case rel => exact ⟨k + 1, min (p + x) lid, by simp [lid], by go_num, by omega, by have := HX0.out; unfold lid; omega, by unfold lid; omega, HS2.out, HA.out⟩
          case measure => simp [intOf]; omega
    · obtain rfl : k = l.length := by omega
      have HR : Hid (ruleV O l = p) := by
        show ruleV O l = p
        rw [hS]
        unfold restV
        rw [List.drop_length]
        simp only [sumV]
        omega
      clear hS hB
      go_wp2_with fail
      go_ret
      exact ⟨by rw [HR.out]; rfl, HB.out⟩

end Go.Proofs.Ytolkfmddghkkeaa
