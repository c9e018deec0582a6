/- The contracts of package text's scanner. -/
import Derived.Test.YtganeciagepcpaaDoorTxCut
import Derived.Test.YtganeciagepcpaaDoorTxFr
namespace Go.Proofs.YtganeciagepcpaaDoor
open Go.RowKit

section
variable {w : World} {b : Nat} {r p : List UInt8} {g : Bool}

set_option maxRecDepth 100000 in
theorem isDigit_any (c : UInt8) (w : World) : Calls Tryd.prog 40 #[.int .u8 (c.toNat : Int)] w fun e w' => e = .returned (.bool (isD c)) ∧ w' = w := by
  by_cases h1 : 48 ≤ c.toNat
  · have d1 : decide ((48 : Int) ≤ (c.toNat : Int)) = true := decide_eq_true (by omega)
    have d2 : decide ((c.toNat : Int) ≥ 48) = true := decide_eq_true (by omega)
    have d5 : decide (48 ≤ c.toNat) = true := decide_eq_true h1
    by_cases h2 : c.toNat ≤ 57
    · have d3 : decide ((c.toNat : Int) ≤ 57) = true := decide_eq_true (by omega)
      have d4 : decide (c.toNat ≤ 57) = true := decide_eq_true h2
      have HD : Hid (isD c = true) := by show _ = _; simp [isD, h1, h2]
      go_enter Tryd.func40, Tryd.ntmps40
      go_wp2_with fail
      go_ret
      exact ⟨by rw [HD.out]; rfl, rfl⟩
    · have d3 : decide ((c.toNat : Int) ≤ 57) = false := decide_eq_false (by omega)
      have d4 : decide (c.toNat ≤ 57) = false := decide_eq_false h2
      have HD : Hid (isD c = false) := by show _ = _; simp [isD, h1, h2]
      go_enter Tryd.func40, Tryd.ntmps40
      go_wp2_with fail
      go_ret
      exact ⟨by rw [HD.out]; rfl, rfl⟩
  · have d1 : decide ((48 : Int) ≤ (c.toNat : Int)) = false := decide_eq_false (by omega)
    have d2 : decide ((c.toNat : Int) ≥ 48) = false := decide_eq_false (by omega)
    have d5 : decide (48 ≤ c.toNat) = false := decide_eq_false h1
    have HD : Hid (isD c = false) := by show _ = _; simp [isD, h1]
    go_enter Tryd.func40, Tryd.ntmps40
    go_wp2_with fail
    go_ret
    exact ⟨by rw [HD.out]; rfl, rfl⟩

set_option maxRecDepth 100000 in
theorem more_any (h : ScanAt w b r g) : Calls Tryd.prog 29 #[.pointer (some ⟨b, 0, none⟩)] w fun e w' => e = .returned (.bool (!g && !r.isEmpty)) ∧ w' = w := by
  have c0 : w.cell? ⟨b, 0, none⟩ = some (.string ⟨r.toArray⟩) := cell_bk9 h rfl
  have c1 : w.cell? ⟨b, 1, none⟩ = some (.bool g) := cell_bk9 h rfl
  clear h
  cases g with
  | true =>
    go_enter Tryd.func29, Tryd.ntmps29
    go_wp2_with fail
    go_ret
    exact ⟨rfl, rfl⟩
  | false =>
    cases r with
    | nil =>
      go_enter Tryd.func29, Tryd.ntmps29
      go_wp2_with fail
      go_ret
      exact ⟨rfl, rfl⟩
    | cons x l =>
      go_enter Tryd.func29, Tryd.ntmps29
      go_wp2_with fail
      go_ret
      exact ⟨rfl, rfl⟩

set_option maxRecDepth 100000 in
theorem done_any (h : ScanAt w b r g) : Calls Tryd.prog 28 #[.pointer (some ⟨b, 0, none⟩)] w fun e w' => e = .returned (.bool (!g && r.isEmpty)) ∧ w' = w := by
  have c0 : w.cell? ⟨b, 0, none⟩ = some (.string ⟨r.toArray⟩) := cell_bk9 h rfl
  have c1 : w.cell? ⟨b, 1, none⟩ = some (.bool g) := cell_bk9 h rfl
  clear h
  cases g with
  | true =>
    go_enter Tryd.func28, Tryd.ntmps28
    go_wp2_with fail
    go_ret
    exact ⟨rfl, rfl⟩
  | false =>
    cases r with
    | nil =>
      go_enter Tryd.func28, Tryd.ntmps28
      go_wp2_with fail
      go_ret
      exact ⟨rfl, rfl⟩
    | cons x l =>
      go_enter Tryd.func28, Tryd.ntmps28
      go_wp2_with fail
      go_ret
      exact ⟨rfl, rfl⟩

set_option maxRecDepth 100000 in
theorem takes_any (h : ScanAt w b r g) (p : List UInt8) : Calls Tryd.prog 39 #[.pointer (some ⟨b, 0, none⟩), .string ⟨p.toArray⟩] w fun e w' => e = .returned (.bool (Lib.hasPrefix r p)) ∧ ScanAt w' b (Lib.trimPrefix r p) g ∧ But b w w' := by
  have c0 : w.cell? ⟨b, 0, none⟩ = some (.string ⟨r.toArray⟩) := cell_bk9 h rfl
  have f0 : w.frozen? ⟨b, 0, none⟩ = false := frozen_bk9 h
  have cp := cut_prefix ⟨r.toArray⟩ ⟨p.toArray⟩ w
  have HS : Hid (ScanAt w b r g) := h
  obtain ⟨t, ht⟩ : ∃ x, Lib.trimPrefix r p = x := ⟨_, rfl⟩
  obtain ⟨k, hk⟩ : ∃ x, Lib.hasPrefix r p = x := ⟨_, rfl⟩
  simp only [ht, hk] at cp ⊢
  clear h ht hk
  go_enter Tryd.func39, Tryd.ntmps39
  go_wp2_with
    (go_at_call 48; refine cp.mono ?_; rintro e w2 ⟨rfl, h2⟩; obtain rfl : w = w2 := h2.symm; clear cp)
  go_ret
  exact ⟨rfl, HS.out.set0 _, But.set _ _ _⟩

set_option maxRecDepth 100000 in
theorem word_any (h : ScanAt w b r g) (p : List UInt8) : Calls Tryd.prog 26 #[.pointer (some ⟨b, 0, none⟩), .string ⟨p.toArray⟩] w fun e w' => e = .returned (.tuple #[]) ∧ ScanAt w' b (Lib.trimPrefix r p) (g || !Lib.hasPrefix r p) ∧ But b w w' := by
  have tk := takes_any h p
  clear h
  cases hk : Lib.hasPrefix r p with
  | true =>
    rw [hk] at tk
    go_enter Tryd.func26, Tryd.ntmps26
    go_wp2_with
      (go_at_call 39; refine tk.mono ?_; rintro e w2 ⟨rfl, h2, h3⟩
       have H2 : Hid (ScanAt w2 b (Lib.trimPrefix r p) g ∧ But b w w2) := ⟨h2, h3⟩
       clear tk h2 h3)
    go_end0
    refine ⟨rfl, ?_, H2.out.2⟩
    simpa using H2.out.1
  | false =>
    rw [hk] at tk
    go_enter Tryd.func26, Tryd.ntmps26
    go_wp2_with
      (go_at_call 39; refine tk.mono ?_; rintro e w2 ⟨rfl, h2, h3⟩
       have H2 : Hid (ScanAt w2 b (Lib.trimPrefix r p) g ∧ But b w w2) := ⟨h2, h3⟩
       have f1 : w2.frozen? ⟨b, 1, none⟩ = false := frozen_bk9 h2
       have c1 : w2.cell? ⟨b, 1, none⟩ = some (.bool g) := cell_bk9 h2 rfl
       clear tk h2 h3)
    go_end0
    refine ⟨rfl, ?_, H2.out.2.trans (But.set _ _ _)⟩
    have := H2.out.1.set1 true
    simpa using this
end
end Go.Proofs.YtganeciagepcpaaDoor
