/- The contracts of isBelow, next and end. -/
import Derived.Test.YtkmdbhajoabggaaRows
import Derived.Test.YtkmdbhajoabggaaMath
import Derived.WalkKit
import Derived.WalkSpells
import Derived.Deep.QuietTactic
import Derived.BigQuiet
namespace Go.Proofs.Ytkmdbhajoabggaa
open Go.RowKit

theorem below_any (n m : Int) (w : World) :
    Calls Try.prog 11 #[.int .i64 n, .int .i64 m] w fun e w' => e = .returned (.bool (decide (0 ≤ n ∧ n < m))) ∧ w' = w := by
  by_cases h0 : 0 ≤ n
  · go_enter Try.func11, Try.ntmps11
    go_wp2
    go_ret
    exact ⟨by simp [h0], rfl⟩
  · go_enter Try.func11, Try.ntmps11
    go_wp2
    go_ret
    exact ⟨by simp; omega, rfl⟩

/-- What the reader panics with. -/
def gaveUp : List PanicEntry := [{ v := .iface 9 (.string { data := #[110, 111, 32, 100, 101, 114, 105, 118, 97, 116, 105, 111, 110] }), recovered := false }]

theorem next_ok (rb b o c rl rc b2 o2 p q : Nat) (L : Nat) (n : Int) (w : World)
    (c2 : w.cell? ⟨rb, 2, none⟩ = some (.slice (some ⟨b2, o2, none⟩) rl rc))
    (c3 : w.cell? ⟨rb, 1 + 2, none⟩ = some (.slice (some ⟨b, o, none⟩) L c))
    (c4 : w.cell? ⟨rb, 4, none⟩ = some (.int .i64 p))
    (f4 : w.frozen? ⟨rb, 4, none⟩ = false)
    (hp : p < L) (hL : L ≤ maxLen) (hd : w.cell? ⟨b, o + p, none⟩ = some (.int .i64 q)) (hq : q < rl) (hl : w.cell? ⟨b2, o2 + q * 2, none⟩ = some (.int .i64 n)) :
    Calls Try.prog 10 #[.pointer (some ⟨rb, 0, none⟩), .int .i64 n] w fun e w' => e = .returned (.int .i64 q) ∧ ∃ m, w' = (w.drewN m).setCell ⟨rb, 4, none⟩ (.int .i64 (p + 1)) := by
  unfold maxLen at hL
  go_enter Try.func10, Try.ntmps10
  go_wp2_with fail
  go_quiet (fail)
  go_wp2_with fail
  go_quiet (fail)
  go_wp2_with (go_at_call 11; refine (below_any _ _ _).mono ?_; rintro e w' ⟨rfl, rfl⟩)
  go_ret
  exact ⟨rfl, _, rfl⟩

theorem next_end (rb L c p : Nat) (da : Option Addr) (n : Int) (w : World)
    (c3 : w.cell? ⟨rb, 1 + 2, none⟩ = some (.slice da L c)) (c4 : w.cell? ⟨rb, 4, none⟩ = some (.int .i64 p)) (hp : L ≤ p) :
    Calls Try.prog 10 #[.pointer (some ⟨rb, 0, none⟩), .int .i64 n] w fun e w' => e = .panicked gaveUp ∧ ∃ m, w' = w.drewN m := by
  go_enter Try.func10, Try.ntmps10
  go_wp2_with fail
  go_quiet (fail)
  go_wp2_with fail
  exact ⟨rfl, rfl, _, rfl⟩

theorem next_out (rb b o c rl rc p : Nat) (ra : Option Addr) (x : Int) (L : Nat) (n : Int) (w : World)
    (c2 : w.cell? ⟨rb, 2, none⟩ = some (.slice ra rl rc))
    (c3 : w.cell? ⟨rb, 1 + 2, none⟩ = some (.slice (some ⟨b, o, none⟩) L c))
    (c4 : w.cell? ⟨rb, 4, none⟩ = some (.int .i64 p))
    (hp : p < L) (hd : w.cell? ⟨b, o + p, none⟩ = some (.int .i64 x)) (hx : ¬ (0 ≤ x ∧ x < rl)) :
    Calls Try.prog 10 #[.pointer (some ⟨rb, 0, none⟩), .int .i64 n] w fun e w' => e = .panicked gaveUp ∧ ∃ m, w' = w.drewN m := by
  have hd' : decide (0 ≤ x ∧ x < (rl : Int)) = false := by simpa using hx
  clear hx
  go_enter Try.func10, Try.ntmps10
  go_wp2_with fail
  go_quiet (fail)
  go_wp2_with fail
  go_quiet (fail)
  go_wp2_with (go_at_call 11; refine (below_any _ _ _).mono ?_; rintro e w' ⟨rfl, rfl⟩)
  exact ⟨rfl, rfl, _, rfl⟩

theorem next_other (rb b o c rl rc b2 o2 p q : Nat) (L : Nat) (l n : Int) (w : World)
    (c2 : w.cell? ⟨rb, 2, none⟩ = some (.slice (some ⟨b2, o2, none⟩) rl rc))
    (c3 : w.cell? ⟨rb, 1 + 2, none⟩ = some (.slice (some ⟨b, o, none⟩) L c))
    (c4 : w.cell? ⟨rb, 4, none⟩ = some (.int .i64 p))
    (hp : p < L) (hd : w.cell? ⟨b, o + p, none⟩ = some (.int .i64 q)) (hq : q < rl) (hl : w.cell? ⟨b2, o2 + q * 2, none⟩ = some (.int .i64 l)) (hn : ¬ l = n) :
    Calls Try.prog 10 #[.pointer (some ⟨rb, 0, none⟩), .int .i64 n] w fun e w' => e = .panicked gaveUp ∧ ∃ m, w' = w.drewN m := by
  go_enter Try.func10, Try.ntmps10
  go_wp2_with fail
  go_quiet (fail)
  go_wp2_with fail
  go_quiet (fail)
  go_wp2_with (go_at_call 11; refine (below_any _ _ _).mono ?_; rintro e w' ⟨rfl, rfl⟩)
  exact ⟨rfl, rfl, _, rfl⟩

theorem end_ok (rb L c p : Nat) (da : Option Addr) (w : World)
    (c3 : w.cell? ⟨rb, 1 + 2, none⟩ = some (.slice da L c)) (c4 : w.cell? ⟨rb, 4, none⟩ = some (.int .i64 p)) (hp : ¬ p < L) :
    Calls Try.prog 9 #[.pointer (some ⟨rb, 0, none⟩)] w fun e w' => e = .returned (.tuple #[]) ∧ ∃ m, w' = w.drewN m := by
  go_enter Try.func9, Try.ntmps9
  go_wp2_with fail
  go_quiet (fail)
  go_wp2_with fail
  go_end0
  exact ⟨rfl, _, rfl⟩

theorem end_left (rb L c p : Nat) (da : Option Addr) (w : World)
    (c3 : w.cell? ⟨rb, 1 + 2, none⟩ = some (.slice da L c)) (c4 : w.cell? ⟨rb, 4, none⟩ = some (.int .i64 p)) (hp : p < L) :
    Calls Try.prog 9 #[.pointer (some ⟨rb, 0, none⟩)] w fun e w' => e = .panicked gaveUp ∧ ∃ m, w' = w.drewN m := by
  go_enter Try.func9, Try.ntmps9
  go_wp2_with fail
  go_quiet (fail)
  go_wp2_with fail
  exact ⟨rfl, rfl, _, rfl⟩

end Go.Proofs.Ytkmdbhajoabggaa
