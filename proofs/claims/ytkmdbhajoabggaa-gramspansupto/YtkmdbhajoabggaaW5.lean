/- The contract of read. -/
import Derived.Test.YtkmdbhajoabggaaW4
namespace Go.Proofs.Ytkmdbhajoabggaa
open Go.RowKit

/-- The world in which name is called first. -/
def laid (w : World) (T N : Int) (rv dv : Value) : World :=
  ((w.alloc (.cells #[.int .i64 T, .int .i64 N, rv] 24)).alloc (.cells #[.int .i64 T, .int .i64 N, rv, dv, .int .i64 0, .slice none 0 0, .slice none 0 0] 38)).alloc (.cells #[.bool false] 4)

theorem start_inv (w : World) (T N : Int) (rv dv : Value) :
    Inv w w.heap.size (w.heap.size + 1) (.int .i64 T) (.int .i64 N) rv dv (laid w T N rv dv) { pos := 0, Y := [], S := [] } (.slice none 0 0) (.slice none 0 0) := by
  unfold laid
  refine ⟨((((Below.refl _ _).alloc (Nat.le_refl _) _).alloc (by simp) _).alloc (by simp; omega) _), by omega, by simp, ?_, ?_, ?_, ?_, ?_, ?_, ?_, fun o => ?_, ?_, ?_, World.ownsRow_nil _ _ _ _, World.ownsRow_nil _ _ _ _, fun g h => by simp [Value.ownBlock] at h⟩ <;> simp [go_sem]

/-- The zero reader, as a value. -/
def noReader : Value := .agg #[.int .i64 0, .int .i64 0, .slice none 0 0, .slice none 0 0, .int .i64 0, .slice none 0 0, .slice none 0 0]

set_option maxRecDepth 100000 in
set_option maxHeartbeats 3200000 in
theorem read_long (T N : Int) (rv : Value) (da : Option Addr) (L dc : Nat) (w : World) (hL : 400 < L) :
    Calls Try.prog 6 #[.agg #[.int .i64 T, .int .i64 N, rv], .slice da L dc] w fun e w' =>
      e = .returned (.tuple #[noReader, .bool false]) ∧ Below w.heap.size w w' := by
  unfold noReader
  go_enter_defers Try.func6, Try.ntmps6
  go_wp2_with fail
  exact ⟨_, by simp [results, Try.results6, go_sem], rfl, (((Below.refl _ _).alloc (Nat.le_refl _) _).alloc (by simp) _).alloc (by simp; omega) _⟩

set_option maxRecDepth 100000 in
set_option maxHeartbeats 3200000 in
theorem read_stuck (T N : Int) (ra : Option Addr) (rl rc : Nat) (da : Option Addr) (L dc : Nat) (w : World) (hL : L ≤ 400)
    (call : Calls Try.prog 8 #[.pointer (some ⟨w.heap.size + 1, 0, none⟩), .int .i64 0] (laid w T N (.slice ra rl rc) (.slice da L dc)) fun e w' => e = .panicked gaveUp ∧ Weak w w.heap.size (w.heap.size + 1) w') :
    Calls Try.prog 6 #[.agg #[.int .i64 T, .int .i64 N, .slice ra rl rc], .slice da L dc] w fun e w' =>
      e = .returned (.tuple #[noReader, .bool false]) ∧ Below w.heap.size w w' := by
  unfold noReader
  unfold laid at call
  have hmf : ∀ (fn : Fn) (first cap : Array Value) (w : World), (Instr.makeFunc fn first cap).run Try.prog w = .ok (.func fn first cap) w := fun _ _ _ _ => rfl
  go_enter_defers Try.func6, Try.ntmps6
  go_wp2_with (go_at_call 8; refine call.mono ?_; rintro e w2 ⟨rfl, hW⟩)
  refine leaves_cons (f := 7) (args := #[.pointer (some ⟨w.heap.size + 1, 0, none⟩), .pointer (some ⟨w.heap.size + 1 + 1, 0, none⟩)]) (by simp) (by simp [go_sem]) ?_
  obtain ⟨u0, c0⟩ := hW.cs 0 (by omega)
  obtain ⟨u1, c1⟩ := hW.cs 1 (by omega)
  obtain ⟨u2, c2⟩ := hW.cs 2 (by omega)
  obtain ⟨u3, c3⟩ := hW.cs 3 (by omega)
  obtain ⟨u4, c4⟩ := hW.cs 4 (by omega)
  obtain ⟨u5, c5⟩ := hW.cs 5 (by omega)
  obtain ⟨u6, c6⟩ := hW.cs 6 (by omega)
  refine (catch_panicking (w.heap.size + 1) 9 _ [] w2 u0 u1 u2 u3 u4 u5 u6 _ c0 c1 c2 c3 c4 c5 c6 hW.fr hW.ok hW.okf).mono ?_
  rintro e u' w'' ⟨rfl, rfl, rfl⟩
  obtain ⟨d0, d1, d2, d3, d4, d5, d6, d7⟩ := relay_cells hW (.int .i64 0) (.int .i64 0) (.slice none 0 0) (.slice none 0 0) (.int .i64 0) (.slice none 0 0) (.slice none 0 0) (.bool false)
  have hB := relay_below hW.below hW.le (.int .i64 0) (.int .i64 0) (.slice none 0 0) (.slice none 0 0) (.int .i64 0) (.slice none 0 0) (.slice none 0 0) (.bool false)
  simp [Leaves, settle, results, Try.results6, go_sem, d0, d1, d2, d3, d4, d5, d6, d7, hB]

set_option maxRecDepth 100000 in
set_option maxHeartbeats 3200000 in
theorem read_left (T N : Int) (ra : Option Addr) (rl rc : Nat) (da : Option Addr) (L dc : Nat) (w : World) (hL : L ≤ 400) (st : St) (hp : st.pos < L)
    (call : Calls Try.prog 8 #[.pointer (some ⟨w.heap.size + 1, 0, none⟩), .int .i64 0] (laid w T N (.slice ra rl rc) (.slice da L dc)) fun e w' => e = .returned (.tuple #[]) ∧ ∃ yv sv, Inv w w.heap.size (w.heap.size + 1) (.int .i64 T) (.int .i64 N) (.slice ra rl rc) (.slice da L dc) w' st yv sv) :
    Calls Try.prog 6 #[.agg #[.int .i64 T, .int .i64 N, .slice ra rl rc], .slice da L dc] w fun e w' =>
      e = .returned (.tuple #[noReader, .bool false]) ∧ Below w.heap.size w w' := by
  unfold noReader
  unfold laid at call
  have hmf : ∀ (fn : Fn) (first cap : Array Value) (w : World), (Instr.makeFunc fn first cap).run Try.prog w = .ok (.func fn first cap) w := fun _ _ _ _ => rfl
  go_enter_defers Try.func6, Try.ntmps6
  go_wp2_with (first
    | (go_at_call 8; refine call.mono ?_; rintro e w2 ⟨rfl, yv, sv, hI⟩)
    | (go_at_call 9; refine (end_left _ _ _ _ _ _ hI.c3 hI.c4 hp).mono ?_; rintro e w3 ⟨rfl, m, rfl⟩))
  have hW := hI.weak.drewN m
  refine leaves_cons (f := 7) (args := #[.pointer (some ⟨w.heap.size + 1, 0, none⟩), .pointer (some ⟨w.heap.size + 1 + 1, 0, none⟩)]) (by simp) (by simp [go_sem]) ?_
  obtain ⟨u0, c0⟩ := hW.cs 0 (by omega)
  obtain ⟨u1, c1⟩ := hW.cs 1 (by omega)
  obtain ⟨u2, c2⟩ := hW.cs 2 (by omega)
  obtain ⟨u3, c3⟩ := hW.cs 3 (by omega)
  obtain ⟨u4, c4⟩ := hW.cs 4 (by omega)
  obtain ⟨u5, c5⟩ := hW.cs 5 (by omega)
  obtain ⟨u6, c6⟩ := hW.cs 6 (by omega)
  refine (catch_panicking (w.heap.size + 1) 9 _ [] (w2.drewN m) u0 u1 u2 u3 u4 u5 u6 _ c0 c1 c2 c3 c4 c5 c6 hW.fr hW.ok hW.okf).mono ?_
  rintro e u' w'' ⟨rfl, rfl, rfl⟩
  obtain ⟨d0, d1, d2, d3, d4, d5, d6, d7⟩ := relay_cells hW (.int .i64 0) (.int .i64 0) (.slice none 0 0) (.slice none 0 0) (.int .i64 0) (.slice none 0 0) (.slice none 0 0) (.bool false)
  have hB := relay_below hW.below hW.le (.int .i64 0) (.int .i64 0) (.slice none 0 0) (.slice none 0 0) (.int .i64 0) (.slice none 0 0) (.slice none 0 0) (.bool false)
  simp [Leaves, settle, results, Try.results6, go_sem, d0, d1, d2, d3, d4, d5, d6, d7, hB]

set_option maxRecDepth 100000 in
set_option maxHeartbeats 3200000 in
theorem read_done (T N : Int) (ra : Option Addr) (rl rc : Nat) (da : Option Addr) (L dc : Nat) (w : World) (hL : L ≤ 400) (st : St) (hp : ¬ st.pos < L)
    (call : Calls Try.prog 8 #[.pointer (some ⟨w.heap.size + 1, 0, none⟩), .int .i64 0] (laid w T N (.slice ra rl rc) (.slice da L dc)) fun e w' => e = .returned (.tuple #[]) ∧ ∃ yv sv, Inv w w.heap.size (w.heap.size + 1) (.int .i64 T) (.int .i64 N) (.slice ra rl rc) (.slice da L dc) w' st yv sv) :
    Calls Try.prog 6 #[.agg #[.int .i64 T, .int .i64 N, .slice ra rl rc], .slice da L dc] w fun e w' => ∃ yv sv,
      e = .returned (.tuple #[.agg #[.int .i64 T, .int .i64 N, .slice ra rl rc, .slice da L dc, .int .i64 st.pos, yv, sv], .bool true]) ∧ Below w.heap.size w w' ∧
      w'.ownsRow (w.heap.size + 3) 3 1 yv st.Y.length (st.Y.map (Value.int .i64)) ∧ w'.ownsRow (w.heap.size + 3) 35 3 sv st.S.length (flat st.S) := by
  unfold laid at call
  have hmf : ∀ (fn : Fn) (first cap : Array Value) (w : World), (Instr.makeFunc fn first cap).run Try.prog w = .ok (.func fn first cap) w := fun _ _ _ _ => rfl
  go_enter_defers Try.func6, Try.ntmps6
  go_wp2_with (first
    | (go_at_call 8; refine call.mono ?_; rintro e w2 ⟨rfl, yv, sv, hI⟩; obtain ⟨ya, yc, rfl⟩ := own_form hI.ownY; obtain ⟨sa, sc, rfl⟩ := own_form hI.ownS; have c0 := hI.c0; have c1 := hI.c1; have c2 := hI.c2; have c3 := hI.c3; have c4 := hI.c4; have c5 := hI.c5; have c6 := hI.c6; have fr := hI.fr; have ok := hI.ok; have okf := hI.okf)
    | (go_at_call 9; refine (end_ok _ _ _ _ _ _ hI.c3 hI.c4 hp).mono ?_; rintro e w3 ⟨rfl, m, rfl⟩))
  have hW := hI.weak.drewN m
  refine leaves_cons (f := 7) (args := #[.pointer (some ⟨w.heap.size + 1, 0, none⟩), .pointer (some ⟨w.heap.size + 1 + 1, 0, none⟩)]) (by simp) (by simp [go_sem]) ?_
  refine (catch_idle (w.heap.size + 1) _).mono ?_
  rintro e u' w'' ⟨rfl, rfl, rfl⟩
  obtain ⟨d0, d1, d2, d3, d4, d5, d6, d7⟩ := relay_cells hW (.int .i64 T) (.int .i64 N) (.slice ra rl rc) (.slice da L dc) (.int .i64 st.pos) (.slice ya st.Y.length yc) (.slice sa st.S.length sc) (.bool true)
  have hB := relay_below hW.below hW.le (.int .i64 T) (.int .i64 N) (.slice ra rl rc) (.slice da L dc) (.int .i64 st.pos) (.slice ya st.Y.length yc) (.slice sa st.S.length sc) (.bool true)
  have hY := relay_own (hI.drewN m).ownY (.int .i64 T) (.int .i64 N) (.slice ra rl rc) (.slice da L dc) (.int .i64 st.pos) (.slice ya st.Y.length yc) (.slice sa st.S.length sc) (.bool true)
  have hS := relay_own (hI.drewN m).ownS (.int .i64 T) (.int .i64 N) (.slice ra rl rc) (.slice da L dc) (.int .i64 st.pos) (.slice ya st.Y.length yc) (.slice sa st.S.length sc) (.bool true)
  refine ⟨.tuple #[.agg #[.int .i64 T, .int .i64 N, .slice ra rl rc, .slice da L dc, .int .i64 st.pos, .slice ya st.Y.length yc, .slice sa st.S.length sc], .bool true], ?_, _, _, rfl, hB, hY, hS⟩
  change (results Try.f6 _).run Try.prog (relay (w2.drewN m) (w.heap.size + 1) (.int .i64 T) (.int .i64 N) (.slice ra rl rc) (.slice da L dc) (.int .i64 st.pos) (.slice ya st.Y.length yc) (.slice sa st.S.length sc) (.bool true)) = _
  simp [results, Try.results6, go_sem, d0, d1, d2, d3, d4, d5, d6, d7]
  rfl

end Go.Proofs.Ytkmdbhajoabggaa
