/- The contracts of read as a whole, of Yield and of Spans: they answer what the plain function readF tells, in new memory. -/
import Derived.Test.YtkmdbhajoabggaaW5
namespace Go.Proofs.Ytkmdbhajoabggaa
open Go.RowKit

theorem fits_start {D : List Int} {M : Nat} (hD : D.length ≤ 400) (hM' : M ≤ 2147483648) : Fits D M { pos := 0, Y := [], S := [] } 0 := by
  refine ⟨Nat.zero_le _, Nat.le_refl _, ?_⟩
  have h : D.length * M ≤ 400 * 2147483648 := Nat.mul_le_mul hD hM'
  simp only [List.length_nil, Nat.sub_zero]
  omega

theorem read_none {w : World} {T N : Int} {rv dv : Value} {R : List Ru} {D : List Int} {M : Nat} (hr : RulesAt w w.heap.size rv R) (hd : ListAt w w.heap.size dv D)
    (hM : ∀ q, (R.getD q (0, [])).2.length ≤ M) (hM' : M ≤ 2147483648) (h : readF R D = none) :
    Calls Try.prog 6 #[.agg #[.int .i64 T, .int .i64 N, rv], dv] w fun e w' => e = .returned (.tuple #[noReader, .bool false]) ∧ Below w.heap.size w w' := by
  obtain ⟨ra, rc, hrv⟩ := hr.1
  obtain ⟨da, dc, hdv⟩ := hd.1
  unfold readF at h
  split at h
  · rename_i hl
    subst hdv
    exact read_long T N rv da D.length dc w hl
  · rename_i hl
    have call := name_any hr hd (by omega) hM hM' D.length 0 _ _ _ _ (start_inv w T N rv dv) (by simp) (fits_start (by omega) hM')
    split at h
    · rename_i hn
      subst hrv
      subst hdv
      refine read_stuck T N ra R.length rc da D.length dc w (by omega) (call.mono ?_)
      rintro e w' (⟨st, _, _, h2, _⟩ | ⟨_, rfl, hW⟩)
      · rw [hn] at h2; cases h2
      · exact ⟨rfl, hW⟩
    · rename_i st hn
      split at h
      · rename_i hp
        subst hrv
        subst hdv
        refine read_left T N ra R.length rc da D.length dc w (by omega) st hp (call.mono ?_)
        rintro e w' (⟨st2, yv, sv, h2, rfl, hI⟩ | ⟨h2, _⟩)
        · rw [hn] at h2; cases h2; exact ⟨rfl, yv, sv, hI⟩
        · rw [hn] at h2; cases h2
      · cases h

theorem read_some {w : World} {T N : Int} {rv dv : Value} {R : List Ru} {D : List Int} {M : Nat} {st : St} (hr : RulesAt w w.heap.size rv R) (hd : ListAt w w.heap.size dv D)
    (hM : ∀ q, (R.getD q (0, [])).2.length ≤ M) (hM' : M ≤ 2147483648) (h : readF R D = some st) :
    Calls Try.prog 6 #[.agg #[.int .i64 T, .int .i64 N, rv], dv] w fun e w' => ∃ yv sv,
      e = .returned (.tuple #[.agg #[.int .i64 T, .int .i64 N, rv, dv, .int .i64 st.pos, yv, sv], .bool true]) ∧ Below w.heap.size w w' ∧
      w'.ownsRow (w.heap.size + 3) 3 1 yv st.Y.length (st.Y.map (Value.int .i64)) ∧ w'.ownsRow (w.heap.size + 3) 35 3 sv st.S.length (flat st.S) := by
  obtain ⟨ra, rc, hrv⟩ := hr.1
  obtain ⟨da, dc, hdv⟩ := hd.1
  unfold readF at h
  split at h
  · cases h
  · rename_i hl
    have call := name_any hr hd (by omega) hM hM' D.length 0 _ _ _ _ (start_inv w T N rv dv) (by simp) (fits_start (by omega) hM')
    split at h
    · cases h
    · rename_i st' hn
      split at h
      · cases h
      · rename_i hp
        cases h
        subst hrv
        subst hdv
        refine read_done T N ra R.length rc da D.length dc w (by omega) st hp (call.mono ?_)
        rintro e w' (⟨st2, yv, sv, h2, rfl, hI⟩ | ⟨h2, _⟩)
        · rw [hn] at h2; cases h2; exact ⟨rfl, yv, sv, hI⟩
        · rw [hn] at h2; cases h2

theorem RulesAt.boxed {w : World} {rv : Value} {R : List Ru} (h : RulesAt w w.heap.size rv R) (o : Obj) : RulesAt (w.alloc o) (w.alloc o).heap.size rv R :=
  (h.below ((Below.refl _ _).alloc (Nat.le_refl _) o)).mono (by simp)
theorem ListAt.boxed {w : World} {dv : Value} {D : List Int} (h : ListAt w w.heap.size dv D) (o : Obj) : ListAt (w.alloc o) (w.alloc o).heap.size dv D :=
  (h.below ((Below.refl _ _).alloc (Nat.le_refl _) o)).mono (by simp)

theorem own_mono {w : World} {base base' : Nat} {e : TypeId} {size : Nat} {v : Value} {n : Nat} {xs : List Value} (h : w.ownsRow base e size v n xs) (hb : base' ≤ base) : w.ownsRow base' e size v n xs := by
  refine ⟨h.1, ?_⟩
  rcases h.2 with h2 | ⟨g, cap, cur, h1, h2, h3⟩
  · exact .inl h2
  · exact .inr ⟨g, cap, cur, h1, by omega, h3⟩

section
variable {w : World} {T N : Int} {rv dv : Value} {R : List Ru} {D : List Int} {M : Nat} {st : St}

set_option maxRecDepth 100000 in
theorem yield_none (hr : RulesAt w w.heap.size rv R) (hd : ListAt w w.heap.size dv D) (hM : ∀ q, (R.getD q (0, [])).2.length ≤ M) (hM' : M ≤ 2147483648) (h : readF R D = none) :
    Calls Try.prog 4 #[.agg #[.int .i64 T, .int .i64 N, rv], dv] w fun e w' => e = .returned (.tuple #[.slice none 0 0, .bool false]) ∧ Below w.heap.size w w' := by
  have call := read_none (T := T) (N := N) (hr.boxed (.cells #[.int .i64 T, .int .i64 N, rv] 24)) (hd.boxed (.cells #[.int .i64 T, .int .i64 N, rv] 24)) hM hM' h
  unfold noReader at call
  clear hr hd
  go_enter Try.func4, Try.ntmps4
  go_wp2_with (go_at_call 6; refine call.mono ?_; rintro e w1 ⟨rfl, hB⟩)
  go_ret2
  refine ⟨rfl, ?_⟩
  have hz := hB.size
  simp only [World.size_alloc] at hz
  exact (((Below.refl _ _).alloc (Nat.le_refl _) _).trans (hB.mono (by simp))).alloc (by omega) _

set_option maxRecDepth 100000 in
theorem spans_none (hr : RulesAt w w.heap.size rv R) (hd : ListAt w w.heap.size dv D) (hM : ∀ q, (R.getD q (0, [])).2.length ≤ M) (hM' : M ≤ 2147483648) (h : readF R D = none) :
    Calls Try.prog 5 #[.agg #[.int .i64 T, .int .i64 N, rv], dv] w fun e w' => e = .returned (.tuple #[.slice none 0 0, .bool false]) ∧ Below w.heap.size w w' := by
  have call := read_none (T := T) (N := N) (hr.boxed (.cells #[.int .i64 T, .int .i64 N, rv] 24)) (hd.boxed (.cells #[.int .i64 T, .int .i64 N, rv] 24)) hM hM' h
  unfold noReader at call
  clear hr hd
  go_enter Try.func5, Try.ntmps5
  go_wp2_with (go_at_call 6; refine call.mono ?_; rintro e w1 ⟨rfl, hB⟩)
  go_ret2
  refine ⟨rfl, ?_⟩
  have hz := hB.size
  simp only [World.size_alloc] at hz
  exact (((Below.refl _ _).alloc (Nat.le_refl _) _).trans (hB.mono (by simp))).alloc (by omega) _

set_option maxRecDepth 100000 in
theorem yield_some (hr : RulesAt w w.heap.size rv R) (hd : ListAt w w.heap.size dv D) (hM : ∀ q, (R.getD q (0, [])).2.length ≤ M) (hM' : M ≤ 2147483648) (h : readF R D = some st) :
    Calls Try.prog 4 #[.agg #[.int .i64 T, .int .i64 N, rv], dv] w fun e w' => ∃ yv, e = .returned (.tuple #[yv, .bool true]) ∧ Below w.heap.size w w' ∧
      w'.ownsRow w.heap.size 3 1 yv st.Y.length (st.Y.map (Value.int .i64)) := by
  have call := read_some (T := T) (N := N) (hr.boxed (.cells #[.int .i64 T, .int .i64 N, rv] 24)) (hd.boxed (.cells #[.int .i64 T, .int .i64 N, rv] 24)) hM hM' h
  obtain ⟨ra, rc, rfl⟩ := hr.1
  obtain ⟨da, dc, rfl⟩ := hd.1
  clear hr hd
  go_enter Try.func4, Try.ntmps4
  go_wp2_with (go_at_call 6; refine call.mono ?_; rintro e w1 ⟨yv, sv, rfl, hB, hY, hS⟩; obtain ⟨ya, yc, rfl⟩ := own_form hY; obtain ⟨sa, sc, rfl⟩ := own_form hS)
  go_ret2
  have hz := hB.size
  simp only [World.size_alloc] at hz hY
  exact ⟨_, rfl, (((Below.refl _ _).alloc (Nat.le_refl _) _).trans (hB.mono (by simp))).alloc (by omega) _, (own_mono hY (by omega)).alloc _⟩

set_option maxRecDepth 100000 in
theorem spans_some (hr : RulesAt w w.heap.size rv R) (hd : ListAt w w.heap.size dv D) (hM : ∀ q, (R.getD q (0, [])).2.length ≤ M) (hM' : M ≤ 2147483648) (h : readF R D = some st) :
    Calls Try.prog 5 #[.agg #[.int .i64 T, .int .i64 N, rv], dv] w fun e w' => ∃ sv, e = .returned (.tuple #[sv, .bool true]) ∧ Below w.heap.size w w' ∧
      w'.ownsRow w.heap.size 35 3 sv st.S.length (flat st.S) := by
  have call := read_some (T := T) (N := N) (hr.boxed (.cells #[.int .i64 T, .int .i64 N, rv] 24)) (hd.boxed (.cells #[.int .i64 T, .int .i64 N, rv] 24)) hM hM' h
  obtain ⟨ra, rc, rfl⟩ := hr.1
  obtain ⟨da, dc, rfl⟩ := hd.1
  clear hr hd
  go_enter Try.func5, Try.ntmps5
  go_wp2_with (go_at_call 6; refine call.mono ?_; rintro e w1 ⟨yv, sv, rfl, hB, hY, hS⟩; obtain ⟨ya, yc, rfl⟩ := own_form hY; obtain ⟨sa, sc, rfl⟩ := own_form hS)
  go_ret2
  have hz := hB.size
  simp only [World.size_alloc] at hz hS
  exact ⟨_, rfl, (((Below.refl _ _).alloc (Nat.le_refl _) _).trans (hB.mono (by simp))).alloc (by omega) _, (own_mono hS (by omega)).alloc _⟩

end
end Go.Proofs.Ytkmdbhajoabggaa
