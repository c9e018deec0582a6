/- The law pollardinglaw.RecogFinds: it returns true. -/
import Derived.Test.YtgkikliaadjmiaaRecogHas
import Derived.Test.YtgkikliaadjmiaaThrUse
namespace Go.Proofs.Ytgkikliaadjmiaa
open Go.RowKit

/-- What can be read of the law's arguments, later. -/
structure LawBoxF (w : World) (T N : Int) (rv dv : Value) (R : List Ru) (D : List Int) (wq : World) : Prop where
  c0 : wq.cell? ⟨w.heap.size, 0, none⟩ = some (.int .i64 T)
  c1 : wq.cell? ⟨w.heap.size, 1, none⟩ = some (.int .i64 N)
  c2 : wq.cell? ⟨w.heap.size, 2, none⟩ = some rv
  rules : RulesAt wq wq.heap.size rv R
  list : ListAt wq wq.heap.size dv D
  below : Below w.heap.size w wq
  size : w.heap.size + 1 ≤ wq.heap.size

theorem lawBoxF {w : World} {T N : Int} {rv dv : Value} {R : List Ru} {D : List Int} (hr : RulesAt w w.heap.size rv R) (ht : ListAt w w.heap.size dv D) : ∀ wq, Below (w.heap.size + 1) (w.alloc (.cells #[.int .i64 T, .int .i64 N, rv] 24)) wq → LawBoxF w T N rv dv R D wq := fun wq hq => by
  have hB : Below w.heap.size w wq := ((Below.refl _ _).alloc (Nat.le_refl _) _).trans (hq.mono (by omega))
  exact ⟨(hq.cell (by simp)).trans (by simp [go_sem]), (hq.cell (by simp)).trans (by simp [go_sem]), (hq.cell (by simp)).trans (by simp [go_sem]), (hr.below hB).mono hB.size, (ht.below hB).mono hB.size, hB, by have := hq.size; simpa using this⟩

theorem own_list {w : World} {B : Nat} {v : Value} {Y : List Int} (h : w.ownsRow B 3 1 v Y.length (Y.map (Value.int .i64))) : ListAt w w.heap.size v Y := by
  obtain ⟨a, c, hv⟩ := own_form h
  refine ⟨⟨a, c, hv⟩, fun p hp => ?_⟩
  obtain ⟨g, cap, hg, _, hlt⟩ := h.form (by omega)
  refine ⟨g, 0, cap, hg, hlt, ?_⟩
  rw [hg] at h
  rw [Nat.zero_add, h.cellAt p (by omega)]
  simp [List.getD, hp]

/-- A grammar of one rule, by which the name 0 becomes nothing. -/
theorem one_rules (w : World) (o : Obj) : RulesAt ((w.alloc (.cells #[.int .i64 0, .slice none 0 0] 31)).alloc o) ((w.alloc (.cells #[.int .i64 0, .slice none 0 0] 31)).alloc o).heap.size (.slice (some ⟨w.heap.size, 0, none⟩) 1 1) [((0 : Int), ([] : List Sy))] := by
  refine ⟨⟨_, _, rfl⟩, fun q hq => ?_⟩
  have : q = 0 := by simpa using hq
  subst this
  refine ⟨w.heap.size, 0, 1, none, 0, rfl, by simp; omega, ?_, ?_, by simp, fun j hj => by simp at hj⟩
  · rw [World.cell?_alloc_past _ _ _ (by simp)]
    simp [go_sem]
  · rw [World.cell?_alloc_past _ _ _ (by simp)]
    simp [go_sem]

theorem one_der : Der [((0 : Int), ([] : List Sy))] 0 [] := ⟨1, (0, []), by simp, rfl, rfl⟩

set_option maxRecDepth 100000 in
set_option maxHeartbeats 1600000 in
theorem recogFinds_none {w : World} {T N : Int} {rv dv : Value} {R : List Ru} {D : List Int} (hr : RulesAt w w.heap.size rv R) (hd : ListAt w w.heap.size dv D) (hn : mayB T N R = true → readF R D = none) :
    Calls Try.prog 3 #[.agg #[.int .i64 T, .int .i64 N, rv], dv] w fun e w' => e = .returned (.bool true) ∧ Below w.heap.size w w' := by
  obtain ⟨ra, rc, hrv⟩ := hr.1
  obtain ⟨da, dc, hdv⟩ := hd.1
  subst hrv
  subst hdv
  have thr : Calls Try.prog 4 #[.agg #[.int .i64 T, .int .i64 N, .slice ra R.length rc], .slice da D.length dc] (w.alloc (.cells #[.int .i64 T, .int .i64 N, .slice ra R.length rc] 24)) fun e w' => e = .returned noThrough ∧ Below (w.alloc (.cells #[.int .i64 T, .int .i64 N, .slice ra R.length rc] 24)).heap.size (w.alloc (.cells #[.int .i64 T, .int .i64 N, .slice ra R.length rc] 24)) w' := by
    cases hm : mayB T N R with
    | false => exact thr_not (hr.boxed _) (.inl hm)
    | true => exact thr_none (hr.boxed _) (hd.boxed _) hm (hn hm)
  unfold noThrough at thr
  simp only [World.size_alloc] at thr
  have HB0 : Hid (Below w.heap.size w (w.alloc (.cells #[.int .i64 T, .int .i64 N, .slice ra R.length rc] 24))) := (Below.refl _ _).alloc (Nat.le_refl _) _
  have HO : Hid (∀ w1 : World, Calls Try.prog 5 #[.agg #[.int .i64 0, .int .i64 1, .slice (some ⟨w1.heap.size, 0, none⟩) 1 1], .slice none 0 0] ((w1.alloc (.cells #[.int .i64 0, .slice none 0 0] 31)).alloc (.cells #[.int .i64 0, .int .i64 1, .slice (some ⟨w1.heap.size, 0, none⟩) 1 1] 24)) fun e w' => e = .returned (.tuple #[.bool true, .int .i64 0]) ∧ Below w1.heap.size w1 w') := fun w1 => by
    have := has_right (w := (w1.alloc (.cells #[.int .i64 0, .slice none 0 0] 31)).alloc (.cells #[.int .i64 0, .int .i64 1, .slice (some ⟨w1.heap.size, 0, none⟩) 1 1] 24)) (T := 0) (N := 1) (tv := .slice none 0 0) (tok := []) (one_rules w1 _) ⟨⟨_, _, rfl⟩, fun p hp => by simp at hp⟩ (by decide) (by simp) (by decide)
    refine Calls.mono this fun e w' ⟨z, h1, h2, h3⟩ => ?_
    have hz : z = true := h2.2 one_der
    subst hz
    exact ⟨h1, (((Below.refl _ _).alloc (Nat.le_refl _) _).alloc (by simp) _).trans (h3.mono (by simp; omega))⟩
  clear hr hd hn
  go_enter Try.func3, Try.ntmps3
  go_wp2_with
    (first
     | (go_at_call 4; refine thr.mono ?_; rintro e w1 ⟨rfl, hB1⟩
        have HB1 : Hid (Below w.heap.size w w1) := HB0.out.trans (hB1.mono (by simp))
        have one := HO.out w1
        clear hB1 thr)
     | (go_at_call 5; refine one.mono ?_; rintro e w2 ⟨rfl, hB2⟩
        have HB2 : Hid (Below w.heap.size w w2) := HB1.out.trans (hB2.mono HB1.out.size)
        clear hB2 one))
  go_ret
  exact ⟨rfl, HB2.out⟩

set_option maxRecDepth 100000 in
set_option maxHeartbeats 1600000 in
theorem recogFinds_some {w : World} {T N : Nat} {rv dv : Value} {R : List Ru} {D : List Int} {st : St} (hr : RulesAt w w.heap.size rv R) (hd : ListAt w w.heap.size dv D) (hm : mayB T N R = true) (hn : readF R D = some st) :
    Calls Try.prog 3 #[.agg #[.int .i64 T, .int .i64 N, rv], dv] w fun e w' => e = .returned (.bool true) ∧ Below w.heap.size w w' := by
  obtain ⟨ra, rc, hrv⟩ := hr.1
  obtain ⟨da, dc, hdv⟩ := hd.1
  subst hrv
  subst hdv
  have HBX : Hid (∀ wq, Below (w.heap.size + 1) (w.alloc (.cells #[.int .i64 T, .int .i64 N, .slice ra R.length rc] 24)) wq → LawBoxF w T N (.slice ra R.length rc) (.slice da D.length dc) R D wq) := lawBoxF hr hd
  have thr := thr_some (T := T) (N := N) (hr.boxed (.cells #[.int .i64 T, .int .i64 N, .slice ra R.length rc] 24)) (hd.boxed (.cells #[.int .i64 T, .int .i64 N, .slice ra R.length rc] 24)) hm hn
  simp only [World.size_alloc] at thr
  have HD : Hid (Der R 0 st.Y) := read_der hn
  have HM : Hid (mayB T N R = true) := hm
  have HI : Hid (inB T st.Y = true) := der_in hm (read_der hn)
  clear hr hm hd hn
  by_cases h30 : 30 < st.Y.length
  · have HW : Hid (wrongE T N R st.Y = 1) := by show wrongE T N R st.Y = 1; simp [wrongE, HM.out, h30]
    have j0 : (30 : Int) < (st.Y.length : Int) := by omega
    go_enter Try.func3, Try.ntmps3
    go_wp2_with
      (first
       | (go_at_call 4; refine thr.mono ?_; rintro e w1 ⟨ta, tc, sv, rfl, hB1, hown⟩
          have b := HBX.out w1 hB1
          have b0 := b.c0
          have b1 := b.c1
          have b2 := b.c2
          have hs1 := b.size
          have has := has_wrong (T := T) (N := N) b.rules (own_list hown) (by rw [HW.out]; decide)
          rw [HW.out] at has
          have HB1 : Hid (Below (w.heap.size + 1) (w.alloc (.cells #[.int .i64 T, .int .i64 N, .slice ra R.length rc] 24)) w1) := hB1
          clear hB1 b thr hown)
       | (go_at_call 5; refine has.mono ?_; rintro e w2 ⟨rfl, hB2⟩
          have HB2 : Hid (Below w.heap.size w w2) := (HBX.out w2 (HB1.out.trans (hB2.mono hs1))).below
          clear hB2 has))
    go_ret
    exact ⟨rfl, HB2.out⟩
  · have j0 : decide ((30 : Int) < (st.Y.length : Int)) = false := decide_eq_false (by omega)
    go_enter Try.func3, Try.ntmps3
    go_wp2_with
      (first
       | (go_at_call 4; refine thr.mono ?_; rintro e w1 ⟨ta, tc, sv, rfl, hB1, hown⟩
          have b := HBX.out w1 hB1
          have b0 := b.c0
          have b1 := b.c1
          have b2 := b.c2
          have hs1 := b.size
          have has := has_right (T := T) (N := N) b.rules (own_list hown) HM.out (by omega) HI.out
          have HB1 : Hid (Below (w.heap.size + 1) (w.alloc (.cells #[.int .i64 T, .int .i64 N, .slice ra R.length rc] 24)) w1) := hB1
          clear hB1 b thr hown)
       | (go_at_call 5; refine has.mono ?_; rintro e w2 ⟨z, rfl, hz, hB2⟩
          have HB2 : Hid (Below w.heap.size w w2) := (HBX.out w2 (HB1.out.trans (hB2.mono hs1))).below
          have hzt : z = true := hz.2 HD.out
          subst hzt
          clear hB2 has hz))
    go_ret
    exact ⟨rfl, HB2.out⟩

theorem recogFinds_any {w : World} {T N : Int} {rv dv : Value} {R : List Ru} {D : List Int} (hr : RulesAt w w.heap.size rv R) (hd : ListAt w w.heap.size dv D) :
    Calls Try.prog 3 #[.agg #[.int .i64 T, .int .i64 N, rv], dv] w fun e w' => e = .returned (.bool true) ∧ Below w.heap.size w w' := by
  cases hm : mayB T N R with
  | false => exact recogFinds_none hr hd fun h => by rw [hm] at h; cases h
  | true =>
    cases hn : readF R D with
    | none => exact recogFinds_none hr hd fun _ => hn
    | some st =>
      have hh := hm
      simp only [mayB, headB, Bool.and_eq_true, decide_eq_true_eq] at hh
      obtain ⟨t, rfl⟩ : ∃ t : Nat, T = t := ⟨T.toNat, by omega⟩
      obtain ⟨n, rfl⟩ : ∃ n : Nat, N = n := ⟨N.toNat, by omega⟩
      exact recogFinds_some hr hd hm hn

end Go.Proofs.Ytgkikliaadjmiaa
