import Derived.Test.YtlalmfheiippiaaStOutPAndStCat
import Derived.Test.YtlalmfheiippiaaStLeftAndLeft3
import Derived.Test.YtlalmfheiippiaaReachComeAndStOfP
/- The contract of package step's changeOf. -/
namespace Go.Proofs.Ytlalmfheiippiaa
open Go.RowKit

def ruW (R : List Ru) (s : Stp) : Ru := R.getD s.a.toNat (0, [])
def idxW (R : List Ru) (s : Stp) : List Nat := idxF (fun k => decide ((R.getD k (0, [])).1 = ((ruW R s).2.getD s.b.toNat (false, 0)).2)) R.length

/-- The change that a step is. -/
structure ChgAt (w : World) (B : Nat) (T N : Nat) (ra : Option Addr) (rc : Nat) (R : List Ru) (s : Stp) (cv : Value) : Prop where
  swap : s.op = 1 → cv = .iface 52 (.agg #[.int .i64 T, .int .i64 N, .slice ra R.length rc, .int .i64 s.op, .int .i64 s.a, .int .i64 s.b, .int .i64 s.c])
  extract : s.op = 2 → cv = .iface 55 (.agg #[.int .i64 T, .int .i64 N, .slice ra R.length rc, .int .i64 s.op, .int .i64 s.a, .int .i64 s.b, .int .i64 s.c, .int .i64 (namesS ((ruW R s).2.take s.b.toNat)).length, .int .i64 (namesS ((ruW R s).2.take s.c.toNat)).length])
  inline : s.op = 3 → ∃ ov, cv = .iface 59 (.agg #[.int .i64 T, .int .i64 N, .slice ra R.length rc, .int .i64 s.op, .int .i64 s.a, .int .i64 s.b, .int .i64 s.c, ov, .int .i64 (namesS ((ruW R s).2.take s.b.toNat)).length]) ∧ w.ownsRow B 3 1 ov (idxW R s).length (idxV (idxW R s))
  left : s.op = 4 → cv = .iface 60 (.agg #[.int .i64 T, .int .i64 N, .slice ra R.length rc, .int .i64 s.op, .int .i64 s.a, .int .i64 s.b, .int .i64 s.c])
  prune : s.op = 5 → ∃ ov, cv = .iface 66 (.agg #[.int .i64 T, .int .i64 N, .slice ra R.length rc, .int .i64 s.op, .int .i64 s.a, .int .i64 s.b, .int .i64 s.c, ov]) ∧ w.ownsRow B 3 1 ov (idxF (fun k => needB N R (R.getD k (0, []))) R.length).length (idxV (idxF (fun k => needB N R (R.getD k (0, []))) R.length))

theorem ChgAt.next {w w' : World} {B T N : Nat} {ra : Option Addr} {rc : Nat} {R : List Ru} {s : Stp} {cv : Value} (h : ChgAt w B T N ra rc R s cv) (hb : Below w.heap.size w w') : ChgAt w' B T N ra rc R s cv :=
  ⟨h.swap, h.extract, fun e => let ⟨ov, h1, h2⟩ := h.inline e; ⟨ov, h1, own_below h2 hb fun g hg => (h2.lt g hg).2⟩, h.left, fun e => let ⟨ov, h1, h2⟩ := h.prune e; ⟨ov, h1, own_below h2 hb fun g hg => (h2.lt g hg).2⟩⟩
theorem ChgAt.set {w : World} {B T N : Nat} {ra : Option Addr} {rc : Nat} {R : List Ru} {s : Stp} {cv : Value} (h : ChgAt w B T N ra rc R s cv) {a : Addr} (ha : a.block < B) (u : Value) : ChgAt (w.setCell a u) B T N ra rc R s cv :=
  ⟨h.swap, h.extract, fun e => let ⟨ov, h1, h2⟩ := h.inline e; ⟨ov, h1, own_setLow h2 ha u⟩, h.left, fun e => let ⟨ov, h1, h2⟩ := h.prune e; ⟨ov, h1, own_setLow h2 ha u⟩⟩
theorem ChgAt.mono {w : World} {B B' T N : Nat} {ra : Option Addr} {rc : Nat} {R : List Ru} {s : Stp} {cv : Value} (h : ChgAt w B T N ra rc R s cv) (hB : B' ≤ B) : ChgAt w B' T N ra rc R s cv :=
  ⟨h.swap, h.extract, fun e => let ⟨ov, h1, h2⟩ := h.inline e; ⟨ov, h1, own_mono h2 hB⟩, h.left, fun e => let ⟨ov, h1, h2⟩ := h.prune e; ⟨ov, h1, own_mono h2 hB⟩⟩

section
variable {w : World} {T N : Nat} {ra : Option Addr} {rc : Nat} {R : List Ru}

theorem chg_swap (hr : RulesAt w w.heap.size (.slice ra R.length rc) R) {a b c : Int} : Calls Try.prog 12 #[.agg #[.int .i64 T, .int .i64 N, .slice ra R.length rc, .int .i64 1, .int .i64 a, .int .i64 b, .int .i64 c]] w fun e w' => ∃ cv, e = .returned (.tuple #[cv, .bool (stepB N R ⟨1, a, b, c⟩)]) ∧ (stepB N R ⟨1, a, b, c⟩ = true → ChgAt w' w.heap.size T N ra rc R ⟨1, a, b, c⟩ cv) ∧ Below w.heap.size w w' := by
  have _ := hr
  refine st_swapOf.mono ?_
  rintro e w' ⟨rfl, hB⟩
  have hE : (decide (0 < a) && decide (a < (N : Int)) && (decide (0 < b) && decide (b < (N : Int))) && decide (c = 0)) = stepB N R ⟨1, a, b, c⟩ := by
    unfold stepB
    simp only
    rw [if_pos trivial]
    have e1 : decide (0 < a) = decide (1 ≤ a) := by rw [decide_eq_decide]; omega
    have e2 : decide (0 < b) = decide (1 ≤ b) := by rw [decide_eq_decide]; omega
    rw [e1, e2]
    simp only [Bool.and_assoc]
  refine ⟨_, by rw [hE], fun _ => ⟨fun _ => rfl, fun h => absurd h (by simp), fun h => absurd h (by simp), fun h => absurd h (by simp), fun h => absurd h (by simp)⟩, hB⟩

theorem chg_extract (hr : RulesAt w w.heap.size (.slice ra R.length rc) R) (hm : mayB T N R = true) {a b c : Int} : Calls Try.prog 13 #[.agg #[.int .i64 T, .int .i64 N, .slice ra R.length rc, .int .i64 2, .int .i64 a, .int .i64 b, .int .i64 c]] w fun e w' => ∃ cv, e = .returned (.tuple #[cv, .bool (stepB N R ⟨2, a, b, c⟩)]) ∧ (stepB N R ⟨2, a, b, c⟩ = true → ChgAt w' w.heap.size T N ra rc R ⟨2, a, b, c⟩ cv) ∧ Below w.heap.size w w' := by
  obtain ⟨_, _, _, hRl, h5⟩ := may_fine hm
  have hst : stepB N R ⟨2, a, b, c⟩ = true ↔ (0 ≤ a ∧ a < (R.length : Int) ∧ 0 ≤ b ∧ b < c ∧ c ≤ ((R.getD a.toNat (0, [])).2.length : Int)) := by
    unfold stepB
    simp only
    rw [if_neg (by decide), if_pos trivial]
    simp only [Bool.and_eq_true, decide_eq_true_eq]
    constructor
    · rintro ⟨⟨⟨⟨h1, h2⟩, h3⟩, h4⟩, h5⟩; exact ⟨h1, h2, h3, h4, h5⟩
    · rintro ⟨h1, h2, h3, h4, h5⟩; exact ⟨⟨⟨⟨h1, h2⟩, h3⟩, h4⟩, h5⟩
  cases hB : stepB N R ⟨2, a, b, c⟩ with
  | false =>
    refine (st_extractOf_no hr fun h => ?_).mono ?_
    · rw [hst.2 h] at hB; cases hB
    · rintro e w' ⟨rfl, hB'⟩
      exact ⟨_, rfl, fun h => absurd h (by simp), hB'⟩
  | true =>
    obtain ⟨h1, h2, h3, h4, h6⟩ := hst.1 hB
    obtain ⟨ka, rfl⟩ : ∃ x : Nat, a = x := ⟨a.toNat, by omega⟩
    obtain ⟨bn, rfl⟩ : ∃ x : Nat, b = x := ⟨b.toNat, by omega⟩
    obtain ⟨cn, rfl⟩ : ∃ x : Nat, c = x := ⟨c.toNat, by omega⟩
    simp only [Int.toNat_natCast] at h6
    obtain ⟨⟨L, l⟩, hx⟩ : ∃ x, R.getD ka (0, []) = x := ⟨_, rfl⟩
    have h8 := (h5 ka (by omega)).2.2.1
    rw [hx] at h6 h8
    simp only at h6 h8
    refine (st_extractOf_yes (m := l.length - cn) hr (by omega) hx (by omega) (by omega) (by omega)).mono ?_
    rintro e w' ⟨rfl, hB'⟩
    refine ⟨_, rfl, fun _ => ⟨fun h => absurd h (by simp), fun _ => ?_, fun h => absurd h (by simp), fun h => absurd h (by simp), fun h => absurd h (by simp)⟩, hB'⟩
    unfold ruW
    simp only [Int.toNat_natCast, hx]

theorem chg_inline (hr : RulesAt w w.heap.size (.slice ra R.length rc) R) (hm : mayB T N R = true) {a b c : Int} : Calls Try.prog 14 #[.agg #[.int .i64 T, .int .i64 N, .slice ra R.length rc, .int .i64 3, .int .i64 a, .int .i64 b, .int .i64 c]] w fun e w' => ∃ cv, e = .returned (.tuple #[cv, .bool (stepB N R ⟨3, a, b, c⟩)]) ∧ (stepB N R ⟨3, a, b, c⟩ = true → ChgAt w' w.heap.size T N ra rc R ⟨3, a, b, c⟩ cv) ∧ Below w.heap.size w w' := by
  obtain ⟨_, _, _, hRl, h5⟩ := may_fine hm
  have hst : stepB N R ⟨3, a, b, c⟩ = true ↔ (0 ≤ a ∧ a < (R.length : Int) ∧ 0 ≤ b ∧ b < ((R.getD a.toNat (0, [])).2.length : Int) ∧ c = 0 ∧ ((R.getD a.toNat (0, [])).2.getD b.toNat (false, 0)).1 = false ∧ ((R.getD a.toNat (0, [])).2.getD b.toNat (false, 0)).2 ≠ (R.getD a.toNat (0, [])).1) := by
    unfold stepB
    simp only
    rw [if_neg (by decide), if_neg (by decide), if_pos trivial]
    simp only [Bool.and_eq_true, decide_eq_true_eq, Bool.not_eq_true', decide_eq_false_iff_not]
    constructor
    · rintro ⟨⟨⟨⟨⟨⟨h1, h2⟩, h3⟩, h4⟩, h5⟩, h6⟩, h7⟩; exact ⟨h1, h2, h3, h4, h5, h6, h7⟩
    · rintro ⟨h1, h2, h3, h4, h5, h6, h7⟩; exact ⟨⟨⟨⟨⟨⟨h1, h2⟩, h3⟩, h4⟩, h5⟩, h6⟩, h7⟩
  cases hB : stepB N R ⟨3, a, b, c⟩ with
  | false =>
    refine (st_inlineOf_no hr fun h => ?_).mono ?_
    · rw [hst.2 h] at hB; cases hB
    · rintro e w' ⟨rfl, hB'⟩
      exact ⟨_, rfl, fun h => absurd h (by simp), hB'⟩
  | true =>
    obtain ⟨h1, h2, h3, h4, h6, h7, h9⟩ := hst.1 hB
    subst h6
    obtain ⟨ka, rfl⟩ : ∃ x : Nat, a = x := ⟨a.toNat, by omega⟩
    obtain ⟨bn, rfl⟩ : ∃ x : Nat, b = x := ⟨b.toNat, by omega⟩
    simp only [Int.toNat_natCast] at h4 h7 h9
    obtain ⟨⟨L, l⟩, hx⟩ : ∃ x, R.getD ka (0, []) = x := ⟨_, rfl⟩
    have h8 := (h5 ka (by omega)).2.2.1
    rw [hx] at h4 h7 h8 h9
    simp only at h4 h7 h8 h9
    obtain ⟨⟨t, X⟩, hX⟩ : ∃ x, l.getD bn (false, 0) = x := ⟨_, rfl⟩
    rw [hX] at h7 h9
    simp only at h7 h9
    subst h7
    refine (st_inlineOf_yes (m := l.length - (bn + 1)) hr (by omega) (by omega) hx (by omega) (by omega) hX h9).mono ?_
    rintro e w' ⟨ov, rfl, hL, hB'⟩
    refine ⟨_, rfl, fun _ => ⟨fun h => absurd h (by simp), fun h => absurd h (by simp), fun _ => ⟨ov, ?_, ?_⟩, fun h => absurd h (by simp), fun h => absurd h (by simp)⟩, hB'⟩
    · unfold ruW
      simp only [Int.toNat_natCast, hx]
    · unfold idxW ruW
      simp only [Int.toNat_natCast, hx, hX]
      exact hL

theorem chg_left (hr : RulesAt w w.heap.size (.slice ra R.length rc) R) (hm : mayB T N R = true) {a b c : Int} : Calls Try.prog 15 #[.agg #[.int .i64 T, .int .i64 N, .slice ra R.length rc, .int .i64 4, .int .i64 a, .int .i64 b, .int .i64 c]] w fun e w' => ∃ cv, e = .returned (.tuple #[cv, .bool (stepB N R ⟨4, a, b, c⟩)]) ∧ (stepB N R ⟨4, a, b, c⟩ = true → ChgAt w' w.heap.size T N ra rc R ⟨4, a, b, c⟩ cv) ∧ Below w.heap.size w w' := by
  obtain ⟨_, _, _, hRl, h5⟩ := may_fine hm
  have hst : stepB N R ⟨4, a, b, c⟩ = (decide (b = 0) && decide (c = 0) && leftB R a) := by
    unfold stepB
    simp only
    rw [if_neg (by decide), if_neg (by decide), if_neg (by decide), if_pos trivial]
  have hin : leftB R a = true → 0 ≤ a ∧ a < (N : Int) := fun h => by
    unfold leftB at h
    simp only [Bool.and_eq_true, List.any_eq_true] at h
    obtain ⟨⟨r, hrm, ho⟩, _⟩ := h
    unfold ownA at ho
    simp only [Bool.and_eq_true, decide_eq_true_eq] at ho
    have := (may_Fine hm).left r hrm
    rw [ho.1] at this
    exact this
  by_cases hg : 0 ≤ a ∧ a < (N : Int) ∧ b = 0 ∧ c = 0
  · obtain ⟨h1, h2, rfl, rfl⟩ := hg
    have e : stepB N R ⟨4, a, 0, 0⟩ = leftB R a := by rw [hst]; rfl
    rw [e]
    refine (st_leftOf_yes hr (by omega) ⟨h1, h2⟩).mono ?_
    rintro e w' ⟨cv, rfl, hc, hB'⟩
    exact ⟨cv, rfl, fun h => ⟨fun h => absurd h (by simp), fun h => absurd h (by simp), fun h => absurd h (by simp), fun _ => hc h, fun h => absurd h (by simp)⟩, hB'⟩
  · have e : stepB N R ⟨4, a, b, c⟩ = false := by
      cases h : stepB N R ⟨4, a, b, c⟩ with
      | false => rfl
      | true =>
        rw [hst] at h
        simp only [Bool.and_eq_true, decide_eq_true_eq] at h
        have := hin h.2
        exact absurd ⟨this.1, this.2, h.1.1, h.1.2⟩ hg
    rw [e]
    refine (st_leftOf_no hr hg).mono ?_
    rintro e w' ⟨rfl, hB'⟩
    exact ⟨_, rfl, fun h => absurd h (by simp), hB'⟩

theorem chg_prune (hr : RulesAt w w.heap.size (.slice ra R.length rc) R) (hm : mayB T N R = true) {a b c : Int} : Calls Try.prog 16 #[.agg #[.int .i64 T, .int .i64 N, .slice ra R.length rc, .int .i64 5, .int .i64 a, .int .i64 b, .int .i64 c]] w fun e w' => ∃ cv, e = .returned (.tuple #[cv, .bool (stepB N R ⟨5, a, b, c⟩)]) ∧ (stepB N R ⟨5, a, b, c⟩ = true → ChgAt w' w.heap.size T N ra rc R ⟨5, a, b, c⟩ cv) ∧ Below w.heap.size w w' := by
  have hst : stepB N R ⟨5, a, b, c⟩ = (decide (a = 0) && decide (b = 0) && decide (c = 0)) := by
    unfold stepB
    simp only
    rw [if_neg (by decide), if_neg (by decide), if_neg (by decide), if_neg (by decide), if_pos trivial]
  by_cases hg : a = 0 ∧ b = 0 ∧ c = 0
  · obtain ⟨rfl, rfl, rfl⟩ := hg
    have e : stepB N R ⟨5, 0, 0, 0⟩ = true := by rw [hst]; rfl
    rw [e]
    refine (st_pruneOf_yes hr hm).mono ?_
    rintro e w' ⟨ov, rfl, hL, hB'⟩
    exact ⟨_, rfl, fun _ => ⟨fun h => absurd h (by simp), fun h => absurd h (by simp), fun h => absurd h (by simp), fun h => absurd h (by simp), fun _ => ⟨ov, rfl, hL⟩⟩, hB'⟩
  · have e : stepB N R ⟨5, a, b, c⟩ = false := by
      cases h : stepB N R ⟨5, a, b, c⟩ with
      | false => rfl
      | true =>
        rw [hst] at h
        simp only [Bool.and_eq_true, decide_eq_true_eq] at h
        exact absurd ⟨h.1.1, h.1.2, h.2⟩ hg
    rw [e]
    refine (st_pruneOf_no hr hg).mono ?_
    rintro e w' ⟨rfl, hB'⟩
    exact ⟨_, rfl, fun h => absurd h (by simp), hB'⟩

set_option maxRecDepth 100000 in
set_option maxHeartbeats 3200000 in
theorem change_swap (hr : RulesAt w w.heap.size (.slice ra R.length rc) R) (hm : mayB T N R = true) {a b c : Int} : Calls Try.prog 9 #[.agg #[.int .i64 T, .int .i64 N, .slice ra R.length rc, .int .i64 1, .int .i64 a, .int .i64 b, .int .i64 c]] w fun e w' => ∃ cv, e = .returned (.tuple #[cv, .bool (stepB N R ⟨1, a, b, c⟩)]) ∧ (stepB N R ⟨1, a, b, c⟩ = true → ChgAt w' w.heap.size T N ra rc R ⟨1, a, b, c⟩ cv) ∧ Below w.heap.size w w' := by
  have _ := hm
  have hK := kbox_start (T := T) (N := N) (op := 1) (a := a) (b := b) (c := c) hr
  obtain ⟨W0, hW0⟩ : ∃ W, w.alloc (.cells #[.int .i64 T, .int .i64 N, .slice ra R.length rc, .int .i64 1, .int .i64 a, .int .i64 b, .int .i64 c] 46) = W := ⟨_, rfl⟩
  rw [hW0] at hK
  have x0 := hK.x0
  have x1 := hK.x1
  have x2 := hK.x2
  have x3 := hK.x3
  have x4 := hK.x4
  have x5 := hK.x5
  have x6 := hK.x6
  have HB : Hid (Below w.heap.size w W0) := hK.below
  have cc := chg_swap (T := T) (N := N) (a := a) (b := b) (c := c) hK.all
  obtain ⟨z, hz⟩ : ∃ z, stepB N R ⟨1, a, b, c⟩ = z := ⟨_, rfl⟩
  rw [hz] at cc ⊢
  clear hK hr hm hz
  go_enter Try.func9, Try.ntmps9
  go_wp2_with (go_at_call 12; refine cc.mono ?_; rintro e w2 ⟨cv, rfl, hcv, hB2⟩; clear cc)
  refine bodyPost_ret (v := .tuple #[cv, .bool z]) (by simp [results, Try.results9, go_sem]) rfl ?_
  exact ⟨cv, rfl, fun h => (hcv h).mono HB.out.size, HB.out.trans (hB2.mono HB.out.size)⟩

set_option maxRecDepth 100000 in
set_option maxHeartbeats 3200000 in
theorem change_extract (hr : RulesAt w w.heap.size (.slice ra R.length rc) R) (hm : mayB T N R = true) {a b c : Int} : Calls Try.prog 9 #[.agg #[.int .i64 T, .int .i64 N, .slice ra R.length rc, .int .i64 2, .int .i64 a, .int .i64 b, .int .i64 c]] w fun e w' => ∃ cv, e = .returned (.tuple #[cv, .bool (stepB N R ⟨2, a, b, c⟩)]) ∧ (stepB N R ⟨2, a, b, c⟩ = true → ChgAt w' w.heap.size T N ra rc R ⟨2, a, b, c⟩ cv) ∧ Below w.heap.size w w' := by
  have _ := hm
  have hK := kbox_start (T := T) (N := N) (op := 2) (a := a) (b := b) (c := c) hr
  obtain ⟨W0, hW0⟩ : ∃ W, w.alloc (.cells #[.int .i64 T, .int .i64 N, .slice ra R.length rc, .int .i64 2, .int .i64 a, .int .i64 b, .int .i64 c] 46) = W := ⟨_, rfl⟩
  rw [hW0] at hK
  have x0 := hK.x0
  have x1 := hK.x1
  have x2 := hK.x2
  have x3 := hK.x3
  have x4 := hK.x4
  have x5 := hK.x5
  have x6 := hK.x6
  have HB : Hid (Below w.heap.size w W0) := hK.below
  have cc := chg_extract (T := T) (N := N) (a := a) (b := b) (c := c) hK.all hm
  obtain ⟨z, hz⟩ : ∃ z, stepB N R ⟨2, a, b, c⟩ = z := ⟨_, rfl⟩
  rw [hz] at cc ⊢
  clear hK hr hm hz
  go_enter Try.func9, Try.ntmps9
  go_wp2_with (go_at_call 13; refine cc.mono ?_; rintro e w2 ⟨cv, rfl, hcv, hB2⟩; clear cc)
  refine bodyPost_ret (v := .tuple #[cv, .bool z]) (by simp [results, Try.results9, go_sem]) rfl ?_
  exact ⟨cv, rfl, fun h => (hcv h).mono HB.out.size, HB.out.trans (hB2.mono HB.out.size)⟩

set_option maxRecDepth 100000 in
set_option maxHeartbeats 3200000 in
theorem change_inline (hr : RulesAt w w.heap.size (.slice ra R.length rc) R) (hm : mayB T N R = true) {a b c : Int} : Calls Try.prog 9 #[.agg #[.int .i64 T, .int .i64 N, .slice ra R.length rc, .int .i64 3, .int .i64 a, .int .i64 b, .int .i64 c]] w fun e w' => ∃ cv, e = .returned (.tuple #[cv, .bool (stepB N R ⟨3, a, b, c⟩)]) ∧ (stepB N R ⟨3, a, b, c⟩ = true → ChgAt w' w.heap.size T N ra rc R ⟨3, a, b, c⟩ cv) ∧ Below w.heap.size w w' := by
  have _ := hm
  have hK := kbox_start (T := T) (N := N) (op := 3) (a := a) (b := b) (c := c) hr
  obtain ⟨W0, hW0⟩ : ∃ W, w.alloc (.cells #[.int .i64 T, .int .i64 N, .slice ra R.length rc, .int .i64 3, .int .i64 a, .int .i64 b, .int .i64 c] 46) = W := ⟨_, rfl⟩
  rw [hW0] at hK
  have x0 := hK.x0
  have x1 := hK.x1
  have x2 := hK.x2
  have x3 := hK.x3
  have x4 := hK.x4
  have x5 := hK.x5
  have x6 := hK.x6
  have HB : Hid (Below w.heap.size w W0) := hK.below
  have cc := chg_inline (T := T) (N := N) (a := a) (b := b) (c := c) hK.all hm
  obtain ⟨z, hz⟩ : ∃ z, stepB N R ⟨3, a, b, c⟩ = z := ⟨_, rfl⟩
  rw [hz] at cc ⊢
  clear hK hr hm hz
  go_enter Try.func9, Try.ntmps9
  go_wp2_with (go_at_call 14; refine cc.mono ?_; rintro e w2 ⟨cv, rfl, hcv, hB2⟩; clear cc)
  refine bodyPost_ret (v := .tuple #[cv, .bool z]) (by simp [results, Try.results9, go_sem]) rfl ?_
  exact ⟨cv, rfl, fun h => (hcv h).mono HB.out.size, HB.out.trans (hB2.mono HB.out.size)⟩

set_option maxRecDepth 100000 in
set_option maxHeartbeats 3200000 in
theorem change_left (hr : RulesAt w w.heap.size (.slice ra R.length rc) R) (hm : mayB T N R = true) {a b c : Int} : Calls Try.prog 9 #[.agg #[.int .i64 T, .int .i64 N, .slice ra R.length rc, .int .i64 4, .int .i64 a, .int .i64 b, .int .i64 c]] w fun e w' => ∃ cv, e = .returned (.tuple #[cv, .bool (stepB N R ⟨4, a, b, c⟩)]) ∧ (stepB N R ⟨4, a, b, c⟩ = true → ChgAt w' w.heap.size T N ra rc R ⟨4, a, b, c⟩ cv) ∧ Below w.heap.size w w' := by
  have _ := hm
  have hK := kbox_start (T := T) (N := N) (op := 4) (a := a) (b := b) (c := c) hr
  obtain ⟨W0, hW0⟩ : ∃ W, w.alloc (.cells #[.int .i64 T, .int .i64 N, .slice ra R.length rc, .int .i64 4, .int .i64 a, .int .i64 b, .int .i64 c] 46) = W := ⟨_, rfl⟩
  rw [hW0] at hK
  have x0 := hK.x0
  have x1 := hK.x1
  have x2 := hK.x2
  have x3 := hK.x3
  have x4 := hK.x4
  have x5 := hK.x5
  have x6 := hK.x6
  have HB : Hid (Below w.heap.size w W0) := hK.below
  have cc := chg_left (T := T) (N := N) (a := a) (b := b) (c := c) hK.all hm
  obtain ⟨z, hz⟩ : ∃ z, stepB N R ⟨4, a, b, c⟩ = z := ⟨_, rfl⟩
  rw [hz] at cc ⊢
  clear hK hr hm hz
  go_enter Try.func9, Try.ntmps9
  go_wp2_with (go_at_call 15; refine cc.mono ?_; rintro e w2 ⟨cv, rfl, hcv, hB2⟩; clear cc)
  refine bodyPost_ret (v := .tuple #[cv, .bool z]) (by simp [results, Try.results9, go_sem]) rfl ?_
  exact ⟨cv, rfl, fun h => (hcv h).mono HB.out.size, HB.out.trans (hB2.mono HB.out.size)⟩

set_option maxRecDepth 100000 in
set_option maxHeartbeats 3200000 in
theorem change_prune (hr : RulesAt w w.heap.size (.slice ra R.length rc) R) (hm : mayB T N R = true) {a b c : Int} : Calls Try.prog 9 #[.agg #[.int .i64 T, .int .i64 N, .slice ra R.length rc, .int .i64 5, .int .i64 a, .int .i64 b, .int .i64 c]] w fun e w' => ∃ cv, e = .returned (.tuple #[cv, .bool (stepB N R ⟨5, a, b, c⟩)]) ∧ (stepB N R ⟨5, a, b, c⟩ = true → ChgAt w' w.heap.size T N ra rc R ⟨5, a, b, c⟩ cv) ∧ Below w.heap.size w w' := by
  have _ := hm
  have hK := kbox_start (T := T) (N := N) (op := 5) (a := a) (b := b) (c := c) hr
  obtain ⟨W0, hW0⟩ : ∃ W, w.alloc (.cells #[.int .i64 T, .int .i64 N, .slice ra R.length rc, .int .i64 5, .int .i64 a, .int .i64 b, .int .i64 c] 46) = W := ⟨_, rfl⟩
  rw [hW0] at hK
  have x0 := hK.x0
  have x1 := hK.x1
  have x2 := hK.x2
  have x3 := hK.x3
  have x4 := hK.x4
  have x5 := hK.x5
  have x6 := hK.x6
  have HB : Hid (Below w.heap.size w W0) := hK.below
  have cc := chg_prune (T := T) (N := N) (a := a) (b := b) (c := c) hK.all hm
  obtain ⟨z, hz⟩ : ∃ z, stepB N R ⟨5, a, b, c⟩ = z := ⟨_, rfl⟩
  rw [hz] at cc ⊢
  clear hK hr hm hz
  go_enter Try.func9, Try.ntmps9
  go_wp2_with (go_at_call 16; refine cc.mono ?_; rintro e w2 ⟨cv, rfl, hcv, hB2⟩; clear cc)
  refine bodyPost_ret (v := .tuple #[cv, .bool z]) (by simp [results, Try.results9, go_sem]) rfl ?_
  exact ⟨cv, rfl, fun h => (hcv h).mono HB.out.size, HB.out.trans (hB2.mono HB.out.size)⟩

set_option maxRecDepth 100000 in
set_option maxHeartbeats 3200000 in
theorem change_none (hr : RulesAt w w.heap.size (.slice ra R.length rc) R) {op a b c : Int} (h1 : op ≠ 1) (h2 : op ≠ 2) (h3 : op ≠ 3) (h4 : op ≠ 4) (h5 : op ≠ 5) : Calls Try.prog 9 #[.agg #[.int .i64 T, .int .i64 N, .slice ra R.length rc, .int .i64 op, .int .i64 a, .int .i64 b, .int .i64 c]] w fun e w' => e = .returned (.tuple #[.nilIface, .bool false]) ∧ Below w.heap.size w w' := by
  have hK := kbox_start (T := T) (N := N) (op := op) (a := a) (b := b) (c := c) hr
  obtain ⟨W0, hW0⟩ : ∃ W, w.alloc (.cells #[.int .i64 T, .int .i64 N, .slice ra R.length rc, .int .i64 op, .int .i64 a, .int .i64 b, .int .i64 c] 46) = W := ⟨_, rfl⟩
  rw [hW0] at hK
  have x3 := hK.x3
  have HB : Hid (Below w.heap.size w W0) := hK.below
  have e1 : (op == 1) = false := by simpa using h1
  have e2 : (op == 2) = false := by simpa using h2
  have e3 : (op == 3) = false := by simpa using h3
  have e4 : (op == 4) = false := by simpa using h4
  have e5 : (op == 5) = false := by simpa using h5
  clear hK hr h1 h2 h3 h4 h5
  go_enter Try.func9, Try.ntmps9
  go_wp2_with fail
  refine bodyPost_ret (v := .tuple #[.nilIface, .bool false]) (by simp [results, Try.results9, go_sem]) rfl ?_
  exact ⟨rfl, HB.out⟩

/-- The change that a step is, if it is one. -/
theorem st_changeOf (hr : RulesAt w w.heap.size (.slice ra R.length rc) R) (hm : mayB T N R = true) (s : Stp) : Calls Try.prog 9 #[.agg #[.int .i64 T, .int .i64 N, .slice ra R.length rc, .int .i64 s.op, .int .i64 s.a, .int .i64 s.b, .int .i64 s.c]] w fun e w' => ∃ cv, e = .returned (.tuple #[cv, .bool (stepB N R s)]) ∧ (stepB N R s = true → ChgAt w' w.heap.size T N ra rc R s cv) ∧ Below w.heap.size w w' := by
  obtain ⟨op, a, b, c⟩ := s
  by_cases h1 : op = 1
  · subst h1; exact change_swap hr hm
  by_cases h2 : op = 2
  · subst h2; exact change_extract hr hm
  by_cases h3 : op = 3
  · subst h3; exact change_inline hr hm
  by_cases h4 : op = 4
  · subst h4; exact change_left hr hm
  by_cases h5 : op = 5
  · subst h5; exact change_prune hr hm
  have e : stepB N R ⟨op, a, b, c⟩ = false := by
    unfold stepB
    simp [h1, h2, h3, h4, h5]
  rw [e]
  refine (change_none hr h1 h2 h3 h4 h5).mono ?_
  rintro e w' ⟨rfl, hB⟩
  exact ⟨_, rfl, fun h => (by cases h), hB⟩
end

end Go.Proofs.Ytlalmfheiippiaa

/- The contract of package step's (left).outcome. -/
namespace Go.Proofs.Ytlalmfheiippiaa
open Go.RowKit

theorem sy_field1 {t : Bool} {v : Int} (w : World) : Sem.run Try.prog (Instr.field 42 (.agg #[.bool t, .int .i64 v]) 1) w = .ok (.int .i64 v) w := by
  unfold Instr.field asAgg
  go_simp

/-- What SLeft makes of a rule. -/
def leOne (N : Int) (a : Int) (r : Ru) : Ru := if r.1 = a then (if ownR r then (N, r.2.drop 1 ++ [(false, N)]) else (r.1, r.2 ++ [(false, N)])) else r

theorem walk_set {f : Ru → Ru} {R : List Ru} {k : Nat} (hk : k < R.length) : ((R.take k).map f ++ R.drop k).set k (f R[k]) = (R.take (k + 1)).map f ++ R.drop (k + 1) := by
  have h1 : ((R.take k).map f).length = k := by rw [List.length_map, List.length_take]; omega
  rw [List.set_append_right _ _ (by omega), h1, Nat.sub_self, List.drop_eq_getElem_cons hk, List.set_cons_zero, List.take_succ_eq_append_getElem hk, List.map_append]
  simp
theorem walk_same {f : Ru → Ru} {R : List Ru} {k : Nat} (hk : k < R.length) (h : f R[k] = R[k]) : (R.take k).map f ++ R.drop k = (R.take (k + 1)).map f ++ R.drop (k + 1) := by
  rw [← walk_set hk, h]
  have h1 : ((R.take k).map f).length = k := by rw [List.length_map, List.length_take]; omega
  rw [List.set_append_right _ _ (by omega), h1, Nat.sub_self, List.drop_eq_getElem_cons hk, List.set_cons_zero]

section
variable {w : World} {B g cap k : Nat} {v : Value} {RL : List (Value × Ru)} {l : List Sy}
/-- A rule's Right turns: symbols that lie elsewhere. -/
theorem RlIn.setS (h : RlIn w B (.slice (some ⟨g, 0, none⟩) RL.length cap) RL) (hk : k < RL.length) (hs : SyHas w (fun b => B ≤ b ∧ b ≠ g) v l) : RlIn (w.setCell ⟨g, k * 2 + 1, none⟩ v) B (.slice (some ⟨g, 0, none⟩) RL.length cap) (RL.set k (v, (RL[k].2.1, l))) := by
  refine ⟨?_, fun x hx => ?_⟩
  · have := (h.own.stored (k * 2 + 1) v).1
    rw [flatR_setR hk v l] at this
    rw [List.length_set]
    exact this
  · rcases mem_set_or hx with rfl | hx
    · refine hs.kept (by simp) fun b hA _ => ⟨Below.heap_setCell _ _ _ _ hA.2, hA.1, fun e => ?_⟩
      simp only [Value.ownBlock, Option.some.injEq] at e
      exact hA.2 e.symm
    · refine (h.sym x hx).kept (by simp) fun b hA hlt => ⟨?_, hA⟩
      rw [Below.heap_setCell _ _ _ _ (fun e => hA.2 (by simp only [Value.ownBlock]; exact congrArg some e.symm))]
/-- Both turn. -/
theorem RlIn.setB (h : RlIn w B (.slice (some ⟨g, 0, none⟩) RL.length cap) RL) (hk : k < RL.length) (L : Int) (hs : SyHas w (fun b => B ≤ b ∧ b ≠ g) v l) : RlIn ((w.setCell ⟨g, k * 2, none⟩ (.int .i64 L)).setCell ⟨g, k * 2 + 1, none⟩ v) B (.slice (some ⟨g, 0, none⟩) RL.length cap) (RL.set k (v, (L, l))) := by
  have h1 := h.setL hk L
  have e : RL.length = (RL.set k (RL[k].1, (L, RL[k].2.2))).length := by rw [List.length_set]
  rw [e] at h1
  have h2 := h1.setS (k := k) (v := v) (l := l) (by rw [← e]; exact hk) (hs.kept (by simp) fun b hA _ => ⟨Below.heap_setCell _ _ _ _ hA.2, hA⟩)
  simpa [List.set_set] using h2
end

/-- What (left).outcome holds on its way. -/
structure OL (w : World) (cs : Array Value) (ra : Option Addr) (rc : Nat) (R : List Ru) (N a : Int) (g cap eb k : Nat) (RL : List (Value × Ru)) (wq : World) : Prop where
  box : CBox w cs 60 ra rc R wq
  rl : RlIn wq (w.heap.size + 2) (.slice (some ⟨g, 0, none⟩) RL.length cap) RL
  len : RL.length = R.length
  map : (RL.map fun x => x.2) = (R.take k).map (leOne N a) ++ R.drop k
  endB : wq.heap[eb]? = some (.cells #[.bool false, .int .i64 N] 42 (0, 0))
  ne : eb ≠ g
  glo : w.heap.size + 2 ≤ g

section
variable {w wq w' : World} {cs : Array Value} {ra : Option Addr} {rc : Nat} {R : List Ru} {N a : Int} {g cap eb k : Nat} {RL : List (Value × Ru)}
theorem OL.next (h : OL w cs ra rc R N a g cap eb k RL wq) (hb : Below wq.heap.size wq w') : OL w cs ra rc R N a g cap eb k RL w' :=
  ⟨h.box.next hb, h.rl.below hb, h.len, h.map, (hb.block _ (Array.getElem?_eq_some_iff.1 h.endB).1).trans h.endB, h.ne, h.glo⟩
theorem OL.ends (h : OL w cs ra rc R N a g cap eb k RL wq) : SymsAt wq (.slice (some ⟨eb, 0, none⟩) 1 1) [(false, N)] := by
  refine ⟨⟨_, _, rfl, Nat.le_refl _⟩, fun j hj => ?_⟩
  have : j = 0 := by simp at hj; omega
  subst this
  exact ⟨eb, 0, 1, rfl, cell_of_blk (i := 0) h.endB rfl, cell_of_blk (i := 1) h.endB rfl⟩
theorem OL.here (h : OL w cs ra rc R N a g cap eb k RL wq) (hk : k < R.length) (hk' : k < RL.length) : RL[k].2 = R[k] := by
  have h1 : ((RL.map fun x => x.2)[k]'(by rw [List.length_map]; exact hk')) = R[k] := by
    simp only [h.map]
    have hl : ((R.take k).map (leOne N a)).length = k := by rw [List.length_map, List.length_take]; omega
    rw [List.getElem_append_right (by omega)]
    simp only [hl, Nat.sub_self, List.getElem_drop, Nat.add_zero]
  simpa using h1
theorem OL.mapSet (h : OL w cs ra rc R N a g cap eb k RL wq) (hk : k < R.length) {v : Value} {L : Int} {l : List Sy} (hf : leOne N a R[k] = (L, l)) : ((RL.set k (v, (L, l))).map fun x => x.2) = (R.take (k + 1)).map (leOne N a) ++ R.drop (k + 1) := by
  rw [List.map_set, h.map, ← walk_set hk, hf]
/-- A cell of the rules is written. -/
theorem OL.set (h : OL w cs ra rc R N a g cap eb k RL wq) {RK : List (Value × Ru)} {w5 : World} (hB : Below wq.heap.size wq w5) {wz : World} (hz : ∀ b, b ≠ g → wz.heap[b]? = w5.heap[b]?) (hs : w5.heap.size = wz.heap.size) (ho : wz.os = w5.os) (ht : wz.tape = w5.tape) (hou : wz.output = w5.output) (hr : RlIn wz (w.heap.size + 2) (.slice (some ⟨g, 0, none⟩) RL.length cap) RK) (hl : RK.length = RL.length) (hm : (RK.map fun x => x.2) = (R.take (k + 1)).map (leOne N a) ++ R.drop (k + 1)) : OL w cs ra rc R N a g cap eb (k + 1) RK wz := by
  have h5 := h.next hB
  have hg := h.glo
  have hbz : Below (w.heap.size + 2) w5 wz := ⟨ho, ht, hou, by omega, fun b hb => hz b (by omega)⟩
  exact ⟨h5.box.later hbz, by rw [hl]; exact hr, hl.trans h.len, hm, (hz eb h.ne).trans h5.endB, h.ne, h.glo⟩
end

end Go.Proofs.Ytlalmfheiippiaa

/- The contracts of package step's swapIn and of (swap).outcome's closure. -/
namespace Go.Proofs.Ytlalmfheiippiaa
open Go.RowKit

set_option maxRecDepth 100000 in
set_option maxHeartbeats 1600000 in
theorem st_other {w : World} {xb : Nat} {n a b : Int} (x4 : w.cell? ⟨xb, 4, none⟩ = some (.int .i64 a)) (x5 : w.cell? ⟨xb, 5, none⟩ = some (.int .i64 b)) :
    Calls Try.prog 52 #[.int .i64 n, .pointer (some ⟨xb, 0, none⟩)] w fun e w' => e = .returned (.int .i64 (swapN a b n)) ∧ w' = w := by
  unfold swapN
  by_cases h1 : n = a
  · have e1 : (n == a) = true := by simpa using h1
    rw [if_pos h1]
    clear h1
    go_enter Try.func52, Try.ntmps52
    go_wp2_with fail
    go_ret
    exact ⟨rfl, rfl⟩
  · have e1 : (n == a) = false := by simpa using h1
    rw [if_neg h1]
    by_cases h2 : n = b
    · have e2 : (n == b) = true := by simpa using h2
      rw [if_pos h2]
      clear h1 h2
      go_enter Try.func52, Try.ntmps52
      go_wp2_with fail
      go_ret
      exact ⟨rfl, rfl⟩
    · have e2 : (n == b) = false := by simpa using h2
      rw [if_neg h2]
      clear h1 h2
      go_enter Try.func52, Try.ntmps52
      go_wp2_with fail
      go_ret
      exact ⟨rfl, rfl⟩

theorem walk_setY {f : Sy → Sy} {R : List Sy} {k : Nat} (hk : k < R.length) : ((R.take k).map f ++ R.drop k).set k (f R[k]) = (R.take (k + 1)).map f ++ R.drop (k + 1) := by
  have h1 : ((R.take k).map f).length = k := by rw [List.length_map, List.length_take]; omega
  rw [List.set_append_right _ _ (by omega), h1, Nat.sub_self, List.drop_eq_getElem_cons hk, List.set_cons_zero, List.take_succ_eq_append_getElem hk, List.map_append]
  simp
theorem walk_sameY {f : Sy → Sy} {R : List Sy} {k : Nat} (hk : k < R.length) (h : f R[k] = R[k]) : (R.take k).map f ++ R.drop k = (R.take (k + 1)).map f ++ R.drop (k + 1) := by
  rw [← walk_setY hk, h]
  have h1 : ((R.take k).map f).length = k := by rw [List.length_map, List.length_take]; omega
  rw [List.set_append_right _ _ (by omega), h1, Nat.sub_self, List.drop_eq_getElem_cons hk, List.set_cons_zero]
theorem walk_getY {f : Sy → Sy} {R : List Sy} {k : Nat} (hk : k < R.length) : ((R.take k).map f ++ R.drop k).getD k (false, 0) = R[k] := by
  have hl : ((R.take k).map f).length = k := by rw [List.length_map, List.length_take]; omega
  rw [List.getD_eq_getElem?_getD, List.getElem?_append_right (by omega), hl, Nat.sub_self, List.getElem?_drop, Nat.add_zero, List.getElem?_eq_getElem hk]
  rfl

set_option maxRecDepth 100000 in
set_option maxHeartbeats 3200000 in
theorem st_swapIn {w : World} {B xb : Nat} {a b : Int} {v : Value} {l : List Sy} (ho : w.ownsRow B 42 2 v l.length (flatY l)) (hl : l.length ≤ 1000) (x4 : w.cell? ⟨xb, 4, none⟩ = some (.int .i64 a)) (x5 : w.cell? ⟨xb, 5, none⟩ = some (.int .i64 b)) (hxB : xb < B) :
    Calls Try.prog 54 #[v, .func (.func 52) #[] #[.pointer (some ⟨xb, 0, none⟩)]] w fun e w' => e = .returned (.tuple #[]) ∧ w'.ownsRow B 42 2 v l.length (flatY (l.map (swapS a b))) ∧ Kept (fun k => v.ownBlock = some k) w w' := by
  obtain ⟨va, vc, hv⟩ := own_form ho
  have HO : Hid (w.ownsRow B 42 2 v l.length (flatY l)) := ho
  have HX : Hid (w.cell? ⟨xb, 4, none⟩ = some (.int .i64 a) ∧ w.cell? ⟨xb, 5, none⟩ = some (.int .i64 b)) := ⟨x4, x5⟩
  have HV : Hid (v = .slice va l.length vc) := hv
  rw [hv]
  clear ho x4 x5 hv
  go_enter Try.func54, Try.ntmps54
  go_wp2_with fail
  go_loopw [8] (fun s8 wr => ∃ k : Nat, s8 = .int .i64 k ∧ k ≤ l.length ∧ wr.ownsRow B 42 2 v l.length (flatY ((l.take k).map (swapS a b) ++ l.drop k)) ∧ Kept (fun k => v.ownBlock = some k) w wr) (fun s _ => l.length - (intOf s).toNat)
  case atStart => exact ⟨0, rfl, Nat.zero_le _, by simpa using HO.out, Kept.refl _ _⟩
  case round =>
    obtain ⟨k, rfl, hk, hO, hK⟩ := hrel
    have HK : Hid (Kept (fun k => v.ownBlock = some k) w wr) := hK
    have HOk : Hid (wr.ownsRow B 42 2 v l.length (flatY ((l.take k).map (swapS a b) ++ l.drop k))) := hO
    by_cases hlt : k < l.length
    · obtain ⟨g, cap, hvg, hgB, hgs⟩ := hO.form (by omega)
      have hva : va = some ⟨g, 0, none⟩ ∧ vc = cap := by
        have := HV.out
        rw [hvg] at this
        injection this with e1 e2 e3
        exact ⟨e1.symm, e3.symm⟩
      obtain ⟨rfl, rfl⟩ := hva
      have hO2 := hO
      rw [hvg] at hO2
      have hlen : ((l.take k).map (swapS a b) ++ l.drop k).length = l.length := by
        rw [List.length_append, List.length_map, List.length_take, List.length_drop]; omega
      have c1 := (hO2.cellAt (k * 2) (by omega)).trans (flatY_get (j := 0) (by rw [hlen]; exact hlt) (by omega))
      have c2 := (hO2.cellAt (k * 2 + 1) (by omega)).trans (flatY_get (j := 1) (by rw [hlen]; exact hlt) (by omega))
      rw [walk_getY hlt] at c1 c2
      obtain ⟨⟨t, n⟩, hx⟩ : ∃ x, l[k] = x := ⟨_, rfl⟩
      rw [hx] at c1 c2
      simp only [syV, List.getElem?_cons_zero, List.getElem?_cons_succ] at c1 c2
      have f2 := hO2.frozenAt (k * 2 + 1)
      have hxg : ¬ v.ownBlock = some xb := fun e => by
        rw [hvg] at e
        simp only [Value.ownBlock, Option.some.injEq] at e
        omega
      have HXr : Hid (∀ wq, Below wr.heap.size wr wq → wq.cell? ⟨xb, 4, none⟩ = some (.int .i64 a) ∧ wq.cell? ⟨xb, 5, none⟩ = some (.int .i64 b)) := fun wq hq => by
        have h4 := HK.out.cell (p := ⟨xb, 4, none⟩) hxg HX.out.1
        have h5 := HK.out.cell (p := ⟨xb, 5, none⟩) hxg HX.out.2
        exact ⟨(hq.cell (World.block_lt_of_cell? _ _ h4)).trans h4, (hq.cell (World.block_lt_of_cell? _ _ h5)).trans h5⟩
      have HHx : Hid (l[k] = (t, n) ∧ v = .slice (some ⟨g, 0, none⟩) l.length vc ∧ g < wr.heap.size) := ⟨hx, hvg, hgs⟩
      obtain ⟨W1, hW1⟩ : ∃ W, wr.alloc (.cells #[.bool t, .int .i64 n] 42) = W := ⟨_, rfl⟩
      have hB1 : Below wr.heap.size wr W1 := by rw [← hW1]; exact (Below.refl _ _).alloc (Nat.le_refl _) _
      have HB1 : Hid (Below wr.heap.size wr W1) := hB1
      have d0 : W1.cell? ⟨wr.heap.size, 0, none⟩ = some (.bool t) := by rw [← hW1]; exact cell_of_blk (heap_alloc_new _ _) rfl
      have d1 : W1.cell? ⟨wr.heap.size, 1, none⟩ = some (.int .i64 n) := by rw [← hW1]; exact cell_of_blk (heap_alloc_new _ _) rfl
      have e2 := (hB1.cell (World.block_lt_of_cell? _ _ c2)).trans c2
      have ef2 : W1.frozen? ⟨g, k * 2 + 1, none⟩ = false := (hB1.frozen (show g < _ from hgs)).trans f2
      have ot := st_other (n := n) (HXr.out W1 hB1).1 (HXr.out W1 hB1).2
      have i0 : (0 : Int) ≤ (k : Int) := Int.natCast_nonneg _
      have i1 : (k : Int) < (l.length : Int) := by omega
      clear hK hO hO2 hx hB1 hvg hlen
      cases t with
      | true =>
        go_wp2_with fail
        go_roundw
        case rel =>
          refine ⟨k + 1, by go_num, by omega, ?_, HK.out.trans (Kept.ofBelow HB1.out)⟩
          rw [← walk_sameY hlt (by rw [HHx.out.1]; rfl)]
          exact own_below HOk.out HB1.out fun g hg => (HOk.out.lt g hg).2
        case measure => simp [intOf]; omega
      | false =>
        go_wp2_with (go_at_call 52; refine ot.mono ?_; rintro e w2 ⟨rfl, rfl⟩; clear ot)
        go_roundw
        case rel =>
          have hvb : v.ownBlock = some g := by rw [HHx.out.2.1]; rfl
          have o1 := own_below HOk.out HB1.out fun g hg => (HOk.out.lt g hg).2
          rw [HHx.out.2.1] at o1
          have o2 := (o1.stored (k * 2 + 1) (.int .i64 (swapN a b n))).1
          rw [flatY_set (by rw [List.length_append, List.length_map, List.length_take, List.length_drop]; omega), walk_getY hlt, HHx.out.1] at o2
          refine ⟨k + 1, by go_num, by omega, ?_, (HK.out.trans (Kept.ofBelow HB1.out)).setCell hvb _⟩
          rw [HHx.out.2.1, ← walk_setY hlt, HHx.out.1]
          exact o2
        case measure => simp [intOf]; omega
    · have hkk : k = l.length := by omega
      clear hK hO
      go_wp2_with fail
      go_end0
      refine ⟨rfl, ?_, by rw [← HV.out]; exact HK.out⟩
      have := HOk.out
      rw [hkk, List.take_length, List.drop_length, List.append_nil] at this
      rw [← HV.out]
      exact this

end Go.Proofs.Ytlalmfheiippiaa
