/- The contracts of pollardingref6's small functions: right, number, has, alike, ints. -/
import Derived.Test.YtchpfdnifbdfpaaNull2
import Derived.Deep.QuietTactic
import Derived.BigQuiet
namespace Go.Proofs.Ytchpfdnifbdfpaa
open Go.RowKit

/-- An item: a rule's number (that of the rule above: as many as there are), how much of it is read. -/
abbrev It := Nat × Nat
def rightF (R : List Ru) (r : Nat) : List Sy := if r = R.length then [(false, 0)] else (R.getD r (0, [])).2

/-- Items lie in memory, below block number lim. -/
def ItemsAt (w : World) (lim : Nat) (v : Value) (L : List It) : Prop :=
  (∃ a c, v = .slice a L.length c) ∧ ∀ k, k < L.length → ∃ b o c, v = .slice (some ⟨b, o, none⟩) L.length c ∧ b < lim ∧
    w.cell? ⟨b, o + k * 2, none⟩ = some (.int .i64 (L.getD k (0, 0)).1) ∧ w.cell? ⟨b, o + (k * 2 + 1), none⟩ = some (.int .i64 (L.getD k (0, 0)).2)
theorem ItemsAt.below {B : Nat} {w w' : World} {v : Value} {L : List It} (h : ItemsAt w B v L) (hb : Below B w w') : ItemsAt w' B v L :=
  ⟨h.1, fun k hk => let ⟨b, o, c, h1, h2, h3, h4⟩ := h.2 k hk; ⟨b, o, c, h1, h2, (hb.cell h2).trans h3, (hb.cell h2).trans h4⟩⟩
theorem ItemsAt.mono {B B' : Nat} {w : World} {v : Value} {L : List It} (h : ItemsAt w B v L) (hB : B ≤ B') : ItemsAt w B' v L :=
  ⟨h.1, fun k hk => let ⟨b, o, c, h1, h2, h3, h4⟩ := h.2 k hk; ⟨b, o, c, h1, by omega, h3, h4⟩⟩

/-- The automaton's grammar lies at its pointer. -/
structure AutoG (w : World) (lim ab : Nat) (T N : Nat) (rv : Value) (R : List Ru) : Prop where
  t : w.cell? ⟨ab, 0, none⟩ = some (.int .i64 T)
  n : w.cell? ⟨ab, 1, none⟩ = some (.int .i64 N)
  r : w.cell? ⟨ab, 2, none⟩ = some rv
  rules : RulesAt w lim rv R
  le : lim ≤ w.heap.size
  lt : ab < w.heap.size
theorem AutoG.below {w w' : World} {lim ab T N B : Nat} {rv : Value} {R : List Ru} (h : AutoG w lim ab T N rv R) (hb : Below B w w') (hl : lim ≤ B) (ha : ab < B) : AutoG w' lim ab T N rv R :=
  ⟨(hb.cell ha).trans h.t, (hb.cell ha).trans h.n, (hb.cell ha).trans h.r, h.rules.below (hb.mono hl), Nat.le_trans h.le hb.size, Nat.lt_of_lt_of_le h.lt hb.size⟩

set_option maxRecDepth 100000 in
set_option maxHeartbeats 1600000 in
theorem right6_any {w : World} {lim ab T N r : Nat} {rv : Value} {R : List Ru} (hA : AutoG w lim ab T N rv R) (hr : r ≤ R.length) :
    Calls Try.prog 38 #[.pointer (some ⟨ab, 0, none⟩), .int .i64 r] w fun e w' => ∃ la lc, e = .returned (.slice la (rightF R r).length lc) ∧ SymsAt w' (.slice la (rightF R r).length lc) (rightF R r) ∧ (∀ b o, la = some ⟨b, o, none⟩ → (rightF R r).length ≠ 0 → b < lim ∨ b = w.heap.size) ∧ Below w.heap.size w w' := by
  obtain ⟨ra, rc, hrv⟩ := hA.rules.1
  subst hrv
  have a2 := hA.r
  by_cases he : r = R.length
  · subst he
    have e1 : ((R.length : Int) == (R.length : Int)) = true := by simp
    have HE : Hid (rightF R R.length = [(false, 0)]) := by show rightF R R.length = _; simp [rightF]
    clear hA hr
    go_enter Try.func38, Try.ntmps38
    go_wp2_with fail
    go_ret
    rw [HE.out]
    refine ⟨some ⟨w.heap.size, 0, none⟩, 1, rfl, ?_, fun b o e _ => .inr (by cases e; rfl), (Below.refl _ _).alloc (Nat.le_refl _) _⟩
    refine ⟨⟨_, _, rfl, Nat.le_refl _⟩, fun j hj => ?_⟩
    have hj0 : j = 0 := by simpa using hj
    subst hj0
    exact ⟨w.heap.size, 0, 1, rfl, by simp [go_sem], by simp [go_sem]⟩
  · have hlt : r < R.length := by omega
    obtain ⟨b, o, rc', qa, qc, hv, hb, k1, k2, hsy⟩ := hA.rules.syms hlt
    cases hv
    have e1 : ((r : Int) == (R.length : Int)) = false := by simpa using fun h => he (by omega)
    have i0 : (0 : Int) ≤ (r : Int) := Int.natCast_nonneg _
    have i1 : (r : Int) < (R.length : Int) := by omega
    have k2' : w.cell? ⟨b, o + r * 2 + 1, none⟩ = some (.slice qa (R.getD r (0, [])).2.length qc) := by rw [Nat.add_assoc]; exact k2
    have hre : rightF R r = (R.getD r (0, [])).2 := by rw [rightF, if_neg he]
    obtain ⟨Rt, hRt⟩ : ∃ x, (R.getD r (0, [])).2 = x := ⟨_, rfl⟩
    rw [hRt] at k2' hsy hre
    rw [hre]
    have hbl : ∀ b' o', qa = some ⟨b', o', none⟩ → Rt.length ≠ 0 → b' < lim := fun b' o' e hne => by
      obtain ⟨b2, o2, rc2, qa2, qc2, h1, _, _, h4, _, h6⟩ := hA.rules.2 r hlt
      cases h1
      rw [Nat.add_assoc] at k2'
      rw [k2', hRt] at h4
      cases h4
      rw [hRt] at h6
      obtain ⟨b3, o3, h7, h8, _⟩ := h6 0 (by omega)
      rw [e] at h7
      cases h7
      exact h8
    have HE : Hid (SymsAt w (.slice qa Rt.length qc) Rt ∧ ∀ b' o', qa = some ⟨b', o', none⟩ → Rt.length ≠ 0 → b' < lim) := ⟨hsy, hbl⟩
    clear hA hr k2 hsy he hRt hre hbl
    go_enter Try.func38, Try.ntmps38
    go_wp2_with fail
    go_ret
    exact ⟨qa, qc, rfl, HE.out.1, fun b' o' e hne => .inl (HE.out.2 b' o' e hne), Below.refl _ _⟩

/-- A symbol's number: terms, then names. -/
def numF (T : Nat) (s : Sy) : Int := if s.1 then s.2 else (T : Int) + s.2

set_option maxRecDepth 100000 in
set_option maxHeartbeats 1600000 in
theorem number6_any {w : World} {lim ab T N : Nat} {rv : Value} {R : List Ru} {s : Sy} (hA : AutoG w lim ab T N rv R) (hs : 0 ≤ s.2 ∧ s.2 ≤ 1000) (hT : T ≤ 1000) :
    Calls Try.prog 39 #[.pointer (some ⟨ab, 0, none⟩), .agg #[.bool s.1, .int .i64 s.2]] w fun e w' => e = .returned (.int .i64 (numF T s)) ∧ Below w.heap.size w w' := by
  obtain ⟨t, v⟩ := s
  simp only at hs ⊢
  have a0 : (w.alloc (.cells #[.bool t, .int .i64 v] 56)).cell? ⟨ab, 0, none⟩ = some (.int .i64 T) := (World.cell?_alloc_past _ _ _ hA.lt).trans hA.t
  have hw : IntKind.i64.wrap ((T : Int) + v) = (T : Int) + v := IntWalk.i64_in _ (by omega)
  clear hA
  cases t with
  | true =>
    go_enter Try.func39, Try.ntmps39
    go_wp2_with fail
    go_ret
    exact ⟨rfl, (Below.refl _ _).alloc (Nat.le_refl _) _⟩
  | false =>
    go_enter Try.func39, Try.ntmps39
    go_wp2_with fail
    go_big_quiet (fail)
    go_wp2_with fail
    go_ret
    exact ⟨rfl, below_drewN ((Below.refl _ _).alloc (Nat.le_refl _) _) _⟩

/-- Where an item stands among items, from k on; below 0: it does not. -/
def hasF (L : List It) (i : It) : Int := match L.findIdx? (fun x => decide (x = i)) with | some k => k | none => -1

theorem hasF_some {L : List It} {i : It} {k : Nat} (hk : k < L.length) (he : L.getD k (0, 0) = i) (hno : ∀ j, j < k → L.getD j (0, 0) ≠ i) : hasF L i = k := by
  unfold hasF
  have : L.findIdx? (fun x => decide (x = i)) = some k := by
    rw [List.findIdx?_eq_some_iff_getElem]
    refine ⟨hk, by have e : L.getD k (0, 0) = L[k] := by simp [List.getD, hk]
                   rw [← e, he]; simp, fun j hj => ?_⟩
    have hjl : j < L.length := by omega
    have e : L.getD j (0, 0) = L[j] := by simp [List.getD, hjl]
    have := hno j hj
    rw [e] at this
    simpa using this
  rw [this]
theorem hasF_none {L : List It} {i : It} (hno : ∀ j, j < L.length → L.getD j (0, 0) ≠ i) : hasF L i = -1 := by
  unfold hasF
  have : L.findIdx? (fun x => decide (x = i)) = none := by
    rw [List.findIdx?_eq_none_iff]
    intro x hx
    obtain ⟨j, hj, rfl⟩ := List.getElem_of_mem hx
    have := hno j hj
    have e : L.getD j (0, 0) = L[j] := by simp [List.getD, hj]
    rw [e] at this
    simpa using this
  rw [this]

set_option maxRecDepth 100000 in
set_option maxHeartbeats 1600000 in
theorem has6_any {w : World} {lv : Value} {L : List It} {i : It} (hL : ItemsAt w w.heap.size lv L) (hn : L.length ≤ 1000000) :
    Calls Try.prog 42 #[lv, .agg #[.int .i64 i.1, .int .i64 i.2]] w fun e w' => e = .returned (.int .i64 (hasF L i)) ∧ Below w.heap.size w w' := by
  obtain ⟨la, lc, hlv⟩ := hL.1
  subst hlv
  obtain ⟨x, y⟩ := i
  have HL : Hid (ItemsAt (w.alloc (.cells #[.int .i64 x, .int .i64 y] 98)) w.heap.size (.slice la L.length lc) L) := hL.below ((Below.refl _ _).alloc (Nat.le_refl _) _)
  have HB : Hid (Below w.heap.size w (w.alloc (.cells #[.int .i64 x, .int .i64 y] 98))) := (Below.refl _ _).alloc (Nat.le_refl _) _
  have b0 : (w.alloc (.cells #[.int .i64 x, .int .i64 y] 98)).cell? ⟨w.heap.size, 0, none⟩ = some (.int .i64 x) := by simp [go_sem]
  have b1 : (w.alloc (.cells #[.int .i64 x, .int .i64 y] 98)).cell? ⟨w.heap.size, 1, none⟩ = some (.int .i64 y) := by simp [go_sem]
  simp only
  clear hL
  go_enter Try.func42, Try.ntmps42
  go_wp2_with fail
  generalize (w.alloc (.cells #[.int .i64 x, .int .i64 y] 98)) = W at HL HB b0 b1 ⊢
  go_loopw [5] (fun s wr => ∃ k m : Nat, s = .int .i64 k ∧ k ≤ L.length ∧ wr = W.drewN m ∧ ∀ j, j < k → L.getD j (0, 0) ≠ (x, y)) (fun s _ => L.length - (intOf s).toNat)
  case atStart => exact ⟨0, 0, rfl, Nat.zero_le _, rfl, fun j hj => absurd hj (Nat.not_lt_zero _)⟩
  case round =>
    obtain ⟨k, m, rfl, hk, rfl, hno⟩ := hrel
    have HNo : Hid (∀ j, j < k → L.getD j (0, 0) ≠ (x, y)) := hno
    clear hno
    by_cases hlt : k < L.length
    · obtain ⟨b, o, c, hv, _, k3, k4⟩ := HL.out.2 k hlt
      cases hv
      obtain ⟨⟨p, q⟩, hpq⟩ : ∃ z, L.getD k (0, 0) = z := ⟨_, rfl⟩
      have HPQ : Hid (L.getD k (0, 0) = (p, q)) := hpq
      rw [hpq] at k3 k4
      simp only at k3 k4
      have k4' : W.cell? ⟨b, o + k * 2 + 1, none⟩ = some (.int .i64 q) := by rw [Nat.add_assoc]; exact k4
      have i0 : (0 : Int) ≤ (k : Int) := Int.natCast_nonneg _
      have i1 : (k : Int) < (L.length : Int) := by omega
      clear hpq k4
      by_cases he : p = x ∧ q = y
      · obtain ⟨rfl, rfl⟩ := he
        have HH : Hid (hasF L (p, q) = k) := hasF_some hlt HPQ.out HNo.out
        go_wp2_with fail
        go_big_quiet (fail)
        go_wp2_with fail
        go_ret
        exact ⟨by rw [HH.out]; rfl, below_drewN (below_drewN HB.out _) _⟩
      · have HNo2 : Hid (∀ j, j < k + 1 → L.getD j (0, 0) ≠ (x, y)) := fun j hj => by
          rcases Nat.lt_succ_iff_lt_or_eq.1 hj with hj | rfl
          · exact HNo.out j hj
          · rw [HPQ.out]
            intro e
            cases e
            exact he ⟨rfl, rfl⟩
        by_cases hp : p = x
        · subst hp
          have hq : ¬ q = y := fun e => he ⟨rfl, e⟩
          have e1 : ((q : Int) == (y : Int)) = false := by simp; omega
          have e2 : ((p : Int) == (p : Int)) = true := by simp
          go_wp2_with fail
          go_big_quiet (fail)
          go_wp2_with fail
          go_roundw
          case rel => exact ⟨k + 1, _, by go_num, by omega, rfl, HNo2.out⟩
          case measure => simp [intOf]; omega
        · have e1 : ((p : Int) == (x : Int)) = false := by simp; omega
          go_wp2_with fail
          go_big_quiet (fail)
          go_wp2_with fail
          go_roundw
          case rel => exact ⟨k + 1, _, by go_num, by omega, rfl, HNo2.out⟩
          case measure => simp [intOf]; omega
    · have HH : Hid (hasF L (x, y) = -1) := hasF_none fun j hj => HNo.out j (by omega)
      go_wp2_with fail
      go_ret
      exact ⟨by rw [HH.out]; rfl, below_drewN HB.out _⟩

/-- Are two sets of items (without doubles) the same? -/
def alikeF (A B : List It) : Bool := decide (A.length = B.length) && A.all fun x => decide (0 ≤ hasF B x)

theorem hasF_range (L : List It) (i : It) : hasF L i = -1 ∨ 0 ≤ hasF L i := by
  unfold hasF
  cases L.findIdx? (fun x => decide (x = i)) with
  | none => exact .inl rfl
  | some k => right; simp

set_option maxRecDepth 100000 in
set_option maxHeartbeats 1600000 in
theorem alike6_any {w : World} {av bv : Value} {A B : List It} (hA : ItemsAt w w.heap.size av A) (hB : ItemsAt w w.heap.size bv B) (ha : A.length ≤ 1000000) (hb : B.length ≤ 1000000) :
    Calls Try.prog 40 #[av, bv] w fun e w' => e = .returned (.bool (alikeF A B)) ∧ Below w.heap.size w w' := by
  obtain ⟨aa, ac, hav⟩ := hA.1
  obtain ⟨ba, bc, hbv⟩ := hB.1
  subst hav
  subst hbv
  have HA : Hid (ItemsAt w w.heap.size (.slice aa A.length ac) A) := hA
  have HB : Hid (ItemsAt w w.heap.size (.slice ba B.length bc) B) := hB
  clear hA hB
  by_cases hl : A.length = B.length
  · have e0 : ((A.length : Int) != (B.length : Int)) = false := by simp [hl]
    have HAl : Hid (alikeF A B = A.all fun x => decide (0 ≤ hasF B x)) := by show alikeF A B = _; simp [alikeF, hl]
    have HLe : Hid (A.length = B.length) := hl
    clear hl
    go_enter Try.func40, Try.ntmps40
    go_wp2_with fail
    go_loopw [5] (fun s wr => ∃ k : Nat, s = .int .i64 k ∧ k ≤ A.length ∧ Below w.heap.size w wr ∧ ((A.take k).all fun x => decide (0 ≤ hasF B x)) = true) (fun s _ => A.length - (intOf s).toNat)
    case atStart => exact ⟨0, rfl, Nat.zero_le _, Below.refl _ _, rfl⟩
    case round =>
      obtain ⟨k, rfl, hk, hBe, hall⟩ := hrel
      have HBe : Hid (Below w.heap.size w wr) := hBe
      have HAll : Hid (((A.take k).all fun x => decide (0 ≤ hasF B x)) = true) := hall
      clear hall
      by_cases hlt : k < A.length
      · obtain ⟨b, o, c, hv, _, k3, k4⟩ := (HA.out.below hBe).2 k hlt
        cases hv
        obtain ⟨⟨p, q⟩, hpq⟩ : ∃ z, A.getD k (0, 0) = z := ⟨_, rfl⟩
        have hge : A[k] = (p, q) := by rw [← hpq]; simp [List.getD, hlt]
        rw [hpq] at k3 k4
        simp only at k3 k4
        have k4' : wr.cell? ⟨b, o + k * 2 + 1, none⟩ = some (.int .i64 q) := by rw [Nat.add_assoc]; exact k4
        have call := has6_any (i := (p, q)) ((HB.out.below hBe).mono hBe.size) hb
        have i0 : (0 : Int) ≤ (k : Int) := Int.natCast_nonneg _
        have i1 : (k : Int) < (A.length : Int) := by omega
        obtain ⟨z, hz⟩ : ∃ z, hasF B (p, q) = z := ⟨_, rfl⟩
        have HNext : Hid (0 ≤ z → ((A.take (k + 1)).all fun x => decide (0 ≤ hasF B x)) = true) := fun h0 => by
          rw [List.take_succ_eq_append_getElem hlt, List.all_append, HAll.out, hge]
          simp [hz, h0]
        have HBad : Hid (z < 0 → alikeF A B = false) := fun h0 => by
          rw [HAl.out, List.all_eq_false]
          exact ⟨A[k], List.getElem_mem hlt, by rw [hge, hz]; simpa using h0⟩
        rw [hz] at call
        simp only at call
        clear hpq k4 hge hz hBe
        by_cases h0 : z < 0
        · have HF : Hid (alikeF A B = false) := HBad.out h0
          go_wp2_with
            (go_at_call 42; refine call.mono ?_; rintro e w2 ⟨rfl, hB2⟩
             have HB2 : Hid (Below w.heap.size w w2) := HBe.out.trans (hB2.mono HBe.out.size)
             clear hB2)
          go_ret
          exact ⟨by rw [HF.out]; rfl, HB2.out⟩
        · have h1 : decide (z < 0) = false := decide_eq_false h0
          have HT : Hid (((A.take (k + 1)).all fun x => decide (0 ≤ hasF B x)) = true) := HNext.out (by omega)
          go_wp2_with
            (go_at_call 42; refine call.mono ?_; rintro e w2 ⟨rfl, hB2⟩
             have HB2 : Hid (Below w.heap.size w w2) := HBe.out.trans (hB2.mono HBe.out.size)
             clear hB2)
          go_roundw
          case rel => exact ⟨k + 1, by go_num, by omega, HB2.out, HT.out⟩
          case measure => simp [intOf]; omega
      · have HF : Hid (alikeF A B = true) := by
          show alikeF A B = true
          have := HAll.out
          rw [List.take_of_length_le (by omega)] at this
          rw [HAl.out, this]
        clear hBe
        go_wp2_with fail
        go_ret
        exact ⟨by rw [HF.out]; rfl, HBe.out⟩
  · have e0 : ((A.length : Int) != (B.length : Int)) = true := by simpa using fun h => hl (by omega)
    have HF : Hid (alikeF A B = false) := by show alikeF A B = false; simp [alikeF, hl]
    clear hl
    go_enter Try.func40, Try.ntmps40
    go_wp2_with fail
    go_ret
    exact ⟨by rw [HF.out]; rfl, Below.refl _ _⟩

end Go.Proofs.Ytchpfdnifbdfpaa
