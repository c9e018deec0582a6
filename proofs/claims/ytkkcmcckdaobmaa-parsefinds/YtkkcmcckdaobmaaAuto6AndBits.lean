import Derived.Test.YtkkcmcckdaobmaaMathAndNull2
import Derived.Deep.QuietTactic
import Derived.BigQuiet
import Derived.OwnWalk
import Derived.Deep.AppendLies
import Derived.StillTailTactics
/- The contracts of pollardingref6's small functions: right, number, has, alike, ints. -/
namespace Go.Proofs.Ytkkcmcckdaobmaa
open Go.RowKit

/-- An item: a rule's number (that of the rule above: as many as there are), how much of it is read. -/
abbrev It := Nat × Nat
def rightF (R : List Ru) (r : Nat) : List Sy := if r = R.length then [(false, 0)] else (R.getD r (0, [])).2

/-- Items lie in memory, below block number lim. -/
def ItemsAt (w : World) (lim : Nat) (v : Value) (L : List It) : Prop :=
  (∃ a c, v = .slice a L.length c) ∧ ∀ k, k < L.length → ∃ b o c, v = .slice (some ⟨b, o, none⟩) L.length c ∧ b < lim ∧
    w.cell? ⟨b, o + k * 2, none⟩ = some (.int .i64 (L.getD k (0, 0)).1) ∧ w.cell? ⟨b, o + (k * 2 + 1), none⟩ = some (.int .i64 (L.getD k (0, 0)).2)
theorem ItemsAt.below {B : Nat} {w w' : World} {v : Value} {L : List It} (h : ItemsAt w B v L) (hb : Below B w w') : ItemsAt w' B v L :=
  ⟨h.1, fun k hk => let ⟨b, o, c, h1, h2, h3, h4⟩ := h.2 k hk; ⟨b, o, c, h1, h2, (hb.cell h2).trans h3, (hb.cell h2).trans h4⟩⟩
theorem ItemsAt.mono {B B' : Nat} {w : World} {v : Value} {L : List It} (h : ItemsAt w B v L) (hB : B ≤ B') : ItemsAt w B' v L :=
  ⟨h.1, fun k hk => let ⟨b, o, c, h1, h2, h3, h4⟩ := h.2 k hk; ⟨b, o, c, h1, by omega, h3, h4⟩⟩

/-- The automaton's grammar lies at its pointer. -/
structure AutoG (w : World) (lim ab : Nat) (T N : Nat) (rv : Value) (R : List Ru) : Prop where
  t : w.cell? ⟨ab, 0, none⟩ = some (.int .i64 T)
  n : w.cell? ⟨ab, 1, none⟩ = some (.int .i64 N)
  r : w.cell? ⟨ab, 2, none⟩ = some rv
  rules : RulesAt w lim rv R
  le : lim ≤ w.heap.size
  lt : ab < w.heap.size
theorem AutoG.below {w w' : World} {lim ab T N B : Nat} {rv : Value} {R : List Ru} (h : AutoG w lim ab T N rv R) (hb : Below B w w') (hl : lim ≤ B) (ha : ab < B) : AutoG w' lim ab T N rv R :=
  ⟨(hb.cell ha).trans h.t, (hb.cell ha).trans h.n, (hb.cell ha).trans h.r, h.rules.below (hb.mono hl), Nat.le_trans h.le hb.size, Nat.lt_of_lt_of_le h.lt hb.size⟩

set_option maxRecDepth 100000 in
set_option maxHeartbeats 1600000 in
theorem right6_any {w : World} {lim ab T N r : Nat} {rv : Value} {R : List Ru} (hA : AutoG w lim ab T N rv R) (hr : r ≤ R.length) :
    Calls Try.prog 28 #[.pointer (some ⟨ab, 0, none⟩), .int .i64 r] w fun e w' => ∃ la lc, e = .returned (.slice la (rightF R r).length lc) ∧ SymsAt w' (.slice la (rightF R r).length lc) (rightF R r) ∧ (∀ b o, la = some ⟨b, o, none⟩ → (rightF R r).length ≠ 0 → b < lim ∨ b = w.heap.size) ∧ Below w.heap.size w w' := by
  obtain ⟨ra, rc, hrv⟩ := hA.rules.1
  subst hrv
  have a2 := hA.r
  by_cases he : r = R.length
  · subst he
    have e1 : ((R.length : Int) == (R.length : Int)) = true := by simp
    have HE : Hid (rightF R R.length = [(false, 0)]) := by show rightF R R.length = _; simp [rightF]
    clear hA hr
    go_enter Try.func28, Try.ntmps28
    go_wp2_with fail
    go_ret
    rw [HE.out]
    refine ⟨some ⟨w.heap.size, 0, none⟩, 1, rfl, ?_, fun b o e _ => .inr (by cases e; rfl), (Below.refl _ _).alloc (Nat.le_refl _) _⟩
    refine ⟨⟨_, _, rfl, Nat.le_refl _⟩, fun j hj => ?_⟩
    have hj0 : j = 0 := by simpa using hj
    subst hj0
    exact ⟨w.heap.size, 0, 1, rfl, by simp [go_sem], by simp [go_sem]⟩
  · have hlt : r < R.length := by omega
    obtain ⟨b, o, rc', qa, qc, hv, hb, k1, k2, hsy⟩ := hA.rules.syms hlt
    cases hv
    have e1 : ((r : Int) == (R.length : Int)) = false := by simpa using fun h => he (by omega)
    have i0 : (0 : Int) ≤ (r : Int) := Int.natCast_nonneg _
    have i1 : (r : Int) < (R.length : Int) := by omega
    have k2' : w.cell? ⟨b, o + r * 2 + 1, none⟩ = some (.slice qa (R.getD r (0, [])).2.length qc) := by rw [Nat.add_assoc]; exact k2
    have hre : rightF R r = (R.getD r (0, [])).2 := by rw [rightF, if_neg he]
    obtain ⟨Rt, hRt⟩ : ∃ x, (R.getD r (0, [])).2 = x := ⟨_, rfl⟩
    rw [hRt] at k2' hsy hre
    rw [hre]
    have hbl : ∀ b' o', qa = some ⟨b', o', none⟩ → Rt.length ≠ 0 → b' < lim := fun b' o' e hne => by
      obtain ⟨b2, o2, rc2, qa2, qc2, h1, _, _, h4, _, h6⟩ := hA.rules.2 r hlt
      cases h1
      rw [Nat.add_assoc] at k2'
      rw [k2', hRt] at h4
      cases h4
      rw [hRt] at h6
      obtain ⟨b3, o3, h7, h8, _⟩ := h6 0 (by omega)
      rw [e] at h7
      cases h7
      exact h8
    have HE : Hid (SymsAt w (.slice qa Rt.length qc) Rt ∧ ∀ b' o', qa = some ⟨b', o', none⟩ → Rt.length ≠ 0 → b' < lim) := ⟨hsy, hbl⟩
    clear hA hr k2 hsy he hRt hre hbl
    go_enter Try.func28, Try.ntmps28
    go_wp2_with fail
    go_ret
    exact ⟨qa, qc, rfl, HE.out.1, fun b' o' e hne => .inl (HE.out.2 b' o' e hne), Below.refl _ _⟩

/-- A symbol's number: terms, then names. -/
def numF (T : Nat) (s : Sy) : Int := if s.1 then s.2 else (T : Int) + s.2

set_option maxRecDepth 100000 in
set_option maxHeartbeats 1600000 in
theorem number6_any {w : World} {lim ab T N : Nat} {rv : Value} {R : List Ru} {s : Sy} (hA : AutoG w lim ab T N rv R) (hs : 0 ≤ s.2 ∧ s.2 ≤ 1000) (hT : T ≤ 1000) :
    Calls Try.prog 29 #[.pointer (some ⟨ab, 0, none⟩), .agg #[.bool s.1, .int .i64 s.2]] w fun e w' => e = .returned (.int .i64 (numF T s)) ∧ Below w.heap.size w w' := by
  obtain ⟨t, v⟩ := s
  simp only at hs ⊢
  have a0 : (w.alloc (.cells #[.bool t, .int .i64 v] 46)).cell? ⟨ab, 0, none⟩ = some (.int .i64 T) := (World.cell?_alloc_past _ _ _ hA.lt).trans hA.t
  have hw : IntKind.i64.wrap ((T : Int) + v) = (T : Int) + v := IntWalk.i64_in _ (by omega)
  clear hA
  cases t with
  | true =>
    go_enter Try.func29, Try.ntmps29
    go_wp2_with fail
    go_ret
    exact ⟨rfl, (Below.refl _ _).alloc (Nat.le_refl _) _⟩
  | false =>
    go_enter Try.func29, Try.ntmps29
    go_wp2_with fail
    go_big_quiet (fail)
    go_wp2_with fail
    go_ret
    exact ⟨rfl, below_drewN ((Below.refl _ _).alloc (Nat.le_refl _) _) _⟩

/-- Where an item stands among items, from k on; below 0: it does not. -/
def hasF (L : List It) (i : It) : Int := match L.findIdx? (fun x => decide (x = i)) with | some k => k | none => -1

theorem hasF_some {L : List It} {i : It} {k : Nat} (hk : k < L.length) (he : L.getD k (0, 0) = i) (hno : ∀ j, j < k → L.getD j (0, 0) ≠ i) : hasF L i = k := by
  unfold hasF
  have : L.findIdx? (fun x => decide (x = i)) = some k := by
    rw [List.findIdx?_eq_some_iff_getElem]
    refine ⟨hk, by have e : L.getD k (0, 0) = L[k] := by simp [List.getD, hk]
                   rw [← e, he]; simp, fun j hj => ?_⟩
    have hjl : j < L.length := by omega
    have e : L.getD j (0, 0) = L[j] := by simp [List.getD, hjl]
    have := hno j hj
    rw [e] at this
    simpa using this
  rw [this]
theorem hasF_none {L : List It} {i : It} (hno : ∀ j, j < L.length → L.getD j (0, 0) ≠ i) : hasF L i = -1 := by
  unfold hasF
  have : L.findIdx? (fun x => decide (x = i)) = none := by
    rw [List.findIdx?_eq_none_iff]
    intro x hx
    obtain ⟨j, hj, rfl⟩ := List.getElem_of_mem hx
    have := hno j hj
    have e : L.getD j (0, 0) = L[j] := by simp [List.getD, hj]
    rw [e] at this
    simpa using this
  rw [this]

set_option maxRecDepth 100000 in
set_option maxHeartbeats 1600000 in
theorem has6_any {w : World} {lv : Value} {L : List It} {i : It} (hL : ItemsAt w w.heap.size lv L) (hn : L.length ≤ 1000000) :
    Calls Try.prog 32 #[lv, .agg #[.int .i64 i.1, .int .i64 i.2]] w fun e w' => e = .returned (.int .i64 (hasF L i)) ∧ Below w.heap.size w w' := by
  obtain ⟨la, lc, hlv⟩ := hL.1
  subst hlv
  obtain ⟨x, y⟩ := i
  have HL : Hid (ItemsAt (w.alloc (.cells #[.int .i64 x, .int .i64 y] 87)) w.heap.size (.slice la L.length lc) L) := hL.below ((Below.refl _ _).alloc (Nat.le_refl _) _)
  have HB : Hid (Below w.heap.size w (w.alloc (.cells #[.int .i64 x, .int .i64 y] 87))) := (Below.refl _ _).alloc (Nat.le_refl _) _
  have b0 : (w.alloc (.cells #[.int .i64 x, .int .i64 y] 87)).cell? ⟨w.heap.size, 0, none⟩ = some (.int .i64 x) := by simp [go_sem]
  have b1 : (w.alloc (.cells #[.int .i64 x, .int .i64 y] 87)).cell? ⟨w.heap.size, 1, none⟩ = some (.int .i64 y) := by simp [go_sem]
  simp only
  clear hL
  go_enter Try.func32, Try.ntmps32
  go_wp2_with fail
  generalize (w.alloc (.cells #[.int .i64 x, .int .i64 y] 87)) = W at HL HB b0 b1 ⊢
  go_loopw [5] (fun s wr => ∃ k m : Nat, s = .int .i64 k ∧ k ≤ L.length ∧ wr = W.drewN m ∧ ∀ j, j < k → L.getD j (0, 0) ≠ (x, y)) (fun s _ => L.length - (intOf s).toNat)
  case atStart => exact ⟨0, 0, rfl, Nat.zero_le _, rfl, fun j hj => absurd hj (Nat.not_lt_zero _)⟩
  case round =>
    obtain ⟨k, m, rfl, hk, rfl, hno⟩ := hrel
    have HNo : Hid (∀ j, j < k → L.getD j (0, 0) ≠ (x, y)) := hno
    clear hno
    by_cases hlt : k < L.length
    · obtain ⟨b, o, c, hv, _, k3, k4⟩ := HL.out.2 k hlt
      cases hv
      obtain ⟨⟨p, q⟩, hpq⟩ : ∃ z, L.getD k (0, 0) = z := ⟨_, rfl⟩
      have HPQ : Hid (L.getD k (0, 0) = (p, q)) := hpq
      rw [hpq] at k3 k4
      simp only at k3 k4
      have k4' : W.cell? ⟨b, o + k * 2 + 1, none⟩ = some (.int .i64 q) := by rw [Nat.add_assoc]; exact k4
      have i0 : (0 : Int) ≤ (k : Int) := Int.natCast_nonneg _
      have i1 : (k : Int) < (L.length : Int) := by omega
      clear hpq k4
      by_cases he : p = x ∧ q = y
      · obtain ⟨rfl, rfl⟩ := he
        have HH : Hid (hasF L (p, q) = k) := hasF_some hlt HPQ.out HNo.out
        go_wp2_with fail
        go_big_quiet (fail)
        go_wp2_with fail
        go_ret
        exact ⟨by rw [HH.out]; rfl, below_drewN (below_drewN HB.out _) _⟩
      · have HNo2 : Hid (∀ j, j < k + 1 → L.getD j (0, 0) ≠ (x, y)) := fun j hj => by
          rcases Nat.lt_succ_iff_lt_or_eq.1 hj with hj | rfl
          · exact HNo.out j hj
          · rw [HPQ.out]
            intro e
            cases e
            exact he ⟨rfl, rfl⟩
        by_cases hp : p = x
        · subst hp
          have hq : ¬ q = y := fun e => he ⟨rfl, e⟩
          have e1 : ((q : Int) == (y : Int)) = false := by simp; omega
          have e2 : ((p : Int) == (p : Int)) = true := by simp
          go_wp2_with fail
          go_big_quiet (fail)
          go_wp2_with fail
          go_roundw
          case rel => exact ⟨k + 1, _, by go_num, by omega, rfl, HNo2.out⟩
          case measure => simp [intOf]; omega
        · have e1 : ((p : Int) == (x : Int)) = false := by simp; omega
          go_wp2_with fail
          go_big_quiet (fail)
          go_wp2_with fail
          go_roundw
          case rel => exact ⟨k + 1, _, by go_num, by omega, rfl, HNo2.out⟩
          case measure => simp [intOf]; omega
    · have HH : Hid (hasF L (x, y) = -1) := hasF_none fun j hj => HNo.out j (by omega)
      go_wp2_with fail
      go_ret
      exact ⟨by rw [HH.out]; rfl, below_drewN HB.out _⟩

/-- Are two sets of items (without doubles) the same? -/
def alikeF (A B : List It) : Bool := decide (A.length = B.length) && A.all fun x => decide (0 ≤ hasF B x)

theorem hasF_range (L : List It) (i : It) : hasF L i = -1 ∨ 0 ≤ hasF L i := by
  unfold hasF
  cases L.findIdx? (fun x => decide (x = i)) with
  | none => exact .inl rfl
  | some k => right; simp

set_option maxRecDepth 100000 in
set_option maxHeartbeats 1600000 in
theorem alike6_any {w : World} {av bv : Value} {A B : List It} (hA : ItemsAt w w.heap.size av A) (hB : ItemsAt w w.heap.size bv B) (ha : A.length ≤ 1000000) (hb : B.length ≤ 1000000) :
    Calls Try.prog 30 #[av, bv] w fun e w' => e = .returned (.bool (alikeF A B)) ∧ Below w.heap.size w w' := by
  obtain ⟨aa, ac, hav⟩ := hA.1
  obtain ⟨ba, bc, hbv⟩ := hB.1
  subst hav
  subst hbv
  have HA : Hid (ItemsAt w w.heap.size (.slice aa A.length ac) A) := hA
  have HB : Hid (ItemsAt w w.heap.size (.slice ba B.length bc) B) := hB
  clear hA hB
  by_cases hl : A.length = B.length
  · have e0 : ((A.length : Int) != (B.length : Int)) = false := by simp [hl]
    have HAl : Hid (alikeF A B = A.all fun x => decide (0 ≤ hasF B x)) := by show alikeF A B = _; simp [alikeF, hl]
    have HLe : Hid (A.length = B.length) := hl
    clear hl
    go_enter Try.func30, Try.ntmps30
    go_wp2_with fail
    go_loopw [5] (fun s wr => ∃ k : Nat, s = .int .i64 k ∧ k ≤ A.length ∧ Below w.heap.size w wr ∧ ((A.take k).all fun x => decide (0 ≤ hasF B x)) = true) (fun s _ => A.length - (intOf s).toNat)
    case atStart => exact ⟨0, rfl, Nat.zero_le _, Below.refl _ _, rfl⟩
    case round =>
      obtain ⟨k, rfl, hk, hBe, hall⟩ := hrel
      have HBe : Hid (Below w.heap.size w wr) := hBe
      have HAll : Hid (((A.take k).all fun x => decide (0 ≤ hasF B x)) = true) := hall
      clear hall
      by_cases hlt : k < A.length
      · obtain ⟨b, o, c, hv, _, k3, k4⟩ := (HA.out.below hBe).2 k hlt
        cases hv
        obtain ⟨⟨p, q⟩, hpq⟩ : ∃ z, A.getD k (0, 0) = z := ⟨_, rfl⟩
        have hge : A[k] = (p, q) := by rw [← hpq]; simp [List.getD, hlt]
        rw [hpq] at k3 k4
        simp only at k3 k4
        have k4' : wr.cell? ⟨b, o + k * 2 + 1, none⟩ = some (.int .i64 q) := by rw [Nat.add_assoc]; exact k4
        have call := has6_any (i := (p, q)) ((HB.out.below hBe).mono hBe.size) hb
        have i0 : (0 : Int) ≤ (k : Int) := Int.natCast_nonneg _
        have i1 : (k : Int) < (A.length : Int) := by omega
        obtain ⟨z, hz⟩ : ∃ z, hasF B (p, q) = z := ⟨_, rfl⟩
        have HNext : Hid (0 ≤ z → ((A.take (k + 1)).all fun x => decide (0 ≤ hasF B x)) = true) := fun h0 => by
          rw [List.take_succ_eq_append_getElem hlt, List.all_append, HAll.out, hge]
          simp [hz, h0]
        have HBad : Hid (z < 0 → alikeF A B = false) := fun h0 => by
          rw [HAl.out, List.all_eq_false]
          exact ⟨A[k], List.getElem_mem hlt, by rw [hge, hz]; simpa using h0⟩
        rw [hz] at call
        simp only at call
        clear hpq k4 hge hz hBe
        by_cases h0 : z < 0
        · have HF : Hid (alikeF A B = false) := HBad.out h0
          go_wp2_with
            (go_at_call 32; refine call.mono ?_; rintro e w2 ⟨rfl, hB2⟩
             have HB2 : Hid (Below w.heap.size w w2) := HBe.out.trans (hB2.mono HBe.out.size)
             clear hB2)
          go_ret
          exact ⟨by rw [HF.out]; rfl, HB2.out⟩
        · have h1 : decide (z < 0) = false := decide_eq_false h0
          have HT : Hid (((A.take (k + 1)).all fun x => decide (0 ≤ hasF B x)) = true) := HNext.out (by omega)
          go_wp2_with
            (go_at_call 32; refine call.mono ?_; rintro e w2 ⟨rfl, hB2⟩
             have HB2 : Hid (Below w.heap.size w w2) := HBe.out.trans (hB2.mono HBe.out.size)
             clear hB2)
          go_roundw
          case rel => exact ⟨k + 1, by go_num, by omega, HB2.out, HT.out⟩
          case measure => simp [intOf]; omega
      · have HF : Hid (alikeF A B = true) := by
          show alikeF A B = true
          have := HAll.out
          rw [List.take_of_length_le (by omega)] at this
          rw [HAl.out, this]
        clear hBe
        go_wp2_with fail
        go_ret
        exact ⟨by rw [HF.out]; rfl, HBe.out⟩
  · have e0 : ((A.length : Int) != (B.length : Int)) = true := by simpa using fun h => hl (by omega)
    have HF : Hid (alikeF A B = false) := by show alikeF A B = false; simp [alikeF, hl]
    clear hl
    go_enter Try.func30, Try.ntmps30
    go_wp2_with fail
    go_ret
    exact ⟨by rw [HF.out]; rfl, Below.refl _ _⟩

end Go.Proofs.Ytkkcmcckdaobmaa

/- Plain: closed sets of items (F1); lists without doubles. -/
namespace Go.Proofs.Ytkkcmcckdaobmaa

/-- What closes a set of items. -/
inductive Cl (R : List Ru) (S : It → Prop) : It → Prop
  | base {i : It} (h : S i) : Cl R S i
  | step {r d n : Nat} {m : Int} (h : Cl R S (r, d)) (h1 : (rightF R r)[d]? = some (false, m)) (h2 : n < R.length) (h3 : (R.getD n (0, [])).1 = m) : Cl R S (n, 0)

section
variable {α : Type} [DecidableEq α]

theorem nodup_sub_length {A B : List α} (hA : A.Nodup) (h : ∀ x ∈ A, x ∈ B) : A.length ≤ B.length := by
  induction A generalizing B with
  | nil => simp
  | cons a A ih =>
    rw [List.nodup_cons] at hA
    have ha := h a (by simp)
    have := ih hA.2 (B := B.erase a) fun x hx => (List.mem_erase_of_ne (fun e => hA.1 (by rw [← e]; exact hx))).2 (h x (by simp [hx]))
    rw [List.length_erase_of_mem ha] at this
    have := List.length_pos_of_mem ha
    simp only [List.length_cons]
    omega

theorem nodup_sub_eq {A B : List α} (hA : A.Nodup) (h : ∀ x ∈ A, x ∈ B) (hl : A.length = B.length) : ∀ x ∈ B, x ∈ A := fun x hx => by
  refine Classical.byContradiction fun hn => ?_
  have := nodup_sub_length (B := B.erase x) hA fun y hy => (List.mem_erase_of_ne (fun e => hn (by rw [← e]; exact hy))).2 (h y hy)
  rw [List.length_erase_of_mem hx] at this
  have := List.length_pos_of_mem hx
  omega
end

theorem hasF_mem {L : List It} {i : It} : 0 ≤ hasF L i ↔ i ∈ L := by
  constructor
  · intro h
    unfold hasF at h
    cases hf : L.findIdx? (fun x => decide (x = i)) with
    | none => rw [hf] at h; simp at h
    | some k =>
      rw [List.findIdx?_eq_some_iff_getElem] at hf
      obtain ⟨hk, he, _⟩ := hf
      have : L[k] = i := by simpa using he
      rw [← this]
      exact List.getElem_mem hk
  · intro h
    rcases hasF_range L i with hr | hr
    · exfalso
      unfold hasF at hr
      cases hf : L.findIdx? (fun x => decide (x = i)) with
      | none =>
        rw [List.findIdx?_eq_none_iff] at hf
        have := hf i h
        simp at this
      | some k => rw [hf] at hr; simp at hr
    · exact hr

theorem alikeF_iff {A B : List It} (hA : A.Nodup) : alikeF A B = true ↔ (A.length = B.length ∧ ∀ x, x ∈ A ↔ x ∈ B) := by
  unfold alikeF
  simp only [Bool.and_eq_true, decide_eq_true_eq, List.all_eq_true]
  constructor
  · rintro ⟨h1, h2⟩
    have h3 : ∀ x ∈ A, x ∈ B := fun x hx => hasF_mem.1 (h2 x hx)
    exact ⟨h1, fun x => ⟨h3 x, nodup_sub_eq hA h3 h1 x⟩⟩
  · rintro ⟨h1, h2⟩
    exact ⟨h1, fun x hx => hasF_mem.2 ((h2 x).1 hx)⟩

/-- While a set is closed: all items below k, and of item k what the rules below n ask. -/
structure CI (R : List Ru) (l O : List It) (k n : Nat) : Prop where
  pre : ∃ E, O = l ++ E ∧ ∀ i ∈ E, ∃ q, q < R.length ∧ i = (q, 0)
  nod : O.Nodup
  snd : ∀ i ∈ O, Cl R (· ∈ l) i
  cls : ∀ j, (j < k ∧ j < O.length) → ∀ m q, (rightF R (O.getD j (0, 0)).1)[(O.getD j (0, 0)).2]? = some (false, m) → q < R.length → (R.getD q (0, [])).1 = m → (q, 0) ∈ O
  cur : k < O.length → ∀ m q, (rightF R (O.getD k (0, 0)).1)[(O.getD k (0, 0)).2]? = some (false, m) → q < n → q < R.length → (R.getD q (0, [])).1 = m → (q, 0) ∈ O

section
variable {R : List Ru} {l O : List It} {k n : Nat}

theorem ci_start (hl : l.Nodup) : CI R l l 0 0 := ⟨⟨[], by simp, fun i hi => by cases hi⟩, hl, fun i hi => .base hi, fun j hj => by omega, fun _ m q _ hq => by omega⟩

theorem CI.len (h : CI R l O k n) : O.length ≤ l.length + R.length := by
  obtain ⟨E, rfl, hE⟩ := h.pre
  have hn : E.Nodup := (List.nodup_append.1 h.nod).2.1
  have := nodup_sub_length (B := (List.range R.length).map fun q => ((q, 0) : It)) hn fun i hi => by
    obtain ⟨q, hq, rfl⟩ := hE i hi
    exact List.mem_map.2 ⟨q, List.mem_range.2 hq, rfl⟩
  simp only [List.length_map, List.length_range] at this
  simp only [List.length_append]
  omega

theorem CI.none (h : CI R l O k 0) (hno : k < O.length → ∀ m, (rightF R (O.getD k (0, 0)).1)[(O.getD k (0, 0)).2]? ≠ some (false, m)) : CI R l O (k + 1) 0 :=
  ⟨h.pre, h.nod, h.snd, fun j hj m q h1 h2 h3 => by
    rcases Nat.lt_succ_iff_lt_or_eq.1 hj.1 with hj' | rfl
    · exact h.cls j ⟨hj', hj.2⟩ m q h1 h2 h3
    · exact absurd h1 (hno hj.2 m), fun _ m q _ hq => by omega⟩

theorem CI.done (h : CI R l O k n) (hn : R.length ≤ n) : CI R l O (k + 1) 0 :=
  ⟨h.pre, h.nod, h.snd, fun j hj m q h1 h2 h3 => by
    rcases Nat.lt_succ_iff_lt_or_eq.1 hj.1 with hj' | rfl
    · exact h.cls j ⟨hj', hj.2⟩ m q h1 h2 h3
    · exact h.cur hj.2 m q h1 (by omega) h2 h3, fun _ m q _ hq => by omega⟩

theorem CI.pass (h : CI R l O k n) (hno : k < O.length → ∀ m, (rightF R (O.getD k (0, 0)).1)[(O.getD k (0, 0)).2]? = some (false, m) → (R.getD n (0, [])).1 = m → (n, 0) ∈ O) : CI R l O k (n + 1) :=
  ⟨h.pre, h.nod, h.snd, h.cls, fun hk m q h1 h2 h3 h4 => by
    rcases Nat.lt_succ_iff_lt_or_eq.1 h2 with h2 | rfl
    · exact h.cur hk m q h1 h2 h3 h4
    · exact hno hk m h1 h4⟩

theorem CI.push (h : CI R l O k n) (hk : k < O.length) {m : Int} (h1 : (rightF R (O.getD k (0, 0)).1)[(O.getD k (0, 0)).2]? = some (false, m)) (hn : n < R.length) (h2 : (R.getD n (0, [])).1 = m) (h3 : (n, 0) ∉ O) : CI R l (O ++ [(n, 0)]) k (n + 1) := by
  have get : ∀ j, j < O.length → (O ++ [(n, 0)]).getD j (0, 0) = O.getD j (0, 0) := fun j hj => by simp [List.getD, List.getElem?_append_left hj]
  have hO : O.getD k (0, 0) ∈ O := by simp [List.getD, hk]
  refine ⟨?_, ?_, fun i hi => ?_, fun j hj m' q e1 e2 e3 => ?_, fun _ m' q e1 e2 e3 e4 => ?_⟩
  · obtain ⟨E, rfl, hE⟩ := h.pre
    refine ⟨E ++ [(n, 0)], by simp, fun i hi => ?_⟩
    rcases List.mem_append.1 hi with hi | hi
    · exact hE i hi
    · exact ⟨n, hn, by simpa using hi⟩
  · rw [List.nodup_append]
    refine ⟨h.nod, by simp, fun a ha b hb e => ?_⟩
    have hb' : b = (n, 0) := by simpa using hb
    rw [e, hb'] at ha
    exact h3 ha
  · rcases List.mem_append.1 hi with hi | hi
    · exact h.snd i hi
    · have : i = (n, 0) := by simpa using hi
      subst this
      exact .step (h.snd _ hO) h1 hn h2
  · have hjO : j < O.length := by omega
    rw [get j hjO] at e1
    exact List.mem_append_left _ (h.cls j ⟨hj.1, hjO⟩ m' q e1 e2 e3)
  · rw [get k hk] at e1
    rcases Nat.lt_succ_iff_lt_or_eq.1 e2 with e2 | rfl
    · exact List.mem_append_left _ (h.cur hk m' q e1 e2 e3 e4)
    · simp

/-- All items are closed: just what closes the first ones is there. -/
theorem CI.all (h : CI R l O k n) (hk : O.length ≤ k) : ∀ i, i ∈ O ↔ Cl R (· ∈ l) i := fun i => by
  refine ⟨h.snd i, fun hc => ?_⟩
  induction hc with
  | base hb =>
    obtain ⟨E, rfl, _⟩ := h.pre
    exact List.mem_append_left _ hb
  | step _ h1 h2 h3 ih =>
    obtain ⟨j, hj, he⟩ := List.getElem_of_mem ih
    have e : O.getD j (0, 0) = O[j] := by simp [List.getD, hj]
    exact h.cls j ⟨by omega, hj⟩ _ _ (by rw [e, he]; exact h1) h2 h3
end

end Go.Proofs.Ytkkcmcckdaobmaa

/- Memory that a call has made: rows, each in a block of its own, each under an index. No program. -/
namespace Go.Proofs.Ytkkcmcckdaobmaa
open Go.RowKit

/-- A slice value that owns a row: n elements of type e, size cells each, the cells xs. -/
structure Row where
  v : Value
  e : TypeId
  size : Nat
  n : Nat
  xs : List Value

/-- Each row of P is owned, from block number base on, and no two lie in one block. -/
structure Owns {ι : Type} (w : World) (base : Nat) (P : ι → Option Row) : Prop where
  own : ∀ i r, P i = some r → w.ownsRow base r.e r.size r.v r.n r.xs
  apart : ∀ i j a b, i ≠ j → P i = some a → P j = some b → ∀ g, a.v.ownBlock = some g → b.v.ownBlock = some g → False

/-- The row under i is r. -/
def upd {ι : Type} [DecidableEq ι] (P : ι → Option Row) (i : ι) (r : Row) : ι → Option Row := fun j => if j = i then some r else P j

section
variable {ι : Type} {w : World} {base : Nat} {P : ι → Option Row}

theorem Owns.drewN (h : Owns w base P) (m : Nat) : Owns (w.drewN m) base P := ⟨h.own, h.apart⟩
theorem Owns.drew (h : Owns w base P) : Owns w.drew base P := ⟨h.own, h.apart⟩

theorem Owns.alloc (h : Owns w base P) (o : Obj) : Owns (w.alloc o) base P := ⟨fun i r hr => (h.own i r hr).alloc o, h.apart⟩

theorem Owns.mono (h : Owns w base P) {base' : Nat} (hb : base' ≤ base) : Owns w base' P := ⟨fun i r hr => own_mono (h.own i r hr) hb, h.apart⟩

theorem Owns.lt (h : Owns w base P) {i : ι} {r : Row} (hi : P i = some r) {g : Nat} (hg : r.v.ownBlock = some g) : base ≤ g ∧ g < w.heap.size := (h.own i r hi).lt g hg

/-- Nothing below B has turned, and all rows lie there. -/
theorem Owns.below (h : Owns w base P) {B : Nat} {w' : World} (hb : Below B w w') (hB : w.heap.size ≤ B) : Owns w' base P :=
  ⟨fun _ _ hr => own_below (h.own _ _ hr) hb fun _ hg => Nat.lt_of_lt_of_le (h.lt hr hg).2 hB, h.apart⟩

/-- A cell outside all rows is written. -/
theorem Owns.setOther (h : Owns w base P) {a : Addr} (ha : ∀ i r, P i = some r → r.v.ownBlock ≠ some a.block) (u : Value) : Owns (w.setCell a u) base P := by
  refine ⟨fun i r hr => ?_, h.apart⟩
  obtain ⟨h1, h2⟩ := h.own i r hr
  refine ⟨h1, ?_⟩
  rcases h2 with h2 | ⟨g, cap, cur, hv, hg, hh, rest⟩
  · exact .inl h2
  · refine .inr ⟨g, cap, cur, hv, hg, ?_, rest⟩
    rw [Below.heap_setCell _ _ _ _ (fun e => ha i r hr (by rw [hv, e]; rfl))]
    exact hh

/-- A cell below all rows is written. -/
theorem Owns.setBelow (h : Owns w base P) {a : Addr} (ha : a.block < base) (u : Value) : Owns (w.setCell a u) base P :=
  h.setOther (fun _ _ hr e => by have := (h.lt hr e).1; omega) u

variable [DecidableEq ι]

theorem upd_same (P : ι → Option Row) (i : ι) (r : Row) : upd P i r i = some r := by simp [upd]
theorem upd_other (P : ι → Option Row) {i j : ι} (h : j ≠ i) (r : Row) : upd P i r j = P j := by simp [upd, h]

theorem upd_cases {P : ι → Option Row} {i j : ι} {r a : Row} (h : upd P i r j = some a) : (j = i ∧ a = r) ∨ (j ≠ i ∧ P j = some a) := by
  unfold upd at h
  split at h
  · rename_i e
    exact .inl ⟨e, by simpa using h.symm⟩
  · rename_i e
    exact .inr ⟨e, h⟩

theorem Owns.put (h : Owns w base P) {i : ι} {r' : Row} {w' : World} (hown : w'.ownsRow base r'.e r'.size r'.v r'.n r'.xs)
    (hkeep : ∀ j a, j ≠ i → P j = some a → w'.ownsRow base a.e a.size a.v a.n a.xs)
    (hfresh : ∀ j a, j ≠ i → P j = some a → ∀ g, a.v.ownBlock = some g → r'.v.ownBlock = some g → False) : Owns w' base (upd P i r') := by
  refine ⟨fun j a ha => ?_, fun j k a b hjk ha hb g h1 h2 => ?_⟩
  · rcases upd_cases ha with ⟨_, rfl⟩ | ⟨hj, ha⟩
    · exact hown
    · exact hkeep j a hj ha
  · rcases upd_cases ha with ⟨hj, e1⟩ | ⟨hj, ha'⟩
    · rcases upd_cases hb with ⟨hk, _⟩ | ⟨hk, hb'⟩
      · exact hjk (by rw [hj, hk])
      · subst e1
        exact hfresh k b hk hb' g h2 h1
    · rcases upd_cases hb with ⟨hk, e1⟩ | ⟨hk, hb'⟩
      · subst e1
        exact hfresh j a hj ha' g h1 h2
      · exact h.apart j k a b hjk ha' hb' g h1 h2

/-- A new row. -/
theorem Owns.new (h : Owns w base P) (i : ι) {w' : World} {r : Row} (hg : w.grownBy w' none) (hown : w'.ownsRow base r.e r.size r.v r.n r.xs) (hv : ∀ g, r.v.ownBlock = some g → g = w.heap.size) : Owns w' base (upd P i r) := by
  refine h.put hown (fun j a _ ha => (h.own j a ha).kept hg ?_) (fun j a _ ha g h1 h2 => ?_)
  · cases a.v.ownBlock <;> simp
  · have := (h.lt ha h1).2
    have := hv g h2
    omega

/-- One row turns into another one, in its own block or in a new one. -/
theorem Owns.turn (h : Owns w base P) {i : ι} {r r' : Row} (hi : P i = some r) {w' : World} (hg : w.grownBy w' r.v.ownBlock) (hown : w'.ownsRow base r'.e r'.size r'.v r'.n r'.xs)
    (hat : ∀ g, r'.v.ownBlock = some g → r.v.ownBlock = some g ∨ g = w.heap.size) : Owns w' base (upd P i r') := by
  refine h.put hown (fun j a hj ha => (h.own j a ha).kept hg ?_) (fun j a hj ha g h1 h2 => ?_)
  · cases e : a.v.ownBlock with
    | none => exact .inl rfl
    | some g => exact .inr fun e' => h.apart j i a r hj ha hi g e e'.symm
  · rcases hat g h2 with e | e
    · exact h.apart j i a r hj ha hi g h1 e
    · have := (h.lt ha h1).2; omega

/-- A cell of a row is written. -/
theorem Owns.store (h : Owns w base P) {i : ι} {g n cap e size : Nat} {xs : List Value} (hi : P i = some ⟨.slice (some ⟨g, 0, none⟩) n cap, e, size, n, xs⟩) (j : Nat) (u : Value) :
    Owns (w.setCell ⟨g, j, none⟩ u) base (upd P i ⟨.slice (some ⟨g, 0, none⟩) n cap, e, size, n, xs.set j u⟩) := by
  obtain ⟨h1, h2⟩ := (h.own i _ hi).stored j u
  exact h.turn (r' := ⟨.slice (some ⟨g, 0, none⟩) n cap, e, size, n, xs.set j u⟩) hi h2 h1 fun g' hg' => .inl hg'

omit [DecidableEq ι] in
/-- A cell of a row is read. -/
theorem Owns.cell (h : Owns w base P) {i : ι} {g n cap e size : Nat} {xs : List Value} (hi : P i = some ⟨.slice (some ⟨g, 0, none⟩) n cap, e, size, n, xs⟩) (j : Nat) (hj : j < n * size) :
    w.cell? ⟨g, j, none⟩ = xs[j]? ∧ w.frozen? ⟨g, j, none⟩ = false :=
  ⟨(h.own i _ hi).cellAt j hj, (h.own i _ hi).frozenAt j⟩

omit [DecidableEq ι] in
/-- A row that owns something: what its value looks like. -/
theorem Owns.form (h : Owns w base P) {i : ι} {r : Row} (hi : P i = some r) (hn : 0 < r.n) : ∃ g cap, r.v = .slice (some ⟨g, 0, none⟩) r.n cap ∧ base ≤ g ∧ g < w.heap.size := (h.own i r hi).form hn

omit [DecidableEq ι] in
theorem Owns.slice (h : Owns w base P) {i : ι} {r : Row} (hi : P i = some r) : ∃ a c, r.v = .slice a r.n c := own_form (h.own i r hi)
end

end Go.Proofs.Ytkkcmcckdaobmaa

/- Tables of truths that a call owns, and what a call that may write them alone keeps. No program. -/
namespace Go.Proofs.Ytkkcmcckdaobmaa
open Go.RowKit

/-- A region that draws its order, whose operations only read but those behind the first n, which can but follow: one walk. -/
theorem wp_region_tail {P : Program} {id : Nat} {Q : Exit → Act → World → Prop} {a : Act} {w : World} {l : List Oper} (n : Nat) (hm : P.follows .mixedOrders = true) (hB : Region.lexTailB .any l.toArray n = true)
    (h : wpStill P l.toArray w.drew (fun a' => wpList P l.toArray Q (l.drop n) a' w.drew) (l.take n) a) : (Code.region id l.toArray true).wp P Q a w := wp_region_still_tail n hm hB h

/-- All blocks that were there but those of K are as they were. -/
structure Kept (K : Nat → Prop) (w w' : World) : Prop where
  os : w'.os = w.os
  tape : w'.tape = w.tape
  output : w'.output = w.output
  size : w.heap.size ≤ w'.heap.size
  block : ∀ k, k < w.heap.size → ¬ K k → w'.heap[k]? = w.heap[k]?

section
variable {K : Nat → Prop} {a w w' : World}

theorem Kept.refl (K : Nat → Prop) (w : World) : Kept K w w := ⟨rfl, rfl, rfl, Nat.le_refl _, fun _ _ _ => rfl⟩
theorem Kept.trans {b c : World} (h : Kept K a b) (k : Kept K b c) : Kept K a c :=
  ⟨k.os.trans h.os, k.tape.trans h.tape, k.output.trans h.output, Nat.le_trans h.size k.size, fun i hi hK => (k.block i (Nat.lt_of_lt_of_le hi h.size) hK).trans (h.block i hi hK)⟩
theorem Kept.drew (h : Kept K a w) : Kept K a w.drew := ⟨h.os, h.tape, h.output, h.size, h.block⟩
theorem Kept.drewN (h : Kept K a w) (n : Nat) : Kept K a (w.drewN n) := ⟨h.os, h.tape, h.output, h.size, h.block⟩
theorem Kept.ofBelow (h : Below w.heap.size w w') : Kept K w w' := ⟨h.os, h.tape, h.output, h.size, fun k hk _ => h.block k hk⟩
theorem Kept.alloc (h : Kept K a w) (o : Obj) : Kept K a (w.alloc o) := h.trans (Kept.ofBelow ((Below.refl _ _).alloc (Nat.le_refl _) o))
theorem Kept.setCell (h : Kept K a w) {p : Addr} (hp : K p.block) (u : Value) : Kept K a (w.setCell p u) :=
  h.trans ⟨rfl, rfl, rfl, by simp [World.setCell], fun k _ hK => Below.heap_setCell _ _ _ _ (fun e => hK (e ▸ hp))⟩
theorem Kept.below (h : Kept K a w) {B : Nat} (hB : ∀ b, K b → B ≤ b) (hs : B ≤ a.heap.size) : Below B a w :=
  ⟨h.os, h.tape, h.output, h.size, fun k hk => h.block k (by omega) (fun e => by have := hB k e; omega)⟩
theorem Kept.cell (h : Kept K w w') {p : Addr} {v : Value} (hp : ¬ K p.block) (hc : w.cell? p = some v) : w'.cell? p = some v :=
  (World.cell?_of_block (w := w) (h.block p.block (World.block_lt_of_cell? w _ hc) hp)).trans hc
theorem Kept.frozen (h : Kept K w w') {p : Addr} (hp : ¬ K p.block) (hs : p.block < w.heap.size) : w'.frozen? p = w.frozen? p :=
  World.frozen?_of_block (w := w) (h.block p.block hs hp)
end

/-- n rounds, each told its number. -/
def loopN {α : Type} (n : Nat) (f : Nat → α → α) (x : α) : α :=
  match n with
  | 0 => x
  | k + 1 => f k (loopN k f x)

theorem loopN_inv {α : Type} (P : Nat → α → Prop) {n : Nat} {f : Nat → α → α} {x : α} (h0 : P 0 x) (hs : ∀ i, i < n → ∀ y, P i y → P (i + 1) (f i y)) : P n (loopN n f x) := by
  induction n with
  | zero => exact h0
  | succ n ih => exact hs n (Nat.lt_succ_self n) _ (ih fun i hi => hs i (Nat.lt_succ_of_lt hi))

/-- Where rows of truths lie, and how long they are. -/
structure Tab (ι : Type) where
  V : ι → Value
  dom : ι → Option Nat

section
variable {ι : Type}

def Tab.P (c : Tab ι) (X : ι → List Bool) (i : ι) : Option Row := (c.dom i).map fun n => ⟨c.V i, 4, 1, n, (X i).map Value.bool⟩
def Tab.K (c : Tab ι) (b : Nat) : Prop := ∃ i n, c.dom i = some n ∧ (c.V i).ownBlock = some b
def bit (X : ι → List Bool) (i : ι) (m : Nat) : Bool := (X i).getD m false
def setX [DecidableEq ι] (X : ι → List Bool) (i : ι) (m : Nat) (v : Bool) : ι → List Bool := fun j => if j = i then (X i).set m v else X j

/-- The truths X lie in the rows of c, owned from block B on. -/
def Bt (w : World) (B : Nat) (c : Tab ι) (X : ι → List Bool) : Prop := Owns w B (c.P X)

variable {w : World} {B : Nat} {c : Tab ι} {X : ι → List Bool} {i : ι} {n : Nat}

theorem Tab.P_some (hd : c.dom i = some n) : c.P X i = some ⟨c.V i, 4, 1, n, (X i).map Value.bool⟩ := by simp [Tab.P, hd]
theorem Bt.own (h : Bt w B c X) (hd : c.dom i = some n) : w.ownsRow B 4 1 (c.V i) n ((X i).map Value.bool) := Owns.own h i _ (Tab.P_some hd)
theorem Bt.len (h : Bt w B c X) (hd : c.dom i = some n) : (X i).length = n := by simpa using (h.own hd).1
theorem Bt.slice (h : Bt w B c X) (hd : c.dom i = some n) : ∃ a cap, c.V i = .slice a n cap := own_form (h.own hd)
theorem Bt.form (h : Bt w B c X) (hd : c.dom i = some n) (hn : 0 < n) : ∃ g cap, c.V i = .slice (some ⟨g, 0, none⟩) n cap ∧ B ≤ g ∧ g < w.heap.size := (h.own hd).form hn
theorem Bt.cell (h : Bt w B c X) (hd : c.dom i = some n) {g cap m : Nat} (hv : c.V i = .slice (some ⟨g, 0, none⟩) n cap) (hm : m < n) :
    w.cell? ⟨g, m, none⟩ = some (.bool (bit X i m)) ∧ w.frozen? ⟨g, m, none⟩ = false := by
  have hl := h.len hd
  have ho := h.own hd
  rw [hv] at ho
  refine ⟨?_, ho.frozenAt m⟩
  rw [ho.cellAt m (by omega)]
  simp [bit, List.getD, show m < (X i).length by omega]
theorem Bt.alloc (h : Bt w B c X) (o : Obj) : Bt (w.alloc o) B c X := Owns.alloc h o
theorem Bt.drew (h : Bt w B c X) : Bt w.drew B c X := Owns.drew h
theorem Bt.drewN (h : Bt w B c X) (n : Nat) : Bt (w.drewN n) B c X := Owns.drewN h n
theorem Bt.below (h : Bt w B c X) {w' : World} (hb : Below w.heap.size w w') : Bt w' B c X := Owns.below h hb (Nat.le_refl _)
theorem Bt.ge (h : Bt w B c X) {b : Nat} (hK : c.K b) : B ≤ b := by
  obtain ⟨i, n, hd, hb⟩ := hK
  exact ((h.own hd).lt b hb).1
theorem Bt.lt (h : Bt w B c X) {b : Nat} (hK : c.K b) : b < w.heap.size := by
  obtain ⟨i, n, hd, hb⟩ := hK
  exact ((h.own hd).lt b hb).2
theorem Bt.notK (h : Bt w B c X) {b : Nat} (hb : w.heap.size ≤ b) : ¬ c.K b := fun hK => by have := h.lt hK; omega
theorem Tab.inK (hd : c.dom i = some n) {g cap : Nat} (hv : c.V i = .slice (some ⟨g, 0, none⟩) n cap) : c.K g := ⟨i, n, hd, by rw [hv]; rfl⟩
theorem Bt.apart (h : Bt w B c X) {j : ι} {k : Nat} (hij : i ≠ j) (hd : c.dom i = some n) (hd' : c.dom j = some k) {g g' cap cap' : Nat} (hv : c.V i = .slice (some ⟨g, 0, none⟩) n cap) (hv' : c.V j = .slice (some ⟨g', 0, none⟩) k cap') : g ≠ g' := fun e =>
  Owns.apart h i j _ _ hij (Tab.P_some hd) (Tab.P_some hd') g (by rw [hv]; rfl) (by rw [hv', e]; rfl)

variable [DecidableEq ι]

theorem Bt.set (h : Bt w B c X) (hd : c.dom i = some n) {g cap : Nat} (hv : c.V i = .slice (some ⟨g, 0, none⟩) n cap) (m : Nat) (v : Bool) : Bt (w.setCell ⟨g, m, none⟩ (.bool v)) B c (setX X i m v) := by
  have := Owns.store h (i := i) (g := g) (n := n) (cap := cap) (e := 4) (size := 1) (xs := (X i).map Value.bool) (by rw [Tab.P_some hd, hv]) m (.bool v)
  have e : upd (c.P X) i ⟨.slice (some ⟨g, 0, none⟩) n cap, 4, 1, n, ((X i).map Value.bool).set m (.bool v)⟩ = c.P (setX X i m v) := by
    funext j
    by_cases hj : j = i
    · subst hj
      simp [upd, Tab.P, hd, setX, hv, List.map_set]
    · simp [upd, Tab.P, setX, hj]
  show Owns _ _ _
  rwa [e] at this

omit [DecidableEq ι] in
theorem bit_lt {m : Nat} (h : bit X i m = true) : m < (X i).length := by
  unfold bit at h
  by_cases hm : m < (X i).length
  · exact hm
  · simp [List.getD, List.getElem?_eq_none (show (X i).length ≤ m by omega)] at h

theorem bit_set {j : ι} {m q : Nat} {v : Bool} (hm : m < (X i).length) : bit (setX X i m v) j q = if j = i ∧ q = m then v else bit X j q := by
  unfold bit setX
  by_cases hj : j = i
  · subst hj
    simp only [if_true, true_and]
    by_cases hq : q = m
    · subst hq; simp [List.getD, hm]
    · rw [if_neg hq]; simp [List.getD, List.getElem?_set_ne (fun h => hq h.symm)]
  · simp [hj]

theorem len_set {j : ι} {m : Nat} {v : Bool} : (setX X i m v j).length = (X j).length := by
  unfold setX
  by_cases hj : j = i
  · subst hj; simp
  · simp [hj]
end

end Go.Proofs.Ytkkcmcckdaobmaa
