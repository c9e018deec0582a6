import Derived.Test.YtobegekmgoiopaaGrMemAndGrW5
import Derived.Test.YtobegekmgoiopaaRows
import Derived.Test.YtobegekmgoiopaaMathAndBits
import Derived.WalkKit
import Derived.WalkSpells
import Derived.Deep.QuietTactic
import Derived.BigQuiet
import Derived.Test.YtobegekmgoiopaaPrParseAndOneMath
import Derived.Test.YtobegekmgoiopaaChartLookAndGrW1
import Derived.ProofKit
import Derived.Deep.SlicePairs
/- The contracts of read as a whole, of Yield and of Spans: they answer what the plain function readF tells, in new memory. -/
namespace Go.Proofs.Ytobegekmgoiopaa
open Go.RowKit

theorem fits_start {D : List Int} {M : Nat} (hD : D.length ≤ 400) (hM' : M ≤ 2147483648) : GrFits D M { pos := 0, Y := [], S := [] } 0 := by
  refine ⟨Nat.zero_le _, Nat.le_refl _, ?_⟩
  have h : D.length * M ≤ 400 * 2147483648 := Nat.mul_le_mul hD hM'
  simp only [List.length_nil, Nat.sub_zero]
  omega

theorem read_some {w : World} {T N : Int} {rv dv : Value} {R : List Ru} {D : List Int} {M : Nat} {st : St} (hr : RulesAt w w.heap.size rv R) (hd : ListAt w w.heap.size dv D)
    (hM : ∀ q, (R.getD q (0, [])).2.length ≤ M) (hM' : M ≤ 2147483648) (h : readF R D = some st) :
    Calls Try.prog 14 #[.agg #[.int .i64 T, .int .i64 N, rv], dv] w fun e w' => ∃ yv sv,
      e = .returned (.tuple #[.agg #[.int .i64 T, .int .i64 N, rv, dv, .int .i64 st.pos, yv, sv], .bool true]) ∧ Below w.heap.size w w' ∧
      w'.ownsRow (w.heap.size + 3) 3 1 yv st.Y.length (st.Y.map (Value.int .i64)) ∧ w'.ownsRow (w.heap.size + 3) 111 3 sv st.S.length (flatG st.S) := by
  obtain ⟨ra, rc, hrv⟩ := hr.1
  obtain ⟨da, dc, hdv⟩ := hd.1
  unfold readF at h
  split at h
  · cases h
  · rename_i hl
    have call := name_any hr hd (by omega) hM hM' D.length 0 _ _ _ _ (start_inv w T N rv dv) (by simp) (fits_start (by omega) hM')
    split at h
    · cases h
    · rename_i st' hn
      split at h
      · cases h
      · rename_i hp
        cases h
        subst hrv
        subst hdv
        refine read_done T N ra R.length rc da D.length dc w (by omega) st hp (call.mono ?_)
        rintro e w' (⟨st2, yv, sv, h2, rfl, hI⟩ | ⟨h2, _⟩)
        · rw [hn] at h2; cases h2; exact ⟨rfl, yv, sv, hI⟩
        · rw [hn] at h2; cases h2

section
variable {w : World} {T N : Int} {rv dv : Value} {R : List Ru} {D : List Int} {M : Nat} {st : St}

set_option maxRecDepth 100000 in
theorem yield_some (hr : RulesAt w w.heap.size rv R) (hd : ListAt w w.heap.size dv D) (hM : ∀ q, (R.getD q (0, [])).2.length ≤ M) (hM' : M ≤ 2147483648) (h : readF R D = some st) :
    Calls Try.prog 6 #[.agg #[.int .i64 T, .int .i64 N, rv], dv] w fun e w' => ∃ yv, e = .returned (.tuple #[yv, .bool true]) ∧ Below w.heap.size w w' ∧
      w'.ownsRow w.heap.size 3 1 yv st.Y.length (st.Y.map (Value.int .i64)) := by
  have call := read_some (T := T) (N := N) (hr.boxed (.cells #[.int .i64 T, .int .i64 N, rv] 24)) (hd.boxed (.cells #[.int .i64 T, .int .i64 N, rv] 24)) hM hM' h
  obtain ⟨ra, rc, rfl⟩ := hr.1
  obtain ⟨da, dc, rfl⟩ := hd.1
  clear hr hd
  go_enter Try.func6, Try.ntmps6
  go_wp2_with (go_at_call 14; refine call.mono ?_; rintro e w1 ⟨yv, sv, rfl, hB, hY, hS⟩; obtain ⟨ya, yc, rfl⟩ := own_form hY; obtain ⟨sa, sc, rfl⟩ := own_form hS)
  go_ret2
  have hz := hB.size
  simp only [World.size_alloc] at hz hY
  exact ⟨_, rfl, (((Below.refl _ _).alloc (Nat.le_refl _) _).trans (hB.mono (by simp))).alloc (by omega) _, (own_mono hY (by omega)).alloc _⟩

end
end Go.Proofs.Ytobegekmgoiopaa

/- The contract of pollardingref1.Ints, where both sides are one. -/
namespace Go.Proofs.Ytobegekmgoiopaa
open Go.RowKit

set_option maxRecDepth 100000 in
set_option maxHeartbeats 1600000 in
theorem ints_eq {w : World} {la lb : Nat} {a b : Value} {X : List Int} (ha : ListAt w la a X) (hb : ListAt w lb b X) (hl : X.length ≤ 1000000) :
    Calls Try.prog 7 #[a, b] w fun e w' => e = .returned (.bool true) ∧ ∃ m, w' = w.drewN m := by
  obtain ⟨aa, ac, hav⟩ := ha.1
  obtain ⟨ba, bc, hbv⟩ := hb.1
  have HA : Hid (ListAt w la a X) := ha
  have HB : Hid (ListAt w lb b X) := hb
  clear ha hb
  subst hav
  subst hbv
  have e0 : ((X.length : Int) != (X.length : Int)) = false := by simp
  go_enter Try.func7, Try.ntmps7
  go_wp2_with fail
  go_loopw [5] (fun k wr => ∃ i m : Nat, k = .int .i64 i ∧ i ≤ X.length ∧ wr = w.drewN m) (fun k _ => X.length - (intOf k).toNat)
  case atStart => exact ⟨0, 0, rfl, Nat.zero_le _, rfl⟩
  case round =>
    obtain ⟨i, m, rfl, hi, rfl⟩ := hrel
    by_cases hlt : i < X.length
    · obtain ⟨g1, o1, c1, hv1, _, k1⟩ := HA.out.2 i hlt
      obtain ⟨g2, o2, c2, hv2, _, k2⟩ := HB.out.2 i hlt
      cases hv1
      cases hv2
      obtain ⟨z, hz⟩ : ∃ z, X.getD i 0 = z := ⟨_, rfl⟩
      rw [hz] at k1 k2
      have j0 : (0 : Int) ≤ (i : Int) := Int.natCast_nonneg _
      have j1 : (i : Int) < (X.length : Int) := by omega
      have e1 : (z != z) = false := by simp
      clear hz
      go_wp2_with fail
      go_big_quiet (fail)
      go_wp2_with fail
      go_roundw
      case rel => exact ⟨i + 1, _, by go_num, by omega, rfl⟩
      case measure => simp [intOf]; omega
    · go_wp2_with fail
      go_ret
      exact ⟨rfl, m, rfl⟩

end Go.Proofs.Ytobegekmgoiopaa

/- The law pollardingkeep.ParseSound: it returns true. -/
namespace Go.Proofs.Ytobegekmgoiopaa
open Go.RowKit

/-- A grammar of one rule, by which the name 0 becomes nothing. -/
theorem one_rules (w : World) (o : Obj) : RulesAt ((w.alloc (.cells #[.int .i64 0, .slice none 0 0] 28)).alloc o) ((w.alloc (.cells #[.int .i64 0, .slice none 0 0] 28)).alloc o).heap.size (.slice (some ⟨w.heap.size, 0, none⟩) 1 1) R1 := by
  refine ⟨⟨_, _, rfl⟩, fun q hq => ?_⟩
  have : q = 0 := by simpa using hq
  subst this
  refine ⟨w.heap.size, 0, 1, none, 0, rfl, by simp; omega, ?_, ?_, by simp, fun j hj => by simp at hj⟩
  · rw [World.cell?_alloc_past _ _ _ (by simp)]
    simp [go_sem]
  · rw [World.cell?_alloc_past _ _ _ (by simp)]
    simp [go_sem]

/-- The program's parse of it. -/
theorem one_call (w1 : World) : Calls Try.prog 4 #[.agg #[.int .i64 0, .int .i64 1, .slice (some ⟨w1.heap.size, 0, none⟩) 1 1], .slice none 0 0] ((w1.alloc (.cells #[.int .i64 0, .slice none 0 0] 28)).alloc (.cells #[.int .i64 0, .int .i64 1, .slice (some ⟨w1.heap.size, 0, none⟩) 1 1] 24)) fun e w' => ∃ xa xc, e = .returned (.tuple #[.slice xa 1 xc, .int .i64 (-1), .int .i64 0]) ∧ Below w1.heap.size w1 w' := by
  have := parse_any (w := (w1.alloc (.cells #[.int .i64 0, .slice none 0 0] 28)).alloc (.cells #[.int .i64 0, .int .i64 1, .slice (some ⟨w1.heap.size, 0, none⟩) 1 1] 24)) (T := 0) (N := 1) (tok := []) (one_rules w1 _) (list_nil _) (by decide)
  refine Calls.mono this fun e w' ⟨dv, D, a, x, h1, h2, h3, h4⟩ => ?_
  cases h3.one one_parse
  obtain ⟨xa, xc, hdv⟩ := h2.1
  simp only [List.length_singleton] at hdv
  subst hdv
  exact ⟨xa, xc, h1, (((Below.refl _ _).alloc (Nat.le_refl _) _).alloc (by simp) _).trans (h4.mono (by simp; omega))⟩

theorem own_listS {w : World} {B : Nat} {v : Value} {Y : List Int} (h : w.ownsRow B 3 1 v Y.length (Y.map (Value.int .i64))) : ListAt w w.heap.size v Y := by
  obtain ⟨a, c, hv⟩ := own_form h
  refine ⟨⟨a, c, hv⟩, fun p hp => ?_⟩
  obtain ⟨g, cap, hg, _, hlt⟩ := h.form (by omega)
  refine ⟨g, 0, cap, hg, hlt, ?_⟩
  rw [hg] at h
  rw [Nat.zero_add, h.cellAt p (by omega)]
  simp [List.getD, hp]

/-- What can be read of the law's arguments, later. -/
structure LawBoxS (w : World) (T N : Int) (rv tv : Value) (R : List Ru) (tok : List Int) (wq : World) : Prop where
  c0 : wq.cell? ⟨w.heap.size, 0, none⟩ = some (.int .i64 T)
  c1 : wq.cell? ⟨w.heap.size, 1, none⟩ = some (.int .i64 N)
  c2 : wq.cell? ⟨w.heap.size, 2, none⟩ = some rv
  rules : RulesAt wq wq.heap.size rv R
  list : ListAt wq wq.heap.size tv tok
  below : Below w.heap.size w wq
  size : w.heap.size + 1 ≤ wq.heap.size

theorem lawBoxS {w : World} {T N : Int} {rv tv : Value} {R : List Ru} {tok : List Int} (hr : RulesAt w w.heap.size rv R) (ht : ListAt w w.heap.size tv tok) : ∀ wq, Below (w.heap.size + 1) (w.alloc (.cells #[.int .i64 T, .int .i64 N, rv] 24)) wq → LawBoxS w T N rv tv R tok wq := fun wq hq => by
  have hB : Below w.heap.size w wq := ((Below.refl _ _).alloc (Nat.le_refl _) _).trans (hq.mono (by omega))
  exact ⟨(hq.cell (by simp)).trans (by simp [go_sem]), (hq.cell (by simp)).trans (by simp [go_sem]), (hq.cell (by simp)).trans (by simp [go_sem]), (hr.below hB).mono hB.size, (ht.below hB).mono hB.size, hB, by have := hq.size; simpa using this⟩
theorem LawBoxS.later {w : World} {T N : Int} {rv tv : Value} {R : List Ru} {tok : List Int} {wq w' : World} (h : LawBoxS w T N rv tv R tok wq) (hb : Below wq.heap.size wq w') : LawBoxS w T N rv tv R tok w' := by
  have hs := h.size
  exact ⟨(hb.cell (by simp only; omega)).trans h.c0, (hb.cell (by simp only; omega)).trans h.c1, (hb.cell (by simp only; omega)).trans h.c2, (h.rules.below hb).mono hb.size, (h.list.below hb).mono hb.size, h.below.trans (hb.mono (by omega)), Nat.le_trans hs hb.size⟩

/-- What a parse tells of what the grammar has. -/
theorem sound_is {T N : Nat} {R : List Ru} {tok : List Int} {X : List Int} {a x : Int} (hm : mayB T N R = true) (h : ParseIs T N R tok (X, a, x)) :
    (x ≠ 0 ∧ X = [] ∧ a = 0) ∨ (x = 0 ∧ tok.length ≤ 30 ∧ inB T tok = true ∧ ((∃ n : Nat, a = n ∧ X = [] ∧ n ≤ tok.length ∧ ¬ Der R 0 tok) ∨ (a = -1 ∧ X.length ≤ 400 ∧ Der R 0 tok ∧ ∃ st, readF R X = some st ∧ st.Y = tok))) := by
  rcases h with ⟨_, h2⟩ | ⟨K, h1, _, ⟨h3, h2⟩ | ⟨_, _, h2⟩ | ⟨h3, h4, h2⟩⟩
  · cases h2; exact .inl ⟨by decide, rfl, rfl⟩
  · cases h2; exact .inl ⟨h3, rfl, rfl⟩
  · cases h2; exact .inl ⟨by decide, rfl, rfl⟩
  · obtain ⟨h30, hin⟩ := right_of hm h3
    have hs := parse_sound (lr_of (may_FineR hm) h1 (whole_pos h1)) (by rw [show (allN T N R K).2.length = K from h1]; exact clash_one h4) (tok_of hin)
    cases he : parseN T N R (allN T N R K).1 (allN T N R K).2 tok with
    | done d =>
      rw [he] at h2
      cases h2
      obtain ⟨k1, k2⟩ := hs.1 _ he
      exact .inr ⟨rfl, h30, hin, .inr ⟨rfl, k2, Der_iff.2 ⟨_, k1⟩, derD_read k1 k2⟩⟩
    | none n =>
      rw [he] at h2
      cases h2
      exact .inr ⟨rfl, h30, hin, .inl ⟨n, rfl, rfl, hs.2 n he⟩⟩
    | size => rw [he] at h2; cases h2; exact .inl ⟨by decide, rfl, rfl⟩

section
variable {w : World} {T N : Int} {rv tv : Value} {R : List Ru} {tok : List Int}

set_option maxRecDepth 100000 in
set_option maxHeartbeats 1600000 in
/-- What is wrong is told. -/
theorem parseSound_err {x : Int} (hr : RulesAt w w.heap.size rv R) (ht : ListAt w w.heap.size tv tok) (hx : x ≠ 0)
    (pp : ∀ wq, RulesAt wq wq.heap.size rv R → ListAt wq wq.heap.size tv tok → Calls Try.prog 4 #[.agg #[.int .i64 T, .int .i64 N, rv], tv] wq fun e w' => ∃ xa xc, e = .returned (.tuple #[.slice xa 0 xc, .int .i64 0, .int .i64 x]) ∧ Below wq.heap.size wq w') :
    Calls Try.prog 3 #[.agg #[.int .i64 T, .int .i64 N, rv], tv] w fun e w' => e = .returned (.bool true) ∧ Below w.heap.size w w' := by
  obtain ⟨ra, rc, hrv⟩ := hr.1
  obtain ⟨ta, tc, htv⟩ := ht.1
  subst hrv
  subst htv
  have HBX : Hid (∀ wq, Below (w.heap.size + 1) (w.alloc (.cells #[.int .i64 T, .int .i64 N, .slice ra R.length rc] 24)) wq → LawBoxS w T N (.slice ra R.length rc) (.slice ta tok.length tc) R tok wq) := lawBoxS hr ht
  have HP : Hid (∀ wq, RulesAt wq wq.heap.size (.slice ra R.length rc) R → ListAt wq wq.heap.size (.slice ta tok.length tc) tok → Calls Try.prog 4 #[.agg #[.int .i64 T, .int .i64 N, .slice ra R.length rc], .slice ta tok.length tc] wq fun e w' => ∃ xa xc, e = .returned (.tuple #[.slice xa 0 xc, .int .i64 0, .int .i64 x]) ∧ Below wq.heap.size wq w') := pp
  have one := one_call (w.alloc (.cells #[.int .i64 T, .int .i64 N, .slice ra R.length rc] 24))
  simp only [World.size_alloc] at one
  have hxn : (x != 0) = true := by simpa using hx
  have tok1 : True := trivial
  clear hr ht pp hx
  go_enter Try.func3, Try.ntmps3
  go_wp2_with
    (first
     | (go_at_call 4; have _t := tok1; refine one.mono ?_; rintro e w1 ⟨xa, xc, rfl, hB1⟩
        have b := HBX.out w1 hB1
        have b0 := b.c0
        have b1 := b.c1
        have b2 := b.c2
        have par := HP.out w1 b.rules b.list
        have HX1 : Hid (LawBoxS w T N (.slice ra R.length rc) (.slice ta tok.length tc) R tok w1) := b
        clear hB1 b one tok1)
     | (go_at_call 4; refine par.mono ?_; rintro e w2 ⟨xa2, xc2, rfl, hB2⟩
        have HB2 : Hid (Below w.heap.size w w2) := (HX1.out.later hB2).below
        clear hB2 par))
  go_ret
  exact ⟨rfl, HB2.out⟩
end

set_option maxRecDepth 100000 in
set_option maxHeartbeats 1600000 in
/-- None is told: there is none. -/
theorem parseSound_no {w : World} {T N n : Nat} {rv tv : Value} {R : List Ru} {tok : List Int} (hr : RulesAt w w.heap.size rv R) (ht : ListAt w w.heap.size tv tok) (hm : mayB T N R = true) (h30 : tok.length ≤ 30) (hin : inB T tok = true) (hn : n ≤ tok.length) (hno : ¬ Der R 0 tok)
    (pp : ∀ wq, RulesAt wq wq.heap.size rv R → ListAt wq wq.heap.size tv tok → Calls Try.prog 4 #[.agg #[.int .i64 T, .int .i64 N, rv], tv] wq fun e w' => ∃ xa xc, e = .returned (.tuple #[.slice xa 0 xc, .int .i64 n, .int .i64 0]) ∧ Below wq.heap.size wq w') :
    Calls Try.prog 3 #[.agg #[.int .i64 T, .int .i64 N, rv], tv] w fun e w' => e = .returned (.bool true) ∧ Below w.heap.size w w' := by
  obtain ⟨ra, rc, hrv⟩ := hr.1
  obtain ⟨ta, tc, htv⟩ := ht.1
  subst hrv
  subst htv
  have HBX : Hid (∀ wq, Below (w.heap.size + 1) (w.alloc (.cells #[.int .i64 T, .int .i64 N, .slice ra R.length rc] 24)) wq → LawBoxS w T N (.slice ra R.length rc) (.slice ta tok.length tc) R tok wq) := lawBoxS hr ht
  have HP : Hid (∀ wq, RulesAt wq wq.heap.size (.slice ra R.length rc) R → ListAt wq wq.heap.size (.slice ta tok.length tc) tok → Calls Try.prog 4 #[.agg #[.int .i64 T, .int .i64 N, .slice ra R.length rc], .slice ta tok.length tc] wq fun e w' => ∃ xa xc, e = .returned (.tuple #[.slice xa 0 xc, .int .i64 n, .int .i64 0]) ∧ Below wq.heap.size wq w') := pp
  have one := one_call (w.alloc (.cells #[.int .i64 T, .int .i64 N, .slice ra R.length rc] 24))
  simp only [World.size_alloc] at one
  have tok1 : True := trivial
  have HM : Hid (mayB T N R = true) := hm
  have HI : Hid (inB T tok = true) := hin
  have HNo : Hid (¬ Der R 0 tok) := hno
  have i0 : (0 : Int) ≤ (n : Int) := Int.natCast_nonneg _
  have i1 : (n : Int) ≤ (tok.length : Int) := by omega
  clear hr ht pp hm hin hno
  go_enter Try.func3, Try.ntmps3
  go_wp2_with
    (first
     | (go_at_call 4; have _t := tok1; refine one.mono ?_; rintro e w1 ⟨xa, xc, rfl, hB1⟩
        have b := HBX.out w1 hB1
        have b0 := b.c0
        have b1 := b.c1
        have b2 := b.c2
        have par := HP.out w1 b.rules b.list
        have HX1 : Hid (LawBoxS w T N (.slice ra R.length rc) (.slice ta tok.length tc) R tok w1) := b
        clear hB1 b one tok1)
     | (go_at_call 4; refine par.mono ?_; rintro e w2 ⟨xa2, xc2, rfl, hB2⟩
        have b := HX1.out.later hB2
        clear b0 b1 b2
        have b0 := b.c0
        have b1 := b.c1
        have b2 := b.c2
        have has := (has_right (T := T) (N := N) b.rules b.list HM.out h30 HI.out).mono (R' := fun e w' => e = .returned (.tuple #[.bool false, .int .i64 0]) ∧ Below w2.heap.size w2 w') fun e w' ⟨z, k1, k2, k3⟩ => by
          cases z with
          | true => exact absurd (k2.1 rfl) HNo.out
          | false => exact ⟨k1, k3⟩
        have HX2 : Hid (LawBoxS w T N (.slice ra R.length rc) (.slice ta tok.length tc) R tok w2) := b
        clear hB2 par b)
     | (go_at_call 5; refine has.mono ?_; rintro e w3 ⟨rfl, hB3⟩
        have HB3 : Hid (Below w.heap.size w w3) := (HX2.out.later hB3).below
        clear hB3 has))
  go_ret
  exact ⟨rfl, HB3.out⟩

set_option maxRecDepth 100000 in
set_option maxHeartbeats 1600000 in
/-- One is told. -/
theorem parseSound_yes {w : World} {T N : Nat} {rv tv : Value} {R : List Ru} {tok X : List Int} {st : St} (hr : RulesAt w w.heap.size rv R) (ht : ListAt w w.heap.size tv tok) (hm : mayB T N R = true) (h30 : tok.length ≤ 30) (hin : inB T tok = true) (hD : Der R 0 tok) (hX : readF R X = some st) (hY : st.Y = tok)
    (pp : ∀ wq, RulesAt wq wq.heap.size rv R → ListAt wq wq.heap.size tv tok → Calls Try.prog 4 #[.agg #[.int .i64 T, .int .i64 N, rv], tv] wq fun e w' => ∃ xa xc, e = .returned (.tuple #[.slice xa X.length xc, .int .i64 (-1), .int .i64 0]) ∧ ListAt w' w'.heap.size (.slice xa X.length xc) X ∧ Below wq.heap.size wq w') :
    Calls Try.prog 3 #[.agg #[.int .i64 T, .int .i64 N, rv], tv] w fun e w' => e = .returned (.bool true) ∧ Below w.heap.size w w' := by
  obtain ⟨hT8, hN1, hN8, hRl, h5⟩ := may_fine hm
  obtain ⟨ra, rc, hrv⟩ := hr.1
  obtain ⟨ta, tc, htv⟩ := ht.1
  subst hrv
  subst htv
  have HBX : Hid (∀ wq, Below (w.heap.size + 1) (w.alloc (.cells #[.int .i64 T, .int .i64 N, .slice ra R.length rc] 24)) wq → LawBoxS w T N (.slice ra R.length rc) (.slice ta tok.length tc) R tok wq) := lawBoxS hr ht
  have HP : Hid (∀ wq, RulesAt wq wq.heap.size (.slice ra R.length rc) R → ListAt wq wq.heap.size (.slice ta tok.length tc) tok → Calls Try.prog 4 #[.agg #[.int .i64 T, .int .i64 N, .slice ra R.length rc], .slice ta tok.length tc] wq fun e w' => ∃ xa xc, e = .returned (.tuple #[.slice xa X.length xc, .int .i64 (-1), .int .i64 0]) ∧ ListAt w' w'.heap.size (.slice xa X.length xc) X ∧ Below wq.heap.size wq w') := pp
  have one := one_call (w.alloc (.cells #[.int .i64 T, .int .i64 N, .slice ra R.length rc] 24))
  simp only [World.size_alloc] at one
  have tok1 : True := trivial
  have HM : Hid (mayB T N R = true) := hm
  have HI : Hid (inB T tok = true) := hin
  have HD : Hid (Der R 0 tok) := hD
  have HXs : Hid (readF R X = some st ∧ st.Y = tok) := ⟨hX, hY⟩
  have HMx : Hid (∀ q, (R.getD q (0, [])).2.length ≤ 1000) := fun q => by
    by_cases hq : q < R.length
    · have := (h5 q hq).2.2.1; omega
    · simp [List.getD, List.getElem?_eq_none (show R.length ≤ q by omega)]
  obtain ⟨xl, hxl⟩ : ∃ n, X.length = n := ⟨_, rfl⟩
  rw [hxl] at HP
  clear hr ht pp hm hin hD hX hY h5
  go_enter Try.func3, Try.ntmps3
  go_wp2_with
    (first
     | (go_at_call 4; have _t := tok1; refine one.mono ?_; rintro e w1 ⟨xa, xc, rfl, hB1⟩
        have b := HBX.out w1 hB1
        have b0 := b.c0
        have b1 := b.c1
        have b2 := b.c2
        have par := HP.out w1 b.rules b.list
        have HX1 : Hid (LawBoxS w T N (.slice ra R.length rc) (.slice ta tok.length tc) R tok w1) := b
        clear hB1 b one tok1)
     | (go_at_call 4; refine par.mono ?_; rintro e w2 ⟨xa2, xc2, rfl, hL2, hB2⟩
        have b := HX1.out.later hB2
        clear b0 b1 b2
        have b0 := b.c0
        have b1 := b.c1
        have b2 := b.c2
        have has := (has_right (T := T) (N := N) b.rules b.list HM.out h30 HI.out).mono (R' := fun e w' => e = .returned (.tuple #[.bool true, .int .i64 0]) ∧ Below w2.heap.size w2 w') fun e w' ⟨z, k1, k2, k3⟩ => by
          cases z with
          | true => exact ⟨k1, k3⟩
          | false => exact absurd (k2.2 HD.out) (by decide)
        have HX2 : Hid (LawBoxS w T N (.slice ra R.length rc) (.slice ta tok.length tc) R tok w2) := b
        have HL2 : Hid (ListAt w2 w2.heap.size (.slice xa2 xl xc2) X) := hL2
        clear hB2 par b hL2)
     | (go_at_call 5; refine has.mono ?_; rintro e w3 ⟨rfl, hB3⟩
        have b := HX2.out.later hB3
        clear b0 b1 b2
        have b0 := b.c0
        have b1 := b.c1
        have b2 := b.c2
        have yld := yield_some (T := T) (N := N) b.rules ((HL2.out.below hB3).mono hB3.size) HMx.out (by omega) HXs.out.1
        rw [HXs.out.2] at yld
        have HX3 : Hid (LawBoxS w T N (.slice ra R.length rc) (.slice ta tok.length tc) R tok w3) := b
        clear hB3 has b)
     | (go_at_call 6; refine yld.mono ?_; rintro e w4 ⟨yv, rfl, hB4, hown⟩
        obtain ⟨ya, yc, hyv⟩ := own_form hown
        subst hyv
        have b := HX3.out.later hB4
        have ie := ints_eq (own_listS hown) b.list (by omega)
        have HB4 : Hid (Below w.heap.size w w4) := b.below
        clear hB4 yld b hown)
     | (go_at_call 7; refine ie.mono ?_; rintro e w5 ⟨rfl, m, rfl⟩))
  go_ret
  exact ⟨rfl, below_drewN HB4.out _⟩

theorem parseSound_any {w : World} {T N : Int} {rv tv : Value} {R : List Ru} {tok : List Int} (hr : RulesAt w w.heap.size rv R) (ht : ListAt w w.heap.size tv tok) :
    Calls Try.prog 3 #[.agg #[.int .i64 T, .int .i64 N, rv], tv] w fun e w' => e = .returned (.bool true) ∧ Below w.heap.size w w' := by
  cases hm : mayB T N R with
  | false => exact parseSound_err (x := 2) hr ht (by decide) fun wq h1 h2 => (parse_form h1 h2 hm).mono fun e w' ⟨h3, h4⟩ => ⟨none, 0, h3, h4⟩
  | true =>
    have hh := hm
    simp only [mayB, headB, Bool.and_eq_true, decide_eq_true_eq] at hh
    obtain ⟨t, rfl⟩ : ∃ t : Nat, T = t := ⟨T.toNat, by omega⟩
    obtain ⟨n, rfl⟩ : ∃ n : Nat, N = n := ⟨N.toNat, by omega⟩
    obtain ⟨⟨X, a, x⟩, hA⟩ : ∃ z, ParseIs t n R tok z := by
      by_cases hM : More t n R 150
      · exact ⟨_, .inl ⟨hM, rfl⟩⟩
      · obtain ⟨K, hW, hK⟩ := not_more (by omega) hM
        by_cases hw : wrongE t n R tok = 0
        · by_cases hc : clashN (tabC t n R K) = 0
          · exact ⟨_, .inr ⟨K, hW, hK, .inr (.inr ⟨hw, hc, rfl⟩)⟩⟩
          · exact ⟨_, .inr ⟨K, hW, hK, .inr (.inl ⟨hw, by omega, rfl⟩)⟩⟩
        · exact ⟨_, .inr ⟨K, hW, hK, .inl ⟨hw, rfl⟩⟩⟩
    have HPa : ∀ wq, RulesAt wq wq.heap.size rv R → ListAt wq wq.heap.size tv tok → Calls Try.prog 4 #[.agg #[.int .i64 t, .int .i64 n, rv], tv] wq fun e w' => ∃ xa xc, e = .returned (.tuple #[.slice xa X.length xc, .int .i64 a, .int .i64 x]) ∧ ListAt w' w'.heap.size (.slice xa X.length xc) X ∧ Below wq.heap.size wq w' := fun wq h1 h2 => by
      refine (parse_any h1 h2 hm).mono fun e w' ⟨dv, X', a', x', k1, k2, k3, k4⟩ => ?_
      cases k3.one hA
      obtain ⟨xa, xc, hdv⟩ := k2.1
      subst hdv
      exact ⟨xa, xc, k1, k2, k4⟩
    rcases sound_is hm hA with ⟨h1, rfl, rfl⟩ | ⟨rfl, h30, hin, ⟨m, rfl, rfl, h2, h3⟩ | ⟨rfl, _, h3, st, h4, h5⟩⟩
    · exact parseSound_err hr ht h1 fun wq k1 k2 => (HPa wq k1 k2).mono fun e w' ⟨xa, xc, k3, _, k4⟩ => ⟨xa, xc, k3, k4⟩
    · exact parseSound_no hr ht hm h30 hin h2 h3 fun wq k1 k2 => (HPa wq k1 k2).mono fun e w' ⟨xa, xc, k3, _, k4⟩ => ⟨xa, xc, k3, k4⟩
    · exact parseSound_yes hr ht hm h30 hin h3 h4 h5 HPa

end Go.Proofs.Ytobegekmgoiopaa

/- A grammar that came in as data lies in memory as RulesAt says; what the bound on the bulk gives. -/
namespace Go.Proofs.Ytobegekmgoiopaa
open Go.ChangeShapes Go.WideShapes Go.ChangeAt Go.RowKit Go.Deep

theorem Try.cells28 : Try.prog.cellsOf 28 = 2 := by kernel_rfl
theorem Try.cells102 : Try.prog.cellsOf 102 = 2 := by kernel_rfl
theorem Try.cells3 : Try.prog.cellsOf 3 = 1 := by kernel_rfl
theorem Try.cells4 : Try.prog.cellsOf 4 = 1 := by kernel_rfl
theorem Try.cells26 : Try.prog.cellsOf 26 = 1 := by kernel_rfl

theorem bulk_one {H : Type} (d : DataW H) : 1 ≤ Rows.uptoBulk d := by
  cases d with
  | lit l => cases l <;> simp [Rows.uptoBulk]
  | nil => simp [Rows.uptoBulk]
  | ptr d => simp [Rows.uptoBulk]
  | slice elems spare => simp [Rows.uptoBulk]
  | agg parts => simp [Rows.uptoBulk]
  | iface t d => simp [Rows.uptoBulk]
  | map entries => simp [Rows.uptoBulk]
  | held h => simp [Rows.uptoBulk]

theorem bulk_part {H : Type} {d : DataW H} {l : List (DataW H)} (h : d ∈ l) : Rows.uptoBulk d ≤ Rows.uptoBulkAll l := by
  induction l with
  | nil => cases h
  | cons x r ih =>
    simp only [Rows.uptoBulkAll]
    cases List.mem_cons.1 h with
    | inl e => subst e; omega
    | inr e => have := ih e; omega

theorem bulk_length {H : Type} (l : List (DataW H)) : l.length ≤ Rows.uptoBulkAll l := by
  induction l with
  | nil => simp
  | cons x r ih => have := bulk_one x; simp only [Rows.uptoBulkAll, List.length_cons]; omega

section
variable {H : Type} {enc : TypeId × Value → H} {W : World} {n : Nat} {v : Value} {x : DataW H × List MemPlace}

theorem plain_of_cell {a : Addr} {u : Value} (h : W.cell? (a.add 0) = some u) : ∃ b o, a = ⟨b, o, none⟩ := by
  obtain ⟨b, o, spot⟩ := a
  have : spot = none := by simpa [Addr.add] using World.cell?_spot h
  subst this
  exact ⟨b, o, rfl⟩

/-- The symbols of a rule. -/
theorem syms_read (h : DataW.trod enc Try.prog W 0 (fun _ => true) true n 26 [v] = some x) :
    ∃ (Rt : List Sy) (qa : Option Addr) (qc : Nat), v = .slice qa Rt.length qc ∧ Rt.length ≤ qc ∧ Rt.length ≤ Rows.uptoBulk x.1 ∧
      ∀ j, j < Rt.length → ∃ b' o', qa = some ⟨b', o', none⟩ ∧ b' < W.heap.size ∧
        W.cell? ⟨b', o' + j * 2, none⟩ = some (.bool (Rt.getD j (false, 0)).1) ∧ W.cell? ⟨b', o' + (j * 2 + 1), none⟩ = some (.int .i64 (Rt.getD j (false, 0)).2) := by
  rcases open_slice_pairs Try.underlying26 Try.underlying102 Try.cells102 rfl rfl Try.cells4 Try.cells3 h with ⟨hv, _⟩ | ⟨a, len, cap, m, n', V0, V1, D0, D1, P0, P1, hv, _, hl, _, hm, rfl, hx⟩
  · simp only [List.cons.injEq, and_true] at hv
    exact ⟨[], none, 0, hv, by simp, by simp, fun j hj => by simp at hj⟩
  · simp only [List.cons.injEq, and_true] at hv
    simp only [if_true] at hm
    have each : ∀ i, i < len → ∃ s : Sy, W.cell? (a.add (i * 2)) = some (.bool s.1) ∧ W.cell? (a.add (i * 2 + 1)) = some (.int .i64 s.2) := fun i hi => by
      obtain ⟨h1, h2, h3, h4⟩ := hx i (by omega)
      obtain ⟨t, ht, _⟩ := DataW.trod_bool Try.underlying4 h3
      obtain ⟨k, hk, _⟩ := DataW.trod_int Try.underlying3 h4
      simp only [List.cons.injEq, and_true] at ht hk
      exact ⟨(t, k), by rw [h1, ht], by rw [h2, hk]⟩
    obtain ⟨f, hf⟩ := choose_lt each
    have hlen : ((List.range len).map f).length = len := by simp
    have hget : ∀ j, j < len → ((List.range len).map f).getD j (false, 0) = f j := fun j hj => by simp [List.getD, hj]
    refine ⟨(List.range len).map f, some a, cap, by rw [hv, hlen], by rw [hlen]; exact hl, ?_, fun j hj => ?_⟩
    · have := bulk_length ((List.range len).map fun i => DataW.agg [D0 i, D1 i])
      simp only [Rows.uptoBulk, List.length_map, List.length_range] at this ⊢
      omega
    · rw [hlen] at hj
      rw [hget j hj]
      have h0 := (hf 0 (by omega)).1
      rw [Nat.zero_mul] at h0
      obtain ⟨b, o, rfl⟩ := plain_of_cell h0
      obtain ⟨h1, h2⟩ := hf j hj
      rw [add_plain] at h1 h2
      exact ⟨b, o, rfl, World.block_lt_of_cell? W _ h1, h1, h2⟩

/-- The rules of a grammar. -/
theorem rules_read (h : DataW.trod enc Try.prog W 0 (fun _ => true) true n 22 [v] = some x) :
    ∃ R : List Ru, RulesAt W W.heap.size v R ∧ ∀ q, (R.getD q (0, [])).2.length ≤ Rows.uptoBulk x.1 := by
  rcases open_slice_pairs Try.underlying22 Try.underlying28 Try.cells28 rfl rfl Try.cells3 Try.cells26 h with ⟨hv, _⟩ | ⟨a, len, cap, m, n', V0, V1, D0, D1, P0, P1, hv, _, hl, _, hm, rfl, hx⟩
  · simp only [List.cons.injEq, and_true] at hv
    exact ⟨[], ⟨⟨none, 0, hv⟩, fun q hq => by simp at hq⟩, fun q => by simp⟩
  · simp only [List.cons.injEq, and_true] at hv
    simp only [if_true] at hm
    have each : ∀ i, i < len → ∃ r : Ru, W.cell? (a.add (i * 2)) = some (.int .i64 r.1) ∧ ∃ qa qc, W.cell? (a.add (i * 2 + 1)) = some (.slice qa r.2.length qc) ∧ r.2.length ≤ qc ∧ r.2.length ≤ Rows.uptoBulk (D1 i) ∧
        ∀ j, j < r.2.length → ∃ b' o', qa = some ⟨b', o', none⟩ ∧ b' < W.heap.size ∧
          W.cell? ⟨b', o' + j * 2, none⟩ = some (.bool (r.2.getD j (false, 0)).1) ∧ W.cell? ⟨b', o' + (j * 2 + 1), none⟩ = some (.int .i64 (r.2.getD j (false, 0)).2) := fun i hi => by
      obtain ⟨h1, h2, h3, h4⟩ := hx i (by omega)
      obtain ⟨k, hk, _⟩ := DataW.trod_int Try.underlying3 h3
      simp only [List.cons.injEq, and_true] at hk
      obtain ⟨Rt, qa, qc, hq, hc, hb, hs⟩ := syms_read h4
      exact ⟨(k, Rt), by rw [h1, hk], qa, qc, by rw [h2, hq], hc, hb, hs⟩
    obtain ⟨f, hf⟩ := choose_lt each
    have hlen : ((List.range len).map f).length = len := by simp
    have hget : ∀ j, j < len → ((List.range len).map f).getD j (0, []) = f j := fun j hj => by simp [List.getD, hj]
    refine ⟨(List.range len).map f, ⟨⟨some a, cap, by rw [hv, hlen]⟩, fun q hq => ?_⟩, fun q => ?_⟩
    · rw [hlen] at hq
      rw [hget q hq]
      have h0 := (hf 0 (by omega)).1
      rw [Nat.zero_mul] at h0
      obtain ⟨b, o, rfl⟩ := plain_of_cell h0
      obtain ⟨h1, qa, qc, h2, hc, _, h3⟩ := hf q hq
      rw [add_plain] at h1 h2
      exact ⟨b, o, cap, qa, qc, by rw [hv, hlen], World.block_lt_of_cell? W _ h1, h1, h2, hc, h3⟩
    · by_cases hq : q < len
      · rw [hget q hq]
        obtain ⟨_, _, _, _, _, hb, _⟩ := hf q hq
        have h1 : DataW.agg [D0 q, D1 q] ∈ (List.range len).map fun i => DataW.agg [D0 i, D1 i] := List.mem_map.2 ⟨q, List.mem_range.2 hq, rfl⟩
        have h2 := bulk_part h1
        simp only [Rows.uptoBulk, Rows.uptoBulkAll] at h2 ⊢
        omega
      · simp [List.getD, List.getElem?_eq_none (show ((List.range len).map f).length ≤ q by omega)]

end

end Go.Proofs.Ytobegekmgoiopaa

/- A list that came in as data lies in memory as ListAt says. -/
namespace Go.Proofs.Ytobegekmgoiopaa
open Go.ChangeShapes Go.WideShapes Go.ChangeAt Go.RowKit Go.Deep

section
variable {H : Type} {enc : TypeId × Value → H} {W : World} {n : Nat} {v : Value} {x : DataW H × List MemPlace}

/-- The numbers of a list. -/
theorem list_read (h : DataW.trod enc Try.prog W 0 (fun _ => true) true n 25 [v] = some x) : ∃ D : List Int, ListAt W W.heap.size v D := by
  rcases open_slice1 Try.underlying25 Try.cells3 h with ⟨hv, _⟩ | ⟨a, len, cap, m, n', V, D, Pl, hv, _, hl, _, hm, rfl, hx⟩
  · simp only [List.cons.injEq, and_true] at hv
    exact ⟨[], ⟨none, 0, hv⟩, fun p hp => by simp at hp⟩
  · simp only [List.cons.injEq, and_true] at hv
    simp only [if_true] at hm
    have each : ∀ i, i < len → ∃ k : Int, W.cell? (a.add i) = some (.int .i64 k) := fun i hi => by
      obtain ⟨h1, h2⟩ := hx i (by omega)
      obtain ⟨k, hk, _⟩ := DataW.trod_int Try.underlying3 h2
      simp only [List.cons.injEq, and_true] at hk
      exact ⟨k, by rw [h1, hk]⟩
    obtain ⟨f, hf⟩ := choose_lt each
    have hlen : ((List.range len).map f).length = len := by simp
    refine ⟨(List.range len).map f, ⟨some a, cap, by rw [hv, hlen]⟩, fun p hp => ?_⟩
    rw [hlen] at hp
    obtain ⟨b, o, rfl⟩ := plain_of_cell (hf 0 (by omega))
    have h1 := hf p hp
    rw [add_plain] at h1
    exact ⟨b, o, cap, by rw [hv, hlen], World.block_lt_of_cell? W _ h1, by rw [h1]; simp [List.getD, hp]⟩
end

end Go.Proofs.Ytobegekmgoiopaa
