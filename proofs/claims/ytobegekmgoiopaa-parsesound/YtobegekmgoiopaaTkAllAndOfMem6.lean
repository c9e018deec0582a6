import Derived.Test.YtobegekmgoiopaaTkStatesAndTkFind
import Derived.Test.YtobegekmgoiopaaMathAndBits
import Derived.StillTailTactics
import Derived.Test.YtobegekmgoiopaaBuildMathAndMayFine
import Derived.Test.YtobegekmgoiopaaTkLookAndRowI
import Derived.Deep.RegionHeld3
import Derived.Test.YtobegekmgoiopaaTab6AndTkMath
/- The contract of package table's findStates. -/
namespace Go.Proofs.Ytobegekmgoiopaa
open Go.RowKit

/-- So many states are done. -/
structure F1 (w0 ws : World) (d : TkA) (vs : TkV) (st : LS) (R : List Ru) (k : Nat) (v' : TkV) (ng : Nat) (wr : World) : Prop where
  m : TkM w0 wr d v' (goM d.T (allN d.T d.N R k).1) ng st
  s : SDk R v'.OL (allN d.T d.N R k).2
  few : v'.OL.length ≤ 150
  le : k ≤ v'.OL.length
  ng : ng ≤ k * 20
  ov : v'.ov = vs.ov
  g : TkG d vs v' ws wr
/-- .. and of the next one so many symbols. -/
structure F2 (w0 ws : World) (d : TkA) (vs : TkV) (st : LS) (R : List Ru) (k x : Nat) (v' : TkV) (ng : Nat) (wr : World) : Prop where
  m : TkM w0 wr d v' (goM d.T ((allN d.T d.N R k).1 ++ [(rowN d.T R k x (allN d.T d.N R k).2).1])) ng st
  s : SDk R v'.OL (rowN d.T R k x (allN d.T d.N R k).2).2
  few : v'.OL.length ≤ 150
  lt : k < v'.OL.length
  b : k < (allN d.T d.N R k).2.length
  ng : ng ≤ k * 20 + x
  ov : v'.ov = vs.ov
  g : TkG d vs v' ws wr

section
variable {w0 ws wr w' : World} {d : TkA} {vs v v' : TkV} {st : LS} {R : List Ru} {k x ng ng' : Nat}

theorem F1.into (h : F1 w0 ws d vs st R k v ng wr) (hk : k < v.OL.length) : F2 w0 ws d vs st R k 0 v ng wr :=
  ⟨by show TkM w0 wr d v (goM d.T ((allN d.T d.N R k).1 ++ [[]])) ng st; rw [goM_row]; exact h.m, h.s, h.few, hk, by rw [← h.s.len]; exact hk, h.ng, h.ov, h.g⟩
theorem F2.out (h : F2 w0 ws d vs st R k (d.T + d.N) v ng wr) (hTN : d.T + d.N ≤ 20) : F1 w0 ws d vs st R (k + 1) v ng wr := by
  have e : allN d.T d.N R (k + 1) = allS d.T d.N R k (allN d.T d.N R k) := rfl
  exact ⟨by rw [e]; exact h.m, by rw [e]; exact h.s, h.few, h.lt, by have := h.ng; omega, h.ov, h.g⟩

/-- Nothing is read on. -/
theorem F2.none (h : F2 w0 ws d vs st R k x v ng wr) (he : kernL d.T R (v.OL.getD k []) x (v.OL.getD k []).length = []) (hb : Below wr.heap.size wr w') : F2 w0 ws d vs st R k (x + 1) v ng w' := by
  have hv := h.s.visitNone h.lt he
  have e : rowN d.T R k (x + 1) (allN d.T d.N R k).2 = rowS d.T R k x (rowN d.T R k x (allN d.T d.N R k).2) := rfl
  refine ⟨?_, ?_, h.few, h.lt, h.b, by have := h.ng; omega, h.ov, h.g.trans (TkG.ofBelow hb)⟩
  · rw [e, rowS]
    simp only
    rw [hv, goM_add, if_neg (by omega)]
    exact h.m.below hb
  · rw [e, rowS]
    simp only
    rw [hv]
    exact h.s

/-- A state is gone on to. -/
theorem F2.some (h : F2 w0 ws d vs st R k x v ng wr) (hne : kernL d.T R (v.OL.getD k []) x (v.OL.getD k []).length ≠ []) {C : List It} (hs : C.Pairwise ltI) (hC : ∀ i, i ∈ C ↔ Cl R (· ∈ kernL d.T R (v.OL.getD k []) x (v.OL.getD k []).length) i) {n : Nat} (ht : StTo v.OL C n v'.OL)
    (hm : TkM w0 w' d v' (setM (goM d.T ((allN d.T d.N R k).1 ++ [(rowN d.T R k x (allN d.T d.N R k).2).1])) (k, symN d.T x) (.int .i64 n)) (ng + 1) st) (hov : v'.ov = v.ov) (hg : TkG d v v' wr w') :
    (SDk R v'.OL (rowN d.T R k (x + 1) (allN d.T d.N R k).2).2) ∧ (v'.OL.length ≤ 150 → F2 w0 ws d vs st R k (x + 1) v' (ng + 1) w') := by
  obtain ⟨hv1, hv2⟩ := h.s.visit h.lt hne hs hC ht
  have e : rowN d.T R k (x + 1) (allN d.T d.N R k).2 = rowS d.T R k x (rowN d.T R k x (allN d.T d.N R k).2) := rfl
  have hS : SDk R v'.OL (rowN d.T R k (x + 1) (allN d.T d.N R k).2).2 := by rw [e, rowS]; exact hv2
  refine ⟨hS, fun hf => ⟨?_, hS, hf, ?_, h.b, by have := h.ng; omega, hov.trans h.ov, h.g.trans hg⟩⟩
  · have hl := row_len (T := d.T) (R := R) k x (allN d.T d.N R k).2
    have hl2 := all_len (T := d.T) (N := d.N) (R := R) k
    rw [e, rowS]
    simp only
    rw [hv1, goM_add, if_pos (Int.natCast_nonneg _), hl, hl2]
    exact hm
  · rcases ht with ⟨_, _, e2⟩ | ⟨_, _, e2⟩
    · rw [e2]; exact h.lt
    · rw [e2, List.length_append]; have := h.lt; omega

theorem F2.lens (h : F2 w0 ws d vs st R k x v ng wr) {Nu : List Bool} {Fi : List (List Bool)} (E : TkE w0 d R Nu Fi) : ∀ j, j < v.OL.length → (v.OL.getD j []).length ≤ 369 := fun j hj => by
  have := ok_len E.right8 (h.s.rep j hj).nod (h.s.ok j hj)
  have := E.hR
  omega
end

/-- What is told of the states. -/
def Found1 (w0 w : World) (d : TkA) (v : TkV) (st : LS) (R : List Ru) (e : Ending) (w' : World) : Prop :=
  (e = .returned (.bool false) ∧ More d.T d.N R 150 ∧ Below w0.heap.size w w') ∨
  (e = .returned (.bool true) ∧ ∃ K v' ng, F1 w0 w d v st R K v' ng w' ∧ v'.OL.length = K)

set_option maxRecDepth 100000 in
set_option maxHeartbeats 6400000 in
theorem tk_findStates {w0 w : World} {d : TkA} {v : TkV} {st : LS} {R : List Ru} {Nu : List Bool} {Fi : List (List Bool)} (E : TkE w0 d R Nu Fi) (h : TkM w0 w d v (goM d.T []) 0 st) (hOL : v.OL = []) :
    Calls Try.prog 31 #[.pointer (some ⟨d.ma, 0, none⟩)] w (Found1 w0 w d v st R) := by
  have hR := E.hR
  have abv := tk_above (h.auto E)
  have hM1 := h.alloc (.cells #[.int .i64 R.length, .int .i64 0] 121)
  have hI1 : ItemsAt (w.alloc (.cells #[.int .i64 R.length, .int .i64 0] 121)) (w.alloc (.cells #[.int .i64 R.length, .int .i64 0] 121)).heap.size (.slice (some ⟨w.heap.size, 0, none⟩) 1 1) [(R.length, 0)] := by
    refine ⟨⟨_, _, rfl⟩, fun k hk => ?_⟩
    obtain rfl : k = 0 := by simpa using hk
    exact ⟨w.heap.size, 0, 1, rfl, by simp, by simp [go_sem], by simp [go_sem]⟩
  have sof := tk_stateOf E hM1 hI1 ⟨by simp, by simp, by simp, fun x hx => by simp only [List.mem_singleton] at hx; rw [hx]; exact ⟨Nat.le_refl _, Nat.zero_le _⟩, fun x hx _ => by simp only [List.mem_singleton] at hx; rw [hx]⟩ (by rw [hOL]; simp) (fun k hk => by rw [hOL] at hk; exact absurd hk (Nat.not_lt_zero _))
  have HE : Hid (TkE w0 d R Nu Fi) := E
  have HM : Hid (TkM w0 w d v (goM d.T []) 0 st) := h
  have HOL : Hid (v.OL = []) := hOL
  have hT := E.hT
  have hN := E.hN.2
  have hN1 := E.hN.1
  clear E h hM1 hI1 hOL
  go_enter Try.func31, Try.ntmps31
  go_wp2_with
    (first
     | (go_at_call 50; refine abv.mono ?_; rintro e w1 ⟨rfl, rfl⟩)
     | (go_at_call 49; refine sof.mono ?_; rintro e w2 ⟨n, v2, C, rfl, hCs, hCm, hSt, hov, hM2, hG2⟩
        have hF : F1 w0 w1 d v st R 0 v2 0 w2 := by
          have hOL2 : v2.OL = [C] := by
            rw [HOL.out] at hSt
            rcases hSt with ⟨h1, _, _⟩ | ⟨_, _, h3⟩
            · exact absurd h1 (Nat.not_lt_zero _)
            · simpa using h3
          refine ⟨?_, ?_, by rw [hOL2]; simp, Nat.zero_le _, Nat.le_refl _, hov, (TkG.ofBelow ((Below.refl _ _).alloc (Nat.le_refl _) _)).trans hG2⟩
          · exact hM2
          · rw [hOL2]; exact sdk_start hCs hCm
        have sys := tk_symbols (hM2.auto HE.out) hT hN
        have HF : Hid (F1 w0 w1 d v st R 0 v2 0 w2) := hF
        clear hF hCs hCm hSt hov hM2 hG2 sof abv)
     | (go_at_call 51; refine sys.mono ?_; rintro e w3 ⟨yv, rfl, hrow, hB3⟩
        obtain ⟨ya, yc, hyv⟩ := own_form hrow
        subst hyv
        have HF3 : Hid (F1 w0 w1 d v st R 0 v2 0 w3) := ⟨HF.out.m.below hB3, HF.out.s, HF.out.few, HF.out.le, HF.out.ng, HF.out.ov, HF.out.g.trans (TkG.ofBelow hB3)⟩
        have HY : Hid (w3.ownsRow w2.heap.size 102 2 (.slice ya (d.T + d.N) yc) (d.T + d.N) ((symsL d.T (d.T + d.N)).flatMap tkY) ∧ ∀ g, (Value.slice ya (d.T + d.N) yc).ownBlock = some g → ¬ TkK d v2 g) := ⟨hrow, fun g hg hk => by
          have := (hrow.lt g hg).1
          have := (HF.out.m.kc hk).2
          omega⟩
        clear hrow hB3 sys HF))
  go_loopw [4] (fun s4 wr => ∃ (k : Nat) (v' : TkV) (ng : Nat), s4 = .int .i64 k ∧ F1 w0 w1 d v st R k v' ng wr ∧ TkG d v2 v' w3 wr) (fun s _ => 151 - (intOf s).toNat)
  case atStart => exact ⟨0, v2, 0, rfl, HF3.out, TkG.refl _ _ _⟩
  case round =>
    clear HF3
    obtain ⟨k, v', ng, rfl, hF, hG⟩ := hrel
    have HF : Hid (F1 w0 w1 d v st R k v' ng wr) := hF
    have HG : Hid (TkG d v2 v' w3 wr) := hG
    have c6 := (hF.m.cell (i := 6) rfl (by omega)).1
    obtain ⟨sa, sc, hsv⟩ := hF.m.states
    rw [hsv] at c6
    have hfew := hF.few
    have hle := hF.le
    clear hF hG hsv
    by_cases hlt : k < v'.OL.length
    · obtain ⟨p, hp⟩ : ∃ p, v'.OL.length = p := ⟨_, rfl⟩
      rw [hp] at c6 hfew hle hlt
      have HP : Hid (v'.OL.length = p) := hp
      clear hp
      go_wp2_with fail
      clear c6
      go_loopw [27] (fun s27 wq => ∃ (x : Nat) (v' : TkV) (ng : Nat), s27 = .int .i64 x ∧ x ≤ d.T + d.N ∧ F2 w0 w1 d v st R k x v' ng wq ∧ TkG d v2 v' w3 wq) (fun s _ => d.T + d.N - (intOf s).toNat)
      case atStart => exact ⟨0, v', ng, rfl, Nat.zero_le _, HF.out.into (by rw [HP.out]; exact hlt), HG.out⟩
      case round =>
        clear HF HG HP
        obtain ⟨x, v', ng, rfl, hx, hF, hG⟩ := hrel
        have HF : Hid (F2 w0 w1 d v st R k x v' ng wr) := hF
        have HG : Hid (TkG d v2 v' w3 wr) := hG
        by_cases hxlt : x < d.T + d.N
        · have hrow := row_goes HY.out.1 hG HY.out.2
          obtain ⟨yg, ycap, hyv, _, _⟩ := hrow.form (by omega)
          cases hyv
          have q : ∀ i, i < 2 → wr.cell? ⟨yg, x * 2 + i, none⟩ = (tkY (symN d.T x))[i]? := fun i hi => by
            rw [hrow.cellAt (x * 2 + i) (by omega), tkY_get (by rw [symsL_len]; exact hxlt) hi, symsL_get hxlt]
          have q0 := q 0 (by omega)
          have q1 := q 1 (by omega)
          have hlens := hF.lens HE.out
          have hkl := kernL_len (T := d.T) (R := R) (x := x) (O := v'.OL.getD k []) (j := (v'.OL.getD k []).length)
          have hk3 := hlens k hF.lt
          have bgn := tk_begin (x := x) HE.out (hF.m.alloc (.cells #[.bool (symN d.T x).1, .int .i64 (symN d.T x).2] 102)) hF.s hF.lt
          have hX := hF.m.box #[.bool (symN d.T x).1, .int .i64 (symN d.T x).2] 102
          have hM1 := hF.m.alloc (.cells #[.bool (symN d.T x).1, .int .i64 (symN d.T x).2] 102)
          have hbeg : kernL d.T R (v'.OL.getD k []) x (v'.OL.getD k []).length ≠ [] → Begin R (kernL d.T R (v'.OL.getD k []) x (v'.OL.getD k []).length) := fun hne =>
            ⟨kernL_nodup (hF.s.rep k hF.lt).nod, List.length_pos_iff.2 hne, by omega, fun i hi => (hF.s.kernOk hF.lt i hi).1, fun i hi h0 => absurd h0 (hF.s.kernOk hF.lt i hi).2⟩
          have hsy : 0 ≤ (symN d.T x).2 ∧ (symN d.T x).2 ≤ 20 := by unfold symN; split <;> simp <;> omega
          have hfew2 := hF.few
          have hkb : k < v'.OL.length := hF.lt
          have hng := hF.ng
          obtain ⟨y, hy⟩ : ∃ y, symN d.T x = y := ⟨_, rfl⟩
          have HSy : Hid (symN d.T x = y) := hy
          rw [hy] at q0 q1 bgn hX hM1 hsy
          obtain ⟨L, hL⟩ : ∃ L, kernL d.T R (v'.OL.getD k []) x (v'.OL.getD k []).length = L := ⟨_, rfl⟩
          have HL : Hid (kernL d.T R (v'.OL.getD k []) x (v'.OL.getD k []).length = L) := hL
          rw [hL] at hkl bgn hbeg
          have HBeg : Hid (L ≠ [] → Begin R L) := hbeg
          have HLens : Hid (∀ j, j < v'.OL.length → (v'.OL.getD j []).length ≤ 369) := hlens
          obtain ⟨yb, yn⟩ := y
          simp only [tkY, Nat.add_zero] at q0 q1 bgn hX hM1 hsy
          have q0' : wr.cell? ⟨yg, x * 2, none⟩ = some (.bool yb) := q0
          have q1' : wr.cell? ⟨yg, x * 2 + 1, none⟩ = some (.int .i64 yn) := q1
          obtain ⟨Gx, hGx⟩ : ∃ Gx, goM d.T ((allN d.T d.N R k).1 ++ [(rowN d.T R k x (allN d.T d.N R k).2).1]) = Gx := ⟨_, rfl⟩
          rw [hGx] at hM1
          have HGx : Hid (goM d.T ((allN d.T d.N R k).1 ++ [(rowN d.T R k x (allN d.T d.N R k).2).1]) = Gx) := hGx
          have HX1 : Hid (TkL (wr.alloc (.cells #[.bool yb, .int .i64 yn] 102)) d v' wr.heap.size #[.bool yb, .int .i64 yn] 102) := hX
          have HM1 : Hid (TkM w0 (wr.alloc (.cells #[.bool yb, .int .i64 yn] 102)) d v' Gx ng st) := hM1
          have i0 : (0 : Int) ≤ (x : Int) := Int.natCast_nonneg _
          have i1 : (x : Int) < ((d.T + d.N : Nat) : Int) := by omega
          have i2 : (x : Int) < (d.T : Int) + (d.N : Int) := by omega
          clear hF hG hrow q q0 q1 hy hL hlens hbeg hX hM1 hGx
          by_cases hnil : L = []
          · subst hnil
            go_wp2_with
              (go_at_call 52; refine bgn.mono ?_; rintro e w4 ⟨ov, rfl, hrow4, hB4⟩
               obtain ⟨oa, oc, hov⟩ := own_form hrow4
               simp only [List.length_nil] at hov
               subst hov
               have HB4 : Hid (Below wr.heap.size wr w4) := ((Below.refl _ _).alloc (Nat.le_refl _) _).trans (hB4.mono (by simp))
               clear hrow4 hB4)
            go_roundw
            case rel => exact ⟨x + 1, v', ng, by go_num, by omega, HF.out.none HL.out HB4.out, HG.out.trans (TkG.ofBelow HB4.out)⟩
            case measure => simp [intOf]; omega
          · have hpos : 0 < L.length := List.length_pos_iff.2 hnil
            have e1 : ((L.length : Int) == 0) = false := by simp; omega
            have HNil : Hid (L ≠ []) := hnil
            clear hnil
            go_wp2_with
              (go_at_call 52; refine bgn.mono ?_; rintro e w4 ⟨ov, rfl, hrow4, hB4⟩
               obtain ⟨oa, oc, hov⟩ := own_form hrow4
               subst hov
               have hM4 := HM1.out.below hB4
               have HM4 : Hid (TkM w0 w4 d v' Gx ng st) := hM4
               have HX4 : Hid (TkL w4 d v' wr.heap.size #[.bool yb, .int .i64 yn] 102) := HX1.out.below hB4
               have HB4 : Hid (Below wr.heap.size wr w4) := ((Below.refl _ _).alloc (Nat.le_refl _) _).trans (hB4.mono (by simp))
               have sof := tk_stateOf HE.out hM4.drew (show ItemsAt w4.drew w4.drew.heap.size _ _ from tk_items hrow4 rfl) (HBeg.out HNil.out) hfew2 (fun j hj => by have := HLens.out j hj; omega)
               clear hrow4 hB4 hM4 bgn)
            have keep : ∀ {wx : World} {u : TkV} {Gu : Wy → Option Value} {nu : Nat}, TkM w0 wx d u Gu nu st → TkL wx d u wr.heap.size #[.bool yb, .int .i64 yn] 102 →
                wx.cell? ⟨d.ma, 7, none⟩ = some (.map (some d.mg)) ∧ wx.cell? ⟨wr.heap.size, 0, none⟩ = some (.bool yb) ∧ wx.cell? ⟨wr.heap.size, 1, none⟩ = some (.int .i64 yn) := fun {wx u Gu nu} hM hX =>
              ⟨(hM.cell (i := 7) rfl (by omega)).1, hX.cell rfl, hX.cell rfl⟩
            have hS4 := keep HM4.out.drew HX4.out.drew
            have HKeep : Hid (∀ {wx : World} {u : TkV} {Gu : Wy → Option Value} {nu : Nat}, TkM w0 wx d u Gu nu st → TkL wx d u wr.heap.size #[.bool yb, .int .i64 yn] 102 →
                wx.cell? ⟨d.ma, 7, none⟩ = some (.map (some d.mg)) ∧ wx.cell? ⟨wr.heap.size, 0, none⟩ = some (.bool yb) ∧ wx.cell? ⟨wr.heap.size, 1, none⟩ = some (.int .i64 yn)) := keep
            clear keep
            obtain ⟨s0, s1, s2⟩ := hS4
            go_cut [] from 28 (fun wx => ∃ (n : Nat) (v5 : TkV) (C : List It), C.Pairwise ltI ∧ (∀ i, i ∈ C ↔ Cl R (· ∈ L) i) ∧ StTo v'.OL C n v5.OL ∧ v5.ov = v'.ov ∧ TkM w0 wx d v5 (setM Gx (k, (yb, yn)) (.int .i64 n)) (ng + 1) st ∧ TkG d v' v5 wr wx)
            case first =>
              go_region_held3 (fun wx => wx.cell? ⟨d.ma, 7, none⟩ = some (.map (some d.mg)) ∧ wx.cell? ⟨wr.heap.size, 0, none⟩ = some (.bool yb) ∧ wx.cell? ⟨wr.heap.size, 1, none⟩ = some (.int .i64 yn)) (first | assumption | exact ⟨s0, s1, s2⟩ | go_keep)
                (first
                 | (go_at_call 49; refine sof.mono ?_; rintro e w5 ⟨n, v5, C, rfl, hCs, hCm, hSt, hov, hM5, hG5⟩
                    have hX5 := HX4.out.drew.goes hG5
                    have hS5 := HKeep.out hM5 hX5
                    obtain ⟨w6, u6, hM6, hG6, -⟩ := hM5.putG (p := (k, (yb, yn))) (by simp only; omega) hsy.1 (by simp only; omega) (.int .i64 n)
                    unfold wyV at u6
                    simp only at u6
                    have hS6 := HKeep.out hM6 (hX5.goes hG6)
                    have H6 : Hid (C.Pairwise ltI ∧ (∀ i, i ∈ C ↔ Cl R (· ∈ L) i) ∧ StTo v'.OL C n v5.OL ∧ v5.ov = v'.ov ∧ TkM w0 w6 d v5 (setM Gx (k, (yb, yn)) (.int .i64 n)) (ng + 1) st ∧ TkG d v' v5 wr w6) := ⟨hCs, hCm, hSt, hov, hM6, ((TkG.ofBelow HB4.out).drew.trans hG5).trans hG6⟩
                    clear hCs hCm hSt hov hM5 hG5 hX5 hM6 hG6))
              all_goals
                go_wp2_with fail
                go_meet
                case rel => exact ⟨n, v5, C, H6.out⟩
            case rest =>
              obtain ⟨n, v5, C, hCs, hCm, hSt, hov, hM5, hG5⟩ := hcut
              have c6 := (hM5.cell (i := 6) rfl (by omega)).1
              obtain ⟨sa5, sc5, hsv5⟩ := hM5.states
              rw [hsv5] at c6
              obtain ⟨r1, r2⟩ := HF.out.some (by rw [HL.out]; exact HNil.out) hCs (by rw [HL.out]; exact hCm) hSt (by rw [HGx.out, HSy.out]; exact hM5) hov hG5
              have hlen5 := r1.len
              have hp5 : v5.OL.length ≤ 151 := by
                rcases hSt with ⟨_, _, e2⟩ | ⟨_, _, e2⟩
                · rw [e2]; omega
                · rw [e2, List.length_append, List.length_cons, List.length_nil]; omega
              have HR2 : Hid (v5.OL.length ≤ 150 → F2 w0 w1 d v st R k (x + 1) v5 (ng + 1) wc) := r2
              have HMore : Hid (150 < v5.OL.length → More d.T d.N R 150) := fun hgt => ⟨k, x + 1, HF.out.b, by omega, by rw [← hlen5]; exact hgt⟩
              have HG5 : Hid (TkG d v' v5 wr wc) := hG5
              have HBl : Hid (Below w0.heap.size w1 wc) := (HM.out.goes_below HF.out.g).trans (HF.out.m.goes_below hG5)
              obtain ⟨p5, hp⟩ : ∃ p5, v5.OL.length = p5 := ⟨_, rfl⟩
              rw [hp] at c6 hp5 HR2 HMore
              clear hCs hCm hSt hov hM5 hG5 hsv5 r1 r2 hlen5 s0 s1 s2 sof hp
              by_cases hgt : p5 ≤ 150
              · have d1 : decide (150 < p5) = false := decide_eq_false (by omega)
                go_wp2_with fail
                go_roundw
                case rel => exact ⟨x + 1, v5, ng + 1, by go_num, by omega, HR2.out hgt, HG.out.trans HG5.out⟩
                case measure => simp [intOf]; omega
              · have d1 : decide (150 < p5) = true := decide_eq_true (by omega)
                go_wp2_with fail
                go_ret
                exact .inl ⟨rfl, HMore.out (by omega), HBl.out⟩
        · obtain rfl : x = d.T + d.N := by omega
          clear hF hG
          go_wp2_with fail
          go_roundw
          case rel => exact ⟨k + 1, v', ng, by go_num, HF.out.out (by omega), HG.out⟩
          case measure => simp [intOf]; omega
    · have HE2 : Hid (v'.OL.length = k) := by show v'.OL.length = k; omega
      go_wp2_with fail
      go_ret
      exact .inr ⟨rfl, k, v', ng, HF.out, HE2.out⟩

end Go.Proofs.Ytobegekmgoiopaa

/- The contract of pollardingref6's closed. -/
namespace Go.Proofs.Ytobegekmgoiopaa
open Go.RowKit

end Go.Proofs.Ytobegekmgoiopaa

/- How the states, and where each goes on, lie in memory while they are made (pollardingref6.build). No walk. -/
namespace Go.Proofs.Ytobegekmgoiopaa
open Go.RowKit

section
variable {w : World} {base : Nat} {sv nv : Value} {vi vr : Nat → Value} {OL : List (List It)} {NL : List (List Int)} {c l : Option Row}

end

/-! ### The automaton's own cells -/

/-- Cells 6 and 7 alone of the automaton's block have turned; below it nothing has. -/
structure BC (w : World) (ab lim T N : Nat) (rv : Value) (R : List Ru) (sv nv : Value) (wr : World) : Prop where
  below : Below ab w wr
  auto : AutoG wr lim ab T N rv R
  keep : ∀ o, o ≠ 6 → o ≠ 7 → wr.cell? ⟨ab, o, none⟩ = w.cell? ⟨ab, o, none⟩
  fro : ∀ o, wr.frozen? ⟨ab, o, none⟩ = false
  c6 : wr.cell? ⟨ab, 6, none⟩ = some sv
  c7 : wr.cell? ⟨ab, 7, none⟩ = some nv

section
variable {w wr : World} {ab lim T N : Nat} {rv sv nv : Value} {R : List Ru}

theorem BC.grow (h : BC w ab lim T N rv R sv nv wr) (hl : lim ≤ ab) {w' : World} {row : Option Nat} (hg : wr.grownBy w' row) (hr : ∀ b, row = some b → ab < b) : BC w ab lim T N rv R sv nv w' := by
  have hlt := h.auto.lt
  have hb : w'.heap[ab]? = wr.heap[ab]? := hg.block ab hlt (fun e => by have := hr ab e.symm; omega)
  have hc : ∀ o, w'.cell? ⟨ab, o, none⟩ = wr.cell? ⟨ab, o, none⟩ := fun o => World.cell?_of_block hb
  have hB : Below (ab + 1) wr w' := ⟨hg.os, hg.tape, hg.output, hg.size, fun k hk => hg.block k (by omega) (fun e => by have := hr k e.symm; omega)⟩
  exact ⟨h.below.trans (hB.mono (by omega)), h.auto.below hB (by omega) (by omega), fun o h6 h7 => (hc o).trans (h.keep o h6 h7), fun o => (World.frozen?_of_block hb).trans (h.fro o), (hc 6).trans h.c6, (hc 7).trans h.c7⟩

theorem BC.later (h : BC w ab lim T N rv R sv nv wr) (hl : lim ≤ ab) {w' : World} (hb : Below wr.heap.size wr w') : BC w ab lim T N rv R sv nv w' :=
  h.grow hl (row := none) ⟨hb.os, hb.tape, hb.output, hb.size, fun k hk _ => hb.block k hk⟩ (fun _ e => nomatch e)

theorem BC.drewN (h : BC w ab lim T N rv R sv nv wr) (m : Nat) : BC w ab lim T N rv R sv nv (wr.drewN m) :=
  ⟨below_drewN h.below m, ⟨h.auto.t, h.auto.n, h.auto.r, h.auto.rules, h.auto.le, h.auto.lt⟩, h.keep, h.fro, h.c6, h.c7⟩

theorem BC.set (h : BC w ab lim T N rv R sv nv wr) (hl : lim ≤ ab) {p : Addr} (hp : ab < p.block) (u : Value) : BC w ab lim T N rv R sv nv (wr.setCell p u) := by
  have hlt := h.auto.lt
  have hB : Below (ab + 1) wr (wr.setCell p u) := (Below.refl _ _).setCell (by omega) u
  have hc : ∀ o, (wr.setCell p u).cell? ⟨ab, o, none⟩ = wr.cell? ⟨ab, o, none⟩ := fun o => hB.cell (p := ⟨ab, o, none⟩) (Nat.lt_succ_self _)
  exact ⟨h.below.trans (hB.mono (by omega)), h.auto.below hB (by omega) (by omega), fun o h6 h7 => (hc o).trans (h.keep o h6 h7), fun o => (hB.frozen (p := ⟨ab, o, none⟩) (Nat.lt_succ_self _)).trans (h.fro o), (hc 6).trans h.c6, (hc 7).trans h.c7⟩

end

end Go.Proofs.Ytobegekmgoiopaa

/- A region that draws its order: what its first operations read is the same in every world that meets S, whenever they come up; the others follow one another, and keep S, but the last of all. One walk, in the order of the text. No program. -/
namespace Go.Proofs.Ytobegekmgoiopaa

section
variable {P : Program} {ops : Array Oper} {Q : Exit → Act → World → Prop} {md : Region.Mode} {S : World → Prop}

/-- Whatever order is picked from here on, S holds behind each operation ahead of number n. -/
def wpAnyG (P : Program) (md : Region.Mode) (ops : Array Oper) (Q : Exit → Act → World → Prop) (S : World → Prop) (n : Nat) : Nat → Array Bool → Act → World → Prop
  | 0, listed, a, w => Region.ready md ops listed = [] ∧ Q .normal a w
  | fuel + 1, listed, a, w =>
    (Region.ready md ops listed = [] → Q .normal a w) ∧
    ∀ i ∈ Region.ready md ops listed, wpOp P ops Q i (fun a' w' => (i < n → S w') ∧ wpAnyG P md ops Q S n fuel (listed.setIfInBounds i true) a' w') a w

theorem wpAny_of_G {n : Nat} : ∀ (fuel : Nat) (listed : Array Bool) (a : Act) (w : World), wpAnyG P md ops Q S n fuel listed a w → wpAny P md ops Q fuel listed a w
  | 0, _, _, _, h => h
  | fuel + 1, _, _, _, h => ⟨h.1, fun i hi => wpOp_mono (fun a' w' h' => wpAny_of_G fuel _ a' w' h'.2) (h.2 i hi)⟩

theorem wpAnyG_first {n i : Nat} {oi : Oper} {v : Value} (hi : ops[i]? = some oi) (hsel : ∀ (j : Nat) (o : Oper) cs b, ops[j]? = some o → o.op ≠ .select cs b)
    (hQ : ∀ c a w, Q (.panic c) (a.put oi.dst v) w → Q (.panic c) a w) (hs : Region.sinkB md ops n = true) (hc : Region.chainB md ops n = true) (hn : n < ops.size) (hin : i < n) :
    ∀ (fuel : Nat) (listed : Array Bool) (a : Act) (w : World), HeadInv md ops n listed →
      (∀ j oj, ops[j]? = some oj → j ≠ i → listed.getD j true = false → (∀ e ∈ oj.after, Region.binds md e = true → e.on ≠ i) → oi.apart ops oj = true) →
      i ∈ Region.ready md ops listed → YieldsIf P ops S oi v a → S w →
      wpAnyG P md ops Q S n fuel (listed.setIfInBounds i true) (a.put oi.dst v) w → wpAnyG P md ops Q S n (fuel + 1) listed a w := by
  intro fuel
  induction fuel with
  | zero =>
    intro listed a w _ _ hr hy hS H
    refine ⟨fun h => (by rw [h] at hr; cases hr), fun j hj => ?_⟩
    by_cases hji : j = i
    · subst hji; exact hy.wpOp hi hS ⟨fun _ => hS, H⟩
    · have := ready_mono hj hji
      rw [H.1] at this
      cases this
  | succ fuel ih =>
    intro listed a w inv hfree hr hy hS H
    have hun := (mem_ready.1 hr).1
    refine ⟨fun h => (by rw [h] at hr; cases hr), fun j hj => ?_⟩
    by_cases hji : j = i
    · subst hji; exact hy.wpOp hi hS ⟨fun _ => hS, H⟩
    · have hjn : j < n := by
        rcases Nat.lt_or_ge j n with h | h
        · exact h
        · exact absurd hj (tail_waits hs hc hn inv _ i rfl hin hun j h)
      have h1 := H.2 j (ready_mono hj hji)
      obtain ⟨hjun, oj, hoj, hall⟩ := mem_ready.1 hj
      have hnot : ∀ e ∈ oj.after, Region.binds md e = true → e.on ≠ i := fun e he hb heq => by
        have h1 := hall e he hb
        rw [heq, getD_both hun] at h1
        cases h1
      have h2 := wpOp_putIf hoj (hfree j oj hoj hji hjun hnot) (fun cs b => hsel i oi cs b hi) (fun cs b => hsel j oj cs b hoj) hQ hy h1
      have hfree' : ∀ k ok, ops[k]? = some ok → k ≠ i → (listed.setIfInBounds j true).getD k true = false →
          (∀ e ∈ ok.after, Region.binds md e = true → e.on ≠ i) → oi.apart ops ok = true := fun k ok hk hki hun hno => by
        refine hfree k ok hk hki ?_ hno
        by_cases hjk : j = k
        · subst hjk; exact hjun
        · rw [getD_set_ne true hjk] at hun; exact hun
      refine wpOp_mono (fun a' w' h3 => ⟨h3.2.1, ih (listed.setIfInBounds j true) a' w' (inv.set hj hjn) hfree' (ready_mono hr (Ne.symm hji)) h3.1 (h3.2.1 hjn) ?_⟩) h2
      rw [Array.setIfInBounds_comm _ _ hji]
      exact h3.2.2

/-- The first operations, one after another: each yields its value in every world that meets S. -/
def StillS (P : Program) (ops : Array Oper) (S : World → Prop) (K : Act → Prop) : List Oper → Act → Prop
  | [], a => K a
  | o :: l, a => ∃ v, YieldsIf P ops S o v a ∧ StillS P ops S K l (a.put o.dst v)

theorem StillS.cons {K : Act → Prop} {o : Oper} {l : List Oper} {a : Act} {v : Value} (hw : Region.wanted o (yielded ops a.tmps) = true) (hy : ∀ w, S w → (execOp a.eval o).run P w = .ok (.value v) w) (h : StillS P ops S K l (a.put o.dst v)) : StillS P ops S K (o :: l) a :=
  ⟨v, .inl ⟨hw, hy⟩, h⟩

end

end Go.Proofs.Ytobegekmgoiopaa

/- The contract of pollardingref6.spread. -/
namespace Go.Proofs.Ytobegekmgoiopaa
open Go.RowKit

theorem SymsAt.kept {K : Nat → Prop} {w w' : World} {b o c : Nat} {l : List Sy} (h : SymsAt w (.slice (some ⟨b, o, none⟩) l.length c) l) (hk : Kept K w w') (hb : ¬ K b) : SymsAt w' (.slice (some ⟨b, o, none⟩) l.length c) l :=
  ⟨h.1, fun j hj => by
    obtain ⟨b', o', c', e, h1, h2⟩ := h.2 j hj
    cases e
    exact ⟨b, o, c, rfl, hk.cell (p := ⟨b, o + j * 2, none⟩) hb h1, hk.cell (p := ⟨b, o + j * 2 + 1, none⟩) hb h2⟩⟩

end Go.Proofs.Ytobegekmgoiopaa

/- How lookaheads lie in memory (pollardingref6.looks). No walk. -/
namespace Go.Proofs.Ytobegekmgoiopaa
open Go.RowKit

/-- The great row, a state's row, an item's row, the row that is being made. -/
inductive Lx
  | sp | ro (k : Nat) | bt (k j : Nat) | cur
  deriving DecidableEq

/-- Of m states all is there; of the state m so many rows. -/
def PL (T : Nat) (OL : List (List It)) (lv : Value) (vl : Nat → Value) (vb : Nat → Nat → Value) (m jc : Nat) (cv : Option Value) : Lx → Option Row
  | .sp => some ⟨lv, 84, 1, m, (List.range m).map vl⟩
  | .ro k => if k < m then some ⟨vl k, 83, 1, (OL.getD k []).length, (List.range (OL.getD k []).length).map (vb k)⟩ else none
  | .bt k j => if (k < m ∧ j < (OL.getD k []).length) ∨ (k = m ∧ j < jc) then some ⟨vb k j, 4, 1, T + 1, (List.replicate (T + 1) false).map Value.bool⟩ else none
  | .cur => cv.map fun v => ⟨v, 83, 1, jc, (List.range jc).map (vb m)⟩

/-- Cell 8 of the automaton's block alone has turned, of what was there. -/
structure IC (w : World) (ab : Nat) (lv : Value) (wr : World) : Prop where
  kept : Kept (fun b => b = ab) w wr
  keep : ∀ o, o ≠ 8 → wr.cell? ⟨ab, o, none⟩ = w.cell? ⟨ab, o, none⟩
  fro : ∀ o, wr.frozen? ⟨ab, o, none⟩ = false
  c8 : wr.cell? ⟨ab, 8, none⟩ = some lv

section
variable {w wr : World} {ab lim T N : Nat} {rv sv nv lv : Value} {R : List Ru} {vi vr : Nat → Value} {OL : List (List It)} {NL : List (List Int)}

theorem IC.grow (h : IC w ab lv wr) (hab : ab < w.heap.size) {w' : World} {row : Option Nat} (hg : wr.grownBy w' row) (hr : ∀ b, row = some b → w.heap.size ≤ b) : IC w ab lv w' := by
  have hs := h.kept.size
  have hb : w'.heap[ab]? = wr.heap[ab]? := hg.block ab (by omega) (fun e => by have := hr ab e.symm; omega)
  have hc : ∀ o, w'.cell? ⟨ab, o, none⟩ = wr.cell? ⟨ab, o, none⟩ := fun o => World.cell?_of_block hb
  exact ⟨⟨hg.os.trans h.kept.os, hg.tape.trans h.kept.tape, hg.output.trans h.kept.output, Nat.le_trans hs hg.size, fun k hk hK => (hg.block k (by omega) (fun e => by have := hr k e.symm; omega)).trans (h.kept.block k hk hK)⟩,
    fun o ho => (hc o).trans (h.keep o ho), fun o => (World.frozen?_of_block hb).trans (h.fro o), (hc 8).trans h.c8⟩
theorem IC.later (h : IC w ab lv wr) (hab : ab < w.heap.size) {w' : World} (hb : Below wr.heap.size wr w') : IC w ab lv w' :=
  h.grow hab (row := none) ⟨hb.os, hb.tape, hb.output, hb.size, fun k hk _ => hb.block k hk⟩ (fun _ e => nomatch e)
theorem IC.auto (h : IC w ab lv wr) (hA : AutoG w lim ab T N rv R) (hl : lim ≤ ab) : AutoG wr lim ab T N rv R := by
  have hs := h.kept.size
  have hlt := hA.lt
  have hB : Below lim w wr := ⟨h.kept.os, h.kept.tape, h.kept.output, hs, fun k hk => h.kept.block k (by omega) (by omega)⟩
  exact ⟨(h.keep 0 (by omega)).trans hA.t, (h.keep 1 (by omega)).trans hA.n, (h.keep 2 (by omega)).trans hA.r, hA.rules.below hB, Nat.le_trans hA.le hs, by omega⟩

theorem IC.owns {ι : Type} {P : ι → Option Row} (h : IC w ab lv wr) (ho : Owns w (ab + 1) P) : Owns wr (ab + 1) P := by
  refine ⟨fun i r hi => ?_, ho.apart⟩
  have hr := ho.own i r hi
  refine ⟨hr.1, ?_⟩
  rcases hr.2 with h2 | ⟨g, cap, cur, hv, hg, hh, rest⟩
  · exact .inl h2
  · have hgl := (ho.lt hi (by rw [hv]; rfl : r.v.ownBlock = some g)).2
    exact .inr ⟨g, cap, cur, hv, hg, (h.kept.block g hgl (by omega)).trans hh, rest⟩
end

section
variable {w : World} {base T m jc : Nat} {OL : List (List It)} {lv : Value} {vl : Nat → Value} {vb : Nat → Nat → Value}

end

/-! ### All that can be read, once it is made -/

section
variable {w w' : World} {base ab lim T N : Nat} {OL : List (List It)} {NL : List (List Int)} {rv sv nv lv nuv fiv : Value} {vi vr vl : Nat → Value} {vb : Nat → Nat → Value} {R : List Ru} {Nu : List Bool} {Fi : List (List Bool)}

end

end Go.Proofs.Ytobegekmgoiopaa

/- The contract of pollardingref6.cell. -/
namespace Go.Proofs.Ytobegekmgoiopaa
open Go.RowKit

/-- While a cell is made, in the block w.heap.size + 1; what is answered lies in the block w.heap.size. -/
structure CS (w : World) (sh : Int) (L : List Int) (en : Bool) (rv : Value) (wr : World) : Prop where
  below : Below w.heap.size w wr
  size : w.heap.size + 2 ≤ wr.heap.size
  b0 : wr.cell? ⟨w.heap.size + 1, 0, none⟩ = some (.int .i64 sh)
  b1 : wr.cell? ⟨w.heap.size + 1, 1, none⟩ = some rv
  b2 : wr.cell? ⟨w.heap.size + 1, 2, none⟩ = some (.bool en)
  fr : ∀ o, wr.frozen? ⟨w.heap.size + 1, o, none⟩ = false
  a0 : ∃ v, wr.cell? ⟨w.heap.size, 0, none⟩ = some v
  a1 : ∃ v, wr.cell? ⟨w.heap.size, 1, none⟩ = some v
  a2 : ∃ v, wr.cell? ⟨w.heap.size, 2, none⟩ = some v
  af : ∀ o, wr.frozen? ⟨w.heap.size, o, none⟩ = false
  own : wr.ownsRow (w.heap.size + 2) 3 1 rv L.length (L.map (Value.int .i64))

section
variable {w wr : World} {sh : Int} {L : List Int} {en : Bool} {rv : Value}
theorem CS.grow (h : CS w sh L en rv wr) {w' : World} {row : Option Nat} (hg : wr.grownBy w' row) (hr : ∀ b, row = some b → w.heap.size + 2 ≤ b) {L' : List Int} {rv' : Value} (ho : w'.ownsRow (w.heap.size + 2) 3 1 rv' L'.length (L'.map (Value.int .i64))) (hb1 : w'.cell? ⟨w.heap.size + 1, 1, none⟩ = some rv') : CS w sh L' en rv' w' := by
  have hs := h.size
  have hb : ∀ k, k < w.heap.size + 2 → w'.heap[k]? = wr.heap[k]? := fun k hk => hg.block k (by omega) (fun e => by have := hr k e.symm; omega)
  have hc : ∀ k o, k < w.heap.size + 2 → w'.cell? ⟨k, o, none⟩ = wr.cell? ⟨k, o, none⟩ := fun k o hk => World.cell?_of_block (hb k hk)
  have hf : ∀ k o, k < w.heap.size + 2 → w'.frozen? ⟨k, o, none⟩ = wr.frozen? ⟨k, o, none⟩ := fun k o hk => World.frozen?_of_block (hb k hk)
  exact ⟨h.below.trans ⟨hg.os, hg.tape, hg.output, hg.size, fun k hk => hb k (by omega)⟩, Nat.le_trans hs hg.size, (hc _ 0 (by omega)).trans h.b0, hb1, (hc _ 2 (by omega)).trans h.b2, fun o => (hf _ o (by omega)).trans (h.fr o),
    by rw [hc _ 0 (by omega)]; exact h.a0, by rw [hc _ 1 (by omega)]; exact h.a1, by rw [hc _ 2 (by omega)]; exact h.a2, fun o => (hf _ o (by omega)).trans (h.af o), ho⟩
theorem CS.later (h : CS w sh L en rv wr) {w' : World} (hb : Below wr.heap.size wr w') : CS w sh L en rv w' :=
  h.grow (row := none) ⟨hb.os, hb.tape, hb.output, hb.size, fun k hk _ => hb.block k hk⟩ (fun _ e => nomatch e) (own_below h.own hb (fun g hg => (h.own.lt g hg).2)) ((hb.cell (p := ⟨w.heap.size + 1, 1, none⟩) (by have := h.size; simp; omega)).trans h.b1)
end

end Go.Proofs.Ytobegekmgoiopaa

/- How a table lies in memory while it is made (pollardingref6.Of). No walk. -/
namespace Go.Proofs.Ytobegekmgoiopaa
open Go.RowKit

theorem own_list {w : World} {base n : Nat} {v : Value} {X : List Int} (h : w.ownsRow base 3 1 v n (X.map (Value.int .i64))) : ListAt w w.heap.size v X := by
  have hl : X.length = n := by simpa using h.1
  obtain ⟨a, c, hv⟩ := own_form h
  refine ⟨⟨a, c, by rw [hv, hl]⟩, fun i hi => ?_⟩
  obtain ⟨g, cap, rfl, _, _⟩ := h.form (by omega)
  refine ⟨g, 0, cap, by rw [hl], (h.lt g rfl).2, ?_⟩
  rw [Nat.zero_add, h.cellAt i (by omega)]
  simp [List.getD, hi]

section
variable {w : World} {base : Nat} {cv gv : Value} {vc vg : Nat → Value} {vr : Nat → Nat → Value} {C : List (List Ce)} {G : List (List Int)}

end

end Go.Proofs.Ytobegekmgoiopaa
