import Derived.Test.YtkkcmcckdaobmaaTkStatesAndTkFind
import Derived.Test.YtkkcmcckdaobmaaAuto6AndBits
import Derived.StillTailTactics
/- The contract of package table's findStates. -/
namespace Go.Proofs.Ytkkcmcckdaobmaa
open Go.RowKit

/-- So many states are done. -/
structure F1 (w0 ws : World) (d : TkA) (vs : TkV) (st : LS) (R : List Ru) (k : Nat) (v' : TkV) (ng : Nat) (wr : World) : Prop where
  m : TkM w0 wr d v' (goM d.T (allN d.T d.N R k).1) ng st
  s : SDk R v'.OL (allN d.T d.N R k).2
  few : v'.OL.length ≤ 150
  le : k ≤ v'.OL.length
  ng : ng ≤ k * 20
  ov : v'.ov = vs.ov
  g : TkG d vs v' ws wr
/-- .. and of the next one so many symbols. -/
structure F2 (w0 ws : World) (d : TkA) (vs : TkV) (st : LS) (R : List Ru) (k x : Nat) (v' : TkV) (ng : Nat) (wr : World) : Prop where
  m : TkM w0 wr d v' (goM d.T ((allN d.T d.N R k).1 ++ [(rowN d.T R k x (allN d.T d.N R k).2).1])) ng st
  s : SDk R v'.OL (rowN d.T R k x (allN d.T d.N R k).2).2
  few : v'.OL.length ≤ 150
  lt : k < v'.OL.length
  b : k < (allN d.T d.N R k).2.length
  ng : ng ≤ k * 20 + x
  ov : v'.ov = vs.ov
  g : TkG d vs v' ws wr

section
variable {w0 ws wr w' : World} {d : TkA} {vs v v' : TkV} {st : LS} {R : List Ru} {k x ng ng' : Nat}

theorem F1.into (h : F1 w0 ws d vs st R k v ng wr) (hk : k < v.OL.length) : F2 w0 ws d vs st R k 0 v ng wr :=
  ⟨by show TkM w0 wr d v (goM d.T ((allN d.T d.N R k).1 ++ [[]])) ng st; rw [goM_row]; exact h.m, h.s, h.few, hk, by rw [← h.s.len]; exact hk, h.ng, h.ov, h.g⟩
theorem F2.out (h : F2 w0 ws d vs st R k (d.T + d.N) v ng wr) (hTN : d.T + d.N ≤ 20) : F1 w0 ws d vs st R (k + 1) v ng wr := by
  have e : allN d.T d.N R (k + 1) = allS d.T d.N R k (allN d.T d.N R k) := rfl
  exact ⟨by rw [e]; exact h.m, by rw [e]; exact h.s, h.few, h.lt, by have := h.ng; omega, h.ov, h.g⟩

/-- Nothing is read on. -/
theorem F2.none (h : F2 w0 ws d vs st R k x v ng wr) (he : kernL d.T R (v.OL.getD k []) x (v.OL.getD k []).length = []) (hb : Below wr.heap.size wr w') : F2 w0 ws d vs st R k (x + 1) v ng w' := by
  have hv := h.s.visitNone h.lt he
  have e : rowN d.T R k (x + 1) (allN d.T d.N R k).2 = rowS d.T R k x (rowN d.T R k x (allN d.T d.N R k).2) := rfl
  refine ⟨?_, ?_, h.few, h.lt, h.b, by have := h.ng; omega, h.ov, h.g.trans (TkG.ofBelow hb)⟩
  · rw [e, rowS]
    simp only
    rw [hv, goM_add, if_neg (by omega)]
    exact h.m.below hb
  · rw [e, rowS]
    simp only
    rw [hv]
    exact h.s

/-- A state is gone on to. -/
theorem F2.some (h : F2 w0 ws d vs st R k x v ng wr) (hne : kernL d.T R (v.OL.getD k []) x (v.OL.getD k []).length ≠ []) {C : List It} (hs : C.Pairwise ltI) (hC : ∀ i, i ∈ C ↔ Cl R (· ∈ kernL d.T R (v.OL.getD k []) x (v.OL.getD k []).length) i) {n : Nat} (ht : StTo v.OL C n v'.OL)
    (hm : TkM w0 w' d v' (setM (goM d.T ((allN d.T d.N R k).1 ++ [(rowN d.T R k x (allN d.T d.N R k).2).1])) (k, symN d.T x) (.int .i64 n)) (ng + 1) st) (hov : v'.ov = v.ov) (hg : TkG d v v' wr w') :
    (SDk R v'.OL (rowN d.T R k (x + 1) (allN d.T d.N R k).2).2) ∧ (v'.OL.length ≤ 150 → F2 w0 ws d vs st R k (x + 1) v' (ng + 1) w') := by
  obtain ⟨hv1, hv2⟩ := h.s.visit h.lt hne hs hC ht
  have e : rowN d.T R k (x + 1) (allN d.T d.N R k).2 = rowS d.T R k x (rowN d.T R k x (allN d.T d.N R k).2) := rfl
  have hS : SDk R v'.OL (rowN d.T R k (x + 1) (allN d.T d.N R k).2).2 := by rw [e, rowS]; exact hv2
  refine ⟨hS, fun hf => ⟨?_, hS, hf, ?_, h.b, by have := h.ng; omega, hov.trans h.ov, h.g.trans hg⟩⟩
  · have hl := row_len (T := d.T) (R := R) k x (allN d.T d.N R k).2
    have hl2 := all_len (T := d.T) (N := d.N) (R := R) k
    rw [e, rowS]
    simp only
    rw [hv1, goM_add, if_pos (Int.natCast_nonneg _), hl, hl2]
    exact hm
  · rcases ht with ⟨_, _, e2⟩ | ⟨_, _, e2⟩
    · rw [e2]; exact h.lt
    · rw [e2, List.length_append]; have := h.lt; omega

theorem F2.lens (h : F2 w0 ws d vs st R k x v ng wr) {Nu : List Bool} {Fi : List (List Bool)} (E : TkE w0 d R Nu Fi) : ∀ j, j < v.OL.length → (v.OL.getD j []).length ≤ 369 := fun j hj => by
  have := ok_len E.right8 (h.s.rep j hj).nod (h.s.ok j hj)
  have := E.hR
  omega
end

/-- What is told of the states. -/
def Found1 (w0 w : World) (d : TkA) (v : TkV) (st : LS) (R : List Ru) (e : Ending) (w' : World) : Prop :=
  (e = .returned (.bool false) ∧ More d.T d.N R 150 ∧ Below w0.heap.size w w') ∨
  (e = .returned (.bool true) ∧ ∃ K v' ng, F1 w0 w d v st R K v' ng w' ∧ v'.OL.length = K)

set_option maxRecDepth 100000 in
set_option maxHeartbeats 6400000 in
theorem tk_findStates {w0 w : World} {d : TkA} {v : TkV} {st : LS} {R : List Ru} {Nu : List Bool} {Fi : List (List Bool)} (E : TkE w0 d R Nu Fi) (h : TkM w0 w d v (goM d.T []) 0 st) (hOL : v.OL = []) :
    Calls Try.prog 35 #[.pointer (some ⟨d.ma, 0, none⟩)] w (Found1 w0 w d v st R) := by
  have hR := E.hR
  have abv := tk_above (h.auto E)
  have hM1 := h.alloc (.cells #[.int .i64 R.length, .int .i64 0] 118)
  have hI1 : ItemsAt (w.alloc (.cells #[.int .i64 R.length, .int .i64 0] 118)) (w.alloc (.cells #[.int .i64 R.length, .int .i64 0] 118)).heap.size (.slice (some ⟨w.heap.size, 0, none⟩) 1 1) [(R.length, 0)] := by
    refine ⟨⟨_, _, rfl⟩, fun k hk => ?_⟩
    obtain rfl : k = 0 := by simpa using hk
    exact ⟨w.heap.size, 0, 1, rfl, by simp, by simp [go_sem], by simp [go_sem]⟩
  have sof := tk_stateOf E hM1 hI1 ⟨by simp, by simp, by simp, fun x hx => by simp only [List.mem_singleton] at hx; rw [hx]; exact ⟨Nat.le_refl _, Nat.zero_le _⟩, fun x hx _ => by simp only [List.mem_singleton] at hx; rw [hx]⟩ (by rw [hOL]; simp) (fun k hk => by rw [hOL] at hk; exact absurd hk (Nat.not_lt_zero _))
  have HE : Hid (TkE w0 d R Nu Fi) := E
  have HM : Hid (TkM w0 w d v (goM d.T []) 0 st) := h
  have HOL : Hid (v.OL = []) := hOL
  have hT := E.hT
  have hN := E.hN.2
  have hN1 := E.hN.1
  clear E h hM1 hI1 hOL
  go_enter Try.func35, Try.ntmps35
  go_wp2_with
    (first
     | (go_at_call 49; refine abv.mono ?_; rintro e w1 ⟨rfl, rfl⟩)
     | (go_at_call 48; refine sof.mono ?_; rintro e w2 ⟨n, v2, C, rfl, hCs, hCm, hSt, hov, hM2, hG2⟩
        have hF : F1 w0 w1 d v st R 0 v2 0 w2 := by
          have hOL2 : v2.OL = [C] := by
            rw [HOL.out] at hSt
            rcases hSt with ⟨h1, _, _⟩ | ⟨_, _, h3⟩
            · exact absurd h1 (Nat.not_lt_zero _)
            · simpa using h3
          refine ⟨?_, ?_, by rw [hOL2]; simp, Nat.zero_le _, Nat.le_refl _, hov, (TkG.ofBelow ((Below.refl _ _).alloc (Nat.le_refl _) _)).trans hG2⟩
          · exact hM2
          · rw [hOL2]; exact sdk_start hCs hCm
        have sys := tk_symbols (hM2.auto HE.out) hT hN
        have HF : Hid (F1 w0 w1 d v st R 0 v2 0 w2) := hF
        clear hF hCs hCm hSt hov hM2 hG2 sof abv)
     | (go_at_call 50; refine sys.mono ?_; rintro e w3 ⟨yv, rfl, hrow, hB3⟩
        obtain ⟨ya, yc, hyv⟩ := own_form hrow
        subst hyv
        have HF3 : Hid (F1 w0 w1 d v st R 0 v2 0 w3) := ⟨HF.out.m.below hB3, HF.out.s, HF.out.few, HF.out.le, HF.out.ng, HF.out.ov, HF.out.g.trans (TkG.ofBelow hB3)⟩
        have HY : Hid (w3.ownsRow w2.heap.size 46 2 (.slice ya (d.T + d.N) yc) (d.T + d.N) ((symsL d.T (d.T + d.N)).flatMap tkY) ∧ ∀ g, (Value.slice ya (d.T + d.N) yc).ownBlock = some g → ¬ TkK d v2 g) := ⟨hrow, fun g hg hk => by
          have := (hrow.lt g hg).1
          have := (HF.out.m.kc hk).2
          omega⟩
        clear hrow hB3 sys HF))
  go_loopw [4] (fun s4 wr => ∃ (k : Nat) (v' : TkV) (ng : Nat), s4 = .int .i64 k ∧ F1 w0 w1 d v st R k v' ng wr ∧ TkG d v2 v' w3 wr) (fun s _ => 151 - (intOf s).toNat)
  case atStart => exact ⟨0, v2, 0, rfl, HF3.out, TkG.refl _ _ _⟩
  case round =>
    clear HF3
    obtain ⟨k, v', ng, rfl, hF, hG⟩ := hrel
    have HF : Hid (F1 w0 w1 d v st R k v' ng wr) := hF
    have HG : Hid (TkG d v2 v' w3 wr) := hG
    have c6 := (hF.m.cell (i := 6) rfl (by omega)).1
    obtain ⟨sa, sc, hsv⟩ := hF.m.states
    rw [hsv] at c6
    have hfew := hF.few
    have hle := hF.le
    clear hF hG hsv
    by_cases hlt : k < v'.OL.length
    · obtain ⟨p, hp⟩ : ∃ p, v'.OL.length = p := ⟨_, rfl⟩
      rw [hp] at c6 hfew hle hlt
      have HP : Hid (v'.OL.length = p) := hp
      clear hp
      go_wp2_with fail
      clear c6
      go_loopw [27] (fun s27 wq => ∃ (x : Nat) (v' : TkV) (ng : Nat), s27 = .int .i64 x ∧ x ≤ d.T + d.N ∧ F2 w0 w1 d v st R k x v' ng wq ∧ TkG d v2 v' w3 wq) (fun s _ => d.T + d.N - (intOf s).toNat)
      case atStart => exact ⟨0, v', ng, rfl, Nat.zero_le _, HF.out.into (by rw [HP.out]; exact hlt), HG.out⟩
      case round =>
        clear HF HG HP
        obtain ⟨x, v', ng, rfl, hx, hF, hG⟩ := hrel
        have HF : Hid (F2 w0 w1 d v st R k x v' ng wr) := hF
        have HG : Hid (TkG d v2 v' w3 wr) := hG
        by_cases hxlt : x < d.T + d.N
        · have hrow := row_goes HY.out.1 hG HY.out.2
          obtain ⟨yg, ycap, hyv, _, _⟩ := hrow.form (by omega)
          cases hyv
          have q : ∀ i, i < 2 → wr.cell? ⟨yg, x * 2 + i, none⟩ = (tkY (symN d.T x))[i]? := fun i hi => by
            rw [hrow.cellAt (x * 2 + i) (by omega), tkY_get (by rw [symsL_len]; exact hxlt) hi, symsL_get hxlt]
          have q0 := q 0 (by omega)
          have q1 := q 1 (by omega)
          have hlens := hF.lens HE.out
          have hkl := kernL_len (T := d.T) (R := R) (x := x) (O := v'.OL.getD k []) (j := (v'.OL.getD k []).length)
          have hk3 := hlens k hF.lt
          have bgn := tk_begin (x := x) HE.out (hF.m.alloc (.cells #[.bool (symN d.T x).1, .int .i64 (symN d.T x).2] 46)) hF.s hF.lt
          have hX := hF.m.box #[.bool (symN d.T x).1, .int .i64 (symN d.T x).2] 46
          have hM1 := hF.m.alloc (.cells #[.bool (symN d.T x).1, .int .i64 (symN d.T x).2] 46)
          have hbeg : kernL d.T R (v'.OL.getD k []) x (v'.OL.getD k []).length ≠ [] → Begin R (kernL d.T R (v'.OL.getD k []) x (v'.OL.getD k []).length) := fun hne =>
            ⟨kernL_nodup (hF.s.rep k hF.lt).nod, List.length_pos_iff.2 hne, by omega, fun i hi => (hF.s.kernOk hF.lt i hi).1, fun i hi h0 => absurd h0 (hF.s.kernOk hF.lt i hi).2⟩
          have hsy : 0 ≤ (symN d.T x).2 ∧ (symN d.T x).2 ≤ 20 := by unfold symN; split <;> simp <;> omega
          have hfew2 := hF.few
          have hkb : k < v'.OL.length := hF.lt
          have hng := hF.ng
          obtain ⟨y, hy⟩ : ∃ y, symN d.T x = y := ⟨_, rfl⟩
          have HSy : Hid (symN d.T x = y) := hy
          rw [hy] at q0 q1 bgn hX hM1 hsy
          obtain ⟨L, hL⟩ : ∃ L, kernL d.T R (v'.OL.getD k []) x (v'.OL.getD k []).length = L := ⟨_, rfl⟩
          have HL : Hid (kernL d.T R (v'.OL.getD k []) x (v'.OL.getD k []).length = L) := hL
          rw [hL] at hkl bgn hbeg
          have HBeg : Hid (L ≠ [] → Begin R L) := hbeg
          have HLens : Hid (∀ j, j < v'.OL.length → (v'.OL.getD j []).length ≤ 369) := hlens
          obtain ⟨yb, yn⟩ := y
          simp only [tkY, Nat.add_zero] at q0 q1 bgn hX hM1 hsy
          have q0' : wr.cell? ⟨yg, x * 2, none⟩ = some (.bool yb) := q0
          have q1' : wr.cell? ⟨yg, x * 2 + 1, none⟩ = some (.int .i64 yn) := q1
          obtain ⟨Gx, hGx⟩ : ∃ Gx, goM d.T ((allN d.T d.N R k).1 ++ [(rowN d.T R k x (allN d.T d.N R k).2).1]) = Gx := ⟨_, rfl⟩
          rw [hGx] at hM1
          have HGx : Hid (goM d.T ((allN d.T d.N R k).1 ++ [(rowN d.T R k x (allN d.T d.N R k).2).1]) = Gx) := hGx
          have HX1 : Hid (TkL (wr.alloc (.cells #[.bool yb, .int .i64 yn] 46)) d v' wr.heap.size #[.bool yb, .int .i64 yn] 46) := hX
          have HM1 : Hid (TkM w0 (wr.alloc (.cells #[.bool yb, .int .i64 yn] 46)) d v' Gx ng st) := hM1
          have i0 : (0 : Int) ≤ (x : Int) := Int.natCast_nonneg _
          have i1 : (x : Int) < ((d.T + d.N : Nat) : Int) := by omega
          have i2 : (x : Int) < (d.T : Int) + (d.N : Int) := by omega
          clear hF hG hrow q q0 q1 hy hL hlens hbeg hX hM1 hGx
          by_cases hnil : L = []
          · subst hnil
            go_wp2_with
              (go_at_call 51; refine bgn.mono ?_; rintro e w4 ⟨ov, rfl, hrow4, hB4⟩
               obtain ⟨oa, oc, hov⟩ := own_form hrow4
               simp only [List.length_nil] at hov
               subst hov
               have HB4 : Hid (Below wr.heap.size wr w4) := ((Below.refl _ _).alloc (Nat.le_refl _) _).trans (hB4.mono (by simp))
               clear hrow4 hB4)
            go_roundw
            case rel => exact ⟨x + 1, v', ng, by go_num, by omega, HF.out.none HL.out HB4.out, HG.out.trans (TkG.ofBelow HB4.out)⟩
            case measure => simp [intOf]; omega
          · have hpos : 0 < L.length := List.length_pos_iff.2 hnil
            have e1 : ((L.length : Int) == 0) = false := by simp; omega
            have HNil : Hid (L ≠ []) := hnil
            clear hnil
            go_wp2_with
              (go_at_call 51; refine bgn.mono ?_; rintro e w4 ⟨ov, rfl, hrow4, hB4⟩
               obtain ⟨oa, oc, hov⟩ := own_form hrow4
               subst hov
               have hM4 := HM1.out.below hB4
               have HM4 : Hid (TkM w0 w4 d v' Gx ng st) := hM4
               have HX4 : Hid (TkL w4 d v' wr.heap.size #[.bool yb, .int .i64 yn] 46) := HX1.out.below hB4
               have HB4 : Hid (Below wr.heap.size wr w4) := ((Below.refl _ _).alloc (Nat.le_refl _) _).trans (hB4.mono (by simp))
               have sof := tk_stateOf HE.out hM4.drew (show ItemsAt w4.drew w4.drew.heap.size _ _ from tk_items hrow4 rfl) (HBeg.out HNil.out) hfew2 (fun j hj => by have := HLens.out j hj; omega)
               clear hrow4 hB4 hM4 bgn)
            have keep : ∀ {wx : World} {u : TkV} {Gu : Wy → Option Value} {nu : Nat}, TkM w0 wx d u Gu nu st → TkL wx d u wr.heap.size #[.bool yb, .int .i64 yn] 46 →
                wx.cell? ⟨d.ma, 7, none⟩ = some (.map (some d.mg)) ∧ wx.cell? ⟨wr.heap.size, 0, none⟩ = some (.bool yb) ∧ wx.cell? ⟨wr.heap.size, 1, none⟩ = some (.int .i64 yn) := fun {wx u Gu nu} hM hX =>
              ⟨(hM.cell (i := 7) rfl (by omega)).1, hX.cell rfl, hX.cell rfl⟩
            have hS4 := keep HM4.out.drew HX4.out.drew
            have HKeep : Hid (∀ {wx : World} {u : TkV} {Gu : Wy → Option Value} {nu : Nat}, TkM w0 wx d u Gu nu st → TkL wx d u wr.heap.size #[.bool yb, .int .i64 yn] 46 →
                wx.cell? ⟨d.ma, 7, none⟩ = some (.map (some d.mg)) ∧ wx.cell? ⟨wr.heap.size, 0, none⟩ = some (.bool yb) ∧ wx.cell? ⟨wr.heap.size, 1, none⟩ = some (.int .i64 yn)) := keep
            clear keep
            obtain ⟨s0, s1, s2⟩ := hS4
            go_cut [] from 28 (fun wx => ∃ (n : Nat) (v5 : TkV) (C : List It), C.Pairwise ltI ∧ (∀ i, i ∈ C ↔ Cl R (· ∈ L) i) ∧ StTo v'.OL C n v5.OL ∧ v5.ov = v'.ov ∧ TkM w0 wx d v5 (setM Gx (k, (yb, yn)) (.int .i64 n)) (ng + 1) st ∧ TkG d v' v5 wr wx)
            case first =>
              go_region_held3 (fun wx => wx.cell? ⟨d.ma, 7, none⟩ = some (.map (some d.mg)) ∧ wx.cell? ⟨wr.heap.size, 0, none⟩ = some (.bool yb) ∧ wx.cell? ⟨wr.heap.size, 1, none⟩ = some (.int .i64 yn)) (first | assumption | exact ⟨s0, s1, s2⟩ | go_keep)
                (first
                 | (go_at_call 48; refine sof.mono ?_; rintro e w5 ⟨n, v5, C, rfl, hCs, hCm, hSt, hov, hM5, hG5⟩
                    have hX5 := HX4.out.drew.goes hG5
                    have hS5 := HKeep.out hM5 hX5
                    obtain ⟨w6, u6, hM6, hG6, -⟩ := hM5.putG (p := (k, (yb, yn))) (by simp only; omega) hsy.1 (by simp only; omega) (.int .i64 n)
                    unfold wyV at u6
                    simp only at u6
                    have hS6 := HKeep.out hM6 (hX5.goes hG6)
                    have H6 : Hid (C.Pairwise ltI ∧ (∀ i, i ∈ C ↔ Cl R (· ∈ L) i) ∧ StTo v'.OL C n v5.OL ∧ v5.ov = v'.ov ∧ TkM w0 w6 d v5 (setM Gx (k, (yb, yn)) (.int .i64 n)) (ng + 1) st ∧ TkG d v' v5 wr w6) := ⟨hCs, hCm, hSt, hov, hM6, ((TkG.ofBelow HB4.out).drew.trans hG5).trans hG6⟩
                    clear hCs hCm hSt hov hM5 hG5 hX5 hM6 hG6))
              all_goals
                go_wp2_with fail
                go_meet
                case rel => exact ⟨n, v5, C, H6.out⟩
            case rest =>
              obtain ⟨n, v5, C, hCs, hCm, hSt, hov, hM5, hG5⟩ := hcut
              have c6 := (hM5.cell (i := 6) rfl (by omega)).1
              obtain ⟨sa5, sc5, hsv5⟩ := hM5.states
              rw [hsv5] at c6
              obtain ⟨r1, r2⟩ := HF.out.some (by rw [HL.out]; exact HNil.out) hCs (by rw [HL.out]; exact hCm) hSt (by rw [HGx.out, HSy.out]; exact hM5) hov hG5
              have hlen5 := r1.len
              have hp5 : v5.OL.length ≤ 151 := by
                rcases hSt with ⟨_, _, e2⟩ | ⟨_, _, e2⟩
                · rw [e2]; omega
                · rw [e2, List.length_append, List.length_cons, List.length_nil]; omega
              have HR2 : Hid (v5.OL.length ≤ 150 → F2 w0 w1 d v st R k (x + 1) v5 (ng + 1) wc) := r2
              have HMore : Hid (150 < v5.OL.length → More d.T d.N R 150) := fun hgt => ⟨k, x + 1, HF.out.b, by omega, by rw [← hlen5]; exact hgt⟩
              have HG5 : Hid (TkG d v' v5 wr wc) := hG5
              have HBl : Hid (Below w0.heap.size w1 wc) := (HM.out.goes_below HF.out.g).trans (HF.out.m.goes_below hG5)
              obtain ⟨p5, hp⟩ : ∃ p5, v5.OL.length = p5 := ⟨_, rfl⟩
              rw [hp] at c6 hp5 HR2 HMore
              clear hCs hCm hSt hov hM5 hG5 hsv5 r1 r2 hlen5 s0 s1 s2 sof hp
              by_cases hgt : p5 ≤ 150
              · have d1 : decide (150 < p5) = false := decide_eq_false (by omega)
                go_wp2_with fail
                go_roundw
                case rel => exact ⟨x + 1, v5, ng + 1, by go_num, by omega, HR2.out hgt, HG.out.trans HG5.out⟩
                case measure => simp [intOf]; omega
              · have d1 : decide (150 < p5) = true := decide_eq_true (by omega)
                go_wp2_with fail
                go_ret
                exact .inl ⟨rfl, HMore.out (by omega), HBl.out⟩
        · obtain rfl : x = d.T + d.N := by omega
          clear hF hG
          go_wp2_with fail
          go_roundw
          case rel => exact ⟨k + 1, v', ng, by go_num, HF.out.out (by omega), HG.out⟩
          case measure => simp [intOf]; omega
    · have HE2 : Hid (v'.OL.length = k) := by show v'.OL.length = k; omega
      go_wp2_with fail
      go_ret
      exact .inr ⟨rfl, k, v', ng, HF.out, HE2.out⟩

end Go.Proofs.Ytkkcmcckdaobmaa

/- The contract of pollardingref6's closed. -/
namespace Go.Proofs.Ytkkcmcckdaobmaa
open Go.RowKit

def flatI (L : List It) : List Value := L.flatMap fun i => [.int .i64 i.1, .int .i64 i.2]

theorem flatI_length (L : List It) : (flatI L).length = L.length * 2 := by
  induction L with
  | nil => rfl
  | cons a L ih => simp only [flatI, List.flatMap_cons, List.length_append, List.length_cons, List.length_nil] at ih ⊢; omega
theorem flatI_append (A B : List It) : flatI (A ++ B) = flatI A ++ flatI B := by simp [flatI]
theorem flatI_get {L : List It} {k : Nat} (hk : k < L.length) : (flatI L)[k * 2]? = some (.int .i64 (L.getD k (0, 0)).1) ∧ (flatI L)[k * 2 + 1]? = some (.int .i64 (L.getD k (0, 0)).2) := by
  induction L generalizing k with
  | nil => simp at hk
  | cons a L ih =>
    cases k with
    | zero => simp [flatI]
    | succ k =>
      have := ih (k := k) (by simpa using hk)
      have e : flatI (a :: L) = .int .i64 a.1 :: .int .i64 a.2 :: flatI L := by simp [flatI]
      rw [e]
      refine ⟨?_, ?_⟩
      · rw [show (k + 1) * 2 = k * 2 + 1 + 1 by omega, List.getElem?_cons_succ, List.getElem?_cons_succ, this.1]; simp
      · rw [show (k + 1) * 2 + 1 = k * 2 + 1 + 1 + 1 by omega, List.getElem?_cons_succ, List.getElem?_cons_succ, this.2]; simp

/-- A row of items of the call's own. -/
def RowIt (w : World) (B g cap : Nat) (O : List It) : Prop := w.ownsRow B 87 2 (.slice (some ⟨g, 0, none⟩) O.length cap) O.length (flatI O)

theorem RowIt.items {w : World} {B g cap : Nat} {O : List It} (h : RowIt w B g cap O) : ItemsAt w w.heap.size (.slice (some ⟨g, 0, none⟩) O.length cap) O := by
  refine ⟨⟨_, _, rfl⟩, fun k hk => ⟨g, 0, cap, rfl, (World.ownsRow.lt h g rfl).2, ?_, ?_⟩⟩
  · rw [Nat.zero_add, World.ownsRow.cellAt h _ (by omega)]; exact (flatI_get hk).1
  · rw [Nat.zero_add, World.ownsRow.cellAt h _ (by omega)]; exact (flatI_get hk).2

theorem items_news {w : World} {lim b o c : Nat} {L : List It} (h : ItemsAt w lim (.slice (some ⟨b, o, none⟩) L.length c) L) : ∀ j u, (flatI L)[j]? = some u → w.cell? ((⟨b, o, none⟩ : Addr).add j) = some u := fun j u hu => by
  have hadd : (⟨b, o, none⟩ : Addr).add j = ⟨b, o + j, none⟩ := by unfold Addr.add; split <;> simp_all
  rw [hadd]
  have hj : j < L.length * 2 := by rw [← flatI_length]; exact (List.getElem?_eq_some_iff.1 hu).1
  obtain ⟨k, hk⟩ : ∃ k, j = k * 2 ∨ j = k * 2 + 1 := ⟨j / 2, by omega⟩
  have hkl : k < L.length := by omega
  obtain ⟨b', o', c', e, _, h1, h2⟩ := h.2 k hkl
  cases e
  rcases hk with rfl | rfl
  · rw [h1, ← (flatI_get hkl).1, hu]
  · rw [h2, ← (flatI_get hkl).2, hu]

theorem Try.infoItem : (Try.prog.info? 87).map (fun i => (i.zero, i.size, i.bytes)) = some (some (.agg #[.int .i64 0, .int .i64 0]), 2, 16) := by kernel_rfl

theorem flatI_one (L : List It) : ∀ u ∈ flatI L, u.oneCell' = true := fun u hu => by
  simp only [flatI, List.mem_flatMap, List.mem_cons, List.not_mem_nil, or_false] at hu
  obtain ⟨i, _, rfl | rfl⟩ := hu <;> rfl

theorem cl_rule {R : List Ru} {l : List It} (hv : ∀ i ∈ l, i.1 ≤ R.length) {i : It} (h : Cl R (· ∈ l) i) : i.1 ≤ R.length := by
  induction h with
  | base hb => exact hv _ hb
  | step _ _ h2 _ _ => exact Nat.le_of_lt h2

set_option maxRecDepth 100000 in
set_option maxHeartbeats 3200000 in
theorem closed6_any {w : World} {lim ab T N : Nat} {rv lv : Value} {R : List Ru} {l : List It} (hA : AutoG w lim ab T N rv R) (hL : ItemsAt w w.heap.size lv l) (hnd : l.Nodup) (hne : l ≠ []) (hv : ∀ i ∈ l, i.1 ≤ R.length) (hl : l.length ≤ 1000) (hR : R.length ≤ 40) (h8 : ∀ r, r ≤ R.length → (rightF R r).length ≤ 8) :
    Calls Try.prog 27 #[.pointer (some ⟨ab, 0, none⟩), lv] w fun e w' => ∃ g cap O, e = .returned (.slice (some ⟨g, 0, none⟩) O.length cap) ∧ RowIt w' w.heap.size g cap O ∧ Below w.heap.size w w' ∧ O.Nodup ∧ (∀ i, i ∈ O ↔ Cl R (· ∈ l) i) ∧ O.length ≤ l.length + R.length ∧ O.getD 0 (0, 0) = l.getD 0 (0, 0) := by
  have hl0 : 0 < l.length := List.length_pos_iff.2 hne
  obtain ⟨lb, lo, lc, hlv⟩ : ∃ lb lo lc, lv = .slice (some ⟨lb, lo, none⟩) l.length lc := by obtain ⟨lb, lo, lc, h, _⟩ := hL.2 0 hl0; exact ⟨lb, lo, lc, h⟩
  subst hlv
  obtain ⟨ra, rc, hrv⟩ := hA.rules.1
  subst hrv
  have HA : Hid (AutoG w lim ab T N (.slice ra R.length rc) R) := hA
  have HV : Hid (∀ i ∈ l, i.1 ≤ R.length) := hv
  have H8 : Hid (∀ r, r ≤ R.length → (rightF R r).length ≤ 8) := h8
  have HNd : Hid (l.Nodup) := hnd
  have hLA : ItemsAt (w.alloc (.cells #[] 87)) w.heap.size (.slice (some ⟨lb, lo, none⟩) l.length lc) l := hL.below ((Below.refl _ _).alloc (Nat.le_refl _) _)
  have own0 := World.ownsRow_lit (base := w.heap.size) (e := 87) (size := 2) w #[] 0 (Nat.le_refl _) (by unfold maxLen; omega) rfl
  obtain ⟨i0, hi0, hz0, hz1, hz2⟩ := info_parts Try.infoItem
  have n1 : 0 + l.length ≤ maxLen := by unfold maxLen; omega
  have n2 : (0 + l.length) * 16 ≤ 140737488355328 := by omega
  have hnw := items_news hLA
  clear hA hL hnd hne hv h8
  go_enter Try.func27, Try.ntmps27
  go_wp2_with
    (at_builtin
     refine wpList_append_lies _ rfl _ _ _ rfl w.heap.size 87 i0 _ 2 16 Try.underlying84 hi0 hz0 hz1 hz2 rfl (by omega) (.slice (some ⟨w.heap.size, 0, none⟩) 0 0) 0 [] rfl own0
       ⟨lb, lo, none⟩ l.length lc (flatI l) rfl (flatI_length l) hnw (flatI_one l) hl0 n1 n2 (by simp) (w.heap.size + 1) (by simp) ?_
     intro g1 cap1 w1 hown1 hgrow1 hat1 hlt1)
  have hB1 : Below w.heap.size w w1 := ((Below.refl _ _).alloc (Nat.le_refl _) _).grown hgrow1 (by simp) (fun k hk => by simp only [Value.ownBlock, Option.some.injEq] at hk; omega)
  have HB1 : Hid (Below w.heap.size w w1) := hB1
  have hrow1 : RowIt w1 w.heap.size g1 cap1 l := by simpa [RowIt] using hown1
  have HRow1 : Hid (RowIt w1 w.heap.size g1 cap1 l) := hrow1
  have HI0 : Hid (Try.prog.info? 87 = some i0 ∧ i0.zero = some (.agg #[.int .i64 0, .int .i64 0]) ∧ i0.size = 2 ∧ i0.bytes = 16) := ⟨hi0, hz0, hz1, hz2⟩
  clear hown1 hgrow1 hat1 hlt1 hB1 hrow1 hLA own0 hnw hi0 hz0 hz1 hz2 n1 n2
  go_loopw [5, 6] (fun s5 s6 wr => ∃ (k g cap : Nat) (O : List It), s5 = .slice (some ⟨g, 0, none⟩) O.length cap ∧ s6 = .int .i64 k ∧ k ≤ O.length ∧ Below w.heap.size w wr ∧ RowIt wr w.heap.size g cap O ∧ CI R l O k 0) (fun _ s _ => l.length + R.length + 1 - (intOf s).toNat)
  case atStart => exact ⟨0, g1, cap1, l, rfl, rfl, Nat.zero_le _, HB1.out, HRow1.out, ci_start HNd.out⟩
  case round =>
    clear HB1 HRow1
    obtain ⟨k, g, cap, O, rfl, rfl, hk, hB, hrow, hCI⟩ := hrel
    have HB : Hid (Below w.heap.size w wr) := hB
    have HRow : Hid (RowIt wr w.heap.size g cap O) := hrow
    have HCI : Hid (CI R l O k 0) := hCI
    have hlen := hCI.len
    by_cases hlt : k < O.length
    · obtain ⟨⟨r, d⟩, hrd⟩ : ∃ x, O.getD k (0, 0) = x := ⟨_, rfl⟩
      have hmem : (r, d) ∈ O := by rw [← hrd]; simp [List.getD, hlt]
      have hrR : r ≤ R.length := cl_rule HV.out (hCI.snd _ hmem)
      have HRD : Hid (O.getD k (0, 0) = (r, d)) := hrd
      obtain ⟨b, o, c, hve, _, k3, k4⟩ := hrow.items.2 k hlt
      cases hve
      rw [hrd] at k3 k4
      simp only [Nat.zero_add] at k3 k4
      have hA' : AutoG wr lim ab T N (.slice ra R.length rc) R := HA.out.below hB HA.out.le HA.out.lt
      have call := right6_any hA' hrR
      have h8' := H8.out r hrR
      have i0' : (0 : Int) ≤ (k : Int) := Int.natCast_nonneg _
      have i1' : (k : Int) < (O.length : Int) := by omega
      have hgl := (World.ownsRow.lt hrow g rfl)
      obtain ⟨Rt, hRt⟩ : ∃ x, rightF R r = x := ⟨_, rfl⟩
      have HRt : Hid (rightF R r = Rt) := hRt
      rw [hRt] at call h8'
      clear hB hrow hCI hrd hmem hA' hRt
      by_cases hd : Rt.length ≤ d
      · have e1 : (Rt.length : Int) ≤ (d : Int) := by omega
        have HN : Hid (CI R l O (k + 1) 0) := HCI.out.none fun _ m => by rw [HRD.out]; simp only; rw [HRt.out, List.getElem?_eq_none hd]; simp
        go_wp2_with
          (go_at_call 28; refine call.mono ?_; rintro e w2 ⟨la, lc', rfl, hsy, hbl, hB2⟩
           have q3 := (hB2.cell (p := ⟨g, k * 2, none⟩) hgl.2).trans k3
           have q4 := (hB2.cell (p := ⟨g, k * 2 + 1, none⟩) hgl.2).trans k4
           have HB2 : Hid (Below w.heap.size w w2 ∧ Below wr.heap.size wr w2) := ⟨HB.out.trans (hB2.mono HB.out.size), hB2⟩
           clear hsy hbl hB2)
        go_roundw
        case rel => exact ⟨k + 1, g, cap, O, rfl, by go_num, by omega, HB2.out.1, own_below HRow.out HB2.out.2 (fun b hb => (World.ownsRow.lt HRow.out b hb).2), HN.out⟩
        case measure => simp [intOf]; omega
      · have hd' : d < Rt.length := by omega
        have e1 : decide ((Rt.length : Int) ≤ (d : Int)) = false := decide_eq_false (by omega)
        have j0 : (0 : Int) ≤ (d : Int) := Int.natCast_nonneg _
        have j1 : (d : Int) < (Rt.length : Int) := by omega
        have hge : Rt[d]? = some (Rt.getD d (false, 0)) := by simp [List.getD, hd']
        obtain ⟨⟨t, v⟩, htv⟩ : ∃ x, Rt.getD d (false, 0) = x := ⟨_, rfl⟩
        rw [htv] at hge
        have HGe : Hid (Rt[d]? = some (t, v)) := hge
        have HTV : Hid (Rt.getD d (false, 0) = (t, v)) := htv
        clear hge htv
        cases t with
        | true =>
          have HN : Hid (CI R l O (k + 1) 0) := HCI.out.none fun _ m => by rw [HRD.out]; simp only; rw [HRt.out, HGe.out]; simp
          go_wp2_with
            (go_at_call 28; refine call.mono ?_; rintro e w2 ⟨la, lc', rfl, hsy, hbl, hB2⟩
             obtain ⟨sb, so, sc, hse, s1, s2⟩ := hsy.2 d hd'
             cases hse
             rw [HTV.out] at s1 s2
             simp only at s1 s2
             have q3 := (hB2.cell (p := ⟨g, k * 2, none⟩) hgl.2).trans k3
             have q4 := (hB2.cell (p := ⟨g, k * 2 + 1, none⟩) hgl.2).trans k4
             have HB2 : Hid (Below w.heap.size w w2 ∧ Below wr.heap.size wr w2) := ⟨HB.out.trans (hB2.mono HB.out.size), hB2⟩
             clear hsy hbl hB2)
          go_roundw
          case rel => exact ⟨k + 1, g, cap, O, rfl, by go_num, by omega, HB2.out.1, own_below HRow.out HB2.out.2 (fun b hb => (World.ownsRow.lt HRow.out b hb).2), HN.out⟩
          case measure => simp [intOf]; omega
        | false =>
          go_wp2_with
            (go_at_call 28; refine call.mono ?_; rintro e w2 ⟨la, lc', rfl, hsy, hbl, hB2⟩
             obtain ⟨sb, so, sc, hse, s1, s2⟩ := hsy.2 d hd'
             cases hse
             rw [HTV.out] at s1 s2
             simp only at s1 s2
             have q3 := (hB2.cell (p := ⟨g, k * 2, none⟩) hgl.2).trans k3
             have q4 := (hB2.cell (p := ⟨g, k * 2 + 1, none⟩) hgl.2).trans k4
             have HB2 : Hid (Below w.heap.size w w2 ∧ Below wr.heap.size wr w2) := ⟨HB.out.trans (hB2.mono HB.out.size), hB2⟩
             have HSb : Hid ((sb < lim ∨ sb = wr.heap.size) ∧ w2.cell? ⟨sb, so + d * 2 + 1, none⟩ = some (.int .i64 v)) := ⟨hbl sb so rfl (by omega), s2⟩
             clear hsy hbl hB2)
          have HSt : Hid (RowIt w2 w.heap.size g cap O) := own_below HRow.out HB2.out.2 (fun b hb => (World.ownsRow.lt HRow.out b hb).2)
          have HSb2 : Hid (sb ≠ g ∧ sb < w2.heap.size ∧ w2.cell? ⟨sb, so + d * 2 + 1, none⟩ = some (.int .i64 v)) := ⟨by have := HA.out.le; rcases HSb.out.1 with h | h <;> omega, World.block_lt_of_cell? _ _ HSb.out.2, HSb.out.2⟩
          clear q3 q4 s1 s2 k3 k4 call
          go_loopw [5, 8] (fun s5 s8 wq => ∃ (n g' cap' : Nat) (P : List It), s5 = .slice (some ⟨g', 0, none⟩) P.length cap' ∧ s8 = .int .i64 n ∧ n ≤ R.length ∧ k < P.length ∧ P.getD k (0, 0) = (r, d) ∧ Below w.heap.size w wq ∧ RowIt wq w.heap.size g' cap' P ∧ CI R l P k n ∧ (sb ≠ g' ∧ sb < wq.heap.size ∧ wq.cell? ⟨sb, so + d * 2 + 1, none⟩ = some (.int .i64 v))) (fun _ s _ => R.length - (intOf s).toNat)
          case atStart => exact ⟨0, g, cap, O, rfl, rfl, Nat.zero_le _, hlt, HRD.out, HB2.out.1, HSt.out, HCI.out, HSb2.out⟩
          case round =>
            clear HSt HSb2
            obtain ⟨n, g', cap', P, rfl, rfl, hn, hkP, hPk, hBq, hrow, hCI, hsb⟩ := hrel
            have HBq : Hid (Below w.heap.size w wr) := hBq
            have HRowP : Hid (RowIt wr w.heap.size g' cap' P) := hrow
            have HCP : Hid (CI R l P k n) := hCI
            have HPk : Hid (P.getD k (0, 0) = (r, d)) := hPk
            have HSb3 : Hid (sb ≠ g' ∧ sb < wr.heap.size ∧ wr.cell? ⟨sb, so + d * 2 + 1, none⟩ = some (.int .i64 v)) := hsb
            have hA' := HA.out.below hBq HA.out.le HA.out.lt
            have a2 := hA'.r
            have hlenP := hCI.len
            have hgl' := (World.ownsRow.lt hrow g' rfl)
            have HW : Hid (w.heap.size ≤ wr.heap.size) := hBq.size
            by_cases hnlt : n < R.length
            · obtain ⟨b, o, c, hve, _, k3, k4⟩ := hrow.items.2 k hkP
              cases hve
              rw [hPk] at k3 k4
              simp only [Nat.zero_add] at k3 k4
              obtain ⟨rb, ro, rc', qa, qc, hve, _, r1, _⟩ := hA'.rules.2 n hnlt
              cases hve
              obtain ⟨L, hL⟩ : ∃ x, (R.getD n (0, [])).1 = x := ⟨_, rfl⟩
              have HL : Hid ((R.getD n (0, [])).1 = L) := hL
              rw [hL] at r1
              have s2 := hsb.2.2
              have p0 : (0 : Int) ≤ (n : Int) := Int.natCast_nonneg _
              have p1 : (n : Int) < (R.length : Int) := by omega
              have p2 : (0 : Int) ≤ (k : Int) := Int.natCast_nonneg _
              have p3 : (k : Int) < (P.length : Int) := by omega
              have call := has6_any (w := wr.drew) (i := (n, 0)) (hrow.items) (by omega)
              simp only at call
              clear hBq hrow hCI hPk hsb hA' hL
              by_cases hLv : L = v
              · subst hLv
                have e2 : (L == L) = true := by simp
                by_cases hin : (n, 0) ∈ P
                · obtain ⟨z, hz⟩ : ∃ z, hasF P (n, 0) = z := ⟨_, rfl⟩
                  have hz0 : 0 ≤ z := by rw [← hz]; exact hasF_mem.2 hin
                  rw [hz] at call
                  have e3 : decide (z < 0) = false := decide_eq_false (by omega)
                  have HN : Hid (CI R l P k (n + 1)) := HCP.out.pass fun _ _ _ _ => hin
                  clear hz hin
                  go_wp2_with fail
                  refine wp_region_tail 23 (by kernel_rfl) (by kernel_rfl) ?_
                  simp only [List.take_succ_cons, List.take_zero, List.drop_succ_cons, List.drop_zero]
                  repeat still_step
                  refine wpStill_nil ?_
                  go_wp2_with
                    (go_at_call 32; refine call.mono ?_; rintro e w5 ⟨rfl, hB5⟩
                     have HB5 : Hid (Below wr.heap.size wr w5) := (Below.refl _ _).drew.trans hB5
                     clear hB5)
                  go_roundw
                  case rel => exact ⟨n + 1, g', cap', P, rfl, by go_num, by omega, hkP, HPk.out, HBq.out.trans (HB5.out.mono HBq.out.size), own_below HRowP.out HB5.out (fun b hb => (World.ownsRow.lt HRowP.out b hb).2), HN.out, HSb3.out.1, Nat.lt_of_lt_of_le HSb3.out.2.1 HB5.out.size, (HB5.out.cell (p := ⟨sb, so + d * 2 + 1, none⟩) HSb3.out.2.1).trans HSb3.out.2.2⟩
                  case measure => simp [intOf]; omega
                · have hz : hasF P (n, 0) = -1 := by
                    rcases hasF_range P (n, 0) with h | h
                    · exact h
                    · exact absurd (hasF_mem.1 h) hin
                  rw [hz] at call
                  have HN : Hid (CI R l (P ++ [(n, 0)]) k (n + 1)) := HCP.out.push hkP (m := L) (by rw [HPk.out]; simp only; rw [HRt.out, HGe.out]) hnlt HL.out hin
                  have HPk2 : Hid ((P ++ [(n, 0)]).getD k (0, 0) = (r, d)) := by show (P ++ [(n, 0)]).getD k (0, 0) = (r, d); rw [← HPk.out]; simp [List.getD, List.getElem?_append_left hkP]
                  obtain ⟨hi0, hz0, hz1, hz2⟩ := HI0.out
                  have n1 : P.length + 1 ≤ maxLen := by unfold maxLen; omega
                  have n2 : (P.length + 1) * 16 ≤ 140737488355328 := by omega
                  clear hz hin
                  go_wp2_with fail
                  refine wp_region_tail 23 (by kernel_rfl) (by kernel_rfl) ?_
                  simp only [List.take_succ_cons, List.take_zero, List.drop_succ_cons, List.drop_zero]
                  repeat still_step
                  refine wpStill_nil ?_
                  go_wp2_with
                    (first
                     | (go_at_call 32; refine call.mono ?_; rintro e w5 ⟨rfl, hB5⟩
                        have hB6 : Below wr.heap.size wr w5 := (Below.refl _ _).drew.trans hB5
                        have HB5 : Hid (Below wr.heap.size wr w5) := hB6
                        have hrow5 : RowIt w5 w.heap.size g' cap' P := own_below HRowP.out hB6 (fun b hb => (World.ownsRow.lt HRowP.out b hb).2)
                        have own5 : (w5.alloc (.cells #[.int .i64 n, .int .i64 0] 87)).ownsRow w.heap.size 87 2 (.slice (some ⟨g', 0, none⟩) P.length cap') P.length (flatI P) := World.ownsRow.alloc hrow5 _
                        have hsz5 : w.heap.size ≤ w5.heap.size := Nat.le_trans HW.out hB6.size
                        have hnw5 := World.news_of_block (cs := #[.int .i64 n, .int .i64 0]) (t := 87) (fr := (0, 0)) (heap_alloc_new w5 (.cells #[.int .i64 n, .int .i64 0] 87))
                        clear hB5 hB6 hrow5 call)
                     | (at_builtin
                        refine wpList_append_lies _ rfl _ _ _ rfl w.heap.size 87 i0 _ 2 16 Try.underlying84 hi0 hz0 hz1 hz2 rfl (by omega) (.slice (some ⟨g', 0, none⟩) P.length cap') P.length (flatI P) rfl own5
                          ⟨w5.heap.size, 0, none⟩ 1 1 [.int .i64 n, .int .i64 0] rfl rfl hnw5 (by simp [Value.oneCell']) (by omega) n1 n2 (by simp; omega) (w5.heap.size + 1) (by simp) ?_
                        intro g6 cap6 w6 hown6 hgrow6 hat6 hlt6))
                  have HRow6 : Hid (RowIt w6 w.heap.size g6 cap6 (P ++ [(n, 0)])) := by
                    show World.ownsRow _ _ _ _ _ _ _
                    rw [flatI_append, List.length_append]
                    exact hown6
                  have hB6 : Below w.heap.size w w6 := ((HBq.out.trans (HB5.out.mono HBq.out.size)).alloc hsz5 _).grown hgrow6 (by simp; omega) (fun b hb => by simp only [Value.ownBlock, Option.some.injEq] at hb; omega)
                  have HB6 : Hid (Below w.heap.size w w6) := hB6
                  have hs5 := HB5.out.size
                  have HSb6 : Hid (sb ≠ g6 ∧ sb < w6.heap.size ∧ w6.cell? ⟨sb, so + d * 2 + 1, none⟩ = some (.int .i64 L)) := by
                    have hlt5 : sb < w5.heap.size := Nat.lt_of_lt_of_le HSb3.out.2.1 hs5
                    have hne : sb ≠ g' := HSb3.out.1
                    refine ⟨?_, ?_, ?_⟩
                    · rcases hat6 with h | h
                      · simp only [Value.ownBlock, Option.some.injEq] at h; omega
                      · omega
                    · have := hgrow6.size
                      simp at this
                      omega
                    · rw [hgrow6.cell_far ⟨sb, so + d * 2 + 1, none⟩ (by simp; omega) (by simp only [Value.ownBlock, ne_eq, Option.some.injEq]; omega), World.cell?_alloc_past _ _ _ hlt5]
                      exact (HB5.out.cell (p := ⟨sb, so + d * 2 + 1, none⟩) HSb3.out.2.1).trans HSb3.out.2.2
                  clear hown6 hgrow6 hat6 hlt6 own5 hnw5 hB6 hi0 hz0 hz1 hz2 n1 n2
                  go_roundw
                  case rel => exact ⟨n + 1, g6, cap6, P ++ [(n, 0)], by simp, by go_num, by omega, by simp; omega, HPk2.out, HB6.out, HRow6.out, HN.out, HSb6.out⟩
                  case measure => simp [intOf]; omega
              · have e2 : (L == v) = false := by simpa using hLv
                have HN : Hid (CI R l P k (n + 1)) := HCP.out.pass fun _ m h1 h2 => by
                  rw [HPk.out] at h1
                  simp only at h1
                  rw [HRt.out, HGe.out] at h1
                  cases h1
                  rw [HL.out] at h2
                  exact absurd h2 hLv
                clear call
                go_wp2_with fail
                go_big_quiet (fail)
                go_wp2_with fail
                go_roundw
                case rel => exact ⟨n + 1, g', cap', P, rfl, by go_num, by omega, hkP, HPk.out, below_drewN HBq.out _, HRowP.out, HN.out, HSb3.out⟩
                case measure => simp [intOf]; omega
            · have HN : Hid (CI R l P (k + 1) 0) := HCP.out.done (by omega)
              clear hBq hrow hCI hPk hsb hA'
              go_wp2_with fail
              go_roundw
              case rel => exact ⟨k + 1, g', cap', P, rfl, by go_num, by omega, HBq.out, HRowP.out, HN.out⟩
              case measure => simp [intOf]; omega
    · have HAll : Hid (∀ i, i ∈ O ↔ Cl R (· ∈ l) i) := HCI.out.all (by omega)
      clear hB hrow hCI
      go_wp2_with fail
      go_ret
      have hfst : O.getD 0 (0, 0) = l.getD 0 (0, 0) := by
        obtain ⟨E, hE, _⟩ := HCI.out.pre
        rw [hE]
        simp [List.getD, List.getElem?_append_left hl0]
      exact ⟨g, cap, O, rfl, HRow.out, HB.out, HCI.out.nod, HAll.out, hlen, hfst⟩

end Go.Proofs.Ytkkcmcckdaobmaa
