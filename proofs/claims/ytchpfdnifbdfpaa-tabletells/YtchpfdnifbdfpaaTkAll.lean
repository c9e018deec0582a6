/- The contract of package table's findStates. -/
import Derived.Test.YtchpfdnifbdfpaaTkStatesAndTkFind
namespace Go.Proofs.Ytchpfdnifbdfpaa
open Go.RowKit

/-- So many states are done. -/
structure F1 (w0 ws : World) (d : TkA) (vs : TkV) (st : LS) (R : List Ru) (k : Nat) (v' : TkV) (ng : Nat) (wr : World) : Prop where
  m : TkM w0 wr d v' (goM d.T (allN d.T d.N R k).1) ng st
  s : SDk R v'.OL (allN d.T d.N R k).2
  few : v'.OL.length ≤ 150
  le : k ≤ v'.OL.length
  ng : ng ≤ k * 20
  ov : v'.ov = vs.ov
  g : TkG d vs v' ws wr
/-- .. and of the next one so many symbols. -/
structure F2 (w0 ws : World) (d : TkA) (vs : TkV) (st : LS) (R : List Ru) (k x : Nat) (v' : TkV) (ng : Nat) (wr : World) : Prop where
  m : TkM w0 wr d v' (goM d.T ((allN d.T d.N R k).1 ++ [(rowN d.T R k x (allN d.T d.N R k).2).1])) ng st
  s : SDk R v'.OL (rowN d.T R k x (allN d.T d.N R k).2).2
  few : v'.OL.length ≤ 150
  lt : k < v'.OL.length
  b : k < (allN d.T d.N R k).2.length
  ng : ng ≤ k * 20 + x
  ov : v'.ov = vs.ov
  g : TkG d vs v' ws wr

section
variable {w0 ws wr w' : World} {d : TkA} {vs v v' : TkV} {st : LS} {R : List Ru} {k x ng ng' : Nat}

theorem F1.into (h : F1 w0 ws d vs st R k v ng wr) (hk : k < v.OL.length) : F2 w0 ws d vs st R k 0 v ng wr :=
  ⟨by show TkM w0 wr d v (goM d.T ((allN d.T d.N R k).1 ++ [[]])) ng st; rw [goM_row]; exact h.m, h.s, h.few, hk, by rw [← h.s.len]; exact hk, h.ng, h.ov, h.g⟩
theorem F2.out (h : F2 w0 ws d vs st R k (d.T + d.N) v ng wr) (hTN : d.T + d.N ≤ 20) : F1 w0 ws d vs st R (k + 1) v ng wr := by
  have e : allN d.T d.N R (k + 1) = allS d.T d.N R k (allN d.T d.N R k) := rfl
  exact ⟨by rw [e]; exact h.m, by rw [e]; exact h.s, h.few, h.lt, by have := h.ng; omega, h.ov, h.g⟩

/-- Nothing is read on. -/
theorem F2.none (h : F2 w0 ws d vs st R k x v ng wr) (he : kernL d.T R (v.OL.getD k []) x (v.OL.getD k []).length = []) (hb : Below wr.heap.size wr w') : F2 w0 ws d vs st R k (x + 1) v ng w' := by
  have hv := h.s.visitNone h.lt he
  have e : rowN d.T R k (x + 1) (allN d.T d.N R k).2 = rowS d.T R k x (rowN d.T R k x (allN d.T d.N R k).2) := rfl
  refine ⟨?_, ?_, h.few, h.lt, h.b, by have := h.ng; omega, h.ov, h.g.trans (TkG.ofBelow hb)⟩
  · rw [e, rowS]
    simp only
    rw [hv, goM_add, if_neg (by omega)]
    exact h.m.below hb
  · rw [e, rowS]
    simp only
    rw [hv]
    exact h.s

/-- A state is gone on to. -/
theorem F2.some (h : F2 w0 ws d vs st R k x v ng wr) (hne : kernL d.T R (v.OL.getD k []) x (v.OL.getD k []).length ≠ []) {C : List It} (hs : C.Pairwise ltI) (hC : ∀ i, i ∈ C ↔ Cl R (· ∈ kernL d.T R (v.OL.getD k []) x (v.OL.getD k []).length) i) {n : Nat} (ht : StTo v.OL C n v'.OL)
    (hm : TkM w0 w' d v' (setM (goM d.T ((allN d.T d.N R k).1 ++ [(rowN d.T R k x (allN d.T d.N R k).2).1])) (k, symN d.T x) (.int .i64 n)) (ng + 1) st) (hov : v'.ov = v.ov) (hg : TkG d v v' wr w') :
    (SDk R v'.OL (rowN d.T R k (x + 1) (allN d.T d.N R k).2).2) ∧ (v'.OL.length ≤ 150 → F2 w0 ws d vs st R k (x + 1) v' (ng + 1) w') := by
  obtain ⟨hv1, hv2⟩ := h.s.visit h.lt hne hs hC ht
  have e : rowN d.T R k (x + 1) (allN d.T d.N R k).2 = rowS d.T R k x (rowN d.T R k x (allN d.T d.N R k).2) := rfl
  have hS : SDk R v'.OL (rowN d.T R k (x + 1) (allN d.T d.N R k).2).2 := by rw [e, rowS]; exact hv2
  refine ⟨hS, fun hf => ⟨?_, hS, hf, ?_, h.b, by have := h.ng; omega, hov.trans h.ov, h.g.trans hg⟩⟩
  · have hl := row_len (T := d.T) (R := R) k x (allN d.T d.N R k).2
    have hl2 := all_len (T := d.T) (N := d.N) (R := R) k
    rw [e, rowS]
    simp only
    rw [hv1, goM_add, if_pos (Int.natCast_nonneg _), hl, hl2]
    exact hm
  · rcases ht with ⟨_, _, e2⟩ | ⟨_, _, e2⟩
    · rw [e2]; exact h.lt
    · rw [e2, List.length_append]; have := h.lt; omega

theorem F2.lens (h : F2 w0 ws d vs st R k x v ng wr) {Nu : List Bool} {Fi : List (List Bool)} (E : TkE w0 d R Nu Fi) : ∀ j, j < v.OL.length → (v.OL.getD j []).length ≤ 369 := fun j hj => by
  have := ok_len E.right8 (h.s.rep j hj).nod (h.s.ok j hj)
  have := E.hR
  omega
end

/-- What is told of the states. -/
def Found1 (w0 w : World) (d : TkA) (v : TkV) (st : LS) (R : List Ru) (e : Ending) (w' : World) : Prop :=
  (e = .returned (.bool false) ∧ More d.T d.N R 150 ∧ Below w0.heap.size w w') ∨
  (e = .returned (.bool true) ∧ ∃ K v' ng, F1 w0 w d v st R K v' ng w' ∧ v'.OL.length = K)

set_option maxRecDepth 100000 in
set_option maxHeartbeats 6400000 in
theorem tk_findStates {w0 w : World} {d : TkA} {v : TkV} {st : LS} {R : List Ru} {Nu : List Bool} {Fi : List (List Bool)} (E : TkE w0 d R Nu Fi) (h : TkM w0 w d v (goM d.T []) 0 st) (hOL : v.OL = []) :
    Calls Try.prog 11 #[.pointer (some ⟨d.ma, 0, none⟩)] w (Found1 w0 w d v st R) := by
  have hR := E.hR
  have abv := tk_above (h.auto E)
  have hM1 := h.alloc (.cells #[.int .i64 R.length, .int .i64 0] 78)
  have hI1 : ItemsAt (w.alloc (.cells #[.int .i64 R.length, .int .i64 0] 78)) (w.alloc (.cells #[.int .i64 R.length, .int .i64 0] 78)).heap.size (.slice (some ⟨w.heap.size, 0, none⟩) 1 1) [(R.length, 0)] := by
    refine ⟨⟨_, _, rfl⟩, fun k hk => ?_⟩
    obtain rfl : k = 0 := by simpa using hk
    exact ⟨w.heap.size, 0, 1, rfl, by simp, by simp [go_sem], by simp [go_sem]⟩
  have sof := tk_stateOf E hM1 hI1 ⟨by simp, by simp, by simp, fun x hx => by simp only [List.mem_singleton] at hx; rw [hx]; exact ⟨Nat.le_refl _, Nat.zero_le _⟩, fun x hx _ => by simp only [List.mem_singleton] at hx; rw [hx]⟩ (by rw [hOL]; simp) (fun k hk => by rw [hOL] at hk; exact absurd hk (Nat.not_lt_zero _))
  have HE : Hid (TkE w0 d R Nu Fi) := E
  have HM : Hid (TkM w0 w d v (goM d.T []) 0 st) := h
  have HOL : Hid (v.OL = []) := hOL
  have hT := E.hT
  have hN := E.hN.2
  have hN1 := E.hN.1
  clear E h hM1 hI1 hOL
  go_enter Try.func11, Try.ntmps11
  go_wp2_with
    (first
     | (go_at_call 27; refine abv.mono ?_; rintro e w1 ⟨rfl, rfl⟩)
     | (go_at_call 26; refine sof.mono ?_; rintro e w2 ⟨n, v2, C, rfl, hCs, hCm, hSt, hov, hM2, hG2⟩
        have hF : F1 w0 w1 d v st R 0 v2 0 w2 := by
          have hOL2 : v2.OL = [C] := by
            rw [HOL.out] at hSt
            rcases hSt with ⟨h1, _, _⟩ | ⟨_, _, h3⟩
            · exact absurd h1 (Nat.not_lt_zero _)
            · simpa using h3
          refine ⟨?_, ?_, by rw [hOL2]; simp, Nat.zero_le _, Nat.le_refl _, hov, (TkG.ofBelow ((Below.refl _ _).alloc (Nat.le_refl _) _)).trans hG2⟩
          · exact hM2
          · rw [hOL2]; exact sdk_start hCs hCm
        have sys := tk_symbols (hM2.auto HE.out) hT hN
        have HF : Hid (F1 w0 w1 d v st R 0 v2 0 w2) := hF
        clear hF hCs hCm hSt hov hM2 hG2 sof abv)
     | (go_at_call 28; refine sys.mono ?_; rintro e w3 ⟨yv, rfl, hrow, hB3⟩
        obtain ⟨ya, yc, hyv⟩ := own_form hrow
        subst hyv
        have HF3 : Hid (F1 w0 w1 d v st R 0 v2 0 w3) := ⟨HF.out.m.below hB3, HF.out.s, HF.out.few, HF.out.le, HF.out.ng, HF.out.ov, HF.out.g.trans (TkG.ofBelow hB3)⟩
        have HY : Hid (w3.ownsRow w2.heap.size 56 2 (.slice ya (d.T + d.N) yc) (d.T + d.N) ((symsL d.T (d.T + d.N)).flatMap tkY) ∧ ∀ g, (Value.slice ya (d.T + d.N) yc).ownBlock = some g → ¬ TkK d v2 g) := ⟨hrow, fun g hg hk => by
          have := (hrow.lt g hg).1
          have := (HF.out.m.kc hk).2
          omega⟩
        clear hrow hB3 sys HF))
  go_loopw [4] (fun s4 wr => ∃ (k : Nat) (v' : TkV) (ng : Nat), s4 = .int .i64 k ∧ F1 w0 w1 d v st R k v' ng wr ∧ TkG d v2 v' w3 wr) (fun s _ => 151 - (intOf s).toNat)
  case atStart => exact ⟨0, v2, 0, rfl, HF3.out, TkG.refl _ _ _⟩
  case round =>
    clear HF3
    obtain ⟨k, v', ng, rfl, hF, hG⟩ := hrel
    have HF : Hid (F1 w0 w1 d v st R k v' ng wr) := hF
    have HG : Hid (TkG d v2 v' w3 wr) := hG
    have c6 := (hF.m.cell (i := 6) rfl (by omega)).1
    obtain ⟨sa, sc, hsv⟩ := hF.m.states
    rw [hsv] at c6
    have hfew := hF.few
    have hle := hF.le
    clear hF hG hsv
    by_cases hlt : k < v'.OL.length
    · obtain ⟨p, hp⟩ : ∃ p, v'.OL.length = p := ⟨_, rfl⟩
      rw [hp] at c6 hfew hle hlt
      have HP : Hid (v'.OL.length = p) := hp
      clear hp
      go_wp2_with fail
      clear c6
      go_loopw [27] (fun s27 wq => ∃ (x : Nat) (v' : TkV) (ng : Nat), s27 = .int .i64 x ∧ x ≤ d.T + d.N ∧ F2 w0 w1 d v st R k x v' ng wq ∧ TkG d v2 v' w3 wq) (fun s _ => d.T + d.N - (intOf s).toNat)
      case atStart => exact ⟨0, v', ng, rfl, Nat.zero_le _, HF.out.into (by rw [HP.out]; exact hlt), HG.out⟩
      case round =>
        clear HF HG HP
        obtain ⟨x, v', ng, rfl, hx, hF, hG⟩ := hrel
        have HF : Hid (F2 w0 w1 d v st R k x v' ng wr) := hF
        have HG : Hid (TkG d v2 v' w3 wr) := hG
        by_cases hxlt : x < d.T + d.N
        · have hrow := row_goes HY.out.1 hG HY.out.2
          obtain ⟨yg, ycap, hyv, _, _⟩ := hrow.form (by omega)
          cases hyv
          have q : ∀ i, i < 2 → wr.cell? ⟨yg, x * 2 + i, none⟩ = (tkY (symN d.T x))[i]? := fun i hi => by
            rw [hrow.cellAt (x * 2 + i) (by omega), tkY_get (by rw [symsL_len]; exact hxlt) hi, symsL_get hxlt]
          have q0 := q 0 (by omega)
          have q1 := q 1 (by omega)
          have hlens := hF.lens HE.out
          have hkl := kernL_len (T := d.T) (R := R) (x := x) (O := v'.OL.getD k []) (j := (v'.OL.getD k []).length)
          have hk3 := hlens k hF.lt
          have bgn := tk_begin (x := x) HE.out (hF.m.alloc (.cells #[.bool (symN d.T x).1, .int .i64 (symN d.T x).2] 56)) hF.s hF.lt
          have hX := hF.m.box #[.bool (symN d.T x).1, .int .i64 (symN d.T x).2] 56
          have hM1 := hF.m.alloc (.cells #[.bool (symN d.T x).1, .int .i64 (symN d.T x).2] 56)
          have hbeg : kernL d.T R (v'.OL.getD k []) x (v'.OL.getD k []).length ≠ [] → Begin R (kernL d.T R (v'.OL.getD k []) x (v'.OL.getD k []).length) := fun hne =>
            ⟨kernL_nodup (hF.s.rep k hF.lt).nod, List.length_pos_iff.2 hne, by omega, fun i hi => (hF.s.kernOk hF.lt i hi).1, fun i hi h0 => absurd h0 (hF.s.kernOk hF.lt i hi).2⟩
          have hsy : 0 ≤ (symN d.T x).2 ∧ (symN d.T x).2 ≤ 20 := by unfold symN; split <;> simp <;> omega
          have hfew2 := hF.few
          have hkb : k < v'.OL.length := hF.lt
          have hng := hF.ng
          obtain ⟨y, hy⟩ : ∃ y, symN d.T x = y := ⟨_, rfl⟩
          have HSy : Hid (symN d.T x = y) := hy
          rw [hy] at q0 q1 bgn hX hM1 hsy
          obtain ⟨L, hL⟩ : ∃ L, kernL d.T R (v'.OL.getD k []) x (v'.OL.getD k []).length = L := ⟨_, rfl⟩
          have HL : Hid (kernL d.T R (v'.OL.getD k []) x (v'.OL.getD k []).length = L) := hL
          rw [hL] at hkl bgn hbeg
          have HBeg : Hid (L ≠ [] → Begin R L) := hbeg
          have HLens : Hid (∀ j, j < v'.OL.length → (v'.OL.getD j []).length ≤ 369) := hlens
          obtain ⟨yb, yn⟩ := y
          simp only [tkY, Nat.add_zero] at q0 q1 bgn hX hM1 hsy
          have q0' : wr.cell? ⟨yg, x * 2, none⟩ = some (.bool yb) := q0
          have q1' : wr.cell? ⟨yg, x * 2 + 1, none⟩ = some (.int .i64 yn) := q1
          obtain ⟨Gx, hGx⟩ : ∃ Gx, goM d.T ((allN d.T d.N R k).1 ++ [(rowN d.T R k x (allN d.T d.N R k).2).1]) = Gx := ⟨_, rfl⟩
          rw [hGx] at hM1
          have HGx : Hid (goM d.T ((allN d.T d.N R k).1 ++ [(rowN d.T R k x (allN d.T d.N R k).2).1]) = Gx) := hGx
          have HX1 : Hid (TkL (wr.alloc (.cells #[.bool yb, .int .i64 yn] 56)) d v' wr.heap.size #[.bool yb, .int .i64 yn] 56) := hX
          have HM1 : Hid (TkM w0 (wr.alloc (.cells #[.bool yb, .int .i64 yn] 56)) d v' Gx ng st) := hM1
          have i0 : (0 : Int) ≤ (x : Int) := Int.natCast_nonneg _
          have i1 : (x : Int) < ((d.T + d.N : Nat) : Int) := by omega
          have i2 : (x : Int) < (d.T : Int) + (d.N : Int) := by omega
          clear hF hG hrow q q0 q1 hy hL hlens hbeg hX hM1 hGx
          by_cases hnil : L = []
          · subst hnil
            go_wp2_with
              (go_at_call 29; refine bgn.mono ?_; rintro e w4 ⟨ov, rfl, hrow4, hB4⟩
               obtain ⟨oa, oc, hov⟩ := own_form hrow4
               simp only [List.length_nil] at hov
               subst hov
               have HB4 : Hid (Below wr.heap.size wr w4) := ((Below.refl _ _).alloc (Nat.le_refl _) _).trans (hB4.mono (by simp))
               clear hrow4 hB4)
            go_roundw
            case rel => exact ⟨x + 1, v', ng, by go_num, by omega, HF.out.none HL.out HB4.out, HG.out.trans (TkG.ofBelow HB4.out)⟩
            case measure => simp [intOf]; omega
          · have hpos : 0 < L.length := List.length_pos_iff.2 hnil
            have e1 : ((L.length : Int) == 0) = false := by simp; omega
            have HNil : Hid (L ≠ []) := hnil
            clear hnil
            go_wp2_with
              (go_at_call 29; refine bgn.mono ?_; rintro e w4 ⟨ov, rfl, hrow4, hB4⟩
               obtain ⟨oa, oc, hov⟩ := own_form hrow4
               subst hov
               have hM4 := HM1.out.below hB4
               have HM4 : Hid (TkM w0 w4 d v' Gx ng st) := hM4
               have HX4 : Hid (TkL w4 d v' wr.heap.size #[.bool yb, .int .i64 yn] 56) := HX1.out.below hB4
               have HB4 : Hid (Below wr.heap.size wr w4) := ((Below.refl _ _).alloc (Nat.le_refl _) _).trans (hB4.mono (by simp))
               have sof := tk_stateOf HE.out hM4.drew (show ItemsAt w4.drew w4.drew.heap.size _ _ from tk_items hrow4 rfl) (HBeg.out HNil.out) hfew2 (fun j hj => by have := HLens.out j hj; omega)
               clear hrow4 hB4 hM4 bgn)
            have keep : ∀ {wx : World} {u : TkV} {Gu : Wy → Option Value} {nu : Nat}, TkM w0 wx d u Gu nu st → TkL wx d u wr.heap.size #[.bool yb, .int .i64 yn] 56 →
                wx.cell? ⟨d.ma, 7, none⟩ = some (.map (some d.mg)) ∧ wx.cell? ⟨wr.heap.size, 0, none⟩ = some (.bool yb) ∧ wx.cell? ⟨wr.heap.size, 1, none⟩ = some (.int .i64 yn) := fun {wx u Gu nu} hM hX =>
              ⟨(hM.cell (i := 7) rfl (by omega)).1, hX.cell rfl, hX.cell rfl⟩
            have hS4 := keep HM4.out.drew HX4.out.drew
            have HKeep : Hid (∀ {wx : World} {u : TkV} {Gu : Wy → Option Value} {nu : Nat}, TkM w0 wx d u Gu nu st → TkL wx d u wr.heap.size #[.bool yb, .int .i64 yn] 56 →
                wx.cell? ⟨d.ma, 7, none⟩ = some (.map (some d.mg)) ∧ wx.cell? ⟨wr.heap.size, 0, none⟩ = some (.bool yb) ∧ wx.cell? ⟨wr.heap.size, 1, none⟩ = some (.int .i64 yn)) := keep
            clear keep
            obtain ⟨s0, s1, s2⟩ := hS4
            go_cut [] from 28 (fun wx => ∃ (n : Nat) (v5 : TkV) (C : List It), C.Pairwise ltI ∧ (∀ i, i ∈ C ↔ Cl R (· ∈ L) i) ∧ StTo v'.OL C n v5.OL ∧ v5.ov = v'.ov ∧ TkM w0 wx d v5 (setM Gx (k, (yb, yn)) (.int .i64 n)) (ng + 1) st ∧ TkG d v' v5 wr wx)
            case first =>
              go_region_held3 (fun wx => wx.cell? ⟨d.ma, 7, none⟩ = some (.map (some d.mg)) ∧ wx.cell? ⟨wr.heap.size, 0, none⟩ = some (.bool yb) ∧ wx.cell? ⟨wr.heap.size, 1, none⟩ = some (.int .i64 yn)) (first | assumption | exact ⟨s0, s1, s2⟩ | go_keep)
                (first
                 | (go_at_call 26; refine sof.mono ?_; rintro e w5 ⟨n, v5, C, rfl, hCs, hCm, hSt, hov, hM5, hG5⟩
                    have hX5 := HX4.out.drew.goes hG5
                    have hS5 := HKeep.out hM5 hX5
                    obtain ⟨w6, u6, hM6, hG6, -⟩ := hM5.putG (p := (k, (yb, yn))) (by simp only; omega) hsy.1 (by simp only; omega) (.int .i64 n)
                    unfold wyV at u6
                    simp only at u6
                    have hS6 := HKeep.out hM6 (hX5.goes hG6)
                    have H6 : Hid (C.Pairwise ltI ∧ (∀ i, i ∈ C ↔ Cl R (· ∈ L) i) ∧ StTo v'.OL C n v5.OL ∧ v5.ov = v'.ov ∧ TkM w0 w6 d v5 (setM Gx (k, (yb, yn)) (.int .i64 n)) (ng + 1) st ∧ TkG d v' v5 wr w6) := ⟨hCs, hCm, hSt, hov, hM6, ((TkG.ofBelow HB4.out).drew.trans hG5).trans hG6⟩
                    clear hCs hCm hSt hov hM5 hG5 hX5 hM6 hG6))
              all_goals
                go_wp2_with fail
                go_meet
                case rel => exact ⟨n, v5, C, H6.out⟩
            case rest =>
              obtain ⟨n, v5, C, hCs, hCm, hSt, hov, hM5, hG5⟩ := hcut
              have c6 := (hM5.cell (i := 6) rfl (by omega)).1
              obtain ⟨sa5, sc5, hsv5⟩ := hM5.states
              rw [hsv5] at c6
              obtain ⟨r1, r2⟩ := HF.out.some (by rw [HL.out]; exact HNil.out) hCs (by rw [HL.out]; exact hCm) hSt (by rw [HGx.out, HSy.out]; exact hM5) hov hG5
              have hlen5 := r1.len
              have hp5 : v5.OL.length ≤ 151 := by
                rcases hSt with ⟨_, _, e2⟩ | ⟨_, _, e2⟩
                · rw [e2]; omega
                · rw [e2, List.length_append, List.length_cons, List.length_nil]; omega
              have HR2 : Hid (v5.OL.length ≤ 150 → F2 w0 w1 d v st R k (x + 1) v5 (ng + 1) wc) := r2
              have HMore : Hid (150 < v5.OL.length → More d.T d.N R 150) := fun hgt => ⟨k, x + 1, HF.out.b, by omega, by rw [← hlen5]; exact hgt⟩
              have HG5 : Hid (TkG d v' v5 wr wc) := hG5
              have HBl : Hid (Below w0.heap.size w1 wc) := (HM.out.goes_below HF.out.g).trans (HF.out.m.goes_below hG5)
              obtain ⟨p5, hp⟩ : ∃ p5, v5.OL.length = p5 := ⟨_, rfl⟩
              rw [hp] at c6 hp5 HR2 HMore
              clear hCs hCm hSt hov hM5 hG5 hsv5 r1 r2 hlen5 s0 s1 s2 sof hp
              by_cases hgt : p5 ≤ 150
              · have d1 : decide (150 < p5) = false := decide_eq_false (by omega)
                go_wp2_with fail
                go_roundw
                case rel => exact ⟨x + 1, v5, ng + 1, by go_num, by omega, HR2.out hgt, HG.out.trans HG5.out⟩
                case measure => simp [intOf]; omega
              · have d1 : decide (150 < p5) = true := decide_eq_true (by omega)
                go_wp2_with fail
                go_ret
                exact .inl ⟨rfl, HMore.out (by omega), HBl.out⟩
        · obtain rfl : x = d.T + d.N := by omega
          clear hF hG
          go_wp2_with fail
          go_roundw
          case rel => exact ⟨k + 1, v', ng, by go_num, HF.out.out (by omega), HG.out⟩
          case measure => simp [intOf]; omega
    · have HE2 : Hid (v'.OL.length = k) := by show v'.OL.length = k; omega
      go_wp2_with fail
      go_ret
      exact .inr ⟨rfl, k, v', ng, HF.out, HE2.out⟩

end Go.Proofs.Ytchpfdnifbdfpaa
