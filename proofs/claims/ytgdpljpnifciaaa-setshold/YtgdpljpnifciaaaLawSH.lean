/- The law pollardinglaw.SetsHold: it returns true. -/
import Derived.Test.YtgdpljpnifciaaaSetsOf
import Derived.Test.YtgdpljpnifciaaaFirstMath
import Derived.Test.YtgdpljpnifciaaaThrUse
import Derived.BigQuiet
namespace Go.Proofs.Ytgdpljpnifciaaa
open Go.RowKit

set_option maxRecDepth 100000 in
set_option maxHeartbeats 1600000 in
theorem setsHold_not {w : World} {T N : Int} {rv dv : Value} {R : List Ru} {D : List Int} (hr : RulesAt w w.heap.size rv R) (hd : ListAt w w.heap.size dv D) (hm : mayB T N R = false) :
    Calls Try.prog 3 #[.agg #[.int .i64 T, .int .i64 N, rv], dv] w fun e w' => e = .returned (.bool true) ∧ Below w.heap.size w w' := by
  obtain ⟨ra, rc, hrv⟩ := hr.1
  obtain ⟨da, dc, hdv⟩ := hd.1
  subst hrv
  subst hdv
  have HR1 : Hid (RulesAt (w.alloc (.cells #[.int .i64 T, .int .i64 N, .slice ra R.length rc] 24)) (w.alloc (.cells #[.int .i64 T, .int .i64 N, .slice ra R.length rc] 24)).heap.size (.slice ra R.length rc) R) := hr.boxed _
  have sets := setsOf_not (T := T) (N := N) HR1.out hm
  have HM : Hid (mayB T N R = false) := hm
  have HB1 : Hid (Below w.heap.size w (w.alloc (.cells #[.int .i64 T, .int .i64 N, .slice ra R.length rc] 24))) := (Below.refl _ _).alloc (Nat.le_refl _) _
  clear hr hm hd
  go_enter Try.func3, Try.ntmps3
  go_wp2_with
    (first
     | (go_at_call 4; refine sets.mono ?_; rintro e w2 ⟨rfl, hB2⟩
        have b0 : w2.cell? ⟨w.heap.size, 0, none⟩ = some (.int .i64 T) := (hB2.cell (by simp)).trans (by simp [go_sem])
        have b1 : w2.cell? ⟨w.heap.size, 1, none⟩ = some (.int .i64 N) := (hB2.cell (by simp)).trans (by simp [go_sem])
        have b2 : w2.cell? ⟨w.heap.size, 2, none⟩ = some (.slice ra R.length rc) := (hB2.cell (by simp)).trans (by simp [go_sem])
        have hs2 : w.heap.size < w2.heap.size := by have := hB2.size; simp at this; omega
        have m0 : (w2.alloc (.cells #[.slice none 0 0, .slice none 0 0, .slice none 0 0] 29)).cell? ⟨w.heap.size, 0, none⟩ = some (.int .i64 T) := by rw [World.cell?_alloc_past _ _ _ hs2]; exact b0
        have m1 : (w2.alloc (.cells #[.slice none 0 0, .slice none 0 0, .slice none 0 0] 29)).cell? ⟨w.heap.size, 1, none⟩ = some (.int .i64 N) := by rw [World.cell?_alloc_past _ _ _ hs2]; exact b1
        have m2 : (w2.alloc (.cells #[.slice none 0 0, .slice none 0 0, .slice none 0 0] 29)).cell? ⟨w.heap.size, 2, none⟩ = some (.slice ra R.length rc) := by rw [World.cell?_alloc_past _ _ _ hs2]; exact b2
        have hR2 : RulesAt w2 w2.heap.size (.slice ra R.length rc) R := (HR1.out.below hB2).mono hB2.size
        have HR3 : Hid (RulesAt (w2.alloc (.cells #[.slice none 0 0, .slice none 0 0, .slice none 0 0] 29)) (w2.alloc (.cells #[.slice none 0 0, .slice none 0 0, .slice none 0 0] 29)).heap.size (.slice ra R.length rc) R) := hR2.boxed _
        have thr := thr_not (T := T) (N := N) (da := da) (dl := D.length) (dc := dc) HR3.out (.inl HM.out)
        unfold noThrough at thr
        have HB2 : Hid (Below w.heap.size w w2) := HB1.out.trans (hB2.mono (by simp))
        clear hB2 hR2 sets)
     | (go_at_call 5; refine thr.mono ?_; rintro e w3 ⟨rfl, hB3⟩
        have g0 : w3.cell? ⟨w.heap.size, 0, none⟩ = some (.int .i64 T) := (hB3.cell (by simp; omega)).trans m0
        have g1 : w3.cell? ⟨w.heap.size, 1, none⟩ = some (.int .i64 N) := (hB3.cell (by simp; omega)).trans m1
        have g2 : w3.cell? ⟨w.heap.size, 2, none⟩ = some (.slice ra R.length rc) := (hB3.cell (by simp; omega)).trans m2
        have may := may1_any (T := T) (N := N) ((HR3.out.below hB3).mono hB3.size)
        rw [HM.out] at may
        have HB3 : Hid (Below w.heap.size w w3) := (HB2.out.alloc (by omega) _).trans (hB3.mono (by simp; omega))
        clear hB3 thr m0 m1 m2)
     | (go_at_call 6; refine may.mono ?_; rintro e w4 ⟨rfl, hB4⟩))
  go_ret
  exact ⟨rfl, HB3.out.trans (hB4.mono (by have := HB3.out.size; omega))⟩

/-- What sets.Of leaves, for the law. -/
structure Left2 (w : World) (T N : Nat) (R : List Ru) (na fa : Option Addr) (nc fc : Nat) : Prop where
  null : ∃ g o, na = some ⟨g, o, none⟩ ∧ ∃ x, w.cell? ⟨g, o, none⟩ = some (.bool x) ∧ (NullP N R 0 → x = true)
  first : ∃ g o, fa = some ⟨g, o, none⟩ ∧ ∃ ra rc, w.cell? ⟨g, o, none⟩ = some (.slice ra T rc) ∧ ∀ t, t < T → ∃ b p, ra = some ⟨b, p, none⟩ ∧ ∃ x, w.cell? ⟨b, p + t, none⟩ = some (.bool x) ∧ (FirstP N R t 0 → x = true)

theorem left_of {w : World} {B T N gb : Nat} {na fa : Option Addr} {nc fc : Nat} {vf vg : Nat → Value} {R : List Ru} {Y : Xs} (hf : Fine T N R) (h : Bt w B (STab T N (.slice na N nc) vf vg gb) Y) (hF : Heads w (STab T N (.slice na N nc) vf vg gb).K N (.slice fa N fc) vf)
    (hA : AtHead T N R Y) (hg : bit Y .gr 0 = false) : Left2 w T N R na fa nc fc := by
  have h1 := hf.some
  obtain ⟨l1, l2, _⟩ := least_of_still hf hA.shp hA.snd (hA.held hg) hA.fin
  refine ⟨?_, ?_⟩
  · obtain ⟨g, cap, hv, _, _⟩ := Bt.form (i := Iy.null) (n := N) h rfl (by omega)
    have hv' : Value.slice na N nc = .slice (some ⟨g, 0, none⟩) N cap := hv
    cases hv'
    exact ⟨g, 0, rfl, _, (Bt.cell (i := Iy.null) (n := N) h rfl rfl (m := 0) (by omega)).1, fun hn => (l1 0 (by omega)).2 hn⟩
  · obtain ⟨g, c, hv, _, h3⟩ := hF.2 0 (by omega)
    cases hv
    have hd : sdom T N (.f 0) = some T := by simp [sdom]; omega
    obtain ⟨ra, rc, hvr⟩ := Bt.slice (i := Iy.f 0) (n := T) h hd
    have hvr' : vf 0 = .slice ra T rc := hvr
    refine ⟨g, 0, rfl, ra, rc, by rw [h3, hvr'], fun t ht => ?_⟩
    obtain ⟨b, cap, hvb, _, _⟩ := Bt.form (i := Iy.f 0) (n := T) h hd (by omega)
    have e := hvr.symm.trans hvb
    cases e
    have hc := (Bt.cell (i := Iy.f 0) (n := T) h hd hvb ht).1
    exact ⟨b, 0, rfl, _, by rw [Nat.zero_add]; exact hc, fun hn => (l2 0 t (by omega) ht).2 hn⟩

theorem Left2.below {w w' : World} {T N : Nat} {R : List Ru} {na fa : Option Addr} {nc fc : Nat} (h : Left2 w T N R na fa nc fc) (hb : Below w.heap.size w w') : Left2 w' T N R na fa nc fc := by
  obtain ⟨⟨g, o, e, x, h1, h2⟩, ⟨g', o', e', ra, rc, h3, h4⟩⟩ := h
  refine ⟨⟨g, o, e, x, (hb.cell (World.block_lt_of_cell? w _ h1)).trans h1, h2⟩, ⟨g', o', e', ra, rc, (hb.cell (World.block_lt_of_cell? w _ h3)).trans h3, fun t ht => ?_⟩⟩
  obtain ⟨b, p, e, x, h5, h6⟩ := h4 t ht
  exact ⟨b, p, e, x, (hb.cell (World.block_lt_of_cell? w _ h5)).trans h5, h6⟩

set_option maxRecDepth 100000 in
set_option maxHeartbeats 1600000 in
theorem setsHold_none {w : World} {T N : Nat} {rv dv : Value} {R : List Ru} {D : List Int} (hr : RulesAt w w.heap.size rv R) (hd : ListAt w w.heap.size dv D) (hm : mayB T N R = true) (hn : readF R D = none) :
    Calls Try.prog 3 #[.agg #[.int .i64 T, .int .i64 N, rv], dv] w fun e w' => e = .returned (.bool true) ∧ Below w.heap.size w w' := by
  obtain ⟨ra, rc, hrv⟩ := hr.1
  obtain ⟨da, dc, hdv⟩ := hd.1
  subst hrv
  subst hdv
  have HR1 : Hid (RulesAt (w.alloc (.cells #[.int .i64 T, .int .i64 N, .slice ra R.length rc] 24)) (w.alloc (.cells #[.int .i64 T, .int .i64 N, .slice ra R.length rc] 24)).heap.size (.slice ra R.length rc) R) := hr.boxed _
  have HL1 : Hid (ListAt (w.alloc (.cells #[.int .i64 T, .int .i64 N, .slice ra R.length rc] 24)) (w.alloc (.cells #[.int .i64 T, .int .i64 N, .slice ra R.length rc] 24)).heap.size (.slice da D.length dc) D) := hd.boxed _
  have sets := setsOf_may (T := T) (N := N) HR1.out hm
  have HM : Hid (mayB T N R = true) := hm
  have HN : Hid (readF R D = none) := hn
  have HB1 : Hid (Below w.heap.size w (w.alloc (.cells #[.int .i64 T, .int .i64 N, .slice ra R.length rc] 24))) := (Below.refl _ _).alloc (Nat.le_refl _) _
  clear hr hm hd hn
  go_enter Try.func3, Try.ntmps3
  go_wp2_with
    (first
     | (go_at_call 4; refine sets.mono ?_; rintro e w2 ⟨nv, fv, gv, vf, vg, rfl, hB2, gb, B, Y, hBB, hA, hg, hBt, hF, hG⟩
        obtain ⟨na, nc, hnv'⟩ := Bt.slice (i := Iy.null) (n := N) hBt rfl
        have hnv : nv = .slice na N nc := hnv'
        clear hnv'
        obtain ⟨fa, fc, hfv⟩ := hF.1
        obtain ⟨ga, gc, hgv⟩ := hG.1
        subst hnv
        subst hfv
        subst hgv
        have b0 : w2.cell? ⟨w.heap.size, 0, none⟩ = some (.int .i64 T) := (hB2.cell (by simp)).trans (by simp [go_sem])
        have b1 : w2.cell? ⟨w.heap.size, 1, none⟩ = some (.int .i64 N) := (hB2.cell (by simp)).trans (by simp [go_sem])
        have b2 : w2.cell? ⟨w.heap.size, 2, none⟩ = some (.slice ra R.length rc) := (hB2.cell (by simp)).trans (by simp [go_sem])
        have hs2 : w.heap.size < w2.heap.size := by have := hB2.size; simp at this; omega
        have m0 : (w2.alloc (.cells #[.slice na N nc, .slice fa N fc, .slice ga N gc] 29)).cell? ⟨w.heap.size, 0, none⟩ = some (.int .i64 T) := by rw [World.cell?_alloc_past _ _ _ hs2]; exact b0
        have m1 : (w2.alloc (.cells #[.slice na N nc, .slice fa N fc, .slice ga N gc] 29)).cell? ⟨w.heap.size, 1, none⟩ = some (.int .i64 N) := by rw [World.cell?_alloc_past _ _ _ hs2]; exact b1
        have m2 : (w2.alloc (.cells #[.slice na N nc, .slice fa N fc, .slice ga N gc] 29)).cell? ⟨w.heap.size, 2, none⟩ = some (.slice ra R.length rc) := by rw [World.cell?_alloc_past _ _ _ hs2]; exact b2
        have hR2 : RulesAt w2 w2.heap.size (.slice ra R.length rc) R := (HR1.out.below hB2).mono hB2.size
        have hL2 : ListAt w2 w2.heap.size (.slice da D.length dc) D := (HL1.out.below hB2).mono hB2.size
        have HR3 : Hid (RulesAt (w2.alloc (.cells #[.slice na N nc, .slice fa N fc, .slice ga N gc] 29)) (w2.alloc (.cells #[.slice na N nc, .slice fa N fc, .slice ga N gc] 29)).heap.size (.slice ra R.length rc) R) := hR2.boxed _
        have thr := thr_none (T := T) (N := N) HR3.out (hL2.boxed _) HM.out HN.out
        unfold noThrough at thr
        have HB2 : Hid (Below w.heap.size w w2) := HB1.out.trans (hB2.mono (by simp))
        clear hB2 hR2 hL2 sets hBB hA hg hBt hF hG)
     | (go_at_call 5; refine thr.mono ?_; rintro e w3 ⟨rfl, hB3⟩
        have g0 : w3.cell? ⟨w.heap.size, 0, none⟩ = some (.int .i64 T) := (hB3.cell (by simp; omega)).trans m0
        have g1 : w3.cell? ⟨w.heap.size, 1, none⟩ = some (.int .i64 N) := (hB3.cell (by simp; omega)).trans m1
        have g2 : w3.cell? ⟨w.heap.size, 2, none⟩ = some (.slice ra R.length rc) := (hB3.cell (by simp; omega)).trans m2
        have s0 : w3.cell? ⟨w2.heap.size, 0, none⟩ = some (.slice na N nc) := (hB3.cell (by simp)).trans (by simp [go_sem])
        have s1 : w3.cell? ⟨w2.heap.size, 1, none⟩ = some (.slice fa N fc) := (hB3.cell (by simp)).trans (by simp [go_sem])
        have hs3 : w2.heap.size < w3.heap.size := by have := hB3.size; simp at this; omega
        have may := may1_any (T := T) (N := N) ((HR3.out.below hB3).mono hB3.size)
        rw [HM.out] at may
        have HB3 : Hid (Below w.heap.size w w3) := (HB2.out.alloc (by omega) _).trans (hB3.mono (by simp; omega))
        clear hB3 thr m0 m1 m2)
     | (go_at_call 6; refine may.mono ?_; rintro e w4 ⟨rfl, hB4⟩
        have p0 := (hB4.cell (p := ⟨w.heap.size, 1, none⟩) (by simp only; omega)).trans g1
        have p1 := (hB4.cell (p := ⟨w2.heap.size, 0, none⟩) hs3).trans s0
        have p2 := (hB4.cell (p := ⟨w2.heap.size, 1, none⟩) hs3).trans s1
        have HB4 : Hid (Below w3.heap.size w3 w4) := hB4
        clear hB4 may))
  go_ret
  exact ⟨rfl, HB3.out.trans (HB4.out.mono (by omega))⟩

set_option maxRecDepth 100000 in
set_option maxHeartbeats 1600000 in
theorem setsHold_nil {w : World} {T N : Nat} {rv dv : Value} {R : List Ru} {D : List Int} {st : St} (hY : st.Y = []) (hr : RulesAt w w.heap.size rv R) (hd : ListAt w w.heap.size dv D) (hm : mayB T N R = true) (hn : readF R D = some st) :
    Calls Try.prog 3 #[.agg #[.int .i64 T, .int .i64 N, rv], dv] w fun e w' => e = .returned (.bool true) ∧ Below w.heap.size w w' := by
  obtain ⟨ra, rc, hrv⟩ := hr.1
  obtain ⟨da, dc, hdv⟩ := hd.1
  subst hrv
  subst hdv
  have HR1 : Hid (RulesAt (w.alloc (.cells #[.int .i64 T, .int .i64 N, .slice ra R.length rc] 24)) (w.alloc (.cells #[.int .i64 T, .int .i64 N, .slice ra R.length rc] 24)).heap.size (.slice ra R.length rc) R) := hr.boxed _
  have HL1 : Hid (ListAt (w.alloc (.cells #[.int .i64 T, .int .i64 N, .slice ra R.length rc] 24)) (w.alloc (.cells #[.int .i64 T, .int .i64 N, .slice ra R.length rc] 24)).heap.size (.slice da D.length dc) D) := hd.boxed _
  have sets := setsOf_may (T := T) (N := N) HR1.out hm
  have HM : Hid (mayB T N R = true) := hm
  have HN : Hid (readF R D = some st) := hn
  have HFI : Hid (Fine T N R) := (fine_of hm).1
  have hN1 : 0 < N := (fine_of hm).1.some
  have HB1 : Hid (Below w.heap.size w (w.alloc (.cells #[.int .i64 T, .int .i64 N, .slice ra R.length rc] 24))) := (Below.refl _ _).alloc (Nat.le_refl _) _
  have HYY : Hid (st.Y = []) := hY
  have HNU : Hid (NullP N R 0) := (read_foreseen (fine_of hm).1 hn).1 hY
  clear hr hm hd hn hY
  go_enter Try.func3, Try.ntmps3
  go_wp2_with
    (first
     | (go_at_call 4; refine sets.mono ?_; rintro e w2 ⟨nv, fv, gv, vf, vg, rfl, hB2, gb, B, Y, hBB, hA, hg, hBt, hF, hG⟩
        obtain ⟨na, nc, hnv'⟩ := Bt.slice (i := Iy.null) (n := N) hBt rfl
        have hnv : nv = .slice na N nc := hnv'
        clear hnv'
        obtain ⟨fa, fc, hfv⟩ := hF.1
        obtain ⟨ga, gc, hgv⟩ := hG.1
        subst hnv
        subst hfv
        subst hgv
        have b0 : w2.cell? ⟨w.heap.size, 0, none⟩ = some (.int .i64 T) := (hB2.cell (by simp)).trans (by simp [go_sem])
        have b1 : w2.cell? ⟨w.heap.size, 1, none⟩ = some (.int .i64 N) := (hB2.cell (by simp)).trans (by simp [go_sem])
        have b2 : w2.cell? ⟨w.heap.size, 2, none⟩ = some (.slice ra R.length rc) := (hB2.cell (by simp)).trans (by simp [go_sem])
        have hs2 : w.heap.size < w2.heap.size := by have := hB2.size; simp at this; omega
        have m0 : (w2.alloc (.cells #[.slice na N nc, .slice fa N fc, .slice ga N gc] 29)).cell? ⟨w.heap.size, 0, none⟩ = some (.int .i64 T) := by rw [World.cell?_alloc_past _ _ _ hs2]; exact b0
        have m1 : (w2.alloc (.cells #[.slice na N nc, .slice fa N fc, .slice ga N gc] 29)).cell? ⟨w.heap.size, 1, none⟩ = some (.int .i64 N) := by rw [World.cell?_alloc_past _ _ _ hs2]; exact b1
        have m2 : (w2.alloc (.cells #[.slice na N nc, .slice fa N fc, .slice ga N gc] 29)).cell? ⟨w.heap.size, 2, none⟩ = some (.slice ra R.length rc) := by rw [World.cell?_alloc_past _ _ _ hs2]; exact b2
        have hR2 : RulesAt w2 w2.heap.size (.slice ra R.length rc) R := (HR1.out.below hB2).mono hB2.size
        have hL2 : ListAt w2 w2.heap.size (.slice da D.length dc) D := (HL1.out.below hB2).mono hB2.size
        have HR3 : Hid (RulesAt (w2.alloc (.cells #[.slice na N nc, .slice fa N fc, .slice ga N gc] 29)) (w2.alloc (.cells #[.slice na N nc, .slice fa N fc, .slice ga N gc] 29)).heap.size (.slice ra R.length rc) R) := hR2.boxed _
        have thr := thr_some (T := T) (N := N) HR3.out (hL2.boxed _) HM.out HN.out
        rw [HYY.out] at thr
        simp only [List.length_nil, List.map_nil] at thr
        have HLE : Hid (Left2 w2 T N R na fa nc fc) := left_of HFI.out hBt hF hA hg
        have HB2 : Hid (Below w.heap.size w w2) := HB1.out.trans (hB2.mono (by simp))
        clear hB2 hR2 hL2 sets hBB hA hg hBt hF hG)
     | (go_at_call 5; refine thr.mono ?_; rintro e w3 ⟨ta, tc, sv, rfl, hB3, hT3⟩
        have g0 : w3.cell? ⟨w.heap.size, 0, none⟩ = some (.int .i64 T) := (hB3.cell (by simp; omega)).trans m0
        have g1 : w3.cell? ⟨w.heap.size, 1, none⟩ = some (.int .i64 N) := (hB3.cell (by simp; omega)).trans m1
        have g2 : w3.cell? ⟨w.heap.size, 2, none⟩ = some (.slice ra R.length rc) := (hB3.cell (by simp; omega)).trans m2
        have s0 : w3.cell? ⟨w2.heap.size, 0, none⟩ = some (.slice na N nc) := (hB3.cell (by simp)).trans (by simp [go_sem])
        have s1 : w3.cell? ⟨w2.heap.size, 1, none⟩ = some (.slice fa N fc) := (hB3.cell (by simp)).trans (by simp [go_sem])
        have hs3 : w2.heap.size < w3.heap.size := by have := hB3.size; simp at this; omega
        have may := may1_any (T := T) (N := N) ((HR3.out.below hB3).mono hB3.size)
        rw [HM.out] at may
        have HB3 : Hid (Below w.heap.size w w3) := (HB2.out.alloc (by omega) _).trans (hB3.mono (by simp; omega))
        have HLE3 : Hid (Left2 w3 T N R na fa nc fc) := HLE.out.below (((Below.refl _ _).alloc (Nat.le_refl _) _).trans (hB3.mono (by simp)))
        have HT3 : Hid (w3.ownsRow (w2.alloc (.cells #[.slice na N nc, .slice fa N fc, .slice ga N gc] 29)).heap.size 3 1 (.slice ta 0 tc) 0 []) := hT3
        clear hB3 thr m0 m1 m2 hT3)
     | (go_at_call 6; refine may.mono ?_; rintro e w4 ⟨rfl, hB4⟩
        have p0 := (hB4.cell (p := ⟨w.heap.size, 1, none⟩) (by simp only; omega)).trans g1
        have p1 := (hB4.cell (p := ⟨w2.heap.size, 0, none⟩) hs3).trans s0
        have p2 := (hB4.cell (p := ⟨w2.heap.size, 1, none⟩) hs3).trans s1
        have p3 := (hB4.cell (p := ⟨w.heap.size, 0, none⟩) (by simp only; omega)).trans g0
        have HB4 : Hid (Below w3.heap.size w3 w4) := hB4
        obtain ⟨⟨g, o, rfl, x, hx, hx2⟩, _⟩ := HLE3.out.below hB4
        have hxt := hx2 HNU.out
        subst hxt
        clear hx2
        clear hB4 may))
  go_ret
  exact ⟨rfl, HB3.out.trans (HB4.out.mono (by omega))⟩

set_option maxRecDepth 100000 in
set_option maxHeartbeats 1600000 in
theorem setsHold_cons {w : World} {T N : Nat} {rv dv : Value} {R : List Ru} {D : List Int} {st : St} {t : Int} {z : List Int} (hY : st.Y = t :: z) (hr : RulesAt w w.heap.size rv R) (hd : ListAt w w.heap.size dv D) (hm : mayB T N R = true) (hn : readF R D = some st) :
    Calls Try.prog 3 #[.agg #[.int .i64 T, .int .i64 N, rv], dv] w fun e w' => e = .returned (.bool true) ∧ Below w.heap.size w w' := by
  obtain ⟨ra, rc, hrv⟩ := hr.1
  obtain ⟨da, dc, hdv⟩ := hd.1
  subst hrv
  subst hdv
  have HR1 : Hid (RulesAt (w.alloc (.cells #[.int .i64 T, .int .i64 N, .slice ra R.length rc] 24)) (w.alloc (.cells #[.int .i64 T, .int .i64 N, .slice ra R.length rc] 24)).heap.size (.slice ra R.length rc) R) := hr.boxed _
  have HL1 : Hid (ListAt (w.alloc (.cells #[.int .i64 T, .int .i64 N, .slice ra R.length rc] 24)) (w.alloc (.cells #[.int .i64 T, .int .i64 N, .slice ra R.length rc] 24)).heap.size (.slice da D.length dc) D) := hd.boxed _
  have sets := setsOf_may (T := T) (N := N) HR1.out hm
  have HM : Hid (mayB T N R = true) := hm
  have HN : Hid (readF R D = some st) := hn
  have HFI : Hid (Fine T N R) := (fine_of hm).1
  have hN1 : 0 < N := (fine_of hm).1.some
  have HB1 : Hid (Below w.heap.size w (w.alloc (.cells #[.int .i64 T, .int .i64 N, .slice ra R.length rc] 24))) := (Below.refl _ _).alloc (Nat.le_refl _) _
  have HYY : Hid (st.Y = t :: z) := hY
  have htT := read_terms (fine_of hm).1 hn t (by rw [hY]; simp)
  obtain ⟨k, rfl⟩ : ∃ k : Nat, t = k := ⟨t.toNat, by omega⟩
  have HFT : Hid (FirstP N R k 0) := (read_foreseen (fine_of hm).1 hn).2 k z hY
  have hkT : k < T := by omega
  clear hr hm hd hn hY htT
  go_enter Try.func3, Try.ntmps3
  go_wp2_with
    (first
     | (go_at_call 4; refine sets.mono ?_; rintro e w2 ⟨nv, fv, gv, vf, vg, rfl, hB2, gb, B, Y, hBB, hA, hg, hBt, hF, hG⟩
        obtain ⟨na, nc, hnv'⟩ := Bt.slice (i := Iy.null) (n := N) hBt rfl
        have hnv : nv = .slice na N nc := hnv'
        clear hnv'
        obtain ⟨fa, fc, hfv⟩ := hF.1
        obtain ⟨ga, gc, hgv⟩ := hG.1
        subst hnv
        subst hfv
        subst hgv
        have b0 : w2.cell? ⟨w.heap.size, 0, none⟩ = some (.int .i64 T) := (hB2.cell (by simp)).trans (by simp [go_sem])
        have b1 : w2.cell? ⟨w.heap.size, 1, none⟩ = some (.int .i64 N) := (hB2.cell (by simp)).trans (by simp [go_sem])
        have b2 : w2.cell? ⟨w.heap.size, 2, none⟩ = some (.slice ra R.length rc) := (hB2.cell (by simp)).trans (by simp [go_sem])
        have hs2 : w.heap.size < w2.heap.size := by have := hB2.size; simp at this; omega
        have m0 : (w2.alloc (.cells #[.slice na N nc, .slice fa N fc, .slice ga N gc] 29)).cell? ⟨w.heap.size, 0, none⟩ = some (.int .i64 T) := by rw [World.cell?_alloc_past _ _ _ hs2]; exact b0
        have m1 : (w2.alloc (.cells #[.slice na N nc, .slice fa N fc, .slice ga N gc] 29)).cell? ⟨w.heap.size, 1, none⟩ = some (.int .i64 N) := by rw [World.cell?_alloc_past _ _ _ hs2]; exact b1
        have m2 : (w2.alloc (.cells #[.slice na N nc, .slice fa N fc, .slice ga N gc] 29)).cell? ⟨w.heap.size, 2, none⟩ = some (.slice ra R.length rc) := by rw [World.cell?_alloc_past _ _ _ hs2]; exact b2
        have hR2 : RulesAt w2 w2.heap.size (.slice ra R.length rc) R := (HR1.out.below hB2).mono hB2.size
        have hL2 : ListAt w2 w2.heap.size (.slice da D.length dc) D := (HL1.out.below hB2).mono hB2.size
        have HR3 : Hid (RulesAt (w2.alloc (.cells #[.slice na N nc, .slice fa N fc, .slice ga N gc] 29)) (w2.alloc (.cells #[.slice na N nc, .slice fa N fc, .slice ga N gc] 29)).heap.size (.slice ra R.length rc) R) := hR2.boxed _
        have thr := thr_some (T := T) (N := N) HR3.out (hL2.boxed _) HM.out HN.out
        rw [HYY.out] at thr
        simp only [List.length_cons, List.map_cons] at thr
        have HLE : Hid (Left2 w2 T N R na fa nc fc) := left_of HFI.out hBt hF hA hg
        have HB2 : Hid (Below w.heap.size w w2) := HB1.out.trans (hB2.mono (by simp))
        clear hB2 hR2 hL2 sets hBB hA hg hBt hF hG)
     | (go_at_call 5; refine thr.mono ?_; rintro e w3 ⟨ta, tc, sv, rfl, hB3, hT3⟩
        have g0 : w3.cell? ⟨w.heap.size, 0, none⟩ = some (.int .i64 T) := (hB3.cell (by simp; omega)).trans m0
        have g1 : w3.cell? ⟨w.heap.size, 1, none⟩ = some (.int .i64 N) := (hB3.cell (by simp; omega)).trans m1
        have g2 : w3.cell? ⟨w.heap.size, 2, none⟩ = some (.slice ra R.length rc) := (hB3.cell (by simp; omega)).trans m2
        have s0 : w3.cell? ⟨w2.heap.size, 0, none⟩ = some (.slice na N nc) := (hB3.cell (by simp)).trans (by simp [go_sem])
        have s1 : w3.cell? ⟨w2.heap.size, 1, none⟩ = some (.slice fa N fc) := (hB3.cell (by simp)).trans (by simp [go_sem])
        have hs3 : w2.heap.size < w3.heap.size := by have := hB3.size; simp at this; omega
        have may := may1_any (T := T) (N := N) ((HR3.out.below hB3).mono hB3.size)
        rw [HM.out] at may
        have HB3 : Hid (Below w.heap.size w w3) := (HB2.out.alloc (by omega) _).trans (hB3.mono (by simp; omega))
        have HLE3 : Hid (Left2 w3 T N R na fa nc fc) := HLE.out.below (((Below.refl _ _).alloc (Nat.le_refl _) _).trans (hB3.mono (by simp)))
        have HT3 : Hid (w3.ownsRow (w2.alloc (.cells #[.slice na N nc, .slice fa N fc, .slice ga N gc] 29)).heap.size 3 1 (.slice ta (z.length + 1) tc) (z.length + 1) (.int .i64 k :: z.map (Value.int .i64))) := hT3
        clear hB3 thr m0 m1 m2 hT3)
     | (go_at_call 6; refine may.mono ?_; rintro e w4 ⟨rfl, hB4⟩
        have p0 := (hB4.cell (p := ⟨w.heap.size, 1, none⟩) (by simp only; omega)).trans g1
        have p1 := (hB4.cell (p := ⟨w2.heap.size, 0, none⟩) hs3).trans s0
        have p2 := (hB4.cell (p := ⟨w2.heap.size, 1, none⟩) hs3).trans s1
        have p3 := (hB4.cell (p := ⟨w.heap.size, 0, none⟩) (by simp only; omega)).trans g0
        have HB4 : Hid (Below w3.heap.size w3 w4) := hB4
        obtain ⟨_, ⟨g, o, rfl, ra', rc', hx, hx2⟩⟩ := HLE3.out.below hB4
        obtain ⟨bb, pp, rfl, x, hx3, hx4⟩ := hx2 k hkT
        have hxt := hx4 HFT.out
        subst hxt
        obtain ⟨tg, tc', hte, _, _⟩ := HT3.out.form (by omega)
        cases hte
        have q0 := HT3.out.cellAt 0 (by omega)
        have q1 := (hB4.cell (p := ⟨tg, 0, none⟩) (World.block_lt_of_cell? w3 _ q0)).trans q0
        simp only [List.getElem?_cons_zero] at q1
        clear hx2 hx4 q0
        clear hB4 may))
  have j0 : (0 : Int) ≤ (k : Int) := Int.natCast_nonneg _
  have j1 : (k : Int) < (T : Int) := by omega
  have j2 : 0 < z.length + 1 := by omega
  go_big_quiet (fail)
  go_wp2_with fail
  go_ret
  exact ⟨rfl, below_drewN (HB3.out.trans (HB4.out.mono (by omega))) _⟩

theorem setsHold_any {w : World} {T N : Int} {rv dv : Value} {R : List Ru} {D : List Int} (hr : RulesAt w w.heap.size rv R) (hd : ListAt w w.heap.size dv D) :
    Calls Try.prog 3 #[.agg #[.int .i64 T, .int .i64 N, rv], dv] w fun e w' => e = .returned (.bool true) ∧ Below w.heap.size w w' := by
  cases hm : mayB T N R with
  | false => exact setsHold_not hr hd hm
  | true =>
    have hh := hm
    simp only [mayB, headB, Bool.and_eq_true, decide_eq_true_eq] at hh
    obtain ⟨t, rfl⟩ : ∃ t : Nat, T = t := ⟨T.toNat, by omega⟩
    obtain ⟨n, rfl⟩ : ∃ n : Nat, N = n := ⟨N.toNat, by omega⟩
    cases hn : readF R D with
    | none => exact setsHold_none hr hd hm hn
    | some st =>
      cases hY : st.Y with
      | nil => exact setsHold_nil hY hr hd hm hn
      | cons t z => exact setsHold_cons hY hr hd hm hn

end Go.Proofs.Ytgdpljpnifciaaa
