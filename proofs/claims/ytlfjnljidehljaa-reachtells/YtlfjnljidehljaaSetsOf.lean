/- The contract of the program's sets.Of. -/
import Derived.Test.YtlfjnljidehljaaSetsReady
import Derived.Test.YtlfjnljidehljaaSetsNone
namespace Go.Proofs.Ytlfjnljidehljaa
open Go.RowKit

set_option maxRecDepth 100000 in
set_option maxHeartbeats 1600000 in
theorem setsOf_not {w : World} {T N : Int} {rv : Value} {R : List Ru} (hr : RulesAt w w.heap.size rv R) (hm : mayB T N R = false) :
    Calls Try.prog 18 #[.agg #[.int .i64 T, .int .i64 N, rv]] w fun e w' => e = .returned (.tuple #[.agg #[.slice none 0 0, .slice none 0 0, .slice none 0 0], .int .i64 2]) ∧ Below w.heap.size w w' := by
  obtain ⟨ra, rc, hrv⟩ := hr.1
  subst hrv
  have may := mayG_any (T := T) (N := N) ((hr.boxed (.cells #[.int .i64 T, .int .i64 N, .slice ra R.length rc] 24)).boxed (.cells #[.slice none 0 0, .slice none 0 0, .slice none 0 0] 43))
  rw [hm] at may
  have HB0 : Hid (Below w.heap.size w ((w.alloc (.cells #[.int .i64 T, .int .i64 N, .slice ra R.length rc] 24)).alloc (.cells #[.slice none 0 0, .slice none 0 0, .slice none 0 0] 43))) := ((Below.refl _ _).alloc (Nat.le_refl _) _).alloc (by simp) _
  clear hr hm
  go_enter Try.func18, Try.ntmps18
  go_wp2_with
    (go_at_call 12; refine may.mono ?_; rintro e w2 ⟨rfl, hB2⟩
     have r0 : w2.cell? ⟨w.heap.size + 1, 0, none⟩ = some (.slice none 0 0) := (hB2.cell (by simp)).trans (by simp [go_sem])
     have r1 : w2.cell? ⟨w.heap.size + 1, 1, none⟩ = some (.slice none 0 0) := (hB2.cell (by simp)).trans (by simp [go_sem])
     have r2 : w2.cell? ⟨w.heap.size + 1, 2, none⟩ = some (.slice none 0 0) := (hB2.cell (by simp)).trans (by simp [go_sem])
     have rf : ∀ o, w2.frozen? ⟨w.heap.size + 1, o, none⟩ = false := fun o => (hB2.frozen (by simp)).trans (by simp [go_sem])
     have HX : Hid (Below w.heap.size w w2) := HB0.out.trans (hB2.mono (by simp; omega))
     clear hB2)
  refine bodyPost_ret (v := .tuple #[.agg #[.slice none 0 0, .slice none 0 0, .slice none 0 0], .int .i64 2]) (by simp [results, Try.results18, go_sem, r0, r1, r2]) rfl ⟨rfl, ?_⟩
  exact ((HX.out.setCell (by simp) _).setCell (by simp) _).setCell (by simp) _

/-- The sets are made, and nothing is in them but the end behind the name 0. -/
structure Ready (w : World) (B T N sx : Nat) (rv nv fv gv : Value) (vf vg : Nat → Value) (R : List Ru) (wx : World) : Prop where
  below : Below w.heap.size w wx
  size : B ≤ wx.heap.size
  base : w.heap.size + 2 ≤ B
  res : ∀ o, o < 3 → wx.cell? ⟨w.heap.size + 1, o, none⟩ = some (.slice none 0 0)
  fro : ∀ o, wx.frozen? ⟨w.heap.size + 1, o, none⟩ = false
  fB : ∀ g c, fv = .slice (some ⟨g, 0, none⟩) N c → B ≤ g
  gB : ∀ g c, gv = .slice (some ⟨g, 0, none⟩) N c → B ≤ g
  st : ∃ X, AtHead T N R X ∧ Bt (wx.alloc (.cells #[.bool true] 4)) B (STab T N nv vf vg wx.heap.size) X ∧ Env (wx.alloc (.cells #[.bool true] 4)) B T N (STab T N nv vf vg wx.heap.size).K w.heap.size sx rv nv fv gv vf vg R

theorem ready_start {w w2 w3 : World} {T N sb g0 c0 : Nat} {rv nv fv gv : Value} {vf vg : Nat → Value} {R : List Ru} (hf : Fine T N R) (hr : RulesAt w w.heap.size rv R)
    (hB2 : Below (w.heap.size + 2) ((w.alloc (.cells #[.int .i64 T, .int .i64 N, rv] 24)).alloc (.cells #[.slice none 0 0, .slice none 0 0, .slice none 0 0] 43)) w2)
    (hB3 : Below w2.heap.size w2 w3)
    (hO : Owns w3 (w2.heap.size + 2) (Pset sb T N N N nv fv gv vf vg (List.replicate N false) (List.replicate N (List.replicate T false)) (List.replicate N (List.replicate (T + 1) false))))
    (hv : vg 0 = .slice (some ⟨g0, 0, none⟩) (T + 1) c0) :
    Ready w (w2.heap.size + 2) T N w3.heap.size rv nv fv gv vf vg R ((w3.setCell ⟨g0, T, none⟩ (.bool true)).alloc (.cells #[nv, fv, gv] 43)).drew := by
  have h1N := hf.some
  have hs2 : w.heap.size + 2 ≤ w2.heap.size := by have := hB2.size; simp at this; omega
  have hsb := World.block_lt_of_cell? w3 _ hO.fields.1
  have hst := (hO.own .st _ rfl).lt sb rfl
  have hO1 := hO.setFollow (by simp) (n := 0) (by omega) hv T
  have hg0 := (hO.own (.g 0) _ (by simp [Pset, show 0 < N by omega]; rfl)).lt g0 (by simp only; rw [hv]; rfl)
  have hBw : Below w.heap.size w w2 := (((Below.refl _ _).alloc (Nat.le_refl _) _).alloc (by simp) _).trans (hB2.mono (by omega))
  have hB4 : Below w2.heap.size w2 ((w3.setCell ⟨g0, T, none⟩ (.bool true)).alloc (.cells #[nv, fv, gv] 43)).drew := ((hB3.setCell (by simp only; omega) _).alloc (by have := hB3.size; simp; omega) _).drew
  have hB5 : Below (w.heap.size + 2) ((w.alloc (.cells #[.int .i64 T, .int .i64 N, rv] 24)).alloc (.cells #[.slice none 0 0, .slice none 0 0, .slice none 0 0] 43)) ((w3.setCell ⟨g0, T, none⟩ (.bool true)).alloc (.cells #[nv, fv, gv] 43)).drew := hB2.trans (hB4.mono hs2)
  have hsz : ((w3.setCell ⟨g0, T, none⟩ (.bool true)).alloc (.cells #[nv, fv, gv] 43)).drew.heap.size = w3.heap.size + 1 := by
    show ((w3.setCell ⟨g0, T, none⟩ (.bool true)).alloc (.cells #[nv, fv, gv] 43)).heap.size = _
    simp
  have hle : w2.heap.size + 2 ≤ ((w3.setCell ⟨g0, T, none⟩ (.bool true)).alloc (.cells #[nv, fv, gv] 43)).drew.heap.size := by rw [hsz]; omega
  have hO2 : Owns ((w3.setCell ⟨g0, T, none⟩ (.bool true)).alloc (.cells #[nv, fv, gv] 43)).drew (w2.heap.size + 2) _ := (hO1.alloc (.cells #[nv, fv, gv] 43)).drew
  obtain ⟨wx, hwx⟩ : ∃ wx, ((w3.setCell ⟨g0, T, none⟩ (.bool true)).alloc (.cells #[nv, fv, gv] 43)).drew = wx := ⟨_, rfl⟩
  have hbox : ∀ o v, (#[nv, fv, gv] : Array Value)[o]? = some v → wx.cell? ⟨w3.heap.size, o, none⟩ = some v := fun o v hv => by
    rw [← hwx]
    show ((w3.setCell ⟨g0, T, none⟩ (.bool true)).alloc (.cells #[nv, fv, gv] 43)).cell? _ = _
    have := World.cell?_alloc_new (w3.setCell ⟨g0, T, none⟩ (.bool true)) #[nv, fv, gv] 43 o
    simp only [World.size_setCell] at this
    rw [this]
    exact hv
  rw [hwx] at hB4 hB5 hsz hle hO2 ⊢
  have hBt := bt_of_pset hO2 hle
  have geK : ∀ b, (STab T N nv vf vg wx.heap.size).K b → w2.heap.size + 2 ≤ b := fun b hb => Bt.ge hBt hb
  have hBwx : Below w.heap.size w wx := hBw.trans (hB4.mono (by omega))
  refine ⟨hBwx, hle, by omega, fun o ho => (hB5.cell (by simp)).trans ?_, fun o => (hB5.frozen (by simp)).trans (by simp [go_sem]), fun g c hfv => ?_, fun g c hgv => ?_, tabs _ _ _, head_start hf, hBt, ?_⟩
  · rcases o with _ | _ | _ | o
    · simp [go_sem]
    · simp [go_sem]
    · simp [go_sem]
    · omega
  · exact ((hO.own .fh _ rfl).lt g (by simp only; rw [hfv]; rfl)).1
  · exact ((hO.own .gh _ rfl).lt g (by simp only; rw [hgv]; rfl)).1
  · have past : ∀ b o, b < wx.heap.size → (wx.alloc (.cells #[.bool true] 4)).cell? ⟨b, o, none⟩ = wx.cell? ⟨b, o, none⟩ := fun b o hb => World.cell?_alloc_past _ _ _ hb
    refine ⟨?_, ?_, ?_, ?_, fun hK => ?_, fun hK => ?_, ?_, heads_f hO2 _, heads_g hO2 _⟩
    · rw [past _ _ (by omega)]; exact (hB5.cell (by simp)).trans (by simp [go_sem])
    · rw [past _ _ (by omega)]; exact hbox 0 nv rfl
    · rw [past _ _ (by omega)]; exact hbox 1 fv rfl
    · rw [past _ _ (by omega)]; exact hbox 2 gv rfl
    · have := geK _ hK; omega
    · obtain ⟨i, n, hd, hb⟩ := hK
      cases hx : ixOf i with
      | some x =>
        have hP : (STab T N nv vf vg wx.heap.size).P (tabs (List.replicate N false) (List.replicate N (List.replicate T false)) (List.replicate N (List.replicate (T + 1) false))) i = some ⟨(STab T N nv vf vg wx.heap.size).V i, 4, 1, n, _⟩ := Tab.P_some hd
        rw [ix_row (sb := sb) (fv := fv) (gv := gv) _ i x hx] at hP
        have := (hO.lt hP hb).2
        omega
      | none =>
        cases i <;> simp [ixOf] at hx
        simp only [STab, Value.ownBlock, Option.some.injEq] at hb
        omega
    · exact ((hr.below hBwx).below ((Below.refl _ _).alloc (by omega) _)).mono (by omega)

theorem Heads.setOther {w : World} {K : Nat → Prop} {N B : Nat} {fv : Value} {vs : Nat → Value} (h : Heads w K N fv vs) (hB : ∀ g c, fv = .slice (some ⟨g, 0, none⟩) N c → B ≤ g) {a : Addr} (ha : a.block < B) (u : Value) : Heads (w.setCell a u) K N fv vs :=
  ⟨h.1, fun n hn => by
    obtain ⟨g, c, h1, h2, h3⟩ := h.2 n hn
    have := hB g c h1
    exact ⟨g, c, h1, h2, (cell_set_other (.inl (by simp only; omega))).trans h3⟩⟩

set_option maxRecDepth 100000 in
set_option maxHeartbeats 3200000 in
theorem setsOf_may {w : World} {T N : Nat} {rv : Value} {R : List Ru} (hr : RulesAt w w.heap.size rv R) (hm : mayB T N R = true) :
    Calls Try.prog 18 #[.agg #[.int .i64 T, .int .i64 N, rv]] w fun e w' => ∃ nv fv gv vf vg, e = .returned (.tuple #[.agg #[nv, fv, gv], .int .i64 0]) ∧ Below w.heap.size w w' ∧
      ∃ gb B Y, w.heap.size ≤ B ∧ AtHead T N R Y ∧ bit Y .gr 0 = false ∧ Bt w' B (STab T N nv vf vg gb) Y ∧ Heads w' (STab T N nv vf vg gb).K N fv vf ∧ Heads w' (STab T N nv vf vg gb).K N gv vg := by
  obtain ⟨hT, hN1, hN, hRl, _⟩ := may_fine hm
  obtain ⟨hfi, hRq⟩ := fine_of hm
  obtain ⟨ra, rc, hrv⟩ := hr.1
  subst hrv
  have may := mayG_any (T := T) (N := N) ((hr.boxed (.cells #[.int .i64 T, .int .i64 N, .slice ra R.length rc] 24)).boxed (.cells #[.slice none 0 0, .slice none 0 0, .slice none 0 0] 43))
  rw [hm] at may
  have HR : Hid (RulesAt w w.heap.size (.slice ra R.length rc) R) := hr
  have HF : Hid (Fine T N R) := hfi
  have HQ : Hid (∀ q, q < R.length → RuleIn T N (R.getD q (0, [])) ∧ (R.getD q (0, [])).2.length ≤ 8) := hRq
  clear hr hm hfi hRq
  go_enter Try.func18, Try.ntmps18
  go_wp2_with
    (first
     | (go_at_call 12; refine may.mono ?_; rintro e w2 ⟨rfl, hB2⟩
        have b0 : w2.cell? ⟨w.heap.size, 0, none⟩ = some (.int .i64 T) := (hB2.cell (by simp; omega)).trans (by simp [go_sem])
        have b1 : w2.cell? ⟨w.heap.size, 1, none⟩ = some (.int .i64 N) := (hB2.cell (by simp; omega)).trans (by simp [go_sem])
        have b2 : w2.cell? ⟨w.heap.size, 2, none⟩ = some (.slice ra R.length rc) := (hB2.cell (by simp; omega)).trans (by simp [go_sem])
        have hs2 : w.heap.size + 2 ≤ w2.heap.size := by have := hB2.size; simp at this; omega
        have HB2 : Hid (Below (w.heap.size + 2) ((w.alloc (.cells #[.int .i64 T, .int .i64 N, .slice ra R.length rc] 24)).alloc (.cells #[.slice none 0 0, .slice none 0 0, .slice none 0 0] 43)) w2) := hB2.mono (by simp)
        clear hB2)
     | (go_at_call 26; refine (none_any hT hN).mono ?_; rintro e w3 ⟨nv, fv, gv, vf, vg, sb, rfl, hB3, hO3⟩
        obtain ⟨na, nc, rfl⟩ : ∃ a c, nv = .slice a N c := own_form (hO3.own .null _ rfl)
        obtain ⟨fa, fc, rfl⟩ : ∃ a c, fv = .slice a N c := own_form (hO3.own .fh _ rfl)
        have HB3 : Hid (Below w2.heap.size w2 w3) := hB3
        have HO3 : Hid (Owns w3 (w2.heap.size + 2) (Pset sb T N N N (.slice na N nc) (.slice fa N fc) gv vf vg (List.replicate N false) (List.replicate N (List.replicate T false)) (List.replicate N (List.replicate (T + 1) false)))) := hO3
        obtain ⟨gg, gc, hgv, _, hggl⟩ := hO3.form (i := .gh) rfl (by simp only; omega)
        simp only at hgv
        subst hgv
        obtain ⟨g0, c0, hg0, _, hg0l⟩ := hO3.form (i := .g 0) (r := ⟨vg 0, 4, 1, T + 1, ((List.replicate N (List.replicate (T + 1) false)).getD 0 []).map Value.bool⟩) (by simp [Pset, show 0 < N by omega]) (by simp only; omega)
        simp only at hg0
        have k0 := (hO3.own .gh _ rfl).cellAt 0 (by simp only; omega)
        have k1 := hO3.own (.g 0) _ (by simp [Pset, show 0 < N by omega]; rfl)
        simp only [hg0] at k1
        have k2 := k1.cellAt T (by omega)
        have k3 := k1.frozenAt T
        have d0 := (hB3.cell (p := ⟨w.heap.size, 0, none⟩) (by simp only; omega)).trans b0
        have hs3 := hB3.size
        have HG0 : Hid (vg 0 = .slice (some ⟨g0, 0, none⟩) (T + 1) c0) := hg0
        have HK0 : Hid (w3.cell? ⟨gg, 0, none⟩ = some (vg 0)) := by
          show w3.cell? ⟨gg, 0, none⟩ = some (vg 0)
          rw [k0]; simp [show 0 < N by omega]
        have HK2 : Hid (∃ x, w3.cell? ⟨g0, T, none⟩ = some (.bool x)) := by
          show ∃ x, w3.cell? ⟨g0, T, none⟩ = some (.bool x)
          rw [k2]
          exact ⟨false, by simp⟩
        clear hB3 hO3 k1 k0 k2))
  have j0 : (0 : Int) ≤ (T : Int) := Int.natCast_nonneg _
  have j1 : (T : Int) < (T : Int) + 1 := by omega
  have j2 : 0 < N := by omega
  have hg0 := HG0.out
  have k0 := HK0.out
  obtain ⟨x, k2⟩ := HK2.out
  have m0 : (w3.alloc (.cells #[.slice na N nc, .slice fa N fc, .slice (some ⟨gg, 0, none⟩) N gc] 43)).cell? ⟨gg, 0, none⟩ = some (vg 0) := by rw [World.cell?_alloc_past _ _ _ hggl]; exact k0
  have m1 : (w3.alloc (.cells #[.slice na N nc, .slice fa N fc, .slice (some ⟨gg, 0, none⟩) N gc] 43)).cell? ⟨w.heap.size, 0, none⟩ = some (.int .i64 T) := by rw [World.cell?_alloc_past _ _ _ (by omega)]; exact d0
  have m2 : (w3.alloc (.cells #[.slice na N nc, .slice fa N fc, .slice (some ⟨gg, 0, none⟩) N gc] 43)).cell? ⟨g0, T, none⟩ = some (.bool x) := by rw [World.cell?_alloc_past _ _ _ hg0l]; exact k2
  clear b0 b1 b2 d0 k0
  go_cut [] from 11 to 22 (fun wx => Ready w (w2.heap.size + 2) T N w3.heap.size (.slice ra R.length rc) (.slice na N nc) (.slice fa N fc) (.slice (some ⟨gg, 0, none⟩) N gc) vf vg R wx)
  case first =>
    refine wp_region_tail 7 (by kernel_rfl) (by kernel_rfl) ?_
    simp only [List.take_succ_cons, List.take_zero, List.drop_succ_cons, List.drop_zero]
    repeat still_step
    refine wpStill_nil ?_
    go_wp2_with fail
    go_meet
    case rel => exact ready_start HF.out HR.out HB2.out HB3.out HO3.out HG0.out
  case rest =>
    obtain ⟨X, hA, hBt, hE⟩ := hcut.st
    have until' := untilStill_any hBt hcut.size hE HF.out HQ.out hT hRl hA
    have HC : Hid (Ready w (w2.heap.size + 2) T N w3.heap.size (.slice ra R.length rc) (.slice na N nc) (.slice fa N fc) (.slice (some ⟨gg, 0, none⟩) N gc) vf vg R wc) := hcut
    have HBt : Hid (Bt (wc.alloc (.cells #[.bool true] 4)) (w2.heap.size + 2) (STab T N (.slice na N nc) vf vg wc.heap.size) X) := hBt
    have HE : Hid (Env (wc.alloc (.cells #[.bool true] 4)) (w2.heap.size + 2) T N (STab T N (.slice na N nc) vf vg wc.heap.size).K w.heap.size w3.heap.size (.slice ra R.length rc) (.slice na N nc) (.slice fa N fc) (.slice (some ⟨gg, 0, none⟩) N gc) vf vg R) := hE
    have z2 : wc.cell? ⟨w.heap.size, 2, none⟩ = some (.slice ra R.length rc) := (World.cell?_alloc_past _ _ _ (by have := hcut.size; have := hcut.base; omega)).symm.trans hE.g2
    clear hcut hBt hE hA m0 m1 m2 k2 k3 hg0
    go_wp2_with
      (go_at_call 13; refine until'.mono ?_; rintro e w5 ⟨rfl, Y, hAY, hgY, hB5, hK5⟩
       have n0 := hK5.cell HE.out.sK HE.out.s0
       have n1 := hK5.cell HE.out.sK HE.out.s1
       have n2 := hK5.cell HE.out.sK HE.out.s2
       have hrK : ¬ (STab T N (.slice na N nc) vf vg wc.heap.size).K (w.heap.size + 1) := fun hK => by have := Bt.ge HBt.out hK; omega
       have hrl : w.heap.size + 1 < wc.heap.size := by have := HC.out.size; omega
       have r0 := hK5.cell (p := ⟨w.heap.size + 1, 0, none⟩) hrK ((World.cell?_alloc_past _ _ _ hrl).trans (HC.out.res 0 (by omega)))
       have r1 := hK5.cell (p := ⟨w.heap.size + 1, 1, none⟩) hrK ((World.cell?_alloc_past _ _ _ hrl).trans (HC.out.res 1 (by omega)))
       have r2 := hK5.cell (p := ⟨w.heap.size + 1, 2, none⟩) hrK ((World.cell?_alloc_past _ _ _ hrl).trans (HC.out.res 2 (by omega)))
       have hal : Below wc.heap.size wc (wc.alloc (.cells #[.bool true] 4)) := (Below.refl _ _).alloc (Nat.le_refl _) _
       have rf : ∀ o, w5.frozen? ⟨w.heap.size + 1, o, none⟩ = false := fun o => (hK5.frozen hrK (by simp; omega)).trans ((hal.frozen hrl).trans (HC.out.fro o))
       have HX : Hid (Below w.heap.size w w5) := (HC.out.below.trans (hal.mono (by omega))).trans (hK5.below (fun b hb => by have := Bt.ge HBt.out hb; omega) (by simp; omega))
       have HY : Hid (AtHead T N R Y ∧ bit Y .gr 0 = false ∧ Bt w5 (w2.heap.size + 2) (STab T N (.slice na N nc) vf vg wc.heap.size) Y ∧ Heads w5 (STab T N (.slice na N nc) vf vg wc.heap.size).K N (.slice fa N fc) vf ∧ Heads w5 (STab T N (.slice na N nc) vf vg wc.heap.size).K N (.slice (some ⟨gg, 0, none⟩) N gc) vg) := ⟨hAY, hgY, hB5, HE.out.hF.kept hK5, HE.out.hG.kept hK5⟩
       clear hAY hgY hB5 hK5 until' hal z2)
    refine bodyPost_ret (v := .tuple #[.agg #[.slice na N nc, .slice fa N fc, .slice (some ⟨gg, 0, none⟩) N gc], .int .i64 0]) (by simp [results, Try.results18, go_sem, r0, r1, r2]) rfl ⟨_, _, _, vf, vg, rfl, ?_, wc.heap.size, w2.heap.size + 2, Y, by omega, HY.out.1, HY.out.2.1, ?_, ?_, ?_⟩
    · exact ((HX.out.setCell (by simp) _).setCell (by simp) _).setCell (by simp) _
    · exact ((Owns.setBelow HY.out.2.2.1 (by simp; omega) _).setBelow (by simp; omega) _).setBelow (by simp; omega) _
    · exact ((HY.out.2.2.2.1.setOther (B := w2.heap.size + 2) HC.out.fB (by simp; omega) _).setOther HC.out.fB (by simp; omega) _).setOther HC.out.fB (by simp; omega) _
    · exact ((HY.out.2.2.2.2.setOther (B := w2.heap.size + 2) HC.out.gB (by simp; omega) _).setOther HC.out.gB (by simp; omega) _).setOther HC.out.gB (by simp; omega) _

end Go.Proofs.Ytlfjnljidehljaa
