import Derived.Test.YtlalmfheiippiaaReachMathAndReachMake
import Derived.Test.YtlalmfheiippiaaStOfP1AndGrowMath
import Derived.Test.YtlalmfheiippiaaRef3MathAndStOfI
/- The contract of the program's reach.Comes. -/
namespace Go.Proofs.Ytlalmfheiippiaa
open Go.RowKit

section
variable {N : Nat} {va vb : Value} {vr : Nat → Value} {gb : Nat}

set_option maxRecDepth 100000 in
set_option maxHeartbeats 1600000 in
theorem comes1_any {w : World} {B sx mx qc T : Nat} {qa : Option Addr} {X : Vs} {R : List Ru} {r : Ru} (h : Bt w B (VTab (cdom N) va vb vr gb) X) (hB : B ≤ w.heap.size) (hs : w.cell? ⟨sx, 0, none⟩ = some vb) (hsK : ¬ (VTab (cdom N) va vb vr gb).K sx)
    (hx : w.cell? ⟨mx, 0, none⟩ = some va) (hxK : ¬ (VTab (cdom N) va vb vr gb).K mx) (hf : Fine T N R) (hr : r ∈ R) (h8 : r.2.length ≤ 8) (hR : RightAt w B qa r.2) :
    Calls Try.prog 29 #[.agg #[.int .i64 r.1, .slice qa r.2.length qc], .func (.func 32) #[] #[.pointer (some ⟨gb, 0, none⟩)], .pointer (some ⟨sx, 0, none⟩), .pointer (some ⟨mx, 0, none⟩)] w fun e w' =>
      e = .returned (.tuple #[]) ∧ Bt w' B (VTab (cdom N) va vb vr gb) (comesX r X) ∧ Kept (VTab (cdom N) va vb vr gb).K w w' := by
  have hL := hf.left r hr
  have hin := hf.name r hr
  obtain ⟨L, Rt⟩ := r
  simp only at hL hin h8 hR ⊢
  obtain ⟨l, rfl⟩ : ∃ l : Nat, L = l := ⟨L.toNat, by omega⟩
  obtain ⟨aa, ac, hv'⟩ := Bt.slice (i := Iv.a) (n := N) h rfl
  have hv : va = .slice aa N ac := hv'
  clear hv'
  subst hv
  obtain ⟨bg, bc, hv', _, hbl⟩ := Bt.form (i := Iv.b) (n := N) h rfl (by omega)
  have hv : vb = .slice (some ⟨bg, 0, none⟩) N bc := hv'
  clear hv'
  subst hv
  obtain ⟨c1, _⟩ := Bt.cell (i := Iv.b) (n := N) h rfl rfl (m := l) (by omega)
  have hK1 : Kept (VTab (cdom N) (.slice aa N ac) (.slice (some ⟨bg, 0, none⟩) N bc) vr gb).K w (w.alloc (.cells #[.int .i64 l, .slice qa Rt.length qc] 39)) := (Kept.refl _ _).alloc _
  have hR1 := hR.below (hK1.below (fun b hb => Bt.ge h hb) hB)
  have all := allIn_any (i := Iv.a) (N := N) (lc := qc) (Bt.alloc h (.cells #[.int .i64 l, .slice qa Rt.length qc] 39)) (by simp; omega) rfl hR1 hin (by omega)
  have all' : Calls Try.prog 28 #[.slice aa N ac, .slice qa Rt.length qc] _ _ := all
  have hs1 := hK1.cell hsK hs
  have hx1 := hK1.cell hxK hx
  have c1' : (w.alloc (.cells #[.int .i64 l, .slice qa Rt.length qc] 39)).cell? ⟨bg, l, none⟩ = some (.bool (bit X .b l)) := by rw [World.cell?_alloc_past _ _ _ hbl]; exact c1
  have j0 : (0 : Int) ≤ (l : Int) := Int.natCast_nonneg _
  have j1 : (l : Int) < (N : Int) := by omega
  have HB : Hid (Bt w B (VTab (cdom N) (.slice aa N ac) (.slice (some ⟨bg, 0, none⟩) N bc) vr gb) X) := h
  have HI : Hid (∀ s ∈ Rt, s.1 = false → 0 ≤ s.2 ∧ s.2 < (N : Int)) := hin
  have HR1 : Hid (RightAt (w.alloc (.cells #[.int .i64 l, .slice qa Rt.length qc] 39)) B qa Rt) := hR1
  have HM : Hid (comesX ((l : Int), Rt) X = if bit X .b l && allB (X .a) Rt then namesX Rt X else X) := by show comesX ((l : Int), Rt) X = _; simp [comesX]
  obtain ⟨z, hz⟩ : ∃ z, allB (X .a) Rt = z := ⟨_, rfl⟩
  obtain ⟨y, hy⟩ : ∃ y, bit X .b l = y := ⟨_, rfl⟩
  rw [hz] at HM all'
  rw [hy] at HM c1'
  clear all hz hy h hsK hxK hR hR1 hin c1
  cases y with
  | false =>
    go_enter Try.func29, Try.ntmps29
    go_wp2_with fail
    go_end0
    exact ⟨rfl, by rw [HM.out]; exact Bt.alloc HB.out _, hK1⟩
  | true =>
    cases z with
    | true =>
      go_enter Try.func29, Try.ntmps29
      go_wp2_with
        (first
         | (go_at_call 28; refine all'.mono ?_; rintro e w2 ⟨rfl, hb2⟩
            have q0 := (hb2.cell (p := ⟨sx, 0, none⟩) (World.block_lt_of_cell? _ _ hs1)).trans hs1
            have q1 : w2.cell? ⟨w.heap.size, 1, none⟩ = some (.slice qa Rt.length qc) := (hb2.cell (by simp)).trans (by simp [go_sem])
            have hB2 : Bt w2 B (VTab (cdom N) (.slice aa N ac) (.slice (some ⟨bg, 0, none⟩) N bc) vr gb) X := Bt.below (Bt.alloc HB.out _) hb2
            have hsz2 : w.heap.size + 1 ≤ w2.heap.size := by have := hb2.size; simpa using this
            have names := putNames_any (N := N) (lc := qc) hB2 (by omega) rfl rfl (HR1.out.below (hb2.mono (by simp; omega))) HI.out (by omega)
            have HK2 : Hid (Kept (VTab (cdom N) (.slice aa N ac) (.slice (some ⟨bg, 0, none⟩) N bc) vr gb).K w w2) := hK1.trans (Kept.ofBelow hb2)
            clear hB2 hb2 all' hs1 hx1)
         | (go_at_call 30; refine names.mono ?_; rintro e w3 ⟨rfl, hB3, hK3⟩))
      go_end0
      exact ⟨rfl, by rw [HM.out]; exact hB3, HK2.out.trans hK3⟩
    | false =>
      go_enter Try.func29, Try.ntmps29
      go_wp2_with
        (go_at_call 28; refine all'.mono ?_; rintro e w2 ⟨rfl, hb2⟩
         have HB2 : Hid (Bt w2 B (VTab (cdom N) (.slice aa N ac) (.slice (some ⟨bg, 0, none⟩) N bc) vr gb) X) := Bt.below (Bt.alloc HB.out _) hb2
         have HK2 : Hid (Kept (VTab (cdom N) (.slice aa N ac) (.slice (some ⟨bg, 0, none⟩) N bc) vr gb).K w w2) := hK1.trans (Kept.ofBelow hb2)
         clear hb2 all' hs1 hx1)
      go_end0
      exact ⟨rfl, by rw [HM.out]; exact HB2.out, HK2.out⟩
end

/-- Comes' rows at first. -/
def comes0 (N : Nat) (Mk : List Bool) : Vs
  | .a => Mk
  | .b => (List.replicate N false).set 0 (Mk.getD 0 false)
  | .gr => [true]
  | _ => []

/-- Behind the making of Comes' rows. -/
structure CRdy (w w1 : World) (B N g : Nat) (rv : Value) (Mk : List Bool) (wx : World) : Prop where
  below : Below w1.heap.size w1 wx
  size : wx.heap.size = w1.heap.size + 3
  rules : wx.cell? ⟨w.heap.size, 2, none⟩ = some rv
  mbox : wx.cell? ⟨w1.heap.size, 0, none⟩ = some (.slice (some ⟨g, 0, none⟩) N N)
  cbox : wx.cell? ⟨w1.heap.size + 2, 0, none⟩ = some (.slice (some ⟨w1.heap.size + 1, 0, none⟩) N N)
  crow : RowB wx B (w1.heap.size + 1) N ((List.replicate N false).set 0 (Mk.getD 0 false))

/-- .. but the name 0. -/
structure CRdy0 (w w1 : World) (B N g : Nat) (rv : Value) (wx : World) : Prop where
  below : Below w1.heap.size w1 wx
  size : wx.heap.size = w1.heap.size + 3
  rules : wx.cell? ⟨w.heap.size, 2, none⟩ = some rv
  mbox : wx.cell? ⟨w1.heap.size, 0, none⟩ = some (.slice (some ⟨g, 0, none⟩) N N)
  cbox : wx.cell? ⟨w1.heap.size + 2, 0, none⟩ = some (.slice (some ⟨w1.heap.size + 1, 0, none⟩) N N)
  crow : RowB wx B (w1.heap.size + 1) N (List.replicate N false)

theorem crdy0 {w w1 : World} {B N g : Nat} {rv : Value} (hN : N ≤ maxLen) (hs : w.heap.size < w1.heap.size) (hB : B ≤ w1.heap.size) (hr : w1.cell? ⟨w.heap.size, 2, none⟩ = some rv) :
    CRdy0 w w1 B N g rv (((w1.alloc (.cells #[.slice (some ⟨g, 0, none⟩) N N] 61)).alloc (.cells (madeCells #[.bool false] N) 4)).alloc (.cells #[.slice (some ⟨w1.heap.size + 1, 0, none⟩) N N] 61)) := by
  refine ⟨(((Below.refl _ _).alloc (Nat.le_refl _) _).alloc (by simp) _).alloc (by simp; omega) _, by simp, ?_, ?_, ?_, ?_⟩
  · rw [World.cell?_alloc_past _ _ _ (by simp; omega), World.cell?_alloc_past _ _ _ (by simp; omega), World.cell?_alloc_past _ _ _ hs]; exact hr
  · rw [World.cell?_alloc_past _ _ _ (by simp; omega), World.cell?_alloc_past _ _ _ (by simp)]; simp [go_sem]
  · have : w1.heap.size + 2 = ((w1.alloc (.cells #[.slice (some ⟨g, 0, none⟩) N N] 61)).alloc (.cells (madeCells #[.bool false] N) 4)).heap.size := by simp
    rw [this]
    simp [go_sem]
  · have := row_made (w1.alloc (.cells #[.slice (some ⟨g, 0, none⟩) N N] 61)) hN
    simp only [World.size_alloc] at this
    exact own_mono (World.ownsRow.alloc this _) (by omega)

theorem CRdy0.ready {w w1 wx : World} {B N g : Nat} {rv : Value} (h : CRdy0 w w1 B N g rv wx) (hs : w.heap.size < w1.heap.size) (Mk : List Bool) : CRdy w w1 B N g rv Mk (wx.setCell ⟨w1.heap.size + 1, 0, none⟩ (.bool (Mk.getD 0 false))).drew := by
  refine ⟨(h.below.setCell (by simp) _).drew, by show (wx.setCell _ _).heap.size = _; simp; exact h.size, ?_, ?_, ?_, ?_⟩
  · exact (cell_set_other (.inl (by simp only; omega))).trans h.rules
  · exact (cell_set_other (.inl (by simp only; omega))).trans h.mbox
  · exact (cell_set_other (.inl (by simp only; omega))).trans h.cbox
  · exact h.crow.set 0 _

theorem comes_start {w w1 wx : World} {B N g : Nat} {rv : Value} {Mk : List Bool} (h : RowB w1 B g N Mk) (hr : CRdy w w1 B N g rv Mk wx) (hB : B ≤ wx.heap.size) : Bt (wx.alloc (.cells #[.bool true] 4)) B (VTab (cdom N) (.slice (some ⟨g, 0, none⟩) N N) (.slice (some ⟨w1.heap.size + 1, 0, none⟩) N N) noV wx.heap.size) (comes0 N Mk) := by
  have h0 : Bt w1 B (⟨fun _ => .slice (some ⟨g, 0, none⟩) N N, fun | .a => some N | _ => none⟩ : Tab Iv) (comes0 N Mk) := by
    refine ⟨fun i r hr => ?_, fun i j a b hij ha hb => ?_⟩
    · cases i <;> simp [Tab.P] at hr
      subst hr
      exact h
    · cases i <;> simp [Tab.P] at ha
      cases j <;> simp [Tab.P] at hb
      exact absurd rfl hij
  have h1 : Bt wx B (VTab (fun | .a => some N | .b => some N | _ => none) (.slice (some ⟨g, 0, none⟩) N N) (.slice (some ⟨w1.heap.size + 1, 0, none⟩) N N) noV 0) (comes0 N Mk) :=
    bt_add .b h0 hr.below rfl hr.crow (fun b hb => by simp only [VTab, Value.ownBlock, Option.some.injEq] at hb; omega) (fun j hj m hm => by cases j <;> simp_all [VTab])
  refine bt_add .gr h1 ((Below.refl _ _).alloc (Nat.le_refl _) _) rfl ?_ (fun b hb => ?_) (fun j hj m hm => by cases j <;> simp_all [VTab, cdom])
  · exact own_mark hB
  · simp only [VTab, Value.ownBlock, Option.some.injEq] at hb
    omega

theorem comes_head {T N : Nat} {R : List Ru} (hf : Fine T N R) {Mk : List Bool} (hl : Mk.length = N) (hM : ∀ n, hasB Mk n ↔ MakesP N R n) : HeadG .gr (cdom N) (ZC N R) (comes0 N Mk) R comesX (comes0 N Mk) := by
  refine ⟨fun i n hd => ?_, fun i n m hd hm hb => ?_, fun _ _ _ h => h, fun hz => by simp [bit, comes0] at hz⟩
  · cases i <;> simp [cdom] at hd <;> subst hd <;> simp [comes0, hl]
  · cases i <;> simp [cdom] at hd
    · trivial
    · subst hd
      exact (hM m).1 ⟨Int.natCast_nonneg _, by simpa [bit, comes0] using hb⟩
    · subst hd
      by_cases h0 : m = 0
      · subst h0
        refine Lv_closed (ComesF_mono hf _) _ (.inl ⟨rfl, (hM 0).1 ⟨Int.le_refl _, ?_⟩⟩)
        simpa [bit, comes0, List.getD, hm] using hb
      · unfold bit comes0 at hb
        rw [List.getD, List.getElem?_set_ne (fun e : 0 = m => h0 e.symm)] at hb
        simp [hm] at hb

def cixs (N : Nat) : List (Iv × Nat) := (List.range N).map (fun m => (.a, m)) ++ (List.range N).map fun m => (.b, m)
theorem cixs_in (N : Nat) : ∀ i n m, i ≠ Iv.gr → cdom N i = some n → m < n → (i, m) ∈ cixs N := fun i n m hi hd hm => by
  cases i <;> simp [cdom] at hd hi <;> subst hd <;> simp [cixs, hm]
theorem cixs_no (N : Nat) : ∀ p ∈ cixs N, p.1 ≠ Iv.gr := fun p hp => by
  simp only [cixs, List.mem_append, List.mem_map] at hp
  rcases hp with ⟨_, _, rfl⟩ | ⟨_, _, rfl⟩ <;> simp

set_option maxRecDepth 100000 in
set_option maxHeartbeats 1600000 in
theorem devComes_may {w : World} {T N : Nat} {rv : Value} {R : List Ru} (hr : RulesAt w w.heap.size rv R) (hm : mayB T N R = true) :
    Calls Try.prog 23 #[.agg #[.int .i64 T, .int .i64 N, rv]] w fun e w' => ∃ g Y, e = .returned (.tuple #[.slice (some ⟨g, 0, none⟩) N N, .int .i64 0]) ∧ Below w.heap.size w w' ∧ RowB w' (w.heap.size + 1) g N Y ∧ ∀ n, hasB Y n ↔ ComesP N R n := by
  have hf := may_Fine hm
  obtain ⟨hT, hN1, hN, hRl, hfine⟩ := may_fine hm
  obtain ⟨ra, rc, hrv⟩ := hr.1
  subst hrv
  have mk := devMakes_may (T := T) (N := N) (hr.boxed (.cells #[.int .i64 T, .int .i64 N, .slice ra R.length rc] 24)) hm
  simp only [World.size_alloc] at mk
  have HR : Hid (RulesAt w w.heap.size (.slice ra R.length rc) R) := hr
  have HF : Hid (Fine T N R) := hf
  have HQ : Hid (∀ q, q < R.length → (R.getD q (0, [])).2.length ≤ 8) := fun q hq => (hfine q hq).2.2.1
  have mkN := make_bools N (by omega)
  have hN0 : 0 < N := by omega
  clear hr hm hf hfine
  go_enter Try.func23, Try.ntmps23
  go_upto_region 5 with
    (go_at_call 22; refine mk.mono ?_; rintro e w1 ⟨g, Mk, rfl, hB1, hrow, hMk⟩
     have b1 : w1.cell? ⟨w.heap.size, 1, none⟩ = some (.int .i64 N) := (hB1.cell (by simp)).trans (by simp [go_sem])
     have b2 : w1.cell? ⟨w.heap.size, 2, none⟩ = some (.slice ra R.length rc) := (hB1.cell (by simp)).trans (by simp [go_sem])
     have hs1 : w.heap.size + 1 ≤ w1.heap.size := by have := hB1.size; simpa using this
     have HX : Hid (Below w.heap.size w w1) := ((Below.refl _ _).alloc (Nat.le_refl _) _).trans (hB1.mono (by simp))
     have m1 : (w1.alloc (.cells #[.slice (some ⟨g, 0, none⟩) N N] 61)).cell? ⟨w.heap.size, 1, none⟩ = some (.int .i64 N) := by rw [World.cell?_alloc_past _ _ _ (by omega)]; exact b1
     have HRow : Hid (RowB w1 (w.heap.size + 1 + 1) g N Mk) := hrow
     have HMk : Hid (∀ n, hasB Mk n ↔ MakesP N R n) := hMk
     have c0 := (hrow.cell (m := 0) hN0).1
     clear hB1 mk hrow hMk)
  have hW := crdy0 (w := w) (w1 := w1) (B := w.heap.size + 1 + 1) (N := N) (g := g) (rv := .slice ra R.length rc) (by unfold maxLen; omega) (by omega) (by have := HRow.out.ge (by omega); have := World.block_lt_of_cell? w1 _ c0; simp only at this; omega) b2
  generalize (((w1.alloc (.cells #[.slice (some ⟨g, 0, none⟩) N N] 61)).alloc (.cells (madeCells #[.bool false] N) 4)).alloc (.cells #[.slice (some ⟨w1.heap.size + 1, 0, none⟩) N N] 61)) = W0 at hW ⊢
  have hgl := World.block_lt_of_cell? w1 _ c0
  simp only at hgl
  have d0 : W0.cell? ⟨g, 0, none⟩ = some (.bool (Mk.getD 0 false)) := (hW.below.cell (p := ⟨g, 0, none⟩) hgl).trans c0
  have d1 := hW.mbox
  have d2 : W0.cell? ⟨w1.heap.size + 1 + 1, 0, none⟩ = _ := hW.cbox
  obtain ⟨d3, d4⟩ := hW.crow.cell (m := 0) hN0
  have HW : Hid (CRdy0 w w1 (w.heap.size + 1 + 1) N g (.slice ra R.length rc) W0) := hW
  obtain ⟨x, hx⟩ : ∃ x, Mk.getD 0 false = x := ⟨_, rfl⟩
  have HXx : Hid (Mk.getD 0 false = x) := hx
  rw [hx] at d0
  have j1 : (0 : Int) < (N : Int) := by omega
  clear hW m1 b1 b2 c0 mkN hx
  go_cut [] from 18 to 27 (fun wx => CRdy w w1 (w.heap.size + 1 + 1) N g (.slice ra R.length rc) Mk wx)
  case first =>
    refine wp_region_tail 5 (by kernel_rfl) (by kernel_rfl) ?_
    simp only [List.take_succ_cons, List.take_zero, List.drop_succ_cons, List.drop_zero]
    repeat still_step
    refine wpStill_nil ?_
    go_wp2_with fail
    go_meet
    case rel => have := HW.out.ready (by omega) Mk; rw [HXx.out] at this; exact this
  case rest =>
    have r2 := hcut.rules
    have HC : Hid (CRdy w w1 (w.heap.size + 1 + 1) N g (.slice ra R.length rc) Mk wc) := hcut
    clear hcut d0 d1 d2 d3 d4
    go_wp2_with
      (go_at_call 26
       have hsz := HC.out.size
       have hBt := comes_start HRow.out HC.out (by omega)
       have hBA : Below w1.heap.size w1 (wc.alloc (.cells #[.bool true] 4)) := HC.out.below.alloc (by omega) _
       have hRu : RulesAt (wc.alloc (.cells #[.bool true] 4)) (w.heap.size + 1 + 1) (.slice ra R.length rc) R := ((HR.out.below HX.out).below (hBA.mono (by omega))).mono (by omega)
       have hsK : ¬ (VTab (cdom N) (.slice (some ⟨g, 0, none⟩) N N) (.slice (some ⟨w1.heap.size + 1, 0, none⟩) N N) noV wc.heap.size).K (w1.heap.size + 2) := VTab.notK fun i n hd => by cases i <;> simp [cdom] at hd <;> simp [VTab, Value.ownBlock] <;> omega
       have hxK : ¬ (VTab (cdom N) (.slice (some ⟨g, 0, none⟩) N N) (.slice (some ⟨w1.heap.size + 1, 0, none⟩) N N) noV wc.heap.size).K w1.heap.size := VTab.notK fun i n hd => by cases i <;> simp [cdom] at hd <;> simp [VTab, Value.ownBlock] <;> omega
       have hsv : (wc.alloc (.cells #[.bool true] 4)).cell? ⟨w1.heap.size + 2, 0, none⟩ = some (.slice (some ⟨w1.heap.size + 1, 0, none⟩) N N) := (World.cell?_alloc_past _ _ _ (by omega)).trans HC.out.cbox
       have hxv : (wc.alloc (.cells #[.bool true] 4)).cell? ⟨w1.heap.size, 0, none⟩ = some (.slice (some ⟨g, 0, none⟩) N N) := (World.cell?_alloc_past _ _ _ (by omega)).trans HC.out.mbox
       refine (until_gen (c := VTab (cdom N) (.slice (some ⟨g, 0, none⟩) N N) (.slice (some ⟨w1.heap.size + 1, 0, none⟩) N N) noV wc.heap.size) (gr := Iv.gr) (B := w.heap.size + 1 + 1) (X := comes0 N Mk) (R := R) (f := comesX) (Head := HeadG .gr (cdom N) (ZC N R) (comes0 N Mk) R comesX) (togo := togoG .gr (cixs N))
         hBt (by omega) (vmark rfl) hRu (by omega) (fun k hk w2 Y qa qc hK hBtY hRA hqc => ?_) (fun args w => by simp [callFunc, Try.func29, Try.f29 ]) (comes_head HF.out HRow.out.len HMk.out)
         (HeadG.next rfl (cixs_in N) (cixs_no N) (fun _ => trivial) (fun q hq Y hY => (comes_up HF.out (mem_getD hq) hY).1) (fun q hq Y hY hs => comes_snd HF.out (mem_getD hq) hY hs))).mono ?_
       · have e : ∀ a b c d : Value, #[a, b] ++ #[c, d] = #[a, b, c, d] := fun a b c d => by simp
         rw [e]
         have hs := hK.size
         simp only [World.size_alloc] at hs
         exact comes1_any hBtY (by omega) (hK.cell hsK hsv) hsK (hK.cell hxK hxv) hxK HF.out (mem_getD hk) (HQ.out k hk) hRA
       rintro e w3 ⟨rfl, Y, hH, hg, hB3, hK3⟩
       have n0 : w3.cell? ⟨w1.heap.size + 1 + 1, 0, none⟩ = _ := hK3.cell hsK hsv
       have HB3 : Hid (Bt w3 (w.heap.size + 1 + 1) (VTab (cdom N) (.slice (some ⟨g, 0, none⟩) N N) (.slice (some ⟨w1.heap.size + 1, 0, none⟩) N N) noV wc.heap.size) Y) := hB3
       have HL : Hid (∀ n, hasB (Y .b) n ↔ ComesP N R n) := comes_least HF.out (fun n hn => (HMk.out n).2 hn) (fun h0 => by
         have := ((HMk.out 0).2 h0).2
         simpa [bit, comes0, List.getD, hN0] using this) hH hg
       have HB : Hid (Below w.heap.size w w3) := HX.out.trans ((hBA.mono (by omega)).trans ((hK3.below (fun b hb => Bt.ge hB3 hb) (by simp; omega)).mono (by omega)))
       clear hBt hBA hRu hsK hxK hsv hxv hH hg hB3 hK3)
    refine bodyPost_ret (v := .tuple #[.slice (some ⟨w1.heap.size + 1, 0, none⟩) N N, .int .i64 0]) (by simp [results, Try.results23, go_sem]) rfl ⟨w1.heap.size + 1, Y .b, rfl, HB.out, own_mono (Bt.own (i := Iv.b) HB3.out rfl) (by omega), HL.out⟩

end Go.Proofs.Ytlalmfheiippiaa

/- The contract of package step's pruneOf. -/
namespace Go.Proofs.Ytlalmfheiippiaa
open Go.RowKit

theorem same_hasB {X Y : List Bool} {N : Nat} {P : Int → Prop} (h1 : X.length = N) (h2 : Y.length = N) (p1 : ∀ n, hasB X n ↔ P n) (p2 : ∀ n, hasB Y n ↔ P n) : X = Y := by
  refine List.ext_getElem (by omega) fun i hi hi' => ?_
  have := (p1 i).trans (p2 i).symm
  unfold hasB at this
  simp only [Int.toNat_natCast] at this
  have e1 : X.getD i false = X[i] := by simp [List.getD, hi]
  have e2 : Y.getD i false = Y[i] := by simp [List.getD, hi']
  rw [e1, e2] at this
  have h0 : (0 : Int) ≤ (i : Int) := Int.natCast_nonneg _
  cases hx : X[i] <;> cases hy : Y[i] <;> simp_all

set_option maxRecDepth 100000 in
set_option maxHeartbeats 6400000 in
theorem st_pruneOf_no {w : World} {T N : Int} {ra : Option Addr} {rc : Nat} {R : List Ru} {op a b c : Int} (hr : RulesAt w w.heap.size (.slice ra R.length rc) R) (hs : ¬ (a = 0 ∧ b = 0 ∧ c = 0)) :
    Calls Try.prog 16 #[.agg #[.int .i64 T, .int .i64 N, .slice ra R.length rc, .int .i64 op, .int .i64 a, .int .i64 b, .int .i64 c]] w fun e w' => e = .returned (.tuple #[.nilIface, .bool false]) ∧ Below w.heap.size w w' := by
  have hK := kbox_start (T := T) (N := N) (op := op) (a := a) (b := b) (c := c) hr
  obtain ⟨W0, hW0⟩ : ∃ W, w.alloc (.cells #[.int .i64 T, .int .i64 N, .slice ra R.length rc, .int .i64 op, .int .i64 a, .int .i64 b, .int .i64 c] 46) = W := ⟨_, rfl⟩
  rw [hW0] at hK
  have x4 := hK.x4
  have x5 := hK.x5
  have x6 := hK.x6
  have HB : Hid (Below w.heap.size w W0) := hK.below
  clear hK hr
  by_cases ha : a = 0
  · subst ha
    by_cases hb : b = 0
    · subst hb
      have ec : (c == 0) = false := by
        have : c ≠ 0 := fun hc => hs ⟨rfl, rfl, hc⟩
        simpa using this
      clear hs
      go_enter Try.func16, Try.ntmps16
      go_wp2_with fail
      refine bodyPost_ret (v := .tuple #[.nilIface, .bool false]) (by simp [results, Try.results16, go_sem]) rfl ?_
      exact ⟨rfl, HB.out⟩
    · have eb : (b == 0) = false := by simpa using hb
      clear hs hb
      go_enter Try.func16, Try.ntmps16
      go_wp2_with fail
      refine bodyPost_ret (v := .tuple #[.nilIface, .bool false]) (by simp [results, Try.results16, go_sem]) rfl ?_
      exact ⟨rfl, HB.out⟩
  · have ea : (a != 0) = true := by simpa using ha
    clear hs ha
    go_enter Try.func16, Try.ntmps16
    go_wp2_with fail
    refine bodyPost_ret (v := .tuple #[.nilIface, .bool false]) (by simp [results, Try.results16, go_sem]) rfl ?_
    exact ⟨rfl, HB.out⟩

set_option maxRecDepth 100000 in
set_option maxHeartbeats 6400000 in
theorem st_pruneOf_yes {w : World} {T N : Nat} {ra : Option Addr} {rc : Nat} {R : List Ru} {op : Int} (hr : RulesAt w w.heap.size (.slice ra R.length rc) R) (hm : mayB T N R = true) :
    Calls Try.prog 16 #[.agg #[.int .i64 T, .int .i64 N, .slice ra R.length rc, .int .i64 op, .int .i64 0, .int .i64 0, .int .i64 0]] w fun e w' => ∃ ov, e = .returned (.tuple #[.iface 66 (.agg #[.int .i64 T, .int .i64 N, .slice ra R.length rc, .int .i64 op, .int .i64 0, .int .i64 0, .int .i64 0, ov]), .bool true]) ∧ w'.ownsRow w.heap.size 3 1 ov (idxF (fun k => needB N R (R.getD k (0, []))) R.length).length (idxV (idxF (fun k => needB N R (R.getD k (0, []))) R.length)) ∧ Below w.heap.size w w' := by
  obtain ⟨p, hp⟩ : ∃ p : Nat → Bool, (fun k => needB N R (R.getD k (0, []))) = p := ⟨_, rfl⟩
  rw [hp]
  have HPp : Hid (∀ k, p k = needB N R (R.getD k (0, []))) := fun k => by rw [← hp]
  clear hp
  have hf := may_Fine hm
  obtain ⟨hT, hN1, hN, hRl, h5⟩ := may_fine hm
  have hK := kbox_start (T := T) (N := N) (op := op) (a := 0) (b := 0) (c := 0) hr
  obtain ⟨W0, hW0⟩ : ∃ W, w.alloc (.cells #[.int .i64 T, .int .i64 N, .slice ra R.length rc, .int .i64 op, .int .i64 0, .int .i64 0, .int .i64 0] 46) = W := ⟨_, rfl⟩
  rw [hW0] at hK
  have HK : Hid (KBox w T N ra rc R op 0 0 0 W0) := hK
  have x0 := hK.x0
  have x1 := hK.x1
  have x2 := hK.x2
  have x4 := hK.x4
  have x5 := hK.x5
  have x6 := hK.x6
  have mk := devMakes_may hK.all hm
  have HMay : Hid (mayB T N R = true) := hm
  have HFine : Hid (Fine T N R) := hf
  have H5 : Hid (∀ q, q < R.length → (0 ≤ (R.getD q (0, [])).1 ∧ (R.getD q (0, [])).1 < (N : Int)) ∧ (R.getD q (0, [])).2.length ≤ 1000 ∧ ∀ j, j < (R.getD q (0, [])).2.length → ((R.getD q (0, [])).2.getD j (false, 0)).1 = false → 0 ≤ ((R.getD q (0, [])).2.getD j (false, 0)).2 ∧ ((R.getD q (0, [])).2.getD j (false, 0)).2 < (N : Int)) := fun q hq => by
    obtain ⟨h1, h2, h3, h4⟩ := h5 q hq
    generalize (R.getD q (0, [])).2 = l at h3 h4 ⊢
    refine ⟨⟨h1, h2⟩, by omega, fun j hj ht => ?_⟩
    have hmem : l.getD j (false, 0) ∈ l := by
      rw [show l.getD j (false, 0) = l[j] by simp [List.getD, hj]]
      exact List.getElem_mem hj
    have := h4 _ hmem
    rw [ht] at this
    simpa using this
  have hRl8 : R.length ≤ 1000 := by omega
  clear hr hm hf h5 hT hN hRl hK
  go_enter Try.func16, Try.ntmps16
  go_wp2_with
    (first
     | (go_at_call 22; refine mk.mono ?_; rintro e w2 ⟨g1, Y1, rfl, hB2, hY1, hM1⟩
        have hB3 : Below W0.heap.size W0 (w2.alloc (.cells #[.slice (some ⟨g1, 0, none⟩) N N] 61)) := hB2.alloc hB2.size _
        have hK3 := HK.out.next hB3
        obtain ⟨w3, hw3⟩ : ∃ W, w2.alloc (.cells #[.slice (some ⟨g1, 0, none⟩) N N] 61) = W := ⟨_, rfl⟩
        obtain ⟨mb, hmb⟩ : ∃ x, w2.heap.size = x := ⟨_, rfl⟩
        have HMb : Hid (w3.cell? ⟨w2.heap.size, 0, none⟩ = some (.slice (some ⟨g1, 0, none⟩) N N)) := by show _ = _; rw [← hw3]; exact cell_of_blk (heap_alloc_new _ _) rfl
        rw [hw3] at hB3 hK3
        have v0 := hK3.x0
        have v1 := hK3.x1
        have v2 := hK3.x2
        have co := devComes_may hK3.all HMay.out
        have HK3 : Hid (KBox w T N ra rc R op 0 0 0 w3) := hK3
        have HY3 : Hid (RowB w3 (W0.heap.size + 1) g1 N Y1) := by show RowB _ _ _ _ _; rw [← hw3]; exact hY1.below ((Below.refl _ _).alloc (Nat.le_refl _) _)
        have HM1 : Hid (∀ n, hasB Y1 n ↔ MakesP N R n) := hM1
        clear mk hB2 hY1 hM1 hB3 hK3 hmb x0 x1 x2 x4 x5 x6)
     | (go_at_call 23; refine co.mono ?_; rintro e w4 ⟨g2, Y2, rfl, hB4, hY2, hM2⟩
        have hK4 := HK3.out.next hB4
        have HK4 : Hid (KBox w T N ra rc R op 0 0 0 w4) := hK4
        have HMb4 : Hid (w4.cell? ⟨w2.heap.size, 0, none⟩ = some (.slice (some ⟨g1, 0, none⟩) N N)) := (hB4.cell (World.block_lt_of_cell? _ _ HMb.out)).trans HMb.out
        have HY4 : Hid (RowB w4 (W0.heap.size + 1) g1 N Y1) := HY3.out.below hB4
        have HZ4 : Hid (RowB w4 (w3.heap.size + 1) g2 N Y2) := hY2
        have HM2 : Hid (∀ n, hasB Y2 n ↔ ComesP N R n) := hM2
        have t0 := hK4.x0
        have t1 := hK4.x1
        have t2 := hK4.x2
        have t3 := hK4.x3
        have t4 := hK4.x4
        have t5 := hK4.x5
        have t6 := hK4.x6
        have t2' := (hK4.next ((Below.refl _ _).alloc (Nat.le_refl _) (.cells #[.int .i64 T, .int .i64 N, .slice ra R.length rc, .int .i64 op, .int .i64 0, .int .i64 0, .int .i64 0, .slice none 0 0] 66))).x2
        clear co hB4 hY2 hM2 hK4 v0 v1 v2 hw3 HMb HY3 hW0))
  have HP : Hid (∀ k, p k = (Y1.getD (R.getD k (0, [])).1.toNat false && Y2.getD (R.getD k (0, [])).1.toNat false && allB Y1 (R.getD k (0, [])).2)) := fun k => by
    have e1 : Y1 = makesA R N := same_hasB HY4.out.len (makesA_iff HFine.out).1 HM1.out (makesA_iff HFine.out).2
    have e2 : Y2 = comesA R N := same_hasB HZ4.out.len (comesA_iff HFine.out).1 HM2.out (comesA_iff HFine.out).2
    rw [HPp.out k, e1, e2]
    rfl
  obtain ⟨mb, hmb⟩ : ∃ x, w2.heap.size = x := ⟨_, rfl⟩
  rw [hmb] at HMb4 ⊢
  clear HPp hmb HM1 HM2 HMay t0 t1 t2 t3 t4 t5 t6 t2'
  obtain ⟨pb, hpb⟩ : ∃ x, w4.heap.size = x := ⟨_, rfl⟩
  have hs1 : (w4.alloc (.cells #[.int .i64 T, .int .i64 N, .slice ra R.length rc, .int .i64 op, .int .i64 0, .int .i64 0, .int .i64 0, .slice none 0 0] 66)).heap[pb]? = some (.cells #[.int .i64 T, .int .i64 N, .slice ra R.length rc, .int .i64 op, .int .i64 0, .int .i64 0, .int .i64 0, .slice none 0 0] 66 (0, 0)) := by rw [← hpb]; exact heap_alloc_new _ _
  have hs2 : Below pb w4 (w4.alloc (.cells #[.int .i64 T, .int .i64 N, .slice ra R.length rc, .int .i64 op, .int .i64 0, .int .i64 0, .int .i64 0, .slice none 0 0] 66)) := by rw [← hpb]; exact (Below.refl _ _).alloc (Nat.le_refl _) _
  have HS : Hid (pb = w4.heap.size) := hpb.symm
  obtain ⟨W1, hW1⟩ : ∃ W, w4.alloc (.cells #[.int .i64 T, .int .i64 N, .slice ra R.length rc, .int .i64 op, .int .i64 0, .int .i64 0, .int .i64 0, .slice none 0 0] 66) = W := ⟨_, rfl⟩
  rw [hW1] at hs1 hs2 ⊢
  rw [hpb]
  have HS1 : Hid (W1.heap[pb]? = some (.cells #[.int .i64 T, .int .i64 N, .slice ra R.length rc, .int .i64 op, .int .i64 0, .int .i64 0, .int .i64 0, .slice none 0 0] 66 (0, 0)) ∧ Below pb w4 W1) := ⟨hs1, hs2⟩
  clear hW1 hpb hs1 hs2
  go_loopw [47] (fun s47 wr => ∃ (k : Nat) (ov : Value), s47 = .int .i64 k ∧ k ≤ R.length ∧ wr.heap[pb]? = some (.cells #[.int .i64 T, .int .i64 N, .slice ra R.length rc, .int .i64 op, .int .i64 0, .int .i64 0, .int .i64 0, ov] 66 (0, 0)) ∧ wr.ownsRow (pb + 1) 3 1 ov (idxF p k).length (idxV (idxF p k)) ∧ Below pb w4 wr) (fun s _ => R.length - (intOf s).toNat)
  case atStart => exact ⟨0, _, rfl, Nat.zero_le _, HS1.out.1, World.ownsRow_nil _ _ _ _, HS1.out.2⟩
  case round =>
    obtain ⟨k, ov, rfl, hk, hbx, hO, hB⟩ := hrel
    clear HS1
    have HBx : Hid (wr.heap[pb]? = some (.cells #[.int .i64 T, .int .i64 N, .slice ra R.length rc, .int .i64 op, .int .i64 0, .int .i64 0, .int .i64 0, ov] 66 (0, 0))) := hbx
    have HO : Hid (wr.ownsRow (pb + 1) 3 1 ov (idxF p k).length (idxV (idxF p k))) := hO
    have HB : Hid (Below pb w4 wr) := hB
    have hpl : pb < wr.heap.size := (Array.getElem?_eq_some_iff.1 hbx).1
    have hB4 : ∀ wq, Below pb w4 wq → Below w4.heap.size w4 wq := fun wq hq => by rw [← HS.out]; exact hq
    have HB4 : Hid (∀ wq, Below pb w4 wq → Below w4.heap.size w4 wq) := hB4
    clear hB4
    by_cases hlt : k < R.length
    · obtain ⟨b0, o0, rc0, qa, qc, hv, _, k1, k2, hsy⟩ := (HK4.out.next (HB4.out wr hB)).rules.syms hlt
      cases hv
      obtain ⟨⟨hL0, hL1⟩, hl8, hsyn⟩ := H5.out k hlt
      have hpk := HP.out k
      have hsu := idx_succ p k
      have hln := idxF_len p k
      obtain ⟨⟨L, l⟩, hx⟩ : ∃ x, R.getD k (0, []) = x := ⟨_, rfl⟩
      rw [hx] at k1 k2 hsy hL0 hL1 hl8 hsyn hpk
      simp only at k1 k2 hsy hL0 hL1 hl8 hsyn hpk
      obtain ⟨Ln, rfl⟩ : ∃ q : Nat, L = q := ⟨L.toNat, by omega⟩
      rw [Int.toNat_natCast] at hpk
      obtain ⟨W2, hW2⟩ : ∃ W, wr.alloc (.cells #[.int .i64 Ln, .slice qa l.length qc] 39) = W := ⟨_, rfl⟩
      obtain ⟨rb, hrb⟩ : ∃ x, wr.heap.size = x := ⟨_, rfl⟩
      have hB2 : Below wr.heap.size wr W2 := by rw [← hW2]; exact (Below.refl _ _).alloc (Nat.le_refl _) _
      have r0 : W2.cell? ⟨rb, 0, none⟩ = some (.int .i64 Ln) := by rw [← hW2, ← hrb]; exact cell_of_blk (heap_alloc_new _ _) rfl
      have r1 : W2.cell? ⟨rb, 1, none⟩ = some (.slice qa l.length qc) := by rw [← hW2, ← hrb]; exact cell_of_blk (heap_alloc_new _ _) rfl
      have hB2' : Below pb w4 W2 := hB.trans (hB2.mono (by omega))
      have hW4 := HB4.out W2 hB2'
      have m0 := (hW4.cell (World.block_lt_of_cell? _ _ HMb4.out)).trans HMb4.out
      have hY := HY4.out.below hW4
      have hZ := HZ4.out.below hW4
      have c1 := (hY.cell (m := Ln) (by omega)).1
      have c2 := (hZ.cell (m := Ln) (by omega)).1
      have cf := st_containsFunc (w := W2) (hsy.same (same_below hB2)) hl8 m0 hY hsyn
      obtain ⟨y1, hy1⟩ : ∃ y, Y1.getD Ln false = y := ⟨_, rfl⟩
      obtain ⟨y2, hy2⟩ : ∃ y, Y2.getD Ln false = y := ⟨_, rfl⟩
      obtain ⟨y3, hy3⟩ : ∃ y, allB Y1 l = y := ⟨_, rfl⟩
      rw [hy1] at c1 hpk
      rw [hy2] at c2 hpk
      rw [hy3] at cf hpk
      rw [hpk] at hsu
      have HBr : Hid (Below wr.heap.size wr W2 ∧ Below pb w4 W2 ∧ pb < wr.heap.size) := ⟨hB2, hB2', hpl⟩
      have i0 : (0 : Int) ≤ (k : Int) := Int.natCast_nonneg _
      have i1 : (k : Int) < (R.length : Int) := by omega
      have j0 : (0 : Int) ≤ (Ln : Int) := Int.natCast_nonneg _
      have HSu : Hid (idxF p (k + 1) = idxF p k ++ (if (y1 && y2 && y3) = true then [k] else [])) := hsu
      have keep : ∀ w5, Below W2.heap.size W2 w5 → (y1 && y2 && y3) = false → ∃ (k' : Nat) (ov' : Value), Value.int .i64 ((k : Int) + 1) = .int .i64 k' ∧ k' ≤ R.length ∧ w5.heap[pb]? = some (.cells #[.int .i64 T, .int .i64 N, .slice (some ⟨b0, o0, none⟩) R.length rc, .int .i64 op, .int .i64 0, .int .i64 0, .int .i64 0, ov'] 66 (0, 0)) ∧ w5.ownsRow (pb + 1) 3 1 ov' (idxF p k').length (idxV (idxF p k')) ∧ Below pb w4 w5 := fun w5 hB5 hn => by
        have hBw : Below wr.heap.size wr w5 := HBr.out.1.trans (hB5.mono HBr.out.1.size)
        refine ⟨k + 1, ov, by push_cast; rfl, by omega, (hBw.block _ HBr.out.2.2).trans HBx.out, ?_, HB.out.trans (hBw.mono (Nat.le_of_lt HBr.out.2.2))⟩
        rw [HSu.out, hn]
        simpa using own_below HO.out hBw fun g hg => (HO.out.lt g hg).2
      have HKeep : Hid (∀ w5, Below W2.heap.size W2 w5 → (y1 && y2 && y3) = false → ∃ (k' : Nat) (ov' : Value), Value.int .i64 ((k : Int) + 1) = .int .i64 k' ∧ k' ≤ R.length ∧ w5.heap[pb]? = some (.cells #[.int .i64 T, .int .i64 N, .slice (some ⟨b0, o0, none⟩) R.length rc, .int .i64 op, .int .i64 0, .int .i64 0, .int .i64 0, ov'] 66 (0, 0)) ∧ w5.ownsRow (pb + 1) 3 1 ov' (idxF p k').length (idxV (idxF p k')) ∧ Below pb w4 w5) := keep
      clear hx hB2 hB2' hW4 hY hZ hy1 hy2 hy3 hpk hsu hsy hsyn hB hO hbx keep hpl
      cases y1 with
      | false =>
        go_wp2_with fail
        go_roundw
        case rel => first | exact HKeep.out _ (Below.refl _ _) rfl | (obtain ⟨k', ov', h⟩ := HKeep.out _ (Below.refl _ _) rfl; exact ⟨k', ov', by rw [← h.1]; go_num, h.2⟩)
        case measure => simp [intOf]; omega
      | true =>
        cases y2 with
        | false =>
          go_wp2_with fail
          go_roundw
          case rel => first | exact HKeep.out _ (Below.refl _ _) rfl | (obtain ⟨k', ov', h⟩ := HKeep.out _ (Below.refl _ _) rfl; exact ⟨k', ov', by rw [← h.1]; go_num, h.2⟩)
          case measure => simp [intOf]; omega
        | true =>
          cases y3 with
          | false =>
            go_wp2_with (go_at_call 25; refine cf.mono ?_; rintro e w5 ⟨rfl, hB5⟩; clear cf)
            go_roundw
            case rel => first | exact HKeep.out _ hB5 rfl | (obtain ⟨k', ov', h⟩ := HKeep.out _ hB5 rfl; exact ⟨k', ov', by rw [← h.1]; go_num, h.2⟩)
            case measure => simp [intOf]; omega
          | true =>
            obtain ⟨oa, oc, hov⟩ := own_form HO.out
            obtain ⟨q, hq⟩ : ∃ q, (idxF p k).length = q := ⟨_, rfl⟩
            rw [hq] at hov hln
            have n1 : q + 1 ≤ maxLen := by unfold maxLen; omega
            have n2 : (q + 1) * 8 ≤ 140737488355328 := by omega
            have HX : Hid (idxF p (k + 1) = idxF p k ++ [k] ∧ (idxF p k).length = q ∧ ov = .slice oa q oc) := ⟨by simpa using HSu.out, hq, hov⟩
            obtain ⟨i0', hi0, hz0, hz1, hz2⟩ := info_parts Try.infoIn8
            clear hov hq
            go_wp2_with
              (first
               | (go_at_call 25; refine cf.mono ?_; rintro e w5 ⟨rfl, hB5⟩; clear cf
                  have hBw : Below wr.heap.size wr w5 := HBr.out.1.trans (hB5.mono HBr.out.1.size)
                  have HBw : Hid (Below wr.heap.size wr w5) := hBw
                  have hbx5 := (hBw.block _ HBr.out.2.2).trans HBx.out
                  have g7 : w5.cell? ⟨pb, 7, none⟩ = some (.slice oa q oc) := by rw [← HX.out.2.2]; exact cell_of_blk hbx5 rfl
                  have own5 := (own_below HO.out hBw fun g hg => (HO.out.lt g hg).2).alloc (.cells #[.int .i64 k] 3)
                  rw [HX.out.2.1, HX.out.2.2] at own5
                  have hnw5 := World.news_of_block (cs := #[.int .i64 k]) (t := 3) (fr := (0, 0)) (heap_alloc_new w5 (.cells #[.int .i64 k] 3))
                  have hb5 : pb + 1 ≤ (w5.alloc (.cells #[.int .i64 k] 3)).heap.size := by
                    have := hBw.size
                    have := HBr.out.2.2
                    simp
                    omega
                  clear hBw hbx5 hB5)
               | (at_builtin
                  refine wpList_append_lies _ rfl _ _ _ rfl (pb + 1) 3 i0' _ 1 8 Try.underlying56 hi0 hz0 hz1 hz2 rfl (by omega) (.slice oa q oc) q (idxV (idxF p k)) rfl own5 ⟨w5.heap.size, 0, none⟩ 1 1 [.int .i64 k] rfl rfl hnw5 (by simp [Value.oneCell']) (by omega) n1 n2 hb5 _ rfl ?_
                  intro g6 cap6 w6 hown6 hgrow6 hat6 hlt6
                  have hB6 : Below (pb + 1) w5 w6 := ((Below.refl _ _).alloc (Nat.le_trans HBr.out.2.2 HBw.out.size) _).grown hgrow6 hb5 fun j hj => (own5.lt j hj).1
                  have hbx6 := (hB6.block pb (by omega)).trans ((HBw.out.block _ HBr.out.2.2).trans HBx.out)
                  have g6c : w6.cell? ⟨pb, 7, none⟩ = some ov := cell_of_blk hbx6 rfl
                  have g6f : w6.frozen? ⟨pb, 7, none⟩ = false := frozen_of_blk hbx6
                  have HB6 : Hid (Below (pb + 1) w5 w6) := hB6
                  have HBx6 : Hid (w6.heap[pb]? = some (.cells #[.int .i64 T, .int .i64 N, .slice (some ⟨b0, o0, none⟩) R.length rc, .int .i64 op, .int .i64 0, .int .i64 0, .int .i64 0, ov] 66 (0, 0))) := hbx6
                  clear hB6 hbx6))
            go_roundw
            case rel =>
              have hlt6' : pb < w6.heap.size := (Array.getElem?_eq_some_iff.1 HBx6.out).1
              refine ⟨k + 1, .slice (some ⟨g6, 0, none⟩) (q + 1) cap6, by go_num, by omega, ?_, ?_, ?_⟩
              · have := heap_setCell_same w6 pb 7 _ 66 (.slice (some ⟨g6, 0, none⟩) (q + 1) cap6) HBx6.out
                simpa using this
              · rw [HX.out.1, List.length_append, HX.out.2.1]
                refine own_setLow ?_ (by simp) _
                unfold idxV at hown6 ⊢
                rw [List.map_append]
                exact hown6
              · have h5 : Below pb w4 w5 := HB.out.trans (HBw.out.mono (Nat.le_of_lt HBr.out.2.2))
                exact (h5.trans (HB6.out.mono (by omega))).setCell (by simp) _
            case measure => simp [intOf]; omega
    · have hkk : k = R.length := by omega
      obtain ⟨oa, oc, hov⟩ := own_form hO
      subst hov
      have g0 : wr.cell? ⟨pb, 0, none⟩ = some (.int .i64 T) := cell_of_blk hbx rfl
      have g1' : wr.cell? ⟨pb, 1, none⟩ = some (.int .i64 N) := cell_of_blk hbx rfl
      have g2' : wr.cell? ⟨pb, 2, none⟩ = some (.slice ra R.length rc) := cell_of_blk hbx rfl
      have g3 : wr.cell? ⟨pb, 3, none⟩ = some (.int .i64 op) := cell_of_blk hbx rfl
      have g4 : wr.cell? ⟨pb, 4, none⟩ = some (.int .i64 0) := cell_of_blk hbx rfl
      have g5 : wr.cell? ⟨pb, 5, none⟩ = some (.int .i64 0) := cell_of_blk hbx rfl
      have g6 : wr.cell? ⟨pb, 6, none⟩ = some (.int .i64 0) := cell_of_blk hbx rfl
      have g7 : wr.cell? ⟨pb, 7, none⟩ = some (.slice oa (idxF p k).length oc) := cell_of_blk hbx rfl
      have HKr : Hid (Below w.heap.size w wr) := (HK4.out.next (HB4.out wr hB)).below
      have HL : Hid (wr.ownsRow w.heap.size 3 1 (.slice oa (idxF p k).length oc) (idxF p k).length (idxV (idxF p k)) ∧ k = R.length) := ⟨own_mono hO (by have := HK4.out.below.size; have := HS.out; omega), hkk⟩
      obtain ⟨q, hq⟩ : ∃ q, (idxF p k).length = q := ⟨_, rfl⟩
      have HQ : Hid ((idxF p k).length = q) := hq
      rw [hq] at g7
      clear hbx hO hB hkk hpl
      go_wp2_with fail
      refine bodyPost_ret (v := .tuple #[.iface 66 (.agg #[.int .i64 T, .int .i64 N, .slice ra R.length rc, .int .i64 op, .int .i64 0, .int .i64 0, .int .i64 0, .slice oa q oc]), .bool true]) (by simp [results, Try.results16, go_sem]) rfl ?_
      have h := HL.out.1
      rw [HQ.out] at h
      rw [← HQ.out, HL.out.2] at h
      refine ⟨_, rfl, ?_, HKr.out⟩
      rw [← HQ.out, HL.out.2]
      exact h

end Go.Proofs.Ytlalmfheiippiaa
