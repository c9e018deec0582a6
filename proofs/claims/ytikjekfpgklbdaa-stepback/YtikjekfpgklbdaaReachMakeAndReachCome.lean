import Derived.Test.YtikjekfpgklbdaaGrowPutAndReachPut
import Derived.Test.YtikjekfpgklbdaaBitsAndStepMath
/- The contract of the program's reach.Makes. -/
namespace Go.Proofs.Ytikjekfpgklbdaa
open Go.RowKit

section
variable {N : Nat} {va vb : Value} {vr : Nat → Value} {gb : Nat}

set_option maxRecDepth 100000 in
set_option maxHeartbeats 1600000 in
theorem makes1_any {w : World} {B sx qc T : Nat} {qa : Option Addr} {X : Vs} {R : List Ru} {r : Ru} (h : Bt w B (VTab (mdom N) va vb vr gb) X) (hB : B ≤ w.heap.size) (hs : w.cell? ⟨sx, 0, none⟩ = some va) (hsK : ¬ (VTab (mdom N) va vb vr gb).K sx)
    (hf : Fine T N R) (hr : r ∈ R) (h8 : r.2.length ≤ 8) (hR : RightAt w B qa r.2) :
    Calls Try.prog 46 #[.agg #[.int .i64 r.1, .slice qa r.2.length qc], .func (.func 54) #[] #[.pointer (some ⟨gb, 0, none⟩)], .pointer (some ⟨sx, 0, none⟩)] w fun e w' =>
      e = .returned (.tuple #[]) ∧ Bt w' B (VTab (mdom N) va vb vr gb) (makesX r X) ∧ Kept (VTab (mdom N) va vb vr gb).K w w' := by
  have hL := hf.left r hr
  have hin := hf.name r hr
  obtain ⟨L, Rt⟩ := r
  simp only at hL hin h8 hR ⊢
  obtain ⟨l, rfl⟩ : ∃ l : Nat, L = l := ⟨L.toNat, by omega⟩
  obtain ⟨aa, ac, hv'⟩ := Bt.slice (i := Iv.a) (n := N) h rfl
  have hv : va = .slice aa N ac := hv'
  clear hv'
  subst hv
  have hK1 : Kept (VTab (mdom N) (.slice aa N ac) vb vr gb).K w (w.alloc (.cells #[.int .i64 l, .slice qa Rt.length qc] 44)) := (Kept.refl _ _).alloc _
  have hR1 := hR.below (hK1.below (fun b hb => Bt.ge h hb) hB)
  have all := allIn_any (i := Iv.a) (N := N) (lc := qc) (Bt.alloc h (.cells #[.int .i64 l, .slice qa Rt.length qc] 44)) (by simp; omega) rfl hR1 hin (by omega)
  have all' : Calls Try.prog 47 #[.slice aa N ac, .slice qa Rt.length qc] _ _ := all
  have hs1 := hK1.cell hsK hs
  have HB : Hid (Bt w B (VTab (mdom N) (.slice aa N ac) vb vr gb) X) := h
  have HsK : Hid (¬ (VTab (mdom N) (.slice aa N ac) vb vr gb).K sx) := hsK
  have HM : Hid (makesX ((l : Int), Rt) X = if allB (X .a) Rt then putG .gr X .a l else X) := by show makesX ((l : Int), Rt) X = _; simp [makesX]
  obtain ⟨z, hz⟩ : ∃ z, allB (X .a) Rt = z := ⟨_, rfl⟩
  rw [hz] at HM all'
  clear all hz h hsK hR hR1 hin
  cases z with
  | true =>
    go_enter Try.func46, Try.ntmps46
    go_wp2_with
      (first
       | (go_at_call 47; refine all'.mono ?_; rintro e w2 ⟨rfl, hb2⟩
          have q0 := (hb2.cell (p := ⟨sx, 0, none⟩) (World.block_lt_of_cell? _ _ hs1)).trans hs1
          have q1 : w2.cell? ⟨w.heap.size, 0, none⟩ = some (.int .i64 l) := (hb2.cell (by simp)).trans (by simp [go_sem])
          have hB2 : Bt w2 B (VTab (mdom N) (.slice aa N ac) vb vr gb) X := Bt.below (Bt.alloc HB.out _) hb2
          have put := put_gen (i := Iv.a) (n := N) (m := l) hB2 (vmark rfl) rfl (by omega) (by simp)
          have put' : Calls Try.prog 54 #[.slice aa N ac, .int .i64 l, .pointer (some ⟨gb, 0, none⟩)] _ _ := put
          have HK2 : Hid (Kept (VTab (mdom N) (.slice aa N ac) vb vr gb).K w w2) := hK1.trans (Kept.ofBelow hb2)
          clear hB2 put hb2 all' hs1)
       | (go_at_call 54; refine put'.mono ?_; rintro e w3 ⟨rfl, hB3, hK3⟩))
    go_end0
    exact ⟨rfl, by rw [HM.out]; exact hB3, HK2.out.trans hK3⟩
  | false =>
    go_enter Try.func46, Try.ntmps46
    go_wp2_with
      (go_at_call 47; refine all'.mono ?_; rintro e w2 ⟨rfl, hb2⟩
       have HB2 : Hid (Bt w2 B (VTab (mdom N) (.slice aa N ac) vb vr gb) X) := Bt.below (Bt.alloc HB.out _) hb2
       have HK2 : Hid (Kept (VTab (mdom N) (.slice aa N ac) vb vr gb).K w w2) := hK1.trans (Kept.ofBelow hb2)
       clear hb2 all' hs1)
    go_end0
    exact ⟨rfl, by rw [HM.out]; exact HB2.out, HK2.out⟩
end

/-- Of a grammar that may be. -/
theorem may_Fine {T N : Nat} {R : List Ru} (h : mayB T N R = true) : Fine T N R := by
  obtain ⟨_, h1, _, _, h5⟩ := may_fine h
  have mem : ∀ r ∈ R, 0 ≤ r.1 ∧ r.1 < (N : Int) ∧ ∀ s ∈ r.2, 0 ≤ s.2 ∧ s.2 < if s.1 then (T : Int) else (N : Int) := fun r hr => by
    obtain ⟨q, hq, rfl⟩ := getD_of_mem hr
    exact ⟨(h5 q hq).1, (h5 q hq).2.1, (h5 q hq).2.2.2⟩
  refine ⟨fun r hr => ⟨(mem r hr).1, (mem r hr).2.1⟩, fun r hr s hs hb => ?_, fun r hr s hs hb => ?_, h1⟩
  · have := (mem r hr).2.2 s hs; rw [hb] at this; simpa using this
  · have := (mem r hr).2.2 s hs; rw [hb] at this; simpa using this

def noV : Nat → Value := fun _ => .slice none 0 0

/-- Makes' rows at first. -/
def makes0 (N : Nat) : Vs
  | .a => List.replicate N false
  | .gr => [true]
  | _ => []

theorem own_mark {w : World} {B : Nat} (hB : B ≤ w.heap.size) : (w.alloc (.cells #[.bool true] 4)).ownsRow B 4 1 (.slice (some ⟨w.heap.size, 0, none⟩) 1 1) 1 ([true].map Value.bool) := by
  have := World.ownsRow_lit (base := B) (e := 4) (size := 1) w #[.bool true] 1 hB (by unfold maxLen; omega) rfl
  simpa using this

theorem makes_start {w1 : World} {N : Nat} (hN : N ≤ maxLen) (o : Obj) : Bt ((((w1.alloc (.cells (madeCells #[.bool false] N) 4)).alloc o)).alloc (.cells #[.bool true] 4)) w1.heap.size (VTab (mdom N) (.slice (some ⟨w1.heap.size, 0, none⟩) N N) (.slice none 0 0) noV (w1.heap.size + 2)) (makes0 N) := by
  have h0 : Bt w1 w1.heap.size (⟨fun _ => .slice none 0 0, fun _ => none⟩ : Tab Iv) (makes0 N) := bt_none _ _ fun _ => rfl
  have h1 : Bt (w1.alloc (.cells (madeCells #[.bool false] N) 4)) w1.heap.size (VTab (fun | .a => some N | _ => none) (.slice (some ⟨w1.heap.size, 0, none⟩) N N) (.slice none 0 0) noV 0) (makes0 N) :=
    bt_add .a h0 ((Below.refl _ _).alloc (Nat.le_refl _) _) rfl (row_made w1 hN) (fun g hg => by cases hg; exact Nat.le_refl _) (fun j hj m hm => by cases j <;> simp_all [VTab])
  have h2 := Bt.alloc h1 o
  refine bt_add .gr h2 ((Below.refl _ _).alloc (Nat.le_refl _) _) rfl ?_ (fun g hg => ?_) (fun j hj m hm => by cases j <;> simp_all [VTab, mdom])
  · have := own_mark (w := (w1.alloc (.cells (madeCells #[.bool false] N) 4)).alloc o) (B := w1.heap.size) (by simp; omega)
    simp only [World.size_alloc] at this
    exact this
  · simp only [VTab, Value.ownBlock, Option.some.injEq] at hg
    simp only [World.size_alloc]
    omega

theorem makes_head {N : Nat} {R : List Ru} : HeadG .gr (mdom N) (ZM N R) (makes0 N) R makesX (makes0 N) := by
  refine ⟨fun i n hd => ?_, fun i n m hd hm hb => ?_, fun _ _ _ h => h, fun hz => by simp [bit, makes0] at hz⟩
  · cases i <;> simp [mdom] at hd <;> subst hd <;> simp [makes0]
  · cases i <;> simp [mdom] at hd
    · trivial
    · subst hd
      simp [bit, makes0, List.getD, hm] at hb

def mixs (N : Nat) : List (Iv × Nat) := (List.range N).map fun m => (.a, m)
theorem mixs_in (N : Nat) : ∀ i n m, i ≠ Iv.gr → mdom N i = some n → m < n → (i, m) ∈ mixs N := fun i n m hi hd hm => by
  cases i <;> simp [mdom] at hd hi
  subst hd
  simp [mixs, hm]
theorem mixs_no (N : Nat) : ∀ p ∈ mixs N, p.1 ≠ Iv.gr := fun p hp => by
  simp only [mixs, List.mem_map] at hp
  obtain ⟨_, _, rfl⟩ := hp
  simp

theorem VTab.notK {dom : Iv → Option Nat} {va vb : Value} {vr : Nat → Value} {gb b : Nat} (h : ∀ i n, dom i = some n → ((VTab dom va vb vr gb).V i).ownBlock ≠ some b) : ¬ (VTab dom va vb vr gb).K b := fun ⟨i, n, hd, hb⟩ => h i n hd hb

set_option maxRecDepth 100000 in
set_option maxHeartbeats 1600000 in
theorem devMakes_may {w : World} {T N : Nat} {rv : Value} {R : List Ru} (hr : RulesAt w w.heap.size rv R) (hm : mayB T N R = true) :
    Calls Try.prog 40 #[.agg #[.int .i64 T, .int .i64 N, rv]] w fun e w' => ∃ g Y, e = .returned (.tuple #[.slice (some ⟨g, 0, none⟩) N N, .int .i64 0]) ∧ Below w.heap.size w w' ∧ RowB w' (w.heap.size + 1) g N Y ∧ ∀ n, hasB Y n ↔ MakesP N R n := by
  have hf := may_Fine hm
  obtain ⟨hT, hN1, hN, hRl, hfine⟩ := may_fine hm
  obtain ⟨ra, rc, hrv⟩ := hr.1
  subst hrv
  have may := mayG_any (T := T) (N := N) (hr.boxed (.cells #[.int .i64 T, .int .i64 N, .slice ra R.length rc] 24))
  rw [hm] at may
  have HR : Hid (RulesAt w w.heap.size (.slice ra R.length rc) R) := hr
  have HF : Hid (Fine T N R) := hf
  have HQ : Hid (∀ q, q < R.length → (R.getD q (0, [])).2.length ≤ 8) := fun q hq => (hfine q hq).2.2.1
  have mkN := make_bools N (by omega)
  clear hr hm hf hfine
  go_enter Try.func40, Try.ntmps40
  go_wp2_with
    (first
     | (go_at_call 20; refine may.mono ?_; rintro e w1 ⟨rfl, hB1⟩
        have b1 : w1.cell? ⟨w.heap.size, 1, none⟩ = some (.int .i64 N) := (hB1.cell (by simp)).trans (by simp [go_sem])
        have b2 : w1.cell? ⟨w.heap.size, 2, none⟩ = some (.slice ra R.length rc) := (hB1.cell (by simp)).trans (by simp [go_sem])
        have hs1 : w.heap.size + 1 ≤ w1.heap.size := by have := hB1.size; simpa using this
        have HX : Hid (Below w.heap.size w w1) := ((Below.refl _ _).alloc (Nat.le_refl _) _).trans (hB1.mono (by simp))
        have m2 : ((w1.alloc (.cells (madeCells #[.bool false] N) 4)).alloc (.cells #[.slice (some ⟨w1.heap.size, 0, none⟩) N N] 61)).cell? ⟨w.heap.size, 2, none⟩ = some (.slice ra R.length rc) := by
          rw [World.cell?_alloc_past _ _ _ (by simp; omega), World.cell?_alloc_past _ _ _ (by omega)]; exact b2
        clear hB1 may)
     | (go_at_call 45
        have hBt := makes_start (w1 := w1) (N := N) (by unfold maxLen; omega) (.cells #[.slice (some ⟨w1.heap.size, 0, none⟩) N N] 61)
        have hBA : Below w1.heap.size w1 (((w1.alloc (.cells (madeCells #[.bool false] N) 4)).alloc (.cells #[.slice (some ⟨w1.heap.size, 0, none⟩) N N] 61)).alloc (.cells #[.bool true] 4)) := (((Below.refl _ _).alloc (Nat.le_refl _) _).alloc (by simp) _).alloc (by simp; omega) _
        have hRu : RulesAt (((w1.alloc (.cells (madeCells #[.bool false] N) 4)).alloc (.cells #[.slice (some ⟨w1.heap.size, 0, none⟩) N N] 61)).alloc (.cells #[.bool true] 4)) w1.heap.size (.slice ra R.length rc) R := ((HR.out.below HX.out).mono (by omega)).below hBA
        have hsK : ¬ (VTab (mdom N) (.slice (some ⟨w1.heap.size, 0, none⟩) N N) (.slice none 0 0) noV (w1.heap.size + 2)).K (w1.heap.size + 1) := VTab.notK fun i n hd => by cases i <;> simp [mdom] at hd <;> simp [VTab, Value.ownBlock]
        have hsv : (((w1.alloc (.cells (madeCells #[.bool false] N) 4)).alloc (.cells #[.slice (some ⟨w1.heap.size, 0, none⟩) N N] 61)).alloc (.cells #[.bool true] 4)).cell? ⟨w1.heap.size + 1, 0, none⟩ = some (.slice (some ⟨w1.heap.size, 0, none⟩) N N) := by simp [go_sem]
        refine (until_gen (c := VTab (mdom N) (.slice (some ⟨w1.heap.size, 0, none⟩) N N) (.slice none 0 0) noV (w1.heap.size + 2)) (gr := Iv.gr) (B := w1.heap.size) (X := makes0 N) (R := R) (f := makesX) (Head := HeadG .gr (mdom N) (ZM N R) (makes0 N) R makesX) (togo := togoG .gr (mixs N))
          (by simpa using hBt) (by simp; omega) (by simpa using vmark (dom := mdom N) rfl) hRu (by omega) (fun k hk w2 Y qa qc hK hBtY hRA hqc => ?_) (fun args w => by simp [callFunc, Try.func46, Try.f46 ]) makes_head
          (HeadG.next rfl (mixs_in N) (mixs_no N) (fun _ => trivial) (fun q hq Y hY => (makes_up (HF.out.left _ (mem_getD hq)) hY).1) (fun q hq Y hY hs => makes_snd HF.out (mem_getD hq) hY hs))).mono ?_
        · have e : ∀ a b c : Value, #[a, b] ++ #[c] = #[a, b, c] := fun a b c => by simp
          rw [e]
          have hs := hK.size
          simp only [World.size_alloc] at hs ⊢
          exact makes1_any hBtY (by omega) (hK.cell hsK hsv) hsK HF.out (mem_getD hk) (HQ.out k hk) hRA
        rintro e w3 ⟨rfl, Y, hH, hg, hB3, hK3⟩
        have n0 := hK3.cell hsK hsv
        have HB3 : Hid (Bt w3 w1.heap.size (VTab (mdom N) (.slice (some ⟨w1.heap.size, 0, none⟩) N N) (.slice none 0 0) noV (w1.heap.size + 2)) Y) := hB3
        have HL : Hid (∀ n, hasB (Y .a) n ↔ MakesP N R n) := makes_least HF.out hH hg
        have HB : Hid (Below w.heap.size w w3) := HX.out.trans ((hBA.trans (hK3.below (fun b hb => Bt.ge hB3 hb) (by simp; omega))).mono (by omega))
        clear hBt hBA hRu hsK hsv hH hg hB3 hK3))
  refine bodyPost_ret (v := .tuple #[.slice (some ⟨w1.heap.size, 0, none⟩) N N, .int .i64 0]) (by simp [results, Try.results40, go_sem]) rfl ⟨w1.heap.size, Y .a, rfl, HB.out, own_mono (Bt.own (i := Iv.a) HB3.out rfl) (by omega), HL.out⟩

end Go.Proofs.Ytikjekfpgklbdaa

/- The contract of the program's reach.Comes. -/
namespace Go.Proofs.Ytikjekfpgklbdaa
open Go.RowKit

section
variable {N : Nat} {va vb : Value} {vr : Nat → Value} {gb : Nat}

set_option maxRecDepth 100000 in
set_option maxHeartbeats 1600000 in
theorem comes1_any {w : World} {B sx mx qc T : Nat} {qa : Option Addr} {X : Vs} {R : List Ru} {r : Ru} (h : Bt w B (VTab (cdom N) va vb vr gb) X) (hB : B ≤ w.heap.size) (hs : w.cell? ⟨sx, 0, none⟩ = some vb) (hsK : ¬ (VTab (cdom N) va vb vr gb).K sx)
    (hx : w.cell? ⟨mx, 0, none⟩ = some va) (hxK : ¬ (VTab (cdom N) va vb vr gb).K mx) (hf : Fine T N R) (hr : r ∈ R) (h8 : r.2.length ≤ 8) (hR : RightAt w B qa r.2) :
    Calls Try.prog 48 #[.agg #[.int .i64 r.1, .slice qa r.2.length qc], .func (.func 54) #[] #[.pointer (some ⟨gb, 0, none⟩)], .pointer (some ⟨sx, 0, none⟩), .pointer (some ⟨mx, 0, none⟩)] w fun e w' =>
      e = .returned (.tuple #[]) ∧ Bt w' B (VTab (cdom N) va vb vr gb) (comesX r X) ∧ Kept (VTab (cdom N) va vb vr gb).K w w' := by
  have hL := hf.left r hr
  have hin := hf.name r hr
  obtain ⟨L, Rt⟩ := r
  simp only at hL hin h8 hR ⊢
  obtain ⟨l, rfl⟩ : ∃ l : Nat, L = l := ⟨L.toNat, by omega⟩
  obtain ⟨aa, ac, hv'⟩ := Bt.slice (i := Iv.a) (n := N) h rfl
  have hv : va = .slice aa N ac := hv'
  clear hv'
  subst hv
  obtain ⟨bg, bc, hv', _, hbl⟩ := Bt.form (i := Iv.b) (n := N) h rfl (by omega)
  have hv : vb = .slice (some ⟨bg, 0, none⟩) N bc := hv'
  clear hv'
  subst hv
  obtain ⟨c1, _⟩ := Bt.cell (i := Iv.b) (n := N) h rfl rfl (m := l) (by omega)
  have hK1 : Kept (VTab (cdom N) (.slice aa N ac) (.slice (some ⟨bg, 0, none⟩) N bc) vr gb).K w (w.alloc (.cells #[.int .i64 l, .slice qa Rt.length qc] 44)) := (Kept.refl _ _).alloc _
  have hR1 := hR.below (hK1.below (fun b hb => Bt.ge h hb) hB)
  have all := allIn_any (i := Iv.a) (N := N) (lc := qc) (Bt.alloc h (.cells #[.int .i64 l, .slice qa Rt.length qc] 44)) (by simp; omega) rfl hR1 hin (by omega)
  have all' : Calls Try.prog 47 #[.slice aa N ac, .slice qa Rt.length qc] _ _ := all
  have hs1 := hK1.cell hsK hs
  have hx1 := hK1.cell hxK hx
  have c1' : (w.alloc (.cells #[.int .i64 l, .slice qa Rt.length qc] 44)).cell? ⟨bg, l, none⟩ = some (.bool (bit X .b l)) := by rw [World.cell?_alloc_past _ _ _ hbl]; exact c1
  have j0 : (0 : Int) ≤ (l : Int) := Int.natCast_nonneg _
  have j1 : (l : Int) < (N : Int) := by omega
  have HB : Hid (Bt w B (VTab (cdom N) (.slice aa N ac) (.slice (some ⟨bg, 0, none⟩) N bc) vr gb) X) := h
  have HI : Hid (∀ s ∈ Rt, s.1 = false → 0 ≤ s.2 ∧ s.2 < (N : Int)) := hin
  have HR1 : Hid (RightAt (w.alloc (.cells #[.int .i64 l, .slice qa Rt.length qc] 44)) B qa Rt) := hR1
  have HM : Hid (comesX ((l : Int), Rt) X = if bit X .b l && allB (X .a) Rt then namesX Rt X else X) := by show comesX ((l : Int), Rt) X = _; simp [comesX]
  obtain ⟨z, hz⟩ : ∃ z, allB (X .a) Rt = z := ⟨_, rfl⟩
  obtain ⟨y, hy⟩ : ∃ y, bit X .b l = y := ⟨_, rfl⟩
  rw [hz] at HM all'
  rw [hy] at HM c1'
  clear all hz hy h hsK hxK hR hR1 hin c1
  cases y with
  | false =>
    go_enter Try.func48, Try.ntmps48
    go_wp2_with fail
    go_end0
    exact ⟨rfl, by rw [HM.out]; exact Bt.alloc HB.out _, hK1⟩
  | true =>
    cases z with
    | true =>
      go_enter Try.func48, Try.ntmps48
      go_wp2_with
        (first
         | (go_at_call 47; refine all'.mono ?_; rintro e w2 ⟨rfl, hb2⟩
            have q0 := (hb2.cell (p := ⟨sx, 0, none⟩) (World.block_lt_of_cell? _ _ hs1)).trans hs1
            have q1 : w2.cell? ⟨w.heap.size, 1, none⟩ = some (.slice qa Rt.length qc) := (hb2.cell (by simp)).trans (by simp [go_sem])
            have hB2 : Bt w2 B (VTab (cdom N) (.slice aa N ac) (.slice (some ⟨bg, 0, none⟩) N bc) vr gb) X := Bt.below (Bt.alloc HB.out _) hb2
            have hsz2 : w.heap.size + 1 ≤ w2.heap.size := by have := hb2.size; simpa using this
            have names := putNames_any (N := N) (lc := qc) hB2 (by omega) rfl rfl (HR1.out.below (hb2.mono (by simp; omega))) HI.out (by omega)
            have HK2 : Hid (Kept (VTab (cdom N) (.slice aa N ac) (.slice (some ⟨bg, 0, none⟩) N bc) vr gb).K w w2) := hK1.trans (Kept.ofBelow hb2)
            clear hB2 hb2 all' hs1 hx1)
         | (go_at_call 49; refine names.mono ?_; rintro e w3 ⟨rfl, hB3, hK3⟩))
      go_end0
      exact ⟨rfl, by rw [HM.out]; exact hB3, HK2.out.trans hK3⟩
    | false =>
      go_enter Try.func48, Try.ntmps48
      go_wp2_with
        (go_at_call 47; refine all'.mono ?_; rintro e w2 ⟨rfl, hb2⟩
         have HB2 : Hid (Bt w2 B (VTab (cdom N) (.slice aa N ac) (.slice (some ⟨bg, 0, none⟩) N bc) vr gb) X) := Bt.below (Bt.alloc HB.out _) hb2
         have HK2 : Hid (Kept (VTab (cdom N) (.slice aa N ac) (.slice (some ⟨bg, 0, none⟩) N bc) vr gb).K w w2) := hK1.trans (Kept.ofBelow hb2)
         clear hb2 all' hs1 hx1)
      go_end0
      exact ⟨rfl, by rw [HM.out]; exact HB2.out, HK2.out⟩
end

/-- Comes' rows at first. -/
def comes0 (N : Nat) (Mk : List Bool) : Vs
  | .a => Mk
  | .b => (List.replicate N false).set 0 (Mk.getD 0 false)
  | .gr => [true]
  | _ => []

/-- Behind the making of Comes' rows. -/
structure CRdy (w w1 : World) (B N g : Nat) (rv : Value) (Mk : List Bool) (wx : World) : Prop where
  below : Below w1.heap.size w1 wx
  size : wx.heap.size = w1.heap.size + 3
  rules : wx.cell? ⟨w.heap.size, 2, none⟩ = some rv
  mbox : wx.cell? ⟨w1.heap.size, 0, none⟩ = some (.slice (some ⟨g, 0, none⟩) N N)
  cbox : wx.cell? ⟨w1.heap.size + 2, 0, none⟩ = some (.slice (some ⟨w1.heap.size + 1, 0, none⟩) N N)
  crow : RowB wx B (w1.heap.size + 1) N ((List.replicate N false).set 0 (Mk.getD 0 false))

/-- .. but the name 0. -/
structure CRdy0 (w w1 : World) (B N g : Nat) (rv : Value) (wx : World) : Prop where
  below : Below w1.heap.size w1 wx
  size : wx.heap.size = w1.heap.size + 3
  rules : wx.cell? ⟨w.heap.size, 2, none⟩ = some rv
  mbox : wx.cell? ⟨w1.heap.size, 0, none⟩ = some (.slice (some ⟨g, 0, none⟩) N N)
  cbox : wx.cell? ⟨w1.heap.size + 2, 0, none⟩ = some (.slice (some ⟨w1.heap.size + 1, 0, none⟩) N N)
  crow : RowB wx B (w1.heap.size + 1) N (List.replicate N false)

theorem crdy0 {w w1 : World} {B N g : Nat} {rv : Value} (hN : N ≤ maxLen) (hs : w.heap.size < w1.heap.size) (hB : B ≤ w1.heap.size) (hr : w1.cell? ⟨w.heap.size, 2, none⟩ = some rv) :
    CRdy0 w w1 B N g rv (((w1.alloc (.cells #[.slice (some ⟨g, 0, none⟩) N N] 61)).alloc (.cells (madeCells #[.bool false] N) 4)).alloc (.cells #[.slice (some ⟨w1.heap.size + 1, 0, none⟩) N N] 61)) := by
  refine ⟨(((Below.refl _ _).alloc (Nat.le_refl _) _).alloc (by simp) _).alloc (by simp; omega) _, by simp, ?_, ?_, ?_, ?_⟩
  · rw [World.cell?_alloc_past _ _ _ (by simp; omega), World.cell?_alloc_past _ _ _ (by simp; omega), World.cell?_alloc_past _ _ _ hs]; exact hr
  · rw [World.cell?_alloc_past _ _ _ (by simp; omega), World.cell?_alloc_past _ _ _ (by simp)]; simp [go_sem]
  · have : w1.heap.size + 2 = ((w1.alloc (.cells #[.slice (some ⟨g, 0, none⟩) N N] 61)).alloc (.cells (madeCells #[.bool false] N) 4)).heap.size := by simp
    rw [this]
    simp [go_sem]
  · have := row_made (w1.alloc (.cells #[.slice (some ⟨g, 0, none⟩) N N] 61)) hN
    simp only [World.size_alloc] at this
    exact own_mono (World.ownsRow.alloc this _) (by omega)

theorem CRdy0.ready {w w1 wx : World} {B N g : Nat} {rv : Value} (h : CRdy0 w w1 B N g rv wx) (hs : w.heap.size < w1.heap.size) (Mk : List Bool) : CRdy w w1 B N g rv Mk (wx.setCell ⟨w1.heap.size + 1, 0, none⟩ (.bool (Mk.getD 0 false))).drew := by
  refine ⟨(h.below.setCell (by simp) _).drew, by show (wx.setCell _ _).heap.size = _; simp; exact h.size, ?_, ?_, ?_, ?_⟩
  · exact (cell_set_other (.inl (by simp only; omega))).trans h.rules
  · exact (cell_set_other (.inl (by simp only; omega))).trans h.mbox
  · exact (cell_set_other (.inl (by simp only; omega))).trans h.cbox
  · exact h.crow.set 0 _

theorem comes_start {w w1 wx : World} {B N g : Nat} {rv : Value} {Mk : List Bool} (h : RowB w1 B g N Mk) (hr : CRdy w w1 B N g rv Mk wx) (hB : B ≤ wx.heap.size) : Bt (wx.alloc (.cells #[.bool true] 4)) B (VTab (cdom N) (.slice (some ⟨g, 0, none⟩) N N) (.slice (some ⟨w1.heap.size + 1, 0, none⟩) N N) noV wx.heap.size) (comes0 N Mk) := by
  have h0 : Bt w1 B (⟨fun _ => .slice (some ⟨g, 0, none⟩) N N, fun | .a => some N | _ => none⟩ : Tab Iv) (comes0 N Mk) := by
    refine ⟨fun i r hr => ?_, fun i j a b hij ha hb => ?_⟩
    · cases i <;> simp [Tab.P] at hr
      subst hr
      exact h
    · cases i <;> simp [Tab.P] at ha
      cases j <;> simp [Tab.P] at hb
      exact absurd rfl hij
  have h1 : Bt wx B (VTab (fun | .a => some N | .b => some N | _ => none) (.slice (some ⟨g, 0, none⟩) N N) (.slice (some ⟨w1.heap.size + 1, 0, none⟩) N N) noV 0) (comes0 N Mk) :=
    bt_add .b h0 hr.below rfl hr.crow (fun b hb => by simp only [VTab, Value.ownBlock, Option.some.injEq] at hb; omega) (fun j hj m hm => by cases j <;> simp_all [VTab])
  refine bt_add .gr h1 ((Below.refl _ _).alloc (Nat.le_refl _) _) rfl ?_ (fun b hb => ?_) (fun j hj m hm => by cases j <;> simp_all [VTab, cdom])
  · exact own_mark hB
  · simp only [VTab, Value.ownBlock, Option.some.injEq] at hb
    omega

theorem comes_head {T N : Nat} {R : List Ru} (hf : Fine T N R) {Mk : List Bool} (hl : Mk.length = N) (hM : ∀ n, hasB Mk n ↔ MakesP N R n) : HeadG .gr (cdom N) (ZC N R) (comes0 N Mk) R comesX (comes0 N Mk) := by
  refine ⟨fun i n hd => ?_, fun i n m hd hm hb => ?_, fun _ _ _ h => h, fun hz => by simp [bit, comes0] at hz⟩
  · cases i <;> simp [cdom] at hd <;> subst hd <;> simp [comes0, hl]
  · cases i <;> simp [cdom] at hd
    · trivial
    · subst hd
      exact (hM m).1 ⟨Int.natCast_nonneg _, by simpa [bit, comes0] using hb⟩
    · subst hd
      by_cases h0 : m = 0
      · subst h0
        refine Lv_closed (ComesF_mono hf _) _ (.inl ⟨rfl, (hM 0).1 ⟨Int.le_refl _, ?_⟩⟩)
        simpa [bit, comes0, List.getD, hm] using hb
      · unfold bit comes0 at hb
        rw [List.getD, List.getElem?_set_ne (fun e : 0 = m => h0 e.symm)] at hb
        simp [hm] at hb

def cixs (N : Nat) : List (Iv × Nat) := (List.range N).map (fun m => (.a, m)) ++ (List.range N).map fun m => (.b, m)
theorem cixs_in (N : Nat) : ∀ i n m, i ≠ Iv.gr → cdom N i = some n → m < n → (i, m) ∈ cixs N := fun i n m hi hd hm => by
  cases i <;> simp [cdom] at hd hi <;> subst hd <;> simp [cixs, hm]
theorem cixs_no (N : Nat) : ∀ p ∈ cixs N, p.1 ≠ Iv.gr := fun p hp => by
  simp only [cixs, List.mem_append, List.mem_map] at hp
  rcases hp with ⟨_, _, rfl⟩ | ⟨_, _, rfl⟩ <;> simp

set_option maxRecDepth 100000 in
set_option maxHeartbeats 1600000 in
theorem devComes_may {w : World} {T N : Nat} {rv : Value} {R : List Ru} (hr : RulesAt w w.heap.size rv R) (hm : mayB T N R = true) :
    Calls Try.prog 41 #[.agg #[.int .i64 T, .int .i64 N, rv]] w fun e w' => ∃ g Y, e = .returned (.tuple #[.slice (some ⟨g, 0, none⟩) N N, .int .i64 0]) ∧ Below w.heap.size w w' ∧ RowB w' (w.heap.size + 1) g N Y ∧ ∀ n, hasB Y n ↔ ComesP N R n := by
  have hf := may_Fine hm
  obtain ⟨hT, hN1, hN, hRl, hfine⟩ := may_fine hm
  obtain ⟨ra, rc, hrv⟩ := hr.1
  subst hrv
  have mk := devMakes_may (T := T) (N := N) (hr.boxed (.cells #[.int .i64 T, .int .i64 N, .slice ra R.length rc] 24)) hm
  simp only [World.size_alloc] at mk
  have HR : Hid (RulesAt w w.heap.size (.slice ra R.length rc) R) := hr
  have HF : Hid (Fine T N R) := hf
  have HQ : Hid (∀ q, q < R.length → (R.getD q (0, [])).2.length ≤ 8) := fun q hq => (hfine q hq).2.2.1
  have mkN := make_bools N (by omega)
  have hN0 : 0 < N := by omega
  clear hr hm hf hfine
  go_enter Try.func41, Try.ntmps41
  go_upto_region 5 with
    (go_at_call 40; refine mk.mono ?_; rintro e w1 ⟨g, Mk, rfl, hB1, hrow, hMk⟩
     have b1 : w1.cell? ⟨w.heap.size, 1, none⟩ = some (.int .i64 N) := (hB1.cell (by simp)).trans (by simp [go_sem])
     have b2 : w1.cell? ⟨w.heap.size, 2, none⟩ = some (.slice ra R.length rc) := (hB1.cell (by simp)).trans (by simp [go_sem])
     have hs1 : w.heap.size + 1 ≤ w1.heap.size := by have := hB1.size; simpa using this
     have HX : Hid (Below w.heap.size w w1) := ((Below.refl _ _).alloc (Nat.le_refl _) _).trans (hB1.mono (by simp))
     have m1 : (w1.alloc (.cells #[.slice (some ⟨g, 0, none⟩) N N] 61)).cell? ⟨w.heap.size, 1, none⟩ = some (.int .i64 N) := by rw [World.cell?_alloc_past _ _ _ (by omega)]; exact b1
     have HRow : Hid (RowB w1 (w.heap.size + 1 + 1) g N Mk) := hrow
     have HMk : Hid (∀ n, hasB Mk n ↔ MakesP N R n) := hMk
     have c0 := (hrow.cell (m := 0) hN0).1
     clear hB1 mk hrow hMk)
  have hW := crdy0 (w := w) (w1 := w1) (B := w.heap.size + 1 + 1) (N := N) (g := g) (rv := .slice ra R.length rc) (by unfold maxLen; omega) (by omega) (by have := HRow.out.ge (by omega); have := World.block_lt_of_cell? w1 _ c0; simp only at this; omega) b2
  generalize (((w1.alloc (.cells #[.slice (some ⟨g, 0, none⟩) N N] 61)).alloc (.cells (madeCells #[.bool false] N) 4)).alloc (.cells #[.slice (some ⟨w1.heap.size + 1, 0, none⟩) N N] 61)) = W0 at hW ⊢
  have hgl := World.block_lt_of_cell? w1 _ c0
  simp only at hgl
  have d0 : W0.cell? ⟨g, 0, none⟩ = some (.bool (Mk.getD 0 false)) := (hW.below.cell (p := ⟨g, 0, none⟩) hgl).trans c0
  have d1 := hW.mbox
  have d2 : W0.cell? ⟨w1.heap.size + 1 + 1, 0, none⟩ = _ := hW.cbox
  obtain ⟨d3, d4⟩ := hW.crow.cell (m := 0) hN0
  have HW : Hid (CRdy0 w w1 (w.heap.size + 1 + 1) N g (.slice ra R.length rc) W0) := hW
  obtain ⟨x, hx⟩ : ∃ x, Mk.getD 0 false = x := ⟨_, rfl⟩
  have HXx : Hid (Mk.getD 0 false = x) := hx
  rw [hx] at d0
  have j1 : (0 : Int) < (N : Int) := by omega
  clear hW m1 b1 b2 c0 mkN hx
  go_cut [] from 18 to 27 (fun wx => CRdy w w1 (w.heap.size + 1 + 1) N g (.slice ra R.length rc) Mk wx)
  case first =>
    refine wp_region_tail 5 (by kernel_rfl) (by kernel_rfl) ?_
    simp only [List.take_succ_cons, List.take_zero, List.drop_succ_cons, List.drop_zero]
    repeat still_step
    refine wpStill_nil ?_
    go_wp2_with fail
    go_meet
    case rel => have := HW.out.ready (by omega) Mk; rw [HXx.out] at this; exact this
  case rest =>
    have r2 := hcut.rules
    have HC : Hid (CRdy w w1 (w.heap.size + 1 + 1) N g (.slice ra R.length rc) Mk wc) := hcut
    clear hcut d0 d1 d2 d3 d4
    go_wp2_with
      (go_at_call 45
       have hsz := HC.out.size
       have hBt := comes_start HRow.out HC.out (by omega)
       have hBA : Below w1.heap.size w1 (wc.alloc (.cells #[.bool true] 4)) := HC.out.below.alloc (by omega) _
       have hRu : RulesAt (wc.alloc (.cells #[.bool true] 4)) (w.heap.size + 1 + 1) (.slice ra R.length rc) R := ((HR.out.below HX.out).below (hBA.mono (by omega))).mono (by omega)
       have hsK : ¬ (VTab (cdom N) (.slice (some ⟨g, 0, none⟩) N N) (.slice (some ⟨w1.heap.size + 1, 0, none⟩) N N) noV wc.heap.size).K (w1.heap.size + 2) := VTab.notK fun i n hd => by cases i <;> simp [cdom] at hd <;> simp [VTab, Value.ownBlock] <;> omega
       have hxK : ¬ (VTab (cdom N) (.slice (some ⟨g, 0, none⟩) N N) (.slice (some ⟨w1.heap.size + 1, 0, none⟩) N N) noV wc.heap.size).K w1.heap.size := VTab.notK fun i n hd => by cases i <;> simp [cdom] at hd <;> simp [VTab, Value.ownBlock] <;> omega
       have hsv : (wc.alloc (.cells #[.bool true] 4)).cell? ⟨w1.heap.size + 2, 0, none⟩ = some (.slice (some ⟨w1.heap.size + 1, 0, none⟩) N N) := (World.cell?_alloc_past _ _ _ (by omega)).trans HC.out.cbox
       have hxv : (wc.alloc (.cells #[.bool true] 4)).cell? ⟨w1.heap.size, 0, none⟩ = some (.slice (some ⟨g, 0, none⟩) N N) := (World.cell?_alloc_past _ _ _ (by omega)).trans HC.out.mbox
       refine (until_gen (c := VTab (cdom N) (.slice (some ⟨g, 0, none⟩) N N) (.slice (some ⟨w1.heap.size + 1, 0, none⟩) N N) noV wc.heap.size) (gr := Iv.gr) (B := w.heap.size + 1 + 1) (X := comes0 N Mk) (R := R) (f := comesX) (Head := HeadG .gr (cdom N) (ZC N R) (comes0 N Mk) R comesX) (togo := togoG .gr (cixs N))
         hBt (by omega) (vmark rfl) hRu (by omega) (fun k hk w2 Y qa qc hK hBtY hRA hqc => ?_) (fun args w => by simp [callFunc, Try.func48, Try.f48 ]) (comes_head HF.out HRow.out.len HMk.out)
         (HeadG.next rfl (cixs_in N) (cixs_no N) (fun _ => trivial) (fun q hq Y hY => (comes_up HF.out (mem_getD hq) hY).1) (fun q hq Y hY hs => comes_snd HF.out (mem_getD hq) hY hs))).mono ?_
       · have e : ∀ a b c d : Value, #[a, b] ++ #[c, d] = #[a, b, c, d] := fun a b c d => by simp
         rw [e]
         have hs := hK.size
         simp only [World.size_alloc] at hs
         exact comes1_any hBtY (by omega) (hK.cell hsK hsv) hsK (hK.cell hxK hxv) hxK HF.out (mem_getD hk) (HQ.out k hk) hRA
       rintro e w3 ⟨rfl, Y, hH, hg, hB3, hK3⟩
       have n0 : w3.cell? ⟨w1.heap.size + 1 + 1, 0, none⟩ = _ := hK3.cell hsK hsv
       have HB3 : Hid (Bt w3 (w.heap.size + 1 + 1) (VTab (cdom N) (.slice (some ⟨g, 0, none⟩) N N) (.slice (some ⟨w1.heap.size + 1, 0, none⟩) N N) noV wc.heap.size) Y) := hB3
       have HL : Hid (∀ n, hasB (Y .b) n ↔ ComesP N R n) := comes_least HF.out (fun n hn => (HMk.out n).2 hn) (fun h0 => by
         have := ((HMk.out 0).2 h0).2
         simpa [bit, comes0, List.getD, hN0] using this) hH hg
       have HB : Hid (Below w.heap.size w w3) := HX.out.trans ((hBA.mono (by omega)).trans ((hK3.below (fun b hb => Bt.ge hB3 hb) (by simp; omega)).mono (by omega)))
       clear hBt hBA hRu hsK hxK hsv hxv hH hg hB3 hK3)
    refine bodyPost_ret (v := .tuple #[.slice (some ⟨w1.heap.size + 1, 0, none⟩) N N, .int .i64 0]) (by simp [results, Try.results41, go_sem]) rfl ⟨w1.heap.size + 1, Y .b, rfl, HB.out, own_mono (Bt.own (i := Iv.b) HB3.out rfl) (by omega), HL.out⟩

end Go.Proofs.Ytikjekfpgklbdaa
