/- The contract of the program's reach.Makes. -/
import Derived.Test.YtifacfhlgilgoaaReachPut
import Derived.Test.YtifacfhlgilgoaaRowB
namespace Go.Proofs.Ytifacfhlgilgoaa
open Go.RowKit

section
variable {N : Nat} {va vb : Value} {vr : Nat → Value} {gb : Nat}

set_option maxRecDepth 100000 in
set_option maxHeartbeats 1600000 in
theorem makes1_any {w : World} {B sx qc T : Nat} {qa : Option Addr} {X : Vs} {R : List Ru} {r : Ru} (h : Bt w B (VTab (mdom N) va vb vr gb) X) (hB : B ≤ w.heap.size) (hs : w.cell? ⟨sx, 0, none⟩ = some va) (hsK : ¬ (VTab (mdom N) va vb vr gb).K sx)
    (hf : Fine T N R) (hr : r ∈ R) (h8 : r.2.length ≤ 8) (hR : RightAt w B qa r.2) :
    Calls Try.prog 10 #[.agg #[.int .i64 r.1, .slice qa r.2.length qc], .func (.func 15) #[] #[.pointer (some ⟨gb, 0, none⟩)], .pointer (some ⟨sx, 0, none⟩)] w fun e w' =>
      e = .returned (.tuple #[]) ∧ Bt w' B (VTab (mdom N) va vb vr gb) (makesX r X) ∧ Kept (VTab (mdom N) va vb vr gb).K w w' := by
  have hL := hf.left r hr
  have hin := hf.name r hr
  obtain ⟨L, Rt⟩ := r
  simp only at hL hin h8 hR ⊢
  obtain ⟨l, rfl⟩ : ∃ l : Nat, L = l := ⟨L.toNat, by omega⟩
  obtain ⟨aa, ac, hv'⟩ := Bt.slice (i := Iv.a) (n := N) h rfl
  have hv : va = .slice aa N ac := hv'
  clear hv'
  subst hv
  have hK1 : Kept (VTab (mdom N) (.slice aa N ac) vb vr gb).K w (w.alloc (.cells #[.int .i64 l, .slice qa Rt.length qc] 36)) := (Kept.refl _ _).alloc _
  have hR1 := hR.below (hK1.below (fun b hb => Bt.ge h hb) hB)
  have all := allIn_any (i := Iv.a) (N := N) (lc := qc) (Bt.alloc h (.cells #[.int .i64 l, .slice qa Rt.length qc] 36)) (by simp; omega) rfl hR1 hin (by omega)
  have all' : Calls Try.prog 11 #[.slice aa N ac, .slice qa Rt.length qc] _ _ := all
  have hs1 := hK1.cell hsK hs
  have HB : Hid (Bt w B (VTab (mdom N) (.slice aa N ac) vb vr gb) X) := h
  have HsK : Hid (¬ (VTab (mdom N) (.slice aa N ac) vb vr gb).K sx) := hsK
  have HM : Hid (makesX ((l : Int), Rt) X = if allB (X .a) Rt then putG .gr X .a l else X) := by show makesX ((l : Int), Rt) X = _; simp [makesX]
  obtain ⟨z, hz⟩ : ∃ z, allB (X .a) Rt = z := ⟨_, rfl⟩
  rw [hz] at HM all'
  clear all hz h hsK hR hR1 hin
  cases z with
  | true =>
    go_enter Try.func10, Try.ntmps10
    go_wp2_with
      (first
       | (go_at_call 11; refine all'.mono ?_; rintro e w2 ⟨rfl, hb2⟩
          have q0 := (hb2.cell (p := ⟨sx, 0, none⟩) (World.block_lt_of_cell? _ _ hs1)).trans hs1
          have q1 : w2.cell? ⟨w.heap.size, 0, none⟩ = some (.int .i64 l) := (hb2.cell (by simp)).trans (by simp [go_sem])
          have hB2 : Bt w2 B (VTab (mdom N) (.slice aa N ac) vb vr gb) X := Bt.below (Bt.alloc HB.out _) hb2
          have put := put_gen (i := Iv.a) (n := N) (m := l) hB2 (vmark rfl) rfl (by omega) (by simp)
          have put' : Calls Try.prog 15 #[.slice aa N ac, .int .i64 l, .pointer (some ⟨gb, 0, none⟩)] _ _ := put
          have HK2 : Hid (Kept (VTab (mdom N) (.slice aa N ac) vb vr gb).K w w2) := hK1.trans (Kept.ofBelow hb2)
          clear hB2 put hb2 all' hs1)
       | (go_at_call 15; refine put'.mono ?_; rintro e w3 ⟨rfl, hB3, hK3⟩))
    go_end0
    exact ⟨rfl, by rw [HM.out]; exact hB3, HK2.out.trans hK3⟩
  | false =>
    go_enter Try.func10, Try.ntmps10
    go_wp2_with
      (go_at_call 11; refine all'.mono ?_; rintro e w2 ⟨rfl, hb2⟩
       have HB2 : Hid (Bt w2 B (VTab (mdom N) (.slice aa N ac) vb vr gb) X) := Bt.below (Bt.alloc HB.out _) hb2
       have HK2 : Hid (Kept (VTab (mdom N) (.slice aa N ac) vb vr gb).K w w2) := hK1.trans (Kept.ofBelow hb2)
       clear hb2 all' hs1)
    go_end0
    exact ⟨rfl, by rw [HM.out]; exact HB2.out, HK2.out⟩
end

/-- Of a grammar that may be. -/
theorem may_Fine {T N : Nat} {R : List Ru} (h : mayB T N R = true) : Fine T N R := by
  obtain ⟨_, h1, _, _, h5⟩ := may_fine h
  have mem : ∀ r ∈ R, 0 ≤ r.1 ∧ r.1 < (N : Int) ∧ ∀ s ∈ r.2, 0 ≤ s.2 ∧ s.2 < if s.1 then (T : Int) else (N : Int) := fun r hr => by
    obtain ⟨q, hq, rfl⟩ := getD_of_mem hr
    exact ⟨(h5 q hq).1, (h5 q hq).2.1, (h5 q hq).2.2.2⟩
  refine ⟨fun r hr => ⟨(mem r hr).1, (mem r hr).2.1⟩, fun r hr s hs hb => ?_, fun r hr s hs hb => ?_, h1⟩
  · have := (mem r hr).2.2 s hs; rw [hb] at this; simpa using this
  · have := (mem r hr).2.2 s hs; rw [hb] at this; simpa using this

def noV : Nat → Value := fun _ => .slice none 0 0

/-- Makes' rows at first. -/
def makes0 (N : Nat) : Vs
  | .a => List.replicate N false
  | .gr => [true]
  | _ => []

theorem own_mark {w : World} {B : Nat} (hB : B ≤ w.heap.size) : (w.alloc (.cells #[.bool true] 4)).ownsRow B 4 1 (.slice (some ⟨w.heap.size, 0, none⟩) 1 1) 1 ([true].map Value.bool) := by
  have := World.ownsRow_lit (base := B) (e := 4) (size := 1) w #[.bool true] 1 hB (by unfold maxLen; omega) rfl
  simpa using this

theorem makes_start {w1 : World} {N : Nat} (hN : N ≤ maxLen) (o : Obj) : Bt ((((w1.alloc (.cells (madeCells #[.bool false] N) 4)).alloc o)).alloc (.cells #[.bool true] 4)) w1.heap.size (VTab (mdom N) (.slice (some ⟨w1.heap.size, 0, none⟩) N N) (.slice none 0 0) noV (w1.heap.size + 2)) (makes0 N) := by
  have h0 : Bt w1 w1.heap.size (⟨fun _ => .slice none 0 0, fun _ => none⟩ : Tab Iv) (makes0 N) := bt_none _ _ fun _ => rfl
  have h1 : Bt (w1.alloc (.cells (madeCells #[.bool false] N) 4)) w1.heap.size (VTab (fun | .a => some N | _ => none) (.slice (some ⟨w1.heap.size, 0, none⟩) N N) (.slice none 0 0) noV 0) (makes0 N) :=
    bt_add .a h0 ((Below.refl _ _).alloc (Nat.le_refl _) _) rfl (row_made w1 hN) (fun g hg => by cases hg; exact Nat.le_refl _) (fun j hj m hm => by cases j <;> simp_all [VTab])
  have h2 := Bt.alloc h1 o
  refine bt_add .gr h2 ((Below.refl _ _).alloc (Nat.le_refl _) _) rfl ?_ (fun g hg => ?_) (fun j hj m hm => by cases j <;> simp_all [VTab, mdom])
  · have := own_mark (w := (w1.alloc (.cells (madeCells #[.bool false] N) 4)).alloc o) (B := w1.heap.size) (by simp; omega)
    simp only [World.size_alloc] at this
    exact this
  · simp only [VTab, Value.ownBlock, Option.some.injEq] at hg
    simp only [World.size_alloc]
    omega

theorem makes_head {N : Nat} {R : List Ru} : HeadG .gr (mdom N) (ZM N R) (makes0 N) R makesX (makes0 N) := by
  refine ⟨fun i n hd => ?_, fun i n m hd hm hb => ?_, fun _ _ _ h => h, fun hz => by simp [bit, makes0] at hz⟩
  · cases i <;> simp [mdom] at hd <;> subst hd <;> simp [makes0]
  · cases i <;> simp [mdom] at hd
    · trivial
    · subst hd
      simp [bit, makes0, List.getD, hm] at hb

def mixs (N : Nat) : List (Iv × Nat) := (List.range N).map fun m => (.a, m)
theorem mixs_in (N : Nat) : ∀ i n m, i ≠ Iv.gr → mdom N i = some n → m < n → (i, m) ∈ mixs N := fun i n m hi hd hm => by
  cases i <;> simp [mdom] at hd hi
  subst hd
  simp [mixs, hm]
theorem mixs_no (N : Nat) : ∀ p ∈ mixs N, p.1 ≠ Iv.gr := fun p hp => by
  simp only [mixs, List.mem_map] at hp
  obtain ⟨_, _, rfl⟩ := hp
  simp

theorem VTab.notK {dom : Iv → Option Nat} {va vb : Value} {vr : Nat → Value} {gb b : Nat} (h : ∀ i n, dom i = some n → ((VTab dom va vb vr gb).V i).ownBlock ≠ some b) : ¬ (VTab dom va vb vr gb).K b := fun ⟨i, n, hd, hb⟩ => h i n hd hb

set_option maxRecDepth 100000 in
set_option maxHeartbeats 1600000 in
theorem devMakes_not {w : World} {T N : Int} {rv : Value} {R : List Ru} (hr : RulesAt w w.heap.size rv R) (hm : mayB T N R = false) :
    Calls Try.prog 4 #[.agg #[.int .i64 T, .int .i64 N, rv]] w fun e w' => e = .returned (.tuple #[.slice none 0 0, .int .i64 2]) ∧ Below w.heap.size w w' := by
  obtain ⟨ra, rc, hrv⟩ := hr.1
  subst hrv
  have may := mayG_any (T := T) (N := N) (hr.boxed (.cells #[.int .i64 T, .int .i64 N, .slice ra R.length rc] 24))
  rw [hm] at may
  have HB0 : Hid (Below w.heap.size w (w.alloc (.cells #[.int .i64 T, .int .i64 N, .slice ra R.length rc] 24))) := (Below.refl _ _).alloc (Nat.le_refl _) _
  clear hr hm
  go_enter Try.func4, Try.ntmps4
  go_wp2_with
    (go_at_call 8; refine may.mono ?_; rintro e w2 ⟨rfl, hB2⟩
     have HX : Hid (Below w.heap.size w w2) := HB0.out.trans (hB2.mono (by simp))
     clear hB2)
  refine bodyPost_ret (v := .tuple #[.slice none 0 0, .int .i64 2]) (by simp [results, Try.results4, go_sem]) rfl ⟨rfl, HX.out⟩

set_option maxRecDepth 100000 in
set_option maxHeartbeats 1600000 in
theorem devMakes_may {w : World} {T N : Nat} {rv : Value} {R : List Ru} (hr : RulesAt w w.heap.size rv R) (hm : mayB T N R = true) :
    Calls Try.prog 4 #[.agg #[.int .i64 T, .int .i64 N, rv]] w fun e w' => ∃ g Y, e = .returned (.tuple #[.slice (some ⟨g, 0, none⟩) N N, .int .i64 0]) ∧ Below w.heap.size w w' ∧ RowB w' (w.heap.size + 1) g N Y ∧ ∀ n, hasB Y n ↔ MakesP N R n := by
  have hf := may_Fine hm
  obtain ⟨hT, hN1, hN, hRl, hfine⟩ := may_fine hm
  obtain ⟨ra, rc, hrv⟩ := hr.1
  subst hrv
  have may := mayG_any (T := T) (N := N) (hr.boxed (.cells #[.int .i64 T, .int .i64 N, .slice ra R.length rc] 24))
  rw [hm] at may
  have HR : Hid (RulesAt w w.heap.size (.slice ra R.length rc) R) := hr
  have HF : Hid (Fine T N R) := hf
  have HQ : Hid (∀ q, q < R.length → (R.getD q (0, [])).2.length ≤ 8) := fun q hq => (hfine q hq).2.2.1
  have mkN := make_bools N (by omega)
  clear hr hm hf hfine
  go_enter Try.func4, Try.ntmps4
  go_wp2_with
    (first
     | (go_at_call 8; refine may.mono ?_; rintro e w1 ⟨rfl, hB1⟩
        have b1 : w1.cell? ⟨w.heap.size, 1, none⟩ = some (.int .i64 N) := (hB1.cell (by simp)).trans (by simp [go_sem])
        have b2 : w1.cell? ⟨w.heap.size, 2, none⟩ = some (.slice ra R.length rc) := (hB1.cell (by simp)).trans (by simp [go_sem])
        have hs1 : w.heap.size + 1 ≤ w1.heap.size := by have := hB1.size; simpa using this
        have HX : Hid (Below w.heap.size w w1) := ((Below.refl _ _).alloc (Nat.le_refl _) _).trans (hB1.mono (by simp))
        have m2 : ((w1.alloc (.cells (madeCells #[.bool false] N) 4)).alloc (.cells #[.slice (some ⟨w1.heap.size, 0, none⟩) N N] 26)).cell? ⟨w.heap.size, 2, none⟩ = some (.slice ra R.length rc) := by
          rw [World.cell?_alloc_past _ _ _ (by simp; omega), World.cell?_alloc_past _ _ _ (by omega)]; exact b2
        clear hB1 may)
     | (go_at_call 9
        have hBt := makes_start (w1 := w1) (N := N) (by unfold maxLen; omega) (.cells #[.slice (some ⟨w1.heap.size, 0, none⟩) N N] 26)
        have hBA : Below w1.heap.size w1 (((w1.alloc (.cells (madeCells #[.bool false] N) 4)).alloc (.cells #[.slice (some ⟨w1.heap.size, 0, none⟩) N N] 26)).alloc (.cells #[.bool true] 4)) := (((Below.refl _ _).alloc (Nat.le_refl _) _).alloc (by simp) _).alloc (by simp; omega) _
        have hRu : RulesAt (((w1.alloc (.cells (madeCells #[.bool false] N) 4)).alloc (.cells #[.slice (some ⟨w1.heap.size, 0, none⟩) N N] 26)).alloc (.cells #[.bool true] 4)) w1.heap.size (.slice ra R.length rc) R := ((HR.out.below HX.out).mono (by omega)).below hBA
        have hsK : ¬ (VTab (mdom N) (.slice (some ⟨w1.heap.size, 0, none⟩) N N) (.slice none 0 0) noV (w1.heap.size + 2)).K (w1.heap.size + 1) := VTab.notK fun i n hd => by cases i <;> simp [mdom] at hd <;> simp [VTab, Value.ownBlock]
        have hsv : (((w1.alloc (.cells (madeCells #[.bool false] N) 4)).alloc (.cells #[.slice (some ⟨w1.heap.size, 0, none⟩) N N] 26)).alloc (.cells #[.bool true] 4)).cell? ⟨w1.heap.size + 1, 0, none⟩ = some (.slice (some ⟨w1.heap.size, 0, none⟩) N N) := by simp [go_sem]
        refine (until_gen (c := VTab (mdom N) (.slice (some ⟨w1.heap.size, 0, none⟩) N N) (.slice none 0 0) noV (w1.heap.size + 2)) (gr := Iv.gr) (B := w1.heap.size) (X := makes0 N) (R := R) (f := makesX) (Head := HeadG .gr (mdom N) (ZM N R) (makes0 N) R makesX) (togo := togoG .gr (mixs N))
          (by simpa using hBt) (by simp; omega) (by simpa using vmark (dom := mdom N) rfl) hRu (by omega) (fun k hk w2 Y qa qc hK hBtY hRA hqc => ?_) (fun args w => by simp [callFunc, Try.func10, Try.f10 ]) makes_head
          (HeadG.next rfl (mixs_in N) (mixs_no N) (fun _ => trivial) (fun q hq Y hY => (makes_up (HF.out.left _ (mem_getD hq)) hY).1) (fun q hq Y hY hs => makes_snd HF.out (mem_getD hq) hY hs))).mono ?_
        · have e : ∀ a b c : Value, #[a, b] ++ #[c] = #[a, b, c] := fun a b c => by simp
          rw [e]
          have hs := hK.size
          simp only [World.size_alloc] at hs ⊢
          exact makes1_any hBtY (by omega) (hK.cell hsK hsv) hsK HF.out (mem_getD hk) (HQ.out k hk) hRA
        rintro e w3 ⟨rfl, Y, hH, hg, hB3, hK3⟩
        have n0 := hK3.cell hsK hsv
        have HB3 : Hid (Bt w3 w1.heap.size (VTab (mdom N) (.slice (some ⟨w1.heap.size, 0, none⟩) N N) (.slice none 0 0) noV (w1.heap.size + 2)) Y) := hB3
        have HL : Hid (∀ n, hasB (Y .a) n ↔ MakesP N R n) := makes_least HF.out hH hg
        have HB : Hid (Below w.heap.size w w3) := HX.out.trans ((hBA.trans (hK3.below (fun b hb => Bt.ge hB3 hb) (by simp; omega))).mono (by omega))
        clear hBt hBA hRu hsK hsv hH hg hB3 hK3))
  refine bodyPost_ret (v := .tuple #[.slice (some ⟨w1.heap.size, 0, none⟩) N N, .int .i64 0]) (by simp [results, Try.results4, go_sem]) rfl ⟨w1.heap.size, Y .a, rfl, HB.out, own_mono (Bt.own (i := Iv.a) HB3.out rfl) (by omega), HL.out⟩

end Go.Proofs.Ytifacfhlgilgoaa
