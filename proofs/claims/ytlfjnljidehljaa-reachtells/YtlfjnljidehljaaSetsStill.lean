/- The contract of the program's sets.Of$1 (what is done with a rule), and of grow.UntilStill with it. -/
import Derived.Test.YtlfjnljidehljaaSetsBehind
import Derived.Test.YtlfjnljidehljaaSetsMath
namespace Go.Proofs.Ytlfjnljidehljaa
open Go.RowKit

section
variable {T N : Nat} {nv : Value} {vf vg : Nat → Value} {gb : Nat}

/-- What a round wants of memory: the grammar's box, the sets' box, the rules, the rows' heads. -/
structure Env (w : World) (B T N : Nat) (K : Nat → Prop) (gx sx : Nat) (rv nv fv gv : Value) (vf vg : Nat → Value) (R : List Ru) : Prop where
  g2 : w.cell? ⟨gx, 2, none⟩ = some rv
  s0 : w.cell? ⟨sx, 0, none⟩ = some nv
  s1 : w.cell? ⟨sx, 1, none⟩ = some fv
  s2 : w.cell? ⟨sx, 2, none⟩ = some gv
  gK : ¬ K gx
  sK : ¬ K sx
  hr : RulesAt w B rv R
  hF : Heads w K N fv vf
  hG : Heads w K N gv vg

theorem Env.kept {w w' : World} {B : Nat} {K : Nat → Prop} {gx sx : Nat} {rv nv fv gv : Value} {R : List Ru} (h : Env w B T N K gx sx rv nv fv gv vf vg R) (hk : Kept K w w') (hB : ∀ b, K b → B ≤ b) (hs : B ≤ w.heap.size) : Env w' B T N K gx sx rv nv fv gv vf vg R :=
  ⟨hk.cell h.gK h.g2, hk.cell h.sK h.s0, hk.cell h.sK h.s1, hk.cell h.sK h.s2, h.gK, h.sK, h.hr.below (hk.below hB hs), h.hF.kept hk, h.hG.kept hk⟩

set_option maxRecDepth 100000 in
set_option maxHeartbeats 3200000 in
theorem ofRule_any {w : World} {B gx sx qc : Nat} {qa : Option Addr} {rv fv gv : Value} {X : Xs} {R : List Ru} {r : Ru} (h : Bt w B (STab T N nv vf vg gb) X) (hB : B ≤ w.heap.size) (hE : Env w B T N (STab T N nv vf vg gb).K gx sx rv nv fv gv vf vg R)
    (hru : RuleIn T N r) (h8 : r.2.length ≤ 8) (hT : T ≤ 8) (hR : RightAt w B qa r.2) (hqc : r.2.length ≤ qc) :
    Calls Try.prog 27 #[.agg #[.int .i64 r.1, .slice qa r.2.length qc], .func (.func 25) #[] #[.pointer (some ⟨gb, 0, none⟩)], .pointer (some ⟨sx, 0, none⟩)] w fun e w' =>
      e = .returned (.tuple #[]) ∧ Bt w' B (STab T N nv vf vg gb) (ruleX T r X) ∧ Kept (STab T N nv vf vg gb).K w w' := by
  obtain ⟨L, Rt⟩ := r
  obtain ⟨hL, hRt⟩ := hru
  simp only at hL hRt h8 hR hqc ⊢
  obtain ⟨l, rfl⟩ : ∃ l : Nat, L = l := ⟨L.toNat, by omega⟩
  have hlN : l < N := by omega
  obtain ⟨na, nc, hvn'⟩ := Bt.slice (i := Iy.null) (n := N) h rfl
  have hvn : nv = .slice na N nc := hvn'
  obtain ⟨fa, fc, hfv⟩ := hE.hF.1
  obtain ⟨ga, gc, hgv⟩ := hE.hG.1
  clear hvn'
  subst hvn
  subst hfv
  subst hgv
  have hK1 : Kept (STab T N (.slice na N nc) vf vg gb).K w (w.alloc (.cells #[.int .i64 l, .slice qa Rt.length qc] 35)) := (Kept.refl _ _).alloc _
  have hE1 := hE.kept hK1 (fun b hb => Bt.ge h hb) hB
  have hR1 := hR.below (hK1.below (fun b hb => Bt.ge h hb) hB)
  have ahead := growAhead_any (w := w.alloc (.cells #[.int .i64 l, .slice qa Rt.length qc] 35)) (B := B) (lc := qc) (L := l) (gl := N) (gc := gc) (ga := ga) (la := qa) (l := Rt) (Bt.alloc h _) (by simp; omega) hlN hE1.hF hR1 hRt (by omega) (by omega)
  have HS : Hid (ruleX T ((l : Int), Rt) X = behindX T l Rt (aheadX T l Rt X)) := by show ruleX T ((l : Int), Rt) X = _; simp [ruleX]
  have s0 := hE1.s0
  have s1 := hE1.s1
  have s2 := hE1.s2
  have HE1 : Hid (Env (w.alloc (.cells #[.int .i64 l, .slice qa Rt.length qc] 35)) B T N (STab T N (.slice na N nc) vf vg gb).K gx sx rv (.slice na N nc) (.slice fa N fc) (.slice ga N gc) vf vg R) := hE1
  have HRt : Hid (InR T N Rt) := hRt
  have HRA : Hid (RightAt (w.alloc (.cells #[.int .i64 l, .slice qa Rt.length qc] 35)) B qa Rt) := hR1
  have HK1 : Hid (Kept (STab T N (.slice na N nc) vf vg gb).K w (w.alloc (.cells #[.int .i64 l, .slice qa Rt.length qc] 35))) := hK1
  have HB : Hid (Bt w B (STab T N (.slice na N nc) vf vg gb) X) := h
  clear hE hE1 hK1 hRt hR hR1 h
  go_enter Try.func27, Try.ntmps27
  go_wp2_with
    (first
     | (go_at_call 28; refine ahead.mono ?_; rintro e w2 ⟨rfl, hB2, hK2⟩
        have q0 := hK2.cell HE1.out.sK s0
        have q1 := hK2.cell HE1.out.sK s1
        have q2 := hK2.cell HE1.out.sK s2
        have q3 := hK2.cell (p := ⟨w.heap.size, 0, none⟩) (Bt.notK HB.out (Nat.le_refl _)) (v := .int .i64 l) (by simp [go_sem])
        have q4 := hK2.cell (p := ⟨w.heap.size, 1, none⟩) (Bt.notK HB.out (Nat.le_refl _)) (v := .slice qa Rt.length qc) (by simp [go_sem])
        have hsz2 := hK2.size
        have HB2 : Hid (Bt w2 B (STab T N (.slice na N nc) vf vg gb) (aheadX T l Rt X)) := hB2
        have HK2 : Hid (Kept (STab T N (.slice na N nc) vf vg gb).K (w.alloc (.cells #[.int .i64 l, .slice qa Rt.length qc] 35)) w2) := hK2
        simp only [World.size_alloc] at hsz2
        clear hB2 hK2 ahead s0 s1 s2)
     | (go_at_call 29
        refine (growBehind_any (B := B) (T := T) (N := N) (vf := vf) (vg := vg) (gb := gb) (X := aheadX T l Rt X) (l := Rt) HB2.out ?_ hlN hqc (HE1.out.kept HK2.out ?_ ?_).hF (HE1.out.kept HK2.out ?_ ?_).hG (HRA.out.below (HK2.out.below ?_ ?_)) HRt.out ?_ ?_).mono ?_
        · omega
        · exact fun b hb => Bt.ge HB.out hb
        · simp; omega
        · exact fun b hb => Bt.ge HB.out hb
        · simp; omega
        · exact fun b hb => Bt.ge HB.out hb
        · simp; omega
        · omega
        · omega
        rintro e w3 ⟨rfl, hB3, hK3⟩))
  go_end0
  exact ⟨rfl, by rw [HS.out]; exact hB3, (HK1.out.trans HK2.out).trans hK3⟩

/-- What holds of the sets at the head of untilStill's loop. -/
structure AtHead (T N : Nat) (R : List Ru) (X : Xs) : Prop where
  shp : Shp T N X
  snd : Snd T N R X
  held : bit X .gr 0 = false → ∀ q, q < R.length → Held T (R.getD q (0, [])) X
  fin : bit X (.g 0) T = true

/-- How many rounds may still come. -/
def togo (T N : Nat) (X : Xs) : Nat := 2 * left T N X + if bit X .gr 0 then 1 else 0

theorem AtHead.next {R : List Ru} (hf : Fine T N R) (hR : ∀ q, q < R.length → RuleIn T N (R.getD q (0, []))) {X : Xs} (h : AtHead T N R X) (hg : bit X .gr 0 = true) :
    AtHead T N R (roundX T R R.length (setX X .gr 0 false)) ∧ togo T N (roundX T R R.length (setX X .gr 0 false)) < togo T N X := by
  have hl := h.shp .gr 1 rfl
  have s1 : Shp T N (setX X .gr 0 false) := fun i n hd => by rw [len_set]; exact h.shp i n hd
  have n1 : Snd T N R (setX X .gr 0 false) := fun i n m hd hm hb => by
    rw [bit_set (by omega)] at hb
    by_cases c : i = .gr ∧ m = 0
    · rw [if_pos c] at hb; cases hb
    · rw [if_neg c] at hb; exact h.snd i n m hd hm hb
  have g1 : bit (setX X .gr 0 false) .gr 0 = false := by rw [bit_set (by omega)]; simp
  have f1 : bit (setX X .gr 0 false) (.g 0) T = true := by rw [bit_set (by omega), if_neg (by simp)]; exact h.fin
  obtain ⟨u1, u2⟩ := round_up hR s1
  refine ⟨⟨u1.shp, round_snd hf hR s1 n1, fun hz => ?_, u1.up _ _ f1⟩, ?_⟩
  · rw [u1.still hz]; exact u2 hz
  · have e := left_gr (v := false) h.shp
    unfold togo
    rw [hg]
    cases hz : bit (roundX T R R.length (setX X .gr 0 false)) .gr 0 with
    | true => have := left_lt u1 g1 hz; simp only [if_true]; omega
    | false => rw [u1.still hz]; simp only [if_true, Bool.false_eq_true, if_false]; omega

theorem untilStill_any {w : World} {B gx sx : Nat} {rv fv gv : Value} {X : Xs} {R : List Ru} (h : Bt (w.alloc (.cells #[.bool true] 4)) B (STab T N nv vf vg w.heap.size) X) (hB : B ≤ w.heap.size)
    (hE : Env (w.alloc (.cells #[.bool true] 4)) B T N (STab T N nv vf vg w.heap.size).K gx sx rv nv fv gv vf vg R) (hf : Fine T N R) (hR : ∀ q, q < R.length → RuleIn T N (R.getD q (0, [])) ∧ (R.getD q (0, [])).2.length ≤ 8) (hT : T ≤ 8) (h40 : R.length ≤ 40) (hA : AtHead T N R X) :
    Calls Try.prog 13 #[rv, .func (.func 27) #[] #[.pointer (some ⟨sx, 0, none⟩)]] w fun e w' =>
      e = .returned (.tuple #[]) ∧ ∃ Y, AtHead T N R Y ∧ bit Y .gr 0 = false ∧ Bt w' B (STab T N nv vf vg w.heap.size) Y ∧ Kept (STab T N nv vf vg w.heap.size).K (w.alloc (.cells #[.bool true] 4)) w' := by
  refine until_gen (f := ruleX T) (togo := togo T N) h hB (stab_mark _ _ _ _ _ _) hE.hr (by omega) (fun k hk w1 Y qa qc hK hBt hRA hqc => ?_) (fun args w => by simp [callFunc, Try.func27, Try.f27 ]) hA (fun Y hY hg => hY.next hf (fun q hq => (hR q hq).1) hg)
  have e : ∀ a b c : Value, #[a, b] ++ #[c] = #[a, b, c] := fun a b c => by simp
  rw [e]
  have hs := hK.size
  simp only [World.size_alloc] at hs
  exact ofRule_any hBt (by omega) (hE.kept hK (fun b hb => Bt.ge h hb) (by simp; omega)) (hR k hk).1 (hR k hk).2 hT hRA hqc
end

end Go.Proofs.Ytlfjnljidehljaa
