/- The contracts of the program's sets.Of$1 (a round over all rules) and sets.untilStill. -/
import Derived.Test.YtakdacbndlcfpaaSetsBehind
import Derived.Test.YtakdacbndlcfpaaSetsMath
namespace Go.Proofs.Ytakdacbndlcfpaa
open Go.RowKit

section
variable {T N : Nat} {nv : Value} {vf vg : Nat → Value} {gb : Nat}

/-- What a round wants of memory: the grammar's box, the sets' box, the rules, the rows' heads. -/
structure Env (w : World) (B T N : Nat) (K : Nat → Prop) (gx sx : Nat) (rv nv fv gv : Value) (vf vg : Nat → Value) (R : List Ru) : Prop where
  g2 : w.cell? ⟨gx, 2, none⟩ = some rv
  s0 : w.cell? ⟨sx, 0, none⟩ = some nv
  s1 : w.cell? ⟨sx, 1, none⟩ = some fv
  s2 : w.cell? ⟨sx, 2, none⟩ = some gv
  gK : ¬ K gx
  sK : ¬ K sx
  hr : RulesAt w B rv R
  hF : Heads w K N fv vf
  hG : Heads w K N gv vg

theorem Env.kept {w w' : World} {B : Nat} {K : Nat → Prop} {gx sx : Nat} {rv nv fv gv : Value} {R : List Ru} (h : Env w B T N K gx sx rv nv fv gv vf vg R) (hk : Kept K w w') (hB : ∀ b, K b → B ≤ b) (hs : B ≤ w.heap.size) : Env w' B T N K gx sx rv nv fv gv vf vg R :=
  ⟨hk.cell h.gK h.g2, hk.cell h.sK h.s0, hk.cell h.sK h.s1, hk.cell h.sK h.s2, h.gK, h.sK, h.hr.below (hk.below hB hs), h.hF.kept hk, h.hG.kept hk⟩

set_option maxRecDepth 100000 in
set_option maxHeartbeats 3200000 in
theorem ofRound_any {w : World} {B gx sx : Nat} {rv fv gv : Value} {X : Xs} {R : List Ru} (h : Bt w B (STab T N nv vf vg gb) X) (hB : B ≤ w.heap.size) (hE : Env w B T N (STab T N nv vf vg gb).K gx sx rv nv fv gv vf vg R)
    (hR : ∀ q, q < R.length → RuleIn T N (R.getD q (0, [])) ∧ (R.getD q (0, [])).2.length ≤ 8) (hT : T ≤ 8) (h40 : R.length ≤ 40) :
    Calls Try.prog 10 #[.func (.func 14) #[] #[.pointer (some ⟨gb, 0, none⟩)], .pointer (some ⟨gx, 0, none⟩), .pointer (some ⟨sx, 0, none⟩)] w fun e w' =>
      e = .returned (.tuple #[]) ∧ Bt w' B (STab T N nv vf vg gb) (roundX T R R.length X) ∧ Kept (STab T N nv vf vg gb).K w w' := by
  obtain ⟨ra, rc, hrv⟩ := hE.hr.1
  obtain ⟨na, nc, hvn'⟩ := Bt.slice (i := Iy.null) (n := N) h rfl
  have hvn : nv = .slice na N nc := hvn'
  obtain ⟨fa, fc, hfv⟩ := hE.hF.1
  obtain ⟨ga, gc, hgv⟩ := hE.hG.1
  clear hvn'
  subst hrv
  subst hvn
  subst hfv
  subst hgv
  have HB : Hid (Bt w B (STab T N (.slice na N nc) vf vg gb) X) := h
  have HE : Hid (Env w B T N (STab T N (.slice na N nc) vf vg gb).K gx sx (.slice ra R.length rc) (.slice na N nc) (.slice fa N fc) (.slice ga N gc) vf vg R) := hE
  have HR : Hid (∀ q, q < R.length → RuleIn T N (R.getD q (0, [])) ∧ (R.getD q (0, [])).2.length ≤ 8) := hR
  have g2 := hE.g2
  clear h hE hR
  go_enter Try.func10, Try.ntmps10
  go_wp2_with fail
  clear g2
  go_loopw [9] (fun s wr => ∃ k : Nat, s = .int .i64 k ∧ k ≤ R.length ∧ Bt wr B (STab T N (.slice na N nc) vf vg gb) (roundX T R k X) ∧ Kept (STab T N (.slice na N nc) vf vg gb).K w wr) (fun s _ => R.length - (intOf s).toNat)
  case atStart => exact ⟨0, rfl, Nat.zero_le _, HB.out, Kept.refl _ _⟩
  case round =>
    obtain ⟨k, rfl, hk, hBr, hKr⟩ := hrel
    obtain ⟨Y, hY⟩ : ∃ Y, roundX T R k X = Y := ⟨_, rfl⟩
    rw [hY] at hBr
    have HY : Hid (roundX T R k X = Y) := hY
    have HBr : Hid (Bt wr B (STab T N (.slice na N nc) vf vg gb) Y) := hBr
    have HKr : Hid (Kept (STab T N (.slice na N nc) vf vg gb).K w wr) := hKr
    have hsz : w.heap.size ≤ wr.heap.size := hKr.size
    clear hY hBr hKr
    by_cases hlt : k < R.length
    · obtain ⟨hru, h8⟩ := HR.out k hlt
      have HEr := HE.out.kept HKr.out (fun b hb => Bt.ge HB.out hb) hB
      obtain ⟨b, o, rc', qa, qc, hv, hb, k1, k2, hqc, k3⟩ := HEr.hr.2 k hlt
      cases hv
      have hstep : roundX T R (k + 1) X = ruleX T (R.getD k (0, [])) Y := by rw [← HY.out]; rfl
      obtain ⟨⟨L, Rt⟩, hre⟩ : ∃ x, R.getD k (0, []) = x := ⟨_, rfl⟩
      rw [hre] at k1 k2 k3 hqc hru h8 hstep
      simp only at k1 k2 k3 hqc h8
      obtain ⟨hL, hRt⟩ := hru
      simp only at hL hRt
      obtain ⟨l, rfl⟩ : ∃ l : Nat, L = l := ⟨L.toNat, by omega⟩
      have k2' : wr.cell? ⟨b, o + k * 2 + 1, none⟩ = some (.slice qa Rt.length qc) := by rw [Nat.add_assoc]; exact k2
      have j0 : (0 : Int) ≤ (k : Int) := Int.natCast_nonneg _
      have j1 : (k : Int) < (R.length : Int) := by omega
      have hlN : l < N := by omega
      have hK1 : Kept (STab T N (.slice na N nc) vf vg gb).K wr (wr.alloc (.cells #[.int .i64 l, .slice qa Rt.length qc] 44)) := (Kept.refl _ _).alloc _
      have hE1 := HEr.kept hK1 (fun b hb => Bt.ge HB.out hb) (by omega)
      have ahead := growAhead_any (w := wr.alloc (.cells #[.int .i64 l, .slice qa Rt.length qc] 44)) (B := B) (lc := qc) (L := l) (gl := N) (gc := gc) (ga := ga) (la := qa) (l := Rt) (Bt.alloc HBr.out _) (by simp; omega) hlN hE1.hF
        (RightAt.below (w := wr) k3 (hK1.below (fun b hb => Bt.ge HB.out hb) (by omega))) hRt (by omega) (by omega)
      have hstep' : roundX T R (k + 1) X = behindX T l Rt (aheadX T l Rt Y) := by rw [hstep]; simp [ruleX]
      have HS : Hid (roundX T R (k + 1) X = behindX T l Rt (aheadX T l Rt Y)) := hstep'
      have s0 := hE1.s0
      have s1 := hE1.s1
      have s2 := hE1.s2
      have HE1 : Hid (Env (wr.alloc (.cells #[.int .i64 l, .slice qa Rt.length qc] 44)) B T N (STab T N (.slice na N nc) vf vg gb).K gx sx (.slice (some ⟨b, o, none⟩) R.length rc) (.slice na N nc) (.slice fa N fc) (.slice ga N gc) vf vg R) := hE1
      have HRt : Hid (InR T N Rt) := hRt
      have HRA : Hid (RightAt (wr.alloc (.cells #[.int .i64 l, .slice qa Rt.length qc] 44)) B qa Rt) := RightAt.below (w := wr) k3 (hK1.below (fun b hb => Bt.ge HB.out hb) (by omega))
      have HK1 : Hid (Kept (STab T N (.slice na N nc) vf vg gb).K w (wr.alloc (.cells #[.int .i64 l, .slice qa Rt.length qc] 44))) := HKr.out.alloc _
      clear hstep hstep' hre k2 k3 hE1 hK1 hRt HEr
      go_wp2_with
        (first
         | (go_at_call 11; refine ahead.mono ?_; rintro e w2 ⟨rfl, hB2, hK2⟩
            have q0 := hK2.cell HE1.out.sK s0
            have q1 := hK2.cell HE1.out.sK s1
            have q2 := hK2.cell HE1.out.sK s2
            have q3 := hK2.cell (p := ⟨wr.heap.size, 0, none⟩) (Bt.notK HBr.out (Nat.le_refl _)) (v := .int .i64 l) (by simp [go_sem])
            have q4 := hK2.cell (p := ⟨wr.heap.size, 1, none⟩) (Bt.notK HBr.out (Nat.le_refl _)) (v := .slice qa Rt.length qc) (by simp [go_sem])
            have hsz2 := hK2.size
            have HB2 : Hid (Bt w2 B (STab T N (.slice na N nc) vf vg gb) (aheadX T l Rt Y)) := hB2
            have HK2 : Hid (Kept (STab T N (.slice na N nc) vf vg gb).K (wr.alloc (.cells #[.int .i64 l, .slice qa Rt.length qc] 44)) w2) := hK2
            simp only [World.size_alloc] at hsz2
            clear hB2 hK2 ahead s0 s1 s2)
         | (go_at_call 12
            refine (growBehind_any (B := B) (T := T) (N := N) (vf := vf) (vg := vg) (gb := gb) (X := aheadX T l Rt Y) (l := Rt) HB2.out ?_ hlN hqc (HE1.out.kept HK2.out ?_ ?_).hF (HE1.out.kept HK2.out ?_ ?_).hG (HRA.out.below (HK2.out.below ?_ ?_)) HRt.out ?_ ?_).mono ?_
            · omega
            · exact fun b hb => Bt.ge HB.out hb
            · simp; omega
            · exact fun b hb => Bt.ge HB.out hb
            · simp; omega
            · exact fun b hb => Bt.ge HB.out hb
            · simp; omega
            · omega
            · omega
            rintro e w3 ⟨rfl, hB3, hK3⟩))
      go_roundw
      case rel => exact ⟨k + 1, by go_num, by omega, by rw [HS.out]; exact hB3, (HK1.out.trans HK2.out).trans hK3⟩
      case measure => simp [intOf]; omega
    · obtain rfl : k = R.length := by omega
      go_wp2_with fail
      go_end0
      exact ⟨rfl, by rw [HY.out]; exact HBr.out, HKr.out⟩

/-- What holds of the sets at the head of untilStill's loop. -/
structure AtHead (T N : Nat) (R : List Ru) (X : Xs) : Prop where
  shp : Shp T N X
  snd : Snd T N R X
  held : bit X .gr 0 = false → ∀ q, q < R.length → Held T (R.getD q (0, [])) X
  fin : bit X (.g 0) T = true

/-- How many rounds may still come. -/
def togo (T N : Nat) (X : Xs) : Nat := 2 * left T N X + if bit X .gr 0 then 1 else 0

theorem held_gr {X : Xs} {r : Ru} {v : Bool} (hs : Shp T N X) (h : Held T r X) : Held T r (setX X .gr 0 v) := by
  have hg := hs .gr 1 rfl
  have e : ∀ i m, i ≠ .gr → bit (setX X .gr 0 v) i m = bit X i m := fun i m hi => by rw [bit_set (by omega), if_neg (fun e => hi e.1)]
  have en : nullP' (setX X .gr 0 v) = nullP' X := funext fun n => by unfold nullP'; rw [e _ _ (by simp)]
  have ef : ∀ t, firstP' (setX X .gr 0 v) t = firstP' X t := fun t => funext fun n => by unfold firstP'; rw [e _ _ (by simp)]
  exact ⟨fun ha => by rw [e _ _ (by simp)]; exact h.null (by rw [en] at ha; exact ha), fun t ht hb => by rw [e _ _ (by simp)]; exact h.first t ht (by rw [en, ef] at hb; exact hb),
    fun k u hk t ht hb => by rw [e _ _ (by simp)]; exact h.after k u hk t ht (by rw [en, ef] at hb; exact hb), fun k u hk ha t ht hb => by rw [e _ _ (by simp)] at hb ⊢; exact h.follow k u hk (by rw [en] at ha; exact ha) t ht hb⟩

theorem AtHead.next {R : List Ru} (hf : Fine T N R) (hR : ∀ q, q < R.length → RuleIn T N (R.getD q (0, []))) {X : Xs} (h : AtHead T N R X) (hg : bit X .gr 0 = true) :
    AtHead T N R (roundX T R R.length (setX X .gr 0 false)) ∧ togo T N (roundX T R R.length (setX X .gr 0 false)) < togo T N X := by
  have hl := h.shp .gr 1 rfl
  have s1 : Shp T N (setX X .gr 0 false) := fun i n hd => by rw [len_set]; exact h.shp i n hd
  have n1 : Snd T N R (setX X .gr 0 false) := fun i n m hd hm hb => by
    rw [bit_set (by omega)] at hb
    by_cases c : i = .gr ∧ m = 0
    · rw [if_pos c] at hb; cases hb
    · rw [if_neg c] at hb; exact h.snd i n m hd hm hb
  have g1 : bit (setX X .gr 0 false) .gr 0 = false := by rw [bit_set (by omega)]; simp
  have f1 : bit (setX X .gr 0 false) (.g 0) T = true := by rw [bit_set (by omega), if_neg (by simp)]; exact h.fin
  obtain ⟨u1, u2⟩ := round_up hR s1
  refine ⟨⟨u1.shp, round_snd hf hR s1 n1, fun hz => ?_, u1.up _ _ f1⟩, ?_⟩
  · rw [u1.still hz]; exact u2 hz
  · have e := left_gr (v := false) h.shp
    unfold togo
    rw [hg]
    cases hz : bit (roundX T R R.length (setX X .gr 0 false)) .gr 0 with
    | true => have := left_lt u1 g1 hz; simp only [if_true]; omega
    | false => rw [u1.still hz]; simp only [if_true, Bool.false_eq_true, if_false]; omega

set_option maxRecDepth 100000 in
set_option maxHeartbeats 1600000 in
theorem untilStill_any {w : World} {B gx sx : Nat} {rv fv gv : Value} {X : Xs} {R : List Ru} (h : Bt (w.alloc (.cells #[.bool true] 4)) B (STab T N nv vf vg w.heap.size) X) (hB : B ≤ w.heap.size)
    (hE : Env (w.alloc (.cells #[.bool true] 4)) B T N (STab T N nv vf vg w.heap.size).K gx sx rv nv fv gv vf vg R) (hf : Fine T N R) (hR : ∀ q, q < R.length → RuleIn T N (R.getD q (0, [])) ∧ (R.getD q (0, [])).2.length ≤ 8) (hT : T ≤ 8) (h40 : R.length ≤ 40) (hA : AtHead T N R X) :
    Calls Try.prog 9 #[.func (.func 10) #[] #[.pointer (some ⟨gx, 0, none⟩), .pointer (some ⟨sx, 0, none⟩)]] w fun e w' =>
      e = .returned (.tuple #[]) ∧ ∃ Y, AtHead T N R Y ∧ bit Y .gr 0 = false ∧ Bt w' B (STab T N nv vf vg w.heap.size) Y ∧ Kept (STab T N nv vf vg w.heap.size).K (w.alloc (.cells #[.bool true] 4)) w' := by
  have HB : Hid (Bt (w.alloc (.cells #[.bool true] 4)) B (STab T N nv vf vg w.heap.size) X) := h
  have HE : Hid (Env (w.alloc (.cells #[.bool true] 4)) B T N (STab T N nv vf vg w.heap.size).K gx sx rv nv fv gv vf vg R) := hE
  have HF : Hid (Fine T N R) := hf
  have HR : Hid (∀ q, q < R.length → RuleIn T N (R.getD q (0, [])) ∧ (R.getD q (0, [])).2.length ≤ 8) := hR
  have HA : Hid (AtHead T N R X) := hA
  clear h hE hf hR hA
  go_enter Try.func9, Try.ntmps9
  go_wp2_with fail
  go_loopg [] (togo T N X) (fun n wr => ∃ Y, n = togo T N Y ∧ AtHead T N R Y ∧ Bt wr B (STab T N nv vf vg w.heap.size) Y ∧ Kept (STab T N nv vf vg w.heap.size).K (w.alloc (.cells #[.bool true] 4)) wr)
  case atStart => exact ⟨X, rfl, HA.out, HB.out, Kept.refl _ _⟩
  case round =>
    obtain ⟨Y, hn, hAY, hBr, hKr⟩ := hrel
    have HN : Hid (gk = togo T N Y) := hn
    have HAY : Hid (AtHead T N R Y) := hAY
    have HBr : Hid (Bt wr B (STab T N nv vf vg w.heap.size) Y) := hBr
    have HKr : Hid (Kept (STab T N nv vf vg w.heap.size).K (w.alloc (.cells #[.bool true] 4)) wr) := hKr
    have hsz : w.heap.size + 1 ≤ wr.heap.size := by have := hKr.size; simpa using this
    obtain ⟨c1, f1⟩ := Bt.cell (i := Iy.gr) (n := 1) hBr rfl rfl (m := 0) (by omega)
    clear hn hAY hBr hKr
    cases hg : bit Y .gr 0 with
    | true =>
      rw [hg] at c1
      have hnx := HAY.out.next HF.out (fun q hq => (HR.out q hq).1) hg
      have HNX : Hid (AtHead T N R (roundX T R R.length (setX Y .gr 0 false)) ∧ togo T N (roundX T R R.length (setX Y .gr 0 false)) < togo T N Y) := hnx
      have hB1 := Bt.set (i := Iy.gr) (n := 1) HBr.out rfl rfl 0 false
      have hK1 : Kept (STab T N nv vf vg w.heap.size).K wr (wr.setCell ⟨w.heap.size, 0, none⟩ (.bool false)) := (Kept.refl _ _).setCell (Tab.inK (c := STab T N nv vf vg w.heap.size) (i := Iy.gr) rfl rfl) _
      have hK2 := HKr.out.trans hK1
      have round := ofRound_any hB1 (by simp; omega) (HE.out.kept hK2 (fun b hb => Bt.ge HB.out hb) (by simp; omega)) HR.out hT h40
      have HK2 : Hid (Kept (STab T N nv vf vg w.heap.size).K (w.alloc (.cells #[.bool true] 4)) (wr.setCell ⟨w.heap.size, 0, none⟩ (.bool false))) := hK2
      clear hg hnx hB1 hK1 hK2
      go_wp2_with (go_at_call 10; refine round.mono ?_; rintro e w2 ⟨rfl, hB2, hK3⟩)
      go_roundg (togo T N (roundX T R R.length (setX Y .gr 0 false)))
      case measure => have := HNX.out.2; rw [HN.out]; exact this
      case rel => exact ⟨_, rfl, HNX.out.1, hB2, HK2.out.trans hK3⟩
    | false =>
      rw [hg] at c1
      have HG : Hid (bit Y .gr 0 = false) := hg
      clear hg
      go_wp2_with fail
      go_end0
      exact ⟨rfl, Y, HAY.out, HG.out, HBr.out, HKr.out⟩
end

end Go.Proofs.Ytakdacbndlcfpaa
