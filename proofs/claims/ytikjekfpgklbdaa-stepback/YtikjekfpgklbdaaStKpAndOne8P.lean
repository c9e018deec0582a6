import Derived.Test.YtikjekfpgklbdaaStTakenAndStDo
import Derived.Test.YtikjekfpgklbdaaMay8AndOne8Mem
/- What the laws of package step's Do hold. No walk. -/
namespace Go.Proofs.Ytikjekfpgklbdaa
open Go.RowKit

/-- The grammar's box, the step's; the rules, the tokens. -/
structure KpIn (w : World) (T N : Int) (ra : Option Addr) (rc : Nat) (R : List Ru) (s : Stp) (tv : Value) (tok : List Int) (wq : World) : Prop where
  g : wq.heap[w.heap.size]? = some (.cells #[.int .i64 T, .int .i64 N, .slice ra R.length rc] 24 (0, 0))
  s : wq.heap[w.heap.size + 1]? = some (.cells #[.int .i64 s.op, .int .i64 s.a, .int .i64 s.b, .int .i64 s.c] 26 (0, 0))
  rules : RulesAt wq w.heap.size (.slice ra R.length rc) R
  toks : ListAt wq w.heap.size tv tok
  below : Below w.heap.size w wq

section
variable {w wq w' : World} {T N : Int} {ra : Option Addr} {rc : Nat} {R : List Ru} {s : Stp} {tv : Value} {tok : List Int}
theorem KpIn.size (h : KpIn w T N ra rc R s tv tok wq) : w.heap.size + 2 ≤ wq.heap.size := by
  have := (Array.getElem?_eq_some_iff.1 h.s).1
  omega
theorem KpIn.next (h : KpIn w T N ra rc R s tv tok wq) (hb : Below wq.heap.size wq w') : KpIn w T N ra rc R s tv tok w' := by
  have hz := h.size
  exact ⟨(hb.block _ (by omega)).trans h.g, (hb.block _ (by omega)).trans h.s, h.rules.below (hb.mono (by omega)), h.toks.below (hb.mono (by omega)), h.below.trans (hb.mono (by omega))⟩
theorem KpIn.all (h : KpIn w T N ra rc R s tv tok wq) : RulesAt wq wq.heap.size (.slice ra R.length rc) R := h.rules.mono h.below.size
theorem KpIn.allT (h : KpIn w T N ra rc R s tv tok wq) : ListAt wq wq.heap.size tv tok := h.toks.mono h.below.size
theorem KpIn.g0 (h : KpIn w T N ra rc R s tv tok wq) : wq.cell? ⟨w.heap.size, 0, none⟩ = some (.int .i64 T) := cell_of_blk h.g rfl
theorem KpIn.g1 (h : KpIn w T N ra rc R s tv tok wq) : wq.cell? ⟨w.heap.size, 1, none⟩ = some (.int .i64 N) := cell_of_blk h.g rfl
theorem KpIn.g2 (h : KpIn w T N ra rc R s tv tok wq) : wq.cell? ⟨w.heap.size, 2, none⟩ = some (.slice ra R.length rc) := cell_of_blk h.g rfl
theorem KpIn.s0 (h : KpIn w T N ra rc R s tv tok wq) : wq.cell? ⟨w.heap.size + 1, 0, none⟩ = some (.int .i64 s.op) := cell_of_blk h.s rfl
theorem KpIn.s1 (h : KpIn w T N ra rc R s tv tok wq) : wq.cell? ⟨w.heap.size + 1, 1, none⟩ = some (.int .i64 s.a) := cell_of_blk h.s rfl
theorem KpIn.s2 (h : KpIn w T N ra rc R s tv tok wq) : wq.cell? ⟨w.heap.size + 1, 2, none⟩ = some (.int .i64 s.b) := cell_of_blk h.s rfl
theorem KpIn.s3 (h : KpIn w T N ra rc R s tv tok wq) : wq.cell? ⟨w.heap.size + 1, 3, none⟩ = some (.int .i64 s.c) := cell_of_blk h.s rfl
theorem kpIn_start (hr : RulesAt w w.heap.size (.slice ra R.length rc) R) (ht : ListAt w w.heap.size tv tok) : KpIn w T N ra rc R s tv tok ((w.alloc (.cells #[.int .i64 T, .int .i64 N, .slice ra R.length rc] 24)).alloc (.cells #[.int .i64 s.op, .int .i64 s.a, .int .i64 s.b, .int .i64 s.c] 26)) := by
  obtain ⟨w1, hw1⟩ : ∃ W, w.alloc (.cells #[.int .i64 T, .int .i64 N, .slice ra R.length rc] 24) = W := ⟨_, rfl⟩
  have b1 : Below w.heap.size w w1 := by rw [← hw1]; exact (Below.refl _ _).alloc (Nat.le_refl _) _
  have z1 : w1.heap.size = w.heap.size + 1 := by rw [← hw1]; simp
  have c1 : w1.heap[w.heap.size]? = some (.cells #[.int .i64 T, .int .i64 N, .slice ra R.length rc] 24 (0, 0)) := by rw [← hw1]; exact heap_alloc_new _ _
  rw [hw1]
  obtain ⟨w2, hw2⟩ : ∃ W, w1.alloc (.cells #[.int .i64 s.op, .int .i64 s.a, .int .i64 s.b, .int .i64 s.c] 26) = W := ⟨_, rfl⟩
  have b2 : Below w1.heap.size w1 w2 := by rw [← hw2]; exact (Below.refl _ _).alloc (Nat.le_refl _) _
  have c2 : w2.heap[w1.heap.size]? = some (.cells #[.int .i64 s.op, .int .i64 s.a, .int .i64 s.b, .int .i64 s.c] 26 (0, 0)) := by rw [← hw2]; exact heap_alloc_new _ _
  rw [hw2]
  rw [z1] at c2
  have hB : Below w.heap.size w w2 := b1.trans (b2.mono b1.size)
  exact ⟨(b2.block _ (by omega)).trans c1, c2, hr.below hB, ht.below hB, hB⟩
end

/-- What was made lies in its box, and can be read. -/
structure BoxR (V M : Int) (la : Option Addr) (lc : Nat) (RR : List Ru) (b : Nat) (wq : World) : Prop where
  blk : wq.heap[b]? = some (.cells #[.int .i64 V, .int .i64 M, .slice la RR.length lc] 24 (0, 0))
  rules : RulesAt wq wq.heap.size (.slice la RR.length lc) RR

section
variable {V M : Int} {la : Option Addr} {lc : Nat} {RR : List Ru} {b : Nat} {wq w' : World}
theorem BoxR.next (h : BoxR V M la lc RR b wq) (hb : Below wq.heap.size wq w') : BoxR V M la lc RR b w' :=
  ⟨(hb.block _ (Array.getElem?_eq_some_iff.1 h.blk).1).trans h.blk, (h.rules.below hb).mono hb.size⟩
theorem BoxR.c0 (h : BoxR V M la lc RR b wq) : wq.cell? ⟨b, 0, none⟩ = some (.int .i64 V) := cell_of_blk h.blk rfl
theorem BoxR.c1 (h : BoxR V M la lc RR b wq) : wq.cell? ⟨b, 1, none⟩ = some (.int .i64 M) := cell_of_blk h.blk rfl
theorem BoxR.c2 (h : BoxR V M la lc RR b wq) : wq.cell? ⟨b, 2, none⟩ = some (.slice la RR.length lc) := cell_of_blk h.blk rfl
theorem boxR_new (h : RulesAt wq wq.heap.size (.slice la RR.length lc) RR) : BoxR V M la lc RR wq.heap.size (wq.alloc (.cells #[.int .i64 V, .int .i64 M, .slice la RR.length lc] 24)) := ⟨heap_alloc_new _ _, h.boxed _⟩
end

end Go.Proofs.Ytikjekfpgklbdaa

/- The contracts of package step's Forward and Back. -/
namespace Go.Proofs.Ytikjekfpgklbdaa
open Go.RowKit

/-- What is answered: nothing, or a list. -/
def CarR (Z : Option (List Int)) (lv : Value) (bo : Bool) (w : World) : Prop :=
  match Z with
  | none => lv = .slice none 0 0 ∧ bo = false
  | some L => bo = true ∧ ListAt w w.heap.size lv L ∧ ∃ da n dc, lv = .slice da n dc ∧ n ≤ dc
theorem CarR.next {Z : Option (List Int)} {lv : Value} {bo : Bool} {w w' : World} (h : CarR Z lv bo w) (hb : Below w.heap.size w w') : CarR Z lv bo w' := by
  cases Z with
  | none => exact h
  | some L => exact ⟨h.1, (h.2.1.below hb).mono hb.size, h.2.2⟩
/-- What becomes of a list by f, as a derivation of the name 0. -/
def CarZ (R : List Ru) (f : Fo → Fo) (D : List Int) (Z : Option (List Int)) : Prop :=
  (readF R D = none ∧ Z = none) ∨ ∃ st t, readF R D = some st ∧ okF R t [0] ∧ flatFo t = D ∧ (∃ p K, f t = .nd p K .no) ∧ (flatFo (f t)).length ≤ 2000 ∧ Z = if (flatFo (f t)).length ≤ 400 then some (flatFo (f t)) else none

theorem carried_any {w : World} {T N : Int} {ra : Option Addr} {rc : Nat} {R : List Ru} {dv : Value} {D : List Int} {ty : TypeId} {v : Value} {name : String} {fn : Nat} {f : Fo → Fo} {Z : Option (List Int)} (hO : Over w ty v name fn (fun q ks => okF R (.nd q ks .no) [0] ∧ (flatFo ks).length ≤ 2000) (fun q ks => (headF (f (.nd q ks .no)), kidsF (f (.nd q ks .no))))) (hr : RulesAt w w.heap.size (.slice ra R.length rc) R) (hd : ListAt w w.heap.size dv D) (hdc : ∃ da n dc, dv = .slice da n dc ∧ n ≤ dc) (hM : ∀ q, (R.getD q (0, [])).2.length ≤ 1000) (hZ : CarZ R f D Z) :
    Calls Try.prog 14 #[.agg #[.int .i64 T, .int .i64 N, .slice ra R.length rc], dv, .func (.method name) #[.iface ty v] #[]] w fun e w' => ∃ lv bo, e = .returned (.tuple #[lv, .bool bo]) ∧ CarR Z lv bo w' ∧ Below w.heap.size w w' := by
  rcases hZ with ⟨h, rfl⟩ | ⟨st, t, h, hok, hfl, ⟨p, K, hf⟩, hl, rfl⟩
  · refine (carried_no hr hd hM h).mono ?_
    rintro e w' ⟨rfl, hB⟩
    exact ⟨_, _, rfl, ⟨rfl, rfl⟩, hB⟩
  · obtain ⟨q, ks, rfl⟩ := ok_single hok
    have hDl := (read_derD h).2
    rw [hf, flatFo, flatFo, List.append_nil] at hl ⊢
    rw [List.length_cons] at hl ⊢
    have hks : (flatFo ks).length ≤ 2000 := by
      have : (flatFo (.nd q ks .no)).length ≤ 400 := by rw [hfl]; exact hDl
      rw [flatFo, List.length_cons, List.length_append] at this
      omega
    have := carried_yes (T := T) (N := N) hO ⟨hok, hks⟩ hr hd hdc hM h hok hfl hDl (by simp only [hf]; show (flatFo K).length ≤ 2000; omega)
    simp only [hf] at this
    refine this.mono ?_
    rintro e w' ⟨⟨h1, lv, rfl, h2, h3⟩ | ⟨h1, rfl⟩, hB⟩
    · have h1' : (flatFo K).length + 1 ≤ 400 := h1
      rw [if_pos h1']
      exact ⟨lv, true, rfl, ⟨rfl, h2, h3⟩, hB⟩
    · have h1' : 400 < (flatFo K).length + 1 := h1
      rw [if_neg (by omega)]
      exact ⟨_, false, rfl, ⟨rfl, rfl⟩, hB⟩

section
variable {w : World} {ra : Option Addr} {rc : Nat} {R : List Ru} {dv : Value} {D : List Int} {Z : Option (List Int)}

set_option maxRecDepth 100000 in
set_option maxHeartbeats 3200000 in
theorem st_Back_no {T N : Int} (hr : RulesAt w w.heap.size (.slice ra R.length rc) R) (hd : ListAt w w.heap.size dv D) (s : Stp) (hE : (verd T N R s).2.2.1 ≠ 0) :
    Calls Try.prog 5 #[.agg #[.int .i64 T, .int .i64 N, .slice ra R.length rc], .agg #[.int .i64 s.op, .int .i64 s.a, .int .i64 s.b, .int .i64 s.c], dv] w fun e w' => e = .returned (.tuple #[.slice none 0 0, .bool false]) ∧ Below w.heap.size w w' := by
  obtain ⟨W0, hW0⟩ : ∃ W, (w.alloc (.cells #[.int .i64 T, .int .i64 N, .slice ra R.length rc] 24)).alloc (.cells #[.int .i64 s.op, .int .i64 s.a, .int .i64 s.b, .int .i64 s.c] 26) = W := ⟨_, rfl⟩
  have hK := kpIn_start (T := T) (N := N) (s := s) hr hd
  rw [hW0] at hK
  have HK : Hid (KpIn w T N ra rc R s dv D W0) := hK
  obtain ⟨da, dc, hdv⟩ := hd.1
  subst hdv
  have g0 := hK.g0
  have g1 := hK.g1
  have g2 := hK.g2
  have s0 := hK.s0
  have s1 := hK.s1
  have s2 := hK.s2
  have s3 := hK.s3
  have tk := taken_any (T := T) (N := N) hK.all s
  obtain ⟨⟨V, M, E, RR⟩, hV⟩ : ∃ x, verd T N R s = x := ⟨_, rfl⟩
  rw [hV] at tk hE
  simp only at tk hE
  have hE1 : (E == 0) = false := by simpa using hE
  clear hr hd hK hV hE
  go_enter Try.func5, Try.ntmps5
  go_wp2_with
    (go_at_call 13; refine tk.mono ?_; rintro e w2 ⟨cv, lv, RL, rfl, hR2, hmap, hB2⟩
     have HB3 : Hid (Below w.heap.size w (w2.alloc (.cells #[.int .i64 V, .int .i64 M, lv] 24))) := (HK.out.next (hB2.alloc hB2.size (.cells #[.int .i64 V, .int .i64 M, lv] 24))).below
     obtain ⟨la, lc, hlv⟩ := own_form hR2.own
     subst hlv
     clear tk hR2 hmap hB2)
  refine bodyPost_ret (v := .tuple #[.slice none 0 0, .bool false]) (by simp [results, Try.results5, go_sem]) rfl ?_
  exact ⟨rfl, HB3.out⟩

set_option maxRecDepth 100000 in
set_option maxHeartbeats 3200000 in
theorem st_Forward_yes {T N : Nat} (hr : RulesAt w w.heap.size (.slice ra R.length rc) R) (hd : ListAt w w.heap.size dv D) (hdc : ∃ da n dc, dv = .slice da n dc ∧ n ≤ dc) (s : Stp) (hm : mayB T N R = true) (hs : stepB N R s = true) (hz : mayB T (doN N s : Nat) (doR N R s) = true) (hZ : CarZ R (fwdS N R s) D Z) :
    Calls Try.prog 7 #[.agg #[.int .i64 T, .int .i64 N, .slice ra R.length rc], .agg #[.int .i64 s.op, .int .i64 s.a, .int .i64 s.b, .int .i64 s.c], dv] w fun e w' => ∃ lv bo, e = .returned (.tuple #[lv, .bool bo]) ∧ CarR Z lv bo w' ∧ Below w.heap.size w w' := by
  obtain ⟨W0, hW0⟩ : ∃ W, (w.alloc (.cells #[.int .i64 T, .int .i64 N, .slice ra R.length rc] 24)).alloc (.cells #[.int .i64 s.op, .int .i64 s.a, .int .i64 s.b, .int .i64 s.c] 26) = W := ⟨_, rfl⟩
  have hK := kpIn_start (T := T) (N := N) (s := s) hr hd
  rw [hW0] at hK
  have HK : Hid (KpIn w T N ra rc R s dv D W0) := hK
  obtain ⟨da, dn, dc, hdv, hdle⟩ := hdc
  subst hdv
  have g0 := hK.g0
  have g1 := hK.g1
  have g2 := hK.g2
  have s0 := hK.s0
  have s1 := hK.s1
  have s2 := hK.s2
  have s3 := hK.s3
  have tk := taken_yes (T := T) (N := N) hK.all hm s hs hz
  have hM : ∀ q, (R.getD q (0, [])).2.length ≤ 1000 := fun q => by
    obtain ⟨_, _, _, _, h5⟩ := may_fine hm
    by_cases hq : q < R.length
    · have := (h5 q hq).2.2.1; omega
    · simp [List.getD, hq]
  have HZ : Hid (CarZ R (fwdS N R s) D Z ∧ mayB T N R = true ∧ stepB N R s = true ∧ mayB T (doN N s : Nat) (doR N R s) = true ∧ dn ≤ dc ∧ ∀ q, (R.getD q (0, [])).2.length ≤ 1000) := ⟨hZ, hm, hs, hz, hdle, hM⟩
  obtain ⟨M, hMn⟩ : ∃ M : Int, ((doN N s : Nat) : Int) = M := ⟨_, rfl⟩
  rw [hMn] at tk
  clear hr hd hK hm hs hz hZ hdle hM hMn
  go_enter Try.func7, Try.ntmps7
  go_upto_region 4 with
    (go_at_call 13; refine tk.mono ?_; rintro e w2 ⟨cv, lv, RL, rfl, hC2, hR2, hmap, hB2⟩
     obtain ⟨la, lc, hlv⟩ := own_form hR2.own
     subst hlv
     have hB3 : Below W0.heap.size W0 (w2.alloc (.cells #[.int .i64 (T : Int), .int .i64 M, .slice la RL.length lc] 24)) := hB2.alloc hB2.size _
     have hbx := heap_alloc_new w2 (.cells #[.int .i64 (T : Int), .int .i64 M, .slice la RL.length lc] 24)
     have hRu : RulesAt (w2.alloc (.cells #[.int .i64 (T : Int), .int .i64 M, .slice la RL.length lc] 24)) (w2.alloc (.cells #[.int .i64 (T : Int), .int .i64 M, .slice la RL.length lc] 24)).heap.size (.slice la RL.length lc) (doR N R s) := by rw [← hmap]; exact hR2.rules.boxed _
     have hCh := hC2.next ((Below.refl _ _).alloc (Nat.le_refl _) (.cells #[.int .i64 (T : Int), .int .i64 M, .slice la RL.length lc] 24))
     have hrl : RL.length = (doR N R s).length := by rw [← hmap, List.length_map]
     have HF : Hid (KpIn w T N ra rc R s (.slice da dn dc) D (w2.alloc (.cells #[.int .i64 (T : Int), .int .i64 M, .slice la RL.length lc] 24)) ∧ (w2.alloc (.cells #[.int .i64 (T : Int), .int .i64 M, .slice la RL.length lc] 24)).heap[w2.heap.size]? = some (.cells #[.int .i64 (T : Int), .int .i64 M, .slice la RL.length lc] 24 (0, 0)) ∧ RulesAt (w2.alloc (.cells #[.int .i64 (T : Int), .int .i64 M, .slice la RL.length lc] 24)) (w2.alloc (.cells #[.int .i64 (T : Int), .int .i64 M, .slice la RL.length lc] 24)).heap.size (.slice la RL.length lc) (doR N R s) ∧ ChgAt (w2.alloc (.cells #[.int .i64 (T : Int), .int .i64 M, .slice la RL.length lc] 24)) W0.heap.size T N ra rc R s cv ∧ RL.length = (doR N R s).length) := ⟨HK.out.next hB3, hbx, hRu, hCh, hrl⟩
     clear tk hC2 hR2 hmap hB2 hB3 hbx hRu hCh hrl g0 g1 g2 s0 s1 s2 s3 hW0)
  obtain ⟨W3, hW3⟩ : ∃ V, w2.alloc (.cells #[.int .i64 (T : Int), .int .i64 M, .slice la RL.length lc] 24) = V := ⟨_, rfl⟩
  obtain ⟨p9, hp9⟩ : ∃ x, w2.heap.size = x := ⟨_, rfl⟩
  rw [hW3, hp9] at HF
  rw [hW3]
  rw [hp9]
  clear hW3 hp9
  obtain ⟨Wd, hWd⟩ : ∃ V, W3.drew = V := ⟨_, rfl⟩
  have hBd : Below W3.heap.size W3 Wd := by rw [← hWd]; exact (Below.refl _ _).drew
  have hKd := HF.out.1.next hBd
  have hCd := HF.out.2.2.2.1.next hBd
  have hRd := (HF.out.2.2.1.below hBd).mono hBd.size
  obtain ⟨ty, v, fn, hcv, hO⟩ := chg_fwd hCd hKd.all HZ.out.2.1 HZ.out.2.2.1
  subst hcv
  have ca := carried_any (T := (T : Int)) (N := (N : Int)) hO hKd.all hKd.allT ⟨da, dn, dc, rfl, HZ.out.2.2.2.2.1⟩ HZ.out.2.2.2.2.2 HZ.out.1
  have hbd := (hBd.block _ (Array.getElem?_eq_some_iff.1 HF.out.2.1).1).trans HF.out.2.1
  have S0 : Wd.cell? ⟨w.heap.size, 0, none⟩ = some (.int .i64 (T : Int)) ∧ Wd.cell? ⟨w.heap.size, 1, none⟩ = some (.int .i64 (N : Int)) ∧ Wd.cell? ⟨w.heap.size, 2, none⟩ = some (.slice ra R.length rc) := ⟨hKd.g0, hKd.g1, hKd.g2⟩
  have HKd : Hid (Below w.heap.size w Wd) := hKd.below
  clear hBd hKd hCd hRd hO hbd HF
  refine wp_region_mix [0, 1, 2, 3, 4] 5 9 (fun wq => wq.cell? ⟨w.heap.size, 0, none⟩ = some (.int .i64 (T : Int)) ∧ wq.cell? ⟨w.heap.size, 1, none⟩ = some (.int .i64 (N : Int)) ∧ wq.cell? ⟨w.heap.size, 2, none⟩ = some (.slice ra R.length rc)) (by kernel_rfl) (by kernel_rfl) (by rw [hWd]; exact S0) ?_
  rw [hWd]
  clear hWd
  iterate 5
    refine StillI.con8 (v := ?_) rfl (by rfl) ?_ ?_
    rotate_left
    · intro w' hSw
      obtain ⟨z0, z1, z2⟩ := hSw
      go_simp
      try with_reducible rfl
    simp only [Act.put, List.setIfInBounds_toArray, List.set_cons_zero, List.set_cons_succ]
  rw [StillI]
  have HSk : Hid (∀ wq, Below Wd.heap.size Wd wq → wq.cell? ⟨w.heap.size, 0, none⟩ = some (.int .i64 (T : Int)) ∧ wq.cell? ⟨w.heap.size, 1, none⟩ = some (.int .i64 (N : Int)) ∧ wq.cell? ⟨w.heap.size, 2, none⟩ = some (.slice ra R.length rc)) := fun wq hq => ⟨(hq.cell (World.block_lt_of_cell? _ _ S0.1)).trans S0.1, (hq.cell (World.block_lt_of_cell? _ _ S0.2.1)).trans S0.2.1, (hq.cell (World.block_lt_of_cell? _ _ S0.2.2)).trans S0.2.2⟩
  clear S0
  refine TailC.one (i := 5) (by kernel_rfl) ⟨_, rfl, fun K hK => ?_⟩
  go_simp
  refine ca.mono ?_
  rintro e w4 ⟨lv, bo, rfl, hC4, hB4⟩
  dsimp only
  refine hK.out _ _ (fun _ => HSk.out w4 hB4) ?_
  clear hK ca
  refine TailC.read (i := 6) (v := lv) rfl (by kernel_rfl) (by rfl) (fun w' _ => by unfold execOp; go_simp) (HSk.out w4 hB4) ?_
  simp only [Act.put, List.setIfInBounds_toArray, List.set_cons_zero, List.set_cons_succ]
  refine TailC.read (i := 7) (v := .bool bo) rfl (by kernel_rfl) (by rfl) (fun w' _ => by unfold execOp; go_simp) (HSk.out w4 hB4) ?_
  simp only [Act.put, List.setIfInBounds_toArray, List.set_cons_zero, List.set_cons_succ]
  refine TailC.read (i := 8) (v := lv) rfl (by kernel_rfl) (by rfl) (fun w' _ => by unfold execOp; go_simp) (HSk.out w4 hB4) ?_
  simp only [Act.put, List.setIfInBounds_toArray, List.set_cons_zero, List.set_cons_succ]
  refine TailC.last (i := 9) (by kernel_rfl) ⟨_, rfl, fun K hK => ?_⟩
  go_simp
  refine hK.out _ _ (fun h => absurd h (by omega)) (NoPanic.normal ?_)
  clear hK
  go_wp2_with fail
  refine bodyPost_ret (v := .tuple #[lv, .bool bo]) (by simp [results, Try.results7, go_sem]) rfl ?_
  exact ⟨lv, bo, rfl, hC4, HKd.out.trans (hB4.mono HKd.out.size)⟩

set_option maxRecDepth 100000 in
set_option maxHeartbeats 3200000 in
theorem st_Back_yes {T N : Nat} (hr : RulesAt w w.heap.size (.slice ra R.length rc) R) (hd : ListAt w w.heap.size dv D) (hdc : ∃ da n dc, dv = .slice da n dc ∧ n ≤ dc) (s : Stp) (hm : mayB T N R = true) (hs : stepB N R s = true) (hz : mayB T (doN N s : Nat) (doR N R s) = true) (hZ : CarZ (doR N R s) (bakS N R s) D Z) :
    Calls Try.prog 5 #[.agg #[.int .i64 T, .int .i64 N, .slice ra R.length rc], .agg #[.int .i64 s.op, .int .i64 s.a, .int .i64 s.b, .int .i64 s.c], dv] w fun e w' => ∃ lv bo, e = .returned (.tuple #[lv, .bool bo]) ∧ CarR Z lv bo w' ∧ Below w.heap.size w w' := by
  obtain ⟨W0, hW0⟩ : ∃ W, (w.alloc (.cells #[.int .i64 T, .int .i64 N, .slice ra R.length rc] 24)).alloc (.cells #[.int .i64 s.op, .int .i64 s.a, .int .i64 s.b, .int .i64 s.c] 26) = W := ⟨_, rfl⟩
  have hK := kpIn_start (T := T) (N := N) (s := s) hr hd
  rw [hW0] at hK
  have HK : Hid (KpIn w T N ra rc R s dv D W0) := hK
  obtain ⟨da, dn, dc, hdv, hdle⟩ := hdc
  subst hdv
  have g0 := hK.g0
  have g1 := hK.g1
  have g2 := hK.g2
  have s0 := hK.s0
  have s1 := hK.s1
  have s2 := hK.s2
  have s3 := hK.s3
  have tk := taken_yes (T := T) (N := N) hK.all hm s hs hz
  have hM : ∀ q, ((doR N R s).getD q (0, [])).2.length ≤ 1000 := fun q => by
    obtain ⟨_, _, _, _, h5⟩ := may_fine hz
    by_cases hq : q < (doR N R s).length
    · have := (h5 q hq).2.2.1; omega
    · simp [List.getD, hq]
  have HZ : Hid (CarZ (doR N R s) (bakS N R s) D Z ∧ mayB T N R = true ∧ stepB N R s = true ∧ mayB T (doN N s : Nat) (doR N R s) = true ∧ dn ≤ dc ∧ ∀ q, ((doR N R s).getD q (0, [])).2.length ≤ 1000) := ⟨hZ, hm, hs, hz, hdle, hM⟩
  obtain ⟨M, hMn⟩ : ∃ M : Int, ((doN N s : Nat) : Int) = M := ⟨_, rfl⟩
  rw [hMn] at tk
  clear hr hd hK hm hs hz hZ hdle hM hMn
  go_enter Try.func5, Try.ntmps5
  go_upto_region 4 with
    (go_at_call 13; refine tk.mono ?_; rintro e w2 ⟨cv, lv, RL, rfl, hC2, hR2, hmap, hB2⟩
     obtain ⟨la, lc, hlv⟩ := own_form hR2.own
     subst hlv
     have hB3 : Below W0.heap.size W0 (w2.alloc (.cells #[.int .i64 (T : Int), .int .i64 M, .slice la RL.length lc] 24)) := hB2.alloc hB2.size _
     have hbx := heap_alloc_new w2 (.cells #[.int .i64 (T : Int), .int .i64 M, .slice la RL.length lc] 24)
     have hRu : RulesAt (w2.alloc (.cells #[.int .i64 (T : Int), .int .i64 M, .slice la RL.length lc] 24)) (w2.alloc (.cells #[.int .i64 (T : Int), .int .i64 M, .slice la RL.length lc] 24)).heap.size (.slice la RL.length lc) (doR N R s) := by rw [← hmap]; exact hR2.rules.boxed _
     have hCh := hC2.next ((Below.refl _ _).alloc (Nat.le_refl _) (.cells #[.int .i64 (T : Int), .int .i64 M, .slice la RL.length lc] 24))
     have hrl : RL.length = (doR N R s).length := by rw [← hmap, List.length_map]
     have HF : Hid (KpIn w T N ra rc R s (.slice da dn dc) D (w2.alloc (.cells #[.int .i64 (T : Int), .int .i64 M, .slice la RL.length lc] 24)) ∧ (w2.alloc (.cells #[.int .i64 (T : Int), .int .i64 M, .slice la RL.length lc] 24)).heap[w2.heap.size]? = some (.cells #[.int .i64 (T : Int), .int .i64 M, .slice la RL.length lc] 24 (0, 0)) ∧ RulesAt (w2.alloc (.cells #[.int .i64 (T : Int), .int .i64 M, .slice la RL.length lc] 24)) (w2.alloc (.cells #[.int .i64 (T : Int), .int .i64 M, .slice la RL.length lc] 24)).heap.size (.slice la RL.length lc) (doR N R s) ∧ ChgAt (w2.alloc (.cells #[.int .i64 (T : Int), .int .i64 M, .slice la RL.length lc] 24)) W0.heap.size T N ra rc R s cv ∧ RL.length = (doR N R s).length) := ⟨HK.out.next hB3, hbx, hRu, hCh, hrl⟩
     clear tk hC2 hR2 hmap hB2 hB3 hbx hRu hCh hrl g0 g1 g2 s0 s1 s2 s3 hW0)
  obtain ⟨W3, hW3⟩ : ∃ V, w2.alloc (.cells #[.int .i64 (T : Int), .int .i64 M, .slice la RL.length lc] 24) = V := ⟨_, rfl⟩
  obtain ⟨p9, hp9⟩ : ∃ x, w2.heap.size = x := ⟨_, rfl⟩
  rw [hW3, hp9] at HF
  rw [hW3]
  rw [hp9]
  clear hW3 hp9
  obtain ⟨Wd, hWd⟩ : ∃ V, W3.drew = V := ⟨_, rfl⟩
  have hBd : Below W3.heap.size W3 Wd := by rw [← hWd]; exact (Below.refl _ _).drew
  have hKd := HF.out.1.next hBd
  have hCd := HF.out.2.2.2.1.next hBd
  have hRd := (HF.out.2.2.1.below hBd).mono hBd.size
  obtain ⟨ty, v, fn, hcv, hO⟩ := chg_back hCd hKd.all HZ.out.2.1 HZ.out.2.2.1 HZ.out.2.2.2.1
  subst hcv
  rw [HF.out.2.2.2.2] at hRd
  have ca := carried_any (T := (T : Int)) (N := M) hO hRd hKd.allT ⟨da, dn, dc, rfl, HZ.out.2.2.2.2.1⟩ HZ.out.2.2.2.2.2 HZ.out.1
  have hbd := (hBd.block _ (Array.getElem?_eq_some_iff.1 HF.out.2.1).1).trans HF.out.2.1
  have S0 : Wd.cell? ⟨p9, 0, none⟩ = some (.int .i64 (T : Int)) ∧ Wd.cell? ⟨p9, 1, none⟩ = some (.int .i64 M) ∧ Wd.cell? ⟨p9, 2, none⟩ = some (.slice la (doR N R s).length lc) := ⟨cell_of_blk hbd rfl, cell_of_blk hbd rfl, by rw [← HF.out.2.2.2.2]; exact cell_of_blk hbd rfl⟩
  have HKd : Hid (Below w.heap.size w Wd) := hKd.below
  clear hBd hKd hCd hRd hO hbd HF
  refine wp_region_mix [0, 1, 2, 3, 4] 5 9 (fun wq => wq.cell? ⟨p9, 0, none⟩ = some (.int .i64 (T : Int)) ∧ wq.cell? ⟨p9, 1, none⟩ = some (.int .i64 M) ∧ wq.cell? ⟨p9, 2, none⟩ = some (.slice la (doR N R s).length lc)) (by kernel_rfl) (by kernel_rfl) (by rw [hWd]; exact S0) ?_
  rw [hWd]
  clear hWd
  iterate 5
    refine StillI.con8 (v := ?_) rfl (by rfl) ?_ ?_
    rotate_left
    · intro w' hSw
      obtain ⟨z0, z1, z2⟩ := hSw
      go_simp
      try with_reducible rfl
    simp only [Act.put, List.setIfInBounds_toArray, List.set_cons_zero, List.set_cons_succ]
  rw [StillI]
  have HSk : Hid (∀ wq, Below Wd.heap.size Wd wq → wq.cell? ⟨p9, 0, none⟩ = some (.int .i64 (T : Int)) ∧ wq.cell? ⟨p9, 1, none⟩ = some (.int .i64 M) ∧ wq.cell? ⟨p9, 2, none⟩ = some (.slice la (doR N R s).length lc)) := fun wq hq => ⟨(hq.cell (World.block_lt_of_cell? _ _ S0.1)).trans S0.1, (hq.cell (World.block_lt_of_cell? _ _ S0.2.1)).trans S0.2.1, (hq.cell (World.block_lt_of_cell? _ _ S0.2.2)).trans S0.2.2⟩
  clear S0
  refine TailC.one (i := 5) (by kernel_rfl) ⟨_, rfl, fun K hK => ?_⟩
  go_simp
  refine ca.mono ?_
  rintro e w4 ⟨lv, bo, rfl, hC4, hB4⟩
  dsimp only
  refine hK.out _ _ (fun _ => HSk.out w4 hB4) ?_
  clear hK ca
  refine TailC.read (i := 6) (v := lv) rfl (by kernel_rfl) (by rfl) (fun w' _ => by unfold execOp; go_simp) (HSk.out w4 hB4) ?_
  simp only [Act.put, List.setIfInBounds_toArray, List.set_cons_zero, List.set_cons_succ]
  refine TailC.read (i := 7) (v := .bool bo) rfl (by kernel_rfl) (by rfl) (fun w' _ => by unfold execOp; go_simp) (HSk.out w4 hB4) ?_
  simp only [Act.put, List.setIfInBounds_toArray, List.set_cons_zero, List.set_cons_succ]
  refine TailC.read (i := 8) (v := lv) rfl (by kernel_rfl) (by rfl) (fun w' _ => by unfold execOp; go_simp) (HSk.out w4 hB4) ?_
  simp only [Act.put, List.setIfInBounds_toArray, List.set_cons_zero, List.set_cons_succ]
  refine TailC.last (i := 9) (by kernel_rfl) ⟨_, rfl, fun K hK => ?_⟩
  go_simp
  refine hK.out _ _ (fun h => absurd h (by omega)) (NoPanic.normal ?_)
  clear hK
  go_wp2_with fail
  refine bodyPost_ret (v := .tuple #[lv, .bool bo]) (by simp [results, Try.results5, go_sem]) rfl ?_
  exact ⟨lv, bo, rfl, hC4, HKd.out.trans (hB4.mono HKd.out.size)⟩

end

end Go.Proofs.Ytikjekfpgklbdaa

/- The contract of pollardingref8.one, SPrune. -/
namespace Go.Proofs.Ytikjekfpgklbdaa
open Go.RowKit

set_option maxRecDepth 100000 in
set_option maxHeartbeats 6400000 in
theorem one8_prune {w : World} {T N k : Nat} {rv : Value} {R : List Ru} (hr : RulesAt w w.heap.size rv R) (hm : mayB T N R = true) (hk : k < R.length) {a b c : Int} :
    Calls Try.prog 11 #[.agg #[.int .i64 T, .int .i64 N, rv], .agg #[.int .i64 5, .int .i64 a, .int .i64 b, .int .i64 c], .int .i64 k] w fun e w' => ∃ lv RL, e = .returned lv ∧ RlIn w' w.heap.size lv RL ∧ (RL.map fun x => x.2) = oneR N R ⟨5, a, b, c⟩ k ∧ Below w.heap.size w w' := by
  obtain ⟨hT, hN1, hN, hRl, h5⟩ := may_fine hm
  obtain ⟨ra, rc, hrv⟩ := hr.1
  subst hrv
  obtain ⟨⟨L, l⟩, hrule⟩ : ∃ x, R.getD k (0, []) = x := ⟨_, rfl⟩
  have hk5 := h5 k hk
  rw [hrule] at hk5
  simp only at hk5
  have HRu : Hid (R.getD k (0, []) = (L, l)) := hrule
  have HM : Hid (mayB T N R = true) := hm
  have HR : Hid (RulesAt w w.heap.size (.slice ra R.length rc) R) := hr
  obtain ⟨W1, hW1⟩ : ∃ W, (w.alloc (.cells #[.int .i64 T, .int .i64 N, .slice ra R.length rc] 24)).alloc (.cells #[.int .i64 5, .int .i64 a, .int .i64 b, .int .i64 c] 26) = W := ⟨_, rfl⟩
  have hB1 : Below w.heap.size w W1 := by rw [← hW1]; exact ((Below.refl _ _).alloc (Nat.le_refl _) _).alloc (by simp) _
  have hs1 : W1.heap.size = w.heap.size + 2 := by rw [← hW1]; simp
  have HC : Hid (∀ wq, Below W1.heap.size W1 wq → wq.cell? ⟨w.heap.size, 0, none⟩ = some (.int .i64 T) ∧ wq.cell? ⟨w.heap.size, 1, none⟩ = some (.int .i64 N) ∧ wq.cell? ⟨w.heap.size, 2, none⟩ = some (.slice ra R.length rc) ∧ wq.cell? ⟨w.heap.size + 1, 0, none⟩ = some (.int .i64 5) ∧ wq.cell? ⟨w.heap.size + 1, 1, none⟩ = some (.int .i64 a) ∧ wq.cell? ⟨w.heap.size + 1, 2, none⟩ = some (.int .i64 b) ∧ wq.cell? ⟨w.heap.size + 1, 3, none⟩ = some (.int .i64 c) ∧ RulesAt wq w.heap.size (.slice ra R.length rc) R ∧ Below w.heap.size w wq) := fun wq hq => by
    rw [hs1] at hq
    have hB : Below w.heap.size w wq := hB1.trans (hq.mono (by omega))
    rw [← hW1] at hq
    exact ⟨(hq.cell (by simp only; omega)).trans (by simp [go_sem]), (hq.cell (by simp only; omega)).trans (by simp [go_sem]), (hq.cell (by simp only; omega)).trans (by simp [go_sem]), (hq.cell (by simp only; omega)).trans (by simp [go_sem]), (hq.cell (by simp only; omega)).trans (by simp [go_sem]), (hq.cell (by simp only; omega)).trans (by simp [go_sem]), (hq.cell (by simp only; omega)).trans (by simp [go_sem]), hr.below hB, hB⟩
  have HS1 : Hid (W1.heap.size = w.heap.size + 2) := hs1
  have hC1 := HC.out W1.drew ((Below.refl _ _).drew)
  have g2 := hC1.2.2.1
  obtain ⟨b0, o0, rc0, qa, qc, hv, _, k1, k2, hsy⟩ := hC1.2.2.2.2.2.2.2.1.syms hk
  cases hv
  rw [hrule] at k1 k2 hsy
  simp only at k1 k2 hsy
  obtain ⟨n, hn⟩ : ∃ n, l.length = n := ⟨_, rfl⟩
  have hn8 : n ≤ 8 := by rw [← hn]; exact hk5.2.2.1
  rw [hn] at k2 hsy
  have HN : Hid (l.length = n) := hn
  have HSy : Hid (SymsAt W1.drew (.slice qa n qc) l) := hsy
  have i0 : (0 : Int) ≤ (k : Int) := Int.natCast_nonneg _
  have i1 : (k : Int) < (R.length : Int) := by omega
  have HCo : Hid (∀ wq, Below W1.drew.heap.size W1.drew wq → Calls Try.prog 12 #[.slice qa n qc] wq fun e w' => ∃ g d, e = .returned (.slice (some ⟨g, 0, none⟩) n d) ∧ w'.ownsRow wq.heap.size 52 2 (.slice (some ⟨g, 0, none⟩) n d) n (flatY l) ∧ Below wq.heap.size wq w') := fun wq hq => by
    have := copied8_any (HSy.out.same (same_below hq)) (by rw [HN.out]; omega)
    rw [HN.out] at this
    exact this
  have HKeep : Hid (∀ wq p u, Below W1.drew.heap.size W1.drew wq → W1.drew.cell? p = some u → wq.cell? p = some u) := fun wq p u hq hp => (hq.cell (World.block_lt_of_cell? _ _ hp)).trans hp
  have HO : Hid (∀ wq rb g d, Below W1.heap.size W1 wq → wq.cell? ⟨rb, 0, none⟩ = some (.int .i64 L) → wq.cell? ⟨rb, 1, none⟩ = some (.slice (some ⟨g, 0, none⟩) n d) → (∀ o, wq.frozen? ⟨rb, o, none⟩ = false) → wq.ownsRow W1.heap.size 52 2 (.slice (some ⟨g, 0, none⟩) n d) n (flatY l) → g ≠ rb → W1.heap.size ≤ rb → O8 w T N (some ⟨b0, o0, none⟩) rc R ⟨5, a, b, c⟩ rb g d L l wq) := fun wq rb g d hq h1 h2 h3 h4 h6 h7 => by
    obtain ⟨c0, c1, c2, c3, c4, c5, c6, c7, c8⟩ := HC.out wq hq
    rw [HS1.out] at h4 h7
    exact ⟨c0, c1, c2, c3, c4, c5, c6, h1, by rw [HN.out]; exact h2, h3, by rw [HN.out]; exact h4, h6, h7, c7, c8⟩
  clear hr hm hrule hB1 hs1 hC1 hsy hn
  go_enter Try.func11, Try.ntmps11
  go_upto_region 1 with fail
  clear hW1
  go_cut [7] from 18 to 229 (fun s7 wx => ∃ rb g d, s7 = .pointer (some ⟨rb, 0, none⟩) ∧ O8 w T N (some ⟨b0, o0, none⟩) rc R ⟨5, a, b, c⟩ rb g d L l wx)
  case first =>
    refine wp_region_held_any [0, 1, 2, 3, 4, 5, 6, 7, 8, 9, 10, 11] 4 15 (fun w' => w'.cell? ⟨w.heap.size, 2, none⟩ = some (.slice (some ⟨b0, o0, none⟩) R.length rc) ∧ w'.cell? ⟨b0, o0 + k * 2, none⟩ = some (.int .i64 L) ∧ w'.cell? ⟨b0, o0 + k * 2 + 1, none⟩ = some (.slice qa n qc)) (by kernel_rfl) (by kernel_rfl) ⟨g2, k1, k2⟩ ?_
    iterate 12
      refine StillI.con8 (v := ?_) rfl (by rfl) ?_ ?_
      rotate_left
      · intro w' hSw
        obtain ⟨z0, z1, z2⟩ := hSw
        go_simp
        try with_reducible rfl
      simp only [Act.put, List.setIfInBounds_toArray, List.set_cons_zero, List.set_cons_succ]
    rw [StillI]
    have cop := HCo.out W1.drew (Below.refl _ _)
    refine TailA.two (i := 12) (i' := 14) (by kernel_rfl) ⟨_, rfl, fun K hK => ?_⟩ ⟨_, rfl, fun K hK => ?_⟩
    · go_simp
      refine cop.mono ?_
      rintro e w3 ⟨g, d, rfl, hown, hB3⟩
      dsimp only
      have q0 := HKeep.out w3 _ _ hB3 g2
      have q1 := HKeep.out w3 _ _ hB3 k1
      have q2 := HKeep.out w3 _ _ hB3 k2
      refine hK.out _ _ (fun _ => ⟨q0, q1, q2⟩) ?_
      have hBa : Below W1.drew.heap.size W1.drew (w3.alloc (.cells #[.int .i64 0, .slice none 0 0] 44)) := hB3.alloc hB3.size _
      have HF : Hid (O8 w T N (some ⟨b0, o0, none⟩) rc R ⟨5, a, b, c⟩ w3.heap.size g d L l (w3.alloc (.cells #[.int .i64 L, .slice (some ⟨g, 0, none⟩) n d] 44))) := by
        refine HO.out _ _ _ _ ((Below.refl _ _).drew.trans (hB3.alloc hB3.size _)) (by simp [go_sem]) (by simp [go_sem]) (fun o => by simp [go_sem]) (hown.alloc _) (fun e => ?_) hB3.size
        have := (hown.lt g rfl).2
        omega
      clear hK cop hown hB3 k1 k2 g2
      refine TailA.two (i := 13) (i' := 14) (by kernel_rfl) ⟨_, rfl, fun K hK => ?_⟩ ⟨_, rfl, fun K hK => ?_⟩
      · go_simp
        refine hK.out _ _ (fun _ => ⟨q0, q1, q2⟩) ?_
        clear hK
        refine TailA.one (i := 14) (by kernel_rfl) ⟨_, rfl, fun K hK => ?_⟩
        go_simp
        refine hK.out _ _ (fun _ => ⟨?_, ?_, ?_⟩) ?_
        · rw [World.cell?_alloc_past _ _ _ (World.block_lt_of_cell? _ _ q0)]; exact q0
        · rw [World.cell?_alloc_past _ _ _ (World.block_lt_of_cell? _ _ q1)]; exact q1
        · rw [World.cell?_alloc_past _ _ _ (World.block_lt_of_cell? _ _ q2)]; exact q2
        clear hK
        refine TailA.one (i := 15) (by kernel_rfl) ⟨_, rfl, fun K hK => ?_⟩
        go_simp
        refine hK.out _ _ (fun h => absurd h (by omega)) ?_
        clear hK
        refine TailA.end (by kernel_rfl) (NoPanic.normal ?_)
        go_wp2_with fail
        go_meet
        case rel => exact ⟨_, _, _, rfl, HF.out⟩
      · go_simp
        refine hK.out _ _ (fun _ => ⟨?_, ?_, ?_⟩) ?_
        · rw [World.cell?_alloc_past _ _ _ (World.block_lt_of_cell? _ _ q0)]; exact q0
        · rw [World.cell?_alloc_past _ _ _ (World.block_lt_of_cell? _ _ q1)]; exact q1
        · rw [World.cell?_alloc_past _ _ _ (World.block_lt_of_cell? _ _ q2)]; exact q2
        clear hK
        refine TailA.one (i := 13) (by kernel_rfl) ⟨_, rfl, fun K hK => ?_⟩
        go_simp
        refine hK.out _ _ (fun _ => ⟨?_, ?_, ?_⟩) ?_
        · rw [World.cell?_alloc_past _ _ _ (World.block_lt_of_cell? _ _ q0)]; exact q0
        · rw [World.cell?_alloc_past _ _ _ (World.block_lt_of_cell? _ _ q1)]; exact q1
        · rw [World.cell?_alloc_past _ _ _ (World.block_lt_of_cell? _ _ q2)]; exact q2
        clear hK
        refine TailA.one (i := 15) (by kernel_rfl) ⟨_, rfl, fun K hK => ?_⟩
        go_simp
        refine hK.out _ _ (fun h => absurd h (by omega)) ?_
        clear hK
        refine TailA.end (by kernel_rfl) (NoPanic.normal ?_)
        go_wp2_with fail
        go_meet
        case rel => exact ⟨_, _, _, rfl, HF.out⟩
    · go_simp
      have hBa : Below W1.drew.heap.size W1.drew (W1.drew.alloc (.cells #[.int .i64 0, .slice none 0 0] 44)) := (Below.refl _ _).alloc (Nat.le_refl _) _
      have cop2 := HCo.out _ hBa
      refine hK.out _ _ (fun _ => ⟨HKeep.out _ _ _ hBa g2, HKeep.out _ _ _ hBa k1, HKeep.out _ _ _ hBa k2⟩) ?_
      clear hK cop
      refine TailA.one (i := 12) (by kernel_rfl) ⟨_, rfl, fun K hK => ?_⟩
      go_simp
      refine cop2.mono ?_
      rintro e w3 ⟨g, d, rfl, hown, hB3⟩
      dsimp only
      have hB4 : Below W1.drew.heap.size W1.drew w3 := hBa.trans (hB3.mono (by simp))
      have q0 := HKeep.out w3 _ _ hB4 g2
      have q1 := HKeep.out w3 _ _ hB4 k1
      have q2 := HKeep.out w3 _ _ hB4 k2
      have y0 : w3.cell? ⟨W1.heap.size, 0, none⟩ = some (.int .i64 0) := (hB3.cell (by simp)).trans (by simp [go_sem])
      have y1 : w3.cell? ⟨W1.heap.size, 1, none⟩ = some (.slice none 0 0) := (hB3.cell (by simp)).trans (by simp [go_sem])
      have yf : ∀ o, w3.frozen? ⟨W1.heap.size, o, none⟩ = false := fun o => (hB3.frozen (by simp)).trans (by simp [go_sem])
      have yf0 := yf 0
      have yf1 := yf 1
      have hgl := hown.lt g rfl
      simp only [World.size_alloc] at hgl
      have hgd : W1.drew.heap.size = W1.heap.size := rfl
      have HF : Hid (O8 w T N (some ⟨b0, o0, none⟩) rc R ⟨5, a, b, c⟩ W1.heap.size g d L l ((w3.setCell ⟨W1.heap.size, 0, none⟩ (.int .i64 L)).setCell ⟨W1.heap.size, 1, none⟩ (.slice (some ⟨g, 0, none⟩) n d))) := by
        refine HO.out _ _ _ _ ((((Below.refl _ _).drew.trans hB4).setCell (by simp) _).setCell (by simp) _) ?_ ?_ (fun o => ?_) ?_ (fun e => by omega) (Nat.le_refl _)
        · rw [cell_set_other (.inr (by simp))]; exact World.cell?_setCell_same _ _ _ y0
        · exact World.cell?_setCell_same _ _ _ (by rw [cell_set_other (.inr (by simp))]; exact y1)
        · rw [World.frozen?_setCell, World.frozen?_setCell]; exact yf o
        · obtain ⟨z1, ⟨hx, _⟩ | ⟨g', c', cur, e, z2, z3, z4⟩⟩ := hown
          · cases hx
          · refine ⟨z1, .inr ⟨g', c', cur, e, by simp at z2; omega, ?_, z4⟩⟩
            injection e with e1
            injection e1 with e1
            injection e1 with e1
            subst e1
            rw [Below.heap_setCell _ _ _ _ (by simp only; omega), Below.heap_setCell _ _ _ _ (by simp only; omega)]
            exact z3
      refine hK.out _ _ (fun _ => ⟨q0, q1, q2⟩) ?_
      clear hK cop2 hown hB3 hB4 hBa k1 k2 g2 yf
      refine TailA.one (i := 13) (by kernel_rfl) ⟨_, rfl, fun K hK => ?_⟩
      go_simp
      refine hK.out _ _ (fun _ => ⟨q0, q1, q2⟩) ?_
      clear hK
      refine TailA.one (i := 15) (by kernel_rfl) ⟨_, rfl, fun K hK => ?_⟩
      go_simp
      refine hK.out _ _ (fun h => absurd h (by omega)) ?_
      clear hK
      refine TailA.end (by kernel_rfl) (NoPanic.normal ?_)
      go_wp2_with fail
      go_meet
      case rel => exact ⟨_, _, _, rfl, HF.out⟩
  case rest =>
    obtain ⟨rb, g, d, rfl, hO⟩ := hcut
    clear k1 k2 g2 HCo HO HC HSy HKeep
    obtain ⟨Lf, rfl⟩ : ∃ Lf : Nat, L = (Lf : Int) := ⟨L.toNat, by omega⟩
    have hLf : Lf < N := by omega
    have hO2 := hO.later ((Below.refl _ _).alloc (Nat.le_refl _) (.cells #[.bool false, .int .i64 N] 52))
    have HO : Hid (O8 w T N (some ⟨b0, o0, none⟩) rc R ⟨5, a, b, c⟩ rb g d Lf l (wc.alloc (.cells #[.bool false, .int .i64 N] 52))) := hO2
    have x0 := hO.g1
    have x1 := hO2.s0
    have x2 := hO2.g0
    have x3 := hO2.g1
    have x4 := hO2.g2
    have mk := makes3_any (T := T) (N := N) (hO2.rules.mono hO2.below.size) HM.out
    have HSy5 : Hid (∀ s ∈ l, s.1 = false → 0 ≤ s.2 ∧ s.2 < (N : Int)) := fun s hs hb => by
      have := hk5.2.2.2 s hs
      rw [hb] at this
      simpa using this
    obtain ⟨wf, hwf⟩ : ∃ W, wc.alloc (.cells #[.bool false, .int .i64 N] 52) = W := ⟨_, rfl⟩
    rw [hwf] at hO2 HO x1 x2 x3 x4 mk
    clear hO hO2
    go_upto_region 37 with
      (first
       | (go_at_call 18; refine mk.mono ?_; rintro e w5 ⟨rfl, hB5, hR5⟩
          have hO5 := HO.out.later hB5
          have y2 := hO5.g0
          have y3 := hO5.g1
          have y4 := hO5.g2
          have co := comes3_any (T := T) (N := N) (hO5.rules.mono hO5.below.size) HM.out
          have HO5 : Hid (O8 w T N (some ⟨b0, o0, none⟩) rc R ⟨5, a, b, c⟩ rb g d Lf l w5) := hO5
          have HR5 : Hid (RowB w5 (wf.heap.size + 1) (wf.heap.size + 1) N (makesA R N)) := hR5
          clear hB5 hR5 hO5 mk)
       | (go_at_call 19; refine co.mono ?_; rintro e w6 ⟨cg, rfl, hB6, hR6⟩
          have hO6 := HO5.out.later hB6
          have HO6 : Hid (O8 w T N (some ⟨b0, o0, none⟩) rc R ⟨5, a, b, c⟩ rb g d Lf l w6) := hO6
          have HX6 : Hid (RowB w6 (wf.heap.size + 1) (wf.heap.size + 1) N (makesA R N)) := HR5.out.below hB6
          have HY6 : Hid (RowB w6 w5.heap.size cg N (comesA R N)) := hR6
          clear hB6 hR6 hO6 co))
    clear hwf x0 x1 x2 x3 x4 y2 y3 y4
    obtain ⟨X, hX⟩ : ∃ X, makesA R N = X := ⟨_, rfl⟩
    obtain ⟨Y, hY⟩ : ∃ Y, comesA R N = Y := ⟨_, rfl⟩
    have HNe : Hid (needB N R ((Lf : Int), l) = (X.getD Lf false && Y.getD Lf false && allB X l)) := by
      show needB N R ((Lf : Int), l) = _
      unfold needB
      rw [hX, hY]
      simp
    rw [hX] at HX6
    rw [hY] at HY6
    clear hX hY
    have q0 := HO6.out.r0
    have q1 := HO6.out.r1
    rw [HN.out] at q1
    have m0 := (HX6.out.cell (m := Lf) hLf).1
    have m1 := (HY6.out.cell (m := Lf) hLf).1
    obtain ⟨p1, hp1⟩ : ∃ z, X.getD Lf false = z := ⟨_, rfl⟩
    obtain ⟨p2, hp2⟩ : ∃ z, Y.getD Lf false = z := ⟨_, rfl⟩
    rw [hp1] at m0 HNe
    rw [hp2] at m1 HNe
    have j0 : (0 : Int) ≤ (Lf : Int) := Int.natCast_nonneg _
    have j1 : (Lf : Int) < (N : Int) := by omega
    clear hp1 hp2
    obtain ⟨nd, hnd⟩ : ∃ z, (p1 && p2) = z := ⟨_, rfl⟩
    have HNd : Hid ((p1 && p2) = nd) := hnd
    rw [hnd] at HNe
    clear hnd
    go_cut [16] from 187 to 229 (fun s16 wx => s16 = .bool nd ∧ wx = w6)
    case first =>
      have HE := HNd.out
      cases p1 <;> cases p2 <;>
        (simp at HE
         subst HE
         clear HNd
         go_wp2_with fail
         go_meet
         case rel => exact ⟨rfl, rfl⟩)
    case rest =>
      obtain ⟨rfl, hwc6⟩ := hcut
      subst hwc6
      clear m0 m1 HNd
      go_wp2_with fail
      go_loopw [16, 17] (fun s16 s17 wr => ∃ i : Nat, s16 = .bool (nd && allB X (l.take i)) ∧ s17 = .int .i64 i ∧ i ≤ n ∧ wr = wc) (fun _ s _ => n - (intOf s).toNat)
      case atStart => exact ⟨0, by simp [allB], rfl, Nat.zero_le _, rfl⟩
      case round =>
        obtain ⟨i, rfl, rfl, hi, hwr⟩ := hrel
        subst hwr
        have q1 := HO6.out.r1
        rw [HN.out] at q1
        obtain ⟨z, hz⟩ : ∃ z, (nd && allB X (l.take i)) = z := ⟨_, rfl⟩
        have HZ : Hid ((nd && allB X (l.take i)) = z) := hz
        rw [hz]
        clear hz
        by_cases hlt : i < n
        · have hli : i < l.length := by rw [HN.out]; exact hlt
          obtain ⟨b1, o1, c1, hv1, y1, y2⟩ := HO6.out.syms.2 i hli
          cases hv1
          simp only [Nat.zero_add] at y1 y2
          have hstp := allB_take X l i hli
          have hsm := HSy5.out (l.getD i (false, 0)) (by simp [List.getD, hli])
          obtain ⟨⟨t, v⟩, hx⟩ : ∃ x, l.getD i (false, 0) = x := ⟨_, rfl⟩
          rw [hx] at y1 y2 hstp hsm
          simp only at y1 y2 hstp hsm
          have HStp : Hid (allB X (l.take (i + 1)) = (allB X (l.take i) && (t || X.getD v.toNat false))) := hstp
          have i2 : (0 : Int) ≤ (i : Int) := Int.natCast_nonneg _
          have i3 : (i : Int) < (n : Int) := by omega
          clear hx hstp
          cases z with
          | false =>
            go_wp2_with fail
            go_roundw
            case rel => exact ⟨i + 1, by rw [HStp.out, ← Bool.and_assoc, HZ.out]; rfl, by go_num, by omega, trivial⟩
            case measure => simp [intOf]; omega
          | true =>
            cases t with
            | true =>
              go_wp2_with fail
              go_roundw
              case rel => exact ⟨i + 1, by rw [HStp.out, ← Bool.and_assoc, HZ.out]; rfl, by go_num, by omega, trivial⟩
              case measure => simp [intOf]; omega
            | false =>
              obtain ⟨vn, rfl⟩ : ∃ vn : Nat, v = (vn : Int) := ⟨v.toNat, by have := (hsm rfl).1; omega⟩
              have hvn : vn < N := by have := (hsm rfl).2; omega
              have m2 := (HX6.out.cell (m := vn) hvn).1
              have j2 : (0 : Int) ≤ (vn : Int) := Int.natCast_nonneg _
              have j3 : (vn : Int) < (N : Int) := by omega
              rw [Int.toNat_natCast] at HStp
              obtain ⟨p3, hp3⟩ : ∃ z, X.getD vn false = z := ⟨_, rfl⟩
              rw [hp3] at m2 HStp
              clear hp3 hsm
              go_wp2_with fail
              go_roundw
              case rel => exact ⟨i + 1, by rw [HStp.out, ← Bool.and_assoc, HZ.out]; simp, by go_num, by omega, trivial⟩
              case measure => simp [intOf]; omega
        · obtain rfl : i = n := by omega
          have HNe2 : Hid (needB N R ((Lf : Int), l) = z) := by
            show needB N R ((Lf : Int), l) = z
            rw [HNe.out, ← HZ.out, List.take_of_length_le (by rw [HN.out]; omega)]
          have q0 := HO6.out.r0
          cases z with
          | false =>
            go_wp2_with fail
            go_ret
            refine ⟨_, [], rfl, rlIn_nil _ _, ?_, HO6.out.below⟩
            unfold oneR
            simp only [HRu.out, HNe2.out]
            rfl
          | true =>
            go_wp2_with fail
            go_ret
            have ho := HO6.out.out
            rw [HN.out] at ho
            refine ⟨_, _, rfl, ho.1, ?_, ho.2⟩
            unfold oneR
            simp only [HRu.out, HNe2.out]
            rfl

end Go.Proofs.Ytikjekfpgklbdaa
