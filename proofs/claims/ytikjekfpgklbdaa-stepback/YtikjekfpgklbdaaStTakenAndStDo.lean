import Derived.Test.YtikjekfpgklbdaaStOutLAndStOut
import Derived.Test.YtikjekfpgklbdaaTrIbAndTrOn
import Derived.Test.YtikjekfpgklbdaaTrLb
/- The contracts of package step's taken and Do. -/
namespace Go.Proofs.Ytikjekfpgklbdaa
open Go.RowKit

/-- The grammar's box, the step's, the result's; the grammar's rules. -/
structure TBox (w : World) (T N : Int) (ra : Option Addr) (rc : Nat) (R : List Ru) (s : Stp) (wq : World) : Prop where
  g : wq.heap[w.heap.size]? = some (.cells #[.int .i64 T, .int .i64 N, .slice ra R.length rc] 24 (0, 0))
  s : wq.heap[w.heap.size + 1]? = some (.cells #[.int .i64 s.op, .int .i64 s.a, .int .i64 s.b, .int .i64 s.c] 26 (0, 0))
  r : wq.heap[w.heap.size + 2]? = some (.cells #[.int .i64 0, .int .i64 0, .slice none 0 0] 24 (0, 0))
  rules : RulesAt wq w.heap.size (.slice ra R.length rc) R
  below : Below w.heap.size w wq

section
variable {w wq w' : World} {T N : Int} {ra : Option Addr} {rc : Nat} {R : List Ru} {s : Stp}
theorem TBox.size (h : TBox w T N ra rc R s wq) : w.heap.size + 3 ≤ wq.heap.size := by
  have := (Array.getElem?_eq_some_iff.1 h.r).1
  omega
theorem TBox.next (h : TBox w T N ra rc R s wq) (hb : Below wq.heap.size wq w') : TBox w T N ra rc R s w' := by
  have hz := h.size
  exact ⟨(hb.block _ (by omega)).trans h.g, (hb.block _ (by omega)).trans h.s, (hb.block _ (by omega)).trans h.r, h.rules.below (hb.mono (by omega)), h.below.trans (hb.mono (by omega))⟩
theorem TBox.all (h : TBox w T N ra rc R s wq) : RulesAt wq wq.heap.size (.slice ra R.length rc) R := h.rules.mono h.below.size
theorem TBox.g0 (h : TBox w T N ra rc R s wq) : wq.cell? ⟨w.heap.size, 0, none⟩ = some (.int .i64 T) := cell_of_blk h.g rfl
theorem TBox.g1 (h : TBox w T N ra rc R s wq) : wq.cell? ⟨w.heap.size, 1, none⟩ = some (.int .i64 N) := cell_of_blk h.g rfl
theorem TBox.g2 (h : TBox w T N ra rc R s wq) : wq.cell? ⟨w.heap.size, 2, none⟩ = some (.slice ra R.length rc) := cell_of_blk h.g rfl
theorem TBox.s0 (h : TBox w T N ra rc R s wq) : wq.cell? ⟨w.heap.size + 1, 0, none⟩ = some (.int .i64 s.op) := cell_of_blk h.s rfl
theorem TBox.s1 (h : TBox w T N ra rc R s wq) : wq.cell? ⟨w.heap.size + 1, 1, none⟩ = some (.int .i64 s.a) := cell_of_blk h.s rfl
theorem TBox.s2 (h : TBox w T N ra rc R s wq) : wq.cell? ⟨w.heap.size + 1, 2, none⟩ = some (.int .i64 s.b) := cell_of_blk h.s rfl
theorem TBox.s3 (h : TBox w T N ra rc R s wq) : wq.cell? ⟨w.heap.size + 1, 3, none⟩ = some (.int .i64 s.c) := cell_of_blk h.s rfl
theorem TBox.y0 (h : TBox w T N ra rc R s wq) : wq.cell? ⟨w.heap.size + 2, 0, none⟩ = some (.int .i64 0) := cell_of_blk h.r rfl
theorem TBox.y1 (h : TBox w T N ra rc R s wq) : wq.cell? ⟨w.heap.size + 2, 1, none⟩ = some (.int .i64 0) := cell_of_blk h.r rfl
theorem TBox.y2 (h : TBox w T N ra rc R s wq) : wq.cell? ⟨w.heap.size + 2, 2, none⟩ = some (.slice none 0 0) := cell_of_blk h.r rfl
theorem TBox.yf (h : TBox w T N ra rc R s wq) (o : Nat) : wq.frozen? ⟨w.heap.size + 2, o, none⟩ = false := frozen_of_blk h.r
theorem TBox.set (h : TBox w T N ra rc R s wq) (v0 v1 v2 : Value) : Below w.heap.size w (((wq.setCell ⟨w.heap.size + 2, 0, none⟩ v0).setCell ⟨w.heap.size + 2, 1, none⟩ v1).setCell ⟨w.heap.size + 2, 2, none⟩ v2) :=
  ((h.below.setCell (by simp) _).setCell (by simp) _).setCell (by simp) _
theorem tbox_start (hr : RulesAt w w.heap.size (.slice ra R.length rc) R) : TBox w T N ra rc R s (((w.alloc (.cells #[.int .i64 T, .int .i64 N, .slice ra R.length rc] 24)).alloc (.cells #[.int .i64 s.op, .int .i64 s.a, .int .i64 s.b, .int .i64 s.c] 26)).alloc (.cells #[.int .i64 0, .int .i64 0, .slice none 0 0] 24)) := by
  obtain ⟨w1, hw1⟩ : ∃ W, w.alloc (.cells #[.int .i64 T, .int .i64 N, .slice ra R.length rc] 24) = W := ⟨_, rfl⟩
  have b1 : Below w.heap.size w w1 := by rw [← hw1]; exact (Below.refl _ _).alloc (Nat.le_refl _) _
  have z1 : w1.heap.size = w.heap.size + 1 := by rw [← hw1]; simp
  have c1 : w1.heap[w.heap.size]? = some (.cells #[.int .i64 T, .int .i64 N, .slice ra R.length rc] 24 (0, 0)) := by rw [← hw1]; exact heap_alloc_new _ _
  rw [hw1]
  obtain ⟨w2, hw2⟩ : ∃ W, w1.alloc (.cells #[.int .i64 s.op, .int .i64 s.a, .int .i64 s.b, .int .i64 s.c] 26) = W := ⟨_, rfl⟩
  have b2 : Below w1.heap.size w1 w2 := by rw [← hw2]; exact (Below.refl _ _).alloc (Nat.le_refl _) _
  have z2 : w2.heap.size = w.heap.size + 2 := by rw [← hw2]; simp [z1]
  have c2 : w2.heap[w1.heap.size]? = some (.cells #[.int .i64 s.op, .int .i64 s.a, .int .i64 s.b, .int .i64 s.c] 26 (0, 0)) := by rw [← hw2]; exact heap_alloc_new _ _
  rw [hw2]
  obtain ⟨w3, hw3⟩ : ∃ W, w2.alloc (.cells #[.int .i64 0, .int .i64 0, .slice none 0 0] 24) = W := ⟨_, rfl⟩
  have b3 : Below w2.heap.size w2 w3 := by rw [← hw3]; exact (Below.refl _ _).alloc (Nat.le_refl _) _
  have c3 : w3.heap[w2.heap.size]? = some (.cells #[.int .i64 0, .int .i64 0, .slice none 0 0] 24 (0, 0)) := by rw [← hw3]; exact heap_alloc_new _ _
  rw [hw3]
  rw [z1] at c2
  rw [z2] at c3
  have hB : Below w.heap.size w w3 := b1.trans ((b2.mono b1.size).trans (b3.mono (by omega)))
  exact ⟨(b3.block _ (by omega)).trans ((b2.block _ (by omega)).trans c1), (b3.block _ (by omega)).trans c2, c3, hr.below hB, hB⟩
end

set_option maxRecDepth 100000 in
set_option maxHeartbeats 3200000 in
theorem taken_form {w : World} {T N : Int} {ra : Option Addr} {rc : Nat} {R : List Ru} (hr : RulesAt w w.heap.size (.slice ra R.length rc) R) (hm : mayB T N R = false) (s : Stp) :
    Calls Try.prog 13 #[.agg #[.int .i64 T, .int .i64 N, .slice ra R.length rc], .agg #[.int .i64 s.op, .int .i64 s.a, .int .i64 s.b, .int .i64 s.c]] w fun e w' => e = .returned (.tuple #[.nilIface, .agg #[.int .i64 0, .int .i64 0, .slice none 0 0], .int .i64 2]) ∧ Below w.heap.size w w' := by
  obtain ⟨W0, hW0⟩ : ∃ W, ((w.alloc (.cells #[.int .i64 T, .int .i64 N, .slice ra R.length rc] 24)).alloc (.cells #[.int .i64 s.op, .int .i64 s.a, .int .i64 s.b, .int .i64 s.c] 26)).alloc (.cells #[.int .i64 0, .int .i64 0, .slice none 0 0] 24) = W := ⟨_, rfl⟩
  have hT0 := tbox_start (T := T) (N := N) (s := s) hr
  rw [hW0] at hT0
  have HT : Hid (TBox w T N ra rc R s W0) := hT0
  have may := mayG_any (w := W0) (T := T) (N := N) hT0.all
  rw [hm] at may
  have g0 := hT0.g0
  have g1 := hT0.g1
  have g2 := hT0.g2
  clear hr hm hT0
  go_enter Try.func13, Try.ntmps13
  go_wp2_with
    (go_at_call 20; refine may.mono ?_; rintro e w2 ⟨rfl, hB2⟩
     have hTz := HT.out.next hB2
     have y0 := hTz.y0
     have y1 := hTz.y1
     have y2 := hTz.y2
     have yf0 := hTz.yf 0
     have yf1 := hTz.yf 1
     have yf2 := hTz.yf 2
     have HTz : Hid (TBox w T N ra rc R s w2) := hTz
     clear hTz hB2 may)
  have q0 := box3_0 (v0 := .int .i64 0) (v1 := .int .i64 0) (v2 := .slice none 0 0) y0
  have q1 := box3_1 (v0 := .int .i64 0) (v1 := .int .i64 0) (v2 := .slice none 0 0) y1
  have q2 := box3_2 (v0 := .int .i64 0) (v1 := .int .i64 0) (v2 := .slice none 0 0) y2
  refine bodyPost_ret (v := .tuple #[.nilIface, .agg #[.int .i64 0, .int .i64 0, .slice none 0 0], .int .i64 2]) (by simp [results, Try.results13, go_sem, q0, q1, q2]) rfl ?_
  exact ⟨rfl, HTz.out.set _ _ _⟩

set_option maxRecDepth 100000 in
set_option maxHeartbeats 3200000 in
theorem taken_step {w : World} {T N : Nat} {ra : Option Addr} {rc : Nat} {R : List Ru} (hr : RulesAt w w.heap.size (.slice ra R.length rc) R) (hm : mayB T N R = true) (s : Stp) (hs : stepB N R s = false) :
    Calls Try.prog 13 #[.agg #[.int .i64 T, .int .i64 N, .slice ra R.length rc], .agg #[.int .i64 s.op, .int .i64 s.a, .int .i64 s.b, .int .i64 s.c]] w fun e w' => e = .returned (.tuple #[.nilIface, .agg #[.int .i64 0, .int .i64 0, .slice none 0 0], .int .i64 2]) ∧ Below w.heap.size w w' := by
  obtain ⟨W0, hW0⟩ : ∃ W, ((w.alloc (.cells #[.int .i64 T, .int .i64 N, .slice ra R.length rc] 24)).alloc (.cells #[.int .i64 s.op, .int .i64 s.a, .int .i64 s.b, .int .i64 s.c] 26)).alloc (.cells #[.int .i64 0, .int .i64 0, .slice none 0 0] 24) = W := ⟨_, rfl⟩
  have hT0 := tbox_start (T := T) (N := N) (s := s) hr
  rw [hW0] at hT0
  have HT : Hid (TBox w T N ra rc R s W0) := hT0
  have may := mayG_any (w := W0) (T := T) (N := N) hT0.all
  rw [hm] at may
  have g0 := hT0.g0
  have g1 := hT0.g1
  have g2 := hT0.g2
  have HMay : Hid (mayB T N R = true) := hm
  have HS : Hid (stepB N R s = false) := hs
  clear hr hm hT0 hs
  go_enter Try.func13, Try.ntmps13
  go_wp2_with
    (first
     | (go_at_call 20; refine may.mono ?_; rintro e w2 ⟨rfl, hB2⟩
        have hT2 := HT.out.next hB2
        have v0 := hT2.g0
        have v1 := hT2.g1
        have v2 := hT2.g2
        have v3 := hT2.s0
        have v4 := hT2.s1
        have v5 := hT2.s2
        have v6 := hT2.s3
        have HT2 : Hid (TBox w T N ra rc R s w2) := hT2
        have ch := st_changeOf hT2.all HMay.out s
        rw [HS.out] at ch
        clear may hB2 hT2 g0 g1 g2 hW0)
     | (go_at_call 21; refine ch.mono ?_; rintro e w3 ⟨cv, rfl, _, hB3⟩
        have hTz := HT2.out.next hB3
        have y0 := hTz.y0
        have y1 := hTz.y1
        have y2 := hTz.y2
        have yf0 := hTz.yf 0
        have yf1 := hTz.yf 1
        have yf2 := hTz.yf 2
        have HTz : Hid (TBox w T N ra rc R s w3) := hTz
        clear ch hTz hB3 v0 v1 v2 v3 v4 v5 v6))
  have q0 := box3_0 (v0 := .int .i64 0) (v1 := .int .i64 0) (v2 := .slice none 0 0) y0
  have q1 := box3_1 (v0 := .int .i64 0) (v1 := .int .i64 0) (v2 := .slice none 0 0) y1
  have q2 := box3_2 (v0 := .int .i64 0) (v1 := .int .i64 0) (v2 := .slice none 0 0) y2
  refine bodyPost_ret (v := .tuple #[.nilIface, .agg #[.int .i64 0, .int .i64 0, .slice none 0 0], .int .i64 2]) (by simp [results, Try.results13, go_sem, q0, q1, q2]) rfl ?_
  exact ⟨rfl, HTz.out.set _ _ _⟩

set_option maxRecDepth 100000 in
set_option maxHeartbeats 3200000 in
theorem taken_size {w : World} {T N : Nat} {ra : Option Addr} {rc : Nat} {R : List Ru} (hr : RulesAt w w.heap.size (.slice ra R.length rc) R) (hm : mayB T N R = true) (s : Stp) (hs : stepB N R s = true) (hz : mayB T (doN N s : Nat) (doR N R s) = false) :
    Calls Try.prog 13 #[.agg #[.int .i64 T, .int .i64 N, .slice ra R.length rc], .agg #[.int .i64 s.op, .int .i64 s.a, .int .i64 s.b, .int .i64 s.c]] w fun e w' => e = .returned (.tuple #[.nilIface, .agg #[.int .i64 0, .int .i64 0, .slice none 0 0], .int .i64 1]) ∧ Below w.heap.size w w' := by
  obtain ⟨W0, hW0⟩ : ∃ W, ((w.alloc (.cells #[.int .i64 T, .int .i64 N, .slice ra R.length rc] 24)).alloc (.cells #[.int .i64 s.op, .int .i64 s.a, .int .i64 s.b, .int .i64 s.c] 26)).alloc (.cells #[.int .i64 0, .int .i64 0, .slice none 0 0] 24) = W := ⟨_, rfl⟩
  have hT0 := tbox_start (T := T) (N := N) (s := s) hr
  rw [hW0] at hT0
  have HT : Hid (TBox w T N ra rc R s W0) := hT0
  have may := mayG_any (w := W0) (T := T) (N := N) hT0.all
  rw [hm] at may
  have g0 := hT0.g0
  have g1 := hT0.g1
  have g2 := hT0.g2
  have HMay : Hid (mayB T N R = true) := hm
  have HS : Hid (stepB N R s = true) := hs
  have HZ : Hid (mayB T (doN N s : Nat) (doR N R s) = false) := hz
  obtain ⟨M, hM⟩ : ∃ M, doN N s = M := ⟨_, rfl⟩
  rw [hM] at HZ
  have HM : Hid (doN N s = M) := hM
  clear hr hm hT0 hs hz hM
  go_enter Try.func13, Try.ntmps13
  go_wp2_with
    (first
     | (go_at_call 20; refine may.mono ?_; rintro e w2 ⟨rfl, hB2⟩
        have hT2 := HT.out.next hB2
        have v0 := hT2.g0
        have v1 := hT2.g1
        have v2 := hT2.g2
        have v3 := hT2.s0
        have v4 := hT2.s1
        have v5 := hT2.s2
        have v6 := hT2.s3
        have HT2 : Hid (TBox w T N ra rc R s w2) := hT2
        have ch := st_changeOf hT2.all HMay.out s
        rw [HS.out] at ch
        clear may hB2 hT2 g0 g1 g2 hW0)
     | (go_at_call 21; refine ch.mono ?_; rintro e w3 ⟨cv, rfl, hcv, hB3⟩
        have hT3 := HT2.out.next hB3
        obtain ⟨ty, v, fn, hcf, hme, hfn, out⟩ := chg_out (by first | exact hcv rfl | exact hcv trivial) hT3.all HMay.out HS.out
        rw [HM.out] at out
        subst hcf
        have HT3 : Hid (TBox w T N ra rc R s w3) := hT3
        have hTc := (by first | exact hcv rfl | exact hcv trivial : ChgAt w3 w2.heap.size T N ra rc R s (.iface ty v))
        have HCv : Hid (ChgAt w3 w2.heap.size T N ra rc R s (.iface ty v)) := hTc
        clear ch hT3 hB3 hcv hTc v0 v1 v2 v3 v4 v5 v6)
     | (refine out.mono ?_; rintro e w4 ⟨lv, RL, rfl, hR4, hmap, hB4⟩
        have hB5 : Below w3.heap.size w3 (w4.alloc (.cells #[.int .i64 T, .int .i64 M, lv] 24)) := hB4.alloc hB4.size _
        have hR5 := hR4.below ((Below.refl _ _).alloc (Nat.le_refl _) (.cells #[.int .i64 T, .int .i64 M, lv] 24))
        have hT5 := HT3.out.next hB5
        have hb5 := heap_alloc_new w4 (.cells #[.int .i64 T, .int .i64 M, lv] 24)
        have HR5 : Hid (RlIn (w4.alloc (.cells #[.int .i64 T, .int .i64 M, lv] 24)) w3.heap.size lv RL ∧ (RL.map fun x => x.2) = doR N R s ∧ TBox w T N ra rc R s (w4.alloc (.cells #[.int .i64 T, .int .i64 M, lv] 24)) ∧ (w4.alloc (.cells #[.int .i64 T, .int .i64 M, lv] 24)).heap[w4.heap.size]? = some (.cells #[.int .i64 T, .int .i64 M, lv] 24 (0, 0)) ∧ ChgAt (w4.alloc (.cells #[.int .i64 T, .int .i64 M, lv] 24)) w2.heap.size T N ra rc R s (.iface ty v) ∧ w3.heap.size ≤ w4.heap.size) := ⟨hR5, hmap, hT5, hb5, HCv.out.next hB5, hB4.size⟩
        obtain ⟨la, lc, hlv⟩ := own_form hR5.own
        subst hlv
        have may2 := mayG_any (w := w4.alloc (.cells #[.int .i64 T, .int .i64 M, .slice la RL.length lc] 24)) (T := T) (N := M) hR5.rules
        rw [hmap, HZ.out] at may2
        clear out hR4 hmap hB4 hB5 hR5 hT5 hb5 hme hfn)
     | (go_at_call 20; refine may2.mono ?_; rintro e w6 ⟨rfl, hB6⟩
        have hTz := HR5.out.2.2.1.next hB6
        have y0 := hTz.y0
        have y1 := hTz.y1
        have y2 := hTz.y2
        have yf0 := hTz.yf 0
        have yf1 := hTz.yf 1
        have yf2 := hTz.yf 2
        have HTz : Hid (TBox w T N ra rc R s w6) := hTz
        clear may2 hTz hB6))
  have q0 := box3_0 (v0 := .int .i64 0) (v1 := .int .i64 0) (v2 := .slice none 0 0) y0
  have q1 := box3_1 (v0 := .int .i64 0) (v1 := .int .i64 0) (v2 := .slice none 0 0) y1
  have q2 := box3_2 (v0 := .int .i64 0) (v1 := .int .i64 0) (v2 := .slice none 0 0) y2
  refine bodyPost_ret (v := .tuple #[.nilIface, .agg #[.int .i64 0, .int .i64 0, .slice none 0 0], .int .i64 1]) (by simp [results, Try.results13, go_sem, q0, q1, q2]) rfl ?_
  exact ⟨rfl, HTz.out.set _ _ _⟩

set_option maxRecDepth 100000 in
set_option maxHeartbeats 3200000 in
theorem taken_yes {w : World} {T N : Nat} {ra : Option Addr} {rc : Nat} {R : List Ru} (hr : RulesAt w w.heap.size (.slice ra R.length rc) R) (hm : mayB T N R = true) (s : Stp) (hs : stepB N R s = true) (hz : mayB T (doN N s : Nat) (doR N R s) = true) :
    Calls Try.prog 13 #[.agg #[.int .i64 T, .int .i64 N, .slice ra R.length rc], .agg #[.int .i64 s.op, .int .i64 s.a, .int .i64 s.b, .int .i64 s.c]] w fun e w' => ∃ cv lv RL, e = .returned (.tuple #[cv, .agg #[.int .i64 T, .int .i64 (doN N s : Nat), lv], .int .i64 0]) ∧ ChgAt w' w.heap.size T N ra rc R s cv ∧ RlIn w' w.heap.size lv RL ∧ (RL.map fun x => x.2) = doR N R s ∧ Below w.heap.size w w' := by
  obtain ⟨W0, hW0⟩ : ∃ W, ((w.alloc (.cells #[.int .i64 T, .int .i64 N, .slice ra R.length rc] 24)).alloc (.cells #[.int .i64 s.op, .int .i64 s.a, .int .i64 s.b, .int .i64 s.c] 26)).alloc (.cells #[.int .i64 0, .int .i64 0, .slice none 0 0] 24) = W := ⟨_, rfl⟩
  have hT0 := tbox_start (T := T) (N := N) (s := s) hr
  rw [hW0] at hT0
  have HT : Hid (TBox w T N ra rc R s W0) := hT0
  have may := mayG_any (w := W0) (T := T) (N := N) hT0.all
  rw [hm] at may
  have g0 := hT0.g0
  have g1 := hT0.g1
  have g2 := hT0.g2
  have HMay : Hid (mayB T N R = true) := hm
  have HS : Hid (stepB N R s = true) := hs
  have HZ : Hid (mayB T (doN N s : Nat) (doR N R s) = true) := hz
  obtain ⟨M, hM⟩ : ∃ M, doN N s = M := ⟨_, rfl⟩
  rw [hM] at HZ ⊢
  have HM : Hid (doN N s = M) := hM
  clear hr hm hT0 hs hz hM
  go_enter Try.func13, Try.ntmps13
  go_wp2_with
    (first
     | (go_at_call 20; refine may.mono ?_; rintro e w2 ⟨rfl, hB2⟩
        have hT2 := HT.out.next hB2
        have v0 := hT2.g0
        have v1 := hT2.g1
        have v2 := hT2.g2
        have v3 := hT2.s0
        have v4 := hT2.s1
        have v5 := hT2.s2
        have v6 := hT2.s3
        have HT2 : Hid (TBox w T N ra rc R s w2) := hT2
        have ch := st_changeOf hT2.all HMay.out s
        rw [HS.out] at ch
        clear may hB2 hT2 g0 g1 g2 hW0)
     | (go_at_call 21; refine ch.mono ?_; rintro e w3 ⟨cv, rfl, hcv, hB3⟩
        have hT3 := HT2.out.next hB3
        obtain ⟨ty, v, fn, hcf, hme, hfn, out⟩ := chg_out (by first | exact hcv rfl | exact hcv trivial) hT3.all HMay.out HS.out
        rw [HM.out] at out
        subst hcf
        have HT3 : Hid (TBox w T N ra rc R s w3) := hT3
        have hTc := (by first | exact hcv rfl | exact hcv trivial : ChgAt w3 w2.heap.size T N ra rc R s (.iface ty v))
        have HCv : Hid (ChgAt w3 w2.heap.size T N ra rc R s (.iface ty v)) := hTc
        clear ch hT3 hB3 hcv hTc v0 v1 v2 v3 v4 v5 v6)
     | (refine out.mono ?_; rintro e w4 ⟨lv, RL, rfl, hR4, hmap, hB4⟩
        have hB5 : Below w3.heap.size w3 (w4.alloc (.cells #[.int .i64 T, .int .i64 M, lv] 24)) := hB4.alloc hB4.size _
        have hR5 := hR4.below ((Below.refl _ _).alloc (Nat.le_refl _) (.cells #[.int .i64 T, .int .i64 M, lv] 24))
        have hT5 := HT3.out.next hB5
        have hb5 := heap_alloc_new w4 (.cells #[.int .i64 T, .int .i64 M, lv] 24)
        have HR5 : Hid (RlIn (w4.alloc (.cells #[.int .i64 T, .int .i64 M, lv] 24)) w3.heap.size lv RL ∧ (RL.map fun x => x.2) = doR N R s ∧ TBox w T N ra rc R s (w4.alloc (.cells #[.int .i64 T, .int .i64 M, lv] 24)) ∧ (w4.alloc (.cells #[.int .i64 T, .int .i64 M, lv] 24)).heap[w4.heap.size]? = some (.cells #[.int .i64 T, .int .i64 M, lv] 24 (0, 0)) ∧ ChgAt (w4.alloc (.cells #[.int .i64 T, .int .i64 M, lv] 24)) w2.heap.size T N ra rc R s (.iface ty v) ∧ w3.heap.size ≤ w4.heap.size) := ⟨hR5, hmap, hT5, hb5, HCv.out.next hB5, hB4.size⟩
        obtain ⟨la, lc, hlv⟩ := own_form hR5.own
        subst hlv
        have may2 := mayG_any (w := w4.alloc (.cells #[.int .i64 T, .int .i64 M, .slice la RL.length lc] 24)) (T := T) (N := M) hR5.rules
        rw [hmap, HZ.out] at may2
        clear out hR4 hmap hB4 hB5 hR5 hT5 hb5 hme hfn)
     | (go_at_call 20; refine may2.mono ?_; rintro e w6 ⟨rfl, hB6⟩
        have HB6 : Hid (Below (w4.alloc (.cells #[.int .i64 T, .int .i64 M, .slice la RL.length lc] 24)).heap.size (w4.alloc (.cells #[.int .i64 T, .int .i64 M, .slice la RL.length lc] 24)) w6) := hB6
        clear may2 hB6))
  have hT6 := HR5.out.2.2.1.next HB6.out
  have hR6 := HR5.out.1.below HB6.out
  have hC6 := HR5.out.2.2.2.2.1.next HB6.out
  have hlo2 : w.heap.size + 3 ≤ w2.heap.size := HT2.out.size
  have hw34 := HR5.out.2.2.2.2.2
  have hob := (HB6.out.block w4.heap.size (by simp)).trans HR5.out.2.2.2.1
  obtain ⟨ob, hobe⟩ : ∃ x, w4.heap.size = x := ⟨_, rfl⟩
  rw [hobe] at hob ⊢
  have HM5 : Hid ((RL.map fun x => x.2) = doR N R s) := HR5.out.2.1
  have hlo : w.heap.size + 3 ≤ w3.heap.size := HT3.out.size
  obtain ⟨Wd, hWd⟩ : ∃ W, w6.drew = W := ⟨_, rfl⟩
  have hBd : Below w6.heap.size w6 Wd := by rw [← hWd]; exact (Below.refl _ _).drew
  have hTd := hT6.next hBd
  have hRd := hR6.below hBd
  have hCd := hC6.next hBd
  have hobd := (hBd.block ob (Array.getElem?_eq_some_iff.1 hob).1).trans hob
  have y0 := hTd.y0
  have y1 := hTd.y1
  have y2 := hTd.y2
  have yf0 := hTd.yf 0
  have yf1 := hTd.yf 1
  have yf2 := hTd.yf 2
  have o0 : Wd.cell? ⟨ob, 0, none⟩ = some (.int .i64 T) := cell_of_blk hobd rfl
  have o1 : Wd.cell? ⟨ob, 1, none⟩ = some (.int .i64 M) := cell_of_blk hobd rfl
  have o2 : Wd.cell? ⟨ob, 2, none⟩ = some (.slice la RL.length lc) := cell_of_blk hobd rfl
  have HF : Hid (TBox w T N ra rc R s Wd ∧ RlIn Wd w3.heap.size (.slice la RL.length lc) RL ∧ ChgAt Wd w2.heap.size T N ra rc R s (.iface ty v)) := ⟨hTd, hRd, hCd⟩
  have hobl : w.heap.size + 3 ≤ ob := by omega
  clear hT6 hR6 hC6 hob hobe hBd hTd hRd hCd hobd HR5 HB6
  refine wp_region_mix [0, 1] 3 4 (fun wq => wq.cell? ⟨ob, 0, none⟩ = some (.int .i64 T) ∧ wq.cell? ⟨ob, 1, none⟩ = some (.int .i64 M) ∧ wq.cell? ⟨ob, 2, none⟩ = some (.slice la RL.length lc)) (by kernel_rfl) (by kernel_rfl) (by rw [hWd]; exact ⟨o0, o1, o2⟩) ?_
  rw [hWd]
  clear hWd
  iterate 2
    refine StillI.con8 (v := ?_) rfl (by rfl) ?_ ?_
    rotate_left
    · intro w' hSw
      obtain ⟨z0, z1, z2⟩ := hSw
      go_simp
      try with_reducible rfl
    simp only [Act.put, List.setIfInBounds_toArray, List.set_cons_zero, List.set_cons_succ]
  rw [StillI]
  refine TailC.one (i := 2) (by kernel_rfl) ⟨_, rfl, fun K hK => ?_⟩
  go_simp
  refine hK.out _ _ (fun _ => ⟨o0, o1, o2⟩) ?_
  clear hK
  refine TailC.one (i := 3) (by kernel_rfl) ⟨_, rfl, fun K hK => ?_⟩
  go_simp
  refine hK.out _ _ (fun _ => ⟨?_, ?_, ?_⟩) ?_
  · rw [cell_set_other (.inl (by simp only; omega)), cell_set_other (.inl (by simp only; omega)), cell_set_other (.inl (by simp only; omega))]; exact o0
  · rw [cell_set_other (.inl (by simp only; omega)), cell_set_other (.inl (by simp only; omega)), cell_set_other (.inl (by simp only; omega))]; exact o1
  · rw [cell_set_other (.inl (by simp only; omega)), cell_set_other (.inl (by simp only; omega)), cell_set_other (.inl (by simp only; omega))]; exact o2
  clear hK
  refine TailC.last (i := 4) (by kernel_rfl) ⟨_, rfl, fun K hK => ?_⟩
  go_simp
  refine hK.out _ _ (fun h => absurd h (by omega)) (NoPanic.normal ?_)
  clear hK
  have q0 := box3_0 (v0 := .int .i64 T) (v1 := .int .i64 M) (v2 := .slice la RL.length lc) y0
  have q1 := box3_1 (v0 := .int .i64 T) (v1 := .int .i64 M) (v2 := .slice la RL.length lc) y1
  have q2 := box3_2 (v0 := .int .i64 T) (v1 := .int .i64 M) (v2 := .slice la RL.length lc) y2
  go_wp2_with fail
  refine bodyPost_ret (v := .tuple #[.iface ty v, .agg #[.int .i64 T, .int .i64 M, .slice la RL.length lc], .int .i64 0]) (by simp [results, Try.results13, go_sem, q0, q1, q2]) rfl ?_
  refine ⟨_, _, RL, rfl, ?_, ?_, HM5.out, HF.out.1.set _ _ _⟩
  · exact (((HF.out.2.2.set (by simp only; omega) _).set (by simp only; omega) _).set (by simp only; omega) _).mono (by omega)
  · exact (((HF.out.2.1.setLow (by simp only; omega) _).setLow (by simp only; omega) _).setLow (by simp only; omega) _).mono (by omega)

end Go.Proofs.Ytikjekfpgklbdaa

/- Each change's forward and back carry each derivation over, and back. No walk. -/
namespace Go.Proofs.Ytikjekfpgklbdaa
open Go.RowKit

theorem okF_allN {R : List Ru} {P : Nat → Fo → Prop} (h : ∀ q ks, q < R.length → okF R ks (namesS (R.getD q (0, [])).2) → P q ks) : ∀ (t : Fo) (ns : List Int), okF R t ns → allFo P t
  | .no, _, _ => trivial
  | .nd q ks ts, _, ⟨_, _, _, h1, _, h3, h4⟩ => ⟨h q ks h1 h3, okF_allN h ks _ h3, okF_allN h ts _ h4⟩
theorem atF_rank {p : Nat → Bool} {n q : Nat} (hq : q < n) (hp : p q = true) : AtF (idxF p n) (rankF p) q := by
  refine ⟨rank_lt hq hp, getD_some (rank_get hq hp), fun j hj e => ?_⟩
  have hl := rank_lt (p := p) hq hp
  obtain ⟨q', h1, h2, h3, h4⟩ := rank_back (p := p) (n := n) (j := j) (by omega)
  rw [getD_some h3] at e
  subst e
  omega

section
variable {T N : Nat} {R : List Ru}

theorem pr_need (hf : Fine T N R) : ∀ (t : Fo) (ns : List Int), (∀ n ∈ ns, ComesP N R n) → okF R t ns → allF (AtF (idxF (fun k => needB N R (R.getD k (0, []))) R.length) (rankF fun k => needB N R (R.getD k (0, [])))) t := by
  have hP := prune_is hf (a := 0) (b := 0) (c := 0)
  intro t
  induction t with
  | no => intro _ _ _; trivial
  | nd q ks ts ihk iht =>
    rintro ns hC ⟨n, ns', rfl, h1, h2, h3, h4⟩
    have hM := pr_makes hP _ _ h3
    have hall : AllM (MakesP N R) (R.getD q (0, [])).2 := fun x hx hb => by
      obtain ⟨t, n⟩ := x
      cases hb
      exact hM n (mem_names.2 hx)
    have hC1 : ComesP N R (R.getD q (0, [])).1 := by rw [h2]; exact hC n (List.mem_cons_self ..)
    have hn : needB N R (R.getD q (0, [])) = true := (needB_iff hf (mem_getD h1)).2 ⟨hP.makes q h1 hM, hC1, hall⟩
    obtain ⟨_, _, _, s4⟩ := hP.stays q h1 hC1 hM
    exact ⟨atF_rank (p := fun k => needB N R (R.getD k (0, []))) h1 hn, ihk _ s4 h3, iht _ (fun x hx => hC x (List.mem_cons_of_mem _ hx)) h4⟩

theorem part_sum {l : List Sy} {b c : Nat} (h : b ≤ c) : (namesS (l.take c)).length = (namesS (l.take b)).length + (namesS ((l.take c).drop b)).length := by
  have e : l.take c = l.take b ++ (l.take c).drop b := by
    conv => lhs; rw [← List.take_append_drop b (l.take c)]
    rw [List.take_take, Nat.min_eq_left h]
  conv => lhs; rw [e]
  rw [names_app, List.length_append]

/-- inline: what holds of each tree of a derivation. -/
theorem inl_P {a b c : Int} (hs : stepB N R ⟨3, a, b, c⟩ = true) (hR : R.length ≤ 40) (q : Nat) (ks : Fo) (hq : q < R.length) (hok : okF R ks (namesS (R.getD q (0, [])).2)) : InP (idxX R ⟨3, a, b, c⟩) (rankF fun k => decide ((R.getD k (0, [])).1 = nameOfX R ⟨3, a, b, c⟩)) (shX R ⟨3, a, b, c⟩) (ushX R ⟨3, a, b, c⟩) (rkX R ⟨3, a, b, c⟩) a.toNat (aheadS R ⟨3, a, b, c⟩) q ks := by
  obtain ⟨l3, h⟩ := inl_is hs
  refine ⟨by omega, fun _ => rfl, fun e => ?_⟩
  subst e
  rw [h.cut, names_app] at hok
  obtain ⟨k1, kk, rfl, c1, c2⟩ := ok_split _ _ _ hok
  obtain ⟨j, k2, k3, rfl, d1, d2, d3, d4⟩ := okF_cons c2
  have hj : j ≠ a.toNat := fun e => h.ne (by rw [← e]; exact d2)
  exact ⟨j, k2, k3, drop_app_of (ok_lenF _ _ c1), hj, (h.stays j d1 hj).2.2.1, atF_rank (p := fun k => decide ((R.getD k (0, [])).1 = nameOfX R ⟨3, a, b, c⟩)) d1 (by simpa using d2), rfl⟩
theorem inl_B {a b c : Int} (hs : stepB N R ⟨3, a, b, c⟩ = true) (hR : (doR N R ⟨3, a, b, c⟩).length ≤ 40) (q : Nat) (ks : Fo) (hq : q < (doR N R ⟨3, a, b, c⟩).length) (hok : okF (doR N R ⟨3, a, b, c⟩) ks (namesS ((doR N R ⟨3, a, b, c⟩).getD q (0, [])).2)) : InB R (idxX R ⟨3, a, b, c⟩) (ushX R ⟨3, a, b, c⟩) (isX R ⟨3, a, b, c⟩) (manyX R) a.toNat (aheadS R ⟨3, a, b, c⟩) q ks := by
  obtain ⟨l3, h⟩ := inl_is hs
  refine ⟨by omega, fun hin => ?_, fun j hin => ?_⟩
  · have hk : q < a.toNat ∨ a.toNat + (idxX R ⟨3, a, b, c⟩).length ≤ q := by
      by_cases hl : q < a.toNat
      · exact .inl hl
      · refine .inr ?_
        unfold isX at hin
        simp only at hin
        rw [if_neg hl, List.getElem?_eq_none_iff] at hin
        omega
    exact ⟨hk, hk.imp id fun h => by omega, rfl⟩
  · have hl : ¬ q < a.toNat := fun hl => by
      unfold isX at hin
      simp only at hin
      rw [if_pos hl] at hin
      cases hin
    have hin' := hin
    unfold isX at hin
    simp only at hin
    rw [if_neg hl] at hin
    have hlt := (List.getElem?_eq_some_iff.1 hin).1
    obtain ⟨q', g1, g2, g3, g4⟩ := rank_back (p := fun k => decide ((R.getD k (0, [])).1 = nameOfX R ⟨3, a, b, c⟩)) (n := R.length) (j := q - a.toNat) hlt
    have hqj : q' = j := by
      have : (idxX R ⟨3, a, b, c⟩)[q - a.toNat]? = some q' := g3
      rw [hin] at this
      injection this with this
      exact this.symm
    subst hqj
    have hjX : (R.getD q' (0, [])).1 = nameOfX R ⟨3, a, b, c⟩ := by simpa using g2
    obtain ⟨m1, m2, m3⟩ := h.made q' g1 hjX
    have hrk : rkX R ⟨3, a, b, c⟩ q' = q := by
      unfold rkX
      simp only
      rw [g4]
      omega
    rw [hrk] at m2
    rw [m2, names_app, names_app] at hok
    have hlen := ok_lenF _ _ hok
    rw [List.length_append, List.length_append] at hlen
    refine ⟨by omega, hlt, getD_some hin, ?_, g1, rfl⟩
    show (namesS ((R.getD a.toNat (0, [])).2.take b.toNat)).length + (namesS (R.getD q' (0, [])).2).length ≤ lenF ks
    omega
end

section
variable {w : World} {B T N : Nat} {ra : Option Addr} {rc : Nat} {R : List Ru} {s : Stp} {cv : Value}

/-- A change's forward. -/
theorem chg_fwd (hc : ChgAt w B T N ra rc R s cv) (hr : RulesAt w w.heap.size (.slice ra R.length rc) R) (hm : mayB T N R = true) (hs : stepB N R s = true) :
    ∃ ty v fn, cv = .iface ty v ∧ Over w ty v "pollarding/step.forward" fn (fun q ks => okF R (.nd q ks .no) [0] ∧ (flatFo ks).length ≤ 2000) (fun q ks => (headF (fwdS N R s (.nd q ks .no)), kidsF (fwdS N R s (.nd q ks .no)))) := by
  obtain ⟨hT, hN1, hN, hRl, h5⟩ := may_fine hm
  have hf := may_Fine hm
  obtain ⟨op, a, b, c⟩ := s
  rcases step_kind hs with h | h | h | h | h <;> simp only at h <;> subst h
  · refine ⟨_, _, 73, hc.swap rfl, fun n w' => by kernel_rfl, fun args w' => by simp [callFunc, Try.func73, Try.f73 ], fun w' q ks kv A hb hP hk hA => ?_⟩
    exact swap_forward hk hA
  · have hst : 0 ≤ a ∧ a < (R.length : Int) ∧ 0 ≤ b ∧ b < c ∧ c ≤ ((R.getD a.toNat (0, [])).2.length : Int) := by
      unfold stepB at hs
      simp only at hs
      rw [if_neg (by decide), if_pos trivial] at hs
      simp only [Bool.and_eq_true, decide_eq_true_eq] at hs
      omega
    have hE := extract_is hf hs
    have hsum : (namesS ((ruW R ⟨2, a, b, c⟩).2.take c.toNat)).length = aheadS R ⟨2, a, b, c⟩ + partS R ⟨2, a, b, c⟩ := part_sum (l := (ruW R ⟨2, a, b, c⟩).2) (b := b.toNat) (c := c.toNat) (by omega)
    have hcv := hc.extract rfl
    simp only at hcv
    rw [hsum] at hcv
    obtain ⟨ka, hka⟩ : ∃ x : Nat, a = x := ⟨a.toNat, by omega⟩
    refine ⟨_, _, 81, hcv, fun n w' => by kernel_rfl, fun args w' => by simp [callFunc, Try.func81, Try.f81 ], fun w' q ks kv A hb hP hk hA => ?_⟩
    have hcond : ∀ q ks, q < R.length → okF R ks (namesS (R.getD q (0, [])).2) → (q = ka → aheadS R ⟨2, a, b, c⟩ + partS R ⟨2, a, b, c⟩ ≤ lenF ks) := fun q ks hq hok e => by
      have e2 : q = a.toNat := by rw [hka]; simpa using e
      rw [e2, hE.cut, names_app, names_app] at hok
      have hlen := ok_lenF _ _ hok
      rw [List.length_append, List.length_append] at hlen
      show (namesS ((R.getD a.toNat (0, [])).2.take b.toNat)).length + (namesS (((R.getD a.toNat (0, [])).2.take c.toNat).drop b.toNat)).length ≤ lenF ks
      omega
    obtain ⟨n', ns', _, h1, h2, h3, h4⟩ := hP.1
    have := extract_forwards (T := T) (N := N) (o := 2) (b := b) (c := c) (ra := ra) (rl := R.length) (rc := rc) (fr := aheadS R ⟨2, a, b, c⟩) (m := partS R ⟨2, a, b, c⟩) (ka := ka) _ w' q ks kv A (Nat.lt_succ_self _) (hcond q ks h1 h3) (okF_allN hcond ks _ h3) hP.2 hk hA
    have e3 : a.toNat = ka := by rw [hka]; simp
    rw [← hka, ← e3] at this
    exact this
  · have hst : 0 ≤ a ∧ a < (R.length : Int) := by
      unfold stepB at hs
      simp only at hs
      rw [if_neg (by decide), if_neg (by decide), if_pos trivial] at hs
      simp only [Bool.and_eq_true, decide_eq_true_eq, Bool.not_eq_true', decide_eq_false_iff_not] at hs
      omega
    obtain ⟨ov, hcv, hO⟩ := hc.inline rfl
    simp only at hcv
    obtain ⟨ka, hka⟩ : ∃ x : Nat, a = x := ⟨a.toNat, by omega⟩
    have e3 : a.toNat = ka := by rw [hka]; simp
    refine ⟨_, _, 90, hcv, fun n w' => by kernel_rfl, fun args w' => by simp [callFunc, Try.func90, Try.f90 ], fun w' q ks kv A hb hP hk hA => ?_⟩
    obtain ⟨n', ns', _, h1, h2, h3, h4⟩ := hP.1
    have hIl : (idxX R ⟨3, a, b, c⟩).length ≤ 100000 := by
      have := idxF_len (fun k => decide ((R.getD k (0, [])).1 = nameOfX R ⟨3, a, b, c⟩)) R.length
      unfold idxX
      omega
    have := inline_forwards (w0 := w) (T := T) (N := N) (o := 3) (b := b) (c := c) (ra := ra) (rl := R.length) (rc := rc) (I := idxX R ⟨3, a, b, c⟩) hIl hO _ w' q ks kv A (Nat.lt_succ_self _) hb (inl_P hs hRl q ks h1 h3) (okF_allN (inl_P hs hRl) ks _ h3) hP.2 hk hA
    rw [e3, ← hka, ← e3] at this
    exact this
  · refine ⟨_, _, 98, hc.left rfl, fun n w' => by kernel_rfl, fun args w' => by simp [callFunc, Try.func98, Try.f98 ], fun w' q ks kv A hb hP hk hA => ?_⟩
    exact left_forwards (left_is hf hs) (fun q hq => by simp [hq]) hr _ w' q ks kv A (Nat.lt_succ_self _) hb ⟨_, hP.1⟩ hP.2 hk hA
  · obtain ⟨ov, hcv, hO⟩ := hc.prune rfl
    refine ⟨_, _, 102, hcv, fun n w' => by kernel_rfl, fun args w' => by simp [callFunc, Try.func102, Try.f102 ], fun w' q ks kv A hb hP hk hA => ?_⟩
    have hPr := prune_is hf (a := a) (b := b) (c := c)
    have hM := pr_makes hPr _ _ hP.1 0 (List.mem_singleton.2 rfl)
    have hall := pr_need hf (.nd q ks .no) [0] (fun n hn => by rw [List.mem_singleton.1 hn]; exact Lv_closed (ComesF_mono hf _) _ (.inl ⟨rfl, hM⟩)) hP.1
    have hIl : (idxF (fun k => needB N R (R.getD k (0, []))) R.length).length ≤ 100000 := by
      have := idxF_len (fun k => needB N R (R.getD k (0, []))) R.length
      omega
    exact prune_forwards hIl hO _ w' q ks kv A (Nat.lt_succ_self _) hb hall.1 hall.2.1 hP.2 hk hA

/-- A change's back. -/
theorem chg_back (hc : ChgAt w B T N ra rc R s cv) (hr : RulesAt w w.heap.size (.slice ra R.length rc) R) (hm : mayB T N R = true) (hs : stepB N R s = true) (hz : mayB T (doN N s : Nat) (doR N R s) = true) :
    ∃ ty v fn, cv = .iface ty v ∧ Over w ty v "pollarding/step.back" fn (fun q ks => okF (doR N R s) (.nd q ks .no) [0] ∧ (flatFo ks).length ≤ 2000) (fun q ks => (headF (bakS N R s (.nd q ks .no)), kidsF (bakS N R s (.nd q ks .no)))) := by
  obtain ⟨hT, hN1, hN, hRl, h5⟩ := may_fine hm
  obtain ⟨_, _, _, hRl', _⟩ := may_fine hz
  have hf := may_Fine hm
  obtain ⟨op, a, b, c⟩ := s
  rcases step_kind hs with h | h | h | h | h <;> simp only at h <;> subst h
  · refine ⟨_, _, 72, hc.swap rfl, fun n w' => by kernel_rfl, fun args w' => by simp [callFunc, Try.func72, Try.f72 ], fun w' q ks kv A hb hP hk hA => ?_⟩
    exact swap_backs hk hA
  · have hst : 0 ≤ a ∧ a < (R.length : Int) ∧ 0 ≤ b ∧ b < c ∧ c ≤ ((R.getD a.toNat (0, [])).2.length : Int) := by
      unfold stepB at hs
      simp only at hs
      rw [if_neg (by decide), if_pos trivial] at hs
      simp only [Bool.and_eq_true, decide_eq_true_eq] at hs
      omega
    have hE := extract_is hf hs
    have hcv := hc.extract rfl
    simp only at hcv
    obtain ⟨ka, hka⟩ : ∃ x : Nat, a = x := ⟨a.toNat, by omega⟩
    have e3 : a.toNat = ka := by rw [hka]; simp
    refine ⟨_, _, 80, hcv, fun n w' => by kernel_rfl, fun args w' => by simp [callFunc, Try.func80, Try.f80 ], fun w' q ks kv A hb hP hk hA => ?_⟩
    have hcond : ∀ q ks, q < (doR N R ⟨2, a, b, c⟩).length → okF (doR N R ⟨2, a, b, c⟩) ks (namesS ((doR N R ⟨2, a, b, c⟩).getD q (0, [])).2) → (q = ka → aheadS R ⟨2, a, b, c⟩ < lenF ks) := fun q ks hq hok e => by
      rw [e, ← e3, hE.here, names_app] at hok
      have hlen := ok_lenF _ _ hok
      rw [List.length_append, namesS, List.length_cons] at hlen
      show (namesS ((R.getD a.toNat (0, [])).2.take b.toNat)).length < lenF ks
      omega
    obtain ⟨n', ns', _, h1, h2, h3, h4⟩ := hP.1
    have := extract_backs (T := T) (N := N) (o := 2) (b := b) (c := c) (ra := ra) (rl := R.length) (rc := rc) (fr := aheadS R ⟨2, a, b, c⟩) (up := (namesS ((ruW R ⟨2, a, b, c⟩).2.take c.toNat)).length) (ka := ka) _ w' q ks kv A (Nat.lt_succ_self _) (hcond q ks h1 h3) (okF_allN hcond ks _ h3) hP.2 hk hA
    rw [← hka, ← e3] at this
    exact this
  · have hst : 0 ≤ a ∧ a < (R.length : Int) := by
      unfold stepB at hs
      simp only at hs
      rw [if_neg (by decide), if_neg (by decide), if_pos trivial] at hs
      simp only [Bool.and_eq_true, decide_eq_true_eq, Bool.not_eq_true', decide_eq_false_iff_not] at hs
      omega
    obtain ⟨ov, hcv, hO⟩ := hc.inline rfl
    simp only at hcv
    obtain ⟨ka, hka⟩ : ∃ x : Nat, a = x := ⟨a.toNat, by omega⟩
    have e3 : a.toNat = ka := by rw [hka]; simp
    refine ⟨_, _, 89, hcv, fun n w' => by kernel_rfl, fun args w' => by simp [callFunc, Try.func89, Try.f89 ], fun w' q ks kv A hb hP hk hA => ?_⟩
    obtain ⟨n', ns', _, h1, h2, h3, h4⟩ := hP.1
    have hIl : (idxX R ⟨3, a, b, c⟩).length ≤ 100000 := by
      have := idxF_len (fun k => decide ((R.getD k (0, [])).1 = nameOfX R ⟨3, a, b, c⟩)) R.length
      unfold idxX
      omega
    have hRm : ∀ q, (R.getD q (0, [])).2.length ≤ 1000 := fun q => by
      by_cases hq : q < R.length
      · have := (h5 q hq).2.2.1; omega
      · simp [List.getD, hq]
    have := inline_backs (w0 := w) (T := T) (N := N) (o := 3) (b := b) (c := c) (ra := ra) (rc := rc) (R := R) (I := idxX R ⟨3, a, b, c⟩) hIl (show a.toNat ≤ 100000 by omega) hO hr hRm _ w' q ks kv A (Nat.lt_succ_self _) hb (inl_B hs hRl' q ks h1 h3) (okF_allN (inl_B hs hRl') ks _ h3) hP.2 hk hA
    rw [e3, ← hka, ← e3] at this
    exact this
  · refine ⟨_, _, 97, hc.left rfl, fun n w' => by kernel_rfl, fun args w' => by simp [callFunc, Try.func97, Try.f97 ], fun w' q ks kv A hb hP hk hA => ?_⟩
    exact left_backs (left_is hf hs) hr _ w' q ks kv A (Nat.lt_succ_self _) hb ⟨0, by omega, hP.1⟩ hP.2 hk hA
  · obtain ⟨ov, hcv, hO⟩ := hc.prune rfl
    refine ⟨_, _, 101, hcv, fun n w' => by kernel_rfl, fun args w' => by simp [callFunc, Try.func101, Try.f101 ], fun w' q ks kv A hb hP hk hA => ?_⟩
    have hlen : (doR N R ⟨5, a, b, c⟩).length = (idxF (fun k => needB N R (R.getD k (0, []))) R.length).length := by
      have hl : lastR N R ⟨5, a, b, c⟩ = [] := by unfold lastR; simp only; rw [if_neg (by decide), if_neg (by decide)]
      have hd : doR N R ⟨5, a, b, c⟩ = (idxF (fun k => needB N R (R.getD k (0, []))) R.length).map fun k => R.getD k (0, []) := by
        unfold doR idxF
        rw [hl, List.append_nil, ← flatMap_pick]
        congr 1
      rw [hd, List.length_map]
    have hall := okF_all _ _ hP.1
    rw [hlen] at hall
    exact prune_backs hO _ w' q ks kv A (Nat.lt_succ_self _) hb hall.1 hall.2.1 hP.2 hk hA
end

end Go.Proofs.Ytikjekfpgklbdaa

/- The contract of package step's Do. -/
namespace Go.Proofs.Ytikjekfpgklbdaa
open Go.RowKit

/-- What comes of a grammar by a step: its Terms, its Names, what is wrong, its rules (H1). -/
def verd (T N : Int) (R : List Ru) (s : Stp) : Int × Int × Int × List Ru :=
  if mayB T N R && stepB N R s then (if mayB T (doN N.toNat s : Nat) (doR N.toNat R s) then (T, (doN N.toNat s : Nat), 0, doR N.toNat R s) else (0, 0, 1, [])) else (0, 0, 2, [])

theorem may_natural {T N : Int} {R : List Ru} (hm : mayB T N R = true) : ∃ t n : Nat, T = t ∧ N = n := by
  simp only [mayB, headB, Bool.and_eq_true, decide_eq_true_eq] at hm
  exact ⟨T.toNat, N.toNat, by omega, by omega⟩

theorem taken_any {w : World} {T N : Int} {ra : Option Addr} {rc : Nat} {R : List Ru} (hr : RulesAt w w.heap.size (.slice ra R.length rc) R) (s : Stp) :
    Calls Try.prog 13 #[.agg #[.int .i64 T, .int .i64 N, .slice ra R.length rc], .agg #[.int .i64 s.op, .int .i64 s.a, .int .i64 s.b, .int .i64 s.c]] w fun e w' => ∃ cv lv RL, e = .returned (.tuple #[cv, .agg #[.int .i64 (verd T N R s).1, .int .i64 (verd T N R s).2.1, lv], .int .i64 (verd T N R s).2.2.1]) ∧ RlIn w' w.heap.size lv RL ∧ (RL.map fun x => x.2) = (verd T N R s).2.2.2 ∧ Below w.heap.size w w' := by
  cases hm : mayB T N R with
  | false =>
    have e : verd T N R s = (0, 0, 2, []) := by unfold verd; rw [hm]; rfl
    rw [e]
    refine (taken_form hr hm s).mono ?_
    rintro e w' ⟨rfl, hB⟩
    exact ⟨_, _, [], rfl, rlIn_nil _ _, rfl, hB⟩
  | true =>
    obtain ⟨t, n, rfl, rfl⟩ := may_natural hm
    cases hs : stepB n R s with
    | false =>
      have e : verd t n R s = (0, 0, 2, []) := by unfold verd; rw [hm, hs]; rfl
      rw [e]
      refine (taken_step hr hm s hs).mono ?_
      rintro e w' ⟨rfl, hB⟩
      exact ⟨_, _, [], rfl, rlIn_nil _ _, rfl, hB⟩
    | true =>
      cases hz : mayB t (doN n s : Nat) (doR n R s) with
      | false =>
        have e : verd t n R s = (0, 0, 1, []) := by unfold verd; rw [hm, hs, Int.toNat_natCast, hz]; rfl
        rw [e]
        refine (taken_size hr hm s hs hz).mono ?_
        rintro e w' ⟨rfl, hB⟩
        exact ⟨_, _, [], rfl, rlIn_nil _ _, rfl, hB⟩
      | true =>
        have e : verd t n R s = ((t : Int), ((doN n s : Nat) : Int), 0, doR n R s) := by unfold verd; rw [hm, hs, Int.toNat_natCast, hz]; rfl
        rw [e]
        refine (taken_yes hr hm s hs hz).mono ?_
        rintro e w' ⟨cv, lv, RL, rfl, _, h2, h3, hB⟩
        exact ⟨cv, lv, RL, rfl, h2, h3, hB⟩

end Go.Proofs.Ytikjekfpgklbdaa
