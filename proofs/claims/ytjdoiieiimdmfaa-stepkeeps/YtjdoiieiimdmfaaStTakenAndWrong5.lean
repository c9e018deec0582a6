import Derived.Test.YtjdoiieiimdmfaaStOutLAndStOut
import Derived.Test.YtjdoiieiimdmfaaMathAndMayFine
import Derived.Test.YtjdoiieiimdmfaaConcYAndMay8
import Derived.Test.YtjdoiieiimdmfaaStOfLAndRef3Math
import Derived.BigQuiet
/- The contracts of package step's taken and Do. -/
namespace Go.Proofs.Ytjdoiieiimdmfaa
open Go.RowKit

/-- The grammar's box, the step's, the result's; the grammar's rules. -/
structure TBox (w : World) (T N : Int) (ra : Option Addr) (rc : Nat) (R : List Ru) (s : Stp) (wq : World) : Prop where
  g : wq.heap[w.heap.size]? = some (.cells #[.int .i64 T, .int .i64 N, .slice ra R.length rc] 24 (0, 0))
  s : wq.heap[w.heap.size + 1]? = some (.cells #[.int .i64 s.op, .int .i64 s.a, .int .i64 s.b, .int .i64 s.c] 26 (0, 0))
  r : wq.heap[w.heap.size + 2]? = some (.cells #[.int .i64 0, .int .i64 0, .slice none 0 0] 24 (0, 0))
  rules : RulesAt wq w.heap.size (.slice ra R.length rc) R
  below : Below w.heap.size w wq

section
variable {w wq w' : World} {T N : Int} {ra : Option Addr} {rc : Nat} {R : List Ru} {s : Stp}
theorem TBox.size (h : TBox w T N ra rc R s wq) : w.heap.size + 3 ≤ wq.heap.size := by
  have := (Array.getElem?_eq_some_iff.1 h.r).1
  omega
theorem TBox.next (h : TBox w T N ra rc R s wq) (hb : Below wq.heap.size wq w') : TBox w T N ra rc R s w' := by
  have hz := h.size
  exact ⟨(hb.block _ (by omega)).trans h.g, (hb.block _ (by omega)).trans h.s, (hb.block _ (by omega)).trans h.r, h.rules.below (hb.mono (by omega)), h.below.trans (hb.mono (by omega))⟩
theorem TBox.all (h : TBox w T N ra rc R s wq) : RulesAt wq wq.heap.size (.slice ra R.length rc) R := h.rules.mono h.below.size
theorem TBox.g0 (h : TBox w T N ra rc R s wq) : wq.cell? ⟨w.heap.size, 0, none⟩ = some (.int .i64 T) := cell_of_blk h.g rfl
theorem TBox.g1 (h : TBox w T N ra rc R s wq) : wq.cell? ⟨w.heap.size, 1, none⟩ = some (.int .i64 N) := cell_of_blk h.g rfl
theorem TBox.g2 (h : TBox w T N ra rc R s wq) : wq.cell? ⟨w.heap.size, 2, none⟩ = some (.slice ra R.length rc) := cell_of_blk h.g rfl
theorem TBox.s0 (h : TBox w T N ra rc R s wq) : wq.cell? ⟨w.heap.size + 1, 0, none⟩ = some (.int .i64 s.op) := cell_of_blk h.s rfl
theorem TBox.s1 (h : TBox w T N ra rc R s wq) : wq.cell? ⟨w.heap.size + 1, 1, none⟩ = some (.int .i64 s.a) := cell_of_blk h.s rfl
theorem TBox.s2 (h : TBox w T N ra rc R s wq) : wq.cell? ⟨w.heap.size + 1, 2, none⟩ = some (.int .i64 s.b) := cell_of_blk h.s rfl
theorem TBox.s3 (h : TBox w T N ra rc R s wq) : wq.cell? ⟨w.heap.size + 1, 3, none⟩ = some (.int .i64 s.c) := cell_of_blk h.s rfl
theorem TBox.y0 (h : TBox w T N ra rc R s wq) : wq.cell? ⟨w.heap.size + 2, 0, none⟩ = some (.int .i64 0) := cell_of_blk h.r rfl
theorem TBox.y1 (h : TBox w T N ra rc R s wq) : wq.cell? ⟨w.heap.size + 2, 1, none⟩ = some (.int .i64 0) := cell_of_blk h.r rfl
theorem TBox.y2 (h : TBox w T N ra rc R s wq) : wq.cell? ⟨w.heap.size + 2, 2, none⟩ = some (.slice none 0 0) := cell_of_blk h.r rfl
theorem TBox.yf (h : TBox w T N ra rc R s wq) (o : Nat) : wq.frozen? ⟨w.heap.size + 2, o, none⟩ = false := frozen_of_blk h.r
theorem TBox.set (h : TBox w T N ra rc R s wq) (v0 v1 v2 : Value) : Below w.heap.size w (((wq.setCell ⟨w.heap.size + 2, 0, none⟩ v0).setCell ⟨w.heap.size + 2, 1, none⟩ v1).setCell ⟨w.heap.size + 2, 2, none⟩ v2) :=
  ((h.below.setCell (by simp) _).setCell (by simp) _).setCell (by simp) _
theorem tbox_start (hr : RulesAt w w.heap.size (.slice ra R.length rc) R) : TBox w T N ra rc R s (((w.alloc (.cells #[.int .i64 T, .int .i64 N, .slice ra R.length rc] 24)).alloc (.cells #[.int .i64 s.op, .int .i64 s.a, .int .i64 s.b, .int .i64 s.c] 26)).alloc (.cells #[.int .i64 0, .int .i64 0, .slice none 0 0] 24)) := by
  obtain ⟨w1, hw1⟩ : ∃ W, w.alloc (.cells #[.int .i64 T, .int .i64 N, .slice ra R.length rc] 24) = W := ⟨_, rfl⟩
  have b1 : Below w.heap.size w w1 := by rw [← hw1]; exact (Below.refl _ _).alloc (Nat.le_refl _) _
  have z1 : w1.heap.size = w.heap.size + 1 := by rw [← hw1]; simp
  have c1 : w1.heap[w.heap.size]? = some (.cells #[.int .i64 T, .int .i64 N, .slice ra R.length rc] 24 (0, 0)) := by rw [← hw1]; exact heap_alloc_new _ _
  rw [hw1]
  obtain ⟨w2, hw2⟩ : ∃ W, w1.alloc (.cells #[.int .i64 s.op, .int .i64 s.a, .int .i64 s.b, .int .i64 s.c] 26) = W := ⟨_, rfl⟩
  have b2 : Below w1.heap.size w1 w2 := by rw [← hw2]; exact (Below.refl _ _).alloc (Nat.le_refl _) _
  have z2 : w2.heap.size = w.heap.size + 2 := by rw [← hw2]; simp [z1]
  have c2 : w2.heap[w1.heap.size]? = some (.cells #[.int .i64 s.op, .int .i64 s.a, .int .i64 s.b, .int .i64 s.c] 26 (0, 0)) := by rw [← hw2]; exact heap_alloc_new _ _
  rw [hw2]
  obtain ⟨w3, hw3⟩ : ∃ W, w2.alloc (.cells #[.int .i64 0, .int .i64 0, .slice none 0 0] 24) = W := ⟨_, rfl⟩
  have b3 : Below w2.heap.size w2 w3 := by rw [← hw3]; exact (Below.refl _ _).alloc (Nat.le_refl _) _
  have c3 : w3.heap[w2.heap.size]? = some (.cells #[.int .i64 0, .int .i64 0, .slice none 0 0] 24 (0, 0)) := by rw [← hw3]; exact heap_alloc_new _ _
  rw [hw3]
  rw [z1] at c2
  rw [z2] at c3
  have hB : Below w.heap.size w w3 := b1.trans ((b2.mono b1.size).trans (b3.mono (by omega)))
  exact ⟨(b3.block _ (by omega)).trans ((b2.block _ (by omega)).trans c1), (b3.block _ (by omega)).trans c2, c3, hr.below hB, hB⟩
end

set_option maxRecDepth 100000 in
set_option maxHeartbeats 3200000 in
theorem taken_form {w : World} {T N : Int} {ra : Option Addr} {rc : Nat} {R : List Ru} (hr : RulesAt w w.heap.size (.slice ra R.length rc) R) (hm : mayB T N R = false) (s : Stp) :
    Calls Try.prog 8 #[.agg #[.int .i64 T, .int .i64 N, .slice ra R.length rc], .agg #[.int .i64 s.op, .int .i64 s.a, .int .i64 s.b, .int .i64 s.c]] w fun e w' => e = .returned (.tuple #[.nilIface, .agg #[.int .i64 0, .int .i64 0, .slice none 0 0], .int .i64 2]) ∧ Below w.heap.size w w' := by
  obtain ⟨W0, hW0⟩ : ∃ W, ((w.alloc (.cells #[.int .i64 T, .int .i64 N, .slice ra R.length rc] 24)).alloc (.cells #[.int .i64 s.op, .int .i64 s.a, .int .i64 s.b, .int .i64 s.c] 26)).alloc (.cells #[.int .i64 0, .int .i64 0, .slice none 0 0] 24) = W := ⟨_, rfl⟩
  have hT0 := tbox_start (T := T) (N := N) (s := s) hr
  rw [hW0] at hT0
  have HT : Hid (TBox w T N ra rc R s W0) := hT0
  have may := mayG_any (w := W0) (T := T) (N := N) hT0.all
  rw [hm] at may
  have g0 := hT0.g0
  have g1 := hT0.g1
  have g2 := hT0.g2
  clear hr hm hT0
  go_enter Try.func8, Try.ntmps8
  go_wp2_with
    (go_at_call 10; refine may.mono ?_; rintro e w2 ⟨rfl, hB2⟩
     have hTz := HT.out.next hB2
     have y0 := hTz.y0
     have y1 := hTz.y1
     have y2 := hTz.y2
     have yf0 := hTz.yf 0
     have yf1 := hTz.yf 1
     have yf2 := hTz.yf 2
     have HTz : Hid (TBox w T N ra rc R s w2) := hTz
     clear hTz hB2 may)
  have q0 := box3_0 (v0 := .int .i64 0) (v1 := .int .i64 0) (v2 := .slice none 0 0) y0
  have q1 := box3_1 (v0 := .int .i64 0) (v1 := .int .i64 0) (v2 := .slice none 0 0) y1
  have q2 := box3_2 (v0 := .int .i64 0) (v1 := .int .i64 0) (v2 := .slice none 0 0) y2
  refine bodyPost_ret (v := .tuple #[.nilIface, .agg #[.int .i64 0, .int .i64 0, .slice none 0 0], .int .i64 2]) (by simp [results, Try.results8, go_sem, q0, q1, q2]) rfl ?_
  exact ⟨rfl, HTz.out.set _ _ _⟩

set_option maxRecDepth 100000 in
set_option maxHeartbeats 3200000 in
theorem taken_step {w : World} {T N : Nat} {ra : Option Addr} {rc : Nat} {R : List Ru} (hr : RulesAt w w.heap.size (.slice ra R.length rc) R) (hm : mayB T N R = true) (s : Stp) (hs : stepB N R s = false) :
    Calls Try.prog 8 #[.agg #[.int .i64 T, .int .i64 N, .slice ra R.length rc], .agg #[.int .i64 s.op, .int .i64 s.a, .int .i64 s.b, .int .i64 s.c]] w fun e w' => e = .returned (.tuple #[.nilIface, .agg #[.int .i64 0, .int .i64 0, .slice none 0 0], .int .i64 2]) ∧ Below w.heap.size w w' := by
  obtain ⟨W0, hW0⟩ : ∃ W, ((w.alloc (.cells #[.int .i64 T, .int .i64 N, .slice ra R.length rc] 24)).alloc (.cells #[.int .i64 s.op, .int .i64 s.a, .int .i64 s.b, .int .i64 s.c] 26)).alloc (.cells #[.int .i64 0, .int .i64 0, .slice none 0 0] 24) = W := ⟨_, rfl⟩
  have hT0 := tbox_start (T := T) (N := N) (s := s) hr
  rw [hW0] at hT0
  have HT : Hid (TBox w T N ra rc R s W0) := hT0
  have may := mayG_any (w := W0) (T := T) (N := N) hT0.all
  rw [hm] at may
  have g0 := hT0.g0
  have g1 := hT0.g1
  have g2 := hT0.g2
  have HMay : Hid (mayB T N R = true) := hm
  have HS : Hid (stepB N R s = false) := hs
  clear hr hm hT0 hs
  go_enter Try.func8, Try.ntmps8
  go_wp2_with
    (first
     | (go_at_call 10; refine may.mono ?_; rintro e w2 ⟨rfl, hB2⟩
        have hT2 := HT.out.next hB2
        have v0 := hT2.g0
        have v1 := hT2.g1
        have v2 := hT2.g2
        have v3 := hT2.s0
        have v4 := hT2.s1
        have v5 := hT2.s2
        have v6 := hT2.s3
        have HT2 : Hid (TBox w T N ra rc R s w2) := hT2
        have ch := st_changeOf hT2.all HMay.out s
        rw [HS.out] at ch
        clear may hB2 hT2 g0 g1 g2 hW0)
     | (go_at_call 11; refine ch.mono ?_; rintro e w3 ⟨cv, rfl, _, hB3⟩
        have hTz := HT2.out.next hB3
        have y0 := hTz.y0
        have y1 := hTz.y1
        have y2 := hTz.y2
        have yf0 := hTz.yf 0
        have yf1 := hTz.yf 1
        have yf2 := hTz.yf 2
        have HTz : Hid (TBox w T N ra rc R s w3) := hTz
        clear ch hTz hB3 v0 v1 v2 v3 v4 v5 v6))
  have q0 := box3_0 (v0 := .int .i64 0) (v1 := .int .i64 0) (v2 := .slice none 0 0) y0
  have q1 := box3_1 (v0 := .int .i64 0) (v1 := .int .i64 0) (v2 := .slice none 0 0) y1
  have q2 := box3_2 (v0 := .int .i64 0) (v1 := .int .i64 0) (v2 := .slice none 0 0) y2
  refine bodyPost_ret (v := .tuple #[.nilIface, .agg #[.int .i64 0, .int .i64 0, .slice none 0 0], .int .i64 2]) (by simp [results, Try.results8, go_sem, q0, q1, q2]) rfl ?_
  exact ⟨rfl, HTz.out.set _ _ _⟩

set_option maxRecDepth 100000 in
set_option maxHeartbeats 3200000 in
theorem taken_size {w : World} {T N : Nat} {ra : Option Addr} {rc : Nat} {R : List Ru} (hr : RulesAt w w.heap.size (.slice ra R.length rc) R) (hm : mayB T N R = true) (s : Stp) (hs : stepB N R s = true) (hz : mayB T (doN N s : Nat) (doR N R s) = false) :
    Calls Try.prog 8 #[.agg #[.int .i64 T, .int .i64 N, .slice ra R.length rc], .agg #[.int .i64 s.op, .int .i64 s.a, .int .i64 s.b, .int .i64 s.c]] w fun e w' => e = .returned (.tuple #[.nilIface, .agg #[.int .i64 0, .int .i64 0, .slice none 0 0], .int .i64 1]) ∧ Below w.heap.size w w' := by
  obtain ⟨W0, hW0⟩ : ∃ W, ((w.alloc (.cells #[.int .i64 T, .int .i64 N, .slice ra R.length rc] 24)).alloc (.cells #[.int .i64 s.op, .int .i64 s.a, .int .i64 s.b, .int .i64 s.c] 26)).alloc (.cells #[.int .i64 0, .int .i64 0, .slice none 0 0] 24) = W := ⟨_, rfl⟩
  have hT0 := tbox_start (T := T) (N := N) (s := s) hr
  rw [hW0] at hT0
  have HT : Hid (TBox w T N ra rc R s W0) := hT0
  have may := mayG_any (w := W0) (T := T) (N := N) hT0.all
  rw [hm] at may
  have g0 := hT0.g0
  have g1 := hT0.g1
  have g2 := hT0.g2
  have HMay : Hid (mayB T N R = true) := hm
  have HS : Hid (stepB N R s = true) := hs
  have HZ : Hid (mayB T (doN N s : Nat) (doR N R s) = false) := hz
  obtain ⟨M, hM⟩ : ∃ M, doN N s = M := ⟨_, rfl⟩
  rw [hM] at HZ
  have HM : Hid (doN N s = M) := hM
  clear hr hm hT0 hs hz hM
  go_enter Try.func8, Try.ntmps8
  go_wp2_with
    (first
     | (go_at_call 10; refine may.mono ?_; rintro e w2 ⟨rfl, hB2⟩
        have hT2 := HT.out.next hB2
        have v0 := hT2.g0
        have v1 := hT2.g1
        have v2 := hT2.g2
        have v3 := hT2.s0
        have v4 := hT2.s1
        have v5 := hT2.s2
        have v6 := hT2.s3
        have HT2 : Hid (TBox w T N ra rc R s w2) := hT2
        have ch := st_changeOf hT2.all HMay.out s
        rw [HS.out] at ch
        clear may hB2 hT2 g0 g1 g2 hW0)
     | (go_at_call 11; refine ch.mono ?_; rintro e w3 ⟨cv, rfl, hcv, hB3⟩
        have hT3 := HT2.out.next hB3
        obtain ⟨ty, v, fn, hcf, hme, hfn, out⟩ := chg_out (by first | exact hcv rfl | exact hcv trivial) hT3.all HMay.out HS.out
        rw [HM.out] at out
        subst hcf
        have HT3 : Hid (TBox w T N ra rc R s w3) := hT3
        have hTc := (by first | exact hcv rfl | exact hcv trivial : ChgAt w3 w2.heap.size T N ra rc R s (.iface ty v))
        have HCv : Hid (ChgAt w3 w2.heap.size T N ra rc R s (.iface ty v)) := hTc
        clear ch hT3 hB3 hcv hTc v0 v1 v2 v3 v4 v5 v6)
     | (refine out.mono ?_; rintro e w4 ⟨lv, RL, rfl, hR4, hmap, hB4⟩
        have hB5 : Below w3.heap.size w3 (w4.alloc (.cells #[.int .i64 T, .int .i64 M, lv] 24)) := hB4.alloc hB4.size _
        have hR5 := hR4.below ((Below.refl _ _).alloc (Nat.le_refl _) (.cells #[.int .i64 T, .int .i64 M, lv] 24))
        have hT5 := HT3.out.next hB5
        have hb5 := heap_alloc_new w4 (.cells #[.int .i64 T, .int .i64 M, lv] 24)
        have HR5 : Hid (RlIn (w4.alloc (.cells #[.int .i64 T, .int .i64 M, lv] 24)) w3.heap.size lv RL ∧ (RL.map fun x => x.2) = doR N R s ∧ TBox w T N ra rc R s (w4.alloc (.cells #[.int .i64 T, .int .i64 M, lv] 24)) ∧ (w4.alloc (.cells #[.int .i64 T, .int .i64 M, lv] 24)).heap[w4.heap.size]? = some (.cells #[.int .i64 T, .int .i64 M, lv] 24 (0, 0)) ∧ ChgAt (w4.alloc (.cells #[.int .i64 T, .int .i64 M, lv] 24)) w2.heap.size T N ra rc R s (.iface ty v) ∧ w3.heap.size ≤ w4.heap.size) := ⟨hR5, hmap, hT5, hb5, HCv.out.next hB5, hB4.size⟩
        obtain ⟨la, lc, hlv⟩ := own_form hR5.own
        subst hlv
        have may2 := mayG_any (w := w4.alloc (.cells #[.int .i64 T, .int .i64 M, .slice la RL.length lc] 24)) (T := T) (N := M) hR5.rules
        rw [hmap, HZ.out] at may2
        clear out hR4 hmap hB4 hB5 hR5 hT5 hb5 hme hfn)
     | (go_at_call 10; refine may2.mono ?_; rintro e w6 ⟨rfl, hB6⟩
        have hTz := HR5.out.2.2.1.next hB6
        have y0 := hTz.y0
        have y1 := hTz.y1
        have y2 := hTz.y2
        have yf0 := hTz.yf 0
        have yf1 := hTz.yf 1
        have yf2 := hTz.yf 2
        have HTz : Hid (TBox w T N ra rc R s w6) := hTz
        clear may2 hTz hB6))
  have q0 := box3_0 (v0 := .int .i64 0) (v1 := .int .i64 0) (v2 := .slice none 0 0) y0
  have q1 := box3_1 (v0 := .int .i64 0) (v1 := .int .i64 0) (v2 := .slice none 0 0) y1
  have q2 := box3_2 (v0 := .int .i64 0) (v1 := .int .i64 0) (v2 := .slice none 0 0) y2
  refine bodyPost_ret (v := .tuple #[.nilIface, .agg #[.int .i64 0, .int .i64 0, .slice none 0 0], .int .i64 1]) (by simp [results, Try.results8, go_sem, q0, q1, q2]) rfl ?_
  exact ⟨rfl, HTz.out.set _ _ _⟩

set_option maxRecDepth 100000 in
set_option maxHeartbeats 3200000 in
theorem taken_yes {w : World} {T N : Nat} {ra : Option Addr} {rc : Nat} {R : List Ru} (hr : RulesAt w w.heap.size (.slice ra R.length rc) R) (hm : mayB T N R = true) (s : Stp) (hs : stepB N R s = true) (hz : mayB T (doN N s : Nat) (doR N R s) = true) :
    Calls Try.prog 8 #[.agg #[.int .i64 T, .int .i64 N, .slice ra R.length rc], .agg #[.int .i64 s.op, .int .i64 s.a, .int .i64 s.b, .int .i64 s.c]] w fun e w' => ∃ cv lv RL, e = .returned (.tuple #[cv, .agg #[.int .i64 T, .int .i64 (doN N s : Nat), lv], .int .i64 0]) ∧ ChgAt w' w.heap.size T N ra rc R s cv ∧ RlIn w' w.heap.size lv RL ∧ (RL.map fun x => x.2) = doR N R s ∧ Below w.heap.size w w' := by
  obtain ⟨W0, hW0⟩ : ∃ W, ((w.alloc (.cells #[.int .i64 T, .int .i64 N, .slice ra R.length rc] 24)).alloc (.cells #[.int .i64 s.op, .int .i64 s.a, .int .i64 s.b, .int .i64 s.c] 26)).alloc (.cells #[.int .i64 0, .int .i64 0, .slice none 0 0] 24) = W := ⟨_, rfl⟩
  have hT0 := tbox_start (T := T) (N := N) (s := s) hr
  rw [hW0] at hT0
  have HT : Hid (TBox w T N ra rc R s W0) := hT0
  have may := mayG_any (w := W0) (T := T) (N := N) hT0.all
  rw [hm] at may
  have g0 := hT0.g0
  have g1 := hT0.g1
  have g2 := hT0.g2
  have HMay : Hid (mayB T N R = true) := hm
  have HS : Hid (stepB N R s = true) := hs
  have HZ : Hid (mayB T (doN N s : Nat) (doR N R s) = true) := hz
  obtain ⟨M, hM⟩ : ∃ M, doN N s = M := ⟨_, rfl⟩
  rw [hM] at HZ ⊢
  have HM : Hid (doN N s = M) := hM
  clear hr hm hT0 hs hz hM
  go_enter Try.func8, Try.ntmps8
  go_wp2_with
    (first
     | (go_at_call 10; refine may.mono ?_; rintro e w2 ⟨rfl, hB2⟩
        have hT2 := HT.out.next hB2
        have v0 := hT2.g0
        have v1 := hT2.g1
        have v2 := hT2.g2
        have v3 := hT2.s0
        have v4 := hT2.s1
        have v5 := hT2.s2
        have v6 := hT2.s3
        have HT2 : Hid (TBox w T N ra rc R s w2) := hT2
        have ch := st_changeOf hT2.all HMay.out s
        rw [HS.out] at ch
        clear may hB2 hT2 g0 g1 g2 hW0)
     | (go_at_call 11; refine ch.mono ?_; rintro e w3 ⟨cv, rfl, hcv, hB3⟩
        have hT3 := HT2.out.next hB3
        obtain ⟨ty, v, fn, hcf, hme, hfn, out⟩ := chg_out (by first | exact hcv rfl | exact hcv trivial) hT3.all HMay.out HS.out
        rw [HM.out] at out
        subst hcf
        have HT3 : Hid (TBox w T N ra rc R s w3) := hT3
        have hTc := (by first | exact hcv rfl | exact hcv trivial : ChgAt w3 w2.heap.size T N ra rc R s (.iface ty v))
        have HCv : Hid (ChgAt w3 w2.heap.size T N ra rc R s (.iface ty v)) := hTc
        clear ch hT3 hB3 hcv hTc v0 v1 v2 v3 v4 v5 v6)
     | (refine out.mono ?_; rintro e w4 ⟨lv, RL, rfl, hR4, hmap, hB4⟩
        have hB5 : Below w3.heap.size w3 (w4.alloc (.cells #[.int .i64 T, .int .i64 M, lv] 24)) := hB4.alloc hB4.size _
        have hR5 := hR4.below ((Below.refl _ _).alloc (Nat.le_refl _) (.cells #[.int .i64 T, .int .i64 M, lv] 24))
        have hT5 := HT3.out.next hB5
        have hb5 := heap_alloc_new w4 (.cells #[.int .i64 T, .int .i64 M, lv] 24)
        have HR5 : Hid (RlIn (w4.alloc (.cells #[.int .i64 T, .int .i64 M, lv] 24)) w3.heap.size lv RL ∧ (RL.map fun x => x.2) = doR N R s ∧ TBox w T N ra rc R s (w4.alloc (.cells #[.int .i64 T, .int .i64 M, lv] 24)) ∧ (w4.alloc (.cells #[.int .i64 T, .int .i64 M, lv] 24)).heap[w4.heap.size]? = some (.cells #[.int .i64 T, .int .i64 M, lv] 24 (0, 0)) ∧ ChgAt (w4.alloc (.cells #[.int .i64 T, .int .i64 M, lv] 24)) w2.heap.size T N ra rc R s (.iface ty v) ∧ w3.heap.size ≤ w4.heap.size) := ⟨hR5, hmap, hT5, hb5, HCv.out.next hB5, hB4.size⟩
        obtain ⟨la, lc, hlv⟩ := own_form hR5.own
        subst hlv
        have may2 := mayG_any (w := w4.alloc (.cells #[.int .i64 T, .int .i64 M, .slice la RL.length lc] 24)) (T := T) (N := M) hR5.rules
        rw [hmap, HZ.out] at may2
        clear out hR4 hmap hB4 hB5 hR5 hT5 hb5 hme hfn)
     | (go_at_call 10; refine may2.mono ?_; rintro e w6 ⟨rfl, hB6⟩
        have HB6 : Hid (Below (w4.alloc (.cells #[.int .i64 T, .int .i64 M, .slice la RL.length lc] 24)).heap.size (w4.alloc (.cells #[.int .i64 T, .int .i64 M, .slice la RL.length lc] 24)) w6) := hB6
        clear may2 hB6))
  have hT6 := HR5.out.2.2.1.next HB6.out
  have hR6 := HR5.out.1.below HB6.out
  have hC6 := HR5.out.2.2.2.2.1.next HB6.out
  have hlo2 : w.heap.size + 3 ≤ w2.heap.size := HT2.out.size
  have hw34 := HR5.out.2.2.2.2.2
  have hob := (HB6.out.block w4.heap.size (by simp)).trans HR5.out.2.2.2.1
  obtain ⟨ob, hobe⟩ : ∃ x, w4.heap.size = x := ⟨_, rfl⟩
  rw [hobe] at hob ⊢
  have HM5 : Hid ((RL.map fun x => x.2) = doR N R s) := HR5.out.2.1
  have hlo : w.heap.size + 3 ≤ w3.heap.size := HT3.out.size
  obtain ⟨Wd, hWd⟩ : ∃ W, w6.drew = W := ⟨_, rfl⟩
  have hBd : Below w6.heap.size w6 Wd := by rw [← hWd]; exact (Below.refl _ _).drew
  have hTd := hT6.next hBd
  have hRd := hR6.below hBd
  have hCd := hC6.next hBd
  have hobd := (hBd.block ob (Array.getElem?_eq_some_iff.1 hob).1).trans hob
  have y0 := hTd.y0
  have y1 := hTd.y1
  have y2 := hTd.y2
  have yf0 := hTd.yf 0
  have yf1 := hTd.yf 1
  have yf2 := hTd.yf 2
  have o0 : Wd.cell? ⟨ob, 0, none⟩ = some (.int .i64 T) := cell_of_blk hobd rfl
  have o1 : Wd.cell? ⟨ob, 1, none⟩ = some (.int .i64 M) := cell_of_blk hobd rfl
  have o2 : Wd.cell? ⟨ob, 2, none⟩ = some (.slice la RL.length lc) := cell_of_blk hobd rfl
  have HF : Hid (TBox w T N ra rc R s Wd ∧ RlIn Wd w3.heap.size (.slice la RL.length lc) RL ∧ ChgAt Wd w2.heap.size T N ra rc R s (.iface ty v)) := ⟨hTd, hRd, hCd⟩
  have hobl : w.heap.size + 3 ≤ ob := by omega
  clear hT6 hR6 hC6 hob hobe hBd hTd hRd hCd hobd HR5 HB6
  refine wp_region_mix [0, 1] 3 4 (fun wq => wq.cell? ⟨ob, 0, none⟩ = some (.int .i64 T) ∧ wq.cell? ⟨ob, 1, none⟩ = some (.int .i64 M) ∧ wq.cell? ⟨ob, 2, none⟩ = some (.slice la RL.length lc)) (by kernel_rfl) (by kernel_rfl) (by rw [hWd]; exact ⟨o0, o1, o2⟩) ?_
  rw [hWd]
  clear hWd
  iterate 2
    refine StillI.con8 (v := ?_) rfl (by rfl) ?_ ?_
    rotate_left
    · intro w' hSw
      obtain ⟨z0, z1, z2⟩ := hSw
      go_simp
      try with_reducible rfl
    simp only [Act.put, List.setIfInBounds_toArray, List.set_cons_zero, List.set_cons_succ]
  rw [StillI]
  refine TailC.one (i := 2) (by kernel_rfl) ⟨_, rfl, fun K hK => ?_⟩
  go_simp
  refine hK.out _ _ (fun _ => ⟨o0, o1, o2⟩) ?_
  clear hK
  refine TailC.one (i := 3) (by kernel_rfl) ⟨_, rfl, fun K hK => ?_⟩
  go_simp
  refine hK.out _ _ (fun _ => ⟨?_, ?_, ?_⟩) ?_
  · rw [cell_set_other (.inl (by simp only; omega)), cell_set_other (.inl (by simp only; omega)), cell_set_other (.inl (by simp only; omega))]; exact o0
  · rw [cell_set_other (.inl (by simp only; omega)), cell_set_other (.inl (by simp only; omega)), cell_set_other (.inl (by simp only; omega))]; exact o1
  · rw [cell_set_other (.inl (by simp only; omega)), cell_set_other (.inl (by simp only; omega)), cell_set_other (.inl (by simp only; omega))]; exact o2
  clear hK
  refine TailC.last (i := 4) (by kernel_rfl) ⟨_, rfl, fun K hK => ?_⟩
  go_simp
  refine hK.out _ _ (fun h => absurd h (by omega)) (NoPanic.normal ?_)
  clear hK
  have q0 := box3_0 (v0 := .int .i64 T) (v1 := .int .i64 M) (v2 := .slice la RL.length lc) y0
  have q1 := box3_1 (v0 := .int .i64 T) (v1 := .int .i64 M) (v2 := .slice la RL.length lc) y1
  have q2 := box3_2 (v0 := .int .i64 T) (v1 := .int .i64 M) (v2 := .slice la RL.length lc) y2
  go_wp2_with fail
  refine bodyPost_ret (v := .tuple #[.iface ty v, .agg #[.int .i64 T, .int .i64 M, .slice la RL.length lc], .int .i64 0]) (by simp [results, Try.results8, go_sem, q0, q1, q2]) rfl ?_
  refine ⟨_, _, RL, rfl, ?_, ?_, HM5.out, HF.out.1.set _ _ _⟩
  · exact (((HF.out.2.2.set (by simp only; omega) _).set (by simp only; omega) _).set (by simp only; omega) _).mono (by omega)
  · exact (((HF.out.2.1.setLow (by simp only; omega) _).setLow (by simp only; omega) _).setLow (by simp only; omega) _).mono (by omega)

end Go.Proofs.Ytjdoiieiimdmfaa

/- The contract of package step's Do. -/
namespace Go.Proofs.Ytjdoiieiimdmfaa
open Go.RowKit

/-- What comes of a grammar by a step: its Terms, its Names, what is wrong, its rules (H1). -/
def verd (T N : Int) (R : List Ru) (s : Stp) : Int × Int × Int × List Ru :=
  if mayB T N R && stepB N R s then (if mayB T (doN N.toNat s : Nat) (doR N.toNat R s) then (T, (doN N.toNat s : Nat), 0, doR N.toNat R s) else (0, 0, 1, [])) else (0, 0, 2, [])

theorem may_natural {T N : Int} {R : List Ru} (hm : mayB T N R = true) : ∃ t n : Nat, T = t ∧ N = n := by
  simp only [mayB, headB, Bool.and_eq_true, decide_eq_true_eq] at hm
  exact ⟨T.toNat, N.toNat, by omega, by omega⟩

theorem taken_any {w : World} {T N : Int} {ra : Option Addr} {rc : Nat} {R : List Ru} (hr : RulesAt w w.heap.size (.slice ra R.length rc) R) (s : Stp) :
    Calls Try.prog 8 #[.agg #[.int .i64 T, .int .i64 N, .slice ra R.length rc], .agg #[.int .i64 s.op, .int .i64 s.a, .int .i64 s.b, .int .i64 s.c]] w fun e w' => ∃ cv lv RL, e = .returned (.tuple #[cv, .agg #[.int .i64 (verd T N R s).1, .int .i64 (verd T N R s).2.1, lv], .int .i64 (verd T N R s).2.2.1]) ∧ RlIn w' w.heap.size lv RL ∧ (RL.map fun x => x.2) = (verd T N R s).2.2.2 ∧ Below w.heap.size w w' := by
  cases hm : mayB T N R with
  | false =>
    have e : verd T N R s = (0, 0, 2, []) := by unfold verd; rw [hm]; rfl
    rw [e]
    refine (taken_form hr hm s).mono ?_
    rintro e w' ⟨rfl, hB⟩
    exact ⟨_, _, [], rfl, rlIn_nil _ _, rfl, hB⟩
  | true =>
    obtain ⟨t, n, rfl, rfl⟩ := may_natural hm
    cases hs : stepB n R s with
    | false =>
      have e : verd t n R s = (0, 0, 2, []) := by unfold verd; rw [hm, hs]; rfl
      rw [e]
      refine (taken_step hr hm s hs).mono ?_
      rintro e w' ⟨rfl, hB⟩
      exact ⟨_, _, [], rfl, rlIn_nil _ _, rfl, hB⟩
    | true =>
      cases hz : mayB t (doN n s : Nat) (doR n R s) with
      | false =>
        have e : verd t n R s = (0, 0, 1, []) := by unfold verd; rw [hm, hs, Int.toNat_natCast, hz]; rfl
        rw [e]
        refine (taken_size hr hm s hs hz).mono ?_
        rintro e w' ⟨rfl, hB⟩
        exact ⟨_, _, [], rfl, rlIn_nil _ _, rfl, hB⟩
      | true =>
        have e : verd t n R s = ((t : Int), ((doN n s : Nat) : Int), 0, doR n R s) := by unfold verd; rw [hm, hs, Int.toNat_natCast, hz]; rfl
        rw [e]
        refine (taken_yes hr hm s hs hz).mono ?_
        rintro e w' ⟨cv, lv, RL, rfl, _, h2, h3, hB⟩
        exact ⟨cv, lv, RL, rfl, h2, h3, hB⟩

set_option maxRecDepth 100000 in
set_option maxHeartbeats 3200000 in
theorem st_Do {w : World} {T N : Int} {ra : Option Addr} {rc : Nat} {R : List Ru} (hr : RulesAt w w.heap.size (.slice ra R.length rc) R) (s : Stp) :
    Calls Try.prog 4 #[.agg #[.int .i64 T, .int .i64 N, .slice ra R.length rc], .agg #[.int .i64 s.op, .int .i64 s.a, .int .i64 s.b, .int .i64 s.c]] w fun e w' => ∃ lv RL, e = .returned (.tuple #[.agg #[.int .i64 (verd T N R s).1, .int .i64 (verd T N R s).2.1, lv], .int .i64 (verd T N R s).2.2.1]) ∧ RlIn w' w.heap.size lv RL ∧ (RL.map fun x => x.2) = (verd T N R s).2.2.2 ∧ Below w.heap.size w w' := by
  obtain ⟨W0, hW0⟩ : ∃ W, ((w.alloc (.cells #[.int .i64 T, .int .i64 N, .slice ra R.length rc] 24)).alloc (.cells #[.int .i64 s.op, .int .i64 s.a, .int .i64 s.b, .int .i64 s.c] 26)).alloc (.cells #[.int .i64 0, .int .i64 0, .slice none 0 0] 24) = W := ⟨_, rfl⟩
  have hT0 := tbox_start (T := T) (N := N) (s := s) hr
  rw [hW0] at hT0
  have HT : Hid (TBox w T N ra rc R s W0) := hT0
  have g0 := hT0.g0
  have g1 := hT0.g1
  have g2 := hT0.g2
  have s0 := hT0.s0
  have s1 := hT0.s1
  have s2 := hT0.s2
  have s3 := hT0.s3
  have tk := taken_any (T := T) (N := N) hT0.all s
  obtain ⟨⟨V, M, E, RR⟩, hV⟩ : ∃ x, verd T N R s = x := ⟨_, rfl⟩
  rw [hV] at tk ⊢
  simp only at tk ⊢
  clear hr hT0 hV
  go_enter Try.func4, Try.ntmps4
  go_wp2_with
    (go_at_call 8; refine tk.mono ?_; rintro e w2 ⟨cv, lv, RL, rfl, hR2, hmap, hB2⟩
     obtain ⟨la, lc, hlv⟩ := own_form hR2.own
     subst hlv
     have hB3 : Below W0.heap.size W0 (w2.alloc (.cells #[.int .i64 V, .int .i64 M, .slice la RL.length lc] 24)) := hB2.alloc hB2.size _
     have hTz := HT.out.next hB3
     have y0 := hTz.y0
     have y1 := hTz.y1
     have y2 := hTz.y2
     have yf0 := hTz.yf 0
     have yf1 := hTz.yf 1
     have yf2 := hTz.yf 2
     have HF : Hid (TBox w T N ra rc R s (w2.alloc (.cells #[.int .i64 V, .int .i64 M, .slice la RL.length lc] 24)) ∧ RlIn (w2.alloc (.cells #[.int .i64 V, .int .i64 M, .slice la RL.length lc] 24)) W0.heap.size (.slice la RL.length lc) RL ∧ (RL.map fun x => x.2) = RR) := ⟨hTz, hR2.below ((Below.refl _ _).alloc (Nat.le_refl _) _), hmap⟩
     clear tk hR2 hmap hB2 hB3 hTz g0 g1 g2 s0 s1 s2 s3 hW0)
  have q0 := box3_0 (v0 := .int .i64 V) (v1 := .int .i64 M) (v2 := .slice la RL.length lc) y0
  have q1 := box3_1 (v0 := .int .i64 V) (v1 := .int .i64 M) (v2 := .slice la RL.length lc) y1
  have q2 := box3_2 (v0 := .int .i64 V) (v1 := .int .i64 M) (v2 := .slice la RL.length lc) y2
  refine bodyPost_ret (v := .tuple #[.agg #[.int .i64 V, .int .i64 M, .slice la RL.length lc], .int .i64 E]) (by simp [results, Try.results4, go_sem, q0, q1, q2]) rfl ?_
  have hlo := HT.out.size
  exact ⟨_, RL, rfl, (((HF.out.2.1.setLow (by simp only; omega) _).setLow (by simp only; omega) _).setLow (by simp only; omega) _).mono (by omega), HF.out.2.2, HF.out.1.set _ _ _⟩

end Go.Proofs.Ytjdoiieiimdmfaa

/- What the laws of package step's Do hold. No walk. -/
namespace Go.Proofs.Ytjdoiieiimdmfaa
open Go.RowKit

/-- The grammar's box, the step's; the rules, the tokens. -/
structure KpIn (w : World) (T N : Int) (ra : Option Addr) (rc : Nat) (R : List Ru) (s : Stp) (tv : Value) (tok : List Int) (wq : World) : Prop where
  g : wq.heap[w.heap.size]? = some (.cells #[.int .i64 T, .int .i64 N, .slice ra R.length rc] 24 (0, 0))
  s : wq.heap[w.heap.size + 1]? = some (.cells #[.int .i64 s.op, .int .i64 s.a, .int .i64 s.b, .int .i64 s.c] 26 (0, 0))
  rules : RulesAt wq w.heap.size (.slice ra R.length rc) R
  toks : ListAt wq w.heap.size tv tok
  below : Below w.heap.size w wq

section
variable {w wq w' : World} {T N : Int} {ra : Option Addr} {rc : Nat} {R : List Ru} {s : Stp} {tv : Value} {tok : List Int}
theorem KpIn.size (h : KpIn w T N ra rc R s tv tok wq) : w.heap.size + 2 ≤ wq.heap.size := by
  have := (Array.getElem?_eq_some_iff.1 h.s).1
  omega
theorem KpIn.next (h : KpIn w T N ra rc R s tv tok wq) (hb : Below wq.heap.size wq w') : KpIn w T N ra rc R s tv tok w' := by
  have hz := h.size
  exact ⟨(hb.block _ (by omega)).trans h.g, (hb.block _ (by omega)).trans h.s, h.rules.below (hb.mono (by omega)), h.toks.below (hb.mono (by omega)), h.below.trans (hb.mono (by omega))⟩
theorem KpIn.all (h : KpIn w T N ra rc R s tv tok wq) : RulesAt wq wq.heap.size (.slice ra R.length rc) R := h.rules.mono h.below.size
theorem KpIn.allT (h : KpIn w T N ra rc R s tv tok wq) : ListAt wq wq.heap.size tv tok := h.toks.mono h.below.size
theorem KpIn.g0 (h : KpIn w T N ra rc R s tv tok wq) : wq.cell? ⟨w.heap.size, 0, none⟩ = some (.int .i64 T) := cell_of_blk h.g rfl
theorem KpIn.g1 (h : KpIn w T N ra rc R s tv tok wq) : wq.cell? ⟨w.heap.size, 1, none⟩ = some (.int .i64 N) := cell_of_blk h.g rfl
theorem KpIn.g2 (h : KpIn w T N ra rc R s tv tok wq) : wq.cell? ⟨w.heap.size, 2, none⟩ = some (.slice ra R.length rc) := cell_of_blk h.g rfl
theorem KpIn.s0 (h : KpIn w T N ra rc R s tv tok wq) : wq.cell? ⟨w.heap.size + 1, 0, none⟩ = some (.int .i64 s.op) := cell_of_blk h.s rfl
theorem KpIn.s1 (h : KpIn w T N ra rc R s tv tok wq) : wq.cell? ⟨w.heap.size + 1, 1, none⟩ = some (.int .i64 s.a) := cell_of_blk h.s rfl
theorem KpIn.s2 (h : KpIn w T N ra rc R s tv tok wq) : wq.cell? ⟨w.heap.size + 1, 2, none⟩ = some (.int .i64 s.b) := cell_of_blk h.s rfl
theorem KpIn.s3 (h : KpIn w T N ra rc R s tv tok wq) : wq.cell? ⟨w.heap.size + 1, 3, none⟩ = some (.int .i64 s.c) := cell_of_blk h.s rfl
theorem kpIn_start (hr : RulesAt w w.heap.size (.slice ra R.length rc) R) (ht : ListAt w w.heap.size tv tok) : KpIn w T N ra rc R s tv tok ((w.alloc (.cells #[.int .i64 T, .int .i64 N, .slice ra R.length rc] 24)).alloc (.cells #[.int .i64 s.op, .int .i64 s.a, .int .i64 s.b, .int .i64 s.c] 26)) := by
  obtain ⟨w1, hw1⟩ : ∃ W, w.alloc (.cells #[.int .i64 T, .int .i64 N, .slice ra R.length rc] 24) = W := ⟨_, rfl⟩
  have b1 : Below w.heap.size w w1 := by rw [← hw1]; exact (Below.refl _ _).alloc (Nat.le_refl _) _
  have z1 : w1.heap.size = w.heap.size + 1 := by rw [← hw1]; simp
  have c1 : w1.heap[w.heap.size]? = some (.cells #[.int .i64 T, .int .i64 N, .slice ra R.length rc] 24 (0, 0)) := by rw [← hw1]; exact heap_alloc_new _ _
  rw [hw1]
  obtain ⟨w2, hw2⟩ : ∃ W, w1.alloc (.cells #[.int .i64 s.op, .int .i64 s.a, .int .i64 s.b, .int .i64 s.c] 26) = W := ⟨_, rfl⟩
  have b2 : Below w1.heap.size w1 w2 := by rw [← hw2]; exact (Below.refl _ _).alloc (Nat.le_refl _) _
  have c2 : w2.heap[w1.heap.size]? = some (.cells #[.int .i64 s.op, .int .i64 s.a, .int .i64 s.b, .int .i64 s.c] 26 (0, 0)) := by rw [← hw2]; exact heap_alloc_new _ _
  rw [hw2]
  rw [z1] at c2
  have hB : Below w.heap.size w w2 := b1.trans (b2.mono b1.size)
  exact ⟨(b2.block _ (by omega)).trans c1, c2, hr.below hB, ht.below hB, hB⟩
end

/-- What was made lies in its box, and can be read. -/
structure BoxR (V M : Int) (la : Option Addr) (lc : Nat) (RR : List Ru) (b : Nat) (wq : World) : Prop where
  blk : wq.heap[b]? = some (.cells #[.int .i64 V, .int .i64 M, .slice la RR.length lc] 24 (0, 0))
  rules : RulesAt wq wq.heap.size (.slice la RR.length lc) RR

section
variable {V M : Int} {la : Option Addr} {lc : Nat} {RR : List Ru} {b : Nat} {wq w' : World}
theorem BoxR.next (h : BoxR V M la lc RR b wq) (hb : Below wq.heap.size wq w') : BoxR V M la lc RR b w' :=
  ⟨(hb.block _ (Array.getElem?_eq_some_iff.1 h.blk).1).trans h.blk, (h.rules.below hb).mono hb.size⟩
theorem BoxR.c0 (h : BoxR V M la lc RR b wq) : wq.cell? ⟨b, 0, none⟩ = some (.int .i64 V) := cell_of_blk h.blk rfl
theorem BoxR.c1 (h : BoxR V M la lc RR b wq) : wq.cell? ⟨b, 1, none⟩ = some (.int .i64 M) := cell_of_blk h.blk rfl
theorem BoxR.c2 (h : BoxR V M la lc RR b wq) : wq.cell? ⟨b, 2, none⟩ = some (.slice la RR.length lc) := cell_of_blk h.blk rfl
end

end Go.Proofs.Ytjdoiieiimdmfaa

/- What is wrong with tokens; what is derived is made of terms. No walk. -/
namespace Go.Proofs.Ytjdoiieiimdmfaa

/-- All tokens are terms. -/
def inB (T : Int) (tok : List Int) : Bool := tok.all fun t => decide (0 ≤ t) && decide (t < T)
/-- E1: the first that applies. -/
def wrongE (T N : Int) (R : List Ru) (tok : List Int) : Int := if mayB T N R = false then 2 else if 30 < tok.length then 1 else if inB T tok = false then 3 else 0

end Go.Proofs.Ytjdoiieiimdmfaa

/- The contract of pollardingref5.Wrong. -/
namespace Go.Proofs.Ytjdoiieiimdmfaa
open Go.RowKit

set_option maxRecDepth 100000 in
set_option maxHeartbeats 1600000 in
theorem wrong5_any {w : World} {T N : Int} {rv tv : Value} {R : List Ru} {tok : List Int} (hr : RulesAt w w.heap.size rv R) (ht : ListAt w w.heap.size tv tok) :
    Calls Try.prog 5 #[.agg #[.int .i64 T, .int .i64 N, rv], tv] w fun e w' => e = .returned (.int .i64 (wrongE T N R tok)) ∧ Below w.heap.size w w' := by
  obtain ⟨ra, rc, hrv⟩ := hr.1
  obtain ⟨ta, tc, htv⟩ := ht.1
  subst hrv
  subst htv
  have may := may1_any (T := T) (N := N) (hr.boxed (.cells #[.int .i64 T, .int .i64 N, .slice ra R.length rc] 24))
  have HT : Hid (ListAt w w.heap.size (.slice ta tok.length tc) tok) := ht
  have HB0 : Hid (Below w.heap.size w (w.alloc (.cells #[.int .i64 T, .int .i64 N, .slice ra R.length rc] 24))) := (Below.refl _ _).alloc (Nat.le_refl _) _
  clear hr ht
  cases hm : mayB T N R with
  | false =>
    rw [hm] at may
    have HE : Hid (wrongE T N R tok = 2) := by show wrongE T N R tok = 2; simp [wrongE, hm]
    clear hm
    go_enter Try.func5, Try.ntmps5
    go_wp2_with
      (go_at_call 6; refine may.mono ?_; rintro e w1 ⟨rfl, hB1⟩
       have HB1 : Hid (Below w.heap.size w w1) := HB0.out.trans (hB1.mono (by simp))
       clear hB1)
    go_ret
    exact ⟨by rw [HE.out]; rfl, HB1.out⟩
  | true =>
    rw [hm] at may
    by_cases h30 : 30 < tok.length
    · have HE : Hid (wrongE T N R tok = 1) := by show wrongE T N R tok = 1; simp [wrongE, hm, h30]
      have j0 : (30 : Int) < (tok.length : Int) := by omega
      clear hm
      go_enter Try.func5, Try.ntmps5
      go_wp2_with
        (go_at_call 6; refine may.mono ?_; rintro e w1 ⟨rfl, hB1⟩
         have HB1 : Hid (Below w.heap.size w w1) := HB0.out.trans (hB1.mono (by simp))
         clear hB1)
      go_ret
      exact ⟨by rw [HE.out]; rfl, HB1.out⟩
    · have HW : Hid (wrongE T N R tok = if inB T tok = false then 3 else 0) := by show wrongE T N R tok = _; simp [wrongE, hm, h30]
      have j0 : decide ((30 : Int) < (tok.length : Int)) = false := decide_eq_false (by omega)
      clear hm
      go_enter Try.func5, Try.ntmps5
      go_wp2_with
        (go_at_call 6; refine may.mono ?_; rintro e w1 ⟨rfl, hB1⟩
         have HB1 : Hid (Below w.heap.size w w1) := HB0.out.trans (hB1.mono (by simp))
         have b0 : w1.cell? ⟨w.heap.size, 0, none⟩ = some (.int .i64 T) := (hB1.cell (by simp)).trans (by simp [go_sem])
         have HT1 : Hid (ListAt w1 w1.heap.size (.slice ta tok.length tc) tok) := (HT.out.below HB1.out).mono HB1.out.size
         clear hB1 may)
      have Hb0 : Hid (w1.cell? ⟨w.heap.size, 0, none⟩ = some (.int .i64 T)) := b0
      clear b0
      go_loopw [5] (fun s wr => ∃ i m : Nat, s = .int .i64 i ∧ i ≤ tok.length ∧ wr = w1.drewN m ∧ inB T (tok.take i) = true) (fun s _ => tok.length - (intOf s).toNat)
      case atStart => exact ⟨0, 0, rfl, Nat.zero_le _, rfl, rfl⟩
      case round =>
        obtain ⟨i, m, rfl, hi, rfl, hIn⟩ := hrel
        have HIn : Hid (inB T (tok.take i) = true) := hIn
        clear hIn
        by_cases hlt : i < tok.length
        · obtain ⟨tg, tO, tc', hte, _, d1⟩ := HT1.out.2 i hlt
          cases hte
          obtain ⟨x, hx⟩ : ∃ x, tok.getD i 0 = x := ⟨_, rfl⟩
          have hxe : tok[i] = x := by rw [← hx]; simp [List.getD, hlt]
          have HBad : Hid (¬ (0 ≤ x ∧ x < T) → inB T tok = false) := fun h => by
            unfold inB
            rw [List.all_eq_false]
            exact ⟨tok[i], List.getElem_mem hlt, by rw [hxe]; simpa using fun h1 => by have := fun h2 => h ⟨h1, h2⟩; omega⟩
          have HGood : Hid (0 ≤ x ∧ x < T → inB T (tok.take (i + 1)) = true) := fun h => by
            have := HIn.out
            unfold inB at this ⊢
            rw [List.take_succ_eq_append_getElem hlt, List.all_append, this, hxe]
            simp [h.1, h.2]
          rw [hx] at d1
          have b0 := Hb0.out
          have i0 : (0 : Int) ≤ (i : Int) := Int.natCast_nonneg _
          have i1 : (i : Int) < (tok.length : Int) := by omega
          clear hx hxe
          by_cases hx0 : x < 0
          · have HE : Hid (wrongE T N R tok = 3) := by show wrongE T N R tok = 3; rw [HW.out, HBad.out (by omega)]; rfl
            go_wp2_with fail
            go_big_quiet (fail)
            go_wp2_with fail
            go_ret
            exact ⟨by rw [HE.out]; rfl, below_drewN (below_drewN HB1.out _) _⟩
          · have hx1 : decide (x < 0) = false := decide_eq_false hx0
            by_cases hxT : T ≤ x
            · have HE : Hid (wrongE T N R tok = 3) := by show wrongE T N R tok = 3; rw [HW.out, HBad.out (by omega)]; rfl
              go_wp2_with fail
              go_big_quiet (fail)
              go_wp2_with fail
              go_ret
              exact ⟨by rw [HE.out]; rfl, below_drewN (below_drewN HB1.out _) _⟩
            · have hx2 : decide (T ≤ x) = false := decide_eq_false hxT
              have HG : Hid (inB T (tok.take (i + 1)) = true) := HGood.out ⟨by omega, by omega⟩
              go_wp2_with fail
              go_big_quiet (fail)
              go_wp2_with fail
              go_roundw
              case rel => exact ⟨i + 1, _, by go_num, by omega, rfl, HG.out⟩
              case measure => simp [intOf]; omega
        · have HE : Hid (wrongE T N R tok = 0) := by
            show wrongE T N R tok = 0
            have := HIn.out
            rw [List.take_of_length_le (by omega)] at this
            rw [HW.out, this]
            rfl
          go_wp2_with fail
          go_ret
          exact ⟨by rw [HE.out]; rfl, below_drewN HB1.out _⟩

end Go.Proofs.Ytjdoiieiimdmfaa
