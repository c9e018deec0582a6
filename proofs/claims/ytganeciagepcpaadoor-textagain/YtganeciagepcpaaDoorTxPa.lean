/- The contract of text.Parse. -/
import Derived.Test.YtganeciagepcpaaDoorTxRls
import Derived.Test.YtganeciagepcpaaDoorMayG
namespace Go.Proofs.YtganeciagepcpaaDoor
open Go.RowKit

def pOk (s : List UInt8) : Bool := (all9 s).2.2 && mayB ((all9 s).1.1 : Nat) ((all9 s).1.2.1 : Nat) (all9 s).1.2.2

theorem flatR9_get {l : List (Value × Ru)} {i : Nat} (hi : i < l.length) : (flatR9 l)[i * 2]? = some (.int .i64 (l[i]).2.1) ∧ (flatR9 l)[i * 2 + 1]? = some (l[i]).1 := by
  unfold flatR9
  induction l generalizing i with
  | nil => simp at hi
  | cons a L ih =>
    rw [List.flatMap_cons]
    cases i with
    | zero => simp
    | succ i =>
      have := ih (i := i) (by simpa using hi)
      rw [List.getElem?_append_right (by simp; omega), List.getElem?_append_right (by simp; omega)]
      simp only [List.length_cons, List.length_nil]
      rw [show (i + 1) * 2 - (0 + 1 + 1) = i * 2 by omega, show (i + 1) * 2 + 1 - (0 + 1 + 1) = i * 2 + 1 by omega]
      simpa using this
section
variable {w w' : World} {gb : Nat} {T N : Int} {rv : Value} {RL : List (Value × Ru)}
theorem GR.rules (h : GR w gb T N rv RL) : RulesAt w w.heap.size rv (RL.map fun x => x.2) := by
  obtain ⟨a, c, hrv⟩ := own_form9 h.own
  refine ⟨⟨a, c, by rw [hrv, List.length_map]⟩, fun q hq => ?_⟩
  rw [List.length_map] at hq
  have hq' : (RL.map fun x => x.2).getD q (0, []) = (RL[q]).2 := by simp [List.getD, hq]
  rw [hq']
  have hown := h.own
  rcases hown.2 with ⟨_, h2⟩ | ⟨g, cap, cur, h1, _⟩
  · omega
  · obtain ⟨h3, h4⟩ := h.right (RL[q]) (List.getElem_mem hq)
    obtain ⟨h5, h6⟩ := flatR9_get hq
    subst h1
    obtain ⟨va, vc, hv⟩ := own_form9 h3
    have hle : (RL[q]).2.2.length ≤ vc := by
      rcases h3.2 with ⟨h7, h8⟩ | ⟨g', cap', cur', h7, _, _, h8, _⟩
      · omega
      · rw [hv] at h7; injection h7 with _ _ h7; omega
    refine ⟨g, 0, cap, va, vc, by rw [List.length_map], (hown.lt g rfl).2, ?_, ?_, hle, fun j hj => ?_⟩
    · rw [Nat.zero_add, hown.cellAt (q * 2) (by omega)]; exact h5
    · rw [Nat.zero_add, hown.cellAt (q * 2 + 1) (by omega), h6, hv]
    · rcases h3.2 with ⟨_, h8⟩ | ⟨g', cap', cur', h7, _⟩
      · omega
      · rw [hv] at h7
        injection h7 with h7 _ h9
        subst h7
        rw [hv] at h3
        refine ⟨g', 0, rfl, (h3.lt g' rfl).2, ?_, ?_⟩
        · rw [Nat.zero_add, h3.cellAt (j * 2) (by omega)]; exact flatY9_get (j := 0) hj (by omega)
        · rw [Nat.zero_add, h3.cellAt (j * 2 + 1) (by omega)]; exact flatY9_get (j := 1) hj (by omega)

theorem GR.but (h : GR w gb T N rv RL) {b : Nat} (hb : But b w w') (hlt : b < gb) : GR w' gb T N rv RL :=
  ⟨(hb.block _ h.lt (by omega)).trans h.at_, own_same h.own fun g hg => hb.block g (h.own.lt g hg).2 (by have := (h.own.lt g hg).1; omega), fun x hx => ⟨own_same (h.right x hx).1 fun g hg => hb.block g ((h.right x hx).1.lt g hg).2 (by have := ((h.right x hx).1.lt g hg).1; omega), (h.right x hx).2⟩⟩

theorem pa_end {p : Nat} {a0 a1 a2 b0 b1 A0 A1 A2 B0 B1 : Value} (y0 : w.heap[p]? = some (.cells #[a0, a1, a2] 24 (0, 0))) (y1 : w.heap[p + 1]? = some (.cells #[b0, b1] 27 (0, 0))) :
    ∃ u W, ((((w.setCell ⟨p, 0, none⟩ A0).setCell ⟨p, 1, none⟩ A1).setCell ⟨p, 2, none⟩ A2).setCell ⟨p + 1, 0, none⟩ B0).setCell ⟨p + 1, 1, none⟩ B1 = W ∧ W.heap[p]? = some (.cells #[A0, A1, A2] 24 (0, 0)) ∧ W.heap[p + 1]? = some (.cells #[B0, B1] 27 (0, 0)) ∧ But p w u ∧ But (p + 1) u W ∧ Below p w W := by
  have h1 : But p w (((w.setCell ⟨p, 0, none⟩ A0).setCell ⟨p, 1, none⟩ A1).setCell ⟨p, 2, none⟩ A2) := ((But.set _ _ _).trans (But.set _ _ _)).trans (But.set _ _ _)
  have h2 := Lib.heap_setCell_same (i := 2) (Lib.heap_setCell_same (i := 1) (Lib.heap_setCell_same (i := 0) y0 A0) A1) A2
  have hl1 := (Array.getElem?_eq_some_iff.1 y1).1
  have h3 := (h1.block (p + 1) hl1 (by omega)).trans y1
  have h4 : But (p + 1) (((w.setCell ⟨p, 0, none⟩ A0).setCell ⟨p, 1, none⟩ A1).setCell ⟨p, 2, none⟩ A2) _ := (But.set (p + 1) 0 B0).trans (But.set (p + 1) 1 B1)
  refine ⟨_, _, rfl, (h4.block p (Array.getElem?_eq_some_iff.1 h2).1 (by omega)).trans h2, Lib.heap_setCell_same (i := 1) (Lib.heap_setCell_same (i := 0) h3 B0) B1, h1, h4, ?_⟩
  exact (h1.below (Nat.le_refl _) (by omega)).trans (h4.below (by omega) (by have := h1.size; omega))

set_option maxRecDepth 100000 in
set_option maxHeartbeats 3200000 in
theorem parse_ok {s : List UInt8} (hs : s.length ≤ 9223372036854775807) (hok : pOk s = true) : Calls Tryd.prog 4 #[.string ⟨s.toArray⟩] w fun e w' => ∃ rv, e = .returned (.tuple #[.agg #[.int .i64 ((all9 s).1.1 : Nat), .int .i64 ((all9 s).1.2.1 : Nat), rv], .agg #[.int .i64 0, .int .i64 0]]) ∧ RulesAt w' w'.heap.size rv (all9 s).1.2.2 ∧ Below w.heap.size w w' := by
  obtain ⟨p, hp⟩ : ∃ x, w.heap.size = x := ⟨_, rfl⟩
  obtain ⟨W1, hW1⟩ : ∃ V, (w.alloc (.cells #[.int .i64 0, .int .i64 0, .slice none 0 0] 24)).alloc (.cells #[.int .i64 0, .int .i64 0] 27) = V := ⟨_, rfl⟩
  have hx0 : W1.heap[p]? = some (.cells #[.int .i64 0, .int .i64 0, .slice none 0 0] 24 (0, 0)) := by
    rw [← hW1, ← hp]
    exact (Below.heap_alloc _ _ _ (by simp)).trans (heap_alloc_new w _)
  have hx1 : W1.heap[p + 1]? = some (.cells #[.int .i64 0, .int .i64 0] 27 (0, 0)) := by
    have := heap_alloc_new (w.alloc (.cells #[.int .i64 0, .int .i64 0, .slice none 0 0] 24)) (.cells #[.int .i64 0, .int .i64 0] 27)
    rw [hW1] at this
    simpa [hp] using this
  have hz1 : W1.heap.size = p + 2 := by rw [← hW1]; simp [hp]
  have hB1 : Below p w W1 := by rw [← hW1, ← hp]; exact ((Below.refl _ _).alloc (Nat.le_refl _) _).alloc (by simp) _
  have H1 : Hid (W1.heap[p]? = some (.cells #[.int .i64 0, .int .i64 0, .slice none 0 0] 24 (0, 0)) ∧ W1.heap[p + 1]? = some (.cells #[.int .i64 0, .int .i64 0] 27 (0, 0)) ∧ W1.heap.size = p + 2 ∧ Below p w W1) := ⟨hx0, hx1, hz1, hB1⟩
  have HW : Hid ((w.alloc (.cells #[.int .i64 0, .int .i64 0, .slice none 0 0] 24)).alloc (.cells #[.int .i64 0, .int .i64 0] 27) = W1 ∧ w.heap.size = p) := ⟨hW1, hp⟩
  have rls := readLines_any (w := W1) hs
  rw [hz1] at rls
  obtain ⟨⟨⟨T, N, R⟩, k, ok⟩, hall⟩ : ∃ x, all9 s = x := ⟨_, rfl⟩
  unfold pOk at hok
  rw [hall] at hok rls ⊢
  simp only [Bool.and_eq_true] at hok
  obtain ⟨hok1, hok2⟩ := hok
  simp only at rls hok1 hok2 ⊢
  subst hok1
  have HM : Hid (mayB (T : Int) (N : Int) R = true) := hok2
  clear hx0 hx1 hz1 hB1 hW1 hp hall hok2 hs
  rw [HW.out.2]
  go_enter Tryd.func4, Tryd.ntmps4
  go_upto_region 1 with fail
  rw [HW.out.1]
  rw [HW.out.2]
  clear HW
  go_wp2_with
    (first
     | (go_at_call 6; refine rls.mono ?_; rintro e w2 ⟨rv, RL, rfl, h2, h3, h4⟩
        obtain ⟨ra, rc, hrv⟩ := own_form9 h2.own
        subst hrv
        have hR2 := h2.rules
        rw [h3] at hR2
        have hR3 := hR2.boxed (.cells #[.int .i64 (T : Int), .int .i64 (N : Int), .slice ra RL.length rc] 24)
        have may := mayG_any (T := (T : Int)) (N := (N : Int)) hR3
        have H2 : Hid (GR w2 (p + 2) T N (.slice ra RL.length rc) RL ∧ RL.map (fun x => x.2) = R ∧ Below (p + 2) W1 w2) := ⟨h2, h3, h4⟩
        rw [HM.out] at may
        clear rls h2 h3 h4 hR2 hR3)
     | (go_at_call 7; refine may.mono ?_; rintro e w4 ⟨rfl, h4⟩
        obtain ⟨W3, hW3⟩ : ∃ V, w2.alloc (.cells #[.int .i64 (T : Int), .int .i64 (N : Int), .slice ra RL.length rc] 24) = V := ⟨_, rfl⟩
        have hx3 := heap_alloc_new w2 (.cells #[.int .i64 (T : Int), .int .i64 (N : Int), .slice ra RL.length rc] 24)
        rw [hW3] at hx3 h4
        have hB3 : Below w2.heap.size w2 W3 := by rw [← hW3]; exact (Below.refl _ _).alloc (Nat.le_refl _) _
        have hy := (h4.block _ (Array.getElem?_eq_some_iff.1 hx3).1).trans hx3
        have hB4 : Below w2.heap.size w2 w4 := hB3.trans (h4.mono hB3.size)
        have hsz2 : p + 2 ≤ w2.heap.size := by have := H2.out.2.2.size; have := H1.out.2.2.1; omega
        have y0 := (hB4.block p (by omega)).trans ((H2.out.2.2.block p (by omega)).trans H1.out.1)
        have y1 := (hB4.block (p + 1) (by omega)).trans ((H2.out.2.2.block (p + 1) (by omega)).trans H1.out.2.1)
        have H4 : Hid (GR w4 (p + 2) T N (.slice ra RL.length rc) RL ∧ w4.heap[p]? = some (.cells #[.int .i64 0, .int .i64 0, .slice none 0 0] 24 (0, 0)) ∧ w4.heap[p + 1]? = some (.cells #[.int .i64 0, .int .i64 0] 27 (0, 0)) ∧ Below p w w4) :=
          ⟨H2.out.1.later hB4, y0, y1, H1.out.2.2.2.trans ((H2.out.2.2.mono (by omega)).trans (hB4.mono (by omega)))⟩
        have u0 := cell_bk9 (i := 0) hy rfl
        have u1 := cell_bk9 (i := 1) hy rfl
        have u2 := cell_bk9 (i := 2) hy rfl
        have c0 := cell_bk9 (i := 0) y0 rfl
        have c1 := cell_bk9 (i := 1) y0 rfl
        have c2 := cell_bk9 (i := 2) y0 rfl
        have f0 := frozen_bk9 (i := 0) y0
        have f1 := frozen_bk9 (i := 1) y0
        have f2 := frozen_bk9 (i := 2) y0
        have d0 := cell_bk9 (i := 0) y1 rfl
        have d1 := cell_bk9 (i := 1) y1 rfl
        have g0 := frozen_bk9 (i := 0) y1
        have g1 := frozen_bk9 (i := 1) y1
        clear may h4 hx3 hB3 hy hB4 hsz2 y0 y1 hW3))
  obtain ⟨u, W5, hW5, q0, q1, hu1, hu2, hB5⟩ := pa_end (A0 := .int .i64 (T : Int)) (A1 := .int .i64 (N : Int)) (A2 := .slice ra RL.length rc) (B0 := .int .i64 0) (B1 := .int .i64 0) H4.out.2.1 H4.out.2.2.1
  rw [hW5]
  have x0 := cell_bk9 (i := 0) q0 rfl
  have x1 := cell_bk9 (i := 1) q0 rfl
  have x2 := cell_bk9 (i := 2) q0 rfl
  have x3 := cell_bk9 (i := 0) q1 rfl
  have x4 := cell_bk9 (i := 1) q1 rfl
  refine bodyPost_ret (v := .tuple #[.agg #[.int .i64 (T : Int), .int .i64 (N : Int), .slice ra RL.length rc], .agg #[.int .i64 0, .int .i64 0]]) (by simp [results, Tryd.results4, go_sem, x0, x1, x2, x3, x4]) rfl ⟨.slice ra RL.length rc, rfl, ?_, H4.out.2.2.2.trans hB5⟩
  have := ((H4.out.1.but hu1 (by omega)).but hu2 (by omega)).rules
  rw [H2.out.2.1] at this
  exact this

set_option maxRecDepth 100000 in
set_option maxHeartbeats 3200000 in
theorem parse_may {s : List UInt8} (hs : s.length ≤ 9223372036854775807) (hok1 : (all9 s).2.2 = true) (hok2 : mayB ((all9 s).1.1 : Nat) ((all9 s).1.2.1 : Nat) (all9 s).1.2.2 = false) : Calls Tryd.prog 4 #[.string ⟨s.toArray⟩] w fun e w' => e = .returned (.tuple #[.agg #[.int .i64 0, .int .i64 0, .slice none 0 0], .agg #[.int .i64 2, .int .i64 ((all9 s).2.1 : Nat)]]) ∧ Below w.heap.size w w' := by
  obtain ⟨p, hp⟩ : ∃ x, w.heap.size = x := ⟨_, rfl⟩
  obtain ⟨W1, hW1⟩ : ∃ V, (w.alloc (.cells #[.int .i64 0, .int .i64 0, .slice none 0 0] 24)).alloc (.cells #[.int .i64 0, .int .i64 0] 27) = V := ⟨_, rfl⟩
  have hx0 : W1.heap[p]? = some (.cells #[.int .i64 0, .int .i64 0, .slice none 0 0] 24 (0, 0)) := by
    rw [← hW1, ← hp]
    exact (Below.heap_alloc _ _ _ (by simp)).trans (heap_alloc_new w _)
  have hx1 : W1.heap[p + 1]? = some (.cells #[.int .i64 0, .int .i64 0] 27 (0, 0)) := by
    have := heap_alloc_new (w.alloc (.cells #[.int .i64 0, .int .i64 0, .slice none 0 0] 24)) (.cells #[.int .i64 0, .int .i64 0] 27)
    rw [hW1] at this
    simpa [hp] using this
  have hz1 : W1.heap.size = p + 2 := by rw [← hW1]; simp [hp]
  have hB1 : Below p w W1 := by rw [← hW1, ← hp]; exact ((Below.refl _ _).alloc (Nat.le_refl _) _).alloc (by simp) _
  have H1 : Hid (W1.heap[p]? = some (.cells #[.int .i64 0, .int .i64 0, .slice none 0 0] 24 (0, 0)) ∧ W1.heap[p + 1]? = some (.cells #[.int .i64 0, .int .i64 0] 27 (0, 0)) ∧ W1.heap.size = p + 2 ∧ Below p w W1) := ⟨hx0, hx1, hz1, hB1⟩
  have HW : Hid ((w.alloc (.cells #[.int .i64 0, .int .i64 0, .slice none 0 0] 24)).alloc (.cells #[.int .i64 0, .int .i64 0] 27) = W1 ∧ w.heap.size = p) := ⟨hW1, hp⟩
  have rls := readLines_any (w := W1) hs
  rw [hz1] at rls
  obtain ⟨⟨⟨T, N, R⟩, k, ok⟩, hall⟩ : ∃ x, all9 s = x := ⟨_, rfl⟩
  rw [hall] at hok1 hok2 rls ⊢
  simp only at rls hok1 hok2 ⊢
  subst hok1
  have HM : Hid (mayB (T : Int) (N : Int) R = false) := hok2
  clear hx0 hx1 hz1 hB1 hW1 hp hall hok2 hs
  rw [HW.out.2]
  go_enter Tryd.func4, Tryd.ntmps4
  go_upto_region 1 with fail
  rw [HW.out.1]
  rw [HW.out.2]
  clear HW
  go_wp2_with
    (first
     | (go_at_call 6; refine rls.mono ?_; rintro e w2 ⟨rv, RL, rfl, h2, h3, h4⟩
        obtain ⟨ra, rc, hrv⟩ := own_form9 h2.own
        subst hrv
        have hR2 := h2.rules
        rw [h3] at hR2
        have hR3 := hR2.boxed (.cells #[.int .i64 (T : Int), .int .i64 (N : Int), .slice ra RL.length rc] 24)
        have may := mayG_any (T := (T : Int)) (N := (N : Int)) hR3
        have H2 : Hid (GR w2 (p + 2) T N (.slice ra RL.length rc) RL ∧ RL.map (fun x => x.2) = R ∧ Below (p + 2) W1 w2) := ⟨h2, h3, h4⟩
        rw [HM.out] at may
        clear rls h2 h3 h4 hR2 hR3)
     | (go_at_call 7; refine may.mono ?_; rintro e w4 ⟨rfl, h4⟩
        obtain ⟨W3, hW3⟩ : ∃ V, w2.alloc (.cells #[.int .i64 (T : Int), .int .i64 (N : Int), .slice ra RL.length rc] 24) = V := ⟨_, rfl⟩
        have hx3 := heap_alloc_new w2 (.cells #[.int .i64 (T : Int), .int .i64 (N : Int), .slice ra RL.length rc] 24)
        rw [hW3] at hx3 h4
        have hB3 : Below w2.heap.size w2 W3 := by rw [← hW3]; exact (Below.refl _ _).alloc (Nat.le_refl _) _
        have hy := (h4.block _ (Array.getElem?_eq_some_iff.1 hx3).1).trans hx3
        have hB4 : Below w2.heap.size w2 w4 := hB3.trans (h4.mono hB3.size)
        have hsz2 : p + 2 ≤ w2.heap.size := by have := H2.out.2.2.size; have := H1.out.2.2.1; omega
        have y0 := (hB4.block p (by omega)).trans ((H2.out.2.2.block p (by omega)).trans H1.out.1)
        have y1 := (hB4.block (p + 1) (by omega)).trans ((H2.out.2.2.block (p + 1) (by omega)).trans H1.out.2.1)
        have H4 : Hid (GR w4 (p + 2) T N (.slice ra RL.length rc) RL ∧ w4.heap[p]? = some (.cells #[.int .i64 0, .int .i64 0, .slice none 0 0] 24 (0, 0)) ∧ w4.heap[p + 1]? = some (.cells #[.int .i64 0, .int .i64 0] 27 (0, 0)) ∧ Below p w w4) :=
          ⟨H2.out.1.later hB4, y0, y1, H1.out.2.2.2.trans ((H2.out.2.2.mono (by omega)).trans (hB4.mono (by omega)))⟩
        have u0 := cell_bk9 (i := 0) hy rfl
        have u1 := cell_bk9 (i := 1) hy rfl
        have u2 := cell_bk9 (i := 2) hy rfl
        have c0 := cell_bk9 (i := 0) y0 rfl
        have c1 := cell_bk9 (i := 1) y0 rfl
        have c2 := cell_bk9 (i := 2) y0 rfl
        have f0 := frozen_bk9 (i := 0) y0
        have f1 := frozen_bk9 (i := 1) y0
        have f2 := frozen_bk9 (i := 2) y0
        have d0 := cell_bk9 (i := 0) y1 rfl
        have d1 := cell_bk9 (i := 1) y1 rfl
        have g0 := frozen_bk9 (i := 0) y1
        have g1 := frozen_bk9 (i := 1) y1
        clear may h4 hx3 hB3 hy hB4 hsz2 y0 y1 hW3))
  obtain ⟨u, W5, hW5, q0, q1, hu1, hu2, hB5⟩ := pa_end (A0 := .int .i64 0) (A1 := .int .i64 0) (A2 := .slice none 0 0) (B0 := .int .i64 2) (B1 := .int .i64 (k : Int)) H4.out.2.1 H4.out.2.2.1
  rw [hW5]
  have x0 := cell_bk9 (i := 0) q0 rfl
  have x1 := cell_bk9 (i := 1) q0 rfl
  have x2 := cell_bk9 (i := 2) q0 rfl
  have x3 := cell_bk9 (i := 0) q1 rfl
  have x4 := cell_bk9 (i := 1) q1 rfl
  exact bodyPost_ret (v := .tuple #[.agg #[.int .i64 0, .int .i64 0, .slice none 0 0], .agg #[.int .i64 2, .int .i64 (k : Int)]]) (by simp [results, Tryd.results4, go_sem, x0, x1, x2, x3, x4]) rfl ⟨rfl, H4.out.2.2.2.trans hB5⟩

set_option maxRecDepth 100000 in
set_option maxHeartbeats 3200000 in
theorem parse_line {s : List UInt8} (hs : s.length ≤ 9223372036854775807) (hok1 : (all9 s).2.2 = false) : Calls Tryd.prog 4 #[.string ⟨s.toArray⟩] w fun e w' => e = .returned (.tuple #[.agg #[.int .i64 0, .int .i64 0, .slice none 0 0], .agg #[.int .i64 2, .int .i64 ((all9 s).2.1 : Nat)]]) ∧ Below w.heap.size w w' := by
  obtain ⟨p, hp⟩ : ∃ x, w.heap.size = x := ⟨_, rfl⟩
  obtain ⟨W1, hW1⟩ : ∃ V, (w.alloc (.cells #[.int .i64 0, .int .i64 0, .slice none 0 0] 24)).alloc (.cells #[.int .i64 0, .int .i64 0] 27) = V := ⟨_, rfl⟩
  have hx0 : W1.heap[p]? = some (.cells #[.int .i64 0, .int .i64 0, .slice none 0 0] 24 (0, 0)) := by
    rw [← hW1, ← hp]
    exact (Below.heap_alloc _ _ _ (by simp)).trans (heap_alloc_new w _)
  have hx1 : W1.heap[p + 1]? = some (.cells #[.int .i64 0, .int .i64 0] 27 (0, 0)) := by
    have := heap_alloc_new (w.alloc (.cells #[.int .i64 0, .int .i64 0, .slice none 0 0] 24)) (.cells #[.int .i64 0, .int .i64 0] 27)
    rw [hW1] at this
    simpa [hp] using this
  have hz1 : W1.heap.size = p + 2 := by rw [← hW1]; simp [hp]
  have hB1 : Below p w W1 := by rw [← hW1, ← hp]; exact ((Below.refl _ _).alloc (Nat.le_refl _) _).alloc (by simp) _
  have H1 : Hid (W1.heap[p]? = some (.cells #[.int .i64 0, .int .i64 0, .slice none 0 0] 24 (0, 0)) ∧ W1.heap[p + 1]? = some (.cells #[.int .i64 0, .int .i64 0] 27 (0, 0)) ∧ W1.heap.size = p + 2 ∧ Below p w W1) := ⟨hx0, hx1, hz1, hB1⟩
  have HW : Hid ((w.alloc (.cells #[.int .i64 0, .int .i64 0, .slice none 0 0] 24)).alloc (.cells #[.int .i64 0, .int .i64 0] 27) = W1 ∧ w.heap.size = p) := ⟨hW1, hp⟩
  have rls := readLines_any (w := W1) hs
  rw [hz1] at rls
  obtain ⟨⟨⟨T, N, R⟩, k, ok⟩, hall⟩ : ∃ x, all9 s = x := ⟨_, rfl⟩
  rw [hall] at hok1 rls ⊢
  simp only at rls hok1 ⊢
  subst hok1
  clear hx0 hx1 hz1 hB1 hW1 hp hall hs
  rw [HW.out.2]
  go_enter Tryd.func4, Tryd.ntmps4
  go_upto_region 1 with fail
  rw [HW.out.1]
  rw [HW.out.2]
  clear HW
  go_upto_region 3 with
    (go_at_call 6; refine rls.mono ?_; rintro e w2 ⟨rv, RL, rfl, h2, h3, h4⟩
     obtain ⟨ra, rc, hrv⟩ := own_form9 h2.own
     subst hrv
     have hsz2 : p + 2 ≤ w2.heap.size := by have := h4.size; have := H1.out.2.2.1; omega
     have y0 := (Below.heap_alloc w2 (.cells #[.int .i64 (T : Int), .int .i64 (N : Int), .slice ra RL.length rc] 24) p (by omega)).trans ((h4.block p (by omega)).trans H1.out.1)
     have y1 := (Below.heap_alloc w2 (.cells #[.int .i64 (T : Int), .int .i64 (N : Int), .slice ra RL.length rc] 24) (p + 1) (by omega)).trans ((h4.block (p + 1) (by omega)).trans H1.out.2.1)
     have hB4 : Below p w (w2.alloc (.cells #[.int .i64 (T : Int), .int .i64 (N : Int), .slice ra RL.length rc] 24)) := (H1.out.2.2.2.trans (h4.mono (by omega))).alloc (by omega) _
     obtain ⟨W3, hW3⟩ : ∃ V, w2.alloc (.cells #[.int .i64 (T : Int), .int .i64 (N : Int), .slice ra RL.length rc] 24) = V := ⟨_, rfl⟩
     have HW3 : Hid (w2.alloc (.cells #[.int .i64 (T : Int), .int .i64 (N : Int), .slice ra RL.length rc] 24) = W3) := hW3
     rw [hW3] at y0 y1 hB4
     have H4 : Hid (W3.heap[p]? = some (.cells #[.int .i64 0, .int .i64 0, .slice none 0 0] 24 (0, 0)) ∧ W3.heap[p + 1]? = some (.cells #[.int .i64 0, .int .i64 0] 27 (0, 0)) ∧ Below p w W3) := ⟨y0, y1, hB4⟩
     clear rls h2 h3 h4 hsz2 y0 y1 hB4 hW3)
  rw [HW3.out]
  have c0 := cell_bk9 (i := 0) H4.out.1 rfl
  have c1 := cell_bk9 (i := 1) H4.out.1 rfl
  have c2 := cell_bk9 (i := 2) H4.out.1 rfl
  have f0 := frozen_bk9 (i := 0) H4.out.1
  have f1 := frozen_bk9 (i := 1) H4.out.1
  have f2 := frozen_bk9 (i := 2) H4.out.1
  have d0 := cell_bk9 (i := 0) H4.out.2.1 rfl
  have d1 := cell_bk9 (i := 1) H4.out.2.1 rfl
  have g0 := frozen_bk9 (i := 0) H4.out.2.1
  have g1 := frozen_bk9 (i := 1) H4.out.2.1
  go_wp2_with fail
  obtain ⟨u, W5, hW5, q0, q1, hu1, hu2, hB5⟩ := pa_end (A0 := .int .i64 0) (A1 := .int .i64 0) (A2 := .slice none 0 0) (B0 := .int .i64 2) (B1 := .int .i64 (k : Int)) H4.out.1 H4.out.2.1
  rw [hW5]
  have x0 := cell_bk9 (i := 0) q0 rfl
  have x1 := cell_bk9 (i := 1) q0 rfl
  have x2 := cell_bk9 (i := 2) q0 rfl
  have x3 := cell_bk9 (i := 0) q1 rfl
  have x4 := cell_bk9 (i := 1) q1 rfl
  exact bodyPost_ret (v := .tuple #[.agg #[.int .i64 0, .int .i64 0, .slice none 0 0], .agg #[.int .i64 2, .int .i64 (k : Int)]]) (by simp [results, Tryd.results4, go_sem, x0, x1, x2, x3, x4]) rfl ⟨rfl, H4.out.2.2.trans hB5⟩

end
end Go.Proofs.YtganeciagepcpaaDoor
