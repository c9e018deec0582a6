/- The law pollardinglaw.TextParses: it returns true. -/
import Derived.Test.YtoecjlfkpfmadaaTxP9
import Derived.Test.YtoecjlfkpfmadaaSame8
namespace Go.Proofs.Ytoecjlfkpfmadaa
open Go.RowKit

theorem rules_nil (w : World) : RulesAt w w.heap.size (.slice none 0 0) [] := ⟨⟨none, 0, rfl⟩, fun q hq => by simp at hq⟩
section
variable {w : World} {s : List UInt8}
set_option maxRecDepth 100000 in
set_option maxHeartbeats 3200000 in
theorem textParses_yes (hs : s.length ≤ 1048576) (hok : pa9 s = true) : Calls Try.prog 3 #[.string ⟨s.toArray⟩] w fun e w' => e = .returned (.bool true) ∧ Below w.heap.size w w' := by
  obtain ⟨h1, h2⟩ := pok_same s
  have pa := parse_ok (w := w) (s := s) (by omega) (h1.trans hok)
  rw [h2 hok] at pa
  have hm : mayB (T9 s : Nat) (N9 s : Nat) (R9 s) = true := by
    unfold pa9 at hok
    simp only [Bool.and_eq_true] at hok
    exact hok.2
  have HL : Hid ((R9 s).length ≤ 1000 ∧ ∀ i, i < (R9 s).length → ((R9 s).getD i (0, [])).2.length ≤ 1000) := by
    obtain ⟨_, _, _, h40, h5⟩ := may_fine hm
    exact ⟨by omega, fun i hi => by have := (h5 i hi).2.2.1; omega⟩
  have HQ : Hid (∀ wq, Calls Try.prog 5 #[.string ⟨s.toArray⟩] wq fun e w' => ∃ rv, e = .returned (.tuple #[.agg #[.int .i64 (T9 s : Nat), .int .i64 (N9 s : Nat), rv], .agg #[.int .i64 0, .int .i64 0]]) ∧ RulesAt w' w'.heap.size rv (R9 s) ∧ Below wq.heap.size wq w') := fun wq => by
    refine (parse9_any wq s hs).mono ?_
    rintro e w' ⟨h | h, hB⟩
    · obtain ⟨_, rv, h3, h4⟩ := h
      exact ⟨rv, h3, h4, hB⟩
    · rw [hok] at h
      cases h.1
  obtain ⟨T, hT⟩ : ∃ x, T9 s = x := ⟨_, rfl⟩
  obtain ⟨N, hN⟩ : ∃ x, N9 s = x := ⟨_, rfl⟩
  obtain ⟨R, hR⟩ : ∃ x, R9 s = x := ⟨_, rfl⟩
  rw [hT, hN, hR] at pa HQ
  rw [hR] at HL
  clear hs hok h1 h2 hm hT hN hR
  go_enter Try.func3, Try.ntmps3
  go_upto_region 2 with
    (go_at_call 4; refine pa.mono ?_; rintro e w2 ⟨rv, rfl, h4, h5⟩
     obtain ⟨qa, qc, hrv⟩ := h4.1
     subst hrv
     clear pa)
  obtain ⟨p, hp⟩ : ∃ x, w2.heap.size = x := ⟨_, rfl⟩
  obtain ⟨W1, hW1⟩ : ∃ V, (w2.alloc (.cells #[.int .i64 (T : Int), .int .i64 (N : Int), .slice qa R.length qc] 24)).alloc (.cells #[.int .i64 0, .int .i64 0] 27) = V := ⟨_, rfl⟩
  have hB1 : Below w2.heap.size w2 W1 := by rw [← hW1]; exact ((Below.refl _ _).alloc (Nat.le_refl _) _).alloc (by simp) _
  have hx0 : W1.heap[p]? = some (.cells #[.int .i64 (T : Int), .int .i64 (N : Int), .slice qa R.length qc] 24 (0, 0)) := by
    rw [← hW1, ← hp]
    exact (Below.heap_alloc _ _ _ (by simp)).trans (heap_alloc_new w2 _)
  have hx1 : W1.heap[p + 1]? = some (.cells #[.int .i64 0, .int .i64 0] 27 (0, 0)) := by
    have := heap_alloc_new (w2.alloc (.cells #[.int .i64 (T : Int), .int .i64 (N : Int), .slice qa R.length qc] 24)) (.cells #[.int .i64 0, .int .i64 0] 27)
    rw [hW1] at this
    simpa [hp] using this
  have hr1 : RulesAt W1 W1.heap.size (.slice qa R.length qc) R := (h4.below hB1).mono hB1.size
  have HG : Hid (∀ wq, Below W1.heap.size W1 wq → (wq.cell? ⟨p, 0, none⟩ = some (.int .i64 (T : Int)) ∧ wq.cell? ⟨p, 1, none⟩ = some (.int .i64 (N : Int)) ∧ wq.cell? ⟨p, 2, none⟩ = some (.slice qa R.length qc)) ∧ (wq.cell? ⟨p + 1, 0, none⟩ = some (.int .i64 0) ∧ wq.cell? ⟨p + 1, 1, none⟩ = some (.int .i64 0)) ∧ RulesAt wq wq.heap.size (.slice qa R.length qc) R ∧ Below w.heap.size w wq) := fun wq hq => by
    have y0 := (hq.block _ (Array.getElem?_eq_some_iff.1 hx0).1).trans hx0
    have y1 := (hq.block _ (Array.getElem?_eq_some_iff.1 hx1).1).trans hx1
    have hz := h5.size
    have hz1 := hB1.size
    exact ⟨⟨cell_bk9 y0 rfl, cell_bk9 y0 rfl, cell_bk9 y0 rfl⟩, ⟨cell_bk9 y1 rfl, cell_bk9 y1 rfl⟩, (hr1.below hq).mono hq.size, h5.trans ((hB1.mono hz).trans (hq.mono (by omega)))⟩
  rw [hW1, hp]
  have pb := HQ.out W1
  clear hW1 hp hB1 hx0 hx1 hr1 h4 h5
  go_wp2_with
    (first
     | (go_at_call 5; refine pb.mono ?_; rintro e w3 ⟨rv, rfl, h4, h5⟩
        obtain ⟨ra, rc, hrv⟩ := h4.1
        subst hrv
        have hz := h5.size
        have h6 : Below W1.heap.size W1 ((w3.alloc (.cells #[.int .i64 (T : Int), .int .i64 (N : Int), .slice ra R.length rc] 24)).alloc (.cells #[.int .i64 0, .int .i64 0] 27)) := (h5.alloc hz _).alloc (by simp; omega) _
        obtain ⟨⟨x0, x1, x2⟩, ⟨y0, y1⟩, hr5, -⟩ := HG.out _ h6
        have sm := same8_eq (T := (T : Int)) (N := (N : Int)) hr5 ((h4.boxed (.cells #[.int .i64 (T : Int), .int .i64 (N : Int), .slice ra R.length rc] 24)).boxed (.cells #[.int .i64 0, .int .i64 0] 27)) HL.out.1 HL.out.2
        have H6 : Hid (Below W1.heap.size W1 ((w3.alloc (.cells #[.int .i64 (T : Int), .int .i64 (N : Int), .slice ra R.length rc] 24)).alloc (.cells #[.int .i64 0, .int .i64 0] 27))) := h6
        clear pb h4 h5 h6 hz hr5)
     | (go_at_call 6; refine sm.mono ?_; rintro e w8 ⟨rfl, h8⟩
        have H8 : Hid (Below W1.heap.size W1 w8) := H6.out.trans (h8.mono H6.out.size)
        clear h8 sm))
  go_ret
  exact ⟨rfl, (HG.out w8 H8.out).2.2.2⟩

set_option maxRecDepth 100000 in
set_option maxHeartbeats 3200000 in
theorem textParses_no (hs : s.length ≤ 1048576) (hok : pa9 s = false) : Calls Try.prog 3 #[.string ⟨s.toArray⟩] w fun e w' => e = .returned (.bool true) ∧ Below w.heap.size w w' := by
  have pa : Calls Try.prog 4 #[.string ⟨s.toArray⟩] w fun e w' => e = .returned (.tuple #[.agg #[.int .i64 0, .int .i64 0, .slice none 0 0], .agg #[.int .i64 2, .int .i64 (K9 s : Nat)]]) ∧ Below w.heap.size w w' := by
    obtain ⟨h1, h2, h3⟩ := all_same s
    have h4 := (pok_same s).1
    rw [hok] at h4
    cases h5 : (all9 s).2.2 with
    | false =>
      have := parse_line (w := w) (s := s) (by omega) h5
      rw [h1] at this
      exact this
    | true =>
      have := parse_may (w := w) (s := s) (by omega) h5 (by
        unfold pOk at h4
        rw [h5, Bool.true_and] at h4
        exact h4)
      rw [h1] at this
      exact this
  have HQ : Hid (∀ wq, Calls Try.prog 5 #[.string ⟨s.toArray⟩] wq fun e w' => e = .returned (.tuple #[.agg #[.int .i64 0, .int .i64 0, .slice none 0 0], .agg #[.int .i64 2, .int .i64 (K9 s : Nat)]]) ∧ Below wq.heap.size wq w') := fun wq => by
    refine (parse9_any wq s hs).mono ?_
    rintro e w' ⟨h | h, hB⟩
    · rw [hok] at h
      cases h.1
    · exact ⟨h.2, hB⟩
  obtain ⟨k, hk⟩ : ∃ x, K9 s = x := ⟨_, rfl⟩
  rw [hk] at pa HQ
  clear hs hok hk
  go_enter Try.func3, Try.ntmps3
  go_upto_region 2 with
    (go_at_call 4; refine pa.mono ?_; rintro e w2 ⟨rfl, h5⟩
     clear pa)
  obtain ⟨p, hp⟩ : ∃ x, w2.heap.size = x := ⟨_, rfl⟩
  obtain ⟨W1, hW1⟩ : ∃ V, (w2.alloc (.cells #[.int .i64 0, .int .i64 0, .slice none 0 0] 24)).alloc (.cells #[.int .i64 2, .int .i64 (k : Int)] 27) = V := ⟨_, rfl⟩
  have hB1 : Below w2.heap.size w2 W1 := by rw [← hW1]; exact ((Below.refl _ _).alloc (Nat.le_refl _) _).alloc (by simp) _
  have hx0 : W1.heap[p]? = some (.cells #[.int .i64 0, .int .i64 0, .slice none 0 0] 24 (0, 0)) := by
    rw [← hW1, ← hp]
    exact (Below.heap_alloc _ _ _ (by simp)).trans (heap_alloc_new w2 _)
  have hx1 : W1.heap[p + 1]? = some (.cells #[.int .i64 2, .int .i64 (k : Int)] 27 (0, 0)) := by
    have := heap_alloc_new (w2.alloc (.cells #[.int .i64 0, .int .i64 0, .slice none 0 0] 24)) (.cells #[.int .i64 2, .int .i64 (k : Int)] 27)
    rw [hW1] at this
    simpa [hp] using this
  have HG : Hid (∀ wq, Below W1.heap.size W1 wq → (wq.cell? ⟨p, 0, none⟩ = some (.int .i64 0) ∧ wq.cell? ⟨p, 1, none⟩ = some (.int .i64 0) ∧ wq.cell? ⟨p, 2, none⟩ = some (.slice none 0 0)) ∧ (wq.cell? ⟨p + 1, 0, none⟩ = some (.int .i64 2) ∧ wq.cell? ⟨p + 1, 1, none⟩ = some (.int .i64 (k : Int))) ∧ Below w.heap.size w wq) := fun wq hq => by
    have y0 := (hq.block _ (Array.getElem?_eq_some_iff.1 hx0).1).trans hx0
    have y1 := (hq.block _ (Array.getElem?_eq_some_iff.1 hx1).1).trans hx1
    have hz := h5.size
    have hz1 := hB1.size
    exact ⟨⟨cell_bk9 y0 rfl, cell_bk9 y0 rfl, cell_bk9 y0 rfl⟩, ⟨cell_bk9 y1 rfl, cell_bk9 y1 rfl⟩, h5.trans ((hB1.mono hz).trans (hq.mono (by omega)))⟩
  rw [hW1, hp]
  have pb := HQ.out W1
  clear hW1 hp hB1 hx0 hx1 h5
  go_wp2_with
    (first
     | (go_at_call 5; refine pb.mono ?_; rintro e w3 ⟨rfl, h5⟩
        have hz := h5.size
        have h6 : Below W1.heap.size W1 ((w3.alloc (.cells #[.int .i64 0, .int .i64 0, .slice none 0 0] 24)).alloc (.cells #[.int .i64 2, .int .i64 (k : Int)] 27)) := (h5.alloc hz _).alloc (by simp; omega) _
        obtain ⟨⟨x0, x1, x2⟩, ⟨y0, y1⟩, -⟩ := HG.out _ h6
        have sm := same8_eq (T := 0) (N := 0) (R := []) (rules_nil ((w3.alloc (.cells #[.int .i64 0, .int .i64 0, .slice none 0 0] 24)).alloc (.cells #[.int .i64 2, .int .i64 (k : Int)] 27))) (rules_nil _) (by simp) (fun i hi => by simp at hi)
        have H6 : Hid (Below W1.heap.size W1 ((w3.alloc (.cells #[.int .i64 0, .int .i64 0, .slice none 0 0] 24)).alloc (.cells #[.int .i64 2, .int .i64 (k : Int)] 27))) := h6
        clear pb h5 h6 hz)
     | (go_at_call 6; refine sm.mono ?_; rintro e w8 ⟨rfl, h8⟩
        have H8 : Hid (Below W1.heap.size W1 w8) := H6.out.trans (h8.mono H6.out.size)
        clear h8 sm))
  go_ret
  exact ⟨rfl, (HG.out w8 H8.out).2.2⟩

theorem textParses_any (hs : s.length ≤ 1048576) : Calls Try.prog 3 #[.string ⟨s.toArray⟩] w fun e w' => e = .returned (.bool true) ∧ Below w.heap.size w w' := by
  cases h : pa9 s with
  | true => exact textParses_yes hs h
  | false => exact textParses_no hs h
end
end Go.Proofs.Ytoecjlfkpfmadaa
