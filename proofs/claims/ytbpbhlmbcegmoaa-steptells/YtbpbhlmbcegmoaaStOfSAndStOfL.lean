import Derived.Test.YtbpbhlmbcegmoaaStCopiesAndStCx
import Derived.BigQuiet
import Derived.Test.YtbpbhlmbcegmoaaMay8AndOne8Mem
/- The contracts of package step's swapOf and extractOf. -/
namespace Go.Proofs.Ytbpbhlmbcegmoaa
open Go.RowKit

set_option maxRecDepth 100000 in
theorem st_isName {w : World} {xb : Nat} {n N : Int} (x1 : w.cell? ⟨xb, 1, none⟩ = some (.int .i64 N)) :
    Calls Try.prog 28 #[.int .i64 n, .pointer (some ⟨xb, 0, none⟩)] w fun e w' => e = .returned (.bool (decide (0 < n) && decide (n < N))) ∧ w' = w := by
  by_cases h0 : 0 < n
  · have e0 : decide (0 < n) = true := decide_eq_true h0
    by_cases h1 : n < N
    · have e1 : decide (n < N) = true := decide_eq_true h1
      rw [e0, e1]
      go_enter Try.func28, Try.ntmps28
      go_wp2_with fail
      go_ret
      exact ⟨rfl, rfl⟩
    · have e1 : decide (n < N) = false := decide_eq_false h1
      rw [e0, e1]
      clear h1
      go_enter Try.func28, Try.ntmps28
      go_wp2_with fail
      go_ret
      exact ⟨rfl, rfl⟩
  · have e0 : decide (0 < n) = false := decide_eq_false h0
    rw [e0]
    clear h0
    go_enter Try.func28, Try.ntmps28
    go_wp2_with fail
    go_ret
    exact ⟨rfl, rfl⟩

set_option maxRecDepth 100000 in
set_option maxHeartbeats 6400000 in
theorem st_swapOf {w : World} {T N : Int} {ra : Option Addr} {rn rc : Nat} {op a b c : Int} :
    Calls Try.prog 20 #[.agg #[.int .i64 T, .int .i64 N, .slice ra rn rc, .int .i64 op, .int .i64 a, .int .i64 b, .int .i64 c]] w fun e w' => e = .returned (.tuple #[.iface 60 (.agg #[.int .i64 T, .int .i64 N, .slice ra rn rc, .int .i64 op, .int .i64 a, .int .i64 b, .int .i64 c]), .bool (decide (0 < a) && decide (a < N) && (decide (0 < b) && decide (b < N)) && decide (c = 0))]) ∧ Below w.heap.size w w' := by
  obtain ⟨W0, hW0⟩ : ∃ W, w.alloc (.cells #[.int .i64 T, .int .i64 N, .slice ra rn rc, .int .i64 op, .int .i64 a, .int .i64 b, .int .i64 c] 47) = W := ⟨_, rfl⟩
  have HB : Hid (Below w.heap.size w W0) := by show Below _ _ _; rw [← hW0]; exact (Below.refl _ _).alloc (Nat.le_refl _) _
  have hb := heap_alloc_new w (.cells #[.int .i64 T, .int .i64 N, .slice ra rn rc, .int .i64 op, .int .i64 a, .int .i64 b, .int .i64 c] 47)
  rw [hW0] at hb
  have x0 : W0.cell? ⟨w.heap.size, 0, none⟩ = some (.int .i64 T) := cell_of_blk hb rfl
  have x1 : W0.cell? ⟨w.heap.size, 1, none⟩ = some (.int .i64 N) := cell_of_blk hb rfl
  have x2 : W0.cell? ⟨w.heap.size, 2, none⟩ = some (.slice ra rn rc) := cell_of_blk hb rfl
  have x3 : W0.cell? ⟨w.heap.size, 3, none⟩ = some (.int .i64 op) := cell_of_blk hb rfl
  have x4 : W0.cell? ⟨w.heap.size, 4, none⟩ = some (.int .i64 a) := cell_of_blk hb rfl
  have x5 : W0.cell? ⟨w.heap.size, 5, none⟩ = some (.int .i64 b) := cell_of_blk hb rfl
  have x6 : W0.cell? ⟨w.heap.size, 6, none⟩ = some (.int .i64 c) := cell_of_blk hb rfl
  have ia := fun k => st_isName (w := W0.drewN k) (xb := w.heap.size) (n := a) (N := N) x1
  have ib := fun k => st_isName (w := W0.drewN k) (xb := w.heap.size) (n := b) (N := N) x1
  clear hb
  cases hA : (decide (0 < a) && decide (a < N)) with
  | false =>
    simp only [hA] at ia
    go_enter Try.func20, Try.ntmps20
    go_wp2_with fail
    go_big_quiet ((go_at_call 28; exact Calls.quiet_of_same (ia _)))
    go_wp2_with fail
    refine bodyPost_ret (v := .tuple #[.iface 60 (.agg #[.int .i64 T, .int .i64 N, .slice ra rn rc, .int .i64 op, .int .i64 a, .int .i64 b, .int .i64 c]), .bool false]) (by simp [results, Try.results20, go_sem]) rfl ?_
    exact ⟨by simp, below_drewN HB.out _⟩
  | true =>
    simp only [hA] at ia
    cases hB : (decide (0 < b) && decide (b < N)) with
    | false =>
      simp only [hB] at ib
      go_enter Try.func20, Try.ntmps20
      go_wp2_with fail
      go_big_quiet ((go_at_call 28; first | with_reducible exact Calls.quiet_of_same (ia _) | with_reducible exact Calls.quiet_of_same (ib _)))
      go_wp2_with fail
      refine bodyPost_ret (v := .tuple #[.iface 60 (.agg #[.int .i64 T, .int .i64 N, .slice ra rn rc, .int .i64 op, .int .i64 a, .int .i64 b, .int .i64 c]), .bool false]) (by simp [results, Try.results20, go_sem]) rfl ?_
      exact ⟨by simp, below_drewN HB.out _⟩
    | true =>
      simp only [hB] at ib
      by_cases hc : c = 0
      · have ec : (c == 0) = true := by simpa using hc
        have HCc : Hid (decide (c = 0) = true) := decide_eq_true hc
        clear hc
        go_enter Try.func20, Try.ntmps20
        go_wp2_with fail
        go_big_quiet ((go_at_call 28; first | with_reducible exact Calls.quiet_of_same (ia _) | with_reducible exact Calls.quiet_of_same (ib _)))
        go_wp2_with fail
        refine bodyPost_ret (v := .tuple #[.iface 60 (.agg #[.int .i64 T, .int .i64 N, .slice ra rn rc, .int .i64 op, .int .i64 a, .int .i64 b, .int .i64 c]), .bool true]) (by simp [results, Try.results20, go_sem]) rfl ?_
        exact ⟨by rw [HCc.out]; rfl, below_drewN HB.out _⟩
      · have ec : (c == 0) = false := by simpa using hc
        have HCc : Hid (decide (c = 0) = false) := decide_eq_false hc
        clear hc
        go_enter Try.func20, Try.ntmps20
        go_wp2_with fail
        go_big_quiet ((go_at_call 28; first | with_reducible exact Calls.quiet_of_same (ia _) | with_reducible exact Calls.quiet_of_same (ib _)))
        go_wp2_with fail
        refine bodyPost_ret (v := .tuple #[.iface 60 (.agg #[.int .i64 T, .int .i64 N, .slice ra rn rc, .int .i64 op, .int .i64 a, .int .i64 b, .int .i64 c]), .bool false]) (by simp [results, Try.results20, go_sem]) rfl ?_
        exact ⟨by rw [HCc.out]; rfl, below_drewN HB.out _⟩

end Go.Proofs.Ytbpbhlmbcegmoaa

/- slices.Concat of one, two and three rows of symbols. No walk. -/
namespace Go.Proofs.Ytbpbhlmbcegmoaa
open Go.RowKit

section
variable {w : World} {pb : Nat} {va vb vc : Value} {la lb lc : List Sy}

theorem cat3 (p0 : w.cell? ⟨pb, 0, none⟩ = some va) (p1 : w.cell? ⟨pb, 1, none⟩ = some vb) (p2 : w.cell? ⟨pb, 2, none⟩ = some vc) (ha : SymsAt w va la) (hb : SymsAt w vb lb) (hc : SymsAt w vc lc) (hs : la.length + lb.length + lc.length ≤ 100000) :
    Calls Try.prog 71 #[.slice (some ⟨pb, 0, none⟩) 3 3] w fun e w' => ∃ a d, e = .returned (.slice a (la.length + lb.length + lc.length) d) ∧ w'.ownsRow w.heap.size 43 2 (.slice a (la.length + lb.length + lc.length) d) (la.length + lb.length + lc.length) (flatY (la ++ lb ++ lc)) ∧ Below w.heap.size w w' := by
  have hN : totN [(va, la.length, flatY la), (vb, lb.length, flatY lb), (vc, lc.length, flatY lc)] = la.length + lb.length + lc.length := by simp [totN]; omega
  have hX : totX [(va, la.length, flatY la), (vb, lb.length, flatY lb), (vc, lc.length, flatY lc)] = flatY (la ++ lb ++ lc) := by simp [totX, flatY_append]
  have cc := concat_ccY (w := w) (pb := pb) (PL := [(va, la.length, flatY la), (vb, lb.length, flatY lb), (vc, lc.length, flatY lc)]) (fun i hi => by
    match i, hi with
    | 0, _ => exact p0
    | 1, _ => exact p1
    | 2, _ => exact p2
    | i + 3, hi => exact absurd hi (by simp)) (fun p hp => by
    simp only [List.mem_cons, List.not_mem_nil, or_false] at hp
    rcases hp with rfl | rfl | rfl
    · exact ha.row
    · exact hb.row
    · exact hc.row) (by rw [hN]; exact hs) (by simp)
  rw [hN, hX] at cc
  exact cc
theorem cat2 (p0 : w.cell? ⟨pb, 0, none⟩ = some va) (p1 : w.cell? ⟨pb, 1, none⟩ = some vb) (ha : SymsAt w va la) (hb : SymsAt w vb lb) (hs : la.length + lb.length ≤ 100000) :
    Calls Try.prog 71 #[.slice (some ⟨pb, 0, none⟩) 2 2] w fun e w' => ∃ a d, e = .returned (.slice a (la.length + lb.length) d) ∧ w'.ownsRow w.heap.size 43 2 (.slice a (la.length + lb.length) d) (la.length + lb.length) (flatY (la ++ lb)) ∧ Below w.heap.size w w' := by
  have hN : totN [(va, la.length, flatY la), (vb, lb.length, flatY lb)] = la.length + lb.length := by simp [totN]
  have hX : totX [(va, la.length, flatY la), (vb, lb.length, flatY lb)] = flatY (la ++ lb) := by simp [totX, flatY_append]
  have cc := concat_ccY (w := w) (pb := pb) (PL := [(va, la.length, flatY la), (vb, lb.length, flatY lb)]) (fun i hi => by
    match i, hi with
    | 0, _ => exact p0
    | 1, _ => exact p1
    | i + 2, hi => exact absurd hi (by simp)) (fun p hp => by
    simp only [List.mem_cons, List.not_mem_nil, or_false] at hp
    rcases hp with rfl | rfl
    · exact ha.row
    · exact hb.row) (by rw [hN]; exact hs) (by simp)
  rw [hN, hX] at cc
  exact cc
theorem cat1 (p0 : w.cell? ⟨pb, 0, none⟩ = some va) (ha : SymsAt w va la) (hs : la.length ≤ 100000) :
    Calls Try.prog 71 #[.slice (some ⟨pb, 0, none⟩) 1 1] w fun e w' => ∃ a d, e = .returned (.slice a la.length d) ∧ w'.ownsRow w.heap.size 43 2 (.slice a la.length d) la.length (flatY la) ∧ Below w.heap.size w w' := by
  have hN : totN [(va, la.length, flatY la)] = la.length := by simp [totN]
  have hX : totX [(va, la.length, flatY la)] = flatY la := by simp [totX]
  have cc := concat_ccY (w := w) (pb := pb) (PL := [(va, la.length, flatY la)]) (fun i hi => by
    match i, hi with
    | 0, _ => exact p0
    | i + 1, hi => exact absurd hi (by simp)) (fun p hp => by
    simp only [List.mem_cons, List.not_mem_nil, or_false] at hp
    rcases hp with rfl
    exact ha.row) (by rw [hN]; exact hs) (by simp)
  rw [hN, hX] at cc
  exact cc
end

/-- A new symbol, as a row of one. -/
theorem sym_row {w : World} {t : Bool} {v : Int} : SymsAt (w.alloc (.cells #[.bool t, .int .i64 v] 43)) (.slice (some ⟨w.heap.size, 0, none⟩) 1 1) [(t, v)] := by
  have hb := heap_alloc_new w (.cells #[.bool t, .int .i64 v] 43)
  refine ⟨⟨_, _, rfl, Nat.le_refl _⟩, fun j hj => ?_⟩
  have : j = 0 := by simp at hj; omega
  subst this
  exact ⟨w.heap.size, 0, 1, rfl, cell_of_blk (i := 0) hb rfl, cell_of_blk (i := 1) hb rfl⟩

end Go.Proofs.Ytbpbhlmbcegmoaa

/- The contracts of package step's (left).begins and leftOf. -/
namespace Go.Proofs.Ytbpbhlmbcegmoaa
open Go.RowKit

set_option maxRecDepth 100000 in
set_option maxHeartbeats 6400000 in
theorem st_begins {w : World} {T N : Int} {ra : Option Addr} {rc k : Nat} {op a b c : Int} {R : List Ru} (hr : RulesAt w w.heap.size (.slice ra R.length rc) R) (hk : k < R.length) :
    Calls Try.prog 32 #[.agg #[.int .i64 T, .int .i64 N, .slice ra R.length rc, .int .i64 op, .int .i64 a, .int .i64 b, .int .i64 c], .int .i64 k] w fun e w' => e = .returned (.bool (ownA a (R.getD k (0, [])))) ∧ Below w.heap.size w w' := by
  obtain ⟨W0, hW0⟩ : ∃ W, w.alloc (.cells #[.int .i64 T, .int .i64 N, .slice ra R.length rc, .int .i64 op, .int .i64 a, .int .i64 b, .int .i64 c] 68) = W := ⟨_, rfl⟩
  have hB0 : Below w.heap.size w W0 := by rw [← hW0]; exact (Below.refl _ _).alloc (Nat.le_refl _) _
  have x2 : W0.cell? ⟨w.heap.size, 2, none⟩ = some (.slice ra R.length rc) := by rw [← hW0]; exact cell_of_blk (heap_alloc_new _ _) rfl
  have x4 : W0.cell? ⟨w.heap.size, 4, none⟩ = some (.int .i64 a) := by rw [← hW0]; exact cell_of_blk (heap_alloc_new _ _) rfl
  obtain ⟨b0, o0, rc0, qa, qc, hv, _, k1, k2, hsy⟩ := (hr.below hB0).syms hk
  cases hv
  obtain ⟨⟨L, l⟩, hx⟩ : ∃ x, R.getD k (0, []) = x := ⟨_, rfl⟩
  rw [hx] at k1 k2 hsy ⊢
  simp only at k1 k2 hsy
  obtain ⟨W1, hW1⟩ : ∃ W, W0.alloc (.cells #[.int .i64 L, .slice qa l.length qc] 41) = W := ⟨_, rfl⟩
  have hB1 : Below W0.heap.size W0 W1 := by rw [← hW1]; exact (Below.refl _ _).alloc (Nat.le_refl _) _
  have y4 := (hB1.cell (World.block_lt_of_cell? _ _ x4)).trans x4
  have r0 : W1.cell? ⟨W0.heap.size, 0, none⟩ = some (.int .i64 L) := by rw [← hW1]; exact cell_of_blk (heap_alloc_new _ _) rfl
  have r1 : W1.cell? ⟨W0.heap.size, 1, none⟩ = some (.slice qa l.length qc) := by rw [← hW1]; exact cell_of_blk (heap_alloc_new _ _) rfl
  have HB : Hid (Below w.heap.size w W1) := hB0.trans (hB1.mono hB0.size)
  have hsy1 := hsy.same (same_below hB1)
  have i0 : (0 : Int) ≤ (k : Int) := Int.natCast_nonneg _
  have i1 : (k : Int) < (R.length : Int) := by omega
  clear hr hx hB0 hB1 hsy
  by_cases hLa : L = a
  · subst hLa
    by_cases h0 : 0 < l.length
    · obtain ⟨b1, o1, c1, h1, h2, h3⟩ := hsy1.2 0 h0
      cases h1
      simp only [Nat.zero_mul, Nat.add_zero] at h2 h3
      obtain ⟨⟨t, v⟩, hx⟩ : ∃ x, l.getD 0 (false, 0) = x := ⟨_, rfl⟩
      rw [hx] at h2 h3
      simp only at h2 h3
      have j0 : (0 : Int) < (l.length : Int) := by omega
      have hE : ownA L (L, l) = (!t && decide (v = L)) := by unfold ownA ownR; simp only [hx]; simp [h0]
      rw [hE]
      have eL : (L == L) = true := by simp
      clear hsy1 hx hE
      cases t with
      | true =>
        go_enter Try.func32, Try.ntmps32
        go_wp2_with fail
        go_big_quiet (fail)
        go_wp2_with fail
        go_ret
        exact ⟨rfl, below_drewN HB.out _⟩
      | false =>
        by_cases hv : v = L
        · subst hv
          go_enter Try.func32, Try.ntmps32
          go_wp2_with fail
          go_big_quiet (fail)
          go_wp2_with fail
          go_ret
          exact ⟨by simp, below_drewN HB.out _⟩
        · have e1 : (v == L) = false := by simpa using hv
          go_enter Try.func32, Try.ntmps32
          go_wp2_with fail
          go_big_quiet (fail)
          go_wp2_with fail
          go_ret
          exact ⟨by simp [hv], below_drewN HB.out _⟩
    · have hl0 : l.length = 0 := by omega
      have hE : ownA L (L, l) = false := by unfold ownA ownR; simp [hl0]
      rw [hE]
      rw [hl0] at r1 k2 hW1
      have eL : (L == L) = true := by simp
      clear hsy1 hE h0 hl0
      go_enter Try.func32, Try.ntmps32
      go_wp2_with fail
      go_big_quiet (fail)
      go_wp2_with fail
      go_ret
      exact ⟨rfl, below_drewN HB.out _⟩
  · have hE : ownA a (L, l) = false := by unfold ownA; simp [hLa]
    rw [hE]
    have eL : (L == a) = false := by simpa using hLa
    clear hsy1 hE hLa
    go_enter Try.func32, Try.ntmps32
    go_wp2_with fail
    go_big_quiet (fail)
    go_wp2_with fail
    go_ret
    exact ⟨rfl, below_drewN HB.out _⟩

end Go.Proofs.Ytbpbhlmbcegmoaa

/- The contract of package step's extractOf. -/
namespace Go.Proofs.Ytbpbhlmbcegmoaa
open Go.RowKit

/-- The carrier's box, and the rules. -/
structure KBox (w : World) (T N : Int) (ra : Option Addr) (rc : Nat) (R : List Ru) (op a b c : Int) (wq : World) : Prop where
  blk : wq.heap[w.heap.size]? = some (.cells #[.int .i64 T, .int .i64 N, .slice ra R.length rc, .int .i64 op, .int .i64 a, .int .i64 b, .int .i64 c] 47 (0, 0))
  rules : RulesAt wq w.heap.size (.slice ra R.length rc) R
  below : Below w.heap.size w wq

section
variable {w wq w' : World} {T N : Int} {ra : Option Addr} {rc : Nat} {R : List Ru} {op a b c : Int}
theorem KBox.size (h : KBox w T N ra rc R op a b c wq) : w.heap.size + 1 ≤ wq.heap.size := (Array.getElem?_eq_some_iff.1 h.blk).1
theorem KBox.next (h : KBox w T N ra rc R op a b c wq) (hb : Below wq.heap.size wq w') : KBox w T N ra rc R op a b c w' :=
  ⟨(hb.block _ h.size).trans h.blk, h.rules.below (hb.mono (Nat.le_trans (by omega) h.size)), h.below.trans (hb.mono (Nat.le_trans (by omega) h.size))⟩
theorem KBox.x0 (h : KBox w T N ra rc R op a b c wq) : wq.cell? ⟨w.heap.size, 0, none⟩ = some (.int .i64 T) := cell_of_blk h.blk rfl
theorem KBox.x1 (h : KBox w T N ra rc R op a b c wq) : wq.cell? ⟨w.heap.size, 1, none⟩ = some (.int .i64 N) := cell_of_blk h.blk rfl
theorem KBox.x2 (h : KBox w T N ra rc R op a b c wq) : wq.cell? ⟨w.heap.size, 2, none⟩ = some (.slice ra R.length rc) := cell_of_blk h.blk rfl
theorem KBox.x3 (h : KBox w T N ra rc R op a b c wq) : wq.cell? ⟨w.heap.size, 3, none⟩ = some (.int .i64 op) := cell_of_blk h.blk rfl
theorem KBox.x4 (h : KBox w T N ra rc R op a b c wq) : wq.cell? ⟨w.heap.size, 4, none⟩ = some (.int .i64 a) := cell_of_blk h.blk rfl
theorem KBox.x5 (h : KBox w T N ra rc R op a b c wq) : wq.cell? ⟨w.heap.size, 5, none⟩ = some (.int .i64 b) := cell_of_blk h.blk rfl
theorem KBox.x6 (h : KBox w T N ra rc R op a b c wq) : wq.cell? ⟨w.heap.size, 6, none⟩ = some (.int .i64 c) := cell_of_blk h.blk rfl
theorem KBox.all (h : KBox w T N ra rc R op a b c wq) : RulesAt wq wq.heap.size (.slice ra R.length rc) R := h.rules.mono (Nat.le_trans (by omega) h.size)
theorem kbox_start (hr : RulesAt w w.heap.size (.slice ra R.length rc) R) : KBox w T N ra rc R op a b c (w.alloc (.cells #[.int .i64 T, .int .i64 N, .slice ra R.length rc, .int .i64 op, .int .i64 a, .int .i64 b, .int .i64 c] 47)) := by
  have hB : Below w.heap.size w (w.alloc (.cells #[.int .i64 T, .int .i64 N, .slice ra R.length rc, .int .i64 op, .int .i64 a, .int .i64 b, .int .i64 c] 47)) := (Below.refl _ _).alloc (Nat.le_refl _) _
  exact ⟨heap_alloc_new _ _, hr.below hB, hB⟩
end

set_option maxRecDepth 100000 in
set_option maxHeartbeats 6400000 in
theorem st_extractOf_no {w : World} {T N : Int} {ra : Option Addr} {rc : Nat} {R : List Ru} {op a b c : Int} (hr : RulesAt w w.heap.size (.slice ra R.length rc) R) (hs : ¬ (0 ≤ a ∧ a < (R.length : Int) ∧ 0 ≤ b ∧ b < c ∧ c ≤ ((R.getD a.toNat (0, [])).2.length : Int))) :
    Calls Try.prog 21 #[.agg #[.int .i64 T, .int .i64 N, .slice ra R.length rc, .int .i64 op, .int .i64 a, .int .i64 b, .int .i64 c]] w fun e w' => e = .returned (.tuple #[.nilIface, .bool false]) ∧ Below w.heap.size w w' := by
  have hK := kbox_start (T := T) (N := N) (op := op) (a := a) (b := b) (c := c) hr
  obtain ⟨W0, hW0⟩ : ∃ W, w.alloc (.cells #[.int .i64 T, .int .i64 N, .slice ra R.length rc, .int .i64 op, .int .i64 a, .int .i64 b, .int .i64 c] 47) = W := ⟨_, rfl⟩
  rw [hW0] at hK
  have x2 := hK.x2
  have x4 := hK.x4
  have x5 := hK.x5
  have x6 := hK.x6
  have HB : Hid (Below w.heap.size w W0) := hK.below
  have ia := st_isBelow (w := W0) (n := a) (m := (R.length : Int))
  cases hA : (decide (0 ≤ a) && decide (a < (R.length : Int))) with
  | false =>
    rw [hA] at ia
    clear hK hr hs hA
    go_enter Try.func21, Try.ntmps21
    go_wp2_with (go_at_call 29; refine ia.mono ?_; rintro e w2 ⟨rfl, rfl⟩)
    refine bodyPost_ret (v := .tuple #[.nilIface, .bool false]) (by simp [results, Try.results21, go_sem]) rfl ?_
    exact ⟨rfl, HB.out⟩
  | true =>
    rw [hA] at ia
    simp only [Bool.and_eq_true, decide_eq_true_eq] at hA
    obtain ⟨ka, rfl⟩ : ∃ ka : Nat, a = ka := ⟨a.toNat, by omega⟩
    have hk : ka < R.length := by omega
    obtain ⟨b0, o0, rc0, qa, qc, hv, _, k1, k2, _⟩ := hK.rules.syms hk
    cases hv
    rw [Int.toNat_natCast] at hs
    obtain ⟨n, hn⟩ : ∃ n, (R.getD ka (0, [])).2.length = n := ⟨_, rfl⟩
    rw [hn] at k2 hs
    have i0 : (0 : Int) ≤ (ka : Int) := Int.natCast_nonneg _
    have i1 : (ka : Int) < (R.length : Int) := by omega
    have ib := st_isBelow (w := W0) (n := b) (m := c)
    by_cases hc : (n : Int) < c
    · clear hK hr hs hn k1 ib hA
      go_enter Try.func21, Try.ntmps21
      go_wp2_with (go_at_call 29; refine ia.mono ?_; rintro e w2 ⟨rfl, rfl⟩)
      refine bodyPost_ret (v := .tuple #[.nilIface, .bool false]) (by simp [results, Try.results21, go_sem]) rfl ?_
      exact ⟨rfl, HB.out⟩
    · have hBb : (decide (0 ≤ b) && decide (b < c)) = false := by
        cases h : (decide (0 ≤ b) && decide (b < c)) with
        | false => rfl
        | true =>
          simp only [Bool.and_eq_true, decide_eq_true_eq] at h
          exact absurd ⟨i0, i1, h.1, h.2, by omega⟩ hs
      rw [hBb] at ib
      have ec : decide ((n : Int) < c) = false := decide_eq_false hc
      clear hK hr hs hn k1 hBb hA hc
      go_enter Try.func21, Try.ntmps21
      go_wp2_with
        (first
         | (go_at_call 29; refine ia.mono ?_; rintro e w2 ⟨rfl, rfl⟩; clear ia)
         | (go_at_call 29; refine ib.mono ?_; rintro e w2 ⟨rfl, rfl⟩))
      refine bodyPost_ret (v := .tuple #[.nilIface, .bool false]) (by simp [results, Try.results21, go_sem]) rfl ?_
      exact ⟨rfl, HB.out⟩

set_option maxRecDepth 100000 in
set_option maxHeartbeats 6400000 in
theorem st_extractOf_yes {w : World} {T N : Int} {ra : Option Addr} {rc : Nat} {R : List Ru} {op : Int} {ka bn cn m : Nat} {L : Int} {l : List Sy} (hr : RulesAt w w.heap.size (.slice ra R.length rc) R) (hk : ka < R.length) (hx : R.getD ka (0, []) = (L, l)) (hbc : bn < cn) (hcl : l.length = cn + m) (hl8 : l.length ≤ 1000) :
    Calls Try.prog 21 #[.agg #[.int .i64 T, .int .i64 N, .slice ra R.length rc, .int .i64 op, .int .i64 ka, .int .i64 bn, .int .i64 cn]] w fun e w' => e = .returned (.tuple #[.iface 63 (.agg #[.int .i64 T, .int .i64 N, .slice ra R.length rc, .int .i64 op, .int .i64 ka, .int .i64 bn, .int .i64 cn, .int .i64 (namesS (l.take bn)).length, .int .i64 (namesS (l.take cn)).length]), .bool true]) ∧ Below w.heap.size w w' := by
  have hK := kbox_start (T := T) (N := N) (op := op) (a := ka) (b := bn) (c := cn) hr
  obtain ⟨W0, hW0⟩ : ∃ W, w.alloc (.cells #[.int .i64 T, .int .i64 N, .slice ra R.length rc, .int .i64 op, .int .i64 ka, .int .i64 bn, .int .i64 cn] 47) = W := ⟨_, rfl⟩
  rw [hW0] at hK
  have x2 := hK.x2
  have x4 := hK.x4
  have x5 := hK.x5
  have x6 := hK.x6
  have ia := st_isBelow (w := W0) (n := ka) (m := (R.length : Int))
  have ib := st_isBelow (w := W0) (n := bn) (m := cn)
  obtain ⟨b0, o0, rc0, qa, qc, hv, _, k1, k2, hsy⟩ := hK.rules.syms hk
  cases hv
  rw [hx] at k1 k2 hsy
  simp only at k1 k2 hsy
  have hqc : l.length ≤ qc := by obtain ⟨_, _, hv, hle⟩ := hsy.1; cases hv; exact hle
  obtain ⟨ad, rfl⟩ := hsy.someG (by omega)
  rw [hcl] at k2 hqc
  have i0 : (0 : Int) ≤ (ka : Int) := Int.natCast_nonneg _
  have i1 : (ka : Int) < (R.length : Int) := by omega
  have j0 : (0 : Int) ≤ (bn : Int) := Int.natCast_nonneg _
  have j1 : (bn : Int) < (cn : Int) := by omega
  rw [decide_eq_true i0, decide_eq_true i1] at ia
  rw [decide_eq_true j0, decide_eq_true j1] at ib
  have ec : decide (((cn + m : Nat) : Int) < (cn : Int)) = false := decide_eq_false (by omega)
  have HK : Hid (KBox w T N (some ⟨b0, o0, none⟩) rc R op ka bn cn W0) := hK
  have HSy : Hid (∀ wq, Below W0.heap.size W0 wq → SymsAt wq (.slice (some ad) l.length qc) l) := fun wq hq => hsy.same (same_below hq)
  have HX : Hid (l.length = cn + m) := hcl
  have hup1 := fun w => sy_uptoG (ad := ad) (f := bn) (sl := cn + m) (lc := qc) (fi := (bn : Int)) rfl (by omega) w
  have hup2 := fun w => sy_uptoG (ad := ad) (f := cn) (sl := cn + m) (lc := qc) (fi := (cn : Int)) rfl (by omega) w
  clear hK hr hx hcl hsy k1
  go_enter Try.func21, Try.ntmps21
  go_upto_region 6 with
    (first
     | (go_at_call 29; with_reducible refine ia.mono ?_; rintro e w2 ⟨rfl, h2⟩; obtain rfl : W0 = w2 := h2.symm; clear ia)
     | (go_at_call 29; with_reducible refine ib.mono ?_; rintro e w2 ⟨rfl, h2⟩; obtain rfl : W0 = w2 := h2.symm; clear ib))
  obtain ⟨Wd, hWd⟩ : ∃ W, W0.drew = W := ⟨_, rfl⟩
  have hBd : Below W0.heap.size W0 Wd := by rw [← hWd]; exact (Below.refl _ _).drew
  have HKd : Hid (∀ wq, Below Wd.heap.size Wd wq → KBox w T N (some ⟨b0, o0, none⟩) rc R op ka bn cn wq ∧ SymsAt wq (.slice (some ad) l.length qc) l) := fun wq hq => by
    have h1 : Below W0.heap.size W0 wq := hBd.trans (hq.mono hBd.size)
    exact ⟨HK.out.next h1, HSy.out wq h1⟩
  have HSS : Hid (∀ wq, Below Wd.heap.size Wd wq → wq.cell? ⟨w.heap.size, 0, none⟩ = some (.int .i64 T) ∧ wq.cell? ⟨w.heap.size, 1, none⟩ = some (.int .i64 N) ∧ wq.cell? ⟨w.heap.size, 2, none⟩ = some (.slice (some ⟨b0, o0, none⟩) R.length rc) ∧ wq.cell? ⟨w.heap.size, 3, none⟩ = some (.int .i64 op) ∧ wq.cell? ⟨w.heap.size, 4, none⟩ = some (.int .i64 ka) ∧ wq.cell? ⟨w.heap.size, 5, none⟩ = some (.int .i64 bn) ∧ wq.cell? ⟨w.heap.size, 6, none⟩ = some (.int .i64 cn)) := fun wq hq =>
    let h := (HKd.out wq hq).1
    ⟨h.x0, h.x1, h.x2, h.x3, h.x4, h.x5, h.x6⟩
  have S0 := HSS.out Wd (Below.refl _ _)
  clear hBd x2 x4 x5 x6 k2 hW0
  refine wp_region_mix [0, 1, 2, 3, 4, 5, 7, 8, 9, 10, 11] 6 16 (fun wq => wq.cell? ⟨w.heap.size, 0, none⟩ = some (.int .i64 T) ∧ wq.cell? ⟨w.heap.size, 1, none⟩ = some (.int .i64 N) ∧ wq.cell? ⟨w.heap.size, 2, none⟩ = some (.slice (some ⟨b0, o0, none⟩) R.length rc) ∧ wq.cell? ⟨w.heap.size, 3, none⟩ = some (.int .i64 op) ∧ wq.cell? ⟨w.heap.size, 4, none⟩ = some (.int .i64 ka) ∧ wq.cell? ⟨w.heap.size, 5, none⟩ = some (.int .i64 bn) ∧ wq.cell? ⟨w.heap.size, 6, none⟩ = some (.int .i64 cn)) (by kernel_rfl) (by kernel_rfl) (by rw [hWd]; exact S0) ?_
  rw [hWd]
  clear hWd S0
  iterate 11
    refine StillI.con8 (v := ?_) rfl (by rfl) ?_ ?_
    rotate_left
    · intro w' hSw
      obtain ⟨z0, z1, z2, z3, z4, z5, z6⟩ := hSw
      go_simp
      try with_reducible rfl
    simp only [Act.put, List.setIfInBounds_toArray, List.set_cons_zero, List.set_cons_succ]
  rw [StillI]
  have n1 := st_namesIn (w := Wd) ((HKd.out Wd (Below.refl _ _)).2.takeG (f := bn) (by rw [HX.out]; omega)) (by rw [List.length_take]; omega)
  refine TailC.one (i := 6) (by kernel_rfl) ⟨_, rfl, fun K hK => ?_⟩
  go_simp
  refine n1.mono ?_
  rintro e w3 ⟨rfl, hB3⟩
  dsimp only
  refine hK.out _ _ (fun _ => HSS.out _ hB3) ?_
  clear hK n1
  have n2 := st_namesIn (w := w3) ((HKd.out w3 hB3).2.takeG (f := cn) (by rw [HX.out]; omega)) (by rw [List.length_take]; omega)
  refine TailC.one (i := 12) (by kernel_rfl) ⟨_, rfl, fun K hK => ?_⟩
  go_simp
  refine n2.mono ?_
  rintro e w4 ⟨rfl, hB4⟩
  dsimp only
  have hB4' : Below Wd.heap.size Wd w4 := hB3.trans (hB4.mono hB3.size)
  refine hK.out _ _ (fun _ => HSS.out _ hB4') ?_
  clear hK n2
  refine TailC.one (i := 13) (by kernel_rfl) ⟨_, rfl, fun K hK => ?_⟩
  go_simp
  refine hK.out _ _ (fun _ => HSS.out _ hB4') ?_
  clear hK
  refine TailC.one (i := 14) (by kernel_rfl) ⟨_, rfl, fun K hK => ?_⟩
  go_simp
  refine hK.out _ _ (fun _ => HSS.out _ hB4') ?_
  clear hK
  refine TailC.one (i := 15) (by kernel_rfl) ⟨_, rfl, fun K hK => ?_⟩
  go_simp
  refine hK.out _ _ (fun _ => HSS.out _ hB4') ?_
  clear hK
  refine TailC.last (i := 16) (by kernel_rfl) ⟨_, rfl, fun K hK => ?_⟩
  go_simp
  refine hK.out _ _ (fun h => absurd h (by omega)) (NoPanic.normal ?_)
  clear hK
  go_wp2_with fail
  refine bodyPost_ret (v := .tuple #[.iface 63 (.agg #[.int .i64 T, .int .i64 N, .slice (some ⟨b0, o0, none⟩) R.length rc, .int .i64 op, .int .i64 ka, .int .i64 bn, .int .i64 cn, .int .i64 (namesS (l.take bn)).length, .int .i64 (namesS (l.take cn)).length]), .bool true]) (by simp [results, Try.results21, go_sem]) rfl ?_
  exact ⟨rfl, (HKd.out w4 hB4').1.below⟩

end Go.Proofs.Ytbpbhlmbcegmoaa

/- The contract of package step's leftOf. -/
namespace Go.Proofs.Ytbpbhlmbcegmoaa
open Go.RowKit

set_option maxRecDepth 100000 in
set_option maxHeartbeats 6400000 in
theorem st_leftOf_no {w : World} {T N : Int} {ra : Option Addr} {rc : Nat} {R : List Ru} {op a b c : Int} (hr : RulesAt w w.heap.size (.slice ra R.length rc) R) (hs : ¬ (0 ≤ a ∧ a < N ∧ b = 0 ∧ c = 0)) :
    Calls Try.prog 23 #[.agg #[.int .i64 T, .int .i64 N, .slice ra R.length rc, .int .i64 op, .int .i64 a, .int .i64 b, .int .i64 c]] w fun e w' => e = .returned (.tuple #[.nilIface, .bool false]) ∧ Below w.heap.size w w' := by
  have hK := kbox_start (T := T) (N := N) (op := op) (a := a) (b := b) (c := c) hr
  obtain ⟨W0, hW0⟩ : ∃ W, w.alloc (.cells #[.int .i64 T, .int .i64 N, .slice ra R.length rc, .int .i64 op, .int .i64 a, .int .i64 b, .int .i64 c] 47) = W := ⟨_, rfl⟩
  rw [hW0] at hK
  have x1 := hK.x1
  have x4 := hK.x4
  have x5 := hK.x5
  have x6 := hK.x6
  have HB : Hid (Below w.heap.size w W0) := hK.below
  have ia := st_isBelow (w := W0) (n := a) (m := N)
  cases hA : (decide (0 ≤ a) && decide (a < N)) with
  | false =>
    rw [hA] at ia
    clear hK hr hs hA
    go_enter Try.func23, Try.ntmps23
    go_wp2_with (go_at_call 29; refine ia.mono ?_; rintro e w2 ⟨rfl, rfl⟩)
    refine bodyPost_ret (v := .tuple #[.nilIface, .bool false]) (by simp [results, Try.results23, go_sem]) rfl ?_
    exact ⟨rfl, HB.out⟩
  | true =>
    rw [hA] at ia
    simp only [Bool.and_eq_true, decide_eq_true_eq] at hA
    by_cases hb : b = 0
    · subst hb
      have ec : (c == 0) = false := by
        have : c ≠ 0 := fun hc => hs ⟨hA.1, hA.2, rfl, hc⟩
        simpa using this
      clear hK hr hs hA
      go_enter Try.func23, Try.ntmps23
      go_wp2_with (go_at_call 29; refine ia.mono ?_; rintro e w2 ⟨rfl, rfl⟩)
      refine bodyPost_ret (v := .tuple #[.nilIface, .bool false]) (by simp [results, Try.results23, go_sem]) rfl ?_
      exact ⟨rfl, HB.out⟩
    · have eb : (b == 0) = false := by simpa using hb
      clear hK hr hs hA hb
      go_enter Try.func23, Try.ntmps23
      go_wp2_with (go_at_call 29; refine ia.mono ?_; rintro e w2 ⟨rfl, rfl⟩)
      refine bodyPost_ret (v := .tuple #[.nilIface, .bool false]) (by simp [results, Try.results23, go_sem]) rfl ?_
      exact ⟨rfl, HB.out⟩

theorem le_any_take {f : Ru → Bool} {R : List Ru} {k : Nat} (hk : k < R.length) : (R.take (k + 1)).any f = ((R.take k).any f || f (R.getD k (0, []))) := by
  have e : R.getD k (0, []) = R[k] := by simp [List.getD, hk]
  rw [List.take_succ_eq_append_getElem hk, List.any_append, e]
  simp
theorem le_all_take {f : Ru → Bool} {R : List Ru} {k : Nat} (hk : k < R.length) : (R.take (k + 1)).all f = ((R.take k).all f && f (R.getD k (0, []))) := by
  have e : R.getD k (0, []) = R[k] := by simp [List.getD, hk]
  rw [List.take_succ_eq_append_getElem hk, List.all_append, e]
  simp

set_option maxRecDepth 100000 in
set_option maxHeartbeats 6400000 in
theorem st_leftOf_yes {w : World} {T N : Int} {ra : Option Addr} {rc : Nat} {R : List Ru} {op a : Int} (hr : RulesAt w w.heap.size (.slice ra R.length rc) R) (hl : R.length ≤ 1000) (ha : 0 ≤ a ∧ a < N) :
    Calls Try.prog 23 #[.agg #[.int .i64 T, .int .i64 N, .slice ra R.length rc, .int .i64 op, .int .i64 a, .int .i64 0, .int .i64 0]] w fun e w' => ∃ cv, e = .returned (.tuple #[cv, .bool (leftB R a)]) ∧ (leftB R a = true → cv = .iface 68 (.agg #[.int .i64 T, .int .i64 N, .slice ra R.length rc, .int .i64 op, .int .i64 a, .int .i64 0, .int .i64 0])) ∧ Below w.heap.size w w' := by
  have hK := kbox_start (T := T) (N := N) (op := op) (a := a) (b := 0) (c := 0) hr
  obtain ⟨W0, hW0⟩ : ∃ W, w.alloc (.cells #[.int .i64 T, .int .i64 N, .slice ra R.length rc, .int .i64 op, .int .i64 a, .int .i64 0, .int .i64 0] 47) = W := ⟨_, rfl⟩
  rw [hW0] at hK
  obtain ⟨W1, hW1⟩ : ∃ W, W0.alloc (.cells #[.int .i64 T, .int .i64 N, .slice ra R.length rc, .int .i64 op, .int .i64 a, .int .i64 0, .int .i64 0] 68) = W := ⟨_, rfl⟩
  have hB1 : Below W0.heap.size W0 W1 := by rw [← hW1]; exact (Below.refl _ _).alloc (Nat.le_refl _) _
  have hblk : W1.heap[W0.heap.size]? = some (.cells #[.int .i64 T, .int .i64 N, .slice ra R.length rc, .int .i64 op, .int .i64 a, .int .i64 0, .int .i64 0] 68 (0, 0)) := by rw [← hW1]; exact heap_alloc_new _ _
  have x0 := hK.x0
  have x1 := hK.x1
  have x2 := hK.x2
  have x3 := hK.x3
  have x4 := hK.x4
  have x5 := hK.x5
  have x6 := hK.x6
  have y2 := (hK.next hB1).x2
  rw [← hW1] at y2
  have HW1 : Hid (W0.alloc (.cells #[.int .i64 T, .int .i64 N, .slice ra R.length rc, .int .i64 op, .int .i64 a, .int .i64 0, .int .i64 0] 68) = W1) := hW1
  have HK1 : Hid (KBox w T N ra rc R op a 0 0 W1) := hK.next hB1
  have HX : Hid (∀ wq, Below W1.heap.size W1 wq → wq.heap[W0.heap.size]? = some (.cells #[.int .i64 T, .int .i64 N, .slice ra R.length rc, .int .i64 op, .int .i64 a, .int .i64 0, .int .i64 0] 68 (0, 0))) := fun wq hq => (hq.block _ (Array.getElem?_eq_some_iff.1 hblk).1).trans hblk
  have ia := st_isBelow (w := W0) (n := a) (m := N)
  rw [decide_eq_true ha.1, decide_eq_true ha.2] at ia
  have e0 : ((0 : Int) == 0) = true := rfl
  clear hK hr hB1 hblk ha hW1
  go_enter Try.func23, Try.ntmps23
  go_wp2_with (go_at_call 29; refine ia.mono ?_; rintro e w2 ⟨rfl, h2⟩; obtain rfl : W0 = w2 := h2.symm; clear ia)
  obtain ⟨xb, hxb⟩ : ∃ x, W0.heap.size = x := ⟨_, rfl⟩
  rw [HW1.out]
  rw [hxb] at HX ⊢
  clear x0 x1 x2 x3 x4 x5 x6 y2 hW0 HW1 hxb
  go_loopw [5, 34] (fun s5 s34 wr => ∃ k : Nat, s5 = .bool ((R.take k).any (ownA a)) ∧ s34 = .int .i64 k ∧ k ≤ R.length ∧ (R.take k).all (fun r => !(ownA a r && decide (r.2.length = 1))) = true ∧ Below W1.heap.size W1 wr) (fun _ s _ => R.length - (intOf s).toNat)
  case atStart => exact ⟨0, rfl, rfl, Nat.zero_le _, rfl, Below.refl _ _⟩
  case round =>
    obtain ⟨k, rfl, rfl, hk, hall, hB⟩ := hrel
    have HB : Hid (Below W1.heap.size W1 wr) := hB
    have HAll : Hid ((R.take k).all (fun r => !(ownA a r && decide (r.2.length = 1))) = true) := hall
    have hKr := HK1.out.next hB
    have hXr := HX.out wr hB
    obtain ⟨any, hany⟩ : ∃ x, (R.take k).any (ownA a) = x := ⟨_, rfl⟩
    have HAny : Hid ((R.take k).any (ownA a) = any) := hany
    rw [hany]
    clear hany hall
    by_cases hlt : k < R.length
    · obtain ⟨b0, o0, rc0, qa, qc, hv, _, k1, k2, _⟩ := hKr.rules.syms hlt
      cases hv
      obtain ⟨⟨L, l⟩, hx⟩ : ∃ x, R.getD k (0, []) = x := ⟨_, rfl⟩
      rw [hx] at k1 k2
      simp only at k1 k2
      obtain ⟨n, hn⟩ : ∃ n, l.length = n := ⟨_, rfl⟩
      rw [hn] at k2
      have HXk : Hid (R.getD k (0, []) = (L, l) ∧ l.length = n) := ⟨hx, hn⟩
      obtain ⟨W2, hW2⟩ : ∃ W, wr.alloc (.cells #[.int .i64 L, .slice qa n qc] 41) = W := ⟨_, rfl⟩
      obtain ⟨rb, hrb⟩ : ∃ x, wr.heap.size = x := ⟨_, rfl⟩
      have hB2 : Below wr.heap.size wr W2 := by rw [← hW2]; exact (Below.refl _ _).alloc (Nat.le_refl _) _
      have hB2' : Below W1.heap.size W1 W2 := HB.out.trans (hB2.mono HB.out.size)
      have r1 : W2.cell? ⟨rb, 1, none⟩ = some (.slice qa n qc) := by rw [← hW2, ← hrb]; exact cell_of_blk (heap_alloc_new _ _) rfl
      have hX2 := HX.out W2 hB2'
      have z0 : W2.cell? ⟨xb, 0, none⟩ = some (.int .i64 T) := cell_of_blk hX2 rfl
      have z1 : W2.cell? ⟨xb, 1, none⟩ = some (.int .i64 N) := cell_of_blk hX2 rfl
      have z2 : W2.cell? ⟨xb, 2, none⟩ = some (.slice (some ⟨b0, o0, none⟩) R.length rc) := cell_of_blk hX2 rfl
      have z3 : W2.cell? ⟨xb, 3, none⟩ = some (.int .i64 op) := cell_of_blk hX2 rfl
      have z4 : W2.cell? ⟨xb, 4, none⟩ = some (.int .i64 a) := cell_of_blk hX2 rfl
      have z5 : W2.cell? ⟨xb, 5, none⟩ = some (.int .i64 0) := cell_of_blk hX2 rfl
      have z6 : W2.cell? ⟨xb, 6, none⟩ = some (.int .i64 0) := cell_of_blk hX2 rfl
      have be := st_begins (w := W2) (T := T) (N := N) (op := op) (a := a) (b := 0) (c := 0) (HK1.out.next hB2').all hlt
      rw [hx] at be
      have HB2 : Hid (Below W1.heap.size W1 W2) := hB2'
      have HR1 : Hid (W2.cell? ⟨rb, 1, none⟩ = some (.slice qa n qc)) := r1
      have i0 : (0 : Int) ≤ (k : Int) := Int.natCast_nonneg _
      have i1 : (k : Int) < (R.length : Int) := by omega
      clear hx hn hB2 hB2' hX2 hXr hKr r1 hB
      cases hbe : ownA a (L, l) with
      | false =>
        rw [hbe] at be
        have HBe : Hid (ownA a (L, l) = false) := hbe
        clear hbe
        go_wp2_with (go_at_call 32; refine be.mono ?_; rintro e w3 ⟨rfl, hB3⟩; clear be)
        go_roundw
        case rel =>
          refine ⟨k + 1, ?_, by go_num, by omega, ?_, HB2.out.trans (hB3.mono HB2.out.size)⟩
          · rw [le_any_take hlt, HAny.out, HXk.out.1, HBe.out, Bool.or_false]
          · rw [le_all_take hlt, HAll.out, HXk.out.1, HBe.out]
            rfl
        case measure => simp [intOf]; omega
      | true =>
        rw [hbe] at be
        have HBe : Hid (ownA a (L, l) = true) := hbe
        clear hbe
        by_cases hn1 : n = 1
        · have HN1 : Hid (n = 1) := hn1
          have en : ((n : Int) == 1) = true := by rw [hn1]; rfl
          clear hn1
          go_wp2_with
            (go_at_call 32; refine be.mono ?_; rintro e w3 ⟨rfl, hB3⟩; clear be
             have q1 := (hB3.cell (World.block_lt_of_cell? _ _ HR1.out)).trans HR1.out)
          have hF : leftB R a = false := by
            unfold leftB
            have : (R.all fun r => !(ownA a r && decide (r.2.length = 1))) = false := by
              rw [List.all_eq_false]
              refine ⟨(L, l), ?_, ?_⟩
              · rw [← HXk.out.1]
                simp [List.getD, hlt]
              · rw [HBe.out, HXk.out.2, HN1.out]
                simp
            rw [this, Bool.and_false]
          refine bodyPost_ret (v := .tuple #[.nilIface, .bool false]) (by simp [results, Try.results23, go_sem]) rfl ?_
          refine ⟨_, by rw [hF], fun h => ?_, HK1.out.below.trans ((HB2.out.trans (hB3.mono HB2.out.size)).mono (Nat.le_trans (by omega) HK1.out.size))⟩
          rw [hF] at h
          cases h
        · have en : ((n : Int) == 1) = false := by
            have : (n : Int) ≠ 1 := by omega
            simpa using this
          have HN1 : Hid (¬ n = 1) := hn1
          clear hn1
          go_wp2_with
            (go_at_call 32; refine be.mono ?_; rintro e w3 ⟨rfl, hB3⟩; clear be
             have q1 := (hB3.cell (World.block_lt_of_cell? _ _ HR1.out)).trans HR1.out)
          go_roundw
          case rel =>
            refine ⟨k + 1, ?_, by go_num, by omega, ?_, HB2.out.trans (hB3.mono HB2.out.size)⟩
            · rw [le_any_take hlt, HXk.out.1, HBe.out, Bool.or_true]
            · rw [le_all_take hlt, HAll.out, HXk.out.1, HBe.out, HXk.out.2]
              simp [HN1.out]
          case measure => simp [intOf]; omega
    · have hkk : k = R.length := by omega
      have hL : leftB R a = any := by
        unfold leftB
        have h1 := HAny.out
        have h2 := HAll.out
        rw [hkk, List.take_length] at h1 h2
        rw [h1, h2, Bool.and_true]
      have HL : Hid (leftB R a = any) := hL
      have z0 : wr.cell? ⟨xb, 0, none⟩ = some (.int .i64 T) := cell_of_blk hXr rfl
      have z1 : wr.cell? ⟨xb, 1, none⟩ = some (.int .i64 N) := cell_of_blk hXr rfl
      have z2 : wr.cell? ⟨xb, 2, none⟩ = some (.slice ra R.length rc) := cell_of_blk hXr rfl
      have z3 : wr.cell? ⟨xb, 3, none⟩ = some (.int .i64 op) := cell_of_blk hXr rfl
      have z4 : wr.cell? ⟨xb, 4, none⟩ = some (.int .i64 a) := cell_of_blk hXr rfl
      have z5 : wr.cell? ⟨xb, 5, none⟩ = some (.int .i64 0) := cell_of_blk hXr rfl
      have z6 : wr.cell? ⟨xb, 6, none⟩ = some (.int .i64 0) := cell_of_blk hXr rfl
      have HBl : Hid (Below w.heap.size w wr) := hKr.below
      clear hXr hKr hB hkk hL
      go_wp2_with fail
      refine bodyPost_ret (v := .tuple #[.iface 68 (.agg #[.int .i64 T, .int .i64 N, .slice ra R.length rc, .int .i64 op, .int .i64 a, .int .i64 0, .int .i64 0]), .bool any]) (by simp [results, Try.results23, go_sem]) rfl ?_
      exact ⟨_, by rw [HL.out], fun _ => rfl, HBl.out⟩

end Go.Proofs.Ytbpbhlmbcegmoaa
