import Derived.Test.YtjdoiieiimdmfaaStCxAndStOfE
import Derived.Test.YtjdoiieiimdmfaaMathAndMayFine
import Derived.Test.YtjdoiieiimdmfaaRowBAndConcR
import Derived.Deep.RegionLaw
import Derived.Deep.RegionWith
import Derived.Deep.Cut
import Derived.Deep.CutRange
import Derived.Deep.DrawnRows
/- The contract of package step's leftOf. -/
namespace Go.Proofs.Ytjdoiieiimdmfaa
open Go.RowKit

set_option maxRecDepth 100000 in
set_option maxHeartbeats 6400000 in
theorem st_leftOf_no {w : World} {T N : Int} {ra : Option Addr} {rc : Nat} {R : List Ru} {op a b c : Int} (hr : RulesAt w w.heap.size (.slice ra R.length rc) R) (hs : ¬ (0 ≤ a ∧ a < N ∧ b = 0 ∧ c = 0)) :
    Calls Try.prog 16 #[.agg #[.int .i64 T, .int .i64 N, .slice ra R.length rc, .int .i64 op, .int .i64 a, .int .i64 b, .int .i64 c]] w fun e w' => e = .returned (.tuple #[.nilIface, .bool false]) ∧ Below w.heap.size w w' := by
  have hK := kbox_start (T := T) (N := N) (op := op) (a := a) (b := b) (c := c) hr
  obtain ⟨W0, hW0⟩ : ∃ W, w.alloc (.cells #[.int .i64 T, .int .i64 N, .slice ra R.length rc, .int .i64 op, .int .i64 a, .int .i64 b, .int .i64 c] 51) = W := ⟨_, rfl⟩
  rw [hW0] at hK
  have x1 := hK.x1
  have x4 := hK.x4
  have x5 := hK.x5
  have x6 := hK.x6
  have HB : Hid (Below w.heap.size w W0) := hK.below
  have ia := st_isBelow (w := W0) (n := a) (m := N)
  cases hA : (decide (0 ≤ a) && decide (a < N)) with
  | false =>
    rw [hA] at ia
    clear hK hr hs hA
    go_enter Try.func16, Try.ntmps16
    go_wp2_with (go_at_call 21; refine ia.mono ?_; rintro e w2 ⟨rfl, rfl⟩)
    refine bodyPost_ret (v := .tuple #[.nilIface, .bool false]) (by simp [results, Try.results16, go_sem]) rfl ?_
    exact ⟨rfl, HB.out⟩
  | true =>
    rw [hA] at ia
    simp only [Bool.and_eq_true, decide_eq_true_eq] at hA
    by_cases hb : b = 0
    · subst hb
      have ec : (c == 0) = false := by
        have : c ≠ 0 := fun hc => hs ⟨hA.1, hA.2, rfl, hc⟩
        simpa using this
      clear hK hr hs hA
      go_enter Try.func16, Try.ntmps16
      go_wp2_with (go_at_call 21; refine ia.mono ?_; rintro e w2 ⟨rfl, rfl⟩)
      refine bodyPost_ret (v := .tuple #[.nilIface, .bool false]) (by simp [results, Try.results16, go_sem]) rfl ?_
      exact ⟨rfl, HB.out⟩
    · have eb : (b == 0) = false := by simpa using hb
      clear hK hr hs hA hb
      go_enter Try.func16, Try.ntmps16
      go_wp2_with (go_at_call 21; refine ia.mono ?_; rintro e w2 ⟨rfl, rfl⟩)
      refine bodyPost_ret (v := .tuple #[.nilIface, .bool false]) (by simp [results, Try.results16, go_sem]) rfl ?_
      exact ⟨rfl, HB.out⟩

theorem le_any_take {f : Ru → Bool} {R : List Ru} {k : Nat} (hk : k < R.length) : (R.take (k + 1)).any f = ((R.take k).any f || f (R.getD k (0, []))) := by
  have e : R.getD k (0, []) = R[k] := by simp [List.getD, hk]
  rw [List.take_succ_eq_append_getElem hk, List.any_append, e]
  simp
theorem le_all_take {f : Ru → Bool} {R : List Ru} {k : Nat} (hk : k < R.length) : (R.take (k + 1)).all f = ((R.take k).all f && f (R.getD k (0, []))) := by
  have e : R.getD k (0, []) = R[k] := by simp [List.getD, hk]
  rw [List.take_succ_eq_append_getElem hk, List.all_append, e]
  simp

set_option maxRecDepth 100000 in
set_option maxHeartbeats 6400000 in
theorem st_leftOf_yes {w : World} {T N : Int} {ra : Option Addr} {rc : Nat} {R : List Ru} {op a : Int} (hr : RulesAt w w.heap.size (.slice ra R.length rc) R) (hl : R.length ≤ 1000) (ha : 0 ≤ a ∧ a < N) :
    Calls Try.prog 16 #[.agg #[.int .i64 T, .int .i64 N, .slice ra R.length rc, .int .i64 op, .int .i64 a, .int .i64 0, .int .i64 0]] w fun e w' => ∃ cv, e = .returned (.tuple #[cv, .bool (leftB R a)]) ∧ (leftB R a = true → cv = .iface 65 (.agg #[.int .i64 T, .int .i64 N, .slice ra R.length rc, .int .i64 op, .int .i64 a, .int .i64 0, .int .i64 0])) ∧ Below w.heap.size w w' := by
  have hK := kbox_start (T := T) (N := N) (op := op) (a := a) (b := 0) (c := 0) hr
  obtain ⟨W0, hW0⟩ : ∃ W, w.alloc (.cells #[.int .i64 T, .int .i64 N, .slice ra R.length rc, .int .i64 op, .int .i64 a, .int .i64 0, .int .i64 0] 51) = W := ⟨_, rfl⟩
  rw [hW0] at hK
  obtain ⟨W1, hW1⟩ : ∃ W, W0.alloc (.cells #[.int .i64 T, .int .i64 N, .slice ra R.length rc, .int .i64 op, .int .i64 a, .int .i64 0, .int .i64 0] 65) = W := ⟨_, rfl⟩
  have hB1 : Below W0.heap.size W0 W1 := by rw [← hW1]; exact (Below.refl _ _).alloc (Nat.le_refl _) _
  have hblk : W1.heap[W0.heap.size]? = some (.cells #[.int .i64 T, .int .i64 N, .slice ra R.length rc, .int .i64 op, .int .i64 a, .int .i64 0, .int .i64 0] 65 (0, 0)) := by rw [← hW1]; exact heap_alloc_new _ _
  have x0 := hK.x0
  have x1 := hK.x1
  have x2 := hK.x2
  have x3 := hK.x3
  have x4 := hK.x4
  have x5 := hK.x5
  have x6 := hK.x6
  have y2 := (hK.next hB1).x2
  rw [← hW1] at y2
  have HW1 : Hid (W0.alloc (.cells #[.int .i64 T, .int .i64 N, .slice ra R.length rc, .int .i64 op, .int .i64 a, .int .i64 0, .int .i64 0] 65) = W1) := hW1
  have HK1 : Hid (KBox w T N ra rc R op a 0 0 W1) := hK.next hB1
  have HX : Hid (∀ wq, Below W1.heap.size W1 wq → wq.heap[W0.heap.size]? = some (.cells #[.int .i64 T, .int .i64 N, .slice ra R.length rc, .int .i64 op, .int .i64 a, .int .i64 0, .int .i64 0] 65 (0, 0))) := fun wq hq => (hq.block _ (Array.getElem?_eq_some_iff.1 hblk).1).trans hblk
  have ia := st_isBelow (w := W0) (n := a) (m := N)
  rw [decide_eq_true ha.1, decide_eq_true ha.2] at ia
  have e0 : ((0 : Int) == 0) = true := rfl
  clear hK hr hB1 hblk ha hW1
  go_enter Try.func16, Try.ntmps16
  go_wp2_with (go_at_call 21; refine ia.mono ?_; rintro e w2 ⟨rfl, h2⟩; obtain rfl : W0 = w2 := h2.symm; clear ia)
  obtain ⟨xb, hxb⟩ : ∃ x, W0.heap.size = x := ⟨_, rfl⟩
  rw [HW1.out]
  rw [hxb] at HX ⊢
  clear x0 x1 x2 x3 x4 x5 x6 y2 hW0 HW1 hxb
  go_loopw [5, 34] (fun s5 s34 wr => ∃ k : Nat, s5 = .bool ((R.take k).any (ownA a)) ∧ s34 = .int .i64 k ∧ k ≤ R.length ∧ (R.take k).all (fun r => !(ownA a r && decide (r.2.length = 1))) = true ∧ Below W1.heap.size W1 wr) (fun _ s _ => R.length - (intOf s).toNat)
  case atStart => exact ⟨0, rfl, rfl, Nat.zero_le _, rfl, Below.refl _ _⟩
  case round =>
    obtain ⟨k, rfl, rfl, hk, hall, hB⟩ := hrel
    have HB : Hid (Below W1.heap.size W1 wr) := hB
    have HAll : Hid ((R.take k).all (fun r => !(ownA a r && decide (r.2.length = 1))) = true) := hall
    have hKr := HK1.out.next hB
    have hXr := HX.out wr hB
    obtain ⟨any, hany⟩ : ∃ x, (R.take k).any (ownA a) = x := ⟨_, rfl⟩
    have HAny : Hid ((R.take k).any (ownA a) = any) := hany
    rw [hany]
    clear hany hall
    by_cases hlt : k < R.length
    · obtain ⟨b0, o0, rc0, qa, qc, hv, _, k1, k2, _⟩ := hKr.rules.syms hlt
      cases hv
      obtain ⟨⟨L, l⟩, hx⟩ : ∃ x, R.getD k (0, []) = x := ⟨_, rfl⟩
      rw [hx] at k1 k2
      simp only at k1 k2
      obtain ⟨n, hn⟩ : ∃ n, l.length = n := ⟨_, rfl⟩
      rw [hn] at k2
      have HXk : Hid (R.getD k (0, []) = (L, l) ∧ l.length = n) := ⟨hx, hn⟩
      obtain ⟨W2, hW2⟩ : ∃ W, wr.alloc (.cells #[.int .i64 L, .slice qa n qc] 41) = W := ⟨_, rfl⟩
      obtain ⟨rb, hrb⟩ : ∃ x, wr.heap.size = x := ⟨_, rfl⟩
      have hB2 : Below wr.heap.size wr W2 := by rw [← hW2]; exact (Below.refl _ _).alloc (Nat.le_refl _) _
      have hB2' : Below W1.heap.size W1 W2 := HB.out.trans (hB2.mono HB.out.size)
      have r1 : W2.cell? ⟨rb, 1, none⟩ = some (.slice qa n qc) := by rw [← hW2, ← hrb]; exact cell_of_blk (heap_alloc_new _ _) rfl
      have hX2 := HX.out W2 hB2'
      have z0 : W2.cell? ⟨xb, 0, none⟩ = some (.int .i64 T) := cell_of_blk hX2 rfl
      have z1 : W2.cell? ⟨xb, 1, none⟩ = some (.int .i64 N) := cell_of_blk hX2 rfl
      have z2 : W2.cell? ⟨xb, 2, none⟩ = some (.slice (some ⟨b0, o0, none⟩) R.length rc) := cell_of_blk hX2 rfl
      have z3 : W2.cell? ⟨xb, 3, none⟩ = some (.int .i64 op) := cell_of_blk hX2 rfl
      have z4 : W2.cell? ⟨xb, 4, none⟩ = some (.int .i64 a) := cell_of_blk hX2 rfl
      have z5 : W2.cell? ⟨xb, 5, none⟩ = some (.int .i64 0) := cell_of_blk hX2 rfl
      have z6 : W2.cell? ⟨xb, 6, none⟩ = some (.int .i64 0) := cell_of_blk hX2 rfl
      have be := st_begins (w := W2) (T := T) (N := N) (op := op) (a := a) (b := 0) (c := 0) (HK1.out.next hB2').all hlt
      rw [hx] at be
      have HB2 : Hid (Below W1.heap.size W1 W2) := hB2'
      have HR1 : Hid (W2.cell? ⟨rb, 1, none⟩ = some (.slice qa n qc)) := r1
      have i0 : (0 : Int) ≤ (k : Int) := Int.natCast_nonneg _
      have i1 : (k : Int) < (R.length : Int) := by omega
      clear hx hn hB2 hB2' hX2 hXr hKr r1 hB
      cases hbe : ownA a (L, l) with
      | false =>
        rw [hbe] at be
        have HBe : Hid (ownA a (L, l) = false) := hbe
        clear hbe
        go_wp2_with (go_at_call 24; refine be.mono ?_; rintro e w3 ⟨rfl, hB3⟩; clear be)
        go_roundw
        case rel =>
          refine ⟨k + 1, ?_, by go_num, by omega, ?_, HB2.out.trans (hB3.mono HB2.out.size)⟩
          · rw [le_any_take hlt, HAny.out, HXk.out.1, HBe.out, Bool.or_false]
          · rw [le_all_take hlt, HAll.out, HXk.out.1, HBe.out]
            rfl
        case measure => simp [intOf]; omega
      | true =>
        rw [hbe] at be
        have HBe : Hid (ownA a (L, l) = true) := hbe
        clear hbe
        by_cases hn1 : n = 1
        · have HN1 : Hid (n = 1) := hn1
          have en : ((n : Int) == 1) = true := by rw [hn1]; rfl
          clear hn1
          go_wp2_with
            (go_at_call 24; refine be.mono ?_; rintro e w3 ⟨rfl, hB3⟩; clear be
             have q1 := (hB3.cell (World.block_lt_of_cell? _ _ HR1.out)).trans HR1.out)
          have hF : leftB R a = false := by
            unfold leftB
            have : (R.all fun r => !(ownA a r && decide (r.2.length = 1))) = false := by
              rw [List.all_eq_false]
              refine ⟨(L, l), ?_, ?_⟩
              · rw [← HXk.out.1]
                simp [List.getD, hlt]
              · rw [HBe.out, HXk.out.2, HN1.out]
                simp
            rw [this, Bool.and_false]
          refine bodyPost_ret (v := .tuple #[.nilIface, .bool false]) (by simp [results, Try.results16, go_sem]) rfl ?_
          refine ⟨_, by rw [hF], fun h => ?_, HK1.out.below.trans ((HB2.out.trans (hB3.mono HB2.out.size)).mono (Nat.le_trans (by omega) HK1.out.size))⟩
          rw [hF] at h
          cases h
        · have en : ((n : Int) == 1) = false := by
            have : (n : Int) ≠ 1 := by omega
            simpa using this
          have HN1 : Hid (¬ n = 1) := hn1
          clear hn1
          go_wp2_with
            (go_at_call 24; refine be.mono ?_; rintro e w3 ⟨rfl, hB3⟩; clear be
             have q1 := (hB3.cell (World.block_lt_of_cell? _ _ HR1.out)).trans HR1.out)
          go_roundw
          case rel =>
            refine ⟨k + 1, ?_, by go_num, by omega, ?_, HB2.out.trans (hB3.mono HB2.out.size)⟩
            · rw [le_any_take hlt, HXk.out.1, HBe.out, Bool.or_true]
            · rw [le_all_take hlt, HAll.out, HXk.out.1, HBe.out, HXk.out.2]
              simp [HN1.out]
          case measure => simp [intOf]; omega
    · have hkk : k = R.length := by omega
      have hL : leftB R a = any := by
        unfold leftB
        have h1 := HAny.out
        have h2 := HAll.out
        rw [hkk, List.take_length] at h1 h2
        rw [h1, h2, Bool.and_true]
      have HL : Hid (leftB R a = any) := hL
      have z0 : wr.cell? ⟨xb, 0, none⟩ = some (.int .i64 T) := cell_of_blk hXr rfl
      have z1 : wr.cell? ⟨xb, 1, none⟩ = some (.int .i64 N) := cell_of_blk hXr rfl
      have z2 : wr.cell? ⟨xb, 2, none⟩ = some (.slice ra R.length rc) := cell_of_blk hXr rfl
      have z3 : wr.cell? ⟨xb, 3, none⟩ = some (.int .i64 op) := cell_of_blk hXr rfl
      have z4 : wr.cell? ⟨xb, 4, none⟩ = some (.int .i64 a) := cell_of_blk hXr rfl
      have z5 : wr.cell? ⟨xb, 5, none⟩ = some (.int .i64 0) := cell_of_blk hXr rfl
      have z6 : wr.cell? ⟨xb, 6, none⟩ = some (.int .i64 0) := cell_of_blk hXr rfl
      have HBl : Hid (Below w.heap.size w wr) := hKr.below
      clear hXr hKr hB hkk hL
      go_wp2_with fail
      refine bodyPost_ret (v := .tuple #[.iface 65 (.agg #[.int .i64 T, .int .i64 N, .slice ra R.length rc, .int .i64 op, .int .i64 a, .int .i64 0, .int .i64 0]), .bool any]) (by simp [results, Try.results16, go_sem]) rfl ?_
      exact ⟨_, by rw [HL.out], fun _ => rfl, HBl.out⟩

end Go.Proofs.Ytjdoiieiimdmfaa

/- Plain: the least set that an operator holds, by rounds. No program, no memory. -/
namespace Go.Proofs.Ytjdoiieiimdmfaa
open Classical

/-- What so many rounds of an operator make. -/
def Lv (F : (Int → Prop) → Int → Prop) : Nat → Int → Prop
  | 0, _ => False
  | k + 1, n => F (Lv F k) n

/-- An operator that grows, on the numbers from 0 to below N. -/
structure Mono (N : Nat) (F : (Int → Prop) → Int → Prop) : Prop where
  mono : ∀ A B : Int → Prop, (∀ n, A n → B n) → ∀ n, F A n → F B n
  bound : ∀ A n, F A n → 0 ≤ n ∧ n < (N : Int)

theorem Lv_succ {N : Nat} {F : (Int → Prop) → Int → Prop} (h : Mono N F) : ∀ k n, Lv F k n → Lv F (k + 1) n := by
  intro k
  induction k with
  | zero => intro n hn; exact hn.elim
  | succ k ih => intro n hn; exact h.mono _ _ ih n hn

theorem Lv_le {N : Nat} {F : (Int → Prop) → Int → Prop} (h : Mono N F) {k m : Nat} (hkm : k ≤ m) : ∀ n, Lv F k n → Lv F m n := by
  induction hkm with
  | refl => intro n hn; exact hn
  | step _ ih => intro n hn; exact Lv_succ h _ n (ih n hn)

noncomputable def cnt (N : Nat) (A : Int → Prop) : Nat := ((List.range N).filter fun i => decide (A (i : Nat))).length

theorem cnt_le (N : Nat) (A : Int → Prop) : cnt N A ≤ N := by
  have := List.length_filter_le (fun i : Nat => decide (A i)) (List.range N)
  simpa [cnt] using this

theorem filter_lt {α : Type} (p q : α → Bool) (h : ∀ x, p x = true → q x = true) : ∀ (l : List α),
    (l.filter p).length ≤ (l.filter q).length ∧ ((∃ x ∈ l, q x = true ∧ p x = false) → (l.filter p).length < (l.filter q).length) := by
  intro l
  induction l with
  | nil => simp
  | cons a r ih =>
    obtain ⟨ih1, ih2⟩ := ih
    cases hp : p a with
    | true =>
      have hq := h a hp
      simp only [List.filter_cons, hp, hq, if_true, List.length_cons]
      refine ⟨by omega, ?_⟩
      rintro ⟨x, hx, h1, h2⟩
      have : x ∈ r := by
        rcases List.mem_cons.1 hx with rfl | hx
        · rw [hp] at h2; cases h2
        · exact hx
      have := ih2 ⟨x, this, h1, h2⟩
      omega
    | false =>
      cases hq : q a with
      | true =>
        simp only [List.filter_cons, hp, hq, if_true, List.length_cons, Bool.false_eq_true, if_false]
        exact ⟨by omega, fun _ => by omega⟩
      | false =>
        simp only [List.filter_cons, hp, hq, Bool.false_eq_true, if_false]
        refine ⟨ih1, ?_⟩
        rintro ⟨x, hx, h1, h2⟩
        have : x ∈ r := by
          rcases List.mem_cons.1 hx with rfl | hx
          · rw [hq] at h1; cases h1
          · exact hx
        exact ih2 ⟨x, this, h1, h2⟩

theorem cnt_lt {N : Nat} {A B : Int → Prop} (h : ∀ n, A n → B n) {n : Int} (h0 : 0 ≤ n) (h1 : n < (N : Int)) (hb : B n) (ha : ¬ A n) : cnt N A < cnt N B := by
  obtain ⟨k, rfl⟩ : ∃ k : Nat, n = k := ⟨n.toNat, by omega⟩
  refine (filter_lt (fun i : Nat => decide (A i)) (fun i : Nat => decide (B i)) (fun x hx => ?_) (List.range N)).2 ⟨k, List.mem_range.2 (by omega), ?_, ?_⟩
  · simp only [decide_eq_true_eq] at hx ⊢; exact h _ hx
  · simpa using hb
  · simpa using ha

/-- N rounds are enough. -/
theorem Lv_stop {N : Nat} {F : (Int → Prop) → Int → Prop} (h : Mono N F) : ∀ m n, Lv F m n → Lv F N n := by
  have ex : ∃ k, k ≤ N ∧ ∀ n, Lv F (k + 1) n → Lv F k n := by
    refine byContradiction fun hno => ?_
    have grow : ∀ k, k ≤ N + 1 → k ≤ cnt N (Lv F k) := by
      intro k
      induction k with
      | zero => intro _; exact Nat.zero_le _
      | succ k ih =>
        intro hk
        have h1 := ih (by omega)
        have h2 : ∃ n, Lv F (k + 1) n ∧ ¬ Lv F k n := by
          refine byContradiction fun hn => hno ⟨k, by omega, fun n hn' => byContradiction fun hc => hn ⟨n, hn', hc⟩⟩
        obtain ⟨n, h3, h4⟩ := h2
        have hb := h.bound _ n h3
        have := cnt_lt (Lv_succ h k) hb.1 hb.2 h3 h4
        omega
    have h1 := grow (N + 1) (Nat.le_refl _)
    have h2 := cnt_le N (Lv F (N + 1))
    omega
  obtain ⟨k, hk, hstop⟩ := ex
  have all : ∀ m n, Lv F m n → Lv F k n := by
    intro m
    induction m with
    | zero => intro n hn; exact hn.elim
    | succ m ih => intro n hn; exact hstop n (h.mono _ _ ih n hn)
  exact fun m n hn => Lv_le h hk n (all m n hn)

/-- What N rounds make is held. -/
theorem Lv_closed {N : Nat} {F : (Int → Prop) → Int → Prop} (h : Mono N F) : ∀ n, F (Lv F N) n → Lv F N n := fun n hn => Lv_stop h (N + 1) n hn

/-- .. and in whatever is held. -/
theorem Lv_least {F : (Int → Prop) → Int → Prop} (mono : ∀ A B : Int → Prop, (∀ n, A n → B n) → ∀ n, F A n → F B n) {A : Int → Prop} (hA : ∀ n, F A n → A n) : ∀ k n, Lv F k n → A n := by
  intro k
  induction k with
  | zero => intro n hn; exact hn.elim
  | succ k ih => intro n hn; exact hA n (mono _ _ ih n hn)

/-! ### Sets of grammars -/

/-- All symbols are names of A. -/
def AllN (A : Int → Prop) (l : List Sy) : Prop := ∀ s ∈ l, s.1 = false ∧ A s.2
/-- Symbols may begin with the term t, where names of A may, and those of Nu be nothing. -/
def Beg (Nu A : Int → Prop) (t : Int) (l : List Sy) : Prop := ∃ i s, l[i]? = some s ∧ ((s.1 = true ∧ s.2 = t) ∨ (s.1 = false ∧ A s.2)) ∧ AllN Nu (l.take i)
theorem AllN.mono {A B : Int → Prop} (h : ∀ n, A n → B n) {l : List Sy} (hl : AllN A l) : AllN B l := fun s hs => ⟨(hl s hs).1, h _ (hl s hs).2⟩
theorem Beg.mono {Nu A B : Int → Prop} {t : Int} (h : ∀ n, A n → B n) {l : List Sy} (hl : Beg Nu A t l) : Beg Nu B t l := by
  obtain ⟨i, s, h1, h2, h3⟩ := hl
  refine ⟨i, s, h1, ?_, h3⟩
  rcases h2 with h2 | ⟨h2, h4⟩
  · exact .inl h2
  · exact .inr ⟨h2, h _ h4⟩

/-- What A1 says of a rule's names. -/
structure Fine (T N : Nat) (R : List Ru) : Prop where
  left : ∀ r ∈ R, 0 ≤ r.1 ∧ r.1 < (N : Int)
  name : ∀ r ∈ R, ∀ s ∈ r.2, s.1 = false → 0 ≤ s.2 ∧ s.2 < (N : Int)
  term : ∀ r ∈ R, ∀ s ∈ r.2, s.1 = true → 0 ≤ s.2 ∧ s.2 < (T : Int)
  some : 1 ≤ N

section
variable {T N : Nat} {R : List Ru} (h : Fine T N R)
include h

end

end Go.Proofs.Ytjdoiieiimdmfaa

/- Plain: C1's least sets: which names make, which come, which ones a name begins with. -/
namespace Go.Proofs.Ytjdoiieiimdmfaa

/-- The table says so of the name n. -/
def hasB (X : List Bool) (n : Int) : Prop := 0 ≤ n ∧ X.getD n.toNat false = true
/-- All names among symbols are of A. -/
def AllM (A : Int → Prop) (l : List Sy) : Prop := ∀ s ∈ l, s.1 = false → A s.2
def MakesF (R : List Ru) (A : Int → Prop) (n : Int) : Prop := ∃ r ∈ R, r.1 = n ∧ AllM A r.2
def ComesF (R : List Ru) (M A : Int → Prop) (n : Int) : Prop := (n = 0 ∧ M 0) ∨ ∃ r ∈ R, (false, n) ∈ r.2 ∧ AllM M r.2 ∧ A r.1
def MakesP (N : Nat) (R : List Ru) : Int → Prop := Lv (MakesF R) N
def ComesP (N : Nat) (R : List Ru) : Int → Prop := Lv (ComesF R (MakesP N R)) N
theorem AllM.mono {A B : Int → Prop} (h : ∀ n, A n → B n) {l : List Sy} (hl : AllM A l) : AllM B l := fun s hs hb => h _ (hl s hs hb)

theorem MakesF_up (R : List Ru) (A B : Int → Prop) (h : ∀ n, A n → B n) (n : Int) (hn : MakesF R A n) : MakesF R B n := by
  obtain ⟨r, h1, h2, h3⟩ := hn
  exact ⟨r, h1, h2, h3.mono h⟩
theorem ComesF_up (R : List Ru) (M : Int → Prop) (A B : Int → Prop) (h : ∀ n, A n → B n) (n : Int) (hn : ComesF R M A n) : ComesF R M B n := by
  rcases hn with hn | ⟨r, h1, h2, h3, h4⟩
  · exact .inl hn
  · exact .inr ⟨r, h1, h2, h3, h _ h4⟩
section
variable {T N : Nat} {R : List Ru} (h : Fine T N R)
include h

theorem MakesF_mono : Mono N (MakesF R) := ⟨fun A B => MakesF_up R A B, fun A n hn => by obtain ⟨r, h1, rfl, _⟩ := hn; exact h.left r h1⟩
theorem ComesF_mono (M : Int → Prop) : Mono N (ComesF R M) := ⟨fun A B => ComesF_up R M A B, fun A n hn => by
  rcases hn with ⟨rfl, _⟩ | ⟨r, h1, h2, _⟩
  · have := h.some; omega
  · exact h.name r h1 _ h2 rfl⟩
end

theorem allB_iff {X : List Bool} {l : List Sy} (h : ∀ s ∈ l, s.1 = false → 0 ≤ s.2) : allB X l = true ↔ AllM (hasB X) l := by
  unfold allB AllM hasB
  rw [List.all_eq_true]
  constructor
  · intro hh s hs hb
    have := hh s hs
    rw [hb] at this
    exact ⟨h s hs hb, by simpa using this⟩
  · intro hh s hs
    cases hb : s.1 with
    | true => rfl
    | false => rw [(hh s hs hb).2]; rfl

theorem mem_getD {R : List Ru} {i : Nat} (hi : i < R.length) : R.getD i (0, []) ∈ R := by simp [List.getD, hi]
theorem getD_of_mem {R : List Ru} {r : Ru} (hr : r ∈ R) : ∃ i, i < R.length ∧ R.getD i (0, []) = r := by
  obtain ⟨i, hi, rfl⟩ := List.getElem_of_mem hr
  exact ⟨i, hi, by simp [List.getD, hi]⟩
theorem toNat_of {v : Int} (h : 0 ≤ v) : ((v.toNat : Nat) : Int) = v := by omega

end Go.Proofs.Ytjdoiieiimdmfaa

/- The contract of pollardingref3.first. -/
namespace Go.Proofs.Ytjdoiieiimdmfaa
open Go.RowKit

end Go.Proofs.Ytjdoiieiimdmfaa

/- How sets lie in memory while they are made; what is made at first. No walk. -/
namespace Go.Proofs.Ytjdoiieiimdmfaa
open Go.RowKit

section
variable {w : World} {base sb T N mf mg : Nat} {nv fv gv : Value} {vf vg : Nat → Value} {Nu : List Bool} {Fi Fo : List (List Bool)}

theorem Owns.make {ι : Type} [DecidableEq ι] {w : World} {base : Nat} {P : ι → Option Row} (h : Owns w base P) (i : ι) (n : Nat) (hb : base ≤ w.heap.size) (hn : n ≤ maxLen) :
    Owns (w.alloc (.cells (madeCells #[.bool false] n) 4)) base (upd P i ⟨.slice (some ⟨w.heap.size, 0, none⟩) n n, 4, 1, n, (List.replicate n false).map Value.bool⟩) := by
  refine h.new i (World.grownBy_alloc w _ none) ?_ (fun g hg => by simpa [Value.ownBlock] using hg.symm)
  have := World.ownsRow_lit (base := base) (e := 4) (size := 1) w (madeCells #[.bool false] n) n hb hn (by simp [size_madeCells])
  rw [toList_madeCells_one] at this
  simpa using this

end

end Go.Proofs.Ytjdoiieiimdmfaa

/- How pollardingref2.Of's sets lie in memory while they grow; what it makes, as plain functions. No walk. -/
namespace Go.Proofs.Ytjdoiieiimdmfaa
open Go.RowKit

section
variable {w : World} {base sb T N mf mg : Nat} {nv fv gv : Value} {vf vg : Nat → Value} {Nu : List Bool} {Fi Fo : List (List Bool)}

end

end Go.Proofs.Ytjdoiieiimdmfaa

/- The contract of pollardingref2.Of, of a grammar that may be. -/
namespace Go.Proofs.Ytjdoiieiimdmfaa
open Go.RowKit

end Go.Proofs.Ytjdoiieiimdmfaa

/- Plain: what pollardingref2.Of makes are the least sets. -/
namespace Go.Proofs.Ytjdoiieiimdmfaa

/-- The table says so of the name n. -/
def hasN (X : List Bool) (n : Int) : Prop := 0 ≤ n ∧ X.getD n.toNat false = true
theorem hasN_set {X : List Bool} {l : Nat} (hl : l < X.length) {n : Int} : hasN (X.set l true) n ↔ n = (l : Int) ∨ hasN X n := by
  unfold hasN
  constructor
  · rintro ⟨h0, h1⟩
    by_cases e : n.toNat = l
    · exact .inl (by omega)
    · right
      refine ⟨h0, ?_⟩
      rw [← h1]
      simp [List.getD, List.getElem?_set_ne (fun h => e h.symm)]
  · rintro (rfl | ⟨h0, h1⟩)
    · exact ⟨by omega, by simp [List.getD, hl]⟩
    · refine ⟨h0, ?_⟩
      by_cases e : n.toNat = l
      · subst e; simp [List.getD, hl]
      · rw [← h1]; simp [List.getD, List.getElem?_set_ne (fun h => e h.symm)]

section
variable {T N : Nat} {R : List Ru} (hf : Fine T N R)
include hf

/-- A table of N rows, each of w truths. -/
def Shape (N w : Nat) (F : List (List Bool)) : Prop := F.length = N ∧ ∀ n, n < N → (F.getD n []).length = w

omit hf in
theorem Shape.replicate (N w : Nat) : Shape N w (List.replicate N (List.replicate w false)) := by
  refine ⟨by simp, fun n hn => ?_⟩
  simp [List.getD, hn]

end

end Go.Proofs.Ytjdoiieiimdmfaa

/- The contract of pollardingref3.Left. -/
namespace Go.Proofs.Ytjdoiieiimdmfaa
open Go.RowKit

end Go.Proofs.Ytjdoiieiimdmfaa

/- Plain: what pollardingref3's Makes, Comes and Left make are the least sets. -/
namespace Go.Proofs.Ytjdoiieiimdmfaa

theorem hasB_set {X : List Bool} {l : Nat} (hl : l < X.length) {n : Int} : hasB (X.set l true) n ↔ n = (l : Int) ∨ hasB X n := hasN_set hl

theorem hasB_none {N : Nat} {n : Int} (hn : hasB (List.replicate N false) n) : False := by
  have := hn.2
  by_cases h : n.toNat < N
  · simp [List.getD, h] at this
  · simp [List.getD, List.getElem?_eq_none (show (List.replicate N false).length ≤ n.toNat by simp; omega)] at this

section
variable {T N : Nat} {R : List Ru} (hf : Fine T N R)
include hf

theorem rule_ge {i : Nat} (hi : i < R.length) : ∀ s ∈ (R.getD i (0, [])).2, s.1 = false → 0 ≤ s.2 := fun s hs h => (hf.name _ (mem_getD hi) s hs h).1

theorem makesA_iff : (makesA R N).length = N ∧ ∀ n, hasB (makesA R N) n ↔ MakesP N R n := by
  have hm := MakesF_mono hf
  have main := loopN_inv (n := N) (f := fun _ => loopN R.length (makesS R)) (x := List.replicate N false)
    (fun k X => X.length = N ∧ (∀ n, hasB X n → MakesP N R n) ∧ ∀ n, Lv (MakesF R) k n → hasB X n)
    ⟨by simp, fun n hn => (hasB_none hn).elim, fun n hn => hn.elim⟩
    (fun k _ X ⟨h1, h2, h3⟩ => by
      have inner := loopN_inv (n := R.length) (f := makesS R) (x := X)
        (fun i Y => Y.length = N ∧ (∀ n, hasB Y n → MakesP N R n) ∧ (∀ n, Lv (MakesF R) k n → hasB Y n) ∧ ∀ j, j < i → AllM (Lv (MakesF R) k) (R.getD j (0, [])).2 → hasB Y (R.getD j (0, [])).1)
        ⟨h1, h2, h3, fun j hj => absurd hj (Nat.not_lt_zero _)⟩
        (fun i hi Y ⟨y1, y2, y3, y4⟩ => by
          have hL := hf.left _ (mem_getD hi)
          have hl : (R.getD i (0, [])).1.toNat < Y.length := by omega
          have hcast := toNat_of hL.1
          unfold makesS
          cases hb : allB Y (R.getD i (0, [])).2 with
          | true =>
            simp only [if_true]
            have hall := (allB_iff (rule_ge hf hi)).1 hb
            refine ⟨by simp [y1], fun n hn => ?_, fun n hn => (hasB_set hl).2 (.inr (y3 n hn)), fun j hj ha => ?_⟩
            · rcases (hasB_set hl).1 hn with rfl | hn
              · rw [hcast]
                exact Lv_closed hm _ ⟨_, mem_getD hi, rfl, hall.mono y2⟩
              · exact y2 n hn
            · rcases Nat.lt_succ_iff_lt_or_eq.1 hj with hj | rfl
              · exact (hasB_set hl).2 (.inr (y4 j hj ha))
              · exact (hasB_set hl).2 (.inl hcast.symm)
          | false =>
            simp only [Bool.false_eq_true, if_false]
            refine ⟨y1, y2, y3, fun j hj ha => ?_⟩
            rcases Nat.lt_succ_iff_lt_or_eq.1 hj with hj | rfl
            · exact y4 j hj ha
            · rw [(allB_iff (rule_ge hf hi)).2 (ha.mono y3)] at hb; cases hb)
      obtain ⟨z1, z2, _, z4⟩ := inner
      refine ⟨z1, z2, fun n hn => ?_⟩
      obtain ⟨r, hr, rfl, ha⟩ := hn
      obtain ⟨j, hj, rfl⟩ := getD_of_mem hr
      exact z4 j hj ha)
  obtain ⟨m1, m2, m3⟩ := main
  exact ⟨m1, fun n => ⟨m2 n, fun hn => m3 n hn⟩⟩

theorem comesA_iff : (comesA R N).length = N ∧ ∀ n, hasB (comesA R N) n ↔ ComesP N R n := by
  obtain ⟨ml, mi⟩ := makesA_iff hf
  have hN := hf.some
  have hm := ComesF_mono hf (MakesP N R)
  have h0 : hasB ((List.replicate N false).set 0 ((makesA R N).getD 0 false)) 0 ↔ MakesP N R 0 := by
    rw [← mi 0]
    unfold hasB
    have : 0 < N := by omega
    simp [List.getD, this]
  have main := loopN_inv (n := N) (f := fun _ => loopN R.length (comesR R (makesA R N))) (x := (List.replicate N false).set 0 ((makesA R N).getD 0 false))
    (fun k X => X.length = N ∧ (∀ n, hasB X n → ComesP N R n) ∧ (MakesP N R 0 → hasB X 0) ∧ ∀ n, Lv (ComesF R (MakesP N R)) k n → hasB X n)
    ⟨by simp, fun n hn => by
      by_cases h : n = 0
      · subst h; exact Lv_closed hm _ (.inl ⟨rfl, h0.1 hn⟩)
      · refine (hasB_none (N := N) (n := n) ⟨hn.1, ?_⟩).elim
        have hn2 := hn.2
        have hne : 0 ≠ n.toNat := by have := hn.1; omega
        simpa [List.getD, List.getElem?_set_ne hne] using hn2, h0.2, fun n hn => hn.elim⟩
    (fun k _ X ⟨h1, h2, hz, h3⟩ => by
      have inner := loopN_inv (n := R.length) (f := comesR R (makesA R N)) (x := X)
        (fun i Y => Y.length = N ∧ (∀ n, hasB Y n → ComesP N R n) ∧ (∀ n, hasB X n → hasB Y n) ∧ ∀ j, j < i → AllM (MakesP N R) (R.getD j (0, [])).2 → hasB X (R.getD j (0, [])).1 → ∀ n : Int, (false, n) ∈ (R.getD j (0, [])).2 → hasB Y n)
        ⟨h1, h2, fun _ h => h, fun j hj => absurd hj (Nat.not_lt_zero _)⟩
        (fun i hi Y ⟨y1, y2, y3, y4⟩ => by
          have hr := mem_getD hi
          have hL := hf.left _ hr
          have hcast := toNat_of hL.1
          unfold comesR
          cases hb : (Y.getD (R.getD i (0, [])).1.toNat false && allB (makesA R N) (R.getD i (0, [])).2) with
          | true =>
            simp only [if_true]
            simp only [Bool.and_eq_true] at hb
            have hc : ComesP N R (R.getD i (0, [])).1 := y2 _ ⟨hL.1, hb.1⟩
            have hall : AllM (MakesP N R) (R.getD i (0, [])).2 := ((allB_iff (rule_ge hf hi)).1 hb.2).mono fun n hn => (mi n).1 hn
            have names := loopN_inv (n := (R.getD i (0, [])).2.length) (f := nameS (R.getD i (0, [])).2) (x := Y)
              (fun k Q => Q.length = N ∧ (∀ n, hasB Q n → ComesP N R n) ∧ (∀ n, hasB Y n → hasB Q n) ∧ ∀ j, j < k → ((R.getD i (0, [])).2.getD j (false, 0)).1 = false → hasB Q ((R.getD i (0, [])).2.getD j (false, 0)).2)
              ⟨y1, y2, fun _ h => h, fun j hj => absurd hj (Nat.not_lt_zero _)⟩
              (fun k hk Q ⟨q1, q2, q3, q4⟩ => by
                have hmem : (R.getD i (0, [])).2.getD k (false, 0) ∈ (R.getD i (0, [])).2 := by
                  generalize (R.getD i (0, [])).2 = l at hk
                  simp [List.getD, hk]
                unfold nameS
                obtain ⟨⟨x, v⟩, hx⟩ : ∃ x, (R.getD i (0, [])).2.getD k (false, 0) = x := ⟨_, rfl⟩
                rw [hx] at hmem ⊢
                cases x with
                | true =>
                  simp only [if_true]
                  refine ⟨q1, q2, q3, fun j hj hjf => ?_⟩
                  rcases Nat.lt_succ_iff_lt_or_eq.1 hj with hj | rfl
                  · exact q4 j hj hjf
                  · rw [hx] at hjf; cases hjf
                | false =>
                  simp only [Bool.false_eq_true, if_false]
                  have hv := hf.name _ hr _ hmem rfl
                  simp only at hv
                  have hl : v.toNat < Q.length := by omega
                  refine ⟨by simp [q1], fun n hn => ?_, fun n hn => (hasB_set hl).2 (.inr (q3 n hn)), fun j hj hjf => ?_⟩
                  · rcases (hasB_set hl).1 hn with rfl | hn
                    · rw [toNat_of hv.1]
                      exact Lv_closed hm _ (.inr ⟨_, hr, hmem, hall, hc⟩)
                    · exact q2 n hn
                  · rcases Nat.lt_succ_iff_lt_or_eq.1 hj with hj | rfl
                    · exact (hasB_set hl).2 (.inr (q4 j hj hjf))
                    · rw [hx]; exact (hasB_set hl).2 (.inl (toNat_of hv.1).symm))
            obtain ⟨z1, z2, z3, z4⟩ := names
            refine ⟨z1, z2, fun n hn => z3 n (y3 n hn), fun j hj ha hx n hmem => ?_⟩
            rcases Nat.lt_succ_iff_lt_or_eq.1 hj with hj | rfl
            · exact z3 n (y4 j hj ha hx n hmem)
            · obtain ⟨q, hq, he⟩ := List.getElem_of_mem hmem
              have e : (R.getD j (0, [])).2.getD q (false, 0) = (false, n) := by
                generalize (R.getD j (0, [])).2 = l at hq he
                simp [List.getD, hq, he]
              have := z4 q hq (by rw [e])
              rwa [e] at this
          | false =>
            simp only [Bool.false_eq_true, if_false]
            refine ⟨y1, y2, y3, fun j hj ha hx n hmem => ?_⟩
            rcases Nat.lt_succ_iff_lt_or_eq.1 hj with hj | rfl
            · exact y4 j hj ha hx n hmem
            · rw [(y3 _ hx).2, (allB_iff (rule_ge hf hi)).2 (ha.mono fun n hn => (mi n).2 hn)] at hb
              cases hb)
      obtain ⟨z1, z2, z3, z4⟩ := inner
      refine ⟨z1, z2, fun h => z3 0 (hz h), fun n hn => ?_⟩
      rcases hn with ⟨rfl, hM⟩ | ⟨r, hr, hmem, ha, hc⟩
      · exact z3 0 (hz hM)
      · obtain ⟨j, hj, rfl⟩ := getD_of_mem hr
        exact z4 j hj ha (h3 _ hc) n hmem)
  obtain ⟨m1, m2, _, m3⟩ := main
  exact ⟨m1, fun n => ⟨m2 n, fun hn => m3 n hn⟩⟩

end

end Go.Proofs.Ytjdoiieiimdmfaa
