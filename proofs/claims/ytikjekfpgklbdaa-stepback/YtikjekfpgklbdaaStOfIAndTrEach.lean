import Derived.Test.YtikjekfpgklbdaaStepAt2AndStOfE
/- The contracts of package step's rulesOf and inlineOf. -/
namespace Go.Proofs.Ytikjekfpgklbdaa
open Go.RowKit

theorem Try.infoIn8 : (Try.prog.info? 3).map (fun i => (i.zero, i.size, i.bytes)) = some (some (.int .i64 0), 1, 8) := by kernel_rfl
def idxV (IX : List Nat) : List Value := IX.map fun (n : Nat) => Value.int .i64 (n : Int)
theorem idxF_len (p : Nat → Bool) (n : Nat) : (idxF p n).length ≤ n := by
  unfold idxF
  refine Nat.le_trans (List.length_filter_le _ _) ?_
  simp
theorem idxF_lt {p : Nat → Bool} {n k : Nat} (h : k < (idxF p n).length) : (idxF p n).getD k 0 < n := by
  have e : (idxF p n).getD k 0 = (idxF p n)[k] := by simp [List.getD, h]
  have hm : (idxF p n)[k] ∈ idxF p n := List.getElem_mem h
  rw [e]
  unfold idxF at hm ⊢
  rw [List.mem_filter] at hm
  exact List.mem_range.1 hm.1
/-- Numbers in a row of one's own, as a list. -/
theorem own_listI {w : World} {B : Nat} {v : Value} {IX : List Nat} (h : w.ownsRow B 3 1 v IX.length (idxV IX)) : ListAt w w.heap.size v (IX.map fun (n : Nat) => (n : Int)) := by
  obtain ⟨a, c, hv⟩ := own_form h
  refine ⟨⟨a, c, by rw [List.length_map]; exact hv⟩, fun p hp => ?_⟩
  have hp' : p < IX.length := by simpa using hp
  obtain ⟨g, cap, hg, _, hlt⟩ := h.form (by omega)
  have h' := h
  rw [hg] at h'
  refine ⟨g, 0, cap, by rw [List.length_map]; exact hg, hlt, ?_⟩
  rw [Nat.zero_add, h'.cellAt p (by omega)]
  simp [idxV, List.getD, hp']

set_option maxRecDepth 100000 in
set_option maxHeartbeats 3200000 in
theorem st_rulesOf {w : World} {ra : Option Addr} {rc : Nat} {R : List Ru} {m : Int} (hr : RulesAt w w.heap.size (.slice ra R.length rc) R) (hl : R.length ≤ 1000) :
    Calls Try.prog 38 #[.slice ra R.length rc, .int .i64 m] w fun e w' => ∃ ov, e = .returned ov ∧ w'.ownsRow w.heap.size 3 1 ov (idxF (fun k => decide ((R.getD k (0, [])).1 = m)) R.length).length (idxV (idxF (fun k => decide ((R.getD k (0, [])).1 = m)) R.length)) ∧ Below w.heap.size w w' := by
  obtain ⟨p, hp⟩ : ∃ p : Nat → Bool, (fun k => decide ((R.getD k (0, [])).1 = m)) = p := ⟨_, rfl⟩
  rw [hp]
  have HP : Hid (∀ k, p k = decide ((R.getD k (0, [])).1 = m)) := fun k => by rw [← hp]
  have HR : Hid (RulesAt w w.heap.size (.slice ra R.length rc) R) := hr
  clear hr hp
  go_enter Try.func38, Try.ntmps38
  go_wp2_with fail
  go_loopw [5, 10] (fun s5 s10 wr => ∃ (k : Nat) (ov : Value), ov = s5 ∧ s10 = .int .i64 k ∧ k ≤ R.length ∧ wr.ownsRow w.heap.size 3 1 ov (idxF p k).length (idxV (idxF p k)) ∧ Below w.heap.size w wr) (fun _ s _ => R.length - (intOf s).toNat)
  case atStart => exact ⟨0, _, rfl, rfl, Nat.zero_le _, World.ownsRow_nil w w.heap.size 3 1, Below.refl _ _⟩
  case round =>
    obtain ⟨k, ov, rfl, rfl, hk, hO, hB⟩ := hrel
    have HB : Hid (Below w.heap.size w wr) := hB
    have HO : Hid (wr.ownsRow w.heap.size 3 1 ov (idxF p k).length (idxV (idxF p k))) := hO
    by_cases hlt : k < R.length
    · obtain ⟨b0, o0, rc0, qa, qc, hv, _, k1, k2, _⟩ := (HR.out.below hB).syms hlt
      cases hv
      have hpk := HP.out k
      have hsu := idx_succ p k
      have hln := idxF_len p k
      obtain ⟨⟨L, l⟩, hx⟩ : ∃ x, R.getD k (0, []) = x := ⟨_, rfl⟩
      rw [hx] at k1 k2 hpk
      simp only at k1 k2 hpk
      obtain ⟨n, hn⟩ : ∃ n, l.length = n := ⟨_, rfl⟩
      rw [hn] at k2
      obtain ⟨W1, hW1⟩ : ∃ W, wr.alloc (.cells #[.int .i64 L, .slice qa n qc] 44) = W := ⟨_, rfl⟩
      have hB1 : Below wr.heap.size wr W1 := by rw [← hW1]; exact (Below.refl _ _).alloc (Nat.le_refl _) _
      have HB1 : Hid (Below wr.heap.size wr W1) := hB1
      have d0 : W1.cell? ⟨wr.heap.size, 0, none⟩ = some (.int .i64 L) := by rw [← hW1]; exact cell_of_blk (heap_alloc_new _ _) rfl
      have i0 : (0 : Int) ≤ (k : Int) := Int.natCast_nonneg _
      have i1 : (k : Int) < (R.length : Int) := by omega
      by_cases hm : L = m
      · subst hm
        have e1 : (L == L) = true := by simp
        rw [hpk] at hsu
        simp only [decide_true, if_true] at hsu
        have own5 := (own_below hO hB1 fun g hg => (hO.lt g hg).2).alloc (.cells #[.int .i64 k] 3)
        have hnw5 := World.news_of_block (cs := #[.int .i64 k]) (t := 3) (fr := (0, 0)) (heap_alloc_new W1 (.cells #[.int .i64 k] 3))
        have hb5 : w.heap.size ≤ (W1.alloc (.cells #[.int .i64 k] 3)).heap.size := by
          have := hB.size
          have := hB1.size
          simp
          omega
        obtain ⟨q, hq⟩ : ∃ q, (idxF p k).length = q := ⟨_, rfl⟩
        rw [hq] at own5 hln
        have n1 : q + 1 ≤ maxLen := by unfold maxLen; omega
        have n2 : (q + 1) * 8 ≤ 140737488355328 := by omega
        have HX : Hid (idxF p (k + 1) = idxF p k ++ [k] ∧ (idxF p k).length = q) := ⟨hsu, hq⟩
        obtain ⟨i0', hi0, hz0, hz1, hz2⟩ := info_parts Try.infoIn8
        clear hB hO hx hn hq hpk hsu hB1
        go_wp2_with
          (at_builtin
           refine wpList_append_lies _ rfl _ _ _ rfl w.heap.size 3 i0' _ 1 8 Try.underlying27 hi0 hz0 hz1 hz2 rfl (by omega) ov q (idxV (idxF p k)) rfl own5 ⟨W1.heap.size, 0, none⟩ 1 1 [.int .i64 k] rfl rfl hnw5 (by simp [Value.oneCell']) (by omega) n1 n2 hb5 _ rfl ?_
           intro g6 cap6 w6 hown6 hgrow6 hat6 hlt6)
        go_roundw
        case rel =>
          refine ⟨k + 1, _, rfl, by go_num, by omega, ?_, ?_⟩
          · rw [HX.out.1, List.length_append, HX.out.2]
            unfold idxV at hown6 ⊢
            rw [List.map_append]
            exact hown6
          · have h4 : Below w.heap.size w (W1.alloc (.cells #[.int .i64 k] 3)) := (HB.out.trans (HB1.out.mono HB.out.size)).alloc (Nat.le_trans HB.out.size HB1.out.size) _
            exact h4.grown hgrow6 hb5 fun j hj => (own5.lt j hj).1
        case measure => simp [intOf]; omega
      · have e1 : (L == m) = false := by simpa using hm
        have HN : Hid (idxF p (k + 1) = idxF p k) := by
          show _ = _
          rw [hsu, hpk, decide_eq_false hm]
          simp
        clear hB hO hx hn hpk hsu hB1
        go_wp2_with fail
        go_roundw
        case rel => exact ⟨k + 1, ov, rfl, by go_num, by omega, by rw [HN.out]; exact own_below HO.out HB1.out fun g hg => (HO.out.lt g hg).2, HB.out.trans (HB1.out.mono HB.out.size)⟩
        case measure => simp [intOf]; omega
    · obtain rfl : k = R.length := by omega
      clear hB hO
      go_wp2_with fail
      go_ret
      exact ⟨ov, rfl, HO.out, HB.out⟩

set_option maxRecDepth 100000 in
set_option maxHeartbeats 6400000 in
theorem st_inlineOf_no {w : World} {T N : Int} {ra : Option Addr} {rc : Nat} {R : List Ru} {op a b c : Int} (hr : RulesAt w w.heap.size (.slice ra R.length rc) R) (hs : ¬ (0 ≤ a ∧ a < (R.length : Int) ∧ 0 ≤ b ∧ b < ((R.getD a.toNat (0, [])).2.length : Int) ∧ c = 0 ∧ ((R.getD a.toNat (0, [])).2.getD b.toNat (false, 0)).1 = false ∧ ((R.getD a.toNat (0, [])).2.getD b.toNat (false, 0)).2 ≠ (R.getD a.toNat (0, [])).1)) :
    Calls Try.prog 28 #[.agg #[.int .i64 T, .int .i64 N, .slice ra R.length rc, .int .i64 op, .int .i64 a, .int .i64 b, .int .i64 c]] w fun e w' => e = .returned (.tuple #[.nilIface, .bool false]) ∧ Below w.heap.size w w' := by
  have hK := kbox_start (T := T) (N := N) (op := op) (a := a) (b := b) (c := c) hr
  obtain ⟨W0, hW0⟩ : ∃ W, w.alloc (.cells #[.int .i64 T, .int .i64 N, .slice ra R.length rc, .int .i64 op, .int .i64 a, .int .i64 b, .int .i64 c] 66) = W := ⟨_, rfl⟩
  rw [hW0] at hK
  have x2 := hK.x2
  have x4 := hK.x4
  have x5 := hK.x5
  have x6 := hK.x6
  have HB : Hid (Below w.heap.size w W0) := hK.below
  have ia := st_isBelow (w := W0) (n := a) (m := (R.length : Int))
  cases hA : (decide (0 ≤ a) && decide (a < (R.length : Int))) with
  | false =>
    rw [hA] at ia
    clear hK hr hs hA
    go_enter Try.func28, Try.ntmps28
    go_wp2_with (go_at_call 36; refine ia.mono ?_; rintro e w2 ⟨rfl, rfl⟩)
    refine bodyPost_ret (v := .tuple #[.nilIface, .bool false]) (by simp [results, Try.results28, go_sem]) rfl ?_
    exact ⟨rfl, HB.out⟩
  | true =>
    rw [hA] at ia
    simp only [Bool.and_eq_true, decide_eq_true_eq] at hA
    by_cases hc : c = 0
    · have ec : (c == 0) = true := by simpa using hc
      obtain ⟨ka, rfl⟩ : ∃ ka : Nat, a = ka := ⟨a.toNat, by omega⟩
      have hk : ka < R.length := by omega
      obtain ⟨b0, o0, rc0, qa, qc, hv, _, k1, k2, hsy⟩ := hK.rules.syms hk
      cases hv
      rw [Int.toNat_natCast] at hs
      obtain ⟨⟨L, l⟩, hx⟩ : ∃ x, R.getD ka (0, []) = x := ⟨_, rfl⟩
      rw [hx] at k1 k2 hsy hs
      simp only at k1 k2 hsy hs
      obtain ⟨W1, hW1⟩ : ∃ W, W0.alloc (.cells #[.int .i64 L, .slice qa l.length qc] 44) = W := ⟨_, rfl⟩
      have hB1 : Below W0.heap.size W0 W1 := by rw [← hW1]; exact (Below.refl _ _).alloc (Nat.le_refl _) _
      have hK1 := hK.next hB1
      have HB1 : Hid (Below w.heap.size w W1) := hK1.below
      have y5 := hK1.x5
      have r0 : W1.cell? ⟨W0.heap.size, 0, none⟩ = some (.int .i64 L) := by rw [← hW1]; exact cell_of_blk (heap_alloc_new _ _) rfl
      have r1 : W1.cell? ⟨W0.heap.size, 1, none⟩ = some (.slice qa l.length qc) := by rw [← hW1]; exact cell_of_blk (heap_alloc_new _ _) rfl
      have i0 : (0 : Int) ≤ (ka : Int) := Int.natCast_nonneg _
      have i1 : (ka : Int) < (R.length : Int) := by omega
      have ib := st_isBelow (w := W1) (n := b) (m := (l.length : Int))
      have sy1 := hsy.same (same_below hB1)
      cases hBb : (decide (0 ≤ b) && decide (b < (l.length : Int))) with
      | false =>
        rw [hBb] at ib
        clear hK hr hs hx hsy sy1 hB1 hK1 hA hBb hc
        go_enter Try.func28, Try.ntmps28
        go_wp2_with
          (first
           | (go_at_call 36; with_reducible refine ia.mono ?_; rintro e w2 ⟨rfl, h2⟩; obtain rfl : W0 = w2 := h2.symm; clear ia)
           | (go_at_call 36; with_reducible refine ib.mono ?_; rintro e w2 ⟨rfl, h2⟩; obtain rfl : W1 = w2 := h2.symm; clear ib))
        refine bodyPost_ret (v := .tuple #[.nilIface, .bool false]) (by simp [results, Try.results28, go_sem]) rfl ?_
        exact ⟨rfl, HB1.out⟩
      | true =>
        rw [hBb] at ib
        simp only [Bool.and_eq_true, decide_eq_true_eq] at hBb
        obtain ⟨bn, rfl⟩ : ∃ bn : Nat, b = bn := ⟨b.toNat, by omega⟩
        have hbl : bn < l.length := by omega
        obtain ⟨b1, o1, c1, hv1, s1, s2⟩ := sy1.2 bn hbl
        cases hv1
        rw [Int.toNat_natCast] at hs
        obtain ⟨⟨t, X⟩, hy⟩ : ∃ x, l.getD bn (false, 0) = x := ⟨_, rfl⟩
        rw [hy] at s1 s2 hs
        simp only at s1 s2 hs
        obtain ⟨W2, hW2⟩ : ∃ W, W1.alloc (.cells #[.bool t, .int .i64 X] 52) = W := ⟨_, rfl⟩
        have hB2 : Below W1.heap.size W1 W2 := by rw [← hW2]; exact (Below.refl _ _).alloc (Nat.le_refl _) _
        have HB2 : Hid (Below w.heap.size w W2) := (hK1.next hB2).below
        have t0 : W2.cell? ⟨W1.heap.size, 0, none⟩ = some (.bool t) := by rw [← hW2]; exact cell_of_blk (heap_alloc_new _ _) rfl
        have t1 : W2.cell? ⟨W1.heap.size, 1, none⟩ = some (.int .i64 X) := by rw [← hW2]; exact cell_of_blk (heap_alloc_new _ _) rfl
        have u0 := (hB2.cell (World.block_lt_of_cell? _ _ r0)).trans r0
        have j0 : (0 : Int) ≤ (bn : Int) := Int.natCast_nonneg _
        have j1 : (bn : Int) < (l.length : Int) := by omega
        cases t with
        | true =>
          clear hK hr hs hx hsy sy1 hB1 hK1 hA hBb hc hB2 hy
          go_enter Try.func28, Try.ntmps28
          go_wp2_with
            (first
             | (go_at_call 36; with_reducible refine ia.mono ?_; rintro e w2 ⟨rfl, h2⟩; obtain rfl : W0 = w2 := h2.symm; clear ia)
             | (go_at_call 36; with_reducible refine ib.mono ?_; rintro e w2 ⟨rfl, h2⟩; obtain rfl : W1 = w2 := h2.symm; clear ib))
          refine bodyPost_ret (v := .tuple #[.nilIface, .bool false]) (by simp [results, Try.results28, go_sem]) rfl ?_
          exact ⟨rfl, HB2.out⟩
        | false =>
          have hXL : X = L := Classical.byContradiction fun hne => hs ⟨i0, i1, j0, j1, hc, rfl, hne⟩
          subst hXL
          have eX : (X == X) = true := by simp
          clear hK hr hs hx hsy sy1 hB1 hK1 hA hBb hc hB2 hy
          go_enter Try.func28, Try.ntmps28
          go_wp2_with
            (first
             | (go_at_call 36; with_reducible refine ia.mono ?_; rintro e w2 ⟨rfl, h2⟩; obtain rfl : W0 = w2 := h2.symm; clear ia)
             | (go_at_call 36; with_reducible refine ib.mono ?_; rintro e w2 ⟨rfl, h2⟩; obtain rfl : W1 = w2 := h2.symm; clear ib))
          refine bodyPost_ret (v := .tuple #[.nilIface, .bool false]) (by simp [results, Try.results28, go_sem]) rfl ?_
          exact ⟨rfl, HB2.out⟩
    · have ec : (c == 0) = false := by simpa using hc
      clear hK hr hs hA hc
      go_enter Try.func28, Try.ntmps28
      go_wp2_with (go_at_call 36; refine ia.mono ?_; rintro e w2 ⟨rfl, rfl⟩)
      refine bodyPost_ret (v := .tuple #[.nilIface, .bool false]) (by simp [results, Try.results28, go_sem]) rfl ?_
      exact ⟨rfl, HB.out⟩

set_option maxRecDepth 100000 in
set_option maxHeartbeats 6400000 in
theorem st_inlineOf_yes {w : World} {T N : Int} {ra : Option Addr} {rc : Nat} {R : List Ru} {op : Int} {ka bn m : Nat} {L X : Int} {l : List Sy} (hr : RulesAt w w.heap.size (.slice ra R.length rc) R) (hl : R.length ≤ 1000) (hk : ka < R.length) (hx : R.getD ka (0, []) = (L, l)) (hcl : l.length = bn + 1 + m) (hl8 : l.length ≤ 1000) (hX : l.getD bn (false, 0) = (false, X)) (hne : X ≠ L) :
    Calls Try.prog 28 #[.agg #[.int .i64 T, .int .i64 N, .slice ra R.length rc, .int .i64 op, .int .i64 ka, .int .i64 bn, .int .i64 0]] w fun e w' => ∃ ov, e = .returned (.tuple #[.iface 89 (.agg #[.int .i64 T, .int .i64 N, .slice ra R.length rc, .int .i64 op, .int .i64 ka, .int .i64 bn, .int .i64 0, ov, .int .i64 (namesS (l.take bn)).length]), .bool true]) ∧ w'.ownsRow w.heap.size 3 1 ov (idxF (fun k => decide ((R.getD k (0, [])).1 = X)) R.length).length (idxV (idxF (fun k => decide ((R.getD k (0, [])).1 = X)) R.length)) ∧ Below w.heap.size w w' := by
  obtain ⟨n, hn⟩ : ∃ n, bn + 1 + m = n := ⟨_, rfl⟩
  rw [hn] at hcl
  have hK := kbox_start (T := T) (N := N) (op := op) (a := ka) (b := bn) (c := 0) hr
  obtain ⟨W0, hW0⟩ : ∃ W, w.alloc (.cells #[.int .i64 T, .int .i64 N, .slice ra R.length rc, .int .i64 op, .int .i64 ka, .int .i64 bn, .int .i64 0] 66) = W := ⟨_, rfl⟩
  rw [hW0] at hK
  have x2 := hK.x2
  have x4 := hK.x4
  have x5 := hK.x5
  have x6 := hK.x6
  have ia := st_isBelow (w := W0) (n := ka) (m := (R.length : Int))
  obtain ⟨b0, o0, rc0, qa, qc, hv, _, k1, k2, hsy⟩ := hK.rules.syms hk
  cases hv
  rw [hx] at k1 k2 hsy
  simp only at k1 k2 hsy
  have hqc : l.length ≤ qc := by obtain ⟨_, _, hv, hle⟩ := hsy.1; cases hv; exact hle
  obtain ⟨ad, rfl⟩ := hsy.someG (by omega)
  rw [hcl] at k2 hqc
  obtain ⟨W1, hW1⟩ : ∃ W, W0.alloc (.cells #[.int .i64 L, .slice (some ad) n qc] 44) = W := ⟨_, rfl⟩
  obtain ⟨rb, hrb⟩ : ∃ x, W0.heap.size = x := ⟨_, rfl⟩
  have hB1 : Below W0.heap.size W0 W1 := by rw [← hW1]; exact (Below.refl _ _).alloc (Nat.le_refl _) _
  have hK1 := hK.next hB1
  have y5 := hK1.x5
  have r0 : W1.cell? ⟨rb, 0, none⟩ = some (.int .i64 L) := by rw [← hW1, ← hrb]; exact cell_of_blk (heap_alloc_new _ _) rfl
  have r1 : W1.cell? ⟨rb, 1, none⟩ = some (.slice (some ad) n qc) := by rw [← hW1, ← hrb]; exact cell_of_blk (heap_alloc_new _ _) rfl
  have ib := st_isBelow (w := W1) (n := bn) (m := (n : Int))
  obtain ⟨b1, o1, c1, hv1, s1, s2⟩ := (hsy.same (same_below hB1)).2 bn (by omega)
  rw [hcl] at hv1
  cases hv1
  rw [hX] at s1 s2
  simp only at s1 s2
  obtain ⟨W2, hW2⟩ : ∃ W, W1.alloc (.cells #[.bool false, .int .i64 X] 52) = W := ⟨_, rfl⟩
  obtain ⟨sb, hsb⟩ : ∃ x, W1.heap.size = x := ⟨_, rfl⟩
  have hB2 : Below W1.heap.size W1 W2 := by rw [← hW2]; exact (Below.refl _ _).alloc (Nat.le_refl _) _
  have t0 : W2.cell? ⟨sb, 0, none⟩ = some (.bool false) := by rw [← hW2, ← hsb]; exact cell_of_blk (heap_alloc_new _ _) rfl
  have t1 : W2.cell? ⟨sb, 1, none⟩ = some (.int .i64 X) := by rw [← hW2, ← hsb]; exact cell_of_blk (heap_alloc_new _ _) rfl
  have u0 := (hB2.cell (World.block_lt_of_cell? _ _ r0)).trans r0
  have u1 := (hB2.cell (World.block_lt_of_cell? _ _ r1)).trans r1
  have hK2 := hK1.next hB2
  have HK2 : Hid (KBox w T N (some ⟨b0, o0, none⟩) rc R op ka bn 0 W2) := hK2
  have HU : Hid (W2.cell? ⟨rb, 1, none⟩ = some (.slice (some ⟨b1, o1, none⟩) n qc) ∧ W2.cell? ⟨sb, 1, none⟩ = some (.int .i64 X)) := ⟨u1, t1⟩
  have HSy : Hid (∀ wq, Below W2.heap.size W2 wq → SymsAt wq (.slice (some ⟨b1, o1, none⟩) l.length qc) l) := fun wq hq => hsy.same (same_below (hB1.trans ((hB2.mono hB1.size).trans (hq.mono (Nat.le_trans hB1.size hB2.size)))))
  have HX : Hid (l.length = n) := hcl
  have i0 : (0 : Int) ≤ (ka : Int) := Int.natCast_nonneg _
  have i1 : (ka : Int) < (R.length : Int) := by omega
  have j0 : (0 : Int) ≤ (bn : Int) := Int.natCast_nonneg _
  have j1 : (bn : Int) < (n : Int) := by omega
  rw [decide_eq_true i0, decide_eq_true i1] at ia
  rw [decide_eq_true j0, decide_eq_true j1] at ib
  have eX : (X == L) = false := by simpa using hne
  have e0 : ((0 : Int) == 0) = true := rfl
  have hup1 := fun w => sy_uptoG (ad := ⟨b1, o1, none⟩) (f := bn) (sl := n) (lc := qc) (fi := (bn : Int)) rfl (by omega) w
  have HN : Hid (bn + 1 + m = n) := hn
  clear hK hr hx hcl hsy hB1 hK1 hB2 hK2 hX hn
  go_enter Try.func28, Try.ntmps28
  go_upto_region 9 with
    (first
     | (go_at_call 36; with_reducible refine ia.mono ?_; rintro e w2 ⟨rfl, h2⟩; obtain rfl : W0 = w2 := h2.symm; clear ia)
     | (go_at_call 36; with_reducible refine ib.mono ?_; rintro e w2 ⟨rfl, h2⟩; obtain rfl : W1 = w2 := h2.symm; clear ib))
  obtain ⟨Wd, hWd⟩ : ∃ W, W2.drew = W := ⟨_, rfl⟩
  have hBd : Below W2.heap.size W2 Wd := by rw [← hWd]; exact (Below.refl _ _).drew
  have HKd : Hid (∀ wq, Below Wd.heap.size Wd wq → KBox w T N (some ⟨b0, o0, none⟩) rc R op ka bn 0 wq ∧ SymsAt wq (.slice (some ⟨b1, o1, none⟩) l.length qc) l ∧ Below W2.heap.size W2 wq) := fun wq hq => by
    have h1 : Below W2.heap.size W2 wq := hBd.trans (hq.mono hBd.size)
    exact ⟨HK2.out.next h1, HSy.out wq h1, h1⟩
  have HSS : Hid (∀ wq, Below Wd.heap.size Wd wq → wq.cell? ⟨w.heap.size, 0, none⟩ = some (.int .i64 T) ∧ wq.cell? ⟨w.heap.size, 1, none⟩ = some (.int .i64 N) ∧ wq.cell? ⟨w.heap.size, 2, none⟩ = some (.slice (some ⟨b0, o0, none⟩) R.length rc) ∧ wq.cell? ⟨w.heap.size, 3, none⟩ = some (.int .i64 op) ∧ wq.cell? ⟨w.heap.size, 4, none⟩ = some (.int .i64 ka) ∧ wq.cell? ⟨w.heap.size, 5, none⟩ = some (.int .i64 bn) ∧ wq.cell? ⟨w.heap.size, 6, none⟩ = some (.int .i64 0) ∧ wq.cell? ⟨rb, 1, none⟩ = some (.slice (some ⟨b1, o1, none⟩) n qc) ∧ wq.cell? ⟨sb, 1, none⟩ = some (.int .i64 X)) := fun wq hq =>
    let h := (HKd.out wq hq).1
    let hb := (HKd.out wq hq).2.2
    ⟨h.x0, h.x1, h.x2, h.x3, h.x4, h.x5, h.x6, (hb.cell (World.block_lt_of_cell? _ _ HU.out.1)).trans HU.out.1, (hb.cell (World.block_lt_of_cell? _ _ HU.out.2)).trans HU.out.2⟩
  have S0 := HSS.out Wd (Below.refl _ _)
  clear hBd x2 x4 x5 x6 k1 k2 hW0 hW1 hW2 y5 r0 r1 t0 t1 u0 u1 s1 s2 hrb hsb
  refine wp_region_mix [0, 1, 2, 3, 4, 5, 7, 8, 9, 10, 11, 12] 6 17 (fun wq => wq.cell? ⟨w.heap.size, 0, none⟩ = some (.int .i64 T) ∧ wq.cell? ⟨w.heap.size, 1, none⟩ = some (.int .i64 N) ∧ wq.cell? ⟨w.heap.size, 2, none⟩ = some (.slice (some ⟨b0, o0, none⟩) R.length rc) ∧ wq.cell? ⟨w.heap.size, 3, none⟩ = some (.int .i64 op) ∧ wq.cell? ⟨w.heap.size, 4, none⟩ = some (.int .i64 ka) ∧ wq.cell? ⟨w.heap.size, 5, none⟩ = some (.int .i64 bn) ∧ wq.cell? ⟨w.heap.size, 6, none⟩ = some (.int .i64 0) ∧ wq.cell? ⟨rb, 1, none⟩ = some (.slice (some ⟨b1, o1, none⟩) n qc) ∧ wq.cell? ⟨sb, 1, none⟩ = some (.int .i64 X)) (by kernel_rfl) (by kernel_rfl) (by rw [hWd]; exact S0) ?_
  rw [hWd]
  clear hWd S0
  iterate 12
    refine StillI.con8 (v := ?_) rfl (by rfl) ?_ ?_
    rotate_left
    · intro w' hSw
      obtain ⟨z0, z1, z2, z3, z4, z5, z6, z7, z8⟩ := hSw
      go_simp
      try with_reducible rfl
    simp only [Act.put, List.setIfInBounds_toArray, List.set_cons_zero, List.set_cons_succ]
  rw [StillI]
  have n1 := st_rulesOf (w := Wd) (m := X) (HKd.out Wd (Below.refl _ _)).1.all hl
  refine TailC.one (i := 6) (by kernel_rfl) ⟨_, rfl, fun K hK => ?_⟩
  go_simp
  refine n1.mono ?_
  rintro e w3 ⟨ov, rfl, hov, hB3⟩
  dsimp only
  refine hK.out _ _ (fun _ => HSS.out _ hB3) ?_
  clear hK n1
  have n2 := st_namesIn (w := w3) ((HKd.out w3 hB3).2.1.takeG (f := bn) (by rw [HX.out]; have := HN.out; omega)) (by rw [List.length_take]; omega)
  obtain ⟨oa, oc, hovf⟩ := own_form hov
  have HOv : Hid (ov = .slice oa (idxF (fun k => decide ((R.getD k (0, [])).1 = X)) R.length).length oc) := hovf
  obtain ⟨on, hon⟩ : ∃ on, (idxF (fun k => decide ((R.getD k (0, [])).1 = X)) R.length).length = on := ⟨_, rfl⟩
  rw [hon] at hovf HOv
  rw [hovf]
  rw [hovf] at hov
  clear hovf HOv
  refine TailC.one (i := 13) (by kernel_rfl) ⟨_, rfl, fun K hK => ?_⟩
  go_simp
  refine n2.mono ?_
  rintro e w4 ⟨rfl, hB4⟩
  dsimp only
  have hB4' : Below Wd.heap.size Wd w4 := hB3.trans (hB4.mono hB3.size)
  refine hK.out _ _ (fun _ => HSS.out _ hB4') ?_
  clear hK n2
  refine TailC.one (i := 14) (by kernel_rfl) ⟨_, rfl, fun K hK => ?_⟩
  go_simp
  refine hK.out _ _ (fun _ => HSS.out _ hB4') ?_
  clear hK
  refine TailC.one (i := 15) (by kernel_rfl) ⟨_, rfl, fun K hK => ?_⟩
  go_simp
  refine hK.out _ _ (fun _ => HSS.out _ hB4') ?_
  clear hK
  refine TailC.one (i := 16) (by kernel_rfl) ⟨_, rfl, fun K hK => ?_⟩
  go_simp
  refine hK.out _ _ (fun _ => HSS.out _ hB4') ?_
  clear hK
  refine TailC.last (i := 17) (by kernel_rfl) ⟨_, rfl, fun K hK => ?_⟩
  go_simp
  refine hK.out _ _ (fun h => absurd h (by omega)) (NoPanic.normal ?_)
  clear hK
  have HOw : Hid (w4.ownsRow w.heap.size 3 1 (.slice oa on oc) (idxF (fun k => decide ((R.getD k (0, [])).1 = X)) R.length).length (idxV (idxF (fun k => decide ((R.getD k (0, [])).1 = X)) R.length))) := own_mono (own_below hov hB4 fun g hg => (hov.lt g hg).2) (HKd.out Wd (Below.refl _ _)).1.below.size
  clear hov hon
  go_wp2_with fail
  refine bodyPost_ret (v := .tuple #[.iface 89 (.agg #[.int .i64 T, .int .i64 N, .slice (some ⟨b0, o0, none⟩) R.length rc, .int .i64 op, .int .i64 ka, .int .i64 bn, .int .i64 0, .slice oa on oc, .int .i64 (namesS (l.take bn)).length]), .bool true]) (by simp [results, Try.results28, go_sem]) rfl ?_
  exact ⟨_, rfl, HOw.out, (HKd.out w4 hB4').1.below⟩

end Go.Proofs.Ytikjekfpgklbdaa

/- The contract of package step's (tree).list. -/
namespace Go.Proofs.Ytikjekfpgklbdaa
open Go.RowKit

def intV (Z : List Int) : List Value := Z.map (Value.int .i64)
/-- A tree's rules. -/
def oneL (x : Tr) : List Int := (x.2.1 : Int) :: flatFo x.2.2
theorem flat_rowOf (L : List Tr) : flatFo (rowOf L) = L.flatMap oneL := by
  induction L with
  | nil => rfl
  | cons x L ih => rw [rowOf, flatFo, ih, List.flatMap_cons]; rfl
theorem flat_mem {L : List Tr} {x : Tr} (hx : x ∈ L) : (oneL x).length ≤ (flatFo (rowOf L)).length := by
  rw [flat_rowOf]
  induction L with
  | nil => cases hx
  | cons y L ih =>
    rw [List.flatMap_cons, List.length_append]
    rcases List.mem_cons.1 hx with rfl | hx
    · omega
    · have := ih hx; omega
theorem flat_takeL {L : List Tr} {k : Nat} (hk : k < L.length) : (L.take (k + 1)).flatMap oneL = (L.take k).flatMap oneL ++ oneL L[k] := by
  rw [List.take_succ_eq_append_getElem hk, List.flatMap_append]
  simp
theorem flat_leL (L : List Tr) (k : Nat) : ((L.take k).flatMap oneL).length ≤ (L.flatMap oneL).length := by
  have e : L.flatMap oneL = (L.take k).flatMap oneL ++ (L.drop k).flatMap oneL := by rw [← List.flatMap_append, List.take_append_drop]
  rw [e, List.length_append]
  omega
theorem len_flatL (L : List Tr) : L.length ≤ (L.flatMap oneL).length := by
  induction L with
  | nil => simp
  | cons x L ih =>
    rw [List.flatMap_cons, List.length_append, List.length_cons]
    have : 1 ≤ (oneL x).length := by unfold oneL; simp
    omega
/-- Numbers in a row of one's own, as a list. -/
theorem own_ints {w : World} {B : Nat} {v : Value} {Z : List Int} (h : w.ownsRow B 3 1 v Z.length (intV Z)) : ListAt w w.heap.size v Z := by
  obtain ⟨a, c, hv⟩ := own_form h
  refine ⟨⟨a, c, hv⟩, fun p hp => ?_⟩
  obtain ⟨g, cap, hg, _, hlt⟩ := h.form (by omega)
  have h' := h
  rw [hg] at h'
  refine ⟨g, 0, cap, hg, hlt, ?_⟩
  rw [Nat.zero_add, h'.cellAt p (by omega)]
  simp [intV, List.getD, hp]

set_option maxRecDepth 100000 in
set_option maxHeartbeats 6400000 in
theorem st_list {A : Nat → Prop} : ∀ (z : Nat) (w : World) (q : Nat) (ks : Fo) (kv : Value), (flatFo ks).length < z → FoIn w A kv ks → (flatFo ks).length ≤ 50000 →
    Calls Try.prog 23 #[.agg #[.int .i64 q, kv]] w fun e w' => ∃ v, e = .returned v ∧ w'.ownsRow w.heap.size 3 1 v ((flatFo ks).length + 1) (intV ((q : Int) :: flatFo ks)) ∧ Below w.heap.size w w' := by
  intro z
  induction z with
  | zero => intro w q ks kv h; omega
  | succ z ih =>
    intro w q ks kv hz hF hl
    obtain ⟨L, rfl, hT⟩ := hF.list
    obtain ⟨ka, kc, hkv, _⟩ := hT.form
    subst hkv
    have HIh : Hid (∀ (w : World) (q : Nat) (ks : Fo) (kv : Value), (flatFo ks).length < z → FoIn w A kv ks → (flatFo ks).length ≤ 50000 →
      Calls Try.prog 23 #[.agg #[.int .i64 q, kv]] w fun e w' => ∃ v, e = .returned v ∧ w'.ownsRow w.heap.size 3 1 v ((flatFo ks).length + 1) (intV ((q : Int) :: flatFo ks)) ∧ Below w.heap.size w w') := ih
    have HT : Hid (TrIn w A (.slice ka L.length kc) L) := hT
    have HZ : Hid (∀ x ∈ L, (flatFo x.2.2).length < z ∧ (flatFo x.2.2).length ≤ 50000) := fun x hx => by
      have := flat_mem hx
      unfold oneL at this
      simp only [List.length_cons] at this
      omega
    rw [flat_rowOf] at hl ⊢
    have hLl : L.length ≤ 50000 := by
      have := len_flatL L
      omega
    obtain ⟨W0, hW0⟩ : ∃ W, w.alloc (.cells #[.int .i64 q, .slice ka L.length kc] 70) = W := ⟨_, rfl⟩
    have hB0 : Below w.heap.size w W0 := by rw [← hW0]; exact (Below.refl _ _).alloc (Nat.le_refl _) _
    have x0 : W0.cell? ⟨w.heap.size, 0, none⟩ = some (.int .i64 q) := by rw [← hW0]; exact cell_of_blk (heap_alloc_new _ _) rfl
    have x1 : W0.cell? ⟨w.heap.size, 1, none⟩ = some (.slice ka L.length kc) := by rw [← hW0]; exact cell_of_blk (heap_alloc_new _ _) rfl
    obtain ⟨W1, hW1⟩ : ∃ W, W0.alloc (.cells #[.int .i64 q] 3) = W := ⟨_, rfl⟩
    have hB1 : Below W0.heap.size W0 W1 := by rw [← hW1]; exact (Below.refl _ _).alloc (Nat.le_refl _) _
    have y1 := (hB1.cell (World.block_lt_of_cell? _ _ x1)).trans x1
    have HB1 : Hid (Below w.heap.size w W1) := hB0.trans (hB1.mono hB0.size)
    have HO1 : Hid (W1.ownsRow w.heap.size 3 1 (.slice (some ⟨W0.heap.size, 0, none⟩) 1 1) 1 (intV [(q : Int)])) := by
      show World.ownsRow _ _ _ _ _ _ _
      rw [← hW1]
      exact World.ownsRow_lit (base := w.heap.size) (e := 3) (size := 1) W0 #[.int .i64 q] 1 hB0.size (by unfold maxLen; omega) rfl
    clear hF hT hB0 hB1 ih hz
    go_enter Try.func23, Try.ntmps23
    go_wp2_with fail
    clear x0 x1 y1 hW0 hW1
    go_loopw [3, 12] (fun s3 s12 wr => ∃ (k : Nat) (ov : Value), ov = s3 ∧ s12 = .int .i64 k ∧ k ≤ L.length ∧ wr.ownsRow w.heap.size 3 1 ov (((L.take k).flatMap oneL).length + 1) (intV ((q : Int) :: (L.take k).flatMap oneL)) ∧ Below w.heap.size w wr) (fun _ s _ => L.length - (intOf s).toNat)
    case atStart => exact ⟨0, _, rfl, rfl, Nat.zero_le _, HO1.out, HB1.out⟩
    case round =>
      obtain ⟨k, ov, rfl, rfl, hk, hO, hB⟩ := hrel
      clear HO1 HB1
      have HB : Hid (Below w.heap.size w wr) := hB
      have HO : Hid (wr.ownsRow w.heap.size 3 1 ov (((L.take k).flatMap oneL).length + 1) (intV ((q : Int) :: (L.take k).flatMap oneL))) := hO
      by_cases hlt : k < L.length
      · obtain ⟨b, o, c, hv, _, c1, c2⟩ := (HT.out.below hB).cells k hlt
        cases hv
        have hkd := (HT.out.below hB).kids L[k] (List.getElem_mem hlt)
        obtain ⟨hz1, hz2⟩ := HZ.out L[k] (List.getElem_mem hlt)
        have htk := flat_takeL hlt
        have hle := flat_leL L (k + 1)
        obtain ⟨⟨kv1, q1, ks1⟩, hx⟩ : ∃ x, L[k] = x := ⟨_, rfl⟩
        rw [hx] at c1 c2 hkd hz1 hz2 htk
        simp only at c1 c2 hkd hz1 hz2
        obtain ⟨ka1, kc1, hkv1, _⟩ := hkd
        have hkd := (HT.out.below hB).kids L[k] (List.getElem_mem hlt)
        rw [hx] at hkd
        simp only at hkd
        subst hkv1
        obtain ⟨n1, hn1⟩ : ∃ n, lenF ks1 = n := ⟨_, rfl⟩
        rw [hn1] at c2 hkd htk
        obtain ⟨W2, hW2⟩ : ∃ W, wr.alloc (.cells #[.int .i64 q1, .slice ka1 n1 kc1] 70) = W := ⟨_, rfl⟩
        have hB2 : Below wr.heap.size wr W2 := by rw [← hW2]; exact (Below.refl _ _).alloc (Nat.le_refl _) _
        have d0 : W2.cell? ⟨wr.heap.size, 0, none⟩ = some (.int .i64 q1) := by rw [← hW2]; exact cell_of_blk (heap_alloc_new _ _) rfl
        have d1 : W2.cell? ⟨wr.heap.size, 1, none⟩ = some (.slice ka1 n1 kc1) := by rw [← hW2]; exact cell_of_blk (heap_alloc_new _ _) rfl
        have li := HIh.out W2 q1 ks1 (.slice ka1 n1 kc1) hz1 (hkd.below hB2) hz2
        obtain ⟨m, hm⟩ : ∃ m, (flatFo ks1).length = m := ⟨_, rfl⟩
        obtain ⟨n, hn⟩ : ∃ n, ((L.take k).flatMap oneL).length = n := ⟨_, rfl⟩
        have ho : (oneL (.slice ka1 n1 kc1, q1, ks1)).length = m + 1 := by unfold oneL; simp [hm]
        rw [htk, List.length_append, hn, ho] at hle
        rw [hm] at li
        rw [hn] at HO
        have hs1 : n + 1 + (m + 1) ≤ maxLen := by unfold maxLen; omega
        have hs2 : (n + 1 + (m + 1)) * 8 ≤ 140737488355328 := by omega
        have HX : Hid ((L.take (k + 1)).flatMap oneL = (L.take k).flatMap oneL ++ ((q1 : Int) :: flatFo ks1) ∧ (flatFo ks1).length = m ∧ ((L.take k).flatMap oneL).length = n) := ⟨by rw [htk]; rfl, hm, hn⟩
        have HB2 : Hid (Below wr.heap.size wr W2) := hB2
        obtain ⟨i5, hi5, hz5, hz6, hz7⟩ := info_parts Try.infoIn8
        have i0 : (0 : Int) ≤ (k : Int) := Int.natCast_nonneg _
        have i1 : (k : Int) < (L.length : Int) := by omega
        clear hB hO hx hn1 hm hn htk hle ho hkd hB2 hz1 hz2
        go_wp2_with
          (first
           | (go_at_call 23; refine li.mono ?_; rintro e w3 ⟨lv, rfl, hown, hB3⟩
              obtain ⟨g3, cap3, hg3, _, _⟩ := hown.form (by omega)
              subst hg3
              have hB3' : Below wr.heap.size wr w3 := HB2.out.trans (hB3.mono HB2.out.size)
              have own3 := own_below HO.out hB3' fun g hg => (HO.out.lt g hg).2
              have hb3 : w.heap.size ≤ w3.heap.size := Nat.le_trans HB.out.size hB3'.size
              have hnews : ∀ j u, (intV ((q1 : Int) :: flatFo ks1))[j]? = some u → w3.cell? ((⟨g3, 0, none⟩ : Addr).add j) = some u := fun j u hu => by
                have hj := (List.getElem?_eq_some_iff.1 hu).1
                have hjl : j < m + 1 := by unfold intV at hj; simpa [HX.out.2.1] using hj
                rw [Addr.add_lit, Nat.zero_add, hown.cellAt j (by omega), hu]
              have hone : ∀ u ∈ intV ((q1 : Int) :: flatFo ks1), u.oneCell' = true := fun u hu => by
                unfold intV at hu
                obtain ⟨y, _, rfl⟩ := List.mem_map.1 hu
                rfl
              have hlen3 : (intV ((q1 : Int) :: flatFo ks1)).length = (m + 1) * 1 := by unfold intV; simp [HX.out.2.1]
              have HB3 : Hid (Below wr.heap.size wr w3) := hB3'
              clear li hown hB3 hB3')
           | (at_builtin
              refine wpList_append_lies _ rfl _ _ _ rfl w.heap.size 3 i5 _ 1 8 Try.underlying27 hi5 hz5 hz6 hz7 rfl (by omega) ov (n + 1) (intV ((q : Int) :: (L.take k).flatMap oneL)) rfl own3 ⟨g3, 0, none⟩ (m + 1) cap3 (intV ((q1 : Int) :: flatFo ks1)) rfl hlen3 hnews hone (by omega) hs1 hs2 hb3 _ rfl ?_
              intro g6 cap6 w6 hown6 hgrow6 hat6 hlt6))
        go_roundw
        case rel =>
          refine ⟨k + 1, _, rfl, by go_num, by omega, ?_, (HB.out.trans (HB3.out.mono HB.out.size)).grown hgrow6 hb3 fun j hj => (own3.lt j hj).1⟩
          rw [HX.out.1, List.length_append, List.length_cons, HX.out.2.1, HX.out.2.2]
          have e : intV ((q : Int) :: ((L.take k).flatMap oneL ++ (q1 : Int) :: flatFo ks1)) = intV ((q : Int) :: (L.take k).flatMap oneL) ++ intV ((q1 : Int) :: flatFo ks1) := by unfold intV; simp
          rw [e, show n + (m + 1) + 1 = n + 1 + (m + 1) by omega]
          exact hown6
        case measure => simp [intOf]; omega
      · have hkk : k = L.length := by omega
        clear hB hO
        go_wp2_with fail
        go_ret
        have h := HO.out
        rw [hkk, List.take_length] at h
        exact ⟨_, rfl, h, HB.out⟩

end Go.Proofs.Ytikjekfpgklbdaa

/- The contract of package step's each. -/
namespace Go.Proofs.Ytikjekfpgklbdaa
open Go.RowKit

theorem flatT_push (L : List Tr) (v : Value) (q : Nat) (ks : Fo) : flatT (L ++ [(v, q, ks)]) = flatT L ++ [.int .i64 (q : Int), v] := by rw [flatT_append]; rfl
/-- A new tree, as a row of one. -/
theorem tree_row {w : World} {q : Int} {va : Option Addr} {n d : Nat} : RowAt (w.alloc (.cells #[.int .i64 q, .slice va n d] 70)) (.slice (some ⟨w.heap.size, 0, none⟩) 1 1) 1 [.int .i64 q, .slice va n d] :=
  ⟨⟨_, _, rfl, Nat.le_refl _⟩, rfl, by simp [Value.oneCell'], fun _ => ⟨_, _, rfl, World.news_of_block (cs := #[.int .i64 q, .slice va n d]) (t := 70) (fr := (0, 0)) (heap_alloc_new w _)⟩⟩

/-- Trees that a call has made: in a row of its own, what is within elsewhere. -/
structure TrOwn (w : World) (B : Nat) (A : Nat → Prop) (v : Value) (L : List Tr) : Prop where
  own : w.ownsRow B 70 2 v L.length (flatT L)
  kids : ∀ x ∈ L, FoIn w (fun b => A b ∨ (B ≤ b ∧ v.ownBlock ≠ some b)) x.1 x.2.2

section
variable {w w' w5 w6 : World} {B : Nat} {A : Nat → Prop} {v nv kv : Value} {L : List Tr}
theorem trOwn_nil (w : World) (B : Nat) (A : Nat → Prop) : TrOwn w B A (.slice none 0 0) [] := ⟨World.ownsRow_nil _ _ _ _, fun x hx => by cases hx⟩
theorem TrOwn.below (h : TrOwn w B A v L) (hb : Below w.heap.size w w') : TrOwn w' B A v L := ⟨own_below h.own hb fun g hg => (h.own.lt g hg).2, fun x hx => (h.kids x hx).below hb⟩
theorem TrOwn.trIn (h : TrOwn w B A v L) : TrIn w (fun b => A b ∨ B ≤ b) v L :=
  own_trIn h.own (fun g hg => .inr (h.own.lt g hg).1) fun x hx => (h.kids x hx).kept fun _ hA _ => ⟨rfl, hA.imp id fun h => h.1⟩
/-- One tree more. -/
theorem TrOwn.push (h : TrOwn w B A v L) (hA : ∀ b, A b → b < B) (hB : B ≤ w.heap.size) (hb : Below w.heap.size w w5) {q : Nat} {ks : Fo} (hk : FoIn w5 (fun b => A b ∨ w.heap.size ≤ b) kv ks) (hg : w5.grownBy w6 v.ownBlock) (hn : w6.ownsRow B 70 2 nv (L.length + 1) (flatT (L ++ [(kv, q, ks)]))) (hat : ∀ g, nv.ownBlock = some g → v.ownBlock = some g ∨ w5.heap.size ≤ g) : TrOwn w6 B A nv (L ++ [(kv, q, ks)]) := by
  have hs5 := hb.size
  have hv : ∀ g, v.ownBlock = some g → B ≤ g ∧ g < w.heap.size := fun g hg => h.own.lt g hg
  refine ⟨by rw [List.length_append]; exact hn, fun x hx => ?_⟩
  rcases List.mem_append.1 hx with hx | hx
  · refine (h.kids x hx).kept fun b hb' hlt => ⟨?_, ?_⟩
    · rw [hg.block b (by omega) (fun e => ?_), hb.block b hlt]
      rcases hb' with h1 | h1
      · have := hA b h1; have := (hv b e.symm).1; omega
      · exact h1.2 e.symm
    · rcases hb' with h1 | h1
      · exact .inl h1
      · refine .inr ⟨h1.1, fun e => ?_⟩
        rcases hat b e with e | e
        · exact h1.2 e
        · omega
  · simp only [List.mem_singleton] at hx
    subst hx
    refine hk.kept fun b hb' hlt => ⟨?_, ?_⟩
    · rw [hg.block b hlt (fun e => ?_)]
      have h2 := hv b e.symm
      rcases hb' with h1 | h1
      · have := hA b h1; omega
      · omega
    · rcases hb' with h1 | h1
      · exact .inl h1
      · refine .inr ⟨by omega, fun e => ?_⟩
        rcases hat b e with e | e
        · have := (hv b e).2; omega
        · omega
end

set_option maxRecDepth 100000 in
set_option maxHeartbeats 6400000 in
/-- each: over is whatever function carries each of the trees over. -/
theorem st_each {w : World} {A : Nat → Prop} {v recv : Value} {L : List Tr} {dn : Nat} {F : Nat → Fo → Nat × Fo} (hdn : ∀ args w, (callFunc dn args).run Try.prog w = .ok (.enter dn args) w) (hL : TrIn w A v L) (hA : ∀ b, A b → b < w.heap.size) (hl : L.length ≤ 50000)
    (hF : ∀ x ∈ L, ∀ w', Below w.heap.size w w' → Calls Try.prog dn #[recv, .agg #[.int .i64 (x.2.1 : Int), x.1]] w' fun e w'' => ∃ kv, e = .returned (.agg #[.int .i64 ((F x.2.1 x.2.2).1 : Int), kv]) ∧ FoIn w'' (fun b => A b ∨ w'.heap.size ≤ b) kv (F x.2.1 x.2.2).2 ∧ Below w'.heap.size w' w'') :
    Calls Try.prog 83 #[v, .func (.func dn) #[recv] #[]] w fun e w' => ∃ ov L', e = .returned ov ∧ TrOwn w' w.heap.size A ov L' ∧ (L'.map fun x => x.2) = L.map (fun x => F x.2.1 x.2.2) ∧ Below w.heap.size w w' := by
  obtain ⟨va, vc, hv, _⟩ := hL.form
  subst hv
  have HL : Hid (TrIn w A (.slice va L.length vc) L) := hL
  have HF : Hid (∀ x ∈ L, ∀ w', Below w.heap.size w w' → Calls Try.prog dn #[recv, .agg #[.int .i64 (x.2.1 : Int), x.1]] w' fun e w'' => ∃ kv, e = .returned (.agg #[.int .i64 ((F x.2.1 x.2.2).1 : Int), kv]) ∧ FoIn w'' (fun b => A b ∨ w'.heap.size ≤ b) kv (F x.2.1 x.2.2).2 ∧ Below w'.heap.size w' w'') := hF
  have HA : Hid (∀ b, A b → b < w.heap.size) := hA
  clear hL hF hA
  go_enter Try.func83, Try.ntmps83
  go_wp2_with fail
  go_loopw [5, 10] (fun s5 s10 wr => ∃ (k : Nat) (ov : Value) (M : List Tr), ov = s5 ∧ s10 = .int .i64 k ∧ k ≤ L.length ∧ M.length = k ∧ (M.map fun x => x.2) = (L.take k).map (fun x => F x.2.1 x.2.2) ∧ TrOwn wr w.heap.size A ov M ∧ Below w.heap.size w wr) (fun _ s _ => L.length - (intOf s).toNat)
  case atStart => exact ⟨0, _, [], rfl, rfl, Nat.zero_le _, rfl, rfl, trOwn_nil _ _ _, Below.refl _ _⟩
  case round =>
    obtain ⟨k, ov, M, rfl, rfl, hk, hMl, hMm, hO, hB⟩ := hrel
    have HB : Hid (Below w.heap.size w wr) := hB
    have HO : Hid (TrOwn wr w.heap.size A ov M) := hO
    have HM : Hid ((M.map fun x => x.2) = (L.take k).map (fun x => F x.2.1 x.2.2) ∧ M.length = k) := ⟨hMm, hMl⟩
    by_cases hlt : k < L.length
    · obtain ⟨b, o, c, hv, _, c1, c2⟩ := (HL.out.below hB).cells k hlt
      cases hv
      obtain ⟨ka, kc, hkv, _⟩ := HL.out.kids L[k] (List.getElem_mem hlt)
      obtain ⟨W1, hW1⟩ : ∃ W, wr.alloc (.cells #[.int .i64 (L[k].2.1 : Int), L[k].1] 70) = W := ⟨_, rfl⟩
      have hB1 : Below wr.heap.size wr W1 := by rw [← hW1]; exact (Below.refl _ _).alloc (Nat.le_refl _) _
      have fo := HF.out L[k] (List.getElem_mem hlt) W1 (HB.out.trans (hB1.mono HB.out.size))
      have htk : (L.take (k + 1)).map (fun x => F x.2.1 x.2.2) = (L.take k).map (fun x => F x.2.1 x.2.2) ++ [F L[k].2.1 L[k].2.2] := by rw [List.take_succ_eq_append_getElem hlt, List.map_append]; rfl
      obtain ⟨⟨kv1, q1, ks1⟩, hx⟩ : ∃ x, L[k] = x := ⟨_, rfl⟩
      rw [hx] at c1 c2 fo hW1 htk hkv
      simp only at c1 c2 fo hW1 htk hkv
      obtain ⟨⟨q2, ks2⟩, hF2⟩ : ∃ y, F q1 ks1 = y := ⟨_, rfl⟩
      rw [hF2] at fo htk
      simp only at fo
      obtain ⟨n1, hn1⟩ : ∃ n, lenF ks1 = n := ⟨_, rfl⟩
      rw [hn1] at hkv
      subst hkv
      have d0 : W1.cell? ⟨wr.heap.size, 0, none⟩ = some (.int .i64 q1) := by rw [← hW1]; exact cell_of_blk (heap_alloc_new _ _) rfl
      have d1 : W1.cell? ⟨wr.heap.size, 1, none⟩ = some (.slice ka n1 kc) := by rw [← hW1]; exact cell_of_blk (heap_alloc_new _ _) rfl
      have HT : Hid ((L.take (k + 1)).map (fun x => F x.2.1 x.2.2) = (L.take k).map (fun x => F x.2.1 x.2.2) ++ [(q2, ks2)]) := htk
      have HB1 : Hid (Below wr.heap.size wr W1) := hB1
      have i0 : (0 : Int) ≤ (k : Int) := Int.natCast_nonneg _
      have i1 : (k : Int) < (L.length : Int) := by omega
      clear hB hO hMm hMl hx hF2 hn1 htk hB1
      go_wp2_with
        (first
         | (refine Calls.mono fo ?_; rintro e w3 ⟨kv3, rfl, hk3, hB3⟩
            have hk4 := hk3
            obtain ⟨la, lc, hlv, _⟩ := hk4
            obtain ⟨n2, hn2⟩ : ∃ n, lenF ks2 = n := ⟨_, rfl⟩
            rw [hn2] at hlv
            subst hlv
            have hrow : RowAt (w3.alloc (.cells #[.int .i64 (q2 : Int), .slice la n2 lc] 70)) (.slice (some ⟨w3.heap.size, 0, none⟩) 1 1) 1 [.int .i64 (q2 : Int), .slice la n2 lc] := tree_row
            have hB4 : Below wr.heap.size wr (w3.alloc (.cells #[.int .i64 (q2 : Int), .slice la n2 lc] 70)) := (HB1.out.trans (hB3.mono HB1.out.size)).alloc (Nat.le_trans HB1.out.size hB3.size) _
            have own4 := own_below HO.out.own hB4 fun g hg => (HO.out.own.lt g hg).2
            have hb4 : w.heap.size ≤ (w3.alloc (.cells #[.int .i64 (q2 : Int), .slice la n2 lc] 70)).heap.size := Nat.le_trans HB.out.size hB4.size
            have hl4 : M.length + 1 ≤ 100000 := by rw [HM.out.2]; omega
            have HK4 : Hid (FoIn (w3.alloc (.cells #[.int .i64 (q2 : Int), .slice la n2 lc] 70)) (fun b => A b ∨ wr.heap.size ≤ b) (.slice la n2 lc) ks2) := (hk3.kept fun b hA _ => ⟨rfl, hA.imp id fun h => Nat.le_trans HB1.out.size h⟩).below ((Below.refl _ _).alloc (Nat.le_refl _) _)
            clear fo hk3 hn2)
         | (at_builtin
            refine wpList_append_ccT rfl _ _ rfl rfl rfl rfl own4 hrow hb4 hl4 ?_
            intro a' d' w6 hown6 hgrow hat))
      go_roundw
      case rel =>
        refine ⟨k + 1, _, M ++ [(.slice la n2 lc, q2, ks2)], rfl, by go_num, by omega, by rw [List.length_append, HM.out.2]; rfl, by rw [List.map_append, HM.out.1, HT.out]; rfl, ?_, ?_⟩
        · refine HO.out.push (w5 := w3.alloc (.cells #[.int .i64 (q2 : Int), .slice la n2 lc] 70)) HA.out HB.out.size hB4 HK4.out hgrow ?_ (fun g hg => (hat g hg).imp id fun e => by omega)
          rw [flatT_push]
          exact hown6
        · exact (HB.out.trans (hB4.mono HB.out.size)).grown hgrow hb4 fun g hg => (own4.lt g hg).1
      case measure => simp [intOf]; omega
    · have hkk : k = L.length := by omega
      clear hB hO hMm hMl
      go_wp2_with fail
      go_ret
      exact ⟨_, M, rfl, HO.out, by rw [HM.out.1, hkk, List.take_length], HB.out⟩

end Go.Proofs.Ytikjekfpgklbdaa
