import Derived.Test.YtjdoiieiimdmfaaStCxAndStOfE
import Derived.Test.YtjdoiieiimdmfaaStepKeepAndStepAt2
/- The contracts of package step's rulesOf and inlineOf. -/
namespace Go.Proofs.Ytjdoiieiimdmfaa
open Go.RowKit

theorem Try.infoIn8 : (Try.prog.info? 3).map (fun i => (i.zero, i.size, i.bytes)) = some (some (.int .i64 0), 1, 8) := by kernel_rfl
def idxV (IX : List Nat) : List Value := IX.map fun (n : Nat) => Value.int .i64 (n : Int)
theorem idxF_len (p : Nat → Bool) (n : Nat) : (idxF p n).length ≤ n := by
  unfold idxF
  refine Nat.le_trans (List.length_filter_le _ _) ?_
  simp
theorem idxF_lt {p : Nat → Bool} {n k : Nat} (h : k < (idxF p n).length) : (idxF p n).getD k 0 < n := by
  have e : (idxF p n).getD k 0 = (idxF p n)[k] := by simp [List.getD, h]
  have hm : (idxF p n)[k] ∈ idxF p n := List.getElem_mem h
  rw [e]
  unfold idxF at hm ⊢
  rw [List.mem_filter] at hm
  exact List.mem_range.1 hm.1
/-- Numbers in a row of one's own, as a list. -/
theorem own_listI {w : World} {B : Nat} {v : Value} {IX : List Nat} (h : w.ownsRow B 3 1 v IX.length (idxV IX)) : ListAt w w.heap.size v (IX.map fun (n : Nat) => (n : Int)) := by
  obtain ⟨a, c, hv⟩ := own_form h
  refine ⟨⟨a, c, by rw [List.length_map]; exact hv⟩, fun p hp => ?_⟩
  have hp' : p < IX.length := by simpa using hp
  obtain ⟨g, cap, hg, _, hlt⟩ := h.form (by omega)
  have h' := h
  rw [hg] at h'
  refine ⟨g, 0, cap, by rw [List.length_map]; exact hg, hlt, ?_⟩
  rw [Nat.zero_add, h'.cellAt p (by omega)]
  simp [idxV, List.getD, hp']

set_option maxRecDepth 100000 in
set_option maxHeartbeats 3200000 in
theorem st_rulesOf {w : World} {ra : Option Addr} {rc : Nat} {R : List Ru} {m : Int} (hr : RulesAt w w.heap.size (.slice ra R.length rc) R) (hl : R.length ≤ 1000) :
    Calls Try.prog 23 #[.slice ra R.length rc, .int .i64 m] w fun e w' => ∃ ov, e = .returned ov ∧ w'.ownsRow w.heap.size 3 1 ov (idxF (fun k => decide ((R.getD k (0, [])).1 = m)) R.length).length (idxV (idxF (fun k => decide ((R.getD k (0, [])).1 = m)) R.length)) ∧ Below w.heap.size w w' := by
  obtain ⟨p, hp⟩ : ∃ p : Nat → Bool, (fun k => decide ((R.getD k (0, [])).1 = m)) = p := ⟨_, rfl⟩
  rw [hp]
  have HP : Hid (∀ k, p k = decide ((R.getD k (0, [])).1 = m)) := fun k => by rw [← hp]
  have HR : Hid (RulesAt w w.heap.size (.slice ra R.length rc) R) := hr
  clear hr hp
  go_enter Try.func23, Try.ntmps23
  go_wp2_with fail
  go_loopw [5, 10] (fun s5 s10 wr => ∃ (k : Nat) (ov : Value), ov = s5 ∧ s10 = .int .i64 k ∧ k ≤ R.length ∧ wr.ownsRow w.heap.size 3 1 ov (idxF p k).length (idxV (idxF p k)) ∧ Below w.heap.size w wr) (fun _ s _ => R.length - (intOf s).toNat)
  case atStart => exact ⟨0, _, rfl, rfl, Nat.zero_le _, World.ownsRow_nil w w.heap.size 3 1, Below.refl _ _⟩
  case round =>
    obtain ⟨k, ov, rfl, rfl, hk, hO, hB⟩ := hrel
    have HB : Hid (Below w.heap.size w wr) := hB
    have HO : Hid (wr.ownsRow w.heap.size 3 1 ov (idxF p k).length (idxV (idxF p k))) := hO
    by_cases hlt : k < R.length
    · obtain ⟨b0, o0, rc0, qa, qc, hv, _, k1, k2, _⟩ := (HR.out.below hB).syms hlt
      cases hv
      have hpk := HP.out k
      have hsu := idx_succ p k
      have hln := idxF_len p k
      obtain ⟨⟨L, l⟩, hx⟩ : ∃ x, R.getD k (0, []) = x := ⟨_, rfl⟩
      rw [hx] at k1 k2 hpk
      simp only at k1 k2 hpk
      obtain ⟨n, hn⟩ : ∃ n, l.length = n := ⟨_, rfl⟩
      rw [hn] at k2
      obtain ⟨W1, hW1⟩ : ∃ W, wr.alloc (.cells #[.int .i64 L, .slice qa n qc] 41) = W := ⟨_, rfl⟩
      have hB1 : Below wr.heap.size wr W1 := by rw [← hW1]; exact (Below.refl _ _).alloc (Nat.le_refl _) _
      have HB1 : Hid (Below wr.heap.size wr W1) := hB1
      have d0 : W1.cell? ⟨wr.heap.size, 0, none⟩ = some (.int .i64 L) := by rw [← hW1]; exact cell_of_blk (heap_alloc_new _ _) rfl
      have i0 : (0 : Int) ≤ (k : Int) := Int.natCast_nonneg _
      have i1 : (k : Int) < (R.length : Int) := by omega
      by_cases hm : L = m
      · subst hm
        have e1 : (L == L) = true := by simp
        rw [hpk] at hsu
        simp only [decide_true, if_true] at hsu
        have own5 := (own_below hO hB1 fun g hg => (hO.lt g hg).2).alloc (.cells #[.int .i64 k] 3)
        have hnw5 := World.news_of_block (cs := #[.int .i64 k]) (t := 3) (fr := (0, 0)) (heap_alloc_new W1 (.cells #[.int .i64 k] 3))
        have hb5 : w.heap.size ≤ (W1.alloc (.cells #[.int .i64 k] 3)).heap.size := by
          have := hB.size
          have := hB1.size
          simp
          omega
        obtain ⟨q, hq⟩ : ∃ q, (idxF p k).length = q := ⟨_, rfl⟩
        rw [hq] at own5 hln
        have n1 : q + 1 ≤ maxLen := by unfold maxLen; omega
        have n2 : (q + 1) * 8 ≤ 140737488355328 := by omega
        have HX : Hid (idxF p (k + 1) = idxF p k ++ [k] ∧ (idxF p k).length = q) := ⟨hsu, hq⟩
        obtain ⟨i0', hi0, hz0, hz1, hz2⟩ := info_parts Try.infoIn8
        clear hB hO hx hn hq hpk hsu hB1
        go_wp2_with
          (at_builtin
           refine wpList_append_lies _ rfl _ _ _ rfl w.heap.size 3 i0' _ 1 8 Try.underlying27 hi0 hz0 hz1 hz2 rfl (by omega) ov q (idxV (idxF p k)) rfl own5 ⟨W1.heap.size, 0, none⟩ 1 1 [.int .i64 k] rfl rfl hnw5 (by simp [Value.oneCell']) (by omega) n1 n2 hb5 _ rfl ?_
           intro g6 cap6 w6 hown6 hgrow6 hat6 hlt6)
        go_roundw
        case rel =>
          refine ⟨k + 1, _, rfl, by go_num, by omega, ?_, ?_⟩
          · rw [HX.out.1, List.length_append, HX.out.2]
            unfold idxV at hown6 ⊢
            rw [List.map_append]
            exact hown6
          · have h4 : Below w.heap.size w (W1.alloc (.cells #[.int .i64 k] 3)) := (HB.out.trans (HB1.out.mono HB.out.size)).alloc (Nat.le_trans HB.out.size HB1.out.size) _
            exact h4.grown hgrow6 hb5 fun j hj => (own5.lt j hj).1
        case measure => simp [intOf]; omega
      · have e1 : (L == m) = false := by simpa using hm
        have HN : Hid (idxF p (k + 1) = idxF p k) := by
          show _ = _
          rw [hsu, hpk, decide_eq_false hm]
          simp
        clear hB hO hx hn hpk hsu hB1
        go_wp2_with fail
        go_roundw
        case rel => exact ⟨k + 1, ov, rfl, by go_num, by omega, by rw [HN.out]; exact own_below HO.out HB1.out fun g hg => (HO.out.lt g hg).2, HB.out.trans (HB1.out.mono HB.out.size)⟩
        case measure => simp [intOf]; omega
    · obtain rfl : k = R.length := by omega
      clear hB hO
      go_wp2_with fail
      go_ret
      exact ⟨ov, rfl, HO.out, HB.out⟩

set_option maxRecDepth 100000 in
set_option maxHeartbeats 6400000 in
theorem st_inlineOf_no {w : World} {T N : Int} {ra : Option Addr} {rc : Nat} {R : List Ru} {op a b c : Int} (hr : RulesAt w w.heap.size (.slice ra R.length rc) R) (hs : ¬ (0 ≤ a ∧ a < (R.length : Int) ∧ 0 ≤ b ∧ b < ((R.getD a.toNat (0, [])).2.length : Int) ∧ c = 0 ∧ ((R.getD a.toNat (0, [])).2.getD b.toNat (false, 0)).1 = false ∧ ((R.getD a.toNat (0, [])).2.getD b.toNat (false, 0)).2 ≠ (R.getD a.toNat (0, [])).1)) :
    Calls Try.prog 15 #[.agg #[.int .i64 T, .int .i64 N, .slice ra R.length rc, .int .i64 op, .int .i64 a, .int .i64 b, .int .i64 c]] w fun e w' => e = .returned (.tuple #[.nilIface, .bool false]) ∧ Below w.heap.size w w' := by
  have hK := kbox_start (T := T) (N := N) (op := op) (a := a) (b := b) (c := c) hr
  obtain ⟨W0, hW0⟩ : ∃ W, w.alloc (.cells #[.int .i64 T, .int .i64 N, .slice ra R.length rc, .int .i64 op, .int .i64 a, .int .i64 b, .int .i64 c] 51) = W := ⟨_, rfl⟩
  rw [hW0] at hK
  have x2 := hK.x2
  have x4 := hK.x4
  have x5 := hK.x5
  have x6 := hK.x6
  have HB : Hid (Below w.heap.size w W0) := hK.below
  have ia := st_isBelow (w := W0) (n := a) (m := (R.length : Int))
  cases hA : (decide (0 ≤ a) && decide (a < (R.length : Int))) with
  | false =>
    rw [hA] at ia
    clear hK hr hs hA
    go_enter Try.func15, Try.ntmps15
    go_wp2_with (go_at_call 21; refine ia.mono ?_; rintro e w2 ⟨rfl, rfl⟩)
    refine bodyPost_ret (v := .tuple #[.nilIface, .bool false]) (by simp [results, Try.results15, go_sem]) rfl ?_
    exact ⟨rfl, HB.out⟩
  | true =>
    rw [hA] at ia
    simp only [Bool.and_eq_true, decide_eq_true_eq] at hA
    by_cases hc : c = 0
    · have ec : (c == 0) = true := by simpa using hc
      obtain ⟨ka, rfl⟩ : ∃ ka : Nat, a = ka := ⟨a.toNat, by omega⟩
      have hk : ka < R.length := by omega
      obtain ⟨b0, o0, rc0, qa, qc, hv, _, k1, k2, hsy⟩ := hK.rules.syms hk
      cases hv
      rw [Int.toNat_natCast] at hs
      obtain ⟨⟨L, l⟩, hx⟩ : ∃ x, R.getD ka (0, []) = x := ⟨_, rfl⟩
      rw [hx] at k1 k2 hsy hs
      simp only at k1 k2 hsy hs
      obtain ⟨W1, hW1⟩ : ∃ W, W0.alloc (.cells #[.int .i64 L, .slice qa l.length qc] 41) = W := ⟨_, rfl⟩
      have hB1 : Below W0.heap.size W0 W1 := by rw [← hW1]; exact (Below.refl _ _).alloc (Nat.le_refl _) _
      have hK1 := hK.next hB1
      have HB1 : Hid (Below w.heap.size w W1) := hK1.below
      have y5 := hK1.x5
      have r0 : W1.cell? ⟨W0.heap.size, 0, none⟩ = some (.int .i64 L) := by rw [← hW1]; exact cell_of_blk (heap_alloc_new _ _) rfl
      have r1 : W1.cell? ⟨W0.heap.size, 1, none⟩ = some (.slice qa l.length qc) := by rw [← hW1]; exact cell_of_blk (heap_alloc_new _ _) rfl
      have i0 : (0 : Int) ≤ (ka : Int) := Int.natCast_nonneg _
      have i1 : (ka : Int) < (R.length : Int) := by omega
      have ib := st_isBelow (w := W1) (n := b) (m := (l.length : Int))
      have sy1 := hsy.same (same_below hB1)
      cases hBb : (decide (0 ≤ b) && decide (b < (l.length : Int))) with
      | false =>
        rw [hBb] at ib
        clear hK hr hs hx hsy sy1 hB1 hK1 hA hBb hc
        go_enter Try.func15, Try.ntmps15
        go_wp2_with
          (first
           | (go_at_call 21; with_reducible refine ia.mono ?_; rintro e w2 ⟨rfl, h2⟩; obtain rfl : W0 = w2 := h2.symm; clear ia)
           | (go_at_call 21; with_reducible refine ib.mono ?_; rintro e w2 ⟨rfl, h2⟩; obtain rfl : W1 = w2 := h2.symm; clear ib))
        refine bodyPost_ret (v := .tuple #[.nilIface, .bool false]) (by simp [results, Try.results15, go_sem]) rfl ?_
        exact ⟨rfl, HB1.out⟩
      | true =>
        rw [hBb] at ib
        simp only [Bool.and_eq_true, decide_eq_true_eq] at hBb
        obtain ⟨bn, rfl⟩ : ∃ bn : Nat, b = bn := ⟨b.toNat, by omega⟩
        have hbl : bn < l.length := by omega
        obtain ⟨b1, o1, c1, hv1, s1, s2⟩ := sy1.2 bn hbl
        cases hv1
        rw [Int.toNat_natCast] at hs
        obtain ⟨⟨t, X⟩, hy⟩ : ∃ x, l.getD bn (false, 0) = x := ⟨_, rfl⟩
        rw [hy] at s1 s2 hs
        simp only at s1 s2 hs
        obtain ⟨W2, hW2⟩ : ∃ W, W1.alloc (.cells #[.bool t, .int .i64 X] 43) = W := ⟨_, rfl⟩
        have hB2 : Below W1.heap.size W1 W2 := by rw [← hW2]; exact (Below.refl _ _).alloc (Nat.le_refl _) _
        have HB2 : Hid (Below w.heap.size w W2) := (hK1.next hB2).below
        have t0 : W2.cell? ⟨W1.heap.size, 0, none⟩ = some (.bool t) := by rw [← hW2]; exact cell_of_blk (heap_alloc_new _ _) rfl
        have t1 : W2.cell? ⟨W1.heap.size, 1, none⟩ = some (.int .i64 X) := by rw [← hW2]; exact cell_of_blk (heap_alloc_new _ _) rfl
        have u0 := (hB2.cell (World.block_lt_of_cell? _ _ r0)).trans r0
        have j0 : (0 : Int) ≤ (bn : Int) := Int.natCast_nonneg _
        have j1 : (bn : Int) < (l.length : Int) := by omega
        cases t with
        | true =>
          clear hK hr hs hx hsy sy1 hB1 hK1 hA hBb hc hB2 hy
          go_enter Try.func15, Try.ntmps15
          go_wp2_with
            (first
             | (go_at_call 21; with_reducible refine ia.mono ?_; rintro e w2 ⟨rfl, h2⟩; obtain rfl : W0 = w2 := h2.symm; clear ia)
             | (go_at_call 21; with_reducible refine ib.mono ?_; rintro e w2 ⟨rfl, h2⟩; obtain rfl : W1 = w2 := h2.symm; clear ib))
          refine bodyPost_ret (v := .tuple #[.nilIface, .bool false]) (by simp [results, Try.results15, go_sem]) rfl ?_
          exact ⟨rfl, HB2.out⟩
        | false =>
          have hXL : X = L := Classical.byContradiction fun hne => hs ⟨i0, i1, j0, j1, hc, rfl, hne⟩
          subst hXL
          have eX : (X == X) = true := by simp
          clear hK hr hs hx hsy sy1 hB1 hK1 hA hBb hc hB2 hy
          go_enter Try.func15, Try.ntmps15
          go_wp2_with
            (first
             | (go_at_call 21; with_reducible refine ia.mono ?_; rintro e w2 ⟨rfl, h2⟩; obtain rfl : W0 = w2 := h2.symm; clear ia)
             | (go_at_call 21; with_reducible refine ib.mono ?_; rintro e w2 ⟨rfl, h2⟩; obtain rfl : W1 = w2 := h2.symm; clear ib))
          refine bodyPost_ret (v := .tuple #[.nilIface, .bool false]) (by simp [results, Try.results15, go_sem]) rfl ?_
          exact ⟨rfl, HB2.out⟩
    · have ec : (c == 0) = false := by simpa using hc
      clear hK hr hs hA hc
      go_enter Try.func15, Try.ntmps15
      go_wp2_with (go_at_call 21; refine ia.mono ?_; rintro e w2 ⟨rfl, rfl⟩)
      refine bodyPost_ret (v := .tuple #[.nilIface, .bool false]) (by simp [results, Try.results15, go_sem]) rfl ?_
      exact ⟨rfl, HB.out⟩

set_option maxRecDepth 100000 in
set_option maxHeartbeats 6400000 in
theorem st_inlineOf_yes {w : World} {T N : Int} {ra : Option Addr} {rc : Nat} {R : List Ru} {op : Int} {ka bn m : Nat} {L X : Int} {l : List Sy} (hr : RulesAt w w.heap.size (.slice ra R.length rc) R) (hl : R.length ≤ 1000) (hk : ka < R.length) (hx : R.getD ka (0, []) = (L, l)) (hcl : l.length = bn + 1 + m) (hl8 : l.length ≤ 1000) (hX : l.getD bn (false, 0) = (false, X)) (hne : X ≠ L) :
    Calls Try.prog 15 #[.agg #[.int .i64 T, .int .i64 N, .slice ra R.length rc, .int .i64 op, .int .i64 ka, .int .i64 bn, .int .i64 0]] w fun e w' => ∃ ov, e = .returned (.tuple #[.iface 64 (.agg #[.int .i64 T, .int .i64 N, .slice ra R.length rc, .int .i64 op, .int .i64 ka, .int .i64 bn, .int .i64 0, ov, .int .i64 (namesS (l.take bn)).length]), .bool true]) ∧ w'.ownsRow w.heap.size 3 1 ov (idxF (fun k => decide ((R.getD k (0, [])).1 = X)) R.length).length (idxV (idxF (fun k => decide ((R.getD k (0, [])).1 = X)) R.length)) ∧ Below w.heap.size w w' := by
  obtain ⟨n, hn⟩ : ∃ n, bn + 1 + m = n := ⟨_, rfl⟩
  rw [hn] at hcl
  have hK := kbox_start (T := T) (N := N) (op := op) (a := ka) (b := bn) (c := 0) hr
  obtain ⟨W0, hW0⟩ : ∃ W, w.alloc (.cells #[.int .i64 T, .int .i64 N, .slice ra R.length rc, .int .i64 op, .int .i64 ka, .int .i64 bn, .int .i64 0] 51) = W := ⟨_, rfl⟩
  rw [hW0] at hK
  have x2 := hK.x2
  have x4 := hK.x4
  have x5 := hK.x5
  have x6 := hK.x6
  have ia := st_isBelow (w := W0) (n := ka) (m := (R.length : Int))
  obtain ⟨b0, o0, rc0, qa, qc, hv, _, k1, k2, hsy⟩ := hK.rules.syms hk
  cases hv
  rw [hx] at k1 k2 hsy
  simp only at k1 k2 hsy
  have hqc : l.length ≤ qc := by obtain ⟨_, _, hv, hle⟩ := hsy.1; cases hv; exact hle
  obtain ⟨ad, rfl⟩ := hsy.someG (by omega)
  rw [hcl] at k2 hqc
  obtain ⟨W1, hW1⟩ : ∃ W, W0.alloc (.cells #[.int .i64 L, .slice (some ad) n qc] 41) = W := ⟨_, rfl⟩
  obtain ⟨rb, hrb⟩ : ∃ x, W0.heap.size = x := ⟨_, rfl⟩
  have hB1 : Below W0.heap.size W0 W1 := by rw [← hW1]; exact (Below.refl _ _).alloc (Nat.le_refl _) _
  have hK1 := hK.next hB1
  have y5 := hK1.x5
  have r0 : W1.cell? ⟨rb, 0, none⟩ = some (.int .i64 L) := by rw [← hW1, ← hrb]; exact cell_of_blk (heap_alloc_new _ _) rfl
  have r1 : W1.cell? ⟨rb, 1, none⟩ = some (.slice (some ad) n qc) := by rw [← hW1, ← hrb]; exact cell_of_blk (heap_alloc_new _ _) rfl
  have ib := st_isBelow (w := W1) (n := bn) (m := (n : Int))
  obtain ⟨b1, o1, c1, hv1, s1, s2⟩ := (hsy.same (same_below hB1)).2 bn (by omega)
  rw [hcl] at hv1
  cases hv1
  rw [hX] at s1 s2
  simp only at s1 s2
  obtain ⟨W2, hW2⟩ : ∃ W, W1.alloc (.cells #[.bool false, .int .i64 X] 43) = W := ⟨_, rfl⟩
  obtain ⟨sb, hsb⟩ : ∃ x, W1.heap.size = x := ⟨_, rfl⟩
  have hB2 : Below W1.heap.size W1 W2 := by rw [← hW2]; exact (Below.refl _ _).alloc (Nat.le_refl _) _
  have t0 : W2.cell? ⟨sb, 0, none⟩ = some (.bool false) := by rw [← hW2, ← hsb]; exact cell_of_blk (heap_alloc_new _ _) rfl
  have t1 : W2.cell? ⟨sb, 1, none⟩ = some (.int .i64 X) := by rw [← hW2, ← hsb]; exact cell_of_blk (heap_alloc_new _ _) rfl
  have u0 := (hB2.cell (World.block_lt_of_cell? _ _ r0)).trans r0
  have u1 := (hB2.cell (World.block_lt_of_cell? _ _ r1)).trans r1
  have hK2 := hK1.next hB2
  have HK2 : Hid (KBox w T N (some ⟨b0, o0, none⟩) rc R op ka bn 0 W2) := hK2
  have HU : Hid (W2.cell? ⟨rb, 1, none⟩ = some (.slice (some ⟨b1, o1, none⟩) n qc) ∧ W2.cell? ⟨sb, 1, none⟩ = some (.int .i64 X)) := ⟨u1, t1⟩
  have HSy : Hid (∀ wq, Below W2.heap.size W2 wq → SymsAt wq (.slice (some ⟨b1, o1, none⟩) l.length qc) l) := fun wq hq => hsy.same (same_below (hB1.trans ((hB2.mono hB1.size).trans (hq.mono (Nat.le_trans hB1.size hB2.size)))))
  have HX : Hid (l.length = n) := hcl
  have i0 : (0 : Int) ≤ (ka : Int) := Int.natCast_nonneg _
  have i1 : (ka : Int) < (R.length : Int) := by omega
  have j0 : (0 : Int) ≤ (bn : Int) := Int.natCast_nonneg _
  have j1 : (bn : Int) < (n : Int) := by omega
  rw [decide_eq_true i0, decide_eq_true i1] at ia
  rw [decide_eq_true j0, decide_eq_true j1] at ib
  have eX : (X == L) = false := by simpa using hne
  have e0 : ((0 : Int) == 0) = true := rfl
  have hup1 := fun w => sy_uptoG (ad := ⟨b1, o1, none⟩) (f := bn) (sl := n) (lc := qc) (fi := (bn : Int)) rfl (by omega) w
  have HN : Hid (bn + 1 + m = n) := hn
  clear hK hr hx hcl hsy hB1 hK1 hB2 hK2 hX hn
  go_enter Try.func15, Try.ntmps15
  go_upto_region 9 with
    (first
     | (go_at_call 21; with_reducible refine ia.mono ?_; rintro e w2 ⟨rfl, h2⟩; obtain rfl : W0 = w2 := h2.symm; clear ia)
     | (go_at_call 21; with_reducible refine ib.mono ?_; rintro e w2 ⟨rfl, h2⟩; obtain rfl : W1 = w2 := h2.symm; clear ib))
  obtain ⟨Wd, hWd⟩ : ∃ W, W2.drew = W := ⟨_, rfl⟩
  have hBd : Below W2.heap.size W2 Wd := by rw [← hWd]; exact (Below.refl _ _).drew
  have HKd : Hid (∀ wq, Below Wd.heap.size Wd wq → KBox w T N (some ⟨b0, o0, none⟩) rc R op ka bn 0 wq ∧ SymsAt wq (.slice (some ⟨b1, o1, none⟩) l.length qc) l ∧ Below W2.heap.size W2 wq) := fun wq hq => by
    have h1 : Below W2.heap.size W2 wq := hBd.trans (hq.mono hBd.size)
    exact ⟨HK2.out.next h1, HSy.out wq h1, h1⟩
  have HSS : Hid (∀ wq, Below Wd.heap.size Wd wq → wq.cell? ⟨w.heap.size, 0, none⟩ = some (.int .i64 T) ∧ wq.cell? ⟨w.heap.size, 1, none⟩ = some (.int .i64 N) ∧ wq.cell? ⟨w.heap.size, 2, none⟩ = some (.slice (some ⟨b0, o0, none⟩) R.length rc) ∧ wq.cell? ⟨w.heap.size, 3, none⟩ = some (.int .i64 op) ∧ wq.cell? ⟨w.heap.size, 4, none⟩ = some (.int .i64 ka) ∧ wq.cell? ⟨w.heap.size, 5, none⟩ = some (.int .i64 bn) ∧ wq.cell? ⟨w.heap.size, 6, none⟩ = some (.int .i64 0) ∧ wq.cell? ⟨rb, 1, none⟩ = some (.slice (some ⟨b1, o1, none⟩) n qc) ∧ wq.cell? ⟨sb, 1, none⟩ = some (.int .i64 X)) := fun wq hq =>
    let h := (HKd.out wq hq).1
    let hb := (HKd.out wq hq).2.2
    ⟨h.x0, h.x1, h.x2, h.x3, h.x4, h.x5, h.x6, (hb.cell (World.block_lt_of_cell? _ _ HU.out.1)).trans HU.out.1, (hb.cell (World.block_lt_of_cell? _ _ HU.out.2)).trans HU.out.2⟩
  have S0 := HSS.out Wd (Below.refl _ _)
  clear hBd x2 x4 x5 x6 k1 k2 hW0 hW1 hW2 y5 r0 r1 t0 t1 u0 u1 s1 s2 hrb hsb
  refine wp_region_mix [0, 1, 2, 3, 4, 5, 7, 8, 9, 10, 11, 12] 6 17 (fun wq => wq.cell? ⟨w.heap.size, 0, none⟩ = some (.int .i64 T) ∧ wq.cell? ⟨w.heap.size, 1, none⟩ = some (.int .i64 N) ∧ wq.cell? ⟨w.heap.size, 2, none⟩ = some (.slice (some ⟨b0, o0, none⟩) R.length rc) ∧ wq.cell? ⟨w.heap.size, 3, none⟩ = some (.int .i64 op) ∧ wq.cell? ⟨w.heap.size, 4, none⟩ = some (.int .i64 ka) ∧ wq.cell? ⟨w.heap.size, 5, none⟩ = some (.int .i64 bn) ∧ wq.cell? ⟨w.heap.size, 6, none⟩ = some (.int .i64 0) ∧ wq.cell? ⟨rb, 1, none⟩ = some (.slice (some ⟨b1, o1, none⟩) n qc) ∧ wq.cell? ⟨sb, 1, none⟩ = some (.int .i64 X)) (by kernel_rfl) (by kernel_rfl) (by rw [hWd]; exact S0) ?_
  rw [hWd]
  clear hWd S0
  iterate 12
    refine StillI.con8 (v := ?_) rfl (by rfl) ?_ ?_
    rotate_left
    · intro w' hSw
      obtain ⟨z0, z1, z2, z3, z4, z5, z6, z7, z8⟩ := hSw
      go_simp
      try with_reducible rfl
    simp only [Act.put, List.setIfInBounds_toArray, List.set_cons_zero, List.set_cons_succ]
  rw [StillI]
  have n1 := st_rulesOf (w := Wd) (m := X) (HKd.out Wd (Below.refl _ _)).1.all hl
  refine TailC.one (i := 6) (by kernel_rfl) ⟨_, rfl, fun K hK => ?_⟩
  go_simp
  refine n1.mono ?_
  rintro e w3 ⟨ov, rfl, hov, hB3⟩
  dsimp only
  refine hK.out _ _ (fun _ => HSS.out _ hB3) ?_
  clear hK n1
  have n2 := st_namesIn (w := w3) ((HKd.out w3 hB3).2.1.takeG (f := bn) (by rw [HX.out]; have := HN.out; omega)) (by rw [List.length_take]; omega)
  obtain ⟨oa, oc, hovf⟩ := own_form hov
  have HOv : Hid (ov = .slice oa (idxF (fun k => decide ((R.getD k (0, [])).1 = X)) R.length).length oc) := hovf
  obtain ⟨on, hon⟩ : ∃ on, (idxF (fun k => decide ((R.getD k (0, [])).1 = X)) R.length).length = on := ⟨_, rfl⟩
  rw [hon] at hovf HOv
  rw [hovf]
  rw [hovf] at hov
  clear hovf HOv
  refine TailC.one (i := 13) (by kernel_rfl) ⟨_, rfl, fun K hK => ?_⟩
  go_simp
  refine n2.mono ?_
  rintro e w4 ⟨rfl, hB4⟩
  dsimp only
  have hB4' : Below Wd.heap.size Wd w4 := hB3.trans (hB4.mono hB3.size)
  refine hK.out _ _ (fun _ => HSS.out _ hB4') ?_
  clear hK n2
  refine TailC.one (i := 14) (by kernel_rfl) ⟨_, rfl, fun K hK => ?_⟩
  go_simp
  refine hK.out _ _ (fun _ => HSS.out _ hB4') ?_
  clear hK
  refine TailC.one (i := 15) (by kernel_rfl) ⟨_, rfl, fun K hK => ?_⟩
  go_simp
  refine hK.out _ _ (fun _ => HSS.out _ hB4') ?_
  clear hK
  refine TailC.one (i := 16) (by kernel_rfl) ⟨_, rfl, fun K hK => ?_⟩
  go_simp
  refine hK.out _ _ (fun _ => HSS.out _ hB4') ?_
  clear hK
  refine TailC.last (i := 17) (by kernel_rfl) ⟨_, rfl, fun K hK => ?_⟩
  go_simp
  refine hK.out _ _ (fun h => absurd h (by omega)) (NoPanic.normal ?_)
  clear hK
  have HOw : Hid (w4.ownsRow w.heap.size 3 1 (.slice oa on oc) (idxF (fun k => decide ((R.getD k (0, [])).1 = X)) R.length).length (idxV (idxF (fun k => decide ((R.getD k (0, [])).1 = X)) R.length))) := own_mono (own_below hov hB4 fun g hg => (hov.lt g hg).2) (HKd.out Wd (Below.refl _ _)).1.below.size
  clear hov hon
  go_wp2_with fail
  refine bodyPost_ret (v := .tuple #[.iface 64 (.agg #[.int .i64 T, .int .i64 N, .slice (some ⟨b0, o0, none⟩) R.length rc, .int .i64 op, .int .i64 ka, .int .i64 bn, .int .i64 0, .slice oa on oc, .int .i64 (namesS (l.take bn)).length]), .bool true]) (by simp [results, Try.results15, go_sem]) rfl ?_
  exact ⟨_, rfl, HOw.out, (HKd.out w4 hB4').1.below⟩

end Go.Proofs.Ytjdoiieiimdmfaa

/- The contracts of slices.IndexFunc and ContainsFunc with package step's 'makes not'. -/
namespace Go.Proofs.Ytjdoiieiimdmfaa
open Go.RowKit

set_option maxRecDepth 100000 in
set_option maxHeartbeats 1600000 in
theorem st_makesNot {w : World} {mb g N B : Nat} {Y : List Bool} {t : Bool} {v : Int} (hm : w.cell? ⟨mb, 0, none⟩ = some (.slice (some ⟨g, 0, none⟩) N N)) (hY : RowB w B g N Y) (hv : t = false → 0 ≤ v ∧ v < (N : Int)) :
    Calls Try.prog 27 #[.agg #[.bool t, .int .i64 v], .pointer (some ⟨mb, 0, none⟩)] w fun e w' => e = .returned (.bool (!(t || Y.getD v.toNat false))) ∧ Below w.heap.size w w' := by
  obtain ⟨W1, hW1⟩ : ∃ W, w.alloc (.cells #[.bool t, .int .i64 v] 43) = W := ⟨_, rfl⟩
  have hB1 : Below w.heap.size w W1 := by rw [← hW1]; exact (Below.refl _ _).alloc (Nat.le_refl _) _
  have d0 : W1.cell? ⟨w.heap.size, 0, none⟩ = some (.bool t) := by rw [← hW1]; exact cell_of_blk (heap_alloc_new _ _) rfl
  have d1 : W1.cell? ⟨w.heap.size, 1, none⟩ = some (.int .i64 v) := by rw [← hW1]; exact cell_of_blk (heap_alloc_new _ _) rfl
  have m1 := (hB1.cell (World.block_lt_of_cell? _ _ hm)).trans hm
  have HB : Hid (Below w.heap.size w W1) := hB1
  have hY1 := hY.below hB1
  clear hB1 hY hm
  cases t with
  | true =>
    clear hY1 hv
    go_enter Try.func27, Try.ntmps27
    go_wp2_with fail
    go_ret
    exact ⟨rfl, HB.out⟩
  | false =>
    obtain ⟨i0, i1⟩ := hv rfl
    obtain ⟨q, rfl⟩ : ∃ q : Nat, v = q := ⟨v.toNat, by omega⟩
    have c1 := (hY1.cell (m := q) (by omega)).1
    rw [Int.toNat_natCast]
    obtain ⟨y, hy⟩ : ∃ y, Y.getD q false = y := ⟨_, rfl⟩
    rw [hy] at c1 ⊢
    clear hY1 hy hv
    go_enter Try.func27, Try.ntmps27
    go_wp2_with fail
    go_ret
    exact ⟨rfl, HB.out⟩

set_option maxRecDepth 100000 in
set_option maxHeartbeats 3200000 in
theorem st_indexFunc {w : World} {mb g N B : Nat} {Y : List Bool} {lv : Value} {l : List Sy} (hl : SymsAt w lv l) (hs : l.length ≤ 1000) (hm : w.cell? ⟨mb, 0, none⟩ = some (.slice (some ⟨g, 0, none⟩) N N)) (hY : RowB w B g N Y) (hv : ∀ j, j < l.length → (l.getD j (false, 0)).1 = false → 0 ≤ (l.getD j (false, 0)).2 ∧ (l.getD j (false, 0)).2 < (N : Int)) :
    Calls Try.prog 34 #[lv, .func (.func 27) #[] #[.pointer (some ⟨mb, 0, none⟩)]] w fun e w' => (∃ r : Int, e = .returned (.int .i64 r) ∧ (0 ≤ r ↔ allB Y l = false)) ∧ Below w.heap.size w w' := by
  obtain ⟨la, lc, hlv, _⟩ := hl.1
  subst hlv
  have HL : Hid (SymsAt w (.slice la l.length lc) l) := hl
  have HM : Hid (w.cell? ⟨mb, 0, none⟩ = some (.slice (some ⟨g, 0, none⟩) N N) ∧ RowB w B g N Y) := ⟨hm, hY⟩
  have HV : Hid (∀ j, j < l.length → (l.getD j (false, 0)).1 = false → 0 ≤ (l.getD j (false, 0)).2 ∧ (l.getD j (false, 0)).2 < (N : Int)) := hv
  clear hl hm hY hv
  go_enter Try.func34, Try.ntmps34
  go_wp2_with fail
  go_loopw [8] (fun s8 wr => ∃ k : Nat, s8 = .int .i64 k ∧ k ≤ l.length ∧ allB Y (l.take k) = true ∧ Below w.heap.size w wr) (fun s _ => l.length - (intOf s).toNat)
  case atStart => exact ⟨0, rfl, Nat.zero_le _, rfl, Below.refl _ _⟩
  case round =>
    obtain ⟨k, rfl, hk, hall, hB⟩ := hrel
    have HB : Hid (Below w.heap.size w wr) := hB
    have HA : Hid (allB Y (l.take k) = true) := hall
    by_cases hlt : k < l.length
    · obtain ⟨b, o, c, hv, c1, c2⟩ := (HL.out.same (same_below hB)).2 k hlt
      cases hv
      have hvk := HV.out k hlt
      have hat := allB_take Y l k hlt
      obtain ⟨⟨t, v⟩, hx⟩ : ∃ x, l.getD k (false, 0) = x := ⟨_, rfl⟩
      rw [hx] at c1 c2 hvk hat
      simp only at c1 c2 hvk hat
      rw [HA.out, Bool.true_and] at hat
      have mn := st_makesNot (w := wr) (t := t) (v := v) ((hB.cell (World.block_lt_of_cell? _ _ HM.out.1)).trans HM.out.1) (HM.out.2.below hB) hvk
      obtain ⟨y, hy⟩ : ∃ y, (t || Y.getD v.toNat false) = y := ⟨_, rfl⟩
      rw [hy] at mn hat
      have HT : Hid (allB Y (l.take (k + 1)) = y) := hat
      have i0 : (0 : Int) ≤ (k : Int) := Int.natCast_nonneg _
      have i1 : (k : Int) < (l.length : Int) := by omega
      clear hx hvk hat hB hall hy
      cases y with
      | true =>
        go_wp2_with (go_at_call 27; refine mn.mono ?_; rintro e w2 ⟨rfl, hB2⟩; clear mn)
        go_roundw
        case rel => exact ⟨k + 1, by go_num, by omega, HT.out, HB.out.trans (hB2.mono HB.out.size)⟩
        case measure => simp [intOf]; omega
      | false =>
        go_wp2_with (go_at_call 27; refine mn.mono ?_; rintro e w2 ⟨rfl, hB2⟩; clear mn)
        go_ret
        refine ⟨⟨k, rfl, fun _ => ?_, fun _ => i0⟩, HB.out.trans (hB2.mono HB.out.size)⟩
        cases h : allB Y l with
        | false => rfl
        | true =>
          have h2 := HT.out
          unfold allB at h h2
          rw [List.all_eq_true] at h
          have : ((l.take (k + 1)).all fun s => s.1 || Y.getD s.2.toNat false) = true := by
            rw [List.all_eq_true]
            exact fun x hx => h x (List.mem_of_mem_take hx)
          rw [this] at h2
          cases h2
    · have hkk : k = l.length := by omega
      clear hB hall
      go_wp2_with fail
      go_ret
      have h := HA.out
      rw [hkk, List.take_length] at h
      exact ⟨⟨-1, rfl, fun h => by omega, fun h' => by rw [h] at h'; cases h'⟩, HB.out⟩

set_option maxRecDepth 100000 in
set_option maxHeartbeats 1600000 in
theorem st_containsFunc {w : World} {mb g N B : Nat} {Y : List Bool} {lv : Value} {l : List Sy} (hl : SymsAt w lv l) (hs : l.length ≤ 1000) (hm : w.cell? ⟨mb, 0, none⟩ = some (.slice (some ⟨g, 0, none⟩) N N)) (hY : RowB w B g N Y) (hv : ∀ j, j < l.length → (l.getD j (false, 0)).1 = false → 0 ≤ (l.getD j (false, 0)).2 ∧ (l.getD j (false, 0)).2 < (N : Int)) :
    Calls Try.prog 28 #[lv, .func (.func 27) #[] #[.pointer (some ⟨mb, 0, none⟩)]] w fun e w' => e = .returned (.bool (!allB Y l)) ∧ Below w.heap.size w w' := by
  have ix := st_indexFunc hl hs hm hY hv
  clear hl hs hm hY hv
  cases hA : allB Y l with
  | false =>
    go_enter Try.func28, Try.ntmps28
    go_wp2_with (go_at_call 34; refine ix.mono ?_; rintro e w1 ⟨⟨r, rfl, hr⟩, hB⟩; have h0 : 0 ≤ r := hr.2 hA; clear hr)
    go_ret
    exact ⟨rfl, hB⟩
  | true =>
    go_enter Try.func28, Try.ntmps28
    go_wp2_with (go_at_call 34; refine ix.mono ?_; rintro e w1 ⟨⟨r, rfl, hr⟩, hB⟩; have h0 : decide (0 ≤ r) = false := decide_eq_false (fun h => by rw [hr.1 h] at hA; cases hA); clear hr)
    go_ret
    exact ⟨rfl, hB⟩

end Go.Proofs.Ytjdoiieiimdmfaa
