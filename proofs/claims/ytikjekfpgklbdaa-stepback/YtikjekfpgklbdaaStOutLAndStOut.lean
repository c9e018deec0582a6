import Derived.Test.YtikjekfpgklbdaaStOLAndStDoR
import Derived.Test.YtikjekfpgklbdaaStOfPAndStChange
import Derived.Test.YtikjekfpgklbdaaStOutE
import Derived.Test.YtikjekfpgklbdaaStOutI
import Derived.Test.YtikjekfpgklbdaaStOfSAndMayG
/- The contract of package step's (left).outcome. -/
namespace Go.Proofs.Ytikjekfpgklbdaa
open Go.RowKit

set_option maxRecDepth 100000 in
set_option maxHeartbeats 12800000 in
theorem st_outL {w : World} {T : Int} {N : Nat} {ra : Option Addr} {rc : Nat} {op a b c : Int} {R : List Ru} (hr : RulesAt w w.heap.size (.slice ra R.length rc) R) (h0 : 0 < R.length) (hl : R.length ≤ 1000) (hl2 : ∀ q, q < R.length → (R.getD q (0, [])).2.length ≤ 1000) (hN : N ≤ 1000) :
    Calls Try.prog 99 #[.agg #[.int .i64 T, .int .i64 N, .slice ra R.length rc, .int .i64 op, .int .i64 a, .int .i64 b, .int .i64 c]] w fun e w' => ∃ lv RL, e = .returned (.agg #[.int .i64 T, .int .i64 (N + 1), lv]) ∧ RlIn w' w.heap.size lv RL ∧ (RL.map fun x => x.2) = R.map (leOne N a) ++ [((N : Int), [])] ∧ Below w.heap.size w w' := by
  obtain ⟨cs, hcs⟩ : ∃ cs : Array Value, #[.int .i64 T, .int .i64 N, .slice ra R.length rc, .int .i64 op, .int .i64 a, .int .i64 b, .int .i64 c] = cs := ⟨_, rfl⟩
  have hC0 : CBox w cs 90 ra rc R ((w.alloc (.cells cs 90)).alloc (.cells #[.int .i64 0, .int .i64 0, .slice none 0 0] 24)) := cbox_start hr
  rw [← hcs] at hC0
  obtain ⟨W0, hW0⟩ : ∃ W, (w.alloc (.cells #[.int .i64 T, .int .i64 N, .slice ra R.length rc, .int .i64 op, .int .i64 a, .int .i64 b, .int .i64 c] 90)).alloc (.cells #[.int .i64 0, .int .i64 0, .slice none 0 0] 24) = W := ⟨_, rfl⟩
  rw [hW0, hcs] at hC0
  have HCS : Hid (#[.int .i64 T, .int .i64 N, .slice ra R.length rc, .int .i64 op, .int .i64 a, .int .i64 b, .int .i64 c] = cs) := hcs
  have HCell : Hid (∀ wq, CBox w cs 90 ra rc R wq → wq.cell? ⟨w.heap.size, 0, none⟩ = some (.int .i64 T) ∧ wq.cell? ⟨w.heap.size, 1, none⟩ = some (.int .i64 N) ∧ wq.cell? ⟨w.heap.size, 2, none⟩ = some (.slice ra R.length rc) ∧ wq.cell? ⟨w.heap.size, 3, none⟩ = some (.int .i64 op) ∧ wq.cell? ⟨w.heap.size, 4, none⟩ = some (.int .i64 a) ∧ wq.cell? ⟨w.heap.size, 5, none⟩ = some (.int .i64 b) ∧ wq.cell? ⟨w.heap.size, 6, none⟩ = some (.int .i64 c)) := fun wq hq => by
    refine ⟨hq.cell ?_, hq.cell ?_, hq.cell ?_, hq.cell ?_, hq.cell ?_, hq.cell ?_, hq.cell ?_⟩ <;> (rw [← HCS.out]; rfl)
  have hmono : ∀ {wq : World}, CBox w cs 90 ra rc R wq → RulesAt wq wq.heap.size (.slice ra R.length rc) R := fun {wq} hq => hq.rules.mono (Nat.le_trans (by omega) hq.size)
  have HMono : Hid (∀ {wq : World}, CBox w cs 90 ra rc R wq → RulesAt wq wq.heap.size (.slice ra R.length rc) R) := hmono
  obtain ⟨x0, x1, x2, x3, x4, x5, x6⟩ := HCell.out W0 hC0
  have cop := st_copies (w := W0) (T := T) (N := N) (op := op) (a := a) (b := b) (c := c) (hmono hC0) hl hl2
  obtain ⟨b0, o0, _, _, _, hv, _⟩ := hC0.rules.2 0 h0
  cases hv
  have HC0 : Hid (CBox w cs 90 (some ⟨b0, o0, none⟩) rc R W0) := hC0
  have H2 : Hid (∀ q, q < R.length → (R.getD q (0, [])).2.length ≤ 1000) := hl2
  have hml : ∀ w3 : World, ∃ W, w3.alloc (.cells #[.bool false, .int .i64 N] 52) = W := fun _ => ⟨_, rfl⟩
  clear hr hl2 hC0 hcs hmono
  go_enter Try.func99, Try.ntmps99
  go_wp2_with
    (first
     | (go_at_call 76; refine cop.mono ?_; rintro e wq ⟨lv, RL, rfl, hO, hmap, hBq⟩; clear cop
        have HBq : Hid (Below W0.heap.size W0 wq) := hBq
        have HO : Hid (Owns wq W0.heap.size (rlP lv RL) ∧ (RL.map fun x => x.2) = R) := ⟨hO, hmap⟩
        obtain ⟨v0, v1, v2, v3, v4, v5, v6⟩ := HCell.out wq (HC0.out.next hBq)
        have mo := st_more (w := wq) (T := T) (N := N) (ra := some ⟨b0, o0, none⟩) (rn := R.length) (rc := rc) (op := op) (a := a) (b := b) (c := c)
        clear hBq hO hmap x0 x1 x2 x3 x4 x5 x6 hW0)
     | (go_at_call 86; refine mo.mono ?_; rintro e w3 ⟨rfl, hB3⟩; clear mo
        have hC4 := (HC0.out.next HBq.out).next (hB3.alloc hB3.size (.cells #[.bool false, .int .i64 N] 52))
        obtain ⟨u0, u1, u2, u3, u4, u5, u6⟩ := HCell.out _ hC4
        have HB3 : Hid (Below wq.heap.size wq w3) := hB3
        clear v0 v1 v2 v3 v4 v5 v6 hC4 hB3))
  have hlen : RL.length = R.length := by rw [← HO.out.2, List.length_map]
  obtain ⟨g, cap, hlv, hg0, hg1⟩ := HO.out.1.rlOwn.form (by omega)
  subst hlv
  have hOL : OL w cs (some ⟨b0, o0, none⟩) rc R N a g cap w3.heap.size 0 RL (w3.alloc (.cells #[.bool false, .int .i64 N] 52)) := by
    have hB4 : Below wq.heap.size wq (w3.alloc (.cells #[.bool false, .int .i64 N] 52)) := HB3.out.alloc HB3.out.size _
    refine ⟨(HC0.out.next HBq.out).next hB4, (HO.out.1.rlIn.mono HC0.out.size).below hB4, hlen, by rw [HO.out.2]; simp, heap_alloc_new _ _, ?_, Nat.le_trans HC0.out.size hg0⟩
    have := HB3.out.size
    omega
  rw [hlen]
  clear u0 u1 u2 u3 u4 u5 u6 HO HBq HB3 hlen hg0 hg1
  obtain ⟨eb, heb⟩ : ∃ x, w3.heap.size = x := ⟨_, rfl⟩
  obtain ⟨w4, hw4⟩ : ∃ W, w3.alloc (.cells #[.bool false, .int .i64 N] 52) = W := ⟨_, rfl⟩
  rw [hw4] at hOL ⊢
  rw [heb] at hOL ⊢
  clear hw4 heb hml
  have HOL : Hid (OL w cs (some ⟨b0, o0, none⟩) rc R N a g cap eb 0 RL w4) := hOL
  clear hOL
  go_loopw [19] (fun s19 wr => ∃ (k : Nat) (RK : List (Value × Ru)), s19 = .int .i64 k ∧ k ≤ R.length ∧ OL w cs (some ⟨b0, o0, none⟩) rc R N a g cap eb k RK wr) (fun s _ => R.length - (intOf s).toNat)
  case atStart => exact ⟨0, RL, rfl, Nat.zero_le _, HOL.out⟩
  case round =>
    obtain ⟨k, RK, rfl, hk, hK⟩ := hrel
    clear HOL
    have HK : Hid (OL w cs (some ⟨b0, o0, none⟩) rc R N a g cap eb k RK wr) := hK
    by_cases hlt : k < R.length
    · obtain ⟨b1, o1, rc1, qa, qc, hv, _, k1, k2, hsy⟩ := hK.box.rules.syms hlt
      cases hv
      have hn8 := H2.out k hlt
      obtain ⟨⟨L, l⟩, hx⟩ : ∃ x, R.getD k (0, []) = x := ⟨_, rfl⟩
      rw [hx] at k1 k2 hsy hn8
      simp only at k1 k2 hsy hn8
      obtain ⟨n, hn⟩ : ∃ n, l.length = n := ⟨_, rfl⟩
      rw [hn] at k2 hsy hn8
      have HX : Hid (R.getD k (0, []) = (L, l) ∧ R[k] = (L, l) ∧ l.length = n) := ⟨hx, by rw [← hx]; simp [List.getD, hlt], hn⟩
      obtain ⟨W1, hW1⟩ : ∃ W, wr.alloc (.cells #[.int .i64 L, .slice qa n qc] 44) = W := ⟨_, rfl⟩
      obtain ⟨rb, hrb⟩ : ∃ x, wr.heap.size = x := ⟨_, rfl⟩
      have hB1 : Below wr.heap.size wr W1 := by rw [← hW1]; exact (Below.refl _ _).alloc (Nat.le_refl _) _
      have r0 : W1.cell? ⟨rb, 0, none⟩ = some (.int .i64 L) := by rw [← hW1, ← hrb]; exact cell_of_blk (heap_alloc_new _ _) rfl
      have r1 : W1.cell? ⟨rb, 1, none⟩ = some (.slice qa n qc) := by rw [← hW1, ← hrb]; exact cell_of_blk (heap_alloc_new _ _) rfl
      have hK1 := hK.next hB1
      have be := st_begins (w := W1) (T := T) (N := N) (op := op) (a := a) (b := b) (c := c) (HMono.out hK1.box) hlt
      rw [hx] at be
      obtain ⟨x0, x1, x2, x3, x4, x5, x6⟩ := HCell.out W1 hK1.box
      have HSy : Hid (∀ wq, Below wr.heap.size wr wq → SymsAt wq (.slice qa n qc) l) := fun wq hB => hsy.same (same_below hB)
      have HB1 : Hid (Below wr.heap.size wr W1) := hB1
      have HR : Hid (W1.cell? ⟨rb, 0, none⟩ = some (.int .i64 L) ∧ W1.cell? ⟨rb, 1, none⟩ = some (.slice qa n qc)) := ⟨r0, r1⟩
      have i0 : (0 : Int) ≤ (k : Int) := Int.natCast_nonneg _
      have i1 : (k : Int) < (R.length : Int) := by omega
      clear hK hx hn hsy hB1 hK1 r0 r1
      cases hbe : ownA a (L, l) with
      | true =>
        obtain ⟨hLa, hOw⟩ : L = a ∧ ownR (L, l) = true := by
          unfold ownA at hbe
          simp only [Bool.and_eq_true, decide_eq_true_eq] at hbe
          exact hbe
        subst hLa
        rw [hbe] at be
        have HOw : Hid (ownR (L, l) = true) := hOw
        have hn0 : 0 < l.length := by
          unfold ownR at hOw
          simp only [Bool.and_eq_true, decide_eq_true_eq] at hOw
          exact hOw.1.1
        rw [HX.out.2.2] at hn0
        obtain ⟨n, rfl⟩ : ∃ m, n = m + 1 := ⟨n - 1, by omega⟩
        have HLd : Hid ((l.drop 1).length = n) := by show _ = _; rw [List.length_drop, HX.out.2.2]; omega
        obtain ⟨A, hA, hA'⟩ := sy_from (la := qa) (f := 1) (n := n) (sl := n + 1) (lc := qc) (fi := 1) rfl (by omega)
        have HA' : Hid (qc ≠ 1 → A = qa.map (·.add (1 * 2))) := hA'
        clear hbe hOw hn0 hA'
        go_upto_region 7 with
          (go_at_call 39; refine be.mono ?_; rintro e w2 ⟨rfl, hB2⟩; clear be)
        obtain ⟨Wd, hWd⟩ : ∃ W, w2.drew = W := ⟨_, rfl⟩
        have hB2d : Below W1.heap.size W1 Wd := by rw [← hWd]; exact hB2.drew
        have hBd : Below wr.heap.size wr Wd := HB1.out.trans (hB2d.mono HB1.out.size)
        have HKd : Hid (OL w cs (some ⟨b0, o0, none⟩) rc R N L g cap eb k RK Wd) := HK.out.next hBd
        have HS : Hid (∀ wq, Below Wd.heap.size Wd wq → (wq.cell? ⟨w.heap.size, 0, none⟩ = some (.int .i64 T) ∧ wq.cell? ⟨w.heap.size, 1, none⟩ = some (.int .i64 N) ∧ wq.cell? ⟨w.heap.size, 2, none⟩ = some (.slice (some ⟨b0, o0, none⟩) R.length rc) ∧ wq.cell? ⟨w.heap.size, 3, none⟩ = some (.int .i64 op) ∧ wq.cell? ⟨w.heap.size, 4, none⟩ = some (.int .i64 L) ∧ wq.cell? ⟨w.heap.size, 5, none⟩ = some (.int .i64 b) ∧ wq.cell? ⟨w.heap.size, 6, none⟩ = some (.int .i64 c)) ∧ wq.cell? ⟨rb, 1, none⟩ = some (.slice qa (n + 1) qc)) := fun wq hq => by
          refine ⟨HCell.out wq (HKd.out.next hq).box, ?_⟩
          have h1 := (hB2d.cell (World.block_lt_of_cell? _ _ HR.out.2)).trans HR.out.2
          exact (hq.cell (World.block_lt_of_cell? _ _ h1)).trans h1
        have HSd : Hid (∀ wq, Below Wd.heap.size Wd wq → SymsAt wq (.slice A n (qc - 1)) (l.drop 1)) := fun wq hq => by
          have h1 := HSy.out wq (hBd.trans (hq.mono hBd.size))
          rw [← HX.out.2.2] at h1
          exact h1.dropG (by rw [HX.out.2.2]; omega) HA'.out
        have S0 := HS.out Wd (Below.refl _ _)
        clear hB2 hB2d hBd x0 x1 x2 x3 x4 x5 x6 k1 k2 hW1 hrb
        refine wp_region_mix [0, 1, 2, 3, 6, 7, 8, 9] 7 14 (fun wq => (wq.cell? ⟨w.heap.size, 0, none⟩ = some (.int .i64 T) ∧ wq.cell? ⟨w.heap.size, 1, none⟩ = some (.int .i64 N) ∧ wq.cell? ⟨w.heap.size, 2, none⟩ = some (.slice (some ⟨b0, o0, none⟩) R.length rc) ∧ wq.cell? ⟨w.heap.size, 3, none⟩ = some (.int .i64 op) ∧ wq.cell? ⟨w.heap.size, 4, none⟩ = some (.int .i64 L) ∧ wq.cell? ⟨w.heap.size, 5, none⟩ = some (.int .i64 b) ∧ wq.cell? ⟨w.heap.size, 6, none⟩ = some (.int .i64 c)) ∧ wq.cell? ⟨rb, 1, none⟩ = some (.slice qa (n + 1) qc)) (by kernel_rfl) (by kernel_rfl) (by rw [hWd]; exact S0) ?_
        rw [hWd]
        clear hWd S0
        iterate 8
          refine StillI.con8 (v := ?_) rfl (by rfl) ?_ ?_
          rotate_left
          · intro w' hSw
            obtain ⟨⟨z0, z1, z2, z3, z4, z5, z6⟩, z7⟩ := hSw
            go_simp
            try with_reducible rfl
          simp only [Act.put, List.setIfInBounds_toArray, List.set_cons_zero, List.set_cons_succ]
        rw [StillI]
        refine TailC.two (i := 4) (i' := 10) (by kernel_rfl) ⟨_, rfl, fun K hK => ?_⟩ ⟨_, rfl, fun K hK => ?_⟩
        · have mo := st_more (w := Wd) (T := T) (N := N) (ra := some ⟨b0, o0, none⟩) (rn := R.length) (rc := rc) (op := op) (a := L) (b := b) (c := c)
          go_simp
          refine mo.mono ?_
          rintro e w3 ⟨rfl, hB3⟩
          dsimp only
          refine hK.out _ _ (fun _ => HS.out w3 hB3) ?_
          clear hK mo
          refine TailC.read (i := 5) (v := .int .i64 N) rfl (by kernel_rfl) (by rfl) (fun w' _ => by unfold execOp; go_simp; unfold Instr.field asAgg; go_simp) (HS.out w3 hB3) ?_
          simp only [Act.put, List.setIfInBounds_toArray, List.set_cons_zero, List.set_cons_succ]
          have hBz : Below Wd.heap.size Wd (w3.alloc (.cells #[.slice A n (qc - 1), .slice (some ⟨eb, 0, none⟩) 1 1] 41)) := hB3.alloc hB3.size _
          refine TailC.one (i := 10) (by kernel_rfl) ⟨_, rfl, fun K hK => ?_⟩
          go_simp
          refine hK.out _ _ (fun _ => HS.out _ hBz) ?_
          clear hK
          have pz0 : (w3.alloc (.cells #[.slice A n (qc - 1), .slice (some ⟨eb, 0, none⟩) 1 1] 41)).cell? ⟨w3.heap.size, 0, none⟩ = some (.slice A n (qc - 1)) := cell_of_blk (heap_alloc_new _ _) rfl
          have pz1 : (w3.alloc (.cells #[.slice A n (qc - 1), .slice (some ⟨eb, 0, none⟩) 1 1] 41)).cell? ⟨w3.heap.size, 1, none⟩ = some (.slice (some ⟨eb, 0, none⟩) 1 1) := cell_of_blk (heap_alloc_new _ _) rfl
          obtain ⟨pz, hpz⟩ : ∃ x, w3.heap.size = x := ⟨_, rfl⟩
          obtain ⟨wz, hwz⟩ : ∃ W, w3.alloc (.cells #[.slice A n (qc - 1), .slice (some ⟨eb, 0, none⟩) 1 1] 41) = W := ⟨_, rfl⟩
          rw [hwz] at hBz pz0 pz1 ⊢
          rw [hpz] at pz0 pz1 ⊢
          clear hwz hpz hB3
          have cc := cat2 (w := wz) (pb := pz) (va := .slice A n (qc - 1)) (vb := .slice (some ⟨eb, 0, none⟩) 1 1) (la := l.drop 1) (lb := [(false, (N : Int))]) pz0 pz1 (HSd.out wz hBz) (HKd.out.next hBz).ends (by rw [HLd.out]; simp only [List.length_singleton]; omega)
          rw [HLd.out] at cc
          simp only [List.length_singleton] at cc
          refine TailC.one (i := 11) (by kernel_rfl) ⟨_, rfl, fun K hK => ?_⟩
          go_simp
          refine cc.mono ?_
          rintro e w6 ⟨a6, d6, rfl, hown6, hB6⟩
          dsimp only
          have hB6' : Below Wd.heap.size Wd w6 := hBz.trans (hB6.mono hBz.size)
          refine hK.out _ _ (fun _ => HS.out _ hB6') ?_
          clear hK cc
          refine TailC.one (i := 12) (by kernel_rfl) ⟨_, rfl, fun K hK => ?_⟩
          go_simp
          refine hK.out _ _ (fun _ => HS.out _ hB6') ?_
          clear hK
          refine TailC.one (i := 13) (by kernel_rfl) ⟨_, rfl, fun K hK => ?_⟩
          go_simp
          refine hK.out _ _ (fun _ => HS.out _ hB6') ?_
          clear hK
          have hK6 := HKd.out.next hB6'
          have HK6 : Hid (OL w cs (some ⟨b0, o0, none⟩) rc R N L g cap eb k RK w6) := hK6
          obtain ⟨u, hu⟩ : ∃ u, (flatR RK)[k * 2]? = some u := ⟨_, List.getElem?_eq_getElem (by rw [flatR_len, hK6.len]; omega)⟩
          obtain ⟨u', hu'⟩ : ∃ u, (flatR RK)[k * 2 + 1]? = some u := ⟨_, List.getElem?_eq_getElem (by rw [flatR_len, hK6.len]; omega)⟩
          have c60 : w6.cell? ⟨g, k * 2, none⟩ = some u := (hK6.rl.own.cellAt (k * 2) (by rw [hK6.len]; omega)).trans hu
          have c61 : w6.cell? ⟨g, k * 2 + 1, none⟩ = some u' := (hK6.rl.own.cellAt (k * 2 + 1) (by rw [hK6.len]; omega)).trans hu'
          have f60 : w6.frozen? ⟨g, k * 2, none⟩ = false := hK6.rl.own.frozenAt (k * 2)
          have f61 : w6.frozen? ⟨g, k * 2 + 1, none⟩ = false := hK6.rl.own.frozenAt (k * 2 + 1)
          refine TailC.last (i := 14) (by kernel_rfl) ⟨_, rfl, fun K hK => ?_⟩
          go_simp
          refine hK.out _ _ (fun h => absurd h (by omega)) (NoPanic.normal ?_)
          have HO6 : Hid (w6.ownsRow wz.heap.size 52 2 (.slice a6 (n + 1) d6) (n + 1) (flatY (l.drop 1 ++ [(false, (N : Int))]))) := hown6
          have HBz : Hid (Below Wd.heap.size Wd wz ∧ Below Wd.heap.size Wd w6) := ⟨hBz, hB6'⟩
          clear hK hown6 hB6 hB6' hK6 hu hu' pz0 pz1 hBz c60 c61 f60 f61
          go_wp2_with fail
          go_roundw
          case rel =>
            have hkk : k < RK.length := by rw [HK6.out.len]; exact hlt
            have hll : (l.drop 1 ++ [(false, (N : Int))]).length = n + 1 := by rw [List.length_append, HLd.out]; rfl
            have hlo : Wd.heap.size ≤ wz.heap.size := HBz.out.1.size
            have hgl : g < Wd.heap.size := (HKd.out.rl.own.lt g rfl).2
            have hgs := HKd.out.glo
            have hsy6 : SyHas w6 (fun b => w.heap.size + 2 ≤ b ∧ b ≠ g) (.slice a6 (n + 1) d6) (l.drop 1 ++ [(false, (N : Int))]) := by
              have := HO6.out
              rw [← hll] at this ⊢
              exact (own_syIn this).kept (Nat.le_refl _) fun b hA _ => ⟨rfl, by have := hA.2; omega, by have := hA.2; omega⟩
            have hS := HK6.out.rl.setB (k := k) hkk N hsy6
            refine ⟨k + 1, _, by go_num, by omega, HKd.out.set HBz.out.2 (fun b hb => by rw [Below.heap_setCell _ _ _ _ hb, Below.heap_setCell _ _ _ _ hb]) (by simp) rfl rfl rfl hS (by rw [List.length_set]) ?_⟩
            refine HK6.out.mapSet hlt ?_
            rw [HX.out.2.1]
            unfold leOne
            rw [if_pos rfl, HOw.out, if_pos rfl]
          case measure => simp [intOf]; omega
        · have hBy : Below Wd.heap.size Wd (Wd.alloc (.cells #[.slice A n (qc - 1), .slice (some ⟨eb, 0, none⟩) 1 1] 41)) := (Below.refl _ _).alloc (Nat.le_refl _) _
          go_simp
          refine hK.out _ _ (fun _ => HS.out _ hBy) ?_
          clear hK
          have py0 : (Wd.alloc (.cells #[.slice A n (qc - 1), .slice (some ⟨eb, 0, none⟩) 1 1] 41)).cell? ⟨Wd.heap.size, 0, none⟩ = some (.slice A n (qc - 1)) := cell_of_blk (heap_alloc_new _ _) rfl
          have py1 : (Wd.alloc (.cells #[.slice A n (qc - 1), .slice (some ⟨eb, 0, none⟩) 1 1] 41)).cell? ⟨Wd.heap.size, 1, none⟩ = some (.slice (some ⟨eb, 0, none⟩) 1 1) := cell_of_blk (heap_alloc_new _ _) rfl
          obtain ⟨pz, hpz⟩ : ∃ x, Wd.heap.size = x := ⟨_, rfl⟩
          obtain ⟨wy, hwy⟩ : ∃ W, Wd.alloc (.cells #[.slice A n (qc - 1), .slice (some ⟨eb, 0, none⟩) 1 1] 41) = W := ⟨_, rfl⟩
          rw [hwy] at hBy py0 py1 ⊢
          rw [hpz] at py0 py1 ⊢
          clear hwy hpz
          have mo := st_more (w := wy) (T := T) (N := N) (ra := some ⟨b0, o0, none⟩) (rn := R.length) (rc := rc) (op := op) (a := L) (b := b) (c := c)
          refine TailC.one (i := 4) (by kernel_rfl) ⟨_, rfl, fun K hK => ?_⟩
          go_simp
          refine mo.mono ?_
          rintro e wz ⟨rfl, hB3⟩
          dsimp only
          have hBz : Below Wd.heap.size Wd wz := hBy.trans (hB3.mono hBy.size)
          have pz0 := (hB3.cell (World.block_lt_of_cell? _ _ py0)).trans py0
          have pz1 := (hB3.cell (World.block_lt_of_cell? _ _ py1)).trans py1
          refine hK.out _ _ (fun _ => HS.out wz hBz) ?_
          clear hK mo
          refine TailC.read (i := 5) (v := .int .i64 N) rfl (by kernel_rfl) (by rfl) (fun w' _ => by unfold execOp; go_simp; unfold Instr.field asAgg; go_simp) (HS.out wz hBz) ?_
          simp only [Act.put, List.setIfInBounds_toArray, List.set_cons_zero, List.set_cons_succ]
          clear hB3 hBy py0 py1
          have cc := cat2 (w := wz) (pb := pz) (va := .slice A n (qc - 1)) (vb := .slice (some ⟨eb, 0, none⟩) 1 1) (la := l.drop 1) (lb := [(false, (N : Int))]) pz0 pz1 (HSd.out wz hBz) (HKd.out.next hBz).ends (by rw [HLd.out]; simp only [List.length_singleton]; omega)
          rw [HLd.out] at cc
          simp only [List.length_singleton] at cc
          refine TailC.one (i := 11) (by kernel_rfl) ⟨_, rfl, fun K hK => ?_⟩
          go_simp
          refine cc.mono ?_
          rintro e w6 ⟨a6, d6, rfl, hown6, hB6⟩
          dsimp only
          have hB6' : Below Wd.heap.size Wd w6 := hBz.trans (hB6.mono hBz.size)
          refine hK.out _ _ (fun _ => HS.out _ hB6') ?_
          clear hK cc
          refine TailC.one (i := 12) (by kernel_rfl) ⟨_, rfl, fun K hK => ?_⟩
          go_simp
          refine hK.out _ _ (fun _ => HS.out _ hB6') ?_
          clear hK
          refine TailC.one (i := 13) (by kernel_rfl) ⟨_, rfl, fun K hK => ?_⟩
          go_simp
          refine hK.out _ _ (fun _ => HS.out _ hB6') ?_
          clear hK
          have hK6 := HKd.out.next hB6'
          have HK6 : Hid (OL w cs (some ⟨b0, o0, none⟩) rc R N L g cap eb k RK w6) := hK6
          obtain ⟨u, hu⟩ : ∃ u, (flatR RK)[k * 2]? = some u := ⟨_, List.getElem?_eq_getElem (by rw [flatR_len, hK6.len]; omega)⟩
          obtain ⟨u', hu'⟩ : ∃ u, (flatR RK)[k * 2 + 1]? = some u := ⟨_, List.getElem?_eq_getElem (by rw [flatR_len, hK6.len]; omega)⟩
          have c60 : w6.cell? ⟨g, k * 2, none⟩ = some u := (hK6.rl.own.cellAt (k * 2) (by rw [hK6.len]; omega)).trans hu
          have c61 : w6.cell? ⟨g, k * 2 + 1, none⟩ = some u' := (hK6.rl.own.cellAt (k * 2 + 1) (by rw [hK6.len]; omega)).trans hu'
          have f60 : w6.frozen? ⟨g, k * 2, none⟩ = false := hK6.rl.own.frozenAt (k * 2)
          have f61 : w6.frozen? ⟨g, k * 2 + 1, none⟩ = false := hK6.rl.own.frozenAt (k * 2 + 1)
          refine TailC.last (i := 14) (by kernel_rfl) ⟨_, rfl, fun K hK => ?_⟩
          go_simp
          refine hK.out _ _ (fun h => absurd h (by omega)) (NoPanic.normal ?_)
          have HO6 : Hid (w6.ownsRow wz.heap.size 52 2 (.slice a6 (n + 1) d6) (n + 1) (flatY (l.drop 1 ++ [(false, (N : Int))]))) := hown6
          have HBz : Hid (Below Wd.heap.size Wd wz ∧ Below Wd.heap.size Wd w6) := ⟨hBz, hB6'⟩
          clear hK hown6 hB6 hB6' hK6 hu hu' pz0 pz1 hBz c60 c61 f60 f61
          go_wp2_with fail
          go_roundw
          case rel =>
            have hkk : k < RK.length := by rw [HK6.out.len]; exact hlt
            have hll : (l.drop 1 ++ [(false, (N : Int))]).length = n + 1 := by rw [List.length_append, HLd.out]; rfl
            have hlo : Wd.heap.size ≤ wz.heap.size := HBz.out.1.size
            have hgl : g < Wd.heap.size := (HKd.out.rl.own.lt g rfl).2
            have hgs := HKd.out.glo
            have hsy6 : SyHas w6 (fun b => w.heap.size + 2 ≤ b ∧ b ≠ g) (.slice a6 (n + 1) d6) (l.drop 1 ++ [(false, (N : Int))]) := by
              have := HO6.out
              rw [← hll] at this ⊢
              exact (own_syIn this).kept (Nat.le_refl _) fun b hA _ => ⟨rfl, by have := hA.2; omega, by have := hA.2; omega⟩
            have hS := HK6.out.rl.setB (k := k) hkk N hsy6
            refine ⟨k + 1, _, by go_num, by omega, HKd.out.set HBz.out.2 (fun b hb => by rw [Below.heap_setCell _ _ _ _ hb, Below.heap_setCell _ _ _ _ hb]) (by simp) rfl rfl rfl hS (by rw [List.length_set]) ?_⟩
            refine HK6.out.mapSet hlt ?_
            rw [HX.out.2.1]
            unfold leOne
            rw [if_pos rfl, HOw.out, if_pos rfl]
          case measure => simp [intOf]; omega
      | false =>
        rw [hbe] at be
        have HBe : Hid (ownA a (L, l) = false) := hbe
        clear hbe
        by_cases hLa : L = a
        · subst hLa
          have e1 : (L == L) = true := by simp
          go_wp2_with
            (first
             | (go_at_call 39; refine be.mono ?_; rintro e w2 ⟨rfl, hB2⟩; clear be
                have hB2' : Below wr.heap.size wr w2 := HB1.out.trans (hB2.mono HB1.out.size)
                have c4 := (HCell.out w2 (HK.out.next hB2').box).2.2.2.2.1
                have c0 := (hB2.cell (World.block_lt_of_cell? _ _ HR.out.1)).trans HR.out.1
                have c1 := (hB2.cell (World.block_lt_of_cell? _ _ HR.out.2)).trans HR.out.2
                have hB3 : Below w2.heap.size w2 (w2.alloc (.cells #[.slice qa n qc, .slice (some ⟨eb, 0, none⟩) 1 1] 41)) := (Below.refl _ _).alloc (Nat.le_refl _) _
                have hB3' := hB2'.trans (hB3.mono hB2'.size)
                have cc := cat2 (w := w2.alloc (.cells #[.slice qa n qc, .slice (some ⟨eb, 0, none⟩) 1 1] 41)) (pb := w2.heap.size) (va := .slice qa n qc) (vb := .slice (some ⟨eb, 0, none⟩) 1 1) (la := l) (lb := [(false, (N : Int))]) (cell_of_blk (heap_alloc_new _ _) rfl) (cell_of_blk (heap_alloc_new _ _) rfl) (HSy.out _ hB3') (HK.out.next hB3').ends (by rw [HX.out.2.2]; simp only [List.length_singleton]; omega)
                rw [HX.out.2.2] at cc
                simp only [List.length_singleton] at cc
                have HB3 : Hid (Below wr.heap.size wr (w2.alloc (.cells #[.slice qa n qc, .slice (some ⟨eb, 0, none⟩) 1 1] 41))) := hB3'
                clear hB2 hB2' hB3 hB3')
             | (go_at_call 85; refine cc.mono ?_; rintro e w6 ⟨a6, d6, rfl, hown6, hB6⟩; clear cc
                have HB6 : Hid (Below wr.heap.size wr w6) := HB3.out.trans (hB6.mono HB3.out.size)
                have hK6 := HK.out.next HB6.out
                have HK6 : Hid (OL w cs (some ⟨b0, o0, none⟩) rc R N L g cap eb k RK w6) := hK6
                obtain ⟨u, hu⟩ : ∃ u, (flatR RK)[k * 2 + 1]? = some u := ⟨_, List.getElem?_eq_getElem (by rw [flatR_len, hK6.len]; omega)⟩
                have c6 : w6.cell? ⟨g, k * 2 + 1, none⟩ = some u := (hK6.rl.own.cellAt (k * 2 + 1) (by rw [hK6.len]; omega)).trans hu
                have f6 : w6.frozen? ⟨g, k * 2 + 1, none⟩ = false := hK6.rl.own.frozenAt (k * 2 + 1)
                have HO6 : Hid (w6.ownsRow (w2.alloc (.cells #[.slice qa n qc, .slice (some ⟨eb, 0, none⟩) 1 1] 41)).heap.size 52 2 (.slice a6 (n + 1) d6) (n + 1) (flatY (l ++ [(false, (N : Int))]))) := hown6
                clear hB6 hK6 hown6 hu))
          go_roundw
          case rel =>
            have hkk : k < RK.length := by rw [HK6.out.len]; exact hlt
            have hll : (l ++ [(false, (N : Int))]).length = n + 1 := by rw [List.length_append, HX.out.2.2]; rfl
            have hlo : wr.heap.size ≤ (w2.alloc (.cells #[.slice qa n qc, .slice (some ⟨eb, 0, none⟩) 1 1] 41)).heap.size := HB3.out.size
            have hgl : g < wr.heap.size := (HK.out.rl.own.lt g rfl).2
            have hgs := HK.out.glo
            have hsy6 : SyHas w6 (fun b => w.heap.size + 2 ≤ b ∧ b ≠ g) (.slice a6 (n + 1) d6) (l ++ [(false, (N : Int))]) := by
              have := HO6.out
              rw [← hll] at this ⊢
              exact (own_syIn this).kept (Nat.le_refl _) fun b hA _ => ⟨rfl, by have := hA.2; omega, by have := hA.2; omega⟩
            have hS := HK6.out.rl.setS (k := k) hkk hsy6
            rw [HK6.out.here hlt hkk, HX.out.2.1] at hS
            refine ⟨k + 1, _, by go_num, by omega, HK.out.set HB6.out (fun b hb => Below.heap_setCell _ _ _ _ hb) (by simp) rfl rfl rfl hS (by rw [List.length_set]) ?_⟩
            refine HK6.out.mapSet hlt ?_
            rw [HX.out.2.1]
            unfold leOne
            have hnO : ownR (L, l) = false := by
              have := HBe.out
              unfold ownA at this
              simpa using this
            rw [if_pos rfl, hnO]
            rfl
          case measure => simp [intOf]; omega
        · have e1 : (L == a) = false := by simpa using hLa
          go_wp2_with
            (go_at_call 39; refine be.mono ?_; rintro e w2 ⟨rfl, hB2⟩; clear be
             have hB2' : Below wr.heap.size wr w2 := HB1.out.trans (hB2.mono HB1.out.size)
             have c4 := (HCell.out w2 (HK.out.next hB2').box).2.2.2.2.1
             have c0 := (hB2.cell (World.block_lt_of_cell? _ _ HR.out.1)).trans HR.out.1
             clear hB2)
          go_roundw
          case rel =>
            have hK2 := HK.out.next hB2'
            refine ⟨k + 1, RK, by go_num, by omega, hK2.box, hK2.rl, hK2.len, ?_, hK2.endB, hK2.ne, hK2.glo⟩
            rw [hK2.map]
            refine walk_same hlt ?_
            rw [HX.out.2.1]
            unfold leOne
            rw [if_neg hLa]
          case measure => simp [intOf]; omega
    · have hkk : k = R.length := by omega
      have mo := st_more (w := wr) (T := T) (N := N) (ra := some ⟨b0, o0, none⟩) (rn := R.length) (rc := rc) (op := op) (a := a) (b := b) (c := c)
      obtain ⟨x0, x1, x2, x3, x4, x5, x6⟩ := HCell.out wr hK.box
      have HKk : Hid (k = R.length) := hkk
      have hfd := fun w => sy_field1 (t := false) (v := (N : Int)) w
      clear hK hkk
      go_wp2_with
        (first
         | (go_at_call 86; refine mo.mono ?_; rintro e w3 ⟨rfl, hB3⟩; clear mo
            have hB4 : Below wr.heap.size wr (w3.alloc (.cells #[.int .i64 N, .slice none 0 0] 44)) := hB3.alloc hB3.size _
            have hrow : RowAt (w3.alloc (.cells #[.int .i64 N, .slice none 0 0] 44)) (.slice (some ⟨w3.heap.size, 0, none⟩) 1 1) 1 [.int .i64 N, .slice none 0 0] := rule_row
            have own4 := (HK.out.next hB4).rl.own
            rw [HK.out.len] at own4
            have hb4 : w.heap.size + 2 ≤ (w3.alloc (.cells #[.int .i64 N, .slice none 0 0] 44)).heap.size := Nat.le_trans HK.out.box.size hB4.size
            have hl4 : R.length + 1 ≤ 100000 := by omega
            have HB4 : Hid (Below wr.heap.size wr (w3.alloc (.cells #[.int .i64 N, .slice none 0 0] 44))) := hB4
            clear hB3 hB4)
         | (at_builtin
            refine wpList_append_ccR rfl _ _ rfl rfl rfl rfl own4 hrow hb4 hl4 ?_
            intro a' d' w6 hown6 hgrow hat
            have hB6 : Below (w.heap.size + 2) wr w6 := (HB4.out.mono HK.out.box.size).grown hgrow hb4 fun k hk => (own4.lt k hk).1
            have hC6 := HK.out.box.later hB6
            have hFin : RlIn w6 (w.heap.size + 2) (.slice a' (R.length + 1) d') (RK ++ [(.slice none 0 0, ((N : Int), []))]) := by
              refine HK.out.rl.pushG (w5 := w3.alloc (.cells #[.int .i64 N, .slice none 0 0] 44)) HK.out.box.size HB4.out (World.ownsRow_nil _ _ _ _) hgrow ?_ ?_
              · rw [flatR_push, HK.out.len]
                exact hown6
              · intro g hg
                exact (hat g hg).imp id fun e => by omega
            obtain ⟨y0, y1, y2, y3, y4, y5, y6⟩ := HCell.out w6 hC6
            have HC6 : Hid (CBox w cs 90 (some ⟨b0, o0, none⟩) rc R w6) := hC6
            have HF : Hid (RlIn w6 (w.heap.size + 2) (.slice a' (R.length + 1) d') (RK ++ [(.slice none 0 0, ((N : Int), []))])) := hFin
            have wi := st_with (w := w6) (T := T) (N := N) (ra := some ⟨b0, o0, none⟩) (rn := R.length) (rc := rc) (op := op) (a := a) (b := b) (c := c) (M := (N : Int) + 1) (oa := a') (on := R.length + 1) (oc := d')
            clear hrow own4 hb4 hown6 hgrow hat hB6 hC6 hFin x0 x1 x2 x3 x4 x5 x6)
         | (go_at_call 78; refine wi.mono ?_; rintro e w7 ⟨rfl, hB7⟩
            have HC9 : Hid (CBox w cs 90 (some ⟨b0, o0, none⟩) rc R w7) := HC6.out.next hB7
            have HR9 : Hid (RlIn w7 (w.heap.size + 2) (.slice a' (R.length + 1) d') (RK ++ [(.slice none 0 0, ((N : Int), []))])) := HF.out.below hB7
            have z0 := HC9.out.y0
            have z1 := HC9.out.y1
            have z2 := HC9.out.y2
            have zf0 := HC9.out.yf 0
            have zf1 := HC9.out.yf 1
            have zf2 := HC9.out.yf 2
            clear wi hB7 y0 y1 y2 y3 y4 y5 y6))
      have q0 := box3_0 (v0 := .int .i64 T) (v1 := .int .i64 (N + 1)) (v2 := .slice a' (R.length + 1) d') z0
      have q1 := box3_1 (v0 := .int .i64 T) (v1 := .int .i64 (N + 1)) (v2 := .slice a' (R.length + 1) d') z1
      have q2 := box3_2 (v0 := .int .i64 T) (v1 := .int .i64 (N + 1)) (v2 := .slice a' (R.length + 1) d') z2
      refine bodyPost_ret (v := .agg #[.int .i64 T, .int .i64 (N + 1), .slice a' (R.length + 1) d']) (by simp [results, Try.results99, go_sem, q0, q1, q2]) rfl ?_
      have ho := HC9.out.out HR9.out (.int .i64 T) (.int .i64 (N + 1)) (.slice a' (R.length + 1) d')
      refine ⟨_, _, rfl, ho.1, ?_, ho.2⟩
      rw [List.map_append, HK.out.map, HKk.out]
      simp

end Go.Proofs.Ytikjekfpgklbdaa

/- The contract of package step's taken: what is wrong. What comes of a change, whatever it is. -/
namespace Go.Proofs.Ytikjekfpgklbdaa
open Go.RowKit

theorem map_cast_getD {IX : List Nat} {k : Nat} (hk : k < IX.length) : (IX.map fun (n : Nat) => (n : Int)).getD k 0 = ((IX.getD k 0 : Nat) : Int) := by simp [List.getD, hk]

section
variable {w : World} {T N : Nat} {ra : Option Addr} {rc : Nat} {R : List Ru} {s : Stp} {cv : Value}

/-- A change's outcome is asked by its own method. -/
theorem chg_out {B : Nat} (hc : ChgAt w B T N ra rc R s cv) (hr : RulesAt w w.heap.size (.slice ra R.length rc) R) (hm : mayB T N R = true) (hs : stepB N R s = true) :
    ∃ ty v fn, cv = .iface ty v ∧ (∀ n w', (method (n + 1) ty v "pollarding/step.outcome").run Try.prog w' = .ok (fn, v) w') ∧ (∀ args w', (callFunc fn args).run Try.prog w' = .ok (.enter fn args) w') ∧
      Calls Try.prog fn #[v] w fun e w' => ∃ lv RL, e = .returned (.agg #[.int .i64 T, .int .i64 (doN N s : Nat), lv]) ∧ RlIn w' w.heap.size lv RL ∧ (RL.map fun x => x.2) = doR N R s ∧ Below w.heap.size w w' := by
  obtain ⟨hT, hN1, hN, hRl, h5⟩ := may_fine hm
  have hl2 : ∀ q, q < R.length → (R.getD q (0, [])).2.length ≤ 1000 := fun q hq => by have := (h5 q hq).2.2.1; omega
  obtain ⟨op, a, b, c⟩ := s
  by_cases h1 : op = 1
  · subst h1
    refine ⟨_, _, 74, hc.swap rfl, fun n w' => by kernel_rfl, fun args w' => by simp [callFunc, Try.func74, Try.f74 ], ?_⟩
    refine (st_outS hr (by omega) hl2).mono ?_
    rintro e w' ⟨lv, RL, rfl, h1, h2, h3⟩
    exact ⟨lv, RL, rfl, h1, by rw [h2]; exact doR_swap, h3⟩
  by_cases h2 : op = 2
  · subst h2
    have hst : (0 ≤ a ∧ a < (R.length : Int) ∧ 0 ≤ b ∧ b < c ∧ c ≤ ((R.getD a.toNat (0, [])).2.length : Int)) := by
      unfold stepB at hs
      simp only at hs
      rw [if_neg (by decide), if_pos trivial] at hs
      simp only [Bool.and_eq_true, decide_eq_true_eq] at hs
      exact ⟨hs.1.1.1.1, hs.1.1.1.2, hs.1.1.2, hs.1.2, hs.2⟩
    refine ⟨_, _, 82, hc.extract rfl, fun n w' => by kernel_rfl, fun args w' => by simp [callFunc, Try.func82, Try.f82 ], ?_⟩
    obtain ⟨ka, rfl⟩ : ∃ x : Nat, a = x := ⟨a.toNat, by omega⟩
    obtain ⟨bn, rfl⟩ : ∃ x : Nat, b = x := ⟨b.toNat, by omega⟩
    obtain ⟨cn, rfl⟩ : ∃ x : Nat, c = x := ⟨c.toNat, by omega⟩
    simp only [Int.toNat_natCast] at hst
    obtain ⟨⟨L, l⟩, hx⟩ : ∃ x, R.getD ka (0, []) = x := ⟨_, rfl⟩
    rw [hx] at hst
    simp only at hst
    refine (st_outE (m := l.length - cn) hr (by omega) hl2 (by omega) (by omega) hx (by omega) (by omega)).mono ?_
    rintro e w' ⟨lv, RL, rfl, h1, h2, h3⟩
    exact ⟨lv, RL, rfl, h1, by rw [h2]; exact doR_extract hx, h3⟩
  by_cases h3 : op = 3
  · subst h3
    have hst : (0 ≤ a ∧ a < (R.length : Int) ∧ 0 ≤ b ∧ b < ((R.getD a.toNat (0, [])).2.length : Int) ∧ c = 0 ∧ ((R.getD a.toNat (0, [])).2.getD b.toNat (false, 0)).1 = false) := by
      unfold stepB at hs
      simp only at hs
      rw [if_neg (by decide), if_neg (by decide), if_pos trivial] at hs
      simp only [Bool.and_eq_true, decide_eq_true_eq, Bool.not_eq_true', decide_eq_false_iff_not] at hs
      obtain ⟨⟨⟨⟨⟨⟨h1, h2⟩, h3⟩, h4⟩, h5⟩, h6⟩, h7⟩ := hs
      exact ⟨h1, h2, h3, h4, h5, h6⟩
    obtain ⟨ov, hcv, hLo⟩ := hc.inline rfl
    have hL := own_listI hLo
    obtain ⟨oa, oc, hov⟩ := hL.1
    subst hov
    clear hLo
    refine ⟨_, _, 91, hcv, fun n w' => by kernel_rfl, fun args w' => by simp [callFunc, Try.func91, Try.f91 ], ?_⟩
    obtain ⟨ka, rfl⟩ : ∃ x : Nat, a = x := ⟨a.toNat, by omega⟩
    obtain ⟨bn, rfl⟩ : ∃ x : Nat, b = x := ⟨b.toNat, by omega⟩
    obtain ⟨rfl⟩ : c = 0 := hst.2.2.2.2.1
    simp only [Int.toNat_natCast] at hst
    obtain ⟨⟨L, l⟩, hx⟩ : ∃ x, R.getD ka (0, []) = x := ⟨_, rfl⟩
    rw [hx] at hst
    simp only at hst
    obtain ⟨⟨t, X⟩, hX⟩ : ∃ x, l.getD bn (false, 0) = x := ⟨_, rfl⟩
    rw [hX] at hst
    obtain ⟨rfl⟩ : t = false := hst.2.2.2.2.2
    have hix : idxW R ⟨3, ka, bn, 0⟩ = idxF (fun k => decide ((R.getD k (0, [])).1 = X)) R.length := by
      unfold idxW ruW
      simp only [Int.toNat_natCast, hx, hX]
    rw [hix] at hL ⊢
    refine (st_outI (m := l.length - (bn + 1)) hr (by omega) hl2 (by omega) hx (by omega) hL (fun k hk => ?_) (by have := idxF_len (fun k => decide ((R.getD k (0, [])).1 = X)) R.length; rw [List.length_map]; omega)).mono ?_
    · have hk' : k < (idxF (fun k => decide ((R.getD k (0, [])).1 = X)) R.length).length := by simpa using hk
      have hlt := idxF_lt hk'
      rw [map_cast_getD hk']
      omega
    · rintro e w' ⟨lv, RL, rfl, h1, h2, h3⟩
      exact ⟨lv, RL, rfl, h1, by rw [h2]; exact doR_inline (by omega) hx hX, h3⟩
  by_cases h4 : op = 4
  · subst h4
    have h0 : 0 < R.length := by
      unfold stepB at hs
      simp only at hs
      rw [if_neg (by decide), if_neg (by decide), if_neg (by decide), if_pos trivial] at hs
      simp only [Bool.and_eq_true, leftB, List.any_eq_true] at hs
      obtain ⟨_, ⟨r, hr, _⟩, _⟩ := hs
      exact List.length_pos_of_mem hr
    refine ⟨_, _, 99, hc.left rfl, fun n w' => by kernel_rfl, fun args w' => by simp [callFunc, Try.func99, Try.f99 ], ?_⟩
    refine (st_outL hr h0 (by omega) hl2 (by omega)).mono ?_
    rintro e w' ⟨lv, RL, rfl, h1, h2, h3⟩
    exact ⟨lv, RL, rfl, h1, by rw [h2]; exact doR_left, h3⟩
  by_cases h5 : op = 5
  · subst h5
    obtain ⟨ov, hcv, hLo⟩ := hc.prune rfl
    have hL := own_listI hLo
    obtain ⟨oa, oc, hov⟩ := hL.1
    subst hov
    clear hLo
    refine ⟨_, _, 103, hcv, fun n w' => by kernel_rfl, fun args w' => by simp [callFunc, Try.func103, Try.f103 ], ?_⟩
    refine (st_outP hr hl2 hL (fun k hk => ?_) (by have := idxF_len (fun k => needB N R (R.getD k (0, []))) R.length; rw [List.length_map]; omega)).mono ?_
    · have hk' : k < (idxF (fun k => needB N R (R.getD k (0, []))) R.length).length := by simpa using hk
      have hlt := idxF_lt hk'
      rw [map_cast_getD hk']
      omega
    · rintro e w' ⟨lv, RL, rfl, h1, h2, h3⟩
      exact ⟨lv, RL, rfl, h1, by rw [h2]; exact doR_prune, h3⟩
  · exfalso
    unfold stepB at hs
    simp [h1, h2, h3, h4, h5] at hs
end

end Go.Proofs.Ytikjekfpgklbdaa
