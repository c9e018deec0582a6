/- The contract of package step's (inline).outcome. -/
import Derived.Test.YtikjekfpgklbdaaStCatAndStepEx
namespace Go.Proofs.Ytikjekfpgklbdaa
open Go.RowKit

set_option maxRecDepth 100000 in
set_option maxHeartbeats 12800000 in
theorem st_outI {w : World} {T : Int} {N ka bn m : Nat} {ra : Option Addr} {rc : Nat} {op c at_ : Int} {R : List Ru} {L : Int} {l : List Sy} {sv : Value} {CH : List Int} (hr : RulesAt w w.heap.size (.slice ra R.length rc) R) (hl : R.length ≤ 1000) (hl2 : ∀ q, q < R.length → (R.getD q (0, [])).2.length ≤ 1000) (hk : ka < R.length) (hx : R.getD ka (0, []) = (L, l)) (hcl : l.length = bn + 1 + m)
    (hS : ListAt w w.heap.size sv CH) (hCH : ∀ k, k < CH.length → 0 ≤ CH.getD k 0 ∧ CH.getD k 0 < (R.length : Int)) (hc : CH.length ≤ 1000) :
    Calls Try.prog 91 #[.agg #[.int .i64 T, .int .i64 N, .slice ra R.length rc, .int .i64 op, .int .i64 ka, .int .i64 bn, .int .i64 c, sv, .int .i64 at_]] w fun e w' => ∃ lv RL, e = .returned (.agg #[.int .i64 T, .int .i64 N, lv]) ∧ RlIn w' w.heap.size lv RL ∧ (RL.map fun x => x.2) = R.take ka ++ CH.map (fun i => (L, l.take bn ++ (R.getD i.toNat (0, [])).2 ++ l.drop (bn + 1))) ++ R.drop (ka + 1) ∧ Below w.heap.size w w' := by
  obtain ⟨sa, sc, hsv⟩ := hS.1
  subst hsv
  obtain ⟨cs, hcs⟩ : ∃ cs : Array Value, #[.int .i64 T, .int .i64 N, .slice ra R.length rc, .int .i64 op, .int .i64 ka, .int .i64 bn, .int .i64 c, .slice sa CH.length sc, .int .i64 at_] = cs := ⟨_, rfl⟩
  have hC0 : CBox w cs 89 ra rc R ((w.alloc (.cells cs 89)).alloc (.cells #[.int .i64 0, .int .i64 0, .slice none 0 0] 24)) := cbox_start hr
  rw [← hcs] at hC0
  obtain ⟨W0, hW0⟩ : ∃ W, (w.alloc (.cells #[.int .i64 T, .int .i64 N, .slice ra R.length rc, .int .i64 op, .int .i64 ka, .int .i64 bn, .int .i64 c, .slice sa CH.length sc, .int .i64 at_] 89)).alloc (.cells #[.int .i64 0, .int .i64 0, .slice none 0 0] 24) = W := ⟨_, rfl⟩
  rw [hW0, hcs] at hC0
  have HCS : Hid (#[.int .i64 T, .int .i64 N, .slice ra R.length rc, .int .i64 op, .int .i64 ka, .int .i64 bn, .int .i64 c, .slice sa CH.length sc, .int .i64 at_] = cs) := hcs
  have HCell : Hid (∀ wq, CBox w cs 89 ra rc R wq → wq.cell? ⟨w.heap.size, 0, none⟩ = some (.int .i64 T) ∧ wq.cell? ⟨w.heap.size, 1, none⟩ = some (.int .i64 N) ∧ wq.cell? ⟨w.heap.size, 2, none⟩ = some (.slice ra R.length rc) ∧ wq.cell? ⟨w.heap.size, 3, none⟩ = some (.int .i64 op) ∧ wq.cell? ⟨w.heap.size, 4, none⟩ = some (.int .i64 ka) ∧ wq.cell? ⟨w.heap.size, 5, none⟩ = some (.int .i64 bn) ∧ wq.cell? ⟨w.heap.size, 6, none⟩ = some (.int .i64 c) ∧ wq.cell? ⟨w.heap.size, 7, none⟩ = some (.slice sa CH.length sc)) := fun wq hq => by
    refine ⟨hq.cell ?_, hq.cell ?_, hq.cell ?_, hq.cell ?_, hq.cell ?_, hq.cell ?_, hq.cell ?_, hq.cell ?_⟩ <;> (rw [← HCS.out]; rfl)
  obtain ⟨x0, x1, x2, x3, x4, x5, x6, x7⟩ := HCell.out W0 hC0
  obtain ⟨b0, o0, rc0, qa, qc, hv, _, k1, k2, hsy⟩ := hC0.rules.syms hk
  cases hv
  have hn8 := hl2 ka hk
  rw [hx] at k1 k2 hsy hn8
  simp only at k1 k2 hsy hn8
  have hqc : l.length ≤ qc := by obtain ⟨_, _, hv, hle⟩ := hsy.1; cases hv; exact hle
  obtain ⟨ad, rfl⟩ := hsy.someG (by omega)
  rw [hcl] at k2 hn8 hqc
  obtain ⟨W1, hW1⟩ : ∃ W, W0.alloc (.cells #[.int .i64 L, .slice (some ad) (bn + 1 + m) qc] 44) = W := ⟨_, rfl⟩
  obtain ⟨rb, hrb⟩ : ∃ x, W0.heap.size = x := ⟨_, rfl⟩
  have hB1 : Below W0.heap.size W0 W1 := by rw [← hW1]; exact (Below.refl _ _).alloc (Nat.le_refl _) _
  have HB1 : Hid (Below W0.heap.size W0 W1) := hB1
  have r0 : W1.cell? ⟨rb, 0, none⟩ = some (.int .i64 L) := by rw [← hW1, ← hrb]; exact cell_of_blk (heap_alloc_new _ _) rfl
  have r1 : W1.cell? ⟨rb, 1, none⟩ = some (.slice (some ad) (bn + 1 + m) qc) := by rw [← hW1, ← hrb]; exact cell_of_blk (heap_alloc_new _ _) rfl
  have hC1 := hC0.next hB1
  have HW : Hid (CBox w cs 89 (some ⟨b0, o0, none⟩) rc R W1 ∧ W1.cell? ⟨rb, 0, none⟩ = some (.int .i64 L) ∧ W1.cell? ⟨rb, 1, none⟩ = some (.slice (some ad) (bn + 1 + m) qc) ∧ rb < W1.heap.size ∧ SymsAt W1 (.slice (some ad) (bn + 1 + m) qc) l ∧ w.heap.size + 2 ≤ W1.heap.size) := by
    refine ⟨hC1, r0, r1, World.block_lt_of_cell? _ _ r0, ?_, hC1.size⟩
    have := hsy.same (same_below hB1)
    rw [hcl] at this
    exact this
  have HS : Hid (∀ wq, CBox w cs 89 (some ⟨b0, o0, none⟩) rc R wq → ListAt wq w.heap.size (.slice sa CH.length sc) CH) := fun wq hq => hS.below hq.below
  have HCH : Hid (∀ k, k < CH.length → 0 ≤ CH.getD k 0 ∧ CH.getD k 0 < (R.length : Int)) := hCH
  have H2 : Hid (∀ q, q < R.length → (R.getD q (0, [])).2.length ≤ 1000) := hl2
  have HX : Hid (R.getD ka (0, []) = (L, l) ∧ l.length = bn + 1 + m) := ⟨hx, hcl⟩
  have y7 := (HCell.out W1 hC1).2.2.2.2.2.2.2
  have i0 : (0 : Int) ≤ (ka : Int) := Int.natCast_nonneg _
  have i1 : (ka : Int) < (R.length : Int) := by omega
  clear hr hl2 hx hcl hC0 hcs hsy hB1 hS hCH hC1
  go_enter Try.func91, Try.ntmps91
  go_wp2_with fail
  clear x0 x1 x2 x3 x4 x5 x6 x7 y7 k1 k2 hW0 hW1 hrb r0 r1 HB1
  have hup := fun w => sy_uptoG (ad := ad) (f := bn) (sl := bn + 1 + m) (lc := qc) (fi := (bn : Int)) rfl (by omega) w
  obtain ⟨A, hA, hA'⟩ := sy_from (la := some ad) (f := bn + 1) (n := m) (sl := bn + 1 + m) (lc := qc) (fi := (bn : Int) + 1) (by push_cast; rfl) rfl
  have HA' : Hid (qc ≠ bn + 1 → A = (some ad).map (·.add ((bn + 1) * 2))) := hA'
  have i5 : IntKind.i64.wrap ((bn : Int) + 1) = (bn : Int) + 1 := IntWalk.i64_in _ (by omega)
  clear hA'
  go_loopw [4, 22] (fun s4 s22 wr => ∃ (k : Nat) (pv : Value) (PL : List (Value × Ru)), pv = s4 ∧ s22 = .int .i64 k ∧ k ≤ CH.length ∧ RlIn wr W1.heap.size pv PL ∧ PL.length = k ∧ (PL.map fun x => x.2) = (CH.take k).map (fun i => (L, l.take bn ++ (R.getD i.toNat (0, [])).2 ++ l.drop (bn + 1))) ∧ Below W1.heap.size W1 wr) (fun _ s _ => CH.length - (intOf s).toNat)
  case atStart => exact ⟨0, _, [], rfl, rfl, Nat.zero_le _, rlIn_nil _ _, rfl, rfl, Below.refl _ _⟩
  case round =>
    obtain ⟨k, pv, PL, rfl, rfl, hk', hP, hPl, hmap, hB⟩ := hrel
    have HP : Hid (RlIn wr W1.heap.size pv PL ∧ PL.length = k ∧ (PL.map fun x => x.2) = (CH.take k).map (fun i => (L, l.take bn ++ (R.getD i.toNat (0, [])).2 ++ l.drop (bn + 1)))) := ⟨hP, hPl, hmap⟩
    have HB : Hid (Below W1.heap.size W1 wr) := hB
    have hCr := HW.out.1.next hB
    by_cases hlt : k < CH.length
    · obtain ⟨sb, so, _, hv, _, s1⟩ := (HS.out wr hCr).2 k hlt
      cases hv
      obtain ⟨hi0, hi1⟩ := HCH.out k hlt
      obtain ⟨i, hi⟩ : ∃ i, CH.getD k 0 = i := ⟨_, rfl⟩
      rw [hi] at hi0 hi1 s1
      obtain ⟨q, rfl⟩ : ∃ q : Nat, i = q := ⟨i.toNat, by omega⟩
      have hq : q < R.length := by omega
      obtain ⟨b2, o2, rc2, qa2, qc2, hv, _, k1, k2, hsy⟩ := hCr.rules.syms hq
      cases hv
      have hn82 := H2.out q hq
      obtain ⟨⟨L2, l2⟩, hx2⟩ : ∃ x, R.getD q (0, []) = x := ⟨_, rfl⟩
      rw [hx2] at k1 k2 hsy hn82
      simp only at k1 k2 hsy hn82
      obtain ⟨n2, hn2⟩ : ∃ n, l2.length = n := ⟨_, rfl⟩
      rw [hn2] at k2 hsy hn82
      have HX2 : Hid ((CH.take (k + 1)).map (fun i => (L, l.take bn ++ (R.getD i.toNat (0, [])).2 ++ l.drop (bn + 1))) = (CH.take k).map (fun i => (L, l.take bn ++ (R.getD i.toNat (0, [])).2 ++ l.drop (bn + 1))) ++ [(L, l.take bn ++ l2 ++ l.drop (bn + 1))] ∧ l2.length = n2) := by
        refine ⟨?_, hn2⟩
        rw [List.take_succ_eq_append_getElem hlt, List.map_append]
        have e : CH[k] = (q : Int) := by rw [← hi]; simp [List.getD, hlt]
        rw [e, List.map_cons, List.map_nil, Int.toNat_natCast, hx2]
      have HSy2 : Hid (∀ wq, Below wr.heap.size wr wq → SymsAt wq (.slice qa2 n2 qc2) l2) := fun wq hB => hsy.same (same_below hB)
      have j0 : (0 : Int) ≤ (k : Int) := Int.natCast_nonneg _
      have j1 : (k : Int) < (CH.length : Int) := by omega
      have q0 : (0 : Int) ≤ (q : Int) := Int.natCast_nonneg _
      have HK2 : Hid (wr.cell? ⟨b0, o0 + q * 2 + 1, none⟩ = some (.slice qa2 n2 qc2)) := k2
      clear hP hPl hmap hx2 hn2 hsy hi hCr hB k1 k2
      go_upto_region 6 with fail
      obtain ⟨Wd, hWd⟩ : ∃ W, wr.drew = W := ⟨_, rfl⟩
      have hBd : Below wr.heap.size wr Wd := by rw [← hWd]; exact (Below.refl _ _).drew
      have HBd : Hid (Below wr.heap.size wr Wd) := hBd
      have HSS : Hid (∀ wq, Below Wd.heap.size Wd wq → wq.cell? ⟨rb, 1, none⟩ = some (.slice (some ad) (bn + 1 + m) qc) ∧ wq.cell? ⟨w.heap.size, 5, none⟩ = some (.int .i64 bn) ∧ wq.cell? ⟨w.heap.size, 2, none⟩ = some (.slice (some ⟨b0, o0, none⟩) R.length rc) ∧ wq.cell? ⟨b0, o0 + q * 2 + 1, none⟩ = some (.slice qa2 n2 qc2)) := fun wq hq => by
        have h1 : Below wr.heap.size wr wq := HBd.out.trans (hq.mono HBd.out.size)
        have h2 : Below W1.heap.size W1 wq := HB.out.trans (h1.mono HB.out.size)
        have h3 := HCell.out wq (HW.out.1.next h2)
        exact ⟨(h2.cell (World.block_lt_of_cell? _ _ HW.out.2.2.1)).trans HW.out.2.2.1, h3.2.2.2.2.2.1, h3.2.2.1, (h1.cell (World.block_lt_of_cell? _ _ HK2.out)).trans HK2.out⟩
      have S0 := HSS.out Wd (Below.refl _ _)
      clear hBd s1
      refine wp_region_mix [0, 1, 2, 3, 4, 5, 6, 7, 8, 9, 10, 11, 12, 13, 14, 15, 16, 17, 18, 19, 20, 21, 22] 3 25 (fun wq => wq.cell? ⟨rb, 1, none⟩ = some (.slice (some ad) (bn + 1 + m) qc) ∧ wq.cell? ⟨w.heap.size, 5, none⟩ = some (.int .i64 bn) ∧ wq.cell? ⟨w.heap.size, 2, none⟩ = some (.slice (some ⟨b0, o0, none⟩) R.length rc) ∧ wq.cell? ⟨b0, o0 + q * 2 + 1, none⟩ = some (.slice qa2 n2 qc2)) (by kernel_rfl) (by kernel_rfl) (by rw [hWd]; exact S0) ?_
      rw [hWd]
      clear hWd S0
      iterate 23
        refine StillI.con8 (v := ?_) rfl (by rfl) ?_ ?_
        rotate_left
        · intro w' hSw
          obtain ⟨z0, z1, z2, z3⟩ := hSw
          go_simp
          try with_reducible rfl
        simp only [Act.put, List.setIfInBounds_toArray, List.set_cons_zero, List.set_cons_succ]
      rw [StillI]
      have hBz : Below Wd.heap.size Wd (Wd.alloc (.cells #[.slice (some ad) bn qc, .slice qa2 n2 qc2, .slice A m (qc - (bn + 1))] 41)) := (Below.refl _ _).alloc (Nat.le_refl _) _
      refine TailC.one (i := 23) (by kernel_rfl) ⟨_, rfl, fun K hK => ?_⟩
      go_simp
      refine hK.out _ _ (fun _ => HSS.out _ hBz) ?_
      clear hK
      obtain ⟨w5, hw5⟩ : ∃ W, Wd.alloc (.cells #[.slice (some ad) bn qc, .slice qa2 n2 qc2, .slice A m (qc - (bn + 1))] 41) = W := ⟨_, rfl⟩
      have p0 : w5.cell? ⟨Wd.heap.size, 0, none⟩ = some (.slice (some ad) bn qc) := by rw [← hw5]; exact cell_of_blk (heap_alloc_new _ _) rfl
      have p1 : w5.cell? ⟨Wd.heap.size, 1, none⟩ = some (.slice qa2 n2 qc2) := by rw [← hw5]; exact cell_of_blk (heap_alloc_new _ _) rfl
      have p2 : w5.cell? ⟨Wd.heap.size, 2, none⟩ = some (.slice A m (qc - (bn + 1))) := by rw [← hw5]; exact cell_of_blk (heap_alloc_new _ _) rfl
      rw [hw5] at hBz ⊢
      clear hw5
      have hw5 : Below wr.heap.size wr w5 := HBd.out.trans (hBz.mono HBd.out.size)
      have hs5 : SymsAt w5 (.slice (some ad) l.length qc) l := by
        rw [HX.out.2]
        exact HW.out.2.2.2.2.1.same (same_below (HB.out.trans (hw5.mono HB.out.size)))
      have hlt1 : (l.take bn).length = bn := by rw [List.length_take, HX.out.2]; omega
      have hld : (l.drop (bn + 1)).length = m := by rw [List.length_drop, HX.out.2]; omega
      have cc := cat3 p0 p1 p2 (hs5.takeG (f := bn) (by rw [HX.out.2]; omega)) (HSy2.out w5 hw5) (hs5.dropG HX.out.2 HA'.out) (by rw [hlt1, hld, HX2.out.2]; omega)
      rw [hlt1, hld, HX2.out.2] at cc
      refine TailC.one (i := 24) (by kernel_rfl) ⟨_, rfl, fun K hK => ?_⟩
      go_simp
      refine cc.mono ?_
      rintro e w6 ⟨a6, d6, rfl, hown6, hB6⟩
      dsimp only
      have hB6' : Below Wd.heap.size Wd w6 := hBz.trans (hB6.mono hBz.size)
      refine hK.out _ _ (fun _ => HSS.out _ hB6') ?_
      clear hK cc
      refine TailC.last (i := 25) (by kernel_rfl) ⟨_, rfl, fun K hK => ?_⟩
      go_simp
      refine hK.out _ _ (fun h => absurd h (by omega)) (NoPanic.normal ?_)
      have hw6 : Below wr.heap.size wr w6 := HBd.out.trans (hB6'.mono HBd.out.size)
      have t0 := ((HB.out.trans (hw6.mono HB.out.size)).cell (World.block_lt_of_cell? _ _ HW.out.2.1)).trans HW.out.2.1
      have hrow : RowAt (w6.alloc (.cells #[.int .i64 L, .slice a6 (bn + n2 + m) d6] 44)) (.slice (some ⟨w6.heap.size, 0, none⟩) 1 1) 1 [.int .i64 L, .slice a6 (bn + n2 + m) d6] := rule_row
      have hB7 : Below wr.heap.size wr (w6.alloc (.cells #[.int .i64 L, .slice a6 (bn + n2 + m) d6] 44)) := hw6.alloc hw6.size _
      have own7 := (HP.out.1.below hB7).own
      have hb7 : W1.heap.size ≤ (w6.alloc (.cells #[.int .i64 L, .slice a6 (bn + n2 + m) d6] 44)).heap.size := Nat.le_trans HB.out.size hB7.size
      have hl7 : PL.length + 1 ≤ 100000 := by rw [HP.out.2.1]; omega
      have HB7 : Hid (Below wr.heap.size wr (w6.alloc (.cells #[.int .i64 L, .slice a6 (bn + n2 + m) d6] 44))) := hB7
      have HO6 : Hid (w6.ownsRow wr.heap.size 52 2 (.slice a6 (bn + n2 + m) d6) (bn + n2 + m) (flatY (l.take bn ++ l2 ++ l.drop (bn + 1))) ∧ (l.take bn ++ l2 ++ l.drop (bn + 1)).length = bn + n2 + m) := by
        refine ⟨own_mono hown6 hw5.size, ?_⟩
        rw [List.length_append, List.length_append, hlt1, hld, HX2.out.2]
      clear hK p0 p1 p2 hs5 hown6 hB6 hB6' hBz hw5 hw6 hB7 hlt1 hld
      go_wp2_with
        (at_builtin
         refine wpList_append_ccR rfl _ _ rfl rfl rfl rfl own7 hrow hb7 hl7 ?_
         intro a' d' w8 hown8 hgrow hat)
      go_roundw
      case rel =>
        refine ⟨k + 1, _, PL ++ [(.slice a6 (bn + n2 + m) d6, (L, l.take bn ++ l2 ++ l.drop (bn + 1)))], rfl, by go_num, by omega, ?_, by rw [List.length_append, HP.out.2.1]; rfl, by rw [List.map_append, HP.out.2.2, HX2.out.1]; rfl, ?_⟩
        · refine HP.out.1.pushG (w5 := w6.alloc (.cells #[.int .i64 L, .slice a6 (bn + n2 + m) d6] 44)) HB.out.size HB7.out ?_ hgrow ?_ (fun g hg => (hat g hg).imp id fun e => by omega)
          · rw [HO6.out.2]
            exact HO6.out.1.alloc _
          · rw [flatR_push]
            exact hown8
        · exact (HB.out.trans (HB7.out.mono HB.out.size)).grown hgrow hb7 fun g hg => (own7.lt g hg).1
      case measure => simp [intOf]; omega
    · have hkk : k = CH.length := by omega
      have cop := st_copies (w := wr) (T := T) (N := N) (op := op) (a := ka) (b := bn) (c := c) (hCr.rules.mono (Nat.le_trans (by omega) hCr.size)) hl H2.out
      obtain ⟨x0, x1, x2, x3, x4, x5, x6, x7⟩ := HCell.out wr hCr
      have HKk : Hid (k = CH.length) := hkk
      obtain ⟨pa, pc, hpv⟩ := own_form hP.own
      subst hpv
      clear hP hPl hmap hB hkk hCr
      go_upto_region 10 with (go_at_call 76; refine cop.mono ?_; rintro e w3 ⟨lv, RL, rfl, hO, hmap, hB3⟩; clear cop)
      have hlen : RL.length = R.length := by rw [← hmap, List.length_map]
      obtain ⟨g, cap, hlv, hg0, _⟩ := hO.rlOwn.form (by omega)
      subst hlv
      obtain ⟨mm, hmm⟩ : ∃ mm, R.length = ka + 1 + mm := ⟨R.length - (ka + 1), by omega⟩
      have hcap : RL.length ≤ cap := by
        obtain ⟨_, ⟨hv, _⟩ | ⟨_, _, _, hv, _, _, hle, _⟩⟩ := hO.rlOwn
        · cases hv
        · cases hv; exact hle
      have hR2 : RlIn w3 W1.heap.size (.slice (some ⟨g, 0, none⟩) RL.length cap) RL := hO.rlIn.mono HB.out.size
      have HM : Hid ((RL.map fun x => x.2) = R ∧ RL.length = R.length) := ⟨hmap, hlen⟩
      rw [hlen]
      rw [hlen] at hcap
      have hup2 := fun w => ru_upto (g := g) (f := ka) (sl := R.length) (lc := cap) (fi := (ka : Int)) rfl (by omega) w
      obtain ⟨A2, hA2, hA2'⟩ := ru_from (la := some ⟨g, 0, none⟩) (f := ka + 1) (n := mm) (sl := R.length) (lc := cap) (fi := (ka : Int) + 1) (by push_cast; rfl) hmm
      have HA2' : Hid (cap ≠ ka + 1 → A2 = (some (⟨g, 0, none⟩ : Addr)).map (·.add ((ka + 1) * 2))) := hA2'
      have i6 : IntKind.i64.wrap ((ka : Int) + 1) = (ka : Int) + 1 := IntWalk.i64_in _ (by omega)
      obtain ⟨Wd, hWd⟩ : ∃ W, w3.drew = W := ⟨_, rfl⟩
      have hBd : Below w3.heap.size w3 Wd := by rw [← hWd]; exact (Below.refl _ _).drew
      have HB3 : Hid (Below W1.heap.size W1 w3) := HB.out.trans (hB3.mono HB.out.size)
      have HBd : Hid (Below W1.heap.size W1 Wd) := HB3.out.trans (hBd.mono HB3.out.size)
      have HRd : Hid (RlIn Wd W1.heap.size (.slice (some ⟨g, 0, none⟩) RL.length cap) RL ∧ RlIn Wd W1.heap.size (.slice pa PL.length pc) PL) := ⟨hR2.below hBd, (HP.out.1.below hB3).below hBd⟩
      have HCd : Hid (∀ wq, Below Wd.heap.size Wd wq → CBox w cs 89 (some ⟨b0, o0, none⟩) rc R wq) := fun wq hq => HW.out.1.next (HBd.out.trans (hq.mono HBd.out.size))
      have HSS : Hid (∀ wq, Below Wd.heap.size Wd wq → wq.cell? ⟨w.heap.size, 0, none⟩ = some (.int .i64 T) ∧ wq.cell? ⟨w.heap.size, 1, none⟩ = some (.int .i64 N) ∧ wq.cell? ⟨w.heap.size, 2, none⟩ = some (.slice (some ⟨b0, o0, none⟩) R.length rc) ∧ wq.cell? ⟨w.heap.size, 3, none⟩ = some (.int .i64 op) ∧ wq.cell? ⟨w.heap.size, 4, none⟩ = some (.int .i64 ka) ∧ wq.cell? ⟨w.heap.size, 5, none⟩ = some (.int .i64 bn) ∧ wq.cell? ⟨w.heap.size, 6, none⟩ = some (.int .i64 c)) := fun wq hq =>
        let h := HCell.out wq (HCd.out wq hq)
        ⟨h.1, h.2.1, h.2.2.1, h.2.2.2.1, h.2.2.2.2.1, h.2.2.2.2.2.1, h.2.2.2.2.2.2.1⟩
      have S0 := HSS.out Wd (Below.refl _ _)
      have HMm : Hid (R.length = ka + 1 + mm) := hmm
      clear hO hmap hlen hB3 hBd hR2 hA2' x0 x1 x2 x3 x4 x5 x6 x7 hmm
      refine wp_region_mix [0, 1, 2, 3, 4, 5, 6, 7, 8, 9, 10, 11, 12, 13, 14, 15, 16, 17, 18, 19] 4 23 (fun wq => wq.cell? ⟨w.heap.size, 0, none⟩ = some (.int .i64 T) ∧ wq.cell? ⟨w.heap.size, 1, none⟩ = some (.int .i64 N) ∧ wq.cell? ⟨w.heap.size, 2, none⟩ = some (.slice (some ⟨b0, o0, none⟩) R.length rc) ∧ wq.cell? ⟨w.heap.size, 3, none⟩ = some (.int .i64 op) ∧ wq.cell? ⟨w.heap.size, 4, none⟩ = some (.int .i64 ka) ∧ wq.cell? ⟨w.heap.size, 5, none⟩ = some (.int .i64 bn) ∧ wq.cell? ⟨w.heap.size, 6, none⟩ = some (.int .i64 c)) (by kernel_rfl) (by kernel_rfl) (by rw [hWd]; exact S0) ?_
      rw [hWd]
      clear hWd S0
      iterate 20
        refine StillI.con8 (v := ?_) rfl (by rfl) ?_ ?_
        rotate_left
        · intro w' hSw
          obtain ⟨z0, z1, z2, z3, z4, z5, z6⟩ := hSw
          go_simp
          try with_reducible rfl
        simp only [Act.put, List.setIfInBounds_toArray, List.set_cons_zero, List.set_cons_succ]
      rw [StillI]
      have hBz : Below Wd.heap.size Wd (Wd.alloc (.cells #[.slice (some ⟨g, 0, none⟩) ka cap, .slice pa PL.length pc, .slice A2 mm (cap - (ka + 1))] 22)) := (Below.refl _ _).alloc (Nat.le_refl _) _
      refine TailC.one (i := 20) (by kernel_rfl) ⟨_, rfl, fun K hK => ?_⟩
      go_simp
      refine hK.out _ _ (fun _ => HSS.out _ hBz) ?_
      clear hK
      obtain ⟨w5, hw5⟩ : ∃ W, Wd.alloc (.cells #[.slice (some ⟨g, 0, none⟩) ka cap, .slice pa PL.length pc, .slice A2 mm (cap - (ka + 1))] 22) = W := ⟨_, rfl⟩
      have p0 : w5.cell? ⟨Wd.heap.size, 0, none⟩ = some (.slice (some ⟨g, 0, none⟩) ka cap) := by rw [← hw5]; exact cell_of_blk (heap_alloc_new _ _) rfl
      have p1 : w5.cell? ⟨Wd.heap.size, 1, none⟩ = some (.slice pa PL.length pc) := by rw [← hw5]; exact cell_of_blk (heap_alloc_new _ _) rfl
      have p2 : w5.cell? ⟨Wd.heap.size, 2, none⟩ = some (.slice A2 mm (cap - (ka + 1))) := by rw [← hw5]; exact cell_of_blk (heap_alloc_new _ _) rfl
      rw [hw5] at hBz ⊢
      clear hw5
      have hR5 := HRd.out.1.below hBz
      have hP5 := HRd.out.2.below hBz
      have e1 := hR5.rowAt.take (f := ka) (by rw [HM.out.2]; omega)
      have e2 := hR5.rowAt.drop (f := ka + 1) (m := mm) (by rw [HM.out.2]; exact HMm.out) HA2'.out
      rw [flatR_take] at e1
      rw [flatR_drop] at e2
      have cc := catR3 p0 p1 p2 e1 hP5.rowAt e2 (by rw [HP.out.2.1]; have := HMm.out; omega)
      rw [← flatR_append, ← flatR_append] at cc
      refine TailC.one (i := 21) (by kernel_rfl) ⟨_, rfl, fun K hK => ?_⟩
      go_simp
      refine cc.mono ?_
      rintro e w6 ⟨a6, d6, rfl, hown6, hB6⟩
      dsimp only
      have hB6' : Below Wd.heap.size Wd w6 := hBz.trans (hB6.mono hBz.size)
      refine hK.out _ _ (fun _ => HSS.out _ hB6') ?_
      clear hK cc
      have hlK : (RL.take ka ++ PL ++ RL.drop (ka + 1)).length = ka + PL.length + mm := by
        rw [List.length_append, List.length_append, List.length_take, List.length_drop, HM.out.2]
        have := HMm.out
        omega
      have hFin : RlIn w6 W1.heap.size (.slice a6 (ka + PL.length + mm) d6) (RL.take ka ++ PL ++ RL.drop (ka + 1)) := by
        refine hR5.cat hP5 (Nat.le_trans HBd.out.size hBz.size) hB6 (by rw [hlK]; exact hown6) fun x hx => ?_
        rcases List.mem_append.1 hx with hx | hx
        · rcases List.mem_append.1 hx with hx | hx
          · exact .inl (List.mem_of_mem_take hx)
          · exact .inr hx
        · exact .inl (List.mem_of_mem_drop hx)
      have wi := st_with (w := w6) (T := T) (N := N) (ra := some ⟨b0, o0, none⟩) (rn := R.length) (rc := rc) (op := op) (a := ka) (b := bn) (c := c) (M := N) (oa := a6) (on := ka + PL.length + mm) (oc := d6)
      refine TailC.one (i := 22) (by kernel_rfl) ⟨_, rfl, fun K hK => ?_⟩
      go_simp
      refine wi.mono ?_
      rintro e w7 ⟨rfl, hB7⟩
      dsimp only
      have hB7' : Below Wd.heap.size Wd w7 := hB6'.trans (hB7.mono hB6'.size)
      refine hK.out _ _ (fun _ => HSS.out _ hB7') ?_
      clear hK wi
      have HC9 : Hid (CBox w cs 89 (some ⟨b0, o0, none⟩) rc R w7) := HCd.out w7 hB7'
      have HR9 : Hid (RlIn w7 (w.heap.size + 2) (.slice a6 (ka + PL.length + mm) d6) (RL.take ka ++ PL ++ RL.drop (ka + 1))) := (hFin.below hB7).mono HW.out.2.2.2.2.2
      have z0 := HC9.out.y0
      have z1 := HC9.out.y1
      have z2 := HC9.out.y2
      have zf0 := HC9.out.yf 0
      have zf1 := HC9.out.yf 1
      have zf2 := HC9.out.yf 2
      refine TailC.last (i := 23) (by kernel_rfl) ⟨_, rfl, fun K hK => ?_⟩
      go_simp
      refine hK.out _ _ (fun h => absurd h (by omega)) (NoPanic.normal ?_)
      have q0 := box3_0 (v0 := .int .i64 T) (v1 := .int .i64 N) (v2 := .slice a6 (ka + PL.length + mm) d6) z0
      have q1 := box3_1 (v0 := .int .i64 T) (v1 := .int .i64 N) (v2 := .slice a6 (ka + PL.length + mm) d6) z1
      have q2 := box3_2 (v0 := .int .i64 T) (v1 := .int .i64 N) (v2 := .slice a6 (ka + PL.length + mm) d6) z2
      clear hK
      go_wp2_with fail
      refine bodyPost_ret (v := .agg #[.int .i64 T, .int .i64 N, .slice a6 (ka + PL.length + mm) d6]) (by simp [results, Try.results91, go_sem, q0, q1, q2]) rfl ?_
      have ho := HC9.out.out HR9.out (.int .i64 T) (.int .i64 N) (.slice a6 (ka + PL.length + mm) d6)
      refine ⟨_, _, rfl, ho.1, ?_, ho.2⟩
      rw [List.map_append, List.map_append, List.map_take, List.map_drop, HM.out.1, HP.out.2.2, HKk.out, List.take_length]

end Go.Proofs.Ytikjekfpgklbdaa
