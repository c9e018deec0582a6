import Derived.Test.YtlalmfheiippiaaStChangeAndStSwap
import Derived.Test.YtlalmfheiippiaaRef3MathAndStOfI
/- The contract of package step's (swap).outcome. -/
namespace Go.Proofs.Ytlalmfheiippiaa
open Go.RowKit

/-- What SSwap makes of a rule. -/
def swOne (a b : Int) (r : Ru) : Ru := (swapN a b r.1, r.2.map (swapS a b))

theorem flatR_setL2 {RL : List (Value × Ru)} {k : Nat} (hk : k < RL.length) (L : Int) (l : List Sy) : (flatR RL).set (k * 2) (.int .i64 L) = flatR (RL.set k (RL[k].1, (L, l))) := by
  unfold flatR
  induction RL generalizing k with
  | nil => simp at hk
  | cons a RL ih =>
    cases k with
    | zero => simp [ruV]
    | succ k =>
      have := ih (k := k) (by simpa using hk)
      rw [List.flatMap_cons, List.set_cons_succ, List.flatMap_cons, List.set_append_right _ _ (by simp [ruV]; omega)]
      simp only [ruV, List.length_cons, List.length_nil, List.getElem_cons_succ] at this ⊢
      rw [show (k + 1) * 2 - (0 + 1 + 1) = k * 2 by omega, this]

/-- A rule's Left turns, and its symbols, where they lie. -/
theorem Owns.rlTurn {w w1 : World} {B g cap k : Nat} {RL : List (Value × Ru)} (h : Owns w B (rlP (.slice (some ⟨g, 0, none⟩) RL.length cap) RL)) (hk : k < RL.length) (L : Int) (l : List Sy) (hl : l.length = RL[k].2.2.length)
    (ho : w1.ownsRow B 42 2 RL[k].1 l.length (flatY l)) (hK : Kept (fun b => RL[k].1.ownBlock = some b) (w.setCell ⟨g, k * 2, none⟩ (.int .i64 L)) w1) : Owns w1 B (rlP (.slice (some ⟨g, 0, none⟩) RL.length cap) (RL.set k (RL[k].1, (L, l)))) := by
  have h1 := h.store (i := none) (g := g) (n := RL.length) (cap := cap) (e := 39) (size := 2) (xs := flatR RL) rfl (k * 2) (.int .i64 L)
  have hn : ∀ j a, upd (rlP (.slice (some ⟨g, 0, none⟩) RL.length cap) RL) none ⟨.slice (some ⟨g, 0, none⟩) RL.length cap, 39, 2, RL.length, (flatR RL).set (k * 2) (.int .i64 L)⟩ j = some a → j ≠ some k → w1.ownsRow B a.e a.size a.v a.n a.xs := fun j a ha hj => by
    have o := h1.own j a ha
    obtain ⟨z1, z2 | ⟨g', c', cur, e, z2, z3, z4⟩⟩ := o
    · exact ⟨z1, .inl z2⟩
    · refine ⟨z1, .inr ⟨g', c', cur, e, z2, ?_, z4⟩⟩
      have hlt := (Array.getElem?_eq_some_iff.1 z3).1
      rw [hK.block g' hlt fun e' => ?_]
      · exact z3
      · have hb : a.v.ownBlock = some g' := by rw [e]; rfl
        exact h1.apart j (some k) a _ hj ha (by rw [upd_other _ (by simp)]; exact rlP_at hk) g' hb e'
  have h2 : Owns w1 B (upd (upd (rlP (.slice (some ⟨g, 0, none⟩) RL.length cap) RL) none ⟨.slice (some ⟨g, 0, none⟩) RL.length cap, 39, 2, RL.length, (flatR RL).set (k * 2) (.int .i64 L)⟩) (some k) ⟨RL[k].1, 42, 2, l.length, flatY l⟩) := by
    refine h1.put ho (fun j a hj ha => hn j a ha hj) fun j a hj ha g' e1 e2 => ?_
    exact h1.apart j (some k) a ⟨RL[k].1, 42, 2, RL[k].2.2.length, flatY RL[k].2.2⟩ hj ha (by rw [upd_other _ (by simp)]; exact rlP_at hk) g' e1 e2
  have e : upd (upd (rlP (.slice (some ⟨g, 0, none⟩) RL.length cap) RL) none ⟨.slice (some ⟨g, 0, none⟩) RL.length cap, 39, 2, RL.length, (flatR RL).set (k * 2) (.int .i64 L)⟩) (some k) ⟨RL[k].1, 42, 2, l.length, flatY l⟩ = rlP (.slice (some ⟨g, 0, none⟩) RL.length cap) (RL.set k (RL[k].1, (L, l))) := by
    funext j
    cases j with
    | none =>
      rw [upd_other _ (by simp), upd_same, flatR_setL2 hk L l]
      show _ = some _
      rw [List.length_set]
    | some j =>
      by_cases hj : j = k
      · subst hj
        rw [upd_same, rlP_at (by rw [List.length_set]; exact hk)]
        simp
      · rw [upd_other _ (by simpa using hj), upd_other _ (by simp)]
        show (RL[j]?).map _ = ((RL.set k _)[j]?).map _
        rw [List.getElem?_set_ne (fun e => hj e.symm)]
  rw [e] at h2
  exact h2

set_option maxRecDepth 100000 in
set_option maxHeartbeats 12800000 in
theorem st_outS {w : World} {T : Int} {N : Int} {ra : Option Addr} {rc : Nat} {op a b c : Int} {R : List Ru} (hr : RulesAt w w.heap.size (.slice ra R.length rc) R) (hl : R.length ≤ 1000) (hl2 : ∀ q, q < R.length → (R.getD q (0, [])).2.length ≤ 1000) :
    Calls Try.prog 51 #[.agg #[.int .i64 T, .int .i64 N, .slice ra R.length rc, .int .i64 op, .int .i64 a, .int .i64 b, .int .i64 c]] w fun e w' => ∃ lv RL, e = .returned (.agg #[.int .i64 T, .int .i64 N, lv]) ∧ RlIn w' w.heap.size lv RL ∧ (RL.map fun x => x.2) = R.map (swOne a b) ∧ Below w.heap.size w w' := by
  obtain ⟨cs, hcs⟩ : ∃ cs : Array Value, #[.int .i64 T, .int .i64 N, .slice ra R.length rc, .int .i64 op, .int .i64 a, .int .i64 b, .int .i64 c] = cs := ⟨_, rfl⟩
  have hC0 : CBox w cs 52 ra rc R ((w.alloc (.cells cs 52)).alloc (.cells #[.int .i64 0, .int .i64 0, .slice none 0 0] 24)) := cbox_start hr
  rw [← hcs] at hC0
  obtain ⟨W0, hW0⟩ : ∃ W, (w.alloc (.cells #[.int .i64 T, .int .i64 N, .slice ra R.length rc, .int .i64 op, .int .i64 a, .int .i64 b, .int .i64 c] 52)).alloc (.cells #[.int .i64 0, .int .i64 0, .slice none 0 0] 24) = W := ⟨_, rfl⟩
  rw [hW0, hcs] at hC0
  have HCS : Hid (#[.int .i64 T, .int .i64 N, .slice ra R.length rc, .int .i64 op, .int .i64 a, .int .i64 b, .int .i64 c] = cs) := hcs
  have HCell : Hid (∀ wq, CBox w cs 52 ra rc R wq → wq.cell? ⟨w.heap.size, 0, none⟩ = some (.int .i64 T) ∧ wq.cell? ⟨w.heap.size, 1, none⟩ = some (.int .i64 N) ∧ wq.cell? ⟨w.heap.size, 2, none⟩ = some (.slice ra R.length rc) ∧ wq.cell? ⟨w.heap.size, 3, none⟩ = some (.int .i64 op) ∧ wq.cell? ⟨w.heap.size, 4, none⟩ = some (.int .i64 a) ∧ wq.cell? ⟨w.heap.size, 5, none⟩ = some (.int .i64 b) ∧ wq.cell? ⟨w.heap.size, 6, none⟩ = some (.int .i64 c)) := fun wq hq => by
    refine ⟨hq.cell ?_, hq.cell ?_, hq.cell ?_, hq.cell ?_, hq.cell ?_, hq.cell ?_, hq.cell ?_⟩ <;> (rw [← HCS.out]; rfl)
  obtain ⟨x0, x1, x2, x3, x4, x5, x6⟩ := HCell.out W0 hC0
  have cop := st_copies (w := W0) (T := T) (N := N) (op := op) (a := a) (b := b) (c := c) (hC0.rules.mono (Nat.le_trans (by omega) hC0.size)) hl hl2
  have HC0 : Hid (CBox w cs 52 ra rc R W0) := hC0
  have H2 : Hid (∀ q (hq : q < R.length), R[q].2.length ≤ 1000) := fun q hq => by
    have := hl2 q hq
    simpa [List.getD, hq] using this
  clear hr hl2 hC0 hcs
  go_enter Try.func51, Try.ntmps51
  go_upto_region 3 with (go_at_call 53; refine cop.mono ?_; rintro e wq ⟨lv, RL, rfl, hO, hmap, hBq⟩; clear cop)
  have hlen : RL.length = R.length := by rw [← hmap, List.length_map]
  obtain ⟨la, lc, hlv⟩ := own_form hO.rlOwn
  subst hlv
  have HBq : Hid (Below W0.heap.size W0 wq) := hBq
  have HO : Hid (Owns wq W0.heap.size (rlP (.slice la R.length lc) RL) ∧ (RL.map fun x => x.2) = R ∧ RL.length = R.length) := ⟨by rw [← hlen]; exact hO, hmap, hlen⟩
  rw [hlen]
  clear hO hmap hlen hBq x0 x1 x2 x3 x4 x5 x6 hW0
  go_wp2_with fail
  go_loopw [13] (fun s13 wr => ∃ (k : Nat) (RK : List (Value × Ru)), s13 = .int .i64 k ∧ k ≤ R.length ∧ RK.length = R.length ∧ Owns wr W0.heap.size (rlP (.slice la R.length lc) RK) ∧ (RK.map fun x => x.2) = (R.take k).map (swOne a b) ++ R.drop k ∧ Below W0.heap.size W0 wr) (fun s _ => R.length - (intOf s).toNat)
  case atStart => exact ⟨0, RL, rfl, Nat.zero_le _, HO.out.2.2, HO.out.1, by rw [HO.out.2.1]; simp, HBq.out⟩
  case round =>
    obtain ⟨k, RK, rfl, hk, hlen, hO, hmap, hB⟩ := hrel
    clear HO HBq
    have HO : Hid (Owns wr W0.heap.size (rlP (.slice la R.length lc) RK)) := hO
    have HM : Hid ((RK.map fun x => x.2) = (R.take k).map (swOne a b) ++ R.drop k ∧ RK.length = R.length) := ⟨hmap, hlen⟩
    have HB : Hid (Below W0.heap.size W0 wr) := hB
    by_cases hlt : k < R.length
    · have hkk : k < RK.length := by omega
      have hat : RK[k].2 = R[k] := by
        have h1 : ((RK.map fun x => x.2)[k]'(by rw [List.length_map]; exact hkk)) = R[k] := by
          simp only [hmap]
          have hl : ((R.take k).map (swOne a b)).length = k := by rw [List.length_map, List.length_take]; omega
          rw [List.getElem_append_right (by omega)]
          simp only [hl, Nat.sub_self, List.getElem_drop, Nat.add_zero]
        simpa using h1
      have hsk := hO.rlSym hkk
      have hrow := hO.rlOwn
      rw [hlen] at hrow
      obtain ⟨g, cap, hvg, hg0, hg1⟩ := hrow.form (by omega)
      injection hvg with e1 _ e3
      subst e1 e3
      have c1 := (hrow.cellAt (k * 2) (by omega)).trans (flatR_get (j := 0) hkk (by omega))
      have c2 := (hrow.cellAt (k * 2 + 1) (by omega)).trans (flatR_get (j := 1) hkk (by omega))
      have hgd : RK.getD k (.slice none 0 0, (0, [])) = RK[k] := by simp [List.getD, hkk]
      rw [hgd] at c1 c2
      obtain ⟨⟨v, ⟨L, l⟩⟩, hx⟩ : ∃ x, RK[k] = x := ⟨_, rfl⟩
      rw [hx] at c1 c2 hat hsk
      simp only [ruV, List.getElem?_cons_zero, List.getElem?_cons_succ] at c1 c2 hat hsk
      have hl8 := H2.out k hlt
      rw [← hat] at hl8
      simp only at hl8
      obtain ⟨va, vc, hv⟩ := own_form hsk
      subst hv
      have HX : Hid (RK[k] = (.slice va l.length vc, (L, l)) ∧ R[k] = (L, l)) := ⟨hx, hat.symm⟩
      have f1 := hrow.frozenAt (k * 2)
      obtain ⟨W1, hW1⟩ : ∃ W, wr.alloc (.cells #[.int .i64 L, .slice va l.length vc] 39) = W := ⟨_, rfl⟩
      have hB1 : Below wr.heap.size wr W1 := by rw [← hW1]; exact (Below.refl _ _).alloc (Nat.le_refl _) _
      have HB1 : Hid (Below wr.heap.size wr W1) := hB1
      have d0 : W1.cell? ⟨wr.heap.size, 0, none⟩ = some (.int .i64 L) := by rw [← hW1]; exact cell_of_blk (heap_alloc_new _ _) rfl
      have d1 : W1.cell? ⟨wr.heap.size, 1, none⟩ = some (.slice va l.length vc) := by rw [← hW1]; exact cell_of_blk (heap_alloc_new _ _) rfl
      have e1 := (hB1.cell (World.block_lt_of_cell? _ _ c1)).trans c1
      have ef1 : W1.frozen? ⟨g, k * 2, none⟩ = false := (hB1.frozen (show g < _ from hg1)).trans f1
      have hC1 := HC0.out.next (HB.out.trans (hB1.mono HB.out.size))
      have ot := st_other (n := L) (HCell.out W1 hC1).2.2.2.2.1 (HCell.out W1 hC1).2.2.2.2.2.1
      have hO1 : Owns W1 W0.heap.size (rlP (.slice (some ⟨g, 0, none⟩) R.length lc) RK) := hO.below hB1 (Nat.le_refl _)
      have hgs : w.heap.size + 2 ≤ g := Nat.le_trans HC0.out.size hg0
      have d1' : (W1.setCell ⟨g, k * 2, none⟩ (.int .i64 (swapN a b L))).cell? ⟨wr.heap.size, 1, none⟩ = some (.slice va l.length vc) := by
        rw [cell_set_other (.inl (by simp only; omega))]; exact d1
      have hC2 : CBox w cs 52 ra rc R (W1.setCell ⟨g, k * 2, none⟩ (.int .i64 (swapN a b L))) := hC1.later ((Below.refl _ _).setCell (by simp only; omega) _)
      have hne : ∀ b', (Value.slice va l.length vc).ownBlock = some b' → b' ≠ g := fun b' hb' e => by
        subst e
        have hap := hO.apart (some k) none _ _ (by simp) (rlP_at hkk) rfl b'
        rw [hx] at hap
        exact hap hb' rfl
      have hs2 : (W1.setCell ⟨g, k * 2, none⟩ (.int .i64 (swapN a b L))).ownsRow W0.heap.size 42 2 (.slice va l.length vc) l.length (flatY l) := by
        have o := own_below hsk hB1 fun g hg => (hsk.lt g hg).2
        obtain ⟨z1, z2 | ⟨g', c', cur, e, z2, z3, z4⟩⟩ := o
        · exact ⟨z1, .inl z2⟩
        · exact ⟨z1, .inr ⟨g', c', cur, e, z2, by rw [Below.heap_setCell _ _ _ _ (hne g' (by rw [e]; rfl))]; exact z3, z4⟩⟩
      have sw := st_swapIn (xb := w.heap.size) hs2 hl8 (HCell.out _ hC2).2.2.2.2.1 (HCell.out _ hC2).2.2.2.2.2.1 (by have := HC0.out.size; omega)
      have HO1 : Hid (Owns W1 W0.heap.size (rlP (.slice (some ⟨g, 0, none⟩) R.length lc) RK)) := hO1
      have HG : Hid (W0.heap.size ≤ g ∧ k < RK.length) := ⟨hg0, hkk⟩
      have i0 : (0 : Int) ≤ (k : Int) := Int.natCast_nonneg _
      have i1 : (k : Int) < (R.length : Int) := by omega
      clear hO hB hmap hlen hat hsk hrow hgd hx hB1 hC1 hO1 hC2 hs2 f1 hne hgs
      go_wp2_with
        (first
         | (go_at_call 52; refine ot.mono ?_; rintro e w2 ⟨rfl, rfl⟩; clear ot)
         | (go_at_call 54; refine sw.mono ?_; rintro e w3 ⟨rfl, ho3, hK3⟩; clear sw))
      go_roundw
      case rel =>
        have hHO := HO1.out
        rw [← HM.out.2] at hHO
        have hT := hHO.rlTurn (w1 := w3) (k := k) HG.out.2 (swapN a b L) (l.map (swapS a b)) (by rw [HX.out.1, List.length_map]) (by rw [HX.out.1, List.length_map]; exact ho3) (by rw [HX.out.1]; exact hK3)
        rw [HX.out.1, HM.out.2] at hT
        refine ⟨k + 1, _, by go_num, by omega, by rw [List.length_set]; exact HM.out.2, hT, ?_, ?_⟩
        · rw [List.map_set, HM.out.1, ← walk_set hlt, HX.out.2]
          rfl
        · have hb1 : Below W0.heap.size W0 (w2.setCell ⟨g, k * 2, none⟩ (.int .i64 (swapN a b L))) := (HB.out.trans (HB1.out.mono HB.out.size)).setCell (p := ⟨g, k * 2, none⟩) HG.out.1 _
          exact hb1.trans (hK3.below (fun b hb => (ho3.lt b hb).1) hb1.size)
      case measure => simp [intOf]; omega
    · have hC := HC0.out.next hB
      obtain ⟨x0, x1, x2, x3, x4, x5, x6⟩ := HCell.out wr hC
      have hkk : k = R.length := by omega
      have HKk : Hid (k = R.length) := hkk
      have HC : Hid (CBox w cs 52 ra rc R wr) := hC
      have wi := st_with (w := wr) (T := T) (N := N) (ra := ra) (rn := R.length) (rc := rc) (op := op) (a := a) (b := b) (c := c) (M := N) (oa := la) (on := R.length) (oc := lc)
      clear hC hO hmap hlen hB hkk
      go_wp2_with
        (go_at_call 55; refine wi.mono ?_; rintro e w7 ⟨rfl, hB7⟩
         have HC9 : Hid (CBox w cs 52 ra rc R w7) := HC.out.next hB7
         have HR9 : Hid (RlIn w7 (w.heap.size + 2) (.slice la R.length lc) RK) := (HO.out.rlIn.mono HC0.out.size).below hB7
         have z0 := HC9.out.y0
         have z1 := HC9.out.y1
         have z2 := HC9.out.y2
         have zf0 := HC9.out.yf 0
         have zf1 := HC9.out.yf 1
         have zf2 := HC9.out.yf 2
         clear wi hB7)
      have q0 := box3_0 (v0 := .int .i64 T) (v1 := .int .i64 N) (v2 := .slice la R.length lc) z0
      have q1 := box3_1 (v0 := .int .i64 T) (v1 := .int .i64 N) (v2 := .slice la R.length lc) z1
      have q2 := box3_2 (v0 := .int .i64 T) (v1 := .int .i64 N) (v2 := .slice la R.length lc) z2
      refine bodyPost_ret (v := .agg #[.int .i64 T, .int .i64 N, .slice la R.length lc]) (by simp [results, Try.results51, go_sem, q0, q1, q2]) rfl ?_
      have ho := HC9.out.out HR9.out (.int .i64 T) (.int .i64 N) (.slice la R.length lc)
      refine ⟨_, _, rfl, ho.1, ?_, ho.2⟩
      rw [HM.out.1, HKk.out]
      simp

end Go.Proofs.Ytlalmfheiippiaa

/- Plain: what package step's outcomes make is what H1 says. No program. -/
namespace Go.Proofs.Ytlalmfheiippiaa

section
variable {N : Nat} {R : List Ru}

theorem range_map (f : Ru → Ru) (R : List Ru) : (List.range R.length).map (fun k => f (R.getD k (0, []))) = R.map f := by
  refine List.ext_getElem (by simp) fun i h1 h2 => ?_
  have hi : i < R.length := by simpa using h2
  simp [List.getD, hi]
theorem doR_swap {a b c : Int} : R.map (swOne a b) = doR N R ⟨1, a, b, c⟩ := by
  rw [doR_one (h := fun k => swOne a b (R.getD k (0, []))) (fun k => by unfold oneR swOne; simp), range_map]
  unfold lastR
  simp
theorem doR_left {a b c : Int} : R.map (leOne N a) ++ [((N : Int), [])] = doR N R ⟨4, a, b, c⟩ := by
  rw [doR_one (h := fun k => leOne N a (R.getD k (0, []))) (fun k => by unfold oneR leOne; simp), range_map]
  unfold lastR
  simp
theorem doR_extract {ka bn cn : Nat} {L : Int} {l : List Sy} (hx : R.getD ka (0, []) = (L, l)) : R.set ka (L, l.take bn ++ (false, (N : Int)) :: l.drop cn) ++ [((N : Int), (l.take cn).drop bn)] = doR N R ⟨2, ka, bn, cn⟩ := by
  rw [doR_one (h := fun k => if (k : Int) = (ka : Int) then ((R.getD k (0, [])).1, (R.getD k (0, [])).2.take bn ++ (false, (N : Int)) :: (R.getD k (0, [])).2.drop cn) else R.getD k (0, [])) (fun k => by unfold oneR; simp)]
  have hl : lastR N R ⟨2, ka, bn, cn⟩ = [((N : Int), (l.take cn).drop bn)] := by unfold lastR; simp only [Int.toNat_natCast, hx]; simp
  rw [hl]
  congr 1
  refine List.ext_getElem (by simp) fun i h1 h2 => ?_
  have hi : i < R.length := by simpa using h2
  rw [List.getElem_set]
  simp only [List.getElem_map, List.getElem_range]
  by_cases e : ka = i
  · subst e
    rw [if_pos rfl, if_pos rfl, hx]
  · rw [if_neg e, if_neg (by omega)]
    simp [List.getD, hi]
theorem doR_prune {a b c : Int} : ((idxF (fun k => needB N R (R.getD k (0, []))) R.length).map fun (n : Nat) => (n : Int)).map (fun i => R.getD i.toNat (0, [])) = doR N R ⟨5, a, b, c⟩ := by
  have h1 : doR N R ⟨5, a, b, c⟩ = (List.range R.length).flatMap fun k => if needB N R (R.getD k (0, [])) then [R.getD k (0, [])] else [] := by
    unfold doR lastR
    simp only
    rw [if_neg (by decide), if_neg (by decide), List.append_nil]
    congr 1
  rw [h1, flatMap_pick (fun k => needB N R (R.getD k (0, []))) (fun k => R.getD k (0, []))]
  rw [List.map_map]
  rfl
theorem flat_split (P : List Ru) {ka : Nat} (hk : ka < R.length) : ((List.range R.length).flatMap fun k => if k = ka then P else [R.getD k (0, [])]) = R.take ka ++ P ++ R.drop (ka + 1) := by
  have key : ∀ n, n ≤ R.length → ((List.range n).flatMap fun k => if k = ka then P else [R.getD k (0, [])]) = if n ≤ ka then R.take n else R.take ka ++ P ++ (R.take n).drop (ka + 1) := by
    intro n
    induction n with
    | zero => intro _; simp
    | succ n ih =>
      intro hn
      have hnl : n < R.length := by omega
      have e : R.getD n (0, []) = R[n] := by simp [List.getD, hnl]
      rw [List.range_succ, List.flatMap_append, ih (by omega), List.flatMap_singleton]
      by_cases h1 : n = ka
      · subst h1
        rw [if_pos (Nat.le_refl _), if_pos rfl, if_neg (by omega)]
        rw [List.drop_eq_nil_of_le (by rw [List.length_take]; omega), List.append_nil]
      · rw [if_neg h1, e, List.take_succ_eq_append_getElem hnl]
        by_cases h2 : n ≤ ka
        · rw [if_pos h2, if_pos (by omega)]
        · rw [if_neg h2, if_neg (by omega), List.drop_append_of_le_length (by rw [List.length_take]; omega), List.append_assoc]
  have h := key R.length (Nat.le_refl _)
  rw [if_neg (by omega), List.take_length] at h
  exact h
theorem doR_inline {ka bn : Nat} {L X : Int} {l : List Sy} (hk : ka < R.length) (hx : R.getD ka (0, []) = (L, l)) (hX : l.getD bn (false, 0) = (false, X)) : R.take ka ++ ((idxF (fun k => decide ((R.getD k (0, [])).1 = X)) R.length).map fun (n : Nat) => (n : Int)).map (fun i => (L, l.take bn ++ (R.getD i.toNat (0, [])).2 ++ l.drop (bn + 1))) ++ R.drop (ka + 1) = doR N R ⟨3, ka, bn, 0⟩ := by
  have h1 : doR N R ⟨3, ka, bn, 0⟩ = (List.range R.length).flatMap fun k => if k = ka then (R.filter fun x => decide (x.1 = X)).map (inlR bn (L, l)) else [R.getD k (0, [])] := by
    unfold doR lastR
    simp only
    rw [if_neg (by decide), if_neg (by decide), List.append_nil]
    refine flatMap_on _ fun k _ => ?_
    unfold oneR
    simp only
    rw [if_neg (by decide), if_neg (by decide), if_pos trivial]
    by_cases e : k = ka
    · subst e
      rw [if_pos rfl, if_pos rfl, hx]
      simp only [Int.toNat_natCast, hX]
    · rw [if_neg e, if_neg (by omega)]
  rw [h1, flat_split _ hk, filter_idx X, List.map_map, List.map_map]
  congr 2
end

end Go.Proofs.Ytlalmfheiippiaa
