/- The contracts of pollardingref4.rule and pollardingref4.Of. -/
import Derived.Test.YtfgdiknbkoaniaaRowI
import Derived.Test.YtfgdiknbkoaniaaShortMath
import Derived.Deep.LoopGhost
namespace Go.Proofs.Ytfgdiknbkoaniaa
open Go.RowKit

theorem sumV_drop {O : List Int} {l : List Sy} {k : Nat} {p : Int} {t : Bool} {v : Int} (hk : k < l.length) (hs : l.getD k (false, 0) = (t, v)) (h : sumV O l = (sumV O (l.drop k)).map (p + ·)) :
    sumV O l = if t then (sumV O (l.drop (k + 1))).map ((p + 1) + ·) else if O.getD v.toNat 0 < 0 then none else (sumV O (l.drop (k + 1))).map ((p + O.getD v.toNat 0) + ·) := by
  have hd : l.drop k = (t, v) :: l.drop (k + 1) := by rw [List.drop_eq_getElem_cons hk, ← hs]; simp [List.getD, hk]
  rw [h, hd]
  cases t with
  | true =>
    simp only [sumV, if_true, Option.map_map]
    congr 1
    funext x
    simp only [Function.comp_apply]
    omega
  | false =>
    simp only [sumV, Bool.false_eq_true, if_false]
    split
    · rfl
    · simp only [Option.map_map]
      congr 1
      funext x
      simp only [Function.comp_apply]
      omega

set_option maxRecDepth 100000 in
set_option maxHeartbeats 1600000 in
theorem rule4_any {w : World} {lim qc N : Nat} {L : Int} {qa : Option Addr} {ov : Value} {l : List Sy} {O : List Int} (hl : RightAt w lim qa l) (hlim : lim ≤ w.heap.size) (ho : ListAt w w.heap.size ov O) (hO : O.length = N) (hin : ∀ s ∈ l, s.1 = false → 0 ≤ s.2 ∧ s.2 < (N : Int)) (hlid : ∀ i, i < N → O.getD i 0 ≤ lid) (h8 : l.length ≤ 8) :
    Calls Try.prog 11 #[.agg #[.int .i64 L, .slice qa l.length qc], ov] w fun e w' => e = .returned (.int .i64 (ruleV O l)) ∧ Below w.heap.size w w' := by
  obtain ⟨oa, oc, hov⟩ := ho.1
  subst hov
  have HL : Hid (RightAt (w.alloc (.cells #[.int .i64 L, .slice qa l.length qc] 34)) lim qa l) := hl.below ((Below.refl _ _).alloc hlim _)
  have HO : Hid (ListAt (w.alloc (.cells #[.int .i64 L, .slice qa l.length qc] 34)) (w.alloc (.cells #[.int .i64 L, .slice qa l.length qc] 34)).heap.size (.slice oa O.length oc) O) := ho.boxed _
  have HI : Hid (∀ s ∈ l, s.1 = false → 0 ≤ s.2 ∧ s.2 < (N : Int)) := hin
  have HLid : Hid (∀ i, i < N → O.getD i 0 ≤ lid) := hlid
  have HB : Hid (Below w.heap.size w (w.alloc (.cells #[.int .i64 L, .slice qa l.length qc] 34))) := (Below.refl _ _).alloc (Nat.le_refl _) _
  have b1 : (w.alloc (.cells #[.int .i64 L, .slice qa l.length qc] 34)).cell? ⟨w.heap.size, 1, none⟩ = some (.slice qa l.length qc) := by simp [go_sem]
  clear hl ho hin hlid
  go_enter Try.func11, Try.ntmps11
  go_wp2_with fail
  go_loopw [5, 6] (fun s6 s5 wr => ∃ (k : Nat) (p : Int), s6 = .int .i64 p ∧ s5 = .int .i64 k ∧ k ≤ l.length ∧ 0 ≤ p ∧ p ≤ k * lid ∧ sumV O l = (sumV O (l.drop k)).map (p + ·) ∧ wr = w.alloc (.cells #[.int .i64 L, .slice qa l.length qc] 34)) (fun _ s _ => l.length - (intOf s).toNat)
  case atStart => exact ⟨0, 0, rfl, rfl, Nat.zero_le _, Int.le_refl _, by simp [lid], by rw [List.drop_zero]; cases sumV O l <;> simp, rfl⟩
  case round =>
    obtain ⟨k, p, rfl, rfl, hk, hp0, hp1, hS, rfl⟩ := hrel
    by_cases hlt : k < l.length
    · obtain ⟨b', o', hqa, hb', k3, k4⟩ := HL.out k hlt
      subst hqa
      have hmem : l.getD k (false, 0) ∈ l := by simp [List.getD, hlt]
      have hr := HI.out _ hmem
      obtain ⟨⟨t, v⟩, hs⟩ : ∃ x, l.getD k (false, 0) = x := ⟨_, rfl⟩
      have hS' := sumV_drop hlt hs hS
      rw [hs] at k3 k4 hr
      have k4' : (w.alloc (.cells #[.int .i64 L, .slice (some ⟨b', o', none⟩) l.length qc] 34)).cell? ⟨b', o' + k * 2 + 1, none⟩ = some (.int .i64 v) := by rw [Nat.add_assoc]; exact k4
      have j0 : (0 : Int) ≤ (k : Int) := Int.natCast_nonneg _
      have j1 : (k : Int) < (l.length : Int) := by omega
      have hk8 : (k : Int) ≤ 8 := by omega
      have hp2 : p ≤ 8000000000 := by unfold lid at hp1; omega
      have HS : Hid (sumV O l = if t then (sumV O (l.drop (k + 1))).map ((p + 1) + ·) else if O.getD v.toNat 0 < 0 then none else (sumV O (l.drop (k + 1))).map ((p + O.getD v.toNat 0) + ·)) := hS'
      clear hS hS' hs hmem k4
      cases t with
      | true =>
        go_wp2_with fail
        go_roundw
        case rel => exact ⟨k + 1, p + 1, by go_num, by go_num, by omega, by omega, by unfold lid at *; omega, by simpa using HS.out, by trivial⟩
        case measure => simp [intOf]; omega
      | false =>
        have hr' : 0 ≤ v ∧ v < (N : Int) := hr rfl
        clear hr
        obtain ⟨y, rfl⟩ : ∃ y : Nat, v = y := ⟨v.toNat, by omega⟩
        obtain ⟨ob, oo, oc', hoe, _, d1⟩ := HO.out.2 y (by omega)
        cases hoe
        have hlv := HLid.out y (by omega)
        have i0 : (0 : Int) ≤ (y : Int) := Int.natCast_nonneg _
        have i1 : (y : Int) < (O.length : Int) := by omega
        simp only [Bool.false_eq_true, if_false, Int.toNat_natCast] at HS
        obtain ⟨x, hx⟩ : ∃ x, O.getD y 0 = x := ⟨_, rfl⟩
        rw [hx] at d1 hlv HS
        clear hx hr'
        by_cases hneg : x < 0
        · have HR : Hid (ruleV O l = -1) := by
            have := HS.out
            rw [if_pos hneg] at this
            show ruleV O l = -1
            unfold ruleV
            rw [this]
          go_wp2_with fail
          go_ret
          exact ⟨by rw [HR.out]; rfl, HB.out⟩
        · have HX0 : Hid (0 ≤ x) := by show 0 ≤ x; omega
          have hw : IntKind.i64.wrap (p + x) = p + x := IntWalk.i64_in _ (by unfold lid at hlv; omega)
          have hneg' : decide (x < 0) = false := decide_eq_false hneg
          have HS2 : Hid (sumV O l = (sumV O (l.drop (k + 1))).map ((p + x) + ·)) := by
            have := HS.out
            rw [if_neg hneg] at this
            exact this
          go_wp2_with fail
          go_roundw
          case rel => exact ⟨k + 1, p + x, rfl, by go_num, by omega, by have := HX0.out; omega, by unfold lid at *; omega, HS2.out, by trivial⟩
          case measure => simp [intOf]; omega
    · obtain rfl : k = l.length := by omega
      have HR : Hid (ruleV O l = min p lid) := by
        show ruleV O l = min p lid
        unfold ruleV
        rw [hS, List.drop_length]
        simp [sumV]
      clear hS
      by_cases hgt : 1000000000 < p
      · have HR2 : Hid (ruleV O l = 1000000000) := by show ruleV O l = _; rw [HR.out]; unfold lid; omega
        go_wp2_with fail
        go_ret
        exact ⟨by rw [HR2.out]; rfl, HB.out⟩
      · have hgt' : decide (1000000000 < p) = false := decide_eq_false hgt
        have HR2 : Hid (ruleV O l = p) := by show ruleV O l = _; rw [HR.out]; unfold lid; omega
        go_wp2_with fail
        go_ret
        exact ⟨by rw [HR2.out]; rfl, HB.out⟩

theorem Told.le_lid {N : Nat} {R : List Ru} {O : List Int} (h : Told N R O) (i : Nat) (hi : i < N) : O.getD i 0 ≤ lid := by
  by_cases h0 : O.getD i 0 < 0
  · unfold lid; omega
  · exact (Can_range (h.some i hi (by omega)).1).2

/-- While the shortest yields are looked for. -/
structure SR4 (w : World) (N : Nat) (rv : Value) (T : Int) (O : List Int) (wr : World) : Prop where
  below : Below (w.heap.size + 1) (w.alloc (.cells #[.int .i64 T, .int .i64 N, rv] 24)) wr
  row : RowI wr (w.heap.size + 1) (w.heap.size + 1) N O

set_option maxRecDepth 100000 in
set_option maxHeartbeats 3200000 in
theorem of4_any {w : World} {T N : Nat} {rv : Value} {R : List Ru} (hr : RulesAt w w.heap.size rv R) (hm : mayB T N R = true) (hf : Fine T N R) :
    Calls Try.prog 7 #[.agg #[.int .i64 T, .int .i64 N, rv]] w fun e w' => ∃ O, e = .returned (.slice (some ⟨w.heap.size + 1, 0, none⟩) N N) ∧ Below w.heap.size w w' ∧ RowI w' (w.heap.size + 1) (w.heap.size + 1) N O ∧ IsShort N R O := by
  obtain ⟨hT, hN1, hN, hRl, hfine⟩ := may_fine hm
  have HR : Hid (RulesAt w w.heap.size rv R) := hr
  have HF : Hid (Fine T N R) := hf
  have HQ : Hid (∀ q, q < R.length → (R.getD q (0, [])).2.length ≤ 8) := fun q hq => (hfine q hq).2.2.1
  obtain ⟨ra, rc, hrv⟩ := hr.1
  subst hrv
  have mkN := make_ints N (by omega)
  have hrow := rowI_made (w.alloc (.cells #[.int .i64 T, .int .i64 N, .slice ra R.length rc] 24)) (N := N) (by unfold maxLen; omega)
  simp only [World.size_alloc] at hrow
  have HS0 : Hid (SR4 w N (.slice ra R.length rc) T (List.replicate N 0) ((w.alloc (.cells #[.int .i64 T, .int .i64 N, .slice ra R.length rc] 24)).alloc (.cells (madeCells #[.int .i64 0] N) 3))) := ⟨(Below.refl _ _).alloc (by simp) _, hrow⟩
  have HBX : Hid (∀ wr, Below (w.heap.size + 1) (w.alloc (.cells #[.int .i64 T, .int .i64 N, .slice ra R.length rc] 24)) wr → Below w.heap.size w wr ∧ wr.cell? ⟨w.heap.size, 2, none⟩ = some (.slice ra R.length rc) ∧ w.heap.size + 1 ≤ wr.heap.size) := fun wr hB =>
    ⟨((Below.refl _ _).alloc (Nat.le_refl _) _).trans (hB.mono (by omega)), (hB.cell (by simp)).trans (by simp [go_sem]), by have := hB.size; simpa using this⟩
  clear hr hm hf hfine hrow
  go_enter Try.func7, Try.ntmps7
  go_wp2_with fail
  clear mkN
  go_loopw [4] (fun s wr => ∃ k : Nat, s = .int .i64 k ∧ k ≤ N ∧ SR4 w N (.slice ra R.length rc) T (List.replicate k (-1) ++ List.replicate (N - k) 0) wr) (fun s _ => N - (intOf s).toNat)
  case atStart => exact ⟨0, rfl, Nat.zero_le _, by simpa using HS0.out⟩
  case round =>
    clear HS0
    obtain ⟨k, rfl, hk, hS⟩ := hrel
    have HS : Hid (SR4 w N (.slice ra R.length rc) T (List.replicate k (-1) ++ List.replicate (N - k) 0) wr) := hS
    by_cases hlt : k < N
    · obtain ⟨c1, c2⟩ := hS.row.cell hlt
      have i0 : (0 : Int) ≤ (k : Int) := Int.natCast_nonneg _
      have i1 : (k : Int) < (N : Int) := by omega
      have HE : Hid ((List.replicate k (-1 : Int) ++ List.replicate (N - k) 0).set k (-1) = List.replicate (k + 1) (-1) ++ List.replicate (N - (k + 1)) 0) := by
        show (List.replicate k (-1 : Int) ++ List.replicate (N - k) 0).set k (-1) = _
        obtain ⟨d, hd⟩ : ∃ d, N - k = d + 1 := ⟨N - k - 1, by omega⟩
        rw [hd, show N - (k + 1) = d by omega, List.set_append_right _ _ (by simp), List.length_replicate, Nat.sub_self, List.replicate_succ (n := d), List.set_cons_zero, List.replicate_succ' (n := k)]
        simp
      obtain ⟨x, hx⟩ : ∃ x, (List.replicate k (-1 : Int) ++ List.replicate (N - k) 0).getD k 0 = x := ⟨_, rfl⟩
      rw [hx] at c1
      clear hS hx
      go_wp2_with fail
      go_roundw
      case rel => exact ⟨k + 1, by go_num, by omega, HS.out.below.setCell (by simp) _, by rw [← HE.out]; exact HS.out.row.set k (-1)⟩
      case measure => simp [intOf]; omega
    · obtain rfl : k = N := by omega
      have h1 : SR4 w k (.slice ra R.length rc) T (List.replicate k (-1)) wr := by simpa using hS
      have HS1 : Hid (SR4 w k (.slice ra R.length rc) T (List.replicate k (-1)) wr) := h1
      clear hS HS h1
      go_wp2_with fail
      go_loopg [] k (fun n wq => ∃ O, n = unset O ∧ Told k R O ∧ SR4 w k (.slice ra R.length rc) T O wq)
      case atStart => exact ⟨List.replicate k (-1), by simp [unset], told_start k R, HS1.out⟩
      case round =>
        clear HS1
        obtain ⟨O, hn, hTold, hS⟩ := hrel
        have HG : Hid (gk = unset O) := hn
        have HT : Hid (Told k R O) := hTold
        have HS : Hid (SR4 w k (.slice ra R.length rc) T O wr) := hS
        obtain ⟨w3, hw3⟩ : ∃ w3, w3 = wr := ⟨_, rfl⟩
        subst hw3
        clear hn hTold hS
        go_wp2_with fail
        go_loopw [5, 6, 7] (fun s5 s6 s7 wq => ∃ j : Nat, s5 = .int .i64 (loopN j (pickS R O) (-1, -1)).1 ∧ s6 = .int .i64 (loopN j (pickS R O) (-1, -1)).2 ∧ s7 = .int .i64 j ∧ j ≤ R.length ∧ Below w3.heap.size w3 wq) (fun _ _ s _ => R.length - (intOf s).toNat)
        case atStart => exact ⟨0, rfl, rfl, rfl, Nat.zero_le _, Below.refl _ _⟩
        case round =>
          obtain ⟨j, rfl, rfl, rfl, hj, hB⟩ := hrel
          obtain ⟨⟨b, who⟩, hp⟩ : ∃ p, loopN j (pickS R O) (-1, -1) = p := ⟨_, rfl⟩
          have HPk : Hid (loopN j (pickS R O) (-1, -1) = (b, who)) := hp
          rw [hp]
          have HB : Hid (Below w3.heap.size w3 wr) := hB
          have hB0 : Below (w.heap.size + 1) (w.alloc (.cells #[.int .i64 T, .int .i64 k, .slice ra R.length rc] 24)) wr := HS.out.below.trans (hB.mono (HBX.out _ HS.out.below).2.2)
          obtain ⟨hBw, b2, hsz⟩ := HBX.out wr hB0
          have hRow : RowI wr (w.heap.size + 1) (w.heap.size + 1) k O := HS.out.row.below hB
          have HRow : Hid (RowI wr (w.heap.size + 1) (w.heap.size + 1) k O) := hRow
          have HBw : Hid (Below w.heap.size w wr) := hBw
          clear hp hB hB0
          by_cases hlt : j < R.length
          · have hmem : R.getD j (0, []) ∈ R := by simp [List.getD, hlt]
            have hL := HF.out.left _ hmem
            have hin := HF.out.name _ hmem
            have h8 := HQ.out j hlt
            obtain ⟨rb, ro, rc', qa, qc, hv, hb, k1, k2, hqc, k3⟩ := (HR.out.below hBw).2 j hlt
            cases hv
            have hstep : loopN (j + 1) (pickS R O) (-1, -1) = pickS R O j (b, who) := by rw [← HPk.out]; rfl
            unfold pickS at hstep
            obtain ⟨⟨L, Rt⟩, hre⟩ : ∃ x, R.getD j (0, []) = x := ⟨_, rfl⟩
            rw [hre] at k1 k2 k3 hqc hL hin h8 hstep
            simp only at k1 k2 k3 hqc hL hin h8 hstep
            obtain ⟨l, rfl⟩ : ∃ l : Nat, L = l := ⟨L.toNat, by omega⟩
            simp only [Int.toNat_natCast] at hstep
            have hlN : l < k := by omega
            have k2' : wr.cell? ⟨rb, ro + j * 2 + 1, none⟩ = some (.slice qa Rt.length qc) := by rw [Nat.add_assoc]; exact k2
            obtain ⟨c1, _⟩ := hRow.cell hlN
            have hgl := World.block_lt_of_cell? wr _ c1
            have c1' : (wr.alloc (.cells #[.int .i64 l, .slice qa Rt.length qc] 34)).cell? ⟨w.heap.size + 1, l, none⟩ = some (.int .i64 (O.getD l 0)) := by rw [World.cell?_alloc_past _ _ _ hgl]; exact c1
            have i0 : (0 : Int) ≤ (j : Int) := Int.natCast_nonneg _
            have i1 : (j : Int) < (R.length : Int) := by omega
            have i2 : (0 : Int) ≤ (l : Int) := Int.natCast_nonneg _
            have i3 : (l : Int) < (k : Int) := by omega
            have call := rule4_any (w := wr.alloc (.cells #[.int .i64 l, .slice qa Rt.length qc] 34)) (lim := w.heap.size) (qc := qc) (L := l) (N := k) (O := O) (RightAt.below (w := wr) k3 ((Below.refl _ _).alloc (by omega) _)) (by simp; omega) (hRow.list.boxed _) hRow.len hin (fun i hi => HT.out.le_lid i hi) h8
            have HA : Hid (Below w3.heap.size w3 (wr.alloc (.cells #[.int .i64 l, .slice qa Rt.length qc] 34))) := HB.out.alloc HB.out.size _
            have hrng := ruleV_range (R := R) (fun n hn h => (HT.out.some n hn h).1) hin
            have HSt : Hid (loopN (j + 1) (pickS R O) (-1, -1) = if 0 ≤ O.getD l 0 then (b, who) else if 0 ≤ ruleV O Rt ∧ (b < 0 ∨ ruleV O Rt < b) then (ruleV O Rt, (l : Int)) else (b, who)) := hstep
            obtain ⟨x, hx⟩ : ∃ x, O.getD l 0 = x := ⟨_, rfl⟩
            obtain ⟨y, hy⟩ : ∃ y, ruleV O Rt = y := ⟨_, rfl⟩
            rw [hx] at c1' HSt
            rw [hy] at HSt call hrng
            clear hx hy hstep hre k2 k3 hqc hin hmem hBw hRow c1 hgl hrng
            by_cases hx0 : 0 ≤ x
            · have HE : Hid (loopN (j + 1) (pickS R O) (-1, -1) = (b, who)) := by show loopN (j + 1) _ _ = _; rw [HSt.out, if_pos hx0]
              clear call HSt
              go_wp2_with fail
              go_roundw
              case rel => exact ⟨j + 1, by rw [HE.out], by rw [HE.out], by go_num, by omega, HA.out⟩
              case measure => simp [intOf]; omega
            · have hx1 : decide (0 ≤ x) = false := decide_eq_false hx0
              by_cases hy0 : 0 ≤ y
              · by_cases hb0 : b < 0
                · have HE : Hid (loopN (j + 1) (pickS R O) (-1, -1) = (y, (l : Int))) := by show loopN (j + 1) _ _ = _; rw [HSt.out, if_neg hx0, if_pos ⟨hy0, .inl hb0⟩]
                  clear HSt
                  go_wp2_with
                    (go_at_call 11; refine call.mono ?_; rintro e w5 ⟨rfl, hB5⟩
                     have q0 : w5.cell? ⟨wr.heap.size, 0, none⟩ = some (.int .i64 l) := (hB5.cell (by simp)).trans (by simp [go_sem])
                     have HA5 : Hid (Below w3.heap.size w3 w5) := HA.out.trans (hB5.mono HA.out.size)
                     clear hB5)
                  go_roundw
                  case rel => exact ⟨j + 1, by rw [HE.out], by rw [HE.out], by go_num, by omega, HA5.out⟩
                  case measure => simp [intOf]; omega
                · have hb1 : decide (b < 0) = false := decide_eq_false hb0
                  by_cases hyb : y < b
                  · have HE : Hid (loopN (j + 1) (pickS R O) (-1, -1) = (y, (l : Int))) := by show loopN (j + 1) _ _ = _; rw [HSt.out, if_neg hx0, if_pos ⟨hy0, .inr hyb⟩]
                    clear HSt
                    go_wp2_with
                      (go_at_call 11; refine call.mono ?_; rintro e w5 ⟨rfl, hB5⟩
                       have q0 : w5.cell? ⟨wr.heap.size, 0, none⟩ = some (.int .i64 l) := (hB5.cell (by simp)).trans (by simp [go_sem])
                       have HA5 : Hid (Below w3.heap.size w3 w5) := HA.out.trans (hB5.mono HA.out.size)
                       clear hB5)
                    go_roundw
                    case rel => exact ⟨j + 1, by rw [HE.out], by rw [HE.out], by go_num, by omega, HA5.out⟩
                    case measure => simp [intOf]; omega
                  · have hyb1 : decide (y < b) = false := decide_eq_false hyb
                    have HE : Hid (loopN (j + 1) (pickS R O) (-1, -1) = (b, who)) := by show loopN (j + 1) _ _ = _; rw [HSt.out, if_neg hx0, if_neg (by rintro ⟨_, h | h⟩ <;> omega)]
                    clear HSt
                    go_wp2_with
                      (go_at_call 11; refine call.mono ?_; rintro e w5 ⟨rfl, hB5⟩
                       have HA5 : Hid (Below w3.heap.size w3 w5) := HA.out.trans (hB5.mono HA.out.size)
                       clear hB5)
                    go_roundw
                    case rel => exact ⟨j + 1, by rw [HE.out], by rw [HE.out], by go_num, by omega, HA5.out⟩
                    case measure => simp [intOf]; omega
              · have hy1 : decide (0 ≤ y) = false := decide_eq_false hy0
                have HE : Hid (loopN (j + 1) (pickS R O) (-1, -1) = (b, who)) := by show loopN (j + 1) _ _ = _; rw [HSt.out, if_neg hx0, if_neg (fun h => hy0 h.1)]
                clear HSt
                go_wp2_with
                  (go_at_call 11; refine call.mono ?_; rintro e w5 ⟨rfl, hB5⟩
                   have HA5 : Hid (Below w3.heap.size w3 w5) := HA.out.trans (hB5.mono HA.out.size)
                   clear hB5)
                go_roundw
                case rel => exact ⟨j + 1, by rw [HE.out], by rw [HE.out], by go_num, by omega, HA5.out⟩
                case measure => simp [intOf]; omega
          · obtain rfl : j = R.length := by omega
            have hpk : pickA R O = (b, who) := HPk.out
            by_cases hw0 : who < 0
            · have HD : Hid (IsShort k R O) := pick_done HF.out HT.out (by rw [hpk]; exact hw0)
              clear hpk hRow hBw
              go_wp2_with fail
              go_ret
              exact ⟨O, rfl, HBw.out, HRow.out, HD.out⟩
            · have hw1 : decide (who < 0) = false := decide_eq_false hw0
              have hnx := pick_next HF.out HT.out (by rw [hpk]; simp only; omega)
              rw [hpk] at hnx
              simp only at hnx
              obtain ⟨n, rfl⟩ : ∃ n : Nat, who = n := ⟨who.toNat, by omega⟩
              simp only [Int.toNat_natCast] at hnx
              obtain ⟨hn1, hn2, hn3, hn4, hn5⟩ := hnx
              obtain ⟨c1, c2⟩ := hRow.cell (m := n) (by omega)
              have i0 : (0 : Int) ≤ (n : Int) := Int.natCast_nonneg _
              have HN4 : Hid (Told k R (O.set n b) ∧ unset (O.set n b) < unset O) := ⟨hn4, hn5⟩
              have HB0 : Hid (Below (w.heap.size + 1) (w.alloc (.cells #[.int .i64 T, .int .i64 k, .slice ra R.length rc] 24)) wr) := HS.out.below.trans (HB.out.mono (HBX.out _ HS.out.below).2.2)
              obtain ⟨x, hx⟩ : ∃ x, O.getD n 0 = x := ⟨_, rfl⟩
              rw [hx] at c1
              clear hpk hRow hBw hn4 hn5 hx
              go_wp2_with fail
              go_roundg (unset (O.set n b))
              case measure => rw [HG.out]; exact HN4.out.2
              case rel => exact ⟨_, rfl, HN4.out.1, HB0.out.setCell (by simp) _, HRow.out.set n b⟩

end Go.Proofs.Ytfgdiknbkoaniaa
