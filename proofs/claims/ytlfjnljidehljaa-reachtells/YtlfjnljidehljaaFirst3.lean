/- The contract of pollardingref3.first. -/
import Derived.Test.YtlfjnljidehljaaNull2
import Derived.Test.YtlfjnljidehljaaRowB
namespace Go.Proofs.Ytlfjnljidehljaa
open Go.RowKit

/-- The symbol k is the name b, and only names that are Null stand ahead of it. -/
def hitL (Nu : List Bool) (b : Int) (l : List Sy) (k : Nat) : Bool := (!(l.getD k (false, 0)).1 && decide ((l.getD k (false, 0)).2 = b)) && nullB Nu (l.take k)
def headL (Nu : List Bool) (b : Int) (l : List Sy) : Bool := (List.range l.length).any (hitL Nu b l)
def firstB (R : List Ru) (Nu : List Bool) (a b : Int) : Bool := (List.range R.length).any fun i => decide ((R.getD i (0, [])).1 = a) && headL Nu b (R.getD i (0, [])).2

theorem headL_stop {Nu : List Bool} {b : Int} {l : List Sy} {k : Nat} (h : (List.range k).any (hitL Nu b l) = false) (hn : nullB Nu (l.take k) = false) : headL Nu b l = false := by
  unfold headL
  rw [List.any_eq_false] at *
  intro j _
  by_cases hj : j < k
  · exact h j (List.mem_range.2 hj)
  · have := nullB_longer Nu l (j := j) (by omega) hn
    simp [hitL, this]

theorem headL_hit {Nu : List Bool} {b : Int} {l : List Sy} {k : Nat} (hk : k < l.length) (h : hitL Nu b l k = true) : headL Nu b l = true := by
  unfold headL
  rw [List.any_eq_true]
  exact ⟨k, List.mem_range.2 hk, h⟩

set_option maxRecDepth 100000 in
set_option maxHeartbeats 3200000 in
theorem first3_any {w : World} {T N : Nat} {a b : Int} {rv nv : Value} {fa ga : Option Addr} {fl fc gl gc : Nat} {R : List Ru} {Nu : List Bool} (hr : RulesAt w w.heap.size rv R) (hX : BoolsAt w nv Nu) (hm : mayB T N R = true) (hNu : Nu.length = N) :
    Calls Try.prog 23 #[.agg #[.int .i64 T, .int .i64 N, rv], .agg #[nv, .slice fa fl fc, .slice ga gl gc], .int .i64 a, .int .i64 b] w fun e w' => e = .returned (.bool (firstB R Nu a b)) ∧ Below w.heap.size w w' := by
  obtain ⟨hT, hN1, hN, hRl, hfine⟩ := may_fine hm
  have HM : Hid (∀ i, i < R.length → 0 ≤ (R.getD i (0, [])).1 ∧ (R.getD i (0, [])).1 < (N : Int) ∧ (R.getD i (0, [])).2.length ≤ 8 ∧
      ∀ s ∈ (R.getD i (0, [])).2, 0 ≤ s.2 ∧ s.2 < if s.1 then (T : Int) else (N : Int)) := hfine
  have HR : Hid (RulesAt w w.heap.size rv R) := hr
  have HX : Hid (BoolsAt w nv Nu) := hX
  have HNu : Hid (Nu.length = N) := hNu
  obtain ⟨ra, rc, rfl⟩ := hr.1
  obtain ⟨na, nc, hnv⟩ := hX.1
  rw [hNu] at hnv
  subst hnv
  clear hr hm hfine hX hNu
  go_enter Try.func23, Try.ntmps23
  go_wp2_with fail
  have HBX : Hid (∀ wr, Below (w.heap.size + 2) ((w.alloc (.cells #[.int .i64 T, .int .i64 N, .slice ra R.length rc] 24)).alloc (.cells #[.slice na N nc, .slice fa fl fc, .slice ga gl gc] 43)) wr →
      Below w.heap.size w wr ∧ w.heap.size + 2 ≤ wr.heap.size ∧ wr.cell? ⟨w.heap.size, 2, none⟩ = some (.slice ra R.length rc) ∧ wr.cell? ⟨w.heap.size + 1, 0, none⟩ = some (.slice na N nc)) := fun wr hB =>
    ⟨(((Below.refl _ _).alloc (Nat.le_refl _) _).alloc (by simp) _).trans (hB.mono (by omega)), by have := hB.size; simp at this; omega, (hB.cell (by simp)).trans (by simp [go_sem]), (hB.cell (by simp)).trans (by simp [go_sem])⟩
  go_loopw [9] (fun i wr => ∃ j : Nat, i = .int .i64 j ∧ j ≤ R.length ∧ ((List.range j).any fun i => decide ((R.getD i (0, [])).1 = a) && headL Nu b (R.getD i (0, [])).2) = false ∧
      Below (w.heap.size + 2) ((w.alloc (.cells #[.int .i64 T, .int .i64 N, .slice ra R.length rc] 24)).alloc (.cells #[.slice na N nc, .slice fa fl fc, .slice ga gl gc] 43)) wr) (fun i _ => R.length - (intOf i).toNat)
  case atStart => exact ⟨0, rfl, Nat.zero_le _, rfl, Below.refl _ _⟩
  case round =>
    obtain ⟨j, rfl, hj, hany, hB⟩ := hrel
    have HA : Hid (((List.range j).any fun i => decide ((R.getD i (0, [])).1 = a) && headL Nu b (R.getD i (0, [])).2) = false) := hany
    have HB : Hid (Below (w.heap.size + 2) ((w.alloc (.cells #[.int .i64 T, .int .i64 N, .slice ra R.length rc] 24)).alloc (.cells #[.slice na N nc, .slice fa fl fc, .slice ga gl gc] 43)) wr) := hB
    obtain ⟨hBw, hsz, b2, s0⟩ := HBX.out wr hB
    have HBw : Hid (Below w.heap.size w wr) := hBw
    clear hany hB hBw
    by_cases hjl : j < R.length
    · obtain ⟨rb, ro, rc', qa, qc, hv, hb, y1, y2, hsy⟩ := HR.out.syms hjl
      cases hv
      have k1 := (HBw.out.cell (p := ⟨rb, ro + j * 2, none⟩) hb).trans y1
      have k2 := (HBw.out.cell (p := ⟨rb, ro + j * 2 + 1, none⟩) hb).trans y2
      obtain ⟨f1, f2, f3, f4⟩ := HM.out j hjl
      have HSU : Hid (((List.range (j + 1)).any fun i => decide ((R.getD i (0, [])).1 = a) && headL Nu b (R.getD i (0, [])).2) = (decide ((R.getD j (0, [])).1 = a) && headL Nu b (R.getD j (0, [])).2)) := by
        show (List.range (j + 1)).any _ = _
        rw [any_range_succ, HA.out, Bool.false_or]
      have HHit : Hid ((decide ((R.getD j (0, [])).1 = a) && headL Nu b (R.getD j (0, [])).2) = true → firstB R Nu a b = true) := fun h => by
        unfold firstB
        rw [List.any_eq_true]
        exact ⟨j, List.mem_range.2 hjl, h⟩
      obtain ⟨⟨L, Rt⟩, hre⟩ : ∃ x, R.getD j (0, []) = x := ⟨_, rfl⟩
      rw [hre] at k1 k2 f1 f2 f3 f4 hsy HSU HHit y1 y2
      simp only at k1 k2 f1 f2 f3 f4 hsy HSU HHit y1 y2
      have j0 : (0 : Int) ≤ (j : Int) := Int.natCast_nonneg _
      have j1 : (j : Int) < (R.length : Int) := by omega
      have HSY : Hid (SymsAt w (.slice qa Rt.length qc) Rt) := hsy
      have HF4 : Hid (∀ s ∈ Rt, 0 ≤ s.2 ∧ s.2 < if s.1 then (T : Int) else (N : Int)) := f4
      have HY : Hid (w.cell? ⟨rb, ro + j * 2 + 1, none⟩ = some (.slice qa Rt.length qc) ∧ rb < w.heap.size) := ⟨y2, hb⟩
      clear hre f1 f2 f4 hsy y1 y2
      by_cases hLa : L = a
      · subst hLa
        simp only [decide_true, Bool.true_and] at HSU HHit
        go_wp2_with fail
        clear k1 k2 b2 s0
        go_loopw [10, 11] (fun h i wq => ∃ k : Nat, i = .int .i64 k ∧ k ≤ Rt.length ∧ h = .bool (nullB Nu (Rt.take k)) ∧ (List.range k).any (hitL Nu b Rt) = false ∧
          Below (w.heap.size + 2) ((w.alloc (.cells #[.int .i64 T, .int .i64 N, .slice (some ⟨rb, ro, none⟩) R.length rc] 24)).alloc (.cells #[.slice na N nc, .slice fa fl fc, .slice ga gl gc] 43)) wq) (fun _ i _ => Rt.length - (intOf i).toNat)
        case atStart => exact ⟨0, rfl, Nat.zero_le _, rfl, rfl, HB.out⟩
        case round =>
          clear HB HBw
          obtain ⟨k, rfl, hk, rfl, hno, hB⟩ := hrel
          have HNo : Hid ((List.range k).any (hitL Nu b Rt) = false) := hno
          have HB : Hid (Below (w.heap.size + 2) ((w.alloc (.cells #[.int .i64 T, .int .i64 N, .slice (some ⟨rb, ro, none⟩) R.length rc] 24)).alloc (.cells #[.slice na N nc, .slice fa fl fc, .slice ga gl gc] 43)) wr) := hB
          obtain ⟨hBw, hsz, b2, s0⟩ := HBX.out wr hB
          have HBw : Hid (Below w.heap.size w wr) := hBw
          have k2 := (hBw.cell (p := ⟨rb, ro + j * 2 + 1, none⟩) HY.out.2).trans HY.out.1
          clear hno hB hBw
          cases hnb : nullB Nu (Rt.take k) with
          | false =>
            have HZ : Hid (((List.range (j + 1)).any fun i => decide ((R.getD i (0, [])).1 = L) && headL Nu b (R.getD i (0, [])).2) = false) := by
              show (List.range (j + 1)).any _ = false
              rw [HSU.out]; exact headL_stop HNo.out hnb
            clear hnb
            by_cases hkl : k < Rt.length
            · go_wp2_with fail
              go_roundw
              case rel => exact ⟨j + 1, by go_num, by omega, HZ.out, HB.out⟩
              case measure => simp [intOf]; omega
            · go_wp2_with fail
              go_roundw
              case rel => exact ⟨j + 1, by go_num, by omega, HZ.out, HB.out⟩
              case measure => simp [intOf]; omega
          | true =>
            have HNb : Hid (nullB Nu (Rt.take k) = true) := hnb
            clear hnb
            by_cases hkl : k < Rt.length
            · obtain ⟨b', o', c', hv, z1, z2⟩ := HSY.out.2 k hkl
              cases hv
              have hmem : Rt.getD k (false, 0) ∈ Rt := by simp [List.getD, hkl]
              have hin := HF4.out _ hmem
              have hst : (List.range (k + 1)).any (hitL Nu b Rt) = (!(Rt.getD k (false, 0)).1 && decide ((Rt.getD k (false, 0)).2 = b)) := by
                rw [any_range_succ, HNo.out, Bool.false_or, hitL, HNb.out, Bool.and_true]
              have hhit : (!(Rt.getD k (false, 0)).1 && decide ((Rt.getD k (false, 0)).2 = b)) = true → firstB R Nu L b = true := fun h => HHit.out (headL_hit hkl (by rw [hitL, HNb.out, Bool.and_true]; exact h))
              have hnt := nullB_take Nu Rt k hkl
              rw [HNb.out, Bool.true_and] at hnt
              obtain ⟨⟨t, v⟩, hsk⟩ : ∃ x, Rt.getD k (false, 0) = x := ⟨_, rfl⟩
              rw [hsk] at z1 z2 hin hst hhit hnt
              simp only at hin hst hhit hnt
              have z1' := (HBw.out.cell (p := ⟨b', o' + k * 2, none⟩) (World.block_lt_of_cell? w _ z1)).trans z1
              have z2' := (HBw.out.cell (p := ⟨b', o' + k * 2 + 1, none⟩) (World.block_lt_of_cell? w _ z2)).trans z2
              have i0 : (0 : Int) ≤ (k : Int) := Int.natCast_nonneg _
              have i1 : (k : Int) < (Rt.length : Int) := by omega
              have HST : Hid ((List.range (k + 1)).any (hitL Nu b Rt) = (!t && decide (v = b))) := hst
              have HHI : Hid ((!t && decide (v = b)) = true → firstB R Nu L b = true) := hhit
              have HNT : Hid (nullB Nu (Rt.take (k + 1)) = (!t && Nu.getD v.toNat false)) := hnt
              clear hmem hsk hst hhit hnt z1 z2
              cases t with
              | true =>
                have HNT' : Hid (nullB Nu (Rt.take (k + 1)) = false) := by show nullB Nu (Rt.take (k + 1)) = false; rw [HNT.out]; rfl
                clear hin
                go_wp2_with fail
                go_roundw
                case rel => exact ⟨k + 1, by go_num, by omega, by rw [HNT'.out], by rw [HST.out]; rfl, HB.out.alloc (by omega) _⟩
                case measure => simp [intOf]; omega
              | false =>
                have hvN : 0 ≤ v ∧ v < (N : Int) := by simpa using hin
                clear hin
                obtain ⟨y, rfl⟩ : ∃ y : Nat, v = y := ⟨v.toNat, by omega⟩
                by_cases hyb : (y : Int) = b
                · subst hyb
                  have HF : Hid (firstB R Nu L y = true) := HHI.out (by simp)
                  go_wp2_with fail
                  go_ret
                  exact ⟨by rw [HF.out]; rfl, HBw.out.alloc (by omega) _⟩
                · obtain ⟨g, o2, c', hv, z3⟩ := HX.out.2 y (by rw [HNu.out]; omega)
                  rw [HNu.out] at hv
                  cases hv
                  have z3' := (HBw.out.cell (p := ⟨g, o2 + y, none⟩) (World.block_lt_of_cell? w _ z3)).trans z3
                  have i2 : (0 : Int) ≤ (y : Int) := Int.natCast_nonneg _
                  have i3 : (y : Int) < (N : Int) := by omega
                  have n0 : (wr.alloc (.cells #[.bool false, .int .i64 y] 48)).cell? ⟨w.heap.size + 1, 0, none⟩ = some (.slice (some ⟨g, o2, none⟩) N nc) := by rw [World.cell?_alloc_past _ _ _ (by omega)]; exact s0
                  have n1 : (wr.alloc (.cells #[.bool false, .int .i64 y] 48)).cell? ⟨g, o2 + y, none⟩ = some (.bool (Nu.getD y false)) := by rw [World.cell?_alloc_past _ _ _ (World.block_lt_of_cell? wr _ z3')]; exact z3'
                  have HNT' : Hid (nullB Nu (Rt.take (k + 1)) = Nu.getD y false) := by show nullB Nu (Rt.take (k + 1)) = _; rw [HNT.out]; simp
                  have HST' : Hid ((List.range (k + 1)).any (hitL Nu b Rt) = false) := by show (List.range (k + 1)).any (hitL Nu b Rt) = false; rw [HST.out]; simp [hyb]
                  obtain ⟨z, hz⟩ : ∃ z, Nu.getD y false = z := ⟨_, rfl⟩
                  rw [hz] at n1 HNT'
                  clear hz z3 z3' s0
                  cases z with
                  | true =>
                    go_wp2_with fail
                    go_roundw
                    case rel => exact ⟨k + 1, by go_num, by omega, by rw [HNT'.out], HST'.out, HB.out.alloc (by omega) _⟩
                    case measure => simp [intOf]; omega
                  | false =>
                    go_wp2_with fail
                    go_roundw
                    case rel => exact ⟨k + 1, by go_num, by omega, by rw [HNT'.out], HST'.out, HB.out.alloc (by omega) _⟩
                    case measure => simp [intOf]; omega
            · have HZ : Hid (((List.range (j + 1)).any fun i => decide ((R.getD i (0, [])).1 = L) && headL Nu b (R.getD i (0, [])).2) = false) := by
                show (List.range (j + 1)).any _ = false
                rw [HSU.out]
                unfold headL
                rw [show Rt.length = k by omega]
                exact HNo.out
              go_wp2_with fail
              go_roundw
              case rel => exact ⟨j + 1, by go_num, by omega, HZ.out, HB.out⟩
              case measure => simp [intOf]; omega
      · have HZ : Hid (((List.range (j + 1)).any fun i => decide ((R.getD i (0, [])).1 = a) && headL Nu b (R.getD i (0, [])).2) = false) := by
          show (List.range (j + 1)).any _ = false
          rw [HSU.out]; simp [hLa]
        go_wp2_with fail
        go_roundw
        case rel => exact ⟨j + 1, by go_num, by omega, HZ.out, HB.out⟩
        case measure => simp [intOf]; omega
    · have HZ : Hid (firstB R Nu a b = false) := by
        show firstB R Nu a b = false
        unfold firstB
        rw [show R.length = j by omega]
        exact HA.out
      go_wp2_with fail
      go_ret
      exact ⟨by rw [HZ.out]; rfl, HBw.out⟩

end Go.Proofs.Ytlfjnljidehljaa
