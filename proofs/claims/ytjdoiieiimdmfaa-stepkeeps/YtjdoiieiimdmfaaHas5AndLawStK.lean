import Derived.Test.YtjdoiieiimdmfaaYields5AndCyk5
import Derived.RegionTactic
import Derived.Test.YtjdoiieiimdmfaaStTakenAndWrong5
import Derived.Test.YtjdoiieiimdmfaaStepKeepAndStepAt2
/- The contract of pollardingref5.Has. -/
namespace Go.Proofs.Ytjdoiieiimdmfaa
open Go.RowKit

/-- While the table is made. -/
structure KB (W : World) (kg n N I J : Nat) (sz : Nat) (wr : World) : Prop where
  below : Below kg W wr
  size : wr.heap.size = sz
  own : Owns wr kg (Pk kg n N I J)

theorem kb_head {W wr : World} {kg n N I : Nat} (h : KB W kg n N I (n + 1) (kg + 1 + I * (n + 2)) wr) (hI : I ≤ n) (hn : n + 1 ≤ maxLen) :
    KB W kg n N (I + 1) 0 (kg + 1 + I * (n + 2) + 1 + 0) ((wr.alloc (.cells (madeCells #[.slice none 0 0] (n + 1)) 46)).setCell ⟨kg, I, none⟩ (.slice (some ⟨wr.heap.size, 0, none⟩) (n + 1) (n + 1))) := by
  have hs := h.size
  exact ⟨(h.below.alloc (by omega) _).setCell (by simp) _, by simp; omega, pk_head h.own hs hI hn⟩

theorem kb_row {W wr : World} {kg n N I J : Nat} (h : KB W kg n N (I + 1) J (kg + 1 + I * (n + 2) + 1 + J) wr) (hJ : J ≤ n) (hN : N ≤ maxLen) :
    KB W kg n N (I + 1) (J + 1) (kg + 1 + I * (n + 2) + 1 + (J + 1)) ((wr.alloc (.cells (madeCells #[.bool false] N) 4)).setCell ⟨kg + 1 + I * (n + 2), J, none⟩ (.slice (some ⟨wr.heap.size, 0, none⟩) N N)).drew := by
  have hs := h.size
  refine ⟨((h.below.alloc (by omega) _).setCell (by simp only; omega) _).drew, ?_, pk_row h.own hs hJ hN⟩
  show ((wr.alloc _).setCell _ _).heap.size = _
  simp
  omega

theorem KB.topCell {W wr : World} {kg n N I J sz : Nat} (h : KB W kg n N I J sz wr) {i : Nat} (hi : i ≤ n) : (∃ v, wr.cell? ⟨kg, i, none⟩ = some v) ∧ (i < I → wr.cell? ⟨kg, i, none⟩ = some (hv kg n i)) ∧ wr.frozen? ⟨kg, i, none⟩ = false := by
  have := h.own.cell (i := .top) (g := kg) (n := n + 1) (cap := n + 1) (e := 45) (size := 1) (xs := topL kg n I) rfl i (by omega)
  refine ⟨⟨_, by rw [this.1]; simp [topL, show i < n + 1 by omega]; rfl⟩, fun hI => by rw [this.1]; simp [topL, show i < n + 1 by omega, hI], this.2⟩

theorem KB.headCell {W wr : World} {kg n N I J sz : Nat} (h : KB W kg n N (I + 1) J sz wr) {j : Nat} (hj : j ≤ n) : (∃ v, wr.cell? ⟨kg + 1 + I * (n + 2), j, none⟩ = some v) ∧ wr.frozen? ⟨kg + 1 + I * (n + 2), j, none⟩ = false := by
  have := h.own.cell (i := .head I) (g := kg + 1 + I * (n + 2)) (n := n + 1) (cap := n + 1) (e := 46) (size := 1) (xs := headL' kg n N (I + 1) J I) (by simp [Pk, hv]) j (by omega)
  refine ⟨⟨_, by rw [this.1]; simp [headL', show j < n + 1 by omega]; rfl⟩, this.2⟩

theorem KB.alloc {W wr : World} {kg n N I J sz : Nat} (h : KB W kg n N I J sz wr) (hk : kg ≤ sz) (o : Obj) : KB W kg n N I J (sz + 1) (wr.alloc o) := ⟨h.below.alloc (by have := h.size; omega) o, by simp [h.size], h.own.alloc o⟩

set_option maxRecDepth 100000 in
set_option maxHeartbeats 6400000 in
theorem has5_any {w : World} {T N : Nat} {rv tv : Value} {R : List Ru} {tok : List Int} (hr : RulesAt w w.heap.size rv R) (ht : ListAt w w.heap.size tv tok) (hm : mayB T N R = true) (hf : Fine T N R) (hn : tok.length ≤ 30) :
    Calls Try.prog 7 #[.agg #[.int .i64 T, .int .i64 N, rv], tv] w fun e w' => ∃ z, e = .returned (.bool z) ∧ (z = true ↔ Der R 0 tok) ∧ Below w.heap.size w w' := by
  obtain ⟨hT, hN1, hN, hRl, hfine⟩ := may_fine hm
  obtain ⟨ra, rc, hrv⟩ := hr.1
  obtain ⟨ta, tc, htv⟩ := ht.1
  subst hrv
  subst htv
  obtain ⟨n, hn'⟩ : ∃ n, tok.length = n := ⟨_, rfl⟩
  have HF : Hid (Fine T N R) := hf
  have HQ : Hid (∀ q, q < R.length → (R.getD q (0, [])).2.length ≤ 8) := fun q hq => (hfine q hq).2.2.1
  have HBX : Hid (∀ wr, Below (w.heap.size + 1) (w.alloc (.cells #[.int .i64 T, .int .i64 N, .slice ra R.length rc] 24)) wr → Below w.heap.size w wr ∧ wr.cell? ⟨w.heap.size, 1, none⟩ = some (.int .i64 N) ∧ wr.cell? ⟨w.heap.size, 2, none⟩ = some (.slice ra R.length rc) ∧ RulesAt wr wr.heap.size (.slice ra R.length rc) R ∧ ListAt wr wr.heap.size (.slice ta tok.length tc) tok ∧ w.heap.size + 1 ≤ wr.heap.size) := fun wr hB => by
    have hB0 : Below w.heap.size w wr := ((Below.refl _ _).alloc (Nat.le_refl _) _).trans (hB.mono (by omega))
    exact ⟨hB0, (hB.cell (by simp)).trans (by simp [go_sem]), (hB.cell (by simp)).trans (by simp [go_sem]), (hr.below hB0).mono hB0.size, (ht.below hB0).mono hB0.size, by have := hB.size; simpa using this⟩
  have HTL : Hid (tok.length = n) := hn'
  rw [hn'] at hn
  have mkN := make_bools N (by omega)
  have mkT : ∀ u : World, (Instr.makeSlice 44 (.int .i64 ((n : Int) + 1)) (.int .i64 ((n : Int) + 1))).run Try.prog u = .ok (.slice (some ⟨u.heap.size, 0, none⟩) (n + 1) (n + 1)) (u.alloc (.cells (madeCells #[.slice none 0 0] (n + 1)) 45)) := fun u => by simpa using make_tops (n + 1) (by omega) u
  have mkH : ∀ u : World, (Instr.makeSlice 45 (.int .i64 ((n : Int) + 1)) (.int .i64 ((n : Int) + 1))).run Try.prog u = .ok (.slice (some ⟨u.heap.size, 0, none⟩) (n + 1) (n + 1)) (u.alloc (.cells (madeCells #[.slice none 0 0] (n + 1)) 46)) := fun u => by simpa using make_heads (n + 1) (by omega) u
  have hK0 : KB (w.alloc (.cells #[.int .i64 T, .int .i64 N, .slice ra R.length rc] 24)) (w.heap.size + 1) n N 0 (n + 1) (w.heap.size + 1 + 1 + 0 * (n + 2)) ((w.alloc (.cells #[.int .i64 T, .int .i64 N, .slice ra R.length rc] 24)).alloc (.cells (madeCells #[.slice none 0 0] (n + 1)) 45)) := by
    have := pk_start (w.alloc (.cells #[.int .i64 T, .int .i64 N, .slice ra R.length rc] 24)) n N (by unfold maxLen; omega)
    simp only [World.size_alloc] at this
    exact ⟨(Below.refl _ _).alloc (by simp) _, by simp, this⟩
  obtain ⟨WG, hWG⟩ : ∃ W, (w.alloc (.cells #[.int .i64 T, .int .i64 N, .slice ra R.length rc] 24)) = W := ⟨_, rfl⟩
  have HK0 : Hid (KB WG (w.heap.size + 1) n N 0 (n + 1) (w.heap.size + 1 + 1 + 0 * (n + 2)) ((w.alloc (.cells #[.int .i64 T, .int .i64 N, .slice ra R.length rc] 24)).alloc (.cells (madeCells #[.slice none 0 0] (n + 1)) 45))) := by rw [hWG] at hK0 ⊢; exact hK0
  rw [hWG] at HBX
  clear hWG
  clear hr ht hm hf hfine hK0
  rw [hn']
  clear hn'
  go_enter Try.func7, Try.ntmps7
  go_wp2_with fail
  clear mkT
  go_loopw [7] (fun s wr => ∃ i : Nat, s = .int .i64 i ∧ i ≤ n + 1 ∧ KB WG (w.heap.size + 1) n N i (n + 1) (w.heap.size + 1 + 1 + i * (n + 2)) wr) (fun s _ => n + 1 - (intOf s).toNat)
  case atStart => exact ⟨0, rfl, Nat.zero_le _, HK0.out⟩
  case round =>
    clear HK0
    obtain ⟨i, rfl, hi, hKB⟩ := hrel
    have HKB : Hid (KB WG (w.heap.size + 1) n N i (n + 1) (w.heap.size + 1 + 1 + i * (n + 2)) wr) := hKB
    by_cases hle : i ≤ n
    · have hKA := hKB.alloc (by omega) (.cells (madeCells #[.slice none 0 0] (n + 1)) 46)
      obtain ⟨⟨x, c1⟩, _, c2⟩ := hKA.topCell hle
      have i0 : (0 : Int) ≤ (i : Int) := Int.natCast_nonneg _
      have i1 : (i : Int) < (n : Int) + 1 := by omega
      have i2 : (i : Int) ≤ (n : Int) := by omega
      have HK1 : Hid (KB WG (w.heap.size + 1) n N (i + 1) 0 (w.heap.size + 1 + 1 + i * (n + 2) + 1 + 0) ((wr.alloc (.cells (madeCells #[.slice none 0 0] (n + 1)) 46)).setCell ⟨w.heap.size + 1, i, none⟩ (.slice (some ⟨wr.heap.size, 0, none⟩) (n + 1) (n + 1)))) := kb_head HKB.out hle (by unfold maxLen; omega)
      clear hKB hKA HKB
      go_wp2_with fail
      clear c1 c2
      go_loopw [8] (fun s wq => ∃ j : Nat, s = .int .i64 j ∧ j ≤ n + 1 ∧ KB WG (w.heap.size + 1) n N (i + 1) j (w.heap.size + 1 + 1 + i * (n + 2) + 1 + j) wq) (fun s _ => n + 1 - (intOf s).toNat)
      case atStart => exact ⟨0, rfl, Nat.zero_le _, HK1.out⟩
      case round =>
        clear HK1
        obtain ⟨j, rfl, hj, hKB⟩ := hrel
        have HKB : Hid (KB WG (w.heap.size + 1) n N (i + 1) j (w.heap.size + 1 + 1 + i * (n + 2) + 1 + j) wr) := hKB
        by_cases hjle : j ≤ n
        · obtain ⟨_, e1, _⟩ := hKB.topCell hle
          have c1 : wr.cell? ⟨w.heap.size + 1, i, none⟩ = some (.slice (some ⟨w.heap.size + 1 + 1 + i * (n + 2), 0, none⟩) (n + 1) (n + 1)) := e1 (by omega)
          have hKA := hKB.alloc (by omega) (.cells (madeCells #[.bool false] N) 4)
          obtain ⟨_, e2, _⟩ := hKA.topCell hle
          have c2 : (wr.alloc (.cells (madeCells #[.bool false] N) 4)).cell? ⟨w.heap.size + 1, i, none⟩ = some (.slice (some ⟨w.heap.size + 1 + 1 + i * (n + 2), 0, none⟩) (n + 1) (n + 1)) := e2 (by omega)
          obtain ⟨⟨x, c3⟩, c4⟩ := hKA.headCell hjle
          obtain ⟨_, b1, _, _, _, hsz⟩ := HBX.out wr hKB.below
          have b1' : (wr.alloc (.cells (madeCells #[.bool false] N) 4)).cell? ⟨w.heap.size, 1, none⟩ = some (.int .i64 N) := (World.cell?_alloc_past _ _ _ (by omega)).trans b1
          have k0 : (0 : Int) ≤ (j : Int) := Int.natCast_nonneg _
          have k1 : (j : Int) < (n : Int) + 1 := by omega
          have k2 : (j : Int) ≤ (n : Int) := by omega
          have HK2 : Hid (KB WG (w.heap.size + 1) n N (i + 1) (j + 1) (w.heap.size + 1 + 1 + i * (n + 2) + 1 + (j + 1)) ((wr.alloc (.cells (madeCells #[.bool false] N) 4)).setCell ⟨w.heap.size + 1 + 1 + i * (n + 2), j, none⟩ (.slice (some ⟨wr.heap.size, 0, none⟩) N N)).drew) := kb_row HKB.out hjle (by unfold maxLen; omega)
          clear hKB hKA e1 e2
          go_wp2_with fail
          go_region
          all_goals
            go_wp2_with fail
            go_roundw
          case rel => exact ⟨j + 1, by go_num, by omega, HK2.out⟩
          case measure => simp [intOf]; omega
        · obtain rfl : j = n + 1 := by omega
          have k2 : decide (((n : Int) + 1) ≤ (n : Int)) = false := decide_eq_false (by omega)
          have HK2 : Hid (KB WG (w.heap.size + 1) n N (i + 1) (n + 1) (w.heap.size + 1 + 1 + (i + 1) * (n + 2)) wr) := by
            have e : w.heap.size + 1 + 1 + i * (n + 2) + 1 + (n + 1) = w.heap.size + 1 + 1 + (i + 1) * (n + 2) := by rw [Nat.add_mul]; omega
            rw [e] at hKB
            exact hKB
          clear hKB HKB
          go_wp2_with fail
          go_roundw
          case rel => exact ⟨i + 1, by go_num, by omega, HK2.out⟩
          case measure => simp [intOf]; omega
    · obtain rfl : i = n + 1 := by omega
      have i2 : decide (((n : Int) + 1) ≤ (n : Int)) = false := decide_eq_false (by omega)
      have hKM := km_of hKB.own hKB.below (by rw [hKB.size]; omega)
      have HKM : Hid (KM WG (w.heap.size + 1) n N (fun _ => List.replicate N false) wr) := hKM
      clear hKB HKB hKM mkN mkH
      go_wp2_with fail
      go_loopw [9] (fun s wq => ∃ (S : Nat) (X : Ks), s = .int .i64 S ∧ S ≤ n + 1 ∧ Cyk R tok N S 0 X ∧ KM WG (w.heap.size + 1) n N X wq) (fun s _ => n + 1 - (intOf s).toNat)
      case atStart => exact ⟨0, _, rfl, Nat.zero_le _, cyk_start R tok N, HKM.out⟩
      case round =>
        clear HKM
        obtain ⟨S, X, rfl, hS, hC, hKM⟩ := hrel
        have HC : Hid (Cyk R tok N S 0 X) := hC
        have HKM : Hid (KM WG (w.heap.size + 1) n N X wr) := hKM
        by_cases hSn : S ≤ n
        · have s2 : (S : Int) ≤ (n : Int) := by omega
          clear hC hKM
          go_wp2_with fail
          go_loopw [10] (fun s wq => ∃ (F : Nat) (Y : Ks), s = .int .i64 F ∧ F + S ≤ n + 1 ∧ Cyk R tok N S F Y ∧ KM WG (w.heap.size + 1) n N Y wq) (fun s _ => n + 1 - (intOf s).toNat)
          case atStart => exact ⟨0, X, rfl, by omega, HC.out, HKM.out⟩
          case round =>
            clear HC HKM
            obtain ⟨F, Y, rfl, hFS, hC, hKM⟩ := hrel
            have HC : Hid (Cyk R tok N S F Y) := hC
            have HKM : Hid (KM WG (w.heap.size + 1) n N Y wr) := hKM
            by_cases hFn : F + S ≤ n
            · have f2 : (F : Int) + (S : Int) ≤ (n : Int) := by omega
              clear hC hKM
              go_wp2_with fail
              go_loopg [12] (2 * miss Y (F, F + S) + 1) (fun gk s12 wq => ∃ (Z : Ks) (z : Bool), s12 = .bool z ∧ gk = 2 * miss Z (F, F + S) + (if z then 1 else 0) ∧ Cyk R tok N S F Z ∧ (z = false → ∀ q, q < R.length → Rch (kOf (kX Z)) tok (F + S) (R.getD q (0, [])).2 F (F + S) → bit Z (F, F + S) (R.getD q (0, [])).1.toNat = true) ∧ KM WG (w.heap.size + 1) n N Z wq)
              case atStart => exact ⟨Y, true, rfl, rfl, HC.out, (fun h => by cases h), HKM.out⟩
              case round =>
                clear HC HKM
                obtain ⟨Z, z, rfl, hgk, hC, hcl, hKM⟩ := hrel
                have HG : Hid (gk = 2 * miss Z (F, F + S) + (if z then 1 else 0)) := hgk
                have HC : Hid (Cyk R tok N S F Z) := hC
                have HKM : Hid (KM WG (w.heap.size + 1) n N Z wr) := hKM
                have HCl : Hid (z = false → ∀ q, q < R.length → Rch (kOf (kX Z)) tok (F + S) (R.getD q (0, [])).2 F (F + S) → bit Z (F, F + S) (R.getD q (0, [])).1.toNat = true) := hcl
                clear hgk hC hcl hKM
                cases z with
                | false =>
                  have HC2 : Hid (Cyk R tok N S (F + 1) Z) := cyk_next HC.out (by rw [HTL.out]; omega) (HCl.out rfl)
                  go_wp2_with fail
                  go_roundw
                  case rel => exact ⟨F + 1, Z, by go_num, by omega, HC2.out, HKM.out⟩
                  case measure => simp [intOf]; omega
                | true =>
                  go_wp2_with fail
                  go_loopw [12, 13] (fun s12 s13 wq => ∃ (k : Nat) (y : Bool) (V : Ks), s12 = .bool y ∧ s13 = .int .i64 k ∧ k ≤ R.length ∧ Rd R tok N F (F + S) Z k y V ∧ KM WG (w.heap.size + 1) n N V wq) (fun _ s _ => R.length - (intOf s).toNat)
                  case atStart => exact ⟨0, false, Z, rfl, rfl, Nat.zero_le _, rd_start HC.out (by omega) (by rw [HTL.out]; omega), HKM.out⟩
                  case round =>
                    clear HKM
                    obtain ⟨k, y, V, rfl, rfl, hk, hRd, hKM⟩ := hrel
                    have HRd : Hid (Rd R tok N F (F + S) Z k y V) := hRd
                    have HKM : Hid (KM WG (w.heap.size + 1) n N V wr) := hKM
                    have HCV : Hid (Cyk R tok N S F V) := hRd.cyk HC.out (by omega) rfl
                    obtain ⟨hBw, b1, b2, hRu, hTo, hsz⟩ := HBX.out wr hKM.below
                    by_cases hlt : k < R.length
                    · have hmem : R.getD k (0, []) ∈ R := by simp [List.getD, hlt]
                      have hL := HF.out.left _ hmem
                      have hin := HF.out.name _ hmem
                      have h8 := HQ.out k hlt
                      obtain ⟨rb, ro, rc', qa, qc, hve, hrb, k1, k2, hqc, k3⟩ := hRu.2 k hlt
                      cases hve
                      have hskip := HRd.out.skip
                      have hput := HRd.out.put HF.out HCV.out (by omega) (by rw [HTL.out]; omega) hlt
                      obtain ⟨⟨L, Rt⟩, hre⟩ : ∃ x, R.getD k (0, []) = x := ⟨_, rfl⟩
                      rw [hre] at k1 k2 k3 hqc hL hin h8 hskip hput
                      simp only at k1 k2 k3 hqc hL hin h8 hskip hput
                      obtain ⟨l, rfl⟩ : ∃ l : Nat, L = l := ⟨L.toNat, by omega⟩
                      simp only [Int.toNat_natCast] at hskip hput
                      have hlN : l < N := by omega
                      have k2' : wr.cell? ⟨rb, ro + k * 2 + 1, none⟩ = some (.slice qa Rt.length qc) := by rw [Nat.add_assoc]; exact k2
                      have hKA := hKM.step ((Below.refl _ _).alloc (Nat.le_refl _) (.cells #[.int .i64 l, .slice qa Rt.length qc] 41))
                      have HKA : Hid (KM WG (w.heap.size + 1) n N V (wr.alloc (.cells #[.int .i64 l, .slice qa Rt.length qc] 41))) := hKA
                      have c1 : (wr.alloc (.cells #[.int .i64 l, .slice qa Rt.length qc] 41)).cell? ⟨w.heap.size + 1, F, none⟩ = some (.slice (some ⟨w.heap.size + 1 + 1 + F * (n + 2), 0, none⟩) (n + 1) (n + 1)) := hKA.top F (by omega)
                      have c2 : (wr.alloc (.cells #[.int .i64 l, .slice qa Rt.length qc] 41)).cell? ⟨w.heap.size + 1 + 1 + F * (n + 2), F + S, none⟩ = some (.slice (some ⟨w.heap.size + 1 + 1 + F * (n + 2) + 1 + (F + S), 0, none⟩) N N) := hKA.head F (F + S) (by omega) hFn
                      have c3 : (wr.alloc (.cells #[.int .i64 l, .slice qa Rt.length qc] 41)).cell? ⟨w.heap.size + 1 + 1 + F * (n + 2) + 1 + (F + S), l, none⟩ = some (.bool (bit V (F, F + S) l)) := (Bt.cell (i := (F, F + S)) hKA.bt (ktab_dom (i := F) (j := F + S) (by omega) hFn) rfl hlN).1
                      have i0 : (0 : Int) ≤ (k : Int) := Int.natCast_nonneg _
                      have i1 : (k : Int) < (R.length : Int) := by omega
                      have i2 : (0 : Int) ≤ (F : Int) := Int.natCast_nonneg _
                      have i3 : (F : Int) < (n : Int) + 1 := by omega
                      have i4 : (0 : Int) ≤ (F : Int) + (S : Int) := by omega
                      have i5 : (F : Int) + (S : Int) < (n : Int) + 1 := by omega
                      have i6 : (0 : Int) ≤ (l : Int) := Int.natCast_nonneg _
                      have i7 : (l : Int) < (N : Int) := by omega
                      have i8 : ((F : Int) + (S : Int)).toNat = F + S := by omega
                      have call := yields5_any (w := (wr.alloc (.cells #[.int .i64 l, .slice qa Rt.length qc] 41)).drew) (lim := wr.heap.size) (lc := qc) (n := n) (N := N) (a := F) (b := F + S) (X := kX V) (RightAt.below (w := wr) k3 (((Below.refl _ _).alloc (by omega) _).drew)) (by show wr.heap.size ≤ (wr.alloc _).heap.size; simp) (hTo.boxed (.cells #[.int .i64 l, .slice qa Rt.length qc] 41)) (hKA.known (by omega)) HTL.out (by omega) (by omega) hFn hin (by omega)
                      rw [Int.natCast_add, HTL.out] at call
                      obtain ⟨x, hx⟩ : ∃ x, bit V (F, F + S) l = x := ⟨_, rfl⟩
                      have HX : Hid (bit V (F, F + S) l = x) := hx
                      rw [hx] at c3
                      have HSk : Hid ((y = false → Rch (kOf (kX Z)) tok (F + S) Rt F (F + S) → bit Z (F, F + S) l = true) → Rd R tok N F (F + S) Z (k + 1) y V) := hskip
                      have HPu : Hid (bit V (F, F + S) l = false → Rch (kOf (kX V)) tok (F + S) Rt F (F + S) → Rd R tok N F (F + S) Z (k + 1) true (setX V (F, F + S) l true)) := hput
                      clear hRd hKM hBw hRu hTo hmem hin hskip hput hre k2 k3 hqc hKA hx hL
                      cases x with
                      | true =>
                        have HD : Hid (Rd R tok N F (F + S) Z (k + 1) y V) := HSk.out fun hy _ => by rw [← (HRd.out.still hy).1]; exact HX.out
                        clear call
                        go_wp2_with fail
                        go_big_quiet (fail)
                        go_wp2_with fail
                        go_roundw
                        case rel => exact ⟨k + 1, y, V, rfl, by go_num, by omega, HD.out, HKA.out.step (below_drewN (Below.refl _ _) _)⟩
                        case measure => simp [intOf]; omega
                      | false =>
                        by_cases hrch : Rch (kOf (kX V)) tok (F + S) Rt F (F + S)
                        · have call' := call.mono (fun e w' (h : ∃ z, e = .returned (.bool z) ∧ (z = true ↔ Rch (kOf (kX V)) tok (F + S) Rt F (F + S)) ∧ Below (wr.alloc (.cells #[.int .i64 l, .slice qa Rt.length qc] 41)).drew.heap.size (wr.alloc (.cells #[.int .i64 l, .slice qa Rt.length qc] 41)).drew w') => (show e = .returned (.bool true) ∧ Below (wr.alloc (.cells #[.int .i64 l, .slice qa Rt.length qc] 41)).drew.heap.size (wr.alloc (.cells #[.int .i64 l, .slice qa Rt.length qc] 41)).drew w' from by
                              obtain ⟨z, h1, h2, h3⟩ := h
                              have hz := h2.2 hrch
                              subst hz
                              exact ⟨h1, h3⟩))
                          have HD : Hid (Rd R tok N F (F + S) Z (k + 1) true (setX V (F, F + S) l true)) := HPu.out HX.out hrch
                          clear call hrch
                          go_wp2_with fail
                          refine wp_region_tail 19 (by kernel_rfl) (by kernel_rfl) ?_
                          simp only [List.take_succ_cons, List.take_zero, List.drop_succ_cons, List.drop_zero]
                          repeat still_step
                          refine wpStill_nil ?_
                          go_wp2_with
                            (go_at_call 9; refine call'.mono ?_; rintro e w5 ⟨rfl, hB5⟩
                             have hB6 : Below (wr.alloc (.cells #[.int .i64 l, .slice qa Rt.length qc] 41)).heap.size (wr.alloc (.cells #[.int .i64 l, .slice qa Rt.length qc] 41)) w5 := (Below.refl _ _).drew.trans hB5
                             have hK5 := HKA.out.step hB6
                             have HK5 : Hid (KM WG (w.heap.size + 1) n N V w5) := hK5
                             have q1 : w5.cell? ⟨w.heap.size + 1, F, none⟩ = some (.slice (some ⟨w.heap.size + 1 + 1 + F * (n + 2), 0, none⟩) (n + 1) (n + 1)) := hK5.top F (by omega)
                             have q2 : w5.cell? ⟨w.heap.size + 1 + 1 + F * (n + 2), F + S, none⟩ = some (.slice (some ⟨w.heap.size + 1 + 1 + F * (n + 2) + 1 + (F + S), 0, none⟩) N N) := hK5.head F (F + S) (by omega) hFn
                             have q34 : w5.cell? ⟨w.heap.size + 1 + 1 + F * (n + 2) + 1 + (F + S), l, none⟩ = some (.bool (bit V (F, F + S) l)) ∧ w5.frozen? ⟨w.heap.size + 1 + 1 + F * (n + 2) + 1 + (F + S), l, none⟩ = false := Bt.cell (i := (F, F + S)) hK5.bt (ktab_dom (i := F) (j := F + S) (by omega) hFn) rfl hlN
                             obtain ⟨q3, q4⟩ := q34
                             have q5 : w5.cell? ⟨wr.heap.size, 0, none⟩ = some (.int .i64 l) := (hB6.cell (by simp)).trans (by simp [go_sem])
                             rw [HX.out] at q3
                             clear hB5 hB6 hK5 call')
                          refine wp_region_tail 10 (by kernel_rfl) (by kernel_rfl) ?_
                          simp only [List.take_succ_cons, List.take_zero, List.drop_succ_cons, List.drop_zero]
                          repeat still_step
                          refine wpStill_nil ?_
                          go_wp2_with fail
                          go_roundw
                          case rel => exact ⟨k + 1, true, _, rfl, by go_num, by omega, HD.out, (HK5.out.set (by omega) hFn l).step ((Below.refl _ _).drew)⟩
                          case measure => simp [intOf]; omega
                        · have call' := call.mono (fun e w' (h : ∃ z, e = .returned (.bool z) ∧ (z = true ↔ Rch (kOf (kX V)) tok (F + S) Rt F (F + S)) ∧ Below (wr.alloc (.cells #[.int .i64 l, .slice qa Rt.length qc] 41)).drew.heap.size (wr.alloc (.cells #[.int .i64 l, .slice qa Rt.length qc] 41)).drew w') => (show e = .returned (.bool false) ∧ Below (wr.alloc (.cells #[.int .i64 l, .slice qa Rt.length qc] 41)).drew.heap.size (wr.alloc (.cells #[.int .i64 l, .slice qa Rt.length qc] 41)).drew w' from by
                              obtain ⟨z, h1, h2, h3⟩ := h
                              cases z with
                              | true => exact absurd (h2.1 rfl) hrch
                              | false => exact ⟨h1, h3⟩))
                          have HD : Hid (Rd R tok N F (F + S) Z (k + 1) y V) := HSk.out fun hy hz => absurd (by rw [(HRd.out.still hy).1]; exact hz) hrch
                          clear call hrch
                          go_wp2_with fail
                          refine wp_region_tail 19 (by kernel_rfl) (by kernel_rfl) ?_
                          simp only [List.take_succ_cons, List.take_zero, List.drop_succ_cons, List.drop_zero]
                          repeat still_step
                          refine wpStill_nil ?_
                          go_wp2_with
                            (go_at_call 9; refine call'.mono ?_; rintro e w5 ⟨rfl, hB5⟩
                             have HK5 : Hid (KM WG (w.heap.size + 1) n N V w5) := HKA.out.step ((Below.refl _ _).drew.trans hB5)
                             clear hB5 call')
                          go_roundw
                          case rel => exact ⟨k + 1, y, V, rfl, by go_num, by omega, HD.out, HK5.out⟩
                          case measure => simp [intOf]; omega
                    · obtain rfl : k = R.length := by omega
                      clear hRd hKM hBw hRu hTo
                      go_wp2_with fail
                      go_roundg (2 * miss V (F, F + S) + (if y then 1 else 0))
                      case measure =>
                        rw [HG.out]
                        cases y with
                        | true => have := HRd.out.grew rfl; simp only [if_true]; omega
                        | false => have := (HRd.out.still rfl).1; rw [this]; simp
                      case rel => exact ⟨V, y, rfl, rfl, HCV.out, fun hy q hq hz => by
                        obtain ⟨h1, h2⟩ := HRd.out.still hy
                        rw [h1] at hz ⊢
                        exact h2 q hq hz, HKM.out⟩
            · have f2 : decide ((F : Int) + (S : Int) ≤ (n : Int)) = false := decide_eq_false (by omega)
              have HC2 : Hid (Cyk R tok N (S + 1) 0 Y) := cyk_size HC.out (by rw [HTL.out]; omega)
              clear hC hKM
              go_wp2_with fail
              go_roundw
              case rel => exact ⟨S + 1, Y, by go_num, by omega, HC2.out, HKM.out⟩
              case measure => simp [intOf]; omega
        · obtain rfl : S = n + 1 := by omega
          have s2 : decide (((n : Int) + 1) ≤ (n : Int)) = false := decide_eq_false (by omega)
          have HE : Hid (bit X (0, n) 0 = true ↔ Der R 0 tok) := by
            have h1 := HC.out
            rw [← HTL.out] at h1 ⊢
            exact cyk_end h1
          have c1 : wr.cell? ⟨w.heap.size + 1, 0, none⟩ = some (.slice (some ⟨w.heap.size + 1 + 1 + 0 * (n + 2), 0, none⟩) (n + 1) (n + 1)) := hKM.top 0 (Nat.zero_le _)
          have c2 : wr.cell? ⟨w.heap.size + 1 + 1 + 0 * (n + 2), n, none⟩ = some (.slice (some ⟨w.heap.size + 1 + 1 + 0 * (n + 2) + 1 + n, 0, none⟩) N N) := hKM.head 0 n (Nat.zero_le _) (Nat.le_refl _)
          have c3 : wr.cell? ⟨w.heap.size + 1 + 1 + 0 * (n + 2) + 1 + n, 0, none⟩ = some (.bool (bit X (0, n) 0)) := (Bt.cell hKM.bt (ktab_dom (Nat.zero_le _) (Nat.le_refl _)) rfl (m := 0) (by omega)).1
          have n0 : (0 : Int) ≤ (n : Int) := Int.natCast_nonneg _
          have n1 : (n : Int) < (n : Int) + 1 := by omega
          have n2 : (0 : Int) < (N : Int) := by omega
          have n3 : (0 : Int) < (n : Int) + 1 := by omega
          have HB : Hid (Below w.heap.size w wr) := (HBX.out wr hKM.below).1
          simp only [Nat.zero_mul, Nat.add_zero] at c1 c2 c3
          obtain ⟨z, hz⟩ : ∃ z, bit X (0, n) 0 = z := ⟨_, rfl⟩
          rw [hz] at c3 HE
          clear hC hKM hz
          go_wp2_with fail
          go_ret
          exact ⟨z, rfl, HE.out, HB.out⟩

end Go.Proofs.Ytjdoiieiimdmfaa

/- The law pollardinglaw.StepKeeps: it returns true. -/
namespace Go.Proofs.Ytjdoiieiimdmfaa
open Go.RowKit

set_option maxRecDepth 100000 in
set_option maxHeartbeats 3200000 in
theorem stepKeeps_no {w : World} {T N : Int} {ra : Option Addr} {rc : Nat} {tv : Value} {R : List Ru} {tok : List Int} (hr : RulesAt w w.heap.size (.slice ra R.length rc) R) (ht : ListAt w w.heap.size tv tok) (s : Stp) (hE : (verd T N R s).2.2.1 = 2 ∨ (verd T N R s).2.2.1 = 1) :
    Calls Try.prog 3 #[.agg #[.int .i64 T, .int .i64 N, .slice ra R.length rc], .agg #[.int .i64 s.op, .int .i64 s.a, .int .i64 s.b, .int .i64 s.c], tv] w fun e w' => e = .returned (.bool true) ∧ Below w.heap.size w w' := by
  obtain ⟨W0, hW0⟩ : ∃ W, (w.alloc (.cells #[.int .i64 T, .int .i64 N, .slice ra R.length rc] 24)).alloc (.cells #[.int .i64 s.op, .int .i64 s.a, .int .i64 s.b, .int .i64 s.c] 26) = W := ⟨_, rfl⟩
  have hK := kpIn_start (T := T) (N := N) (s := s) hr ht
  rw [hW0] at hK
  have HK : Hid (KpIn w T N ra rc R s tv tok W0) := hK
  obtain ⟨ta, tc, htv⟩ := ht.1
  subst htv
  have g0 := hK.g0
  have g1 := hK.g1
  have g2 := hK.g2
  have s0 := hK.s0
  have s1 := hK.s1
  have s2 := hK.s2
  have s3 := hK.s3
  have d1 := st_Do (T := T) (N := N) hK.all s
  obtain ⟨⟨V, M, E, RR⟩, hV⟩ : ∃ x, verd T N R s = x := ⟨_, rfl⟩
  rw [hV] at d1 hE
  simp only at d1 hE
  clear hr ht hK hV
  rcases hE with rfl | rfl
  · go_enter Try.func3, Try.ntmps3
    go_wp2_with
      (go_at_call 4; refine d1.mono ?_; rintro e w2 ⟨lv, RL, rfl, hR2, hmap, hB2⟩
       have HB3 : Hid (Below w.heap.size w (w2.alloc (.cells #[.int .i64 V, .int .i64 M, lv] 24))) := (HK.out.next (hB2.alloc hB2.size (.cells #[.int .i64 V, .int .i64 M, lv] 24))).below
       obtain ⟨la, lc, hlv⟩ := own_form hR2.own
       subst hlv
       clear d1 hR2 hmap hB2)
    go_ret
    exact ⟨rfl, HB3.out⟩
  · go_enter Try.func3, Try.ntmps3
    go_wp2_with
      (go_at_call 4; refine d1.mono ?_; rintro e w2 ⟨lv, RL, rfl, hR2, hmap, hB2⟩
       have HB3 : Hid (Below w.heap.size w (w2.alloc (.cells #[.int .i64 V, .int .i64 M, lv] 24))) := (HK.out.next (hB2.alloc hB2.size (.cells #[.int .i64 V, .int .i64 M, lv] 24))).below
       obtain ⟨la, lc, hlv⟩ := own_form hR2.own
       subst hlv
       clear d1 hR2 hmap hB2)
    go_ret
    exact ⟨rfl, HB3.out⟩

set_option maxRecDepth 100000 in
set_option maxHeartbeats 6400000 in
theorem stepKeeps_yes {w : World} {T N : Nat} {ra : Option Addr} {rc : Nat} {tv : Value} {R : List Ru} {tok : List Int} (hr : RulesAt w w.heap.size (.slice ra R.length rc) R) (ht : ListAt w w.heap.size tv tok) (s : Stp) (hm : mayB T N R = true) (hs : stepB N R s = true) (hz : mayB T (doN N s : Nat) (doR N R s) = true) :
    Calls Try.prog 3 #[.agg #[.int .i64 T, .int .i64 N, .slice ra R.length rc], .agg #[.int .i64 s.op, .int .i64 s.a, .int .i64 s.b, .int .i64 s.c], tv] w fun e w' => e = .returned (.bool true) ∧ Below w.heap.size w w' := by
  obtain ⟨W0, hW0⟩ : ∃ W, (w.alloc (.cells #[.int .i64 T, .int .i64 N, .slice ra R.length rc] 24)).alloc (.cells #[.int .i64 s.op, .int .i64 s.a, .int .i64 s.b, .int .i64 s.c] 26) = W := ⟨_, rfl⟩
  have hK := kpIn_start (T := T) (N := N) (s := s) hr ht
  rw [hW0] at hK
  have HK : Hid (KpIn w T N ra rc R s tv tok W0) := hK
  obtain ⟨ta, tc, htv⟩ := ht.1
  subst htv
  have g0 := hK.g0
  have g1 := hK.g1
  have g2 := hK.g2
  have s0 := hK.s0
  have s1 := hK.s1
  have s2 := hK.s2
  have s3 := hK.s3
  have d1 := st_Do (T := T) (N := N) hK.all s
  have hV : verd T N R s = ((T : Int), ((doN N s : Nat) : Int), 0, doR N R s) := by unfold verd; rw [hm, hs, Int.toNat_natCast, hz]; rfl
  rw [hV] at d1
  simp only at d1
  have hKeep : Der R 0 tok ↔ Der (doR N R s) 0 tok := keep_any (may_Fine hm) hs
  obtain ⟨M, hM⟩ : ∃ M, doN N s = M := ⟨_, rfl⟩
  obtain ⟨RR, hRR⟩ : ∃ RR, doR N R s = RR := ⟨_, rfl⟩
  rw [hM, hRR] at d1 hz
  rw [hRR] at hKeep
  have HM : Hid (mayB T N R = true ∧ mayB T M RR = true ∧ (Der R 0 tok ↔ Der RR 0 tok)) := ⟨hm, hz, hKeep⟩
  have hM1 : decide (0 < M) = true := decide_eq_true (by have := (may_fine hz).2.1; omega)
  have may := fun wq (hq : Below W0.heap.size W0 wq) => may1_any (w := wq) (T := T) (N := N) (HK.out.next hq).all
  rw [hm] at may
  have HMay : Hid (∀ wq, Below W0.heap.size W0 wq → Calls Try.prog 6 #[.agg #[.int .i64 T, .int .i64 N, .slice ra R.length rc]] wq fun e w' => e = .returned (.bool true) ∧ Below wq.heap.size wq w') := may
  have HWr : Hid (∀ wq, Below W0.heap.size W0 wq → Calls Try.prog 5 #[.agg #[.int .i64 T, .int .i64 N, .slice ra R.length rc], .slice ta tok.length tc] wq fun e w' => e = .returned (.int .i64 (wrongE T N R tok)) ∧ Below wq.heap.size wq w') := fun wq hq => wrong5_any (HK.out.next hq).all (HK.out.next hq).allT
  obtain ⟨E, hE⟩ : ∃ E, wrongE T N R tok = E := ⟨_, rfl⟩
  rw [hE] at HWr
  have hE2 : wrongE T M RR tok = E := by
    rw [← hE]
    unfold wrongE
    rw [hm, hz]
  have hE0 : E = 0 → tok.length ≤ 30 := fun h => by
    rw [h] at hE
    unfold wrongE at hE
    rw [hm] at hE
    simp only [Bool.true_eq_false, if_false] at hE
    split at hE
    · cases hE
    · omega
  have HE : Hid (wrongE T M RR tok = E ∧ (E = 0 → tok.length ≤ 30)) := ⟨hE2, hE0⟩
  clear hr ht hK hV hm hs hz hKeep hM hRR may hE hE2 hE0
  by_cases h0 : E = 0
  · subst h0
    have hn30 := HE.out.2 rfl
    go_enter Try.func3, Try.ntmps3
    go_upto_region 8 with
      (first
       | (go_at_call 4; refine d1.mono ?_; rintro e w2 ⟨lv, RL, rfl, hR2, hmap, hB2⟩
          have hru := hR2.rules
          rw [hmap] at hru
          obtain ⟨la, lc, hlv⟩ := hru.1
          subst hlv
          have hB3 : Below W0.heap.size W0 (w2.alloc (.cells #[.int .i64 T, .int .i64 M, .slice la RR.length lc] 24)) := hB2.alloc hB2.size _
          have hx3 := heap_alloc_new w2 (.cells #[.int .i64 T, .int .i64 M, .slice la RR.length lc] 24)
          obtain ⟨w3, hw3⟩ : ∃ W, w2.alloc (.cells #[.int .i64 T, .int .i64 M, .slice la RR.length lc] 24) = W := ⟨_, rfl⟩
          have hru3 := hru.boxed (.cells #[.int .i64 T, .int .i64 M, .slice la RR.length lc] 24)
          rw [hw3] at hB3 hx3 hru3
          have hK3 := HK.out.next hB3
          have u0 := hK3.g0
          have u1 := hK3.g1
          have u2 := hK3.g2
          have wr := HWr.out w3 hB3
          have HB3 : Hid (Below W0.heap.size W0 w3) := hB3
          have HX3 : Hid (w3.heap[w2.heap.size]? = some (.cells #[.int .i64 T, .int .i64 M, .slice la RR.length lc] 24 (0, 0)) ∧ RulesAt w3 w3.heap.size (.slice la RR.length lc) RR) := ⟨hx3, hru3⟩
          clear d1 hR2 hmap hB2 hB3 hru hru3 hx3 hK3 g0 g1 g2 s0 s1 s2 s3 hW0)
       | (go_at_call 5; with_reducible refine wr.mono ?_; rintro e w4 ⟨rfl, hB4⟩
          have hB4' : Below W0.heap.size W0 w4 := HB3.out.trans (hB4.mono HB3.out.size)
          have hx4 := (hB4.block _ (Array.getElem?_eq_some_iff.1 HX3.out.1).1).trans HX3.out.1
          have hru4 : RulesAt w4 w4.heap.size (.slice la RR.length lc) RR := (HX3.out.2.below hB4).mono hB4.size
          have z0 : w4.cell? ⟨w2.heap.size, 0, none⟩ = some (.int .i64 T) := cell_of_blk hx4 rfl
          have z1 : w4.cell? ⟨w2.heap.size, 1, none⟩ = some (.int .i64 M) := cell_of_blk hx4 rfl
          have z2 : w4.cell? ⟨w2.heap.size, 2, none⟩ = some (.slice la RR.length lc) := cell_of_blk hx4 rfl
          have wr2 := wrong5_any (T := T) (N := M) hru4 (HK.out.next hB4').allT
          rw [HE.out.1] at wr2
          have HB4 : Hid (Below W0.heap.size W0 w4) := hB4'
          have HX4 : Hid (w4.heap[w2.heap.size]? = some (.cells #[.int .i64 T, .int .i64 M, .slice la RR.length lc] 24 (0, 0)) ∧ RulesAt w4 w4.heap.size (.slice la RR.length lc) RR) := ⟨hx4, hru4⟩
          clear wr hB4 hB4' hx4 hru4 u0 u1 u2)
       | (go_at_call 5; with_reducible refine wr2.mono ?_; rintro e w5 ⟨rfl, hB5⟩
          have HB5 : Hid (Below W0.heap.size W0 w5) := HB4.out.trans (hB5.mono HB4.out.size)
          have HX5 : Hid (w5.heap[w2.heap.size]? = some (.cells #[.int .i64 T, .int .i64 M, .slice la RR.length lc] 24 (0, 0)) ∧ RulesAt w5 w5.heap.size (.slice la RR.length lc) RR) := ⟨(hB5.block _ (Array.getElem?_eq_some_iff.1 HX4.out.1).1).trans HX4.out.1, (HX4.out.2.below hB5).mono hB5.size⟩
          clear wr2 hB5 z0 z1 z2))
    obtain ⟨hb, hhb⟩ : ∃ x, w2.heap.size = x := ⟨_, rfl⟩
    rw [hhb] at HX5 ⊢
    obtain ⟨Wd, hWd⟩ : ∃ W, w5.drew = W := ⟨_, rfl⟩
    have hBd : Below w5.heap.size w5 Wd := by rw [← hWd]; exact (Below.refl _ _).drew
    have HS : Hid (∀ wq, Below Wd.heap.size Wd wq → (wq.cell? ⟨w.heap.size, 0, none⟩ = some (.int .i64 T) ∧ wq.cell? ⟨w.heap.size, 1, none⟩ = some (.int .i64 N) ∧ wq.cell? ⟨w.heap.size, 2, none⟩ = some (.slice ra R.length rc) ∧ wq.cell? ⟨hb, 0, none⟩ = some (.int .i64 T) ∧ wq.cell? ⟨hb, 1, none⟩ = some (.int .i64 M) ∧ wq.cell? ⟨hb, 2, none⟩ = some (.slice la RR.length lc)) ∧ KpIn w T N ra rc R s (.slice ta tok.length tc) tok wq ∧ RulesAt wq wq.heap.size (.slice la RR.length lc) RR) := fun wq hq => by
      have h5 : Below w5.heap.size w5 wq := hBd.trans (hq.mono hBd.size)
      have hK := HK.out.next (HB5.out.trans (h5.mono HB5.out.size))
      have hx := (h5.block _ (Array.getElem?_eq_some_iff.1 HX5.out.1).1).trans HX5.out.1
      exact ⟨⟨hK.g0, hK.g1, hK.g2, cell_of_blk hx rfl, cell_of_blk hx rfl, cell_of_blk hx rfl⟩, hK, (HX5.out.2.below h5).mono h5.size⟩
    have S0 := (HS.out Wd (Below.refl _ _)).1
    clear hBd hhb HX4 HX3
    refine wp_region_mix [0, 1, 3, 4] 4 7 (fun wq => wq.cell? ⟨w.heap.size, 0, none⟩ = some (.int .i64 T) ∧ wq.cell? ⟨w.heap.size, 1, none⟩ = some (.int .i64 N) ∧ wq.cell? ⟨w.heap.size, 2, none⟩ = some (.slice ra R.length rc) ∧ wq.cell? ⟨hb, 0, none⟩ = some (.int .i64 T) ∧ wq.cell? ⟨hb, 1, none⟩ = some (.int .i64 M) ∧ wq.cell? ⟨hb, 2, none⟩ = some (.slice la RR.length lc)) (by kernel_rfl) (by kernel_rfl) (by rw [hWd]; exact S0) ?_
    rw [hWd]
    clear hWd S0
    iterate 4
      refine StillI.con8 (v := ?_) rfl (by rfl) ?_ ?_
      rotate_left
      · intro w' hSw
        obtain ⟨z0, z1, z2, z3, z4, z5⟩ := hSw
        go_simp
        try with_reducible rfl
      simp only [Act.put, List.setIfInBounds_toArray, List.set_cons_zero, List.set_cons_succ]
    rw [StillI]
    have h1 := has5_any (w := Wd) (HS.out Wd (Below.refl _ _)).2.1.all (HS.out Wd (Below.refl _ _)).2.1.allT HM.out.1 (may_Fine HM.out.1) hn30
    refine TailC.one (i := 2) (by kernel_rfl) ⟨_, rfl, fun K hK => ?_⟩
    go_simp
    refine h1.mono ?_
    rintro e w6 ⟨z, rfl, hz, hB6⟩
    dsimp only
    refine hK.out _ _ (fun _ => (HS.out _ hB6).1) ?_
    clear hK h1
    have h2 := has5_any (w := w6) (HS.out w6 hB6).2.2 (HS.out w6 hB6).2.1.allT HM.out.2.1 (may_Fine HM.out.2.1) hn30
    refine TailC.one (i := 5) (by kernel_rfl) ⟨_, rfl, fun K hK => ?_⟩
    go_simp
    refine h2.mono ?_
    rintro e w7 ⟨z', rfl, hz', hB7⟩
    dsimp only
    have hB7' : Below Wd.heap.size Wd w7 := hB6.trans (hB7.mono hB6.size)
    refine hK.out _ _ (fun _ => (HS.out _ hB7').1) ?_
    clear hK h2
    have hzz : z = z' := by
      have := HM.out.2.2
      rw [← hz, ← hz'] at this
      cases z <;> cases z' <;> simp_all
    subst hzz
    have ez : (z == z) = true := by simp
    refine TailC.one (i := 6) (by kernel_rfl) ⟨_, rfl, fun K hK => ?_⟩
    go_simp
    refine hK.out _ _ (fun _ => (HS.out _ hB7').1) ?_
    clear hK
    refine TailC.last (i := 7) (by kernel_rfl) ⟨_, rfl, fun K hK => ?_⟩
    go_simp
    refine hK.out _ _ (fun h => absurd h (by omega)) (NoPanic.normal ?_)
    clear hK
    go_wp2_with fail
    go_ret
    exact ⟨by simp, (HS.out _ hB7').2.1.below⟩
  · have e0 : (E == 0) = false := by simpa using h0
    have e1 : (E != 0) = true := by simpa using h0
    go_enter Try.func3, Try.ntmps3
    go_wp2_with
      (first
       | (go_at_call 4; refine d1.mono ?_; rintro e w2 ⟨lv, RL, rfl, hR2, hmap, hB2⟩
          have hru := hR2.rules
          rw [hmap] at hru
          obtain ⟨la, lc, hlv⟩ := hru.1
          subst hlv
          have hB3 : Below W0.heap.size W0 (w2.alloc (.cells #[.int .i64 T, .int .i64 M, .slice la RR.length lc] 24)) := hB2.alloc hB2.size _
          have hx3 := heap_alloc_new w2 (.cells #[.int .i64 T, .int .i64 M, .slice la RR.length lc] 24)
          obtain ⟨w3, hw3⟩ : ∃ W, w2.alloc (.cells #[.int .i64 T, .int .i64 M, .slice la RR.length lc] 24) = W := ⟨_, rfl⟩
          rw [hw3] at hB3 hx3
          have hK3 := HK.out.next hB3
          have u0 := hK3.g0
          have u1 := hK3.g1
          have u2 := hK3.g2
          have wr := HWr.out w3 hB3
          have HB3 : Hid (Below W0.heap.size W0 w3) := hB3
          have HX3 : Hid (w3.heap[w2.heap.size]? = some (.cells #[.int .i64 T, .int .i64 M, .slice la RR.length lc] 24 (0, 0))) := hx3
          clear d1 hR2 hmap hB2 hB3 hru hx3 hK3 g0 g1 g2 s0 s1 s2 s3 hW0)
       | (go_at_call 5; refine wr.mono ?_; rintro e w4 ⟨rfl, hB4⟩
          have hB4' : Below W0.heap.size W0 w4 := HB3.out.trans (hB4.mono HB3.out.size)
          have hK4 := HK.out.next hB4'
          have v0 := hK4.g0
          have v1 := hK4.g1
          have v2 := hK4.g2
          have my := HMay.out w4 hB4'
          have HB4 : Hid (Below W0.heap.size W0 w4) := hB4'
          have HX4 : Hid (w4.heap[w2.heap.size]? = some (.cells #[.int .i64 T, .int .i64 M, .slice la RR.length lc] 24 (0, 0))) := (hB4.block _ (Array.getElem?_eq_some_iff.1 HX3.out).1).trans HX3.out
          clear wr hB4 hB4' hK4 u0 u1 u2)
       | (go_at_call 6; refine my.mono ?_; rintro e w5 ⟨rfl, hB5⟩
          have hx5 := (hB5.block _ (Array.getElem?_eq_some_iff.1 HX4.out).1).trans HX4.out
          have z1 : w5.cell? ⟨w2.heap.size, 1, none⟩ = some (.int .i64 M) := cell_of_blk hx5 rfl
          have z2 : w5.cell? ⟨w2.heap.size, 2, none⟩ = some (.slice la RR.length lc) := cell_of_blk hx5 rfl
          have HB5 : Hid (Below W0.heap.size W0 w5) := HB4.out.trans (hB5.mono HB4.out.size)
          clear my hB5 hx5 v0 v1 v2))
    go_ret
    exact ⟨rfl, (HK.out.next HB5.out).below⟩

theorem stepKeeps_any {w : World} {T N : Int} {rv tv : Value} {R : List Ru} {tok : List Int} (hr : RulesAt w w.heap.size rv R) (ht : ListAt w w.heap.size tv tok) (s : Stp) :
    Calls Try.prog 3 #[.agg #[.int .i64 T, .int .i64 N, rv], .agg #[.int .i64 s.op, .int .i64 s.a, .int .i64 s.b, .int .i64 s.c], tv] w fun e w' => e = .returned (.bool true) ∧ Below w.heap.size w w' := by
  obtain ⟨ra, rc, hrv⟩ := hr.1
  subst hrv
  cases hm : mayB T N R with
  | false => exact stepKeeps_no hr ht s (.inl (by unfold verd; rw [hm]; rfl))
  | true =>
    obtain ⟨t, n, rfl, rfl⟩ := may_natural hm
    cases hs : stepB n R s with
    | false => exact stepKeeps_no hr ht s (.inl (by unfold verd; rw [hm, hs]; rfl))
    | true =>
      cases hz : mayB t (doN n s : Nat) (doR n R s) with
      | false => exact stepKeeps_no hr ht s (.inr (by unfold verd; rw [hm, hs, Int.toNat_natCast, hz]; rfl))
      | true => exact stepKeeps_yes hr ht s hm hs hz

end Go.Proofs.Ytjdoiieiimdmfaa
