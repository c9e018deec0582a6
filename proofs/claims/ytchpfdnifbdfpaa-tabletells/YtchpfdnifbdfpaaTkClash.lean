/- The contracts of package table's says and Clashes. -/
import Derived.Test.YtchpfdnifbdfpaaTab6
namespace Go.Proofs.Ytchpfdnifbdfpaa
open Go.RowKit

def saysN (c : Ce) : Nat := c.2.1.length + (if 0 ≤ c.1 then 1 else 0) + (if c.2.2 then 1 else 0)
theorem says_one (c : Ce) : decide (1 < saysN c) = !oneB c := by
  obtain ⟨sh, ru, en⟩ := c
  unfold saysN oneB
  simp only
  cases en <;> by_cases h : sh < 0 <;> by_cases h0 : ru.length = 0 <;> by_cases h1 : ru.length = 1 <;> simp [h, h0, h1, show (0 ≤ sh) ↔ ¬ sh < 0 by omega] <;> omega

set_option maxRecDepth 100000 in
set_option maxHeartbeats 1600000 in
theorem tk_says {w : World} {sh : Int} {ra : Option Addr} {n rc : Nat} {en : Bool} (hn : n ≤ 1000) :
    Calls Try.prog 19 #[.agg #[.int .i64 sh, .slice ra n rc, .bool en]] w fun e w' => e = .returned (.int .i64 ((n + (if 0 ≤ sh then 1 else 0) + (if en then 1 else 0) : Nat) : Int)) ∧ Below w.heap.size w w' := by
  have HB0 : Hid (Below w.heap.size w (w.alloc (.cells #[.int .i64 sh, .slice ra n rc, .bool en] 60))) := (Below.refl _ _).alloc (Nat.le_refl _) _
  go_enter Try.func19, Try.ntmps19
  by_cases h : 0 ≤ sh
  · have hd : decide (0 ≤ sh) = true := decide_eq_true h
    cases en
    · go_wp2_with fail
      go_ret
      exact ⟨by simp, HB0.out⟩
    · go_wp2_with fail
      go_ret
      exact ⟨by simp, HB0.out⟩
  · have hd : decide (0 ≤ sh) = false := decide_eq_false h
    cases en
    · go_wp2_with fail
      go_ret
      exact ⟨by simp, HB0.out⟩
    · go_wp2_with fail
      go_ret
      exact ⟨by simp, HB0.out⟩

set_option maxRecDepth 100000 in
set_option maxHeartbeats 3200000 in
theorem tk_clashes {w : World} {cv gv : Value} {C : List (List Ce)} {G : List (List Int)} (h : TabAt w cv gv C G) (hC : C.length ≤ 1000) (hR : ∀ i, i < C.length → (C.getD i []).length ≤ 1000) (hU : ∀ i k, i < C.length → k < (C.getD i []).length → ((C.getD i []).getD k (0, [], false)).2.1.length ≤ 1000) :
    Calls Try.prog 8 #[.agg #[cv, gv]] w fun e w' => e = .returned (.int .i64 (clashN C)) ∧ Below w.heap.size w w' := by
  obtain ⟨ca, cc, hcv⟩ := h.cells.1
  obtain ⟨ga, gc, hgv⟩ := h.goto.1
  subst hcv
  subst hgv
  have HH : Hid (CellsMat w (.slice ca C.length cc) C) := h.cells
  have HR : Hid (∀ i, i < C.length → (C.getD i []).length ≤ 1000) := hR
  have HB0 : Hid (Below w.heap.size w (w.alloc (.cells #[.slice ca C.length cc, .slice ga G.length gc] 28))) := (Below.refl _ _).alloc (Nat.le_refl _) _
  have HBX : Hid (∀ wr, Below (w.heap.size + 1) (w.alloc (.cells #[.slice ca C.length cc, .slice ga G.length gc] 28)) wr → wr.cell? ⟨w.heap.size, 0, none⟩ = some (.slice ca C.length cc) ∧ Below w.heap.size w wr ∧ w.heap.size + 1 ≤ wr.heap.size) := fun wr hB =>
    ⟨(hB.cell (by simp)).trans (by simp [go_sem]), HB0.out.trans (hB.mono (by omega)), by have := hB.size; simpa using this⟩
  have HU : Hid (∀ i k, i < C.length → k < (C.getD i []).length → ((C.getD i []).getD k (0, [], false)).2.1.length ≤ 1000) := hU
  clear h hR hU
  go_enter Try.func8, Try.ntmps8
  go_wp2_with fail
  obtain ⟨WT, hWT⟩ : ∃ W, w.alloc (.cells #[.slice ca C.length cc, .slice ga G.length gc] 28) = W := ⟨_, rfl⟩
  rw [hWT] at HBX ⊢
  clear hWT HB0
  go_loopw [3, 11] (fun s3 s4 wr => ∃ i : Nat, s3 = .int .i64 (clashN (C.take i)) ∧ s4 = .int .i64 i ∧ i ≤ C.length ∧ Below (w.heap.size + 1) WT wr) (fun _ s _ => C.length - (intOf s).toNat)
  case atStart => exact ⟨0, rfl, rfl, Nat.zero_le _, Below.refl _ _⟩
  case round =>
    obtain ⟨i, rfl, rfl, hi, hB⟩ := hrel
    have HB : Hid (Below (w.heap.size + 1) WT wr) := hB
    obtain ⟨b0, hBw, hsz⟩ := HBX.out wr hB
    by_cases hlt : i < C.length
    · have hCl : clashN (C.take i) ≤ i * 1000 := by
        have := clashN_le (C := C.take i) (m := 1000) fun j hj => by
          have hj' : j < i := by simp at hj; omega
          have e : (C.take i).getD j [] = C.getD j [] := by simp [List.getD, hj']
          rw [e]; exact HR.out j (by omega)
        simp only [List.length_take] at this
        rw [Nat.min_eq_left hi] at this
        exact this
      obtain ⟨Xr, hXr⟩ : ∃ x, C.getD i [] = x := ⟨_, rfl⟩
      have HXr : Hid (C.getD i [] = Xr) := hXr
      have hXl : Xr.length ≤ 1000 := by rw [← hXr]; exact HR.out i hlt
      obtain ⟨b, o, c, rv, hv, d0, hcs⟩ := (HH.out.below hBw).2 i hlt
      cases hv
      rw [hXr] at hcs
      obtain ⟨xa, xc, hrv⟩ := hcs.1
      subst hrv
      have i0 : (0 : Int) ≤ (i : Int) := Int.natCast_nonneg _
      have i1 : (i : Int) < (C.length : Int) := by omega
      have HCS : Hid (∀ wq, Below wr.heap.size wr wq → CellsAt wq (.slice xa Xr.length xc) Xr) := fun wq hb => hcs.below hb
      clear hB hBw hXr hcs
      go_wp2_with fail
      clear b0 d0
      obtain ⟨wi, hwi⟩ : ∃ x, wr = x := ⟨_, rfl⟩
      have HB' : Hid (Below (w.heap.size + 1) WT wi) := by rw [← hwi]; exact HB.out
      have hsz' : w.heap.size + 1 ≤ wi.heap.size := by rw [← hwi]; exact hsz
      rw [hwi] at HCS
      go_loopw [3, 17] (fun s3 s5 wq => ∃ k : Nat, s3 = .int .i64 ((clashN (C.take i) + clashR (Xr.take k) : Nat) : Int) ∧ s5 = .int .i64 k ∧ k ≤ Xr.length ∧ Below wi.heap.size wi wq) (fun _ s _ => Xr.length - (intOf s).toNat)
      case atStart => exact ⟨0, by simp [clashR], rfl, Nat.zero_le _, by subst hwi; exact Below.refl _ _⟩
      case round =>
        obtain ⟨k, rfl, rfl, hk, hB⟩ := hrel
        have HB2 : Hid (Below wi.heap.size wi wr) := hB
        have hcs := HCS.out wr hB
        have hcr := clashR_le (Xr.take k)
        simp only [List.length_take] at hcr
        obtain ⟨q, hq⟩ : ∃ q, clashN (C.take i) + clashR (Xr.take k) = q := ⟨_, rfl⟩
        have HQ : Hid (clashN (C.take i) + clashR (Xr.take k) = q) := hq
        have hqb : q ≤ 2000000 := by omega
        rw [hq]
        have hszi := hB.size
        clear hB hq
        by_cases hklt : k < Xr.length
        · obtain ⟨b', o', c', rl, hv', e0, e1, e2, e3⟩ := hcs.2 k hklt
          cases hv'
          have hstep := clashR_take hklt
          have hul := HU.out i k hlt (by rw [HXr.out]; exact hklt)
          rw [HXr.out] at hul
          obtain ⟨⟨sh, ru, en⟩, hce⟩ : ∃ x, Xr.getD k (0, [], false) = x := ⟨_, rfl⟩
          rw [hce] at e0 e2 e3 hstep hul
          simp only at e0 e2 e3 hul
          obtain ⟨ra, rc, hrl⟩ := e2.1
          subst hrl
          have k0 : (0 : Int) ≤ (k : Int) := Int.natCast_nonneg _
          have k1 : (k : Int) < (Xr.length : Int) := by omega
          have hsy := says_one (sh, ru, en)
          have say := tk_says (w := wr.alloc (.cells #[.int .i64 sh, .slice ra ru.length rc, .bool en] 60)) (sh := sh) (ra := ra) (rc := rc) (en := en) hul
          obtain ⟨m, hmm⟩ : ∃ m, saysN (sh, ru, en) = m := ⟨_, rfl⟩
          have hmm' : ru.length + (if 0 ≤ sh then 1 else 0) + (if en then 1 else 0) = m := hmm
          rw [hmm'] at say
          rw [hmm] at hsy
          obtain ⟨z, hz⟩ : ∃ z, oneB (sh, ru, en) = z := ⟨_, rfl⟩
          rw [hz] at hstep hsy
          have HSt : Hid (clashR (Xr.take (k + 1)) = clashR (Xr.take k) + (if z then 0 else 1)) := hstep
          have hd : decide ((1 : Int) < (m : Int)) = !z := by rw [← hsy, Bool.eq_iff_iff, decide_eq_true_eq, decide_eq_true_eq]; omega
          have HA : Hid (Below wi.heap.size wi (wr.alloc (.cells #[.int .i64 sh, .slice ra ru.length rc, .bool en] 60))) := HB2.out.alloc hszi _
          clear hcs hstep hce e2 hz hsy hmm hmm'
          cases z with
          | true =>
            simp only [Bool.not_true] at hd
            simp only [if_true, Nat.add_zero] at HSt
            go_wp2_with (go_at_call 19; refine say.mono ?_; rintro e w5 ⟨rfl, hB5⟩
                         have HB5 : Hid (Below wi.heap.size wi w5) := HA.out.trans (hB5.mono (by simp; omega))
                         clear hB5)
            go_roundw
            case rel => exact ⟨k + 1, by rw [HSt.out, ← HQ.out] <;> first | rfl | go_num, by go_num, by omega, HB5.out⟩
            case measure => simp [intOf]; omega
          | false =>
            simp only [Bool.not_false] at hd
            simp only [Bool.false_eq_true, if_false] at HSt
            go_wp2_with (go_at_call 19; refine say.mono ?_; rintro e w5 ⟨rfl, hB5⟩
                         have HB5 : Hid (Below wi.heap.size wi w5) := HA.out.trans (hB5.mono (by simp; omega))
                         clear hB5)
            go_roundw
            case rel => exact ⟨k + 1, by rw [HSt.out, ← HQ.out] <;> first | rfl | go_num, by go_num, by omega, HB5.out⟩
            case measure => simp [intOf]; omega
        · have HE : Hid (clashN (C.take (i + 1)) = q) := by
            show clashN (C.take (i + 1)) = q
            rw [clashN_take hlt, HXr.out, ← HQ.out, List.take_of_length_le (by omega : Xr.length ≤ k)]
          have HB9 : Hid (Below (w.heap.size + 1) WT wr) := HB'.out.trans (HB2.out.mono hsz')
          clear hcs
          go_wp2_with fail
          go_roundw
          case rel => exact ⟨i + 1, by rw [HE.out], by go_num, by omega, HB9.out⟩
          case measure => simp [intOf]; omega
    · obtain rfl : i = C.length := by omega
      have HBw : Hid (Below w.heap.size w wr) := hBw
      rw [List.take_length]
      clear hB hBw
      go_wp2_with fail
      go_ret
      exact ⟨rfl, HBw.out⟩

end Go.Proofs.Ytchpfdnifbdfpaa
