/- How a table lies in memory; the contract of pollardingref6.Clashes. -/
import Derived.Test.YtchpfdnifbdfpaaRows
import Derived.Test.YtchpfdnifbdfpaaAt
import Derived.WalkKit
import Derived.WalkSpells
import Derived.Deep.QuietTactic
import Derived.BigQuiet
import Derived.StillTailTactics
import Derived.Test.YtchpfdnifbdfpaaClMathAndGotoMath
namespace Go.Proofs.Ytchpfdnifbdfpaa
open Go.RowKit

theorem same_alloc1 (w : World) (o' : Obj) : ∀ b o, b < w.heap.size → (w.alloc o').cell? ⟨b, o, none⟩ = w.cell? ⟨b, o, none⟩ := fun _ _ hb => World.cell?_alloc_past _ _ _ hb

/-- A cell: Shift, Rules, End. -/
abbrev Ce := Int × List Int × Bool

/-- Cells lie in memory. -/
def CellsAt (w : World) (v : Value) (X : List Ce) : Prop :=
  (∃ a c, v = .slice a X.length c) ∧ ∀ k, k < X.length → ∃ b o c rl, v = .slice (some ⟨b, o, none⟩) X.length c ∧ w.cell? ⟨b, o + k * 3, none⟩ = some (.int .i64 (X.getD k (0, [], false)).1) ∧
    w.cell? ⟨b, o + k * 3 + 1, none⟩ = some rl ∧ ListAt w w.heap.size rl (X.getD k (0, [], false)).2.1 ∧ w.cell? ⟨b, o + k * 3 + 2, none⟩ = some (.bool (X.getD k (0, [], false)).2.2)
def CellsMat (w : World) (v : Value) (X : List (List Ce)) : Prop :=
  (∃ a c, v = .slice a X.length c) ∧ ∀ i, i < X.length → ∃ b o c rv, v = .slice (some ⟨b, o, none⟩) X.length c ∧ w.cell? ⟨b, o + i, none⟩ = some rv ∧ CellsAt w rv (X.getD i [])
def IntsMat (w : World) (v : Value) (X : List (List Int)) : Prop :=
  (∃ a c, v = .slice a X.length c) ∧ ∀ i, i < X.length → ∃ b o c rv, v = .slice (some ⟨b, o, none⟩) X.length c ∧ w.cell? ⟨b, o + i, none⟩ = some rv ∧ ListAt w w.heap.size rv (X.getD i [])
/-- A table: its cells, and where names go on. -/
structure TabAt (w : World) (cv gv : Value) (C : List (List Ce)) (G : List (List Int)) : Prop where
  cells : CellsMat w cv C
  goto : IntsMat w gv G

section
variable {w w' : World}
theorem CellsAt.below {v : Value} {X : List Ce} (h : CellsAt w v X) (hb : Below w.heap.size w w') : CellsAt w' v X :=
  ⟨h.1, fun k hk => let ⟨b, o, c, rl, h1, h2, h3, h4, h5⟩ := h.2 k hk; ⟨b, o, c, rl, h1, (hb.cell (World.block_lt_of_cell? _ _ h2)).trans h2, (hb.cell (World.block_lt_of_cell? _ _ h3)).trans h3, (h4.below hb).mono hb.size, (hb.cell (World.block_lt_of_cell? _ _ h5)).trans h5⟩⟩
theorem CellsMat.below {v : Value} {X : List (List Ce)} (h : CellsMat w v X) (hb : Below w.heap.size w w') : CellsMat w' v X :=
  ⟨h.1, fun k hk => let ⟨b, o, c, rv, h1, h2, h3⟩ := h.2 k hk; ⟨b, o, c, rv, h1, (hb.cell (World.block_lt_of_cell? _ _ h2)).trans h2, h3.below hb⟩⟩
theorem IntsMat.below {v : Value} {X : List (List Int)} (h : IntsMat w v X) (hb : Below w.heap.size w w') : IntsMat w' v X :=
  ⟨h.1, fun k hk => let ⟨b, o, c, rv, h1, h2, h3⟩ := h.2 k hk; ⟨b, o, c, rv, h1, (hb.cell (World.block_lt_of_cell? _ _ h2)).trans h2, (h3.below hb).mono hb.size⟩⟩
theorem TabAt.below {cv gv : Value} {C : List (List Ce)} {G : List (List Int)} (h : TabAt w cv gv C G) (hb : Below w.heap.size w w') : TabAt w' cv gv C G := ⟨h.cells.below hb, h.goto.below hb⟩
end

/-- A cell says but one thing. -/
def oneB (c : Ce) : Bool := (decide (c.2.1.length = 0) && !c.2.2) || (decide (c.1 < 0) && (decide (c.2.1.length = 0) || (decide (c.2.1.length = 1) && !c.2.2)))
def clashR (X : List Ce) : Nat := (X.filter fun c => !oneB c).length
def clashN (C : List (List Ce)) : Nat := (C.map clashR).sum

theorem clashR_take {X : List Ce} {k : Nat} (hk : k < X.length) : clashR (X.take (k + 1)) = clashR (X.take k) + (if oneB (X.getD k (0, [], false)) then 0 else 1) := by
  have e : X.getD k (0, [], false) = X[k] := by simp [List.getD, hk]
  unfold clashR
  rw [List.take_succ_eq_append_getElem hk, List.filter_append, List.length_append, e]
  cases h : oneB X[k] <;> simp [h]
theorem clashN_take {C : List (List Ce)} {i : Nat} (hi : i < C.length) : clashN (C.take (i + 1)) = clashN (C.take i) + clashR (C.getD i []) := by
  have e : C.getD i [] = C[i] := by simp [List.getD, hi]
  unfold clashN
  rw [List.take_succ_eq_append_getElem hi, List.map_append, List.sum_append, e]
  simp
theorem clashR_le (X : List Ce) : clashR X ≤ X.length := List.length_filter_le _ _
theorem clashN_le {C : List (List Ce)} {m : Nat} (h : ∀ i, i < C.length → (C.getD i []).length ≤ m) : clashN C ≤ C.length * m := by
  have : ∀ n, n ≤ C.length → clashN (C.take n) ≤ n * m := by
    intro n
    induction n with
    | zero => simp [clashN]
    | succ n ih =>
      intro hn
      rw [clashN_take (by omega), Nat.add_mul]
      have := ih (by omega)
      have := clashR_le (C.getD n [])
      have := h n (by omega)
      omega
  have h1 := this C.length (Nat.le_refl _)
  rwa [List.take_length] at h1

set_option maxRecDepth 100000 in
set_option maxHeartbeats 3200000 in
theorem clashes6_any {w : World} {cv gv : Value} {C : List (List Ce)} {G : List (List Int)} (h : TabAt w cv gv C G) (hC : C.length ≤ 1000) (hR : ∀ i, i < C.length → (C.getD i []).length ≤ 1000) :
    Calls Try.prog 9 #[.agg #[cv, gv]] w fun e w' => e = .returned (.int .i64 (clashN C)) ∧ Below w.heap.size w w' := by
  obtain ⟨ca, cc, hcv⟩ := h.cells.1
  obtain ⟨ga, gc, hgv⟩ := h.goto.1
  subst hcv
  subst hgv
  have HH : Hid (CellsMat w (.slice ca C.length cc) C) := h.cells
  have HR : Hid (∀ i, i < C.length → (C.getD i []).length ≤ 1000) := hR
  have HB0 : Hid (Below w.heap.size w (w.alloc (.cells #[.slice ca C.length cc, .slice ga G.length gc] 28))) := (Below.refl _ _).alloc (Nat.le_refl _) _
  have HBX : Hid (∀ wr, Below (w.heap.size + 1) (w.alloc (.cells #[.slice ca C.length cc, .slice ga G.length gc] 28)) wr → wr.cell? ⟨w.heap.size, 0, none⟩ = some (.slice ca C.length cc) ∧ Below w.heap.size w wr ∧ w.heap.size + 1 ≤ wr.heap.size) := fun wr hB =>
    ⟨(hB.cell (by simp)).trans (by simp [go_sem]), HB0.out.trans (hB.mono (by omega)), by have := hB.size; simpa using this⟩
  clear h hR
  go_enter Try.func9, Try.ntmps9
  go_wp2_with fail
  obtain ⟨WT, hWT⟩ : ∃ W, w.alloc (.cells #[.slice ca C.length cc, .slice ga G.length gc] 28) = W := ⟨_, rfl⟩
  rw [hWT] at HBX ⊢
  clear hWT HB0
  go_loopw [3, 4] (fun s3 s4 wr => ∃ i : Nat, s3 = .int .i64 (clashN (C.take i)) ∧ s4 = .int .i64 i ∧ i ≤ C.length ∧ Below (w.heap.size + 1) WT wr) (fun _ s _ => C.length - (intOf s).toNat)
  case atStart => exact ⟨0, rfl, rfl, Nat.zero_le _, Below.refl _ _⟩
  case round =>
    obtain ⟨i, rfl, rfl, hi, hB⟩ := hrel
    have HB : Hid (Below (w.heap.size + 1) WT wr) := hB
    obtain ⟨b0, hBw, hsz⟩ := HBX.out wr hB
    by_cases hlt : i < C.length
    · have hCl : clashN (C.take i) ≤ i * 1000 := by
        have := clashN_le (C := C.take i) (m := 1000) fun j hj => by
          have hj' : j < i := by simp at hj; omega
          have e : (C.take i).getD j [] = C.getD j [] := by simp [List.getD, hj']
          rw [e]; exact HR.out j (by omega)
        simp only [List.length_take] at this
        rw [Nat.min_eq_left hi] at this
        exact this
      obtain ⟨Xr, hXr⟩ : ∃ x, C.getD i [] = x := ⟨_, rfl⟩
      have HXr : Hid (C.getD i [] = Xr) := hXr
      have hXl : Xr.length ≤ 1000 := by rw [← hXr]; exact HR.out i hlt
      clear hB hBw hXr
      go_wp2_with fail
      clear b0
      go_loopw [3, 5] (fun s3 s5 wq => ∃ k : Nat, s3 = .int .i64 ((clashN (C.take i) + clashR (Xr.take k) : Nat) : Int) ∧ s5 = .int .i64 k ∧ k ≤ Xr.length ∧ Below (w.heap.size + 1) WT wq) (fun _ s _ => Xr.length - (intOf s).toNat)
      case atStart => exact ⟨0, by simp [clashR], rfl, Nat.zero_le _, HB.out⟩
      case round =>
        clear HB
        obtain ⟨k, rfl, rfl, hk, hB⟩ := hrel
        have HB : Hid (Below (w.heap.size + 1) WT wr) := hB
        obtain ⟨b0, hBw, hsz⟩ := HBX.out wr hB
        obtain ⟨b, o, c, rv, hv, d0, hcs⟩ := (HH.out.below hBw).2 i hlt
        cases hv
        rw [HXr.out] at hcs
        obtain ⟨xa, xc, hrv⟩ := hcs.1
        subst hrv
        have i0 : (0 : Int) ≤ (i : Int) := Int.natCast_nonneg _
        have i1 : (i : Int) < (C.length : Int) := by omega
        have hcr := clashR_le (Xr.take k)
        simp only [List.length_take] at hcr
        obtain ⟨q, hq⟩ : ∃ q, clashN (C.take i) + clashR (Xr.take k) = q := ⟨_, rfl⟩
        have HQ : Hid (clashN (C.take i) + clashR (Xr.take k) = q) := hq
        have hqb : q ≤ 2000000 := by omega
        rw [hq]
        clear hB hBw hq
        by_cases hklt : k < Xr.length
        · obtain ⟨b', o', c', rl, hv', e0, e1, e2, e3⟩ := hcs.2 k hklt
          cases hv'
          have hstep := clashR_take hklt
          obtain ⟨⟨sh, ru, en⟩, hce⟩ : ∃ x, Xr.getD k (0, [], false) = x := ⟨_, rfl⟩
          rw [hce] at e0 e2 e3 hstep
          simp only at e0 e2 e3
          obtain ⟨ra, rc, hrl⟩ := e2.1
          subst hrl
          have k0 : (0 : Int) ≤ (k : Int) := Int.natCast_nonneg _
          have k1 : (k : Int) < (Xr.length : Int) := by omega
          obtain ⟨z, hz⟩ : ∃ z, oneB (sh, ru, en) = z := ⟨_, rfl⟩
          rw [hz] at hstep
          have HSt : Hid (clashR (Xr.take (k + 1)) = clashR (Xr.take k) + (if z then 0 else 1)) := hstep
          have HA : Hid (Below (w.heap.size + 1) WT (wr.alloc (.cells #[.int .i64 sh, .slice ra ru.length rc, .bool en] 60))) := HB.out.alloc (by omega) _
          have hzz : z = ((decide (ru.length = 0) && !en) || (decide (sh < 0) && (decide (ru.length = 0) || (decide (ru.length = 1) && !en)))) := by rw [← hz]; rfl
          obtain ⟨p, hp⟩ : ∃ p, ((ru.length : Int) == 0) = p := ⟨_, rfl⟩
          obtain ⟨p1, hp1⟩ : ∃ p, ((ru.length : Int) == 1) = p := ⟨_, rfl⟩
          obtain ⟨p2, hp2⟩ : ∃ p, decide (sh < 0) = p := ⟨_, rfl⟩
          have hzp : z = ((p && !en) || (p2 && (p || (p1 && !en)))) := by
            rw [hzz, ← hp, ← hp1, ← hp2]
            have q0 : ((ru.length : Int) == 0) = decide (ru.length = 0) := by rw [Bool.eq_iff_iff]; simp
            have q1 : ((ru.length : Int) == 1) = decide (ru.length = 1) := by rw [Bool.eq_iff_iff]; simp; omega
            rw [q0, q1]
          clear hcs hstep hce e2 hz hzz
          cases p <;> cases p1 <;> cases p2 <;> cases en <;>
            (simp at hzp
             subst hzp
             simp only [if_true, Bool.false_eq_true, if_false, Nat.add_zero] at HSt
             go_wp2_with fail
             go_roundw
             case rel => exact ⟨k + 1, by rw [HSt.out, ← HQ.out] <;> first | rfl | go_num, by go_num, by omega, HA.out⟩
             case measure => simp [intOf]; omega)
        · have HE : Hid (clashN (C.take (i + 1)) = q) := by
            show clashN (C.take (i + 1)) = q
            rw [clashN_take hlt, HXr.out, ← HQ.out, List.take_of_length_le (by omega : Xr.length ≤ k)]
          clear hcs
          go_wp2_with fail
          go_roundw
          case rel => exact ⟨i + 1, by rw [HE.out], by go_num, by omega, HB.out⟩
          case measure => simp [intOf]; omega
    · obtain rfl : i = C.length := by omega
      have HBw : Hid (Below w.heap.size w wr) := hBw
      rw [List.take_length]
      clear hB hBw
      go_wp2_with fail
      go_ret
      exact ⟨rfl, HBw.out⟩

end Go.Proofs.Ytchpfdnifbdfpaa
