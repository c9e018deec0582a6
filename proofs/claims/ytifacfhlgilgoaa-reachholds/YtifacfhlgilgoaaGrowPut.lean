/- The contracts of the program's package grow: put (grow.UntilStill$1) and grow.UntilStill, for whatever rows grow. -/
import Derived.Test.YtifacfhlgilgoaaMayG
import Derived.Test.YtifacfhlgilgoaaBits
import Derived.Deep.RegionLaw
import Derived.Deep.RegionWith
import Derived.Deep.LoopGhost
namespace Go.Proofs.Ytifacfhlgilgoaa
open Go.RowKit

section
variable {ι : Type} [DecidableEq ι]

/-- What put does: gr is the mark that tells whether any row has grown. -/
def putG (gr : ι) (X : ι → List Bool) (i : ι) (m : Nat) : ι → List Bool := if bit X i m then X else setX (setX X i m true) gr 0 true
omit [DecidableEq ι] in
/-- The mark lies at block gb. -/
structure Mark (c : Tab ι) (gr : ι) (gb : Nat) : Prop where
  v : c.V gr = .slice (some ⟨gb, 0, none⟩) 1 1
  d : c.dom gr = some 1

variable {c : Tab ι} {gr : ι} {gb : Nat}

set_option maxRecDepth 100000 in
set_option maxHeartbeats 1600000 in
theorem put_gen {w : World} {B n m : Nat} {i : ι} {X : ι → List Bool} (h : Bt w B c X) (hM : Mark c gr gb) (hd : c.dom i = some n) (hm : m < n) (hi : i ≠ gr) :
    Calls Try.prog 15 #[c.V i, .int .i64 m, .pointer (some ⟨gb, 0, none⟩)] w fun e w' => e = .returned (.tuple #[]) ∧ Bt w' B c (putG gr X i m) ∧ Kept c.K w w' := by
  obtain ⟨g, cap, hv, _, _⟩ := Bt.form h hd (by omega)
  obtain ⟨c1, f1⟩ := Bt.cell h hd hv hm
  obtain ⟨c2, f2⟩ := Bt.cell (i := gr) h hM.d hM.v (m := 0) (by omega)
  have hne := Bt.apart (i := i) (j := gr) h hi hd hM.d hv hM.v
  have j0 : (0 : Int) ≤ (m : Int) := Int.natCast_nonneg _
  have j1 : (m : Int) < (n : Int) := by omega
  have HB : Hid (Bt w B c X) := h
  have HM : Hid (Mark c gr gb) := hM
  have HV : Hid (c.V i = .slice (some ⟨g, 0, none⟩) n cap) := hv
  rw [hv]
  clear h hv hM
  cases hb : bit X i m with
  | true =>
    rw [hb] at c1
    have HP : Hid (putG gr X i m = X) := by show putG gr X i m = X; simp [putG, hb]
    clear hb
    go_enter Try.func15, Try.ntmps15
    go_wp2_with fail
    go_end0
    exact ⟨rfl, by rw [HP.out]; exact HB.out, Kept.refl _ _⟩
  | false =>
    rw [hb] at c1
    have HP : Hid (putG gr X i m = setX (setX X i m true) gr 0 true) := by show putG gr X i m = _; simp [putG, hb]
    have s1 := Bt.set HB.out hd HV.out m true
    obtain ⟨c3, f3⟩ := Bt.cell (i := gr) s1 HM.out.d HM.out.v (m := 0) (by omega)
    have s2 : Hid _ := Bt.set (i := gr) s1 HM.out.d HM.out.v 0 true
    clear hb s1
    go_enter Try.func15, Try.ntmps15
    go_wp2_with fail
    go_end0
    exact ⟨rfl, by rw [HP.out]; exact s2.out, ((Kept.refl _ _).setCell (Tab.inK (c := c) hd HV.out) _).setCell (Tab.inK (c := c) (i := gr) HM.out.d HM.out.v) _⟩

/-- What UntilStill wants of what is done with each rule: it does f, and writes the rows alone. -/
def Does (c : Tab ι) (gb B : Nat) (w0 : World) (dn : Nat) (caps : Array Value) (R : List Ru) (f : Ru → (ι → List Bool) → ι → List Bool) : Prop :=
  ∀ k, k < R.length → ∀ (w1 : World) (Y : ι → List Bool) (qa : Option Addr) (qc : Nat), Kept c.K w0 w1 → Bt w1 B c Y → RightAt w1 B qa (R.getD k (0, [])).2 → (R.getD k (0, [])).2.length ≤ qc →
    Calls Try.prog dn (#[.agg #[.int .i64 (R.getD k (0, [])).1, .slice qa (R.getD k (0, [])).2.length qc], .func (.func 15) #[] #[.pointer (some ⟨gb, 0, none⟩)]] ++ caps) w1 fun e w' =>
      e = .returned (.tuple #[]) ∧ Bt w' B c (f (R.getD k (0, [])) Y) ∧ Kept c.K w1 w'

/-- A round over all rules. -/
def roundG (R : List Ru) (f : Ru → (ι → List Bool) → ι → List Bool) (n : Nat) (X : ι → List Bool) : ι → List Bool := loopN n (fun q => f (R.getD q (0, []))) X

set_option maxRecDepth 100000 in
set_option maxHeartbeats 3200000 in
theorem until_gen {w : World} {B dn : Nat} {caps : Array Value} {rv : Value} {X : ι → List Bool} {R : List Ru} {f : Ru → (ι → List Bool) → ι → List Bool} {Head : (ι → List Bool) → Prop} {togo : (ι → List Bool) → Nat}
    (h : Bt (w.alloc (.cells #[.bool true] 4)) B c X) (hB : B ≤ w.heap.size) (hM : Mark c gr w.heap.size) (hr : RulesAt (w.alloc (.cells #[.bool true] 4)) B rv R) (h40 : R.length ≤ 1000) (hD : Does c w.heap.size B (w.alloc (.cells #[.bool true] 4)) dn caps R f)
    (hEn : ∀ args w, (callFunc dn args).run Try.prog w = .ok (.enter dn args) w) (hA : Head X) (hN : ∀ Y, Head Y → bit Y gr 0 = true → Head (roundG R f R.length (setX Y gr 0 false)) ∧ togo (roundG R f R.length (setX Y gr 0 false)) < togo Y) :
    Calls Try.prog 9 #[rv, .func (.func dn) #[] caps] w fun e w' =>
      e = .returned (.tuple #[]) ∧ ∃ Y, Head Y ∧ bit Y gr 0 = false ∧ Bt w' B c Y ∧ Kept c.K (w.alloc (.cells #[.bool true] 4)) w' := by
  obtain ⟨ra, rc, hrv⟩ := hr.1
  subst hrv
  have HB : Hid (Bt (w.alloc (.cells #[.bool true] 4)) B c X) := h
  have HM : Hid (Mark c gr w.heap.size) := hM
  have HR : Hid (RulesAt (w.alloc (.cells #[.bool true] 4)) B (.slice ra R.length rc) R) := hr
  have HD : Hid (Does c w.heap.size B (w.alloc (.cells #[.bool true] 4)) dn caps R f) := hD
  have HA : Hid (Head X) := hA
  have HN : Hid (∀ Y, Head Y → bit Y gr 0 = true → Head (roundG R f R.length (setX Y gr 0 false)) ∧ togo (roundG R f R.length (setX Y gr 0 false)) < togo Y) := hN
  have HEn : Hid (∀ args w, (callFunc dn args).run Try.prog w = .ok (.enter dn args) w) := hEn
  clear h hM hr hD hA hN hEn
  go_enter Try.func9, Try.ntmps9
  go_wp2_with fail
  go_loopg [] (togo X) (fun n wr => ∃ Y, n = togo Y ∧ Head Y ∧ Bt wr B c Y ∧ Kept c.K (w.alloc (.cells #[.bool true] 4)) wr)
  case atStart => exact ⟨X, rfl, HA.out, HB.out, Kept.refl _ _⟩
  case round =>
    obtain ⟨Y, hn, hAY, hBr, hKr⟩ := hrel
    have HN' : Hid (gk = togo Y) := hn
    have HAY : Hid (Head Y) := hAY
    have HBr : Hid (Bt wr B c Y) := hBr
    have HKr : Hid (Kept c.K (w.alloc (.cells #[.bool true] 4)) wr) := hKr
    have hsz : w.heap.size + 1 ≤ wr.heap.size := by have := hKr.size; simpa using this
    obtain ⟨c1, f1⟩ := Bt.cell (i := gr) (n := 1) hBr HM.out.d HM.out.v (m := 0) (by omega)
    clear hn hAY hBr hKr
    cases hg : bit Y gr 0 with
    | true =>
      rw [hg] at c1
      have hnx := HN.out Y HAY.out hg
      have HNX : Hid (Head (roundG R f R.length (setX Y gr 0 false)) ∧ togo (roundG R f R.length (setX Y gr 0 false)) < togo Y) := hnx
      have hB1 := Bt.set (i := gr) (n := 1) HBr.out HM.out.d HM.out.v 0 false
      have hK1 : Kept c.K wr (wr.setCell ⟨w.heap.size, 0, none⟩ (.bool false)) := (Kept.refl _ _).setCell (Tab.inK (c := c) (i := gr) HM.out.d HM.out.v) _
      have HK2 : Hid (Kept c.K (w.alloc (.cells #[.bool true] 4)) (wr.setCell ⟨w.heap.size, 0, none⟩ (.bool false))) := HKr.out.trans hK1
      have HB1 : Hid (Bt (wr.setCell ⟨w.heap.size, 0, none⟩ (.bool false)) B c (setX Y gr 0 false)) := hB1
      clear hg hnx hB1 hK1
      obtain ⟨w3, hw3⟩ : ∃ w3, w3 = wr := ⟨_, rfl⟩
      subst hw3
      go_wp2_with fail
      clear c1 f1
      go_loopw [12] (fun s wq => ∃ k : Nat, s = .int .i64 k ∧ k ≤ R.length ∧ Bt wq B c (roundG R f k (setX Y gr 0 false)) ∧ Kept c.K (w.alloc (.cells #[.bool true] 4)) wq) (fun s _ => R.length - (intOf s).toNat)
      case atStart => exact ⟨0, rfl, Nat.zero_le _, HB1.out, HK2.out⟩
      case round =>
        clear HB1 HK2
        obtain ⟨k, rfl, hk, hBq, hKq⟩ := hrel
        obtain ⟨Z, hZ⟩ : ∃ Z, roundG R f k (setX Y gr 0 false) = Z := ⟨_, rfl⟩
        rw [hZ] at hBq
        have HZ : Hid (roundG R f k (setX Y gr 0 false) = Z) := hZ
        have HBq : Hid (Bt wr B c Z) := hBq
        have HKq : Hid (Kept c.K (w.alloc (.cells #[.bool true] 4)) wr) := hKq
        have hsz : w.heap.size + 1 ≤ wr.heap.size := by have := hKq.size; simpa using this
        have hRq := HR.out.below (hKq.below (fun b hb => Bt.ge HB.out hb) (by simp; omega))
        clear hZ hBq hKq
        by_cases hlt : k < R.length
        · obtain ⟨b, o, rc', qa, qc, hv, hb, k1, k2, hqc, k3⟩ := hRq.2 k hlt
          cases hv
          have hstep : roundG R f (k + 1) (setX Y gr 0 false) = f (R.getD k (0, [])) Z := by rw [← HZ.out]; rfl
          have hK1 : Kept c.K wr (wr.alloc (.cells #[.int .i64 (R.getD k (0, [])).1, .slice qa (R.getD k (0, [])).2.length qc] 36)) := (Kept.refl _ _).alloc _
          have call := HD.out k hlt (wr.alloc (.cells #[.int .i64 (R.getD k (0, [])).1, .slice qa (R.getD k (0, [])).2.length qc] 36)) Z qa qc (HKq.out.trans hK1) (Bt.alloc HBq.out _)
            (RightAt.below (w := wr) k3 (hK1.below (fun b hb => Bt.ge HB.out hb) (by omega))) hqc
          have HK1 : Hid (Kept c.K (w.alloc (.cells #[.bool true] 4)) (wr.alloc (.cells #[.int .i64 (R.getD k (0, [])).1, .slice qa (R.getD k (0, [])).2.length qc] 36))) := HKq.out.trans hK1
          have HS : Hid (roundG R f (k + 1) (setX Y gr 0 false) = f (R.getD k (0, [])) Z) := hstep
          obtain ⟨⟨L, Rt⟩, hre⟩ : ∃ x, R.getD k (0, []) = x := ⟨_, rfl⟩
          rw [hre] at k1 k2 call HK1 HS
          simp only at k1 k2 call HK1
          have k2' : wr.cell? ⟨b, o + k * 2 + 1, none⟩ = some (.slice qa Rt.length qc) := by rw [Nat.add_assoc]; exact k2
          have j0 : (0 : Int) ≤ (k : Int) := Int.natCast_nonneg _
          have j1 : (k : Int) < (R.length : Int) := by omega
          clear hstep hre k2 k3 hK1 hRq hqc
          go_wp2_with fail
          simp only [HEn.out]
          refine Calls.mono call ?_
          rintro e w4 ⟨rfl, hB4, hK4⟩
          go_wp2_with fail
          go_roundw
          case rel => exact ⟨k + 1, by go_num, by omega, by rw [HS.out]; exact hB4, HK1.out.trans hK4⟩
          case measure => simp [intOf]; omega
        · obtain rfl : k = R.length := by omega
          clear hRq
          go_wp2_with fail
          go_roundg (togo (roundG R f R.length (setX Y gr 0 false)))
          case measure => have := HNX.out.2; rw [HN'.out]; exact this
          case rel => exact ⟨_, rfl, HNX.out.1, by rw [HZ.out]; exact HBq.out, HKq.out⟩
    | false =>
      rw [hg] at c1
      have HG : Hid (bit Y gr 0 = false) := hg
      clear hg
      go_wp2_with fail
      go_end0
      exact ⟨rfl, Y, HAY.out, HG.out, HBr.out, HKr.out⟩
end

end Go.Proofs.Ytifacfhlgilgoaa
