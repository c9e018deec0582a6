import Derived.Test.YtikjekfpgklbdaaStOfSAndMayG
import Derived.Test.YtikjekfpgklbdaaBitsAndStepMath
import Derived.Deep.RegionLaw
import Derived.Deep.RegionWith
import Derived.Deep.LoopGhost
import Derived.Test.YtikjekfpgklbdaaStCatAndStepEx
/- The contracts of the program's package grow: put (grow.UntilStill$1) and grow.UntilStill, for whatever rows grow. -/
namespace Go.Proofs.Ytikjekfpgklbdaa
open Go.RowKit

section
variable {ι : Type} [DecidableEq ι]

/-- What put does: gr is the mark that tells whether any row has grown. -/
def putG (gr : ι) (X : ι → List Bool) (i : ι) (m : Nat) : ι → List Bool := if bit X i m then X else setX (setX X i m true) gr 0 true
omit [DecidableEq ι] in
/-- The mark lies at block gb. -/
structure Mark (c : Tab ι) (gr : ι) (gb : Nat) : Prop where
  v : c.V gr = .slice (some ⟨gb, 0, none⟩) 1 1
  d : c.dom gr = some 1

variable {c : Tab ι} {gr : ι} {gb : Nat}

set_option maxRecDepth 100000 in
set_option maxHeartbeats 1600000 in
theorem put_gen {w : World} {B n m : Nat} {i : ι} {X : ι → List Bool} (h : Bt w B c X) (hM : Mark c gr gb) (hd : c.dom i = some n) (hm : m < n) (hi : i ≠ gr) :
    Calls Try.prog 54 #[c.V i, .int .i64 m, .pointer (some ⟨gb, 0, none⟩)] w fun e w' => e = .returned (.tuple #[]) ∧ Bt w' B c (putG gr X i m) ∧ Kept c.K w w' := by
  obtain ⟨g, cap, hv, _, _⟩ := Bt.form h hd (by omega)
  obtain ⟨c1, f1⟩ := Bt.cell h hd hv hm
  obtain ⟨c2, f2⟩ := Bt.cell (i := gr) h hM.d hM.v (m := 0) (by omega)
  have hne := Bt.apart (i := i) (j := gr) h hi hd hM.d hv hM.v
  have j0 : (0 : Int) ≤ (m : Int) := Int.natCast_nonneg _
  have j1 : (m : Int) < (n : Int) := by omega
  have HB : Hid (Bt w B c X) := h
  have HM : Hid (Mark c gr gb) := hM
  have HV : Hid (c.V i = .slice (some ⟨g, 0, none⟩) n cap) := hv
  rw [hv]
  clear h hv hM
  cases hb : bit X i m with
  | true =>
    rw [hb] at c1
    have HP : Hid (putG gr X i m = X) := by show putG gr X i m = X; simp [putG, hb]
    clear hb
    go_enter Try.func54, Try.ntmps54
    go_wp2_with fail
    go_end0
    exact ⟨rfl, by rw [HP.out]; exact HB.out, Kept.refl _ _⟩
  | false =>
    rw [hb] at c1
    have HP : Hid (putG gr X i m = setX (setX X i m true) gr 0 true) := by show putG gr X i m = _; simp [putG, hb]
    have s1 := Bt.set HB.out hd HV.out m true
    obtain ⟨c3, f3⟩ := Bt.cell (i := gr) s1 HM.out.d HM.out.v (m := 0) (by omega)
    have s2 : Hid _ := Bt.set (i := gr) s1 HM.out.d HM.out.v 0 true
    clear hb s1
    go_enter Try.func54, Try.ntmps54
    go_wp2_with fail
    go_end0
    exact ⟨rfl, by rw [HP.out]; exact s2.out, ((Kept.refl _ _).setCell (Tab.inK (c := c) hd HV.out) _).setCell (Tab.inK (c := c) (i := gr) HM.out.d HM.out.v) _⟩

/-- What UntilStill wants of what is done with each rule: it does f, and writes the rows alone. -/
def Does (c : Tab ι) (gb B : Nat) (w0 : World) (dn : Nat) (caps : Array Value) (R : List Ru) (f : Ru → (ι → List Bool) → ι → List Bool) : Prop :=
  ∀ k, k < R.length → ∀ (w1 : World) (Y : ι → List Bool) (qa : Option Addr) (qc : Nat), Kept c.K w0 w1 → Bt w1 B c Y → RightAt w1 B qa (R.getD k (0, [])).2 → (R.getD k (0, [])).2.length ≤ qc →
    Calls Try.prog dn (#[.agg #[.int .i64 (R.getD k (0, [])).1, .slice qa (R.getD k (0, [])).2.length qc], .func (.func 54) #[] #[.pointer (some ⟨gb, 0, none⟩)]] ++ caps) w1 fun e w' =>
      e = .returned (.tuple #[]) ∧ Bt w' B c (f (R.getD k (0, [])) Y) ∧ Kept c.K w1 w'

/-- A round over all rules. -/
def roundG (R : List Ru) (f : Ru → (ι → List Bool) → ι → List Bool) (n : Nat) (X : ι → List Bool) : ι → List Bool := loopN n (fun q => f (R.getD q (0, []))) X

set_option maxRecDepth 100000 in
set_option maxHeartbeats 3200000 in
theorem until_gen {w : World} {B dn : Nat} {caps : Array Value} {rv : Value} {X : ι → List Bool} {R : List Ru} {f : Ru → (ι → List Bool) → ι → List Bool} {Head : (ι → List Bool) → Prop} {togo : (ι → List Bool) → Nat}
    (h : Bt (w.alloc (.cells #[.bool true] 4)) B c X) (hB : B ≤ w.heap.size) (hM : Mark c gr w.heap.size) (hr : RulesAt (w.alloc (.cells #[.bool true] 4)) B rv R) (h40 : R.length ≤ 1000) (hD : Does c w.heap.size B (w.alloc (.cells #[.bool true] 4)) dn caps R f)
    (hEn : ∀ args w, (callFunc dn args).run Try.prog w = .ok (.enter dn args) w) (hA : Head X) (hN : ∀ Y, Head Y → bit Y gr 0 = true → Head (roundG R f R.length (setX Y gr 0 false)) ∧ togo (roundG R f R.length (setX Y gr 0 false)) < togo Y) :
    Calls Try.prog 45 #[rv, .func (.func dn) #[] caps] w fun e w' =>
      e = .returned (.tuple #[]) ∧ ∃ Y, Head Y ∧ bit Y gr 0 = false ∧ Bt w' B c Y ∧ Kept c.K (w.alloc (.cells #[.bool true] 4)) w' := by
  obtain ⟨ra, rc, hrv⟩ := hr.1
  subst hrv
  have HB : Hid (Bt (w.alloc (.cells #[.bool true] 4)) B c X) := h
  have HM : Hid (Mark c gr w.heap.size) := hM
  have HR : Hid (RulesAt (w.alloc (.cells #[.bool true] 4)) B (.slice ra R.length rc) R) := hr
  have HD : Hid (Does c w.heap.size B (w.alloc (.cells #[.bool true] 4)) dn caps R f) := hD
  have HA : Hid (Head X) := hA
  have HN : Hid (∀ Y, Head Y → bit Y gr 0 = true → Head (roundG R f R.length (setX Y gr 0 false)) ∧ togo (roundG R f R.length (setX Y gr 0 false)) < togo Y) := hN
  have HEn : Hid (∀ args w, (callFunc dn args).run Try.prog w = .ok (.enter dn args) w) := hEn
  clear h hM hr hD hA hN hEn
  go_enter Try.func45, Try.ntmps45
  go_wp2_with fail
  go_loopg [] (togo X) (fun n wr => ∃ Y, n = togo Y ∧ Head Y ∧ Bt wr B c Y ∧ Kept c.K (w.alloc (.cells #[.bool true] 4)) wr)
  case atStart => exact ⟨X, rfl, HA.out, HB.out, Kept.refl _ _⟩
  case round =>
    obtain ⟨Y, hn, hAY, hBr, hKr⟩ := hrel
    have HN' : Hid (gk = togo Y) := hn
    have HAY : Hid (Head Y) := hAY
    have HBr : Hid (Bt wr B c Y) := hBr
    have HKr : Hid (Kept c.K (w.alloc (.cells #[.bool true] 4)) wr) := hKr
    have hsz : w.heap.size + 1 ≤ wr.heap.size := by have := hKr.size; simpa using this
    obtain ⟨c1, f1⟩ := Bt.cell (i := gr) (n := 1) hBr HM.out.d HM.out.v (m := 0) (by omega)
    clear hn hAY hBr hKr
    cases hg : bit Y gr 0 with
    | true =>
      rw [hg] at c1
      have hnx := HN.out Y HAY.out hg
      have HNX : Hid (Head (roundG R f R.length (setX Y gr 0 false)) ∧ togo (roundG R f R.length (setX Y gr 0 false)) < togo Y) := hnx
      have hB1 := Bt.set (i := gr) (n := 1) HBr.out HM.out.d HM.out.v 0 false
      have hK1 : Kept c.K wr (wr.setCell ⟨w.heap.size, 0, none⟩ (.bool false)) := (Kept.refl _ _).setCell (Tab.inK (c := c) (i := gr) HM.out.d HM.out.v) _
      have HK2 : Hid (Kept c.K (w.alloc (.cells #[.bool true] 4)) (wr.setCell ⟨w.heap.size, 0, none⟩ (.bool false))) := HKr.out.trans hK1
      have HB1 : Hid (Bt (wr.setCell ⟨w.heap.size, 0, none⟩ (.bool false)) B c (setX Y gr 0 false)) := hB1
      clear hg hnx hB1 hK1
      obtain ⟨w3, hw3⟩ : ∃ w3, w3 = wr := ⟨_, rfl⟩
      subst hw3
      go_wp2_with fail
      clear c1 f1
      go_loopw [12] (fun s wq => ∃ k : Nat, s = .int .i64 k ∧ k ≤ R.length ∧ Bt wq B c (roundG R f k (setX Y gr 0 false)) ∧ Kept c.K (w.alloc (.cells #[.bool true] 4)) wq) (fun s _ => R.length - (intOf s).toNat)
      case atStart => exact ⟨0, rfl, Nat.zero_le _, HB1.out, HK2.out⟩
      case round =>
        clear HB1 HK2
        obtain ⟨k, rfl, hk, hBq, hKq⟩ := hrel
        obtain ⟨Z, hZ⟩ : ∃ Z, roundG R f k (setX Y gr 0 false) = Z := ⟨_, rfl⟩
        rw [hZ] at hBq
        have HZ : Hid (roundG R f k (setX Y gr 0 false) = Z) := hZ
        have HBq : Hid (Bt wr B c Z) := hBq
        have HKq : Hid (Kept c.K (w.alloc (.cells #[.bool true] 4)) wr) := hKq
        have hsz : w.heap.size + 1 ≤ wr.heap.size := by have := hKq.size; simpa using this
        have hRq := HR.out.below (hKq.below (fun b hb => Bt.ge HB.out hb) (by simp; omega))
        clear hZ hBq hKq
        by_cases hlt : k < R.length
        · obtain ⟨b, o, rc', qa, qc, hv, hb, k1, k2, hqc, k3⟩ := hRq.2 k hlt
          cases hv
          have hstep : roundG R f (k + 1) (setX Y gr 0 false) = f (R.getD k (0, [])) Z := by rw [← HZ.out]; rfl
          have hK1 : Kept c.K wr (wr.alloc (.cells #[.int .i64 (R.getD k (0, [])).1, .slice qa (R.getD k (0, [])).2.length qc] 44)) := (Kept.refl _ _).alloc _
          have call := HD.out k hlt (wr.alloc (.cells #[.int .i64 (R.getD k (0, [])).1, .slice qa (R.getD k (0, [])).2.length qc] 44)) Z qa qc (HKq.out.trans hK1) (Bt.alloc HBq.out _)
            (RightAt.below (w := wr) k3 (hK1.below (fun b hb => Bt.ge HB.out hb) (by omega))) hqc
          have HK1 : Hid (Kept c.K (w.alloc (.cells #[.bool true] 4)) (wr.alloc (.cells #[.int .i64 (R.getD k (0, [])).1, .slice qa (R.getD k (0, [])).2.length qc] 44))) := HKq.out.trans hK1
          have HS : Hid (roundG R f (k + 1) (setX Y gr 0 false) = f (R.getD k (0, [])) Z) := hstep
          obtain ⟨⟨L, Rt⟩, hre⟩ : ∃ x, R.getD k (0, []) = x := ⟨_, rfl⟩
          rw [hre] at k1 k2 call HK1 HS
          simp only at k1 k2 call HK1
          have k2' : wr.cell? ⟨b, o + k * 2 + 1, none⟩ = some (.slice qa Rt.length qc) := by rw [Nat.add_assoc]; exact k2
          have j0 : (0 : Int) ≤ (k : Int) := Int.natCast_nonneg _
          have j1 : (k : Int) < (R.length : Int) := by omega
          clear hstep hre k2 k3 hK1 hRq hqc
          go_wp2_with fail
          simp only [HEn.out]
          refine Calls.mono call ?_
          rintro e w4 ⟨rfl, hB4, hK4⟩
          go_wp2_with fail
          go_roundw
          case rel => exact ⟨k + 1, by go_num, by omega, by rw [HS.out]; exact hB4, HK1.out.trans hK4⟩
          case measure => simp [intOf]; omega
        · obtain rfl : k = R.length := by omega
          clear hRq
          go_wp2_with fail
          go_roundg (togo (roundG R f R.length (setX Y gr 0 false)))
          case measure => have := HNX.out.2; rw [HN'.out]; exact this
          case rel => exact ⟨_, rfl, HNX.out.1, by rw [HZ.out]; exact HBq.out, HKq.out⟩
    | false =>
      rw [hg] at c1
      have HG : Hid (bit Y gr 0 = false) := hg
      clear hg
      go_wp2_with fail
      go_end0
      exact ⟨rfl, Y, HAY.out, HG.out, HBr.out, HKr.out⟩
end

end Go.Proofs.Ytikjekfpgklbdaa

/- Plain: rows that only grow, rule by rule, until they are still. No program. -/
namespace Go.Proofs.Ytikjekfpgklbdaa

section
variable {ι : Type}

def ShpG (dom : ι → Option Nat) (X : ι → List Bool) : Prop := ∀ i n, dom i = some n → (X i).length = n

/-- No row has lost anything; where the mark is not set nothing has turned. -/
structure UpG (gr : ι) (dom : ι → Option Nat) (X Y : ι → List Bool) : Prop where
  shp : ShpG dom Y
  up : ∀ i m, bit X i m = true → bit Y i m = true
  still : bit Y gr 0 = false → Y = X
  grew : bit X gr 0 = false → bit Y gr 0 = true → ∃ i m n, i ≠ gr ∧ dom i = some n ∧ m < n ∧ bit X i m = false ∧ bit Y i m = true

/-- Nothing is there without a reason. -/
def SndG (dom : ι → Option Nat) (Z : ι → Nat → Prop) (X : ι → List Bool) : Prop := ∀ i n m, dom i = some n → m < n → bit X i m = true → Z i m

variable {gr : ι} {dom : ι → Option Nat} {Z : ι → Nat → Prop}

theorem UpG.refl {X : ι → List Bool} (h : ShpG dom X) : UpG gr dom X X := ⟨h, fun _ _ h => h, fun _ => rfl, fun h1 h2 => by rw [h1] at h2; cases h2⟩
theorem UpG.trans {X Y W : ι → List Bool} (h : UpG gr dom X Y) (k : UpG gr dom Y W) : UpG gr dom X W :=
  ⟨k.shp, fun i m hm => k.up i m (h.up i m hm), fun hz => by
    have e := k.still hz
    rw [e] at hz ⊢
    exact h.still hz, fun h1 h2 => by
    cases hy : bit Y gr 0 with
    | true =>
      obtain ⟨i, m, n, a1, a2, a3, a4, a5⟩ := h.grew h1 hy
      exact ⟨i, m, n, a1, a2, a3, a4, k.up i m a5⟩
    | false =>
      obtain ⟨i, m, n, a1, a2, a3, a4, a5⟩ := k.grew hy h2
      rw [h.still hy] at a4
      exact ⟨i, m, n, a1, a2, a3, a4, a5⟩⟩

variable [DecidableEq ι]

theorem putG_up (hgr : dom gr = some 1) {X : ι → List Bool} {i : ι} {n m : Nat} (h : ShpG dom X) (hd : dom i = some n) (hm : m < n) (hi : i ≠ gr) : UpG gr dom X (putG gr X i m) ∧ bit (putG gr X i m) i m = true := by
  have hl := h i n hd
  have hg := h gr 1 hgr
  cases hb : bit X i m with
  | true =>
    have e : putG gr X i m = X := by simp [putG, hb]
    rw [e]
    exact ⟨UpG.refl h, hb⟩
  | false =>
    have e : putG gr X i m = setX (setX X i m true) gr 0 true := by simp [putG, hb]
    rw [e]
    have hg' : 0 < (setX X i m true gr).length := by rw [len_set]; omega
    refine ⟨⟨fun j k hj => ?_, fun j q hq => ?_, fun hz => ?_, fun _ _ => ?_⟩, ?_⟩
    · rw [len_set, len_set]; exact h j k hj
    · rw [bit_set hg', bit_set (by omega)]
      split
      · rfl
      · split
        · rfl
        · exact hq
    · rw [bit_set hg'] at hz
      simp at hz
    · refine ⟨i, m, n, hi, hd, hm, hb, ?_⟩
      rw [bit_set hg', bit_set (by omega)]
      simp
    · rw [bit_set hg', bit_set (by omega)]
      simp

theorem putG_snd (hgr : dom gr = some 1) (hZ : ∀ m, Z gr m) {X : ι → List Bool} {i : ι} {n m : Nat} (h : ShpG dom X) (hd : dom i = some n) (hm : m < n) (hs : SndG dom Z X) (hz : Z i m) : SndG dom Z (putG gr X i m) := by
  have hl := h i n hd
  have hg := h gr 1 hgr
  cases hb : bit X i m with
  | true =>
    have e : putG gr X i m = X := by simp [putG, hb]
    rw [e]; exact hs
  | false =>
    have e : putG gr X i m = setX (setX X i m true) gr 0 true := by simp [putG, hb]
    rw [e]
    have hg' : 0 < (setX X i m true gr).length := by rw [len_set]; omega
    intro j k q hj hq hbq
    rw [bit_set hg', bit_set (by omega)] at hbq
    by_cases c1 : j = gr ∧ q = 0
    · rw [c1.1]; exact hZ q
    · rw [if_neg c1] at hbq
      by_cases c2 : j = i ∧ q = m
      · rw [c2.1, c2.2]; exact hz
      · rw [if_neg c2] at hbq
        exact hs j k q hj hq hbq

omit [DecidableEq ι] in
/-- A loop of steps that only grow: where the mark is not set, each step has left all as it was. -/
theorem loopG_up {n : Nat} {f : Nat → (ι → List Bool) → ι → List Bool} (hf : ∀ k, k < n → ∀ Y, ShpG dom Y → UpG gr dom Y (f k Y)) {X : ι → List Bool} (h : ShpG dom X) : UpG gr dom X (loopN n f X) ∧
    (bit (loopN n f X) gr 0 = false → ∀ k, k < n → bit (f k X) gr 0 = false) := by
  induction n with
  | zero => exact ⟨UpG.refl h, fun _ k hk => absurd hk (Nat.not_lt_zero _)⟩
  | succ n ih =>
    obtain ⟨h1, h2⟩ := ih fun k hk => hf k (by omega)
    have h3 := hf n (by omega) _ h1.shp
    refine ⟨h1.trans h3, fun hz k hk => ?_⟩
    have hz' : bit (f n (loopN n f X)) gr 0 = false := hz
    have e1 := h3.still hz'
    have hz1 : bit (loopN n f X) gr 0 = false := by rw [← e1]; exact hz'
    rcases Nat.lt_succ_iff_lt_or_eq.1 hk with hk | rfl
    · exact h2 hz1 k hk
    · rw [h1.still hz1] at hz'
      exact hz'

omit [DecidableEq ι] in
theorem loopG_snd {n : Nat} {f : Nat → (ι → List Bool) → ι → List Bool} (hf : ∀ k, k < n → ∀ Y, ShpG dom Y → UpG gr dom Y (f k Y)) (hg : ∀ k, k < n → ∀ Y, ShpG dom Y → SndG dom Z Y → SndG dom Z (f k Y)) {X : ι → List Bool} (h : ShpG dom X) (hs : SndG dom Z X) : SndG dom Z (loopN n f X) := by
  induction n with
  | zero => exact hs
  | succ n ih =>
    have h1 := (loopG_up (n := n) (f := f) (fun k hk => hf k (by omega)) h).1
    exact hg n (by omega) _ h1.shp (ih (fun k hk => hf k (by omega)) fun k hk => hg k (by omega))

/-- What holds of the rows at the head of UntilStill's loop. -/
structure HeadG (gr : ι) (dom : ι → Option Nat) (Z : ι → Nat → Prop) (X0 : ι → List Bool) (R : List Ru) (f : Ru → (ι → List Bool) → ι → List Bool) (X : ι → List Bool) : Prop where
  shp : ShpG dom X
  snd : SndG dom Z X
  up : ∀ i m, i ≠ gr → bit X0 i m = true → bit X i m = true
  held : bit X gr 0 = false → ∀ q, q < R.length → bit (f (R.getD q (0, [])) X) gr 0 = false

/-- How many rounds may still come: ixs has all that may yet be put. -/
def togoG (gr : ι) (ixs : List (ι × Nat)) (X : ι → List Bool) : Nat := 2 * (ixs.filter fun p => !bit X p.1 p.2).length + if bit X gr 0 then 1 else 0

theorem HeadG.next {X0 : ι → List Bool} {R : List Ru} {f : Ru → (ι → List Bool) → ι → List Bool} {ixs : List (ι × Nat)} (hgr : dom gr = some 1) (hin : ∀ i n m, i ≠ gr → dom i = some n → m < n → (i, m) ∈ ixs) (hno : ∀ p ∈ ixs, p.1 ≠ gr) (hZ : ∀ m, Z gr m)
    (hf : ∀ q, q < R.length → ∀ Y, ShpG dom Y → UpG gr dom Y (f (R.getD q (0, [])) Y)) (hs : ∀ q, q < R.length → ∀ Y, ShpG dom Y → SndG dom Z Y → SndG dom Z (f (R.getD q (0, [])) Y))
    (X : ι → List Bool) (h : HeadG gr dom Z X0 R f X) (hg : bit X gr 0 = true) :
    HeadG gr dom Z X0 R f (roundG R f R.length (setX X gr 0 false)) ∧ togoG gr ixs (roundG R f R.length (setX X gr 0 false)) < togoG gr ixs X := by
  have hl := h.shp gr 1 hgr
  have s1 : ShpG dom (setX X gr 0 false) := fun i n hd => by rw [len_set]; exact h.shp i n hd
  have n1 : SndG dom Z (setX X gr 0 false) := fun i n m hd hm hb => by
    rw [bit_set (by omega)] at hb
    by_cases c : i = gr ∧ m = 0
    · rw [c.1]; exact hZ m
    · rw [if_neg c] at hb; exact h.snd i n m hd hm hb
  have g1 : bit (setX X gr 0 false) gr 0 = false := by rw [bit_set (by omega)]; simp
  have f1 : ∀ i m, i ≠ gr → bit (setX X gr 0 false) i m = bit X i m := fun i m hi => by rw [bit_set (by omega), if_neg (fun e => hi e.1)]
  obtain ⟨u1, u2⟩ := loopG_up (n := R.length) (f := fun q => f (R.getD q (0, []))) hf s1
  have e0 : roundG R f R.length (setX X gr 0 false) = loopN R.length (fun q => f (R.getD q (0, []))) (setX X gr 0 false) := rfl
  rw [← e0] at u1 u2
  refine ⟨⟨u1.shp, loopG_snd hf hs s1 n1, fun i m hi hb => u1.up _ _ (by rw [f1 i m hi]; exact h.up i m hi hb), fun hz => ?_⟩, ?_⟩
  · rw [u1.still hz]; exact u2 hz
  · have e : (ixs.filter fun p => !bit (setX X gr 0 false) p.1 p.2) = ixs.filter fun p => !bit X p.1 p.2 := List.filter_congr fun p hp => by rw [f1 _ _ (hno p hp)]
    unfold togoG
    rw [hg]
    cases hz : bit (roundG R f R.length (setX X gr 0 false)) gr 0 with
    | true =>
      have : (ixs.filter fun p => !bit (roundG R f R.length (setX X gr 0 false)) p.1 p.2).length < (ixs.filter fun p => !bit (setX X gr 0 false) p.1 p.2).length := by
        obtain ⟨i, m, n, a1, a2, a3, a4, a5⟩ := u1.grew g1 hz
        refine (filter_lt _ _ (fun p hp => ?_) ixs).2 ⟨(i, m), hin i n m a1 a2 a3, by simp [a4], by simp [a5]⟩
        cases hb : bit (setX X gr 0 false) p.1 p.2 with
        | false => rfl
        | true => simp [u1.up _ _ hb] at hp
      rw [e] at this
      simp only [if_true]; omega
    | false => rw [u1.still hz, e]; simp only [if_true, Bool.false_eq_true, if_false]; omega

end

end Go.Proofs.Ytikjekfpgklbdaa

/- Plain: what the program's package reach does with a rule, and that what it comes to are the least sets. No memory. -/
namespace Go.Proofs.Ytikjekfpgklbdaa

/-- The mark, a row or two, and a row for each name. -/
inductive Iv where
  | gr | a | b
  | r (n : Nat)
  deriving DecidableEq

abbrev Vs := Iv → List Bool

def makesX (r : Ru) (X : Vs) : Vs := if allB (X .a) r.2 then putG .gr X .a r.1.toNat else X
def nameX (l : List Sy) (k : Nat) (Y : Vs) : Vs := if (l.getD k (false, 0)).1 then Y else putG .gr Y .b (l.getD k (false, 0)).2.toNat
def namesX (l : List Sy) (X : Vs) : Vs := loopN l.length (nameX l) X
def comesX (r : Ru) (X : Vs) : Vs := if bit X .b r.1.toNat && allB (X .a) r.2 then namesX r.2 X else X
def mdom (N : Nat) : Iv → Option Nat
  | .gr => some 1
  | .a => some N
  | .b => none
  | .r _ => none
def cdom (N : Nat) : Iv → Option Nat
  | .gr => some 1
  | .a => some N
  | .b => some N
  | .r _ => none
section
variable {T N : Nat} {R : List Ru}

/-! ### Makes -/

def ZM (N : Nat) (R : List Ru) : Iv → Nat → Prop
  | .a, m => MakesP N R m
  | _, _ => True

theorem makes_up {r : Ru} (hL : 0 ≤ r.1 ∧ r.1 < (N : Int)) {X : Vs} (h : ShpG (mdom N) X) : UpG .gr (mdom N) X (makesX r X) ∧ (bit (makesX r X) .gr 0 = false → allB (X .a) r.2 = true → bit X .a r.1.toNat = true) := by
  unfold makesX
  cases hb : allB (X .a) r.2 with
  | true =>
    simp only [if_true]
    obtain ⟨p1, p2⟩ := putG_up (gr := Iv.gr) (dom := mdom N) (i := .a) (n := N) (m := r.1.toNat) rfl h rfl (by omega) (by simp)
    exact ⟨p1, fun hz _ => by rw [p1.still hz] at p2; exact p2⟩
  | false => exact ⟨by simpa using UpG.refl h, fun _ h => by cases h⟩

theorem makes_snd (hf : Fine T N R) {r : Ru} (hr : r ∈ R) {X : Vs} (h : ShpG (mdom N) X) (hs : SndG (mdom N) (ZM N R) X) : SndG (mdom N) (ZM N R) (makesX r X) := by
  have hL := hf.left r hr
  unfold makesX
  cases hb : allB (X .a) r.2 with
  | true =>
    simp only [if_true]
    refine putG_snd (gr := Iv.gr) (i := .a) (n := N) rfl (fun _ => trivial) h rfl (by omega) hs ?_
    show MakesP N R _
    rw [toNat_of hL.1]
    refine Lv_closed (MakesF_mono hf) _ ⟨r, hr, rfl, fun s hsr hsb => ?_⟩
    have hn := hf.name r hr s hsr hsb
    have := (allB_iff (fun s hs hb => (hf.name r hr s hs hb).1)).1 hb s hsr hsb
    have := hs .a N s.2.toNat rfl (by omega) this.2
    have : MakesP N R (s.2.toNat : Nat) := this
    rwa [toNat_of hn.1] at this
  | false => simpa using hs

theorem makes_least (hf : Fine T N R) {X0 X : Vs} (h : HeadG .gr (mdom N) (ZM N R) X0 R makesX X) (hg : bit X .gr 0 = false) : ∀ n, hasB (X .a) n ↔ MakesP N R n := by
  have hl := h.shp .a N rfl
  refine fun n => ⟨fun hn => ?_, fun hn => ?_⟩
  · have hb : bit X .a n.toNat = true := hn.2
    have := h.snd .a N n.toNat rfl (by have := bit_lt hb; omega) hb
    have : MakesP N R (n.toNat : Nat) := this
    rwa [toNat_of hn.1] at this
  · refine Lv_least (MakesF_up R) (A := hasB (X .a)) (fun n hn => ?_) N n hn
    obtain ⟨r, hr, rfl, ha⟩ := hn
    obtain ⟨q, hq, rfl⟩ := getD_of_mem hr
    have hL := hf.left _ hr
    exact ⟨hL.1, (makes_up hL h.shp).2 (h.held hg q hq) ((allB_iff (fun s hs hb => (hf.name _ hr s hs hb).1)).2 ha)⟩

/-! ### Comes -/

def ZC (N : Nat) (R : List Ru) : Iv → Nat → Prop
  | .a, m => MakesP N R m
  | .b, m => ComesP N R m
  | _, _ => True

theorem nameX_up {l : List Sy} (hin : ∀ s ∈ l, s.1 = false → 0 ≤ s.2 ∧ s.2 < (N : Int)) {k : Nat} (hk : k < l.length) {X : Vs} (h : ShpG (cdom N) X) : UpG .gr (cdom N) X (nameX l k X) ∧ ((l.getD k (false, 0)).1 = false → bit (nameX l k X) .b (l.getD k (false, 0)).2.toNat = true) := by
  have hm : l.getD k (false, 0) ∈ l := by simp [List.getD, hk]
  unfold nameX
  cases hb : (l.getD k (false, 0)).1 with
  | true => exact ⟨by simpa using UpG.refl h, fun h => by cases h⟩
  | false =>
    have := hin _ hm hb
    simp only [Bool.false_eq_true, if_false]
    obtain ⟨p1, p2⟩ := putG_up (gr := Iv.gr) (dom := cdom N) (i := .b) (n := N) (m := (l.getD k (false, 0)).2.toNat) rfl h rfl (by omega) (by simp)
    exact ⟨p1, fun _ => p2⟩

theorem comes_up (hf : Fine T N R) {r : Ru} (hr : r ∈ R) {X : Vs} (h : ShpG (cdom N) X) : UpG .gr (cdom N) X (comesX r X) ∧
    (bit (comesX r X) .gr 0 = false → bit X .b r.1.toNat = true → allB (X .a) r.2 = true → ∀ n : Int, (false, n) ∈ r.2 → bit X .b n.toNat = true) := by
  unfold comesX
  cases hb : (bit X .b r.1.toNat && allB (X .a) r.2) with
  | true =>
    simp only [if_true]
    obtain ⟨u1, u2⟩ := loopG_up (gr := Iv.gr) (dom := cdom N) (n := r.2.length) (f := nameX r.2) (fun k hk Y hY => (nameX_up (hf.name r hr) hk hY).1) h
    refine ⟨u1, fun hz _ _ n hn => ?_⟩
    obtain ⟨k, hk, he⟩ := List.getElem_of_mem hn
    have hz1 := u2 hz k hk
    obtain ⟨v1, v2⟩ := nameX_up (hf.name r hr) hk h
    have e : r.2.getD k (false, 0) = (false, n) := by simp [List.getD, hk, he]
    rw [e] at v2
    have := v2 rfl
    rwa [v1.still hz1] at this
  | false =>
    refine ⟨by simpa using UpG.refl h, fun _ h1 h2 => ?_⟩
    rw [h1, h2] at hb
    cases hb

theorem comes_snd (hf : Fine T N R) {r : Ru} (hr : r ∈ R) {X : Vs} (h : ShpG (cdom N) X) (hs : SndG (cdom N) (ZC N R) X) : SndG (cdom N) (ZC N R) (comesX r X) := by
  have hL := hf.left r hr
  unfold comesX
  cases hb : (bit X .b r.1.toNat && allB (X .a) r.2) with
  | true =>
    simp only [if_true]
    simp only [Bool.and_eq_true] at hb
    have hc : ComesP N R r.1 := by
      have : ComesP N R (r.1.toNat : Nat) := hs .b N r.1.toNat rfl (by omega) hb.1
      rwa [toNat_of hL.1] at this
    have ha : AllM (MakesP N R) r.2 := fun s hsr hsb => by
      have hn := hf.name r hr s hsr hsb
      have := (allB_iff (fun s hs hb => (hf.name r hr s hs hb).1)).1 hb.2 s hsr hsb
      have : MakesP N R (s.2.toNat : Nat) := hs .a N s.2.toNat rfl (by omega) this.2
      rwa [toNat_of hn.1] at this
    refine loopG_snd (gr := Iv.gr) (fun k hk Y hY => (nameX_up (hf.name r hr) hk hY).1) (fun k hk Y hY hsY => ?_) h hs
    have hm : r.2.getD k (false, 0) ∈ r.2 := by simp [List.getD, hk]
    unfold nameX
    obtain ⟨⟨x, v⟩, hx⟩ : ∃ x, r.2.getD k (false, 0) = x := ⟨_, rfl⟩
    rw [hx] at hm ⊢
    cases x with
    | true => simpa using hsY
    | false =>
      have hn := hf.name r hr _ hm rfl
      simp only [Bool.false_eq_true, if_false]
      simp only at hn
      refine putG_snd (gr := Iv.gr) (i := .b) (n := N) rfl (fun _ => trivial) hY rfl (by omega) hsY ?_
      show ComesP N R _
      rw [toNat_of hn.1]
      exact Lv_closed (ComesF_mono hf _) _ (.inr ⟨r, hr, hm, ha, hc⟩)
  | false => simpa using hs

theorem comes_least (hf : Fine T N R) {X0 X : Vs} (h0 : ∀ n, MakesP N R n → hasB (X0 .a) n) (h1 : MakesP N R 0 → bit X0 .b 0 = true) (h : HeadG .gr (cdom N) (ZC N R) X0 R comesX X) (hg : bit X .gr 0 = false) : ∀ n, hasB (X .b) n ↔ ComesP N R n := by
  have hl := h.shp .b N rfl
  have hA : ∀ n, MakesP N R n → hasB (X .a) n := fun n hn => ⟨(h0 n hn).1, h.up .a _ (by simp) (h0 n hn).2⟩
  refine fun n => ⟨fun hn => ?_, fun hn => ?_⟩
  · have hb : bit X .b n.toNat = true := hn.2
    have : ComesP N R (n.toNat : Nat) := h.snd .b N n.toNat rfl (by have := bit_lt hb; omega) hb
    rwa [toNat_of hn.1] at this
  · refine Lv_least (ComesF_up R (MakesP N R)) (A := hasB (X .b)) (fun n hn => ?_) N n hn
    rcases hn with ⟨rfl, hm⟩ | ⟨r, hr, hmem, ha, hc⟩
    · exact ⟨Int.le_refl _, h.up .b 0 (by simp) (h1 hm)⟩
    · obtain ⟨q, hq, rfl⟩ := getD_of_mem hr
      exact ⟨(hf.name _ hr _ hmem rfl).1, (comes_up hf hr h.shp).2 (h.held hg q hq) hc.2 ((allB_iff (fun s hs hb => (hf.name _ hr s hs hb).1)).2 (ha.mono hA)) n hmem⟩

/-! ### Left -/

end

end Go.Proofs.Ytikjekfpgklbdaa

/- The contracts of the program's reach.allIn and reach.putNames; the rows of package reach. -/
namespace Go.Proofs.Ytikjekfpgklbdaa
open Go.RowKit

def VTab (dom : Iv → Option Nat) (va vb : Value) (vr : Nat → Value) (gb : Nat) : Tab Iv := ⟨fun | .gr => .slice (some ⟨gb, 0, none⟩) 1 1 | .a => va | .b => vb | .r n => vr n, dom⟩
theorem vmark {dom : Iv → Option Nat} {va vb : Value} {vr : Nat → Value} {gb : Nat} (h : dom .gr = some 1) : Mark (VTab dom va vb vr gb) .gr gb := ⟨rfl, h⟩

set_option maxRecDepth 100000 in
set_option maxHeartbeats 1600000 in
theorem allIn_any {ι : Type} {c : Tab ι} {w : World} {B N lc : Nat} {la : Option Addr} {i : ι} {X : ι → List Bool} {l : List Sy} (h : Bt w B c X) (hB : B ≤ w.heap.size) (hd : c.dom i = some N) (hl : RightAt w B la l) (hin : ∀ s ∈ l, s.1 = false → 0 ≤ s.2 ∧ s.2 < (N : Int)) (h8 : l.length ≤ 1000) :
    Calls Try.prog 47 #[c.V i, .slice la l.length lc] w fun e w' => e = .returned (.bool (allB (X i) l)) ∧ Below w.heap.size w w' := by
  obtain ⟨va, vc, hv⟩ := Bt.slice h hd
  have HB : Hid (Bt w B c X) := h
  have HV : Hid (c.V i = .slice va N vc) := hv
  have HL : Hid (RightAt w B la l) := hl
  have HI : Hid (∀ s ∈ l, s.1 = false → 0 ≤ s.2 ∧ s.2 < (N : Int)) := hin
  rw [hv]
  clear h hv hl hin
  go_enter Try.func47, Try.ntmps47
  go_wp2_with fail
  go_loopw [9] (fun s wr => ∃ k : Nat, s = .int .i64 k ∧ k ≤ l.length ∧ allB (X i) (l.take k) = true ∧ Below w.heap.size w wr) (fun s _ => l.length - (intOf s).toNat)
  case atStart => exact ⟨0, rfl, Nat.zero_le _, rfl, Below.refl _ _⟩
  case round =>
    obtain ⟨k, rfl, hk, hn, hb⟩ := hrel
    have HN : Hid (allB (X i) (l.take k) = true) := hn
    have HBe : Hid (Below w.heap.size w wr) := hb
    have HBr : Hid (Bt wr B c X) := Bt.below HB.out hb
    clear hn hb
    by_cases hlt : k < l.length
    · obtain ⟨b', o', hqa, hb', k3, k4⟩ := HL.out k hlt
      subst hqa
      have hmem : l.getD k (false, 0) ∈ l := by simp [List.getD, hlt]
      have hr := HI.out _ hmem
      obtain ⟨⟨t, v⟩, hs⟩ : ∃ x, l.getD k (false, 0) = x := ⟨_, rfl⟩
      have HT := allB_take (X i) l k hlt
      have HBd := allB_bad (X i) l k hlt
      rw [hs] at k3 k4 hr HT HBd
      rw [HN.out, Bool.true_and] at HT
      have HT' : Hid (allB (X i) (l.take (k + 1)) = (t || (X i).getD v.toNat false)) := HT
      have HB' : Hid ((t || (X i).getD v.toNat false) = false → allB (X i) l = false) := HBd
      have k3' : wr.cell? ⟨b', o' + k * 2, none⟩ = some (.bool t) := (HBe.out.cell (p := ⟨b', o' + k * 2, none⟩) (by simp only; omega)).trans k3
      have k4' : wr.cell? ⟨b', o' + k * 2 + 1, none⟩ = some (.int .i64 v) := by rw [Nat.add_assoc]; exact (HBe.out.cell (p := ⟨b', o' + (k * 2 + 1), none⟩) (by simp only; omega)).trans k4
      have j0 : (0 : Int) ≤ (k : Int) := Int.natCast_nonneg _
      have j1 : (k : Int) < (l.length : Int) := by omega
      have HA : Hid (Below w.heap.size w (wr.alloc (.cells #[.bool t, .int .i64 v] 52))) := HBe.out.alloc HBe.out.size _
      clear hs hmem HT HBd k3 k4
      cases t with
      | true =>
        go_wp2_with fail
        go_roundw
        case rel => exact ⟨k + 1, by go_num, by omega, by rw [HT'.out]; rfl, HA.out⟩
        case measure => simp [intOf]; omega
      | false =>
        have hr' : 0 ≤ v ∧ v < (N : Int) := hr rfl
        clear hr
        obtain ⟨y, rfl⟩ : ∃ y : Nat, v = y := ⟨v.toNat, by omega⟩
        obtain ⟨g, cap, hv, _, hgl⟩ := Bt.form HBr.out hd (by omega)
        have hv' := HV.out
        rw [hv] at hv'
        cases hv'
        obtain ⟨k5, _⟩ := Bt.cell HBr.out hd hv (m := y) (by omega)
        have k6 : (wr.alloc (.cells #[.bool false, .int .i64 y] 52)).cell? ⟨g, y, none⟩ = some (.bool (bit X i y)) := by rw [World.cell?_alloc_past _ _ _ hgl]; exact k5
        have j2 : (0 : Int) ≤ (y : Int) := Int.natCast_nonneg _
        have j3 : (y : Int) < (N : Int) := by omega
        obtain ⟨z, hz⟩ : ∃ z, bit X i y = z := ⟨_, rfl⟩
        have hz' : (X i).getD y false = z := hz
        rw [hz] at k6
        simp only [Int.toNat_natCast, hz'] at HT' HB'
        clear hz hz' hr' k5 hv
        cases z with
        | true =>
          go_wp2_with fail
          go_roundw
          case rel => exact ⟨k + 1, by go_num, by omega, by rw [HT'.out]; rfl, HA.out⟩
          case measure => simp [intOf]; omega
        | false =>
          go_wp2_with fail
          go_ret
          exact ⟨by rw [HB'.out (by simp)]; rfl, HA.out⟩
    · go_wp2_with fail
      go_ret
      exact ⟨by rw [← HN.out, List.take_of_length_le (by omega)]; rfl, HBe.out⟩

set_option maxRecDepth 100000 in
set_option maxHeartbeats 1600000 in
theorem putNames_any {w : World} {B N lc gb : Nat} {dom : Iv → Option Nat} {va vb : Value} {vr : Nat → Value} {la : Option Addr} {X : Vs} {l : List Sy} (h : Bt w B (VTab dom va vb vr gb) X) (hB : B ≤ w.heap.size) (hgr : dom .gr = some 1) (hd : dom .b = some N) (hl : RightAt w B la l) (hin : ∀ s ∈ l, s.1 = false → 0 ≤ s.2 ∧ s.2 < (N : Int)) (h8 : l.length ≤ 1000) :
    Calls Try.prog 49 #[vb, .slice la l.length lc, .func (.func 54) #[] #[.pointer (some ⟨gb, 0, none⟩)]] w fun e w' => e = .returned (.tuple #[]) ∧ Bt w' B (VTab dom va vb vr gb) (namesX l X) ∧ Kept (VTab dom va vb vr gb).K w w' := by
  obtain ⟨ba, bc, hv'⟩ := Bt.slice (i := Iv.b) h hd
  have hv : vb = .slice ba N bc := hv'
  subst hv
  have HB : Hid (Bt w B (VTab dom va (.slice ba N bc) vr gb) X) := h
  have HL : Hid (RightAt w B la l) := hl
  have HI : Hid (∀ s ∈ l, s.1 = false → 0 ≤ s.2 ∧ s.2 < (N : Int)) := hin
  clear h hv' hl hin
  go_enter Try.func49, Try.ntmps49
  go_wp2_with fail
  go_loopw [10] (fun s wr => ∃ k : Nat, s = .int .i64 k ∧ k ≤ l.length ∧ Bt wr B (VTab dom va (.slice ba N bc) vr gb) (loopN k (nameX l) X) ∧ Kept (VTab dom va (.slice ba N bc) vr gb).K w wr) (fun s _ => l.length - (intOf s).toNat)
  case atStart => exact ⟨0, rfl, Nat.zero_le _, HB.out, Kept.refl _ _⟩
  case round =>
    obtain ⟨k, rfl, hk, hBr, hKr⟩ := hrel
    obtain ⟨Y, hY⟩ : ∃ Y, loopN k (nameX l) X = Y := ⟨_, rfl⟩
    rw [hY] at hBr
    have HY : Hid (loopN k (nameX l) X = Y) := hY
    have HBr : Hid (Bt wr B (VTab dom va (.slice ba N bc) vr gb) Y) := hBr
    have HKr : Hid (Kept (VTab dom va (.slice ba N bc) vr gb).K w wr) := hKr
    have HBL : Hid (Below B w wr) := hKr.below (fun b hb => Bt.ge HB.out hb) hB
    clear hY hBr hKr
    by_cases hlt : k < l.length
    · obtain ⟨b', o', hqa, hb', k3, k4⟩ := HL.out k hlt
      subst hqa
      have hmem : l.getD k (false, 0) ∈ l := by simp [List.getD, hlt]
      have hr := HI.out _ hmem
      have hstep : loopN (k + 1) (nameX l) X = if (l.getD k (false, 0)).1 then Y else putG .gr Y .b (l.getD k (false, 0)).2.toNat := by rw [← HY.out]; rfl
      obtain ⟨⟨t, v⟩, hs⟩ : ∃ x, l.getD k (false, 0) = x := ⟨_, rfl⟩
      rw [hs] at k3 k4 hr hstep
      have k3' : wr.cell? ⟨b', o' + k * 2, none⟩ = some (.bool t) := (HBL.out.cell (p := ⟨b', o' + k * 2, none⟩) hb').trans k3
      have k4' : wr.cell? ⟨b', o' + k * 2 + 1, none⟩ = some (.int .i64 v) := by rw [Nat.add_assoc]; exact (HBL.out.cell (p := ⟨b', o' + (k * 2 + 1), none⟩) hb').trans k4
      have j0 : (0 : Int) ≤ (k : Int) := Int.natCast_nonneg _
      have j1 : (k : Int) < (l.length : Int) := by omega
      have HA : Hid (Bt (wr.alloc (.cells #[.bool t, .int .i64 v] 52)) B (VTab dom va (.slice ba N bc) vr gb) Y) := Bt.alloc HBr.out _
      have HKA : Hid (Kept (VTab dom va (.slice ba N bc) vr gb).K w (wr.alloc (.cells #[.bool t, .int .i64 v] 52))) := HKr.out.alloc _
      have HS : Hid (loopN (k + 1) (nameX l) X = if t then Y else putG .gr Y .b v.toNat) := hstep
      clear hs hmem k3 k4 hstep
      cases t with
      | true =>
        go_wp2_with fail
        go_roundw
        case rel => exact ⟨k + 1, by go_num, by omega, by rw [HS.out]; exact HA.out, HKA.out⟩
        case measure => simp [intOf]; omega
      | false =>
        have hr' : 0 ≤ v ∧ v < (N : Int) := hr rfl
        clear hr
        obtain ⟨y, rfl⟩ : ∃ y : Nat, v = y := ⟨v.toNat, by omega⟩
        have put := put_gen (i := Iv.b) (m := y) HA.out (vmark hgr) hd (by omega) (by simp)
        have put' : Calls Try.prog 54 #[.slice ba N bc, .int .i64 y, .pointer (some ⟨gb, 0, none⟩)] _ _ := put
        clear put hr'
        go_wp2_with (go_at_call 54; refine put'.mono ?_; rintro e w2 ⟨rfl, hB2, hK2⟩)
        go_roundw
        case rel => exact ⟨k + 1, by go_num, by omega, by rw [HS.out]; simpa using hB2, HKA.out.trans hK2⟩
        case measure => simp [intOf]; omega
    · obtain rfl : k = l.length := by omega
      go_wp2_with fail
      go_end0
      exact ⟨rfl, by show Bt _ _ _ (loopN l.length (nameX l) X); rw [HY.out]; exact HBr.out, HKr.out⟩

end Go.Proofs.Ytikjekfpgklbdaa
