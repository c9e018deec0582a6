import Derived.Test.YtgcpllnjdnahjaaMayG
import Derived.Test.YtgcpllnjdnahjaaClMathAndGotoMath
import Derived.Deep.RegionLaw
import Derived.Deep.RegionWith
import Derived.Deep.LoopGhost
import Derived.Deep.DrawnRows
/- The contracts of the program's package grow: put (grow.UntilStill$1) and grow.UntilStill, for whatever rows grow. -/
namespace Go.Proofs.Ytgcpllnjdnahjaa
open Go.RowKit

section
variable {ι : Type} [DecidableEq ι]

/-- What put does: gr is the mark that tells whether any row has grown. -/
def putG (gr : ι) (X : ι → List Bool) (i : ι) (m : Nat) : ι → List Bool := if bit X i m then X else setX (setX X i m true) gr 0 true
def putAllG (gr i j : ι) (n : Nat) (X : ι → List Bool) : ι → List Bool := loopN n (fun m Y => if bit Y j m then putG gr Y i m else Y) X

omit [DecidableEq ι] in
/-- The mark lies at block gb. -/
structure Mark (c : Tab ι) (gr : ι) (gb : Nat) : Prop where
  v : c.V gr = .slice (some ⟨gb, 0, none⟩) 1 1
  d : c.dom gr = some 1

variable {c : Tab ι} {gr : ι} {gb : Nat}

set_option maxRecDepth 100000 in
set_option maxHeartbeats 1600000 in
theorem put_gen {w : World} {B n m : Nat} {i : ι} {X : ι → List Bool} (h : Bt w B c X) (hM : Mark c gr gb) (hd : c.dom i = some n) (hm : m < n) (hi : i ≠ gr) :
    Calls Try.prog 59 #[c.V i, .int .i64 m, .pointer (some ⟨gb, 0, none⟩)] w fun e w' => e = .returned (.tuple #[]) ∧ Bt w' B c (putG gr X i m) ∧ Kept c.K w w' := by
  obtain ⟨g, cap, hv, _, _⟩ := Bt.form h hd (by omega)
  obtain ⟨c1, f1⟩ := Bt.cell h hd hv hm
  obtain ⟨c2, f2⟩ := Bt.cell (i := gr) h hM.d hM.v (m := 0) (by omega)
  have hne := Bt.apart (i := i) (j := gr) h hi hd hM.d hv hM.v
  have j0 : (0 : Int) ≤ (m : Int) := Int.natCast_nonneg _
  have j1 : (m : Int) < (n : Int) := by omega
  have HB : Hid (Bt w B c X) := h
  have HM : Hid (Mark c gr gb) := hM
  have HV : Hid (c.V i = .slice (some ⟨g, 0, none⟩) n cap) := hv
  rw [hv]
  clear h hv hM
  cases hb : bit X i m with
  | true =>
    rw [hb] at c1
    have HP : Hid (putG gr X i m = X) := by show putG gr X i m = X; simp [putG, hb]
    clear hb
    go_enter Try.func59, Try.ntmps59
    go_wp2_with fail
    go_end0
    exact ⟨rfl, by rw [HP.out]; exact HB.out, Kept.refl _ _⟩
  | false =>
    rw [hb] at c1
    have HP : Hid (putG gr X i m = setX (setX X i m true) gr 0 true) := by show putG gr X i m = _; simp [putG, hb]
    have s1 := Bt.set HB.out hd HV.out m true
    obtain ⟨c3, f3⟩ := Bt.cell (i := gr) s1 HM.out.d HM.out.v (m := 0) (by omega)
    have s2 : Hid _ := Bt.set (i := gr) s1 HM.out.d HM.out.v 0 true
    clear hb s1
    go_enter Try.func59, Try.ntmps59
    go_wp2_with fail
    go_end0
    exact ⟨rfl, by rw [HP.out]; exact s2.out, ((Kept.refl _ _).setCell (Tab.inK (c := c) hd HV.out) _).setCell (Tab.inK (c := c) (i := gr) HM.out.d HM.out.v) _⟩

/-- What UntilStill wants of what is done with each rule: it does f, and writes the rows alone. -/
def Does (c : Tab ι) (gb B : Nat) (w0 : World) (dn : Nat) (caps : Array Value) (R : List Ru) (f : Ru → (ι → List Bool) → ι → List Bool) : Prop :=
  ∀ k, k < R.length → ∀ (w1 : World) (Y : ι → List Bool) (qa : Option Addr) (qc : Nat), Kept c.K w0 w1 → Bt w1 B c Y → RightAt w1 B qa (R.getD k (0, [])).2 → (R.getD k (0, [])).2.length ≤ qc →
    Calls Try.prog dn (#[.agg #[.int .i64 (R.getD k (0, [])).1, .slice qa (R.getD k (0, [])).2.length qc], .func (.func 59) #[] #[.pointer (some ⟨gb, 0, none⟩)]] ++ caps) w1 fun e w' =>
      e = .returned (.tuple #[]) ∧ Bt w' B c (f (R.getD k (0, [])) Y) ∧ Kept c.K w1 w'

/-- A round over all rules. -/
def roundG (R : List Ru) (f : Ru → (ι → List Bool) → ι → List Bool) (n : Nat) (X : ι → List Bool) : ι → List Bool := loopN n (fun q => f (R.getD q (0, []))) X

set_option maxRecDepth 100000 in
set_option maxHeartbeats 3200000 in
theorem until_gen {w : World} {B dn : Nat} {caps : Array Value} {rv : Value} {X : ι → List Bool} {R : List Ru} {f : Ru → (ι → List Bool) → ι → List Bool} {Head : (ι → List Bool) → Prop} {togo : (ι → List Bool) → Nat}
    (h : Bt (w.alloc (.cells #[.bool true] 4)) B c X) (hB : B ≤ w.heap.size) (hM : Mark c gr w.heap.size) (hr : RulesAt (w.alloc (.cells #[.bool true] 4)) B rv R) (h40 : R.length ≤ 1000) (hD : Does c w.heap.size B (w.alloc (.cells #[.bool true] 4)) dn caps R f)
    (hEn : ∀ args w, (callFunc dn args).run Try.prog w = .ok (.enter dn args) w) (hA : Head X) (hN : ∀ Y, Head Y → bit Y gr 0 = true → Head (roundG R f R.length (setX Y gr 0 false)) ∧ togo (roundG R f R.length (setX Y gr 0 false)) < togo Y) :
    Calls Try.prog 45 #[rv, .func (.func dn) #[] caps] w fun e w' =>
      e = .returned (.tuple #[]) ∧ ∃ Y, Head Y ∧ bit Y gr 0 = false ∧ Bt w' B c Y ∧ Kept c.K (w.alloc (.cells #[.bool true] 4)) w' := by
  obtain ⟨ra, rc, hrv⟩ := hr.1
  subst hrv
  have HB : Hid (Bt (w.alloc (.cells #[.bool true] 4)) B c X) := h
  have HM : Hid (Mark c gr w.heap.size) := hM
  have HR : Hid (RulesAt (w.alloc (.cells #[.bool true] 4)) B (.slice ra R.length rc) R) := hr
  have HD : Hid (Does c w.heap.size B (w.alloc (.cells #[.bool true] 4)) dn caps R f) := hD
  have HA : Hid (Head X) := hA
  have HN : Hid (∀ Y, Head Y → bit Y gr 0 = true → Head (roundG R f R.length (setX Y gr 0 false)) ∧ togo (roundG R f R.length (setX Y gr 0 false)) < togo Y) := hN
  have HEn : Hid (∀ args w, (callFunc dn args).run Try.prog w = .ok (.enter dn args) w) := hEn
  clear h hM hr hD hA hN hEn
  go_enter Try.func45, Try.ntmps45
  go_wp2_with fail
  go_loopg [] (togo X) (fun n wr => ∃ Y, n = togo Y ∧ Head Y ∧ Bt wr B c Y ∧ Kept c.K (w.alloc (.cells #[.bool true] 4)) wr)
  case atStart => exact ⟨X, rfl, HA.out, HB.out, Kept.refl _ _⟩
  case round =>
    obtain ⟨Y, hn, hAY, hBr, hKr⟩ := hrel
    have HN' : Hid (gk = togo Y) := hn
    have HAY : Hid (Head Y) := hAY
    have HBr : Hid (Bt wr B c Y) := hBr
    have HKr : Hid (Kept c.K (w.alloc (.cells #[.bool true] 4)) wr) := hKr
    have hsz : w.heap.size + 1 ≤ wr.heap.size := by have := hKr.size; simpa using this
    obtain ⟨c1, f1⟩ := Bt.cell (i := gr) (n := 1) hBr HM.out.d HM.out.v (m := 0) (by omega)
    clear hn hAY hBr hKr
    cases hg : bit Y gr 0 with
    | true =>
      rw [hg] at c1
      have hnx := HN.out Y HAY.out hg
      have HNX : Hid (Head (roundG R f R.length (setX Y gr 0 false)) ∧ togo (roundG R f R.length (setX Y gr 0 false)) < togo Y) := hnx
      have hB1 := Bt.set (i := gr) (n := 1) HBr.out HM.out.d HM.out.v 0 false
      have hK1 : Kept c.K wr (wr.setCell ⟨w.heap.size, 0, none⟩ (.bool false)) := (Kept.refl _ _).setCell (Tab.inK (c := c) (i := gr) HM.out.d HM.out.v) _
      have HK2 : Hid (Kept c.K (w.alloc (.cells #[.bool true] 4)) (wr.setCell ⟨w.heap.size, 0, none⟩ (.bool false))) := HKr.out.trans hK1
      have HB1 : Hid (Bt (wr.setCell ⟨w.heap.size, 0, none⟩ (.bool false)) B c (setX Y gr 0 false)) := hB1
      clear hg hnx hB1 hK1
      obtain ⟨w3, hw3⟩ : ∃ w3, w3 = wr := ⟨_, rfl⟩
      subst hw3
      go_wp2_with fail
      clear c1 f1
      go_loopw [12] (fun s wq => ∃ k : Nat, s = .int .i64 k ∧ k ≤ R.length ∧ Bt wq B c (roundG R f k (setX Y gr 0 false)) ∧ Kept c.K (w.alloc (.cells #[.bool true] 4)) wq) (fun s _ => R.length - (intOf s).toNat)
      case atStart => exact ⟨0, rfl, Nat.zero_le _, HB1.out, HK2.out⟩
      case round =>
        clear HB1 HK2
        obtain ⟨k, rfl, hk, hBq, hKq⟩ := hrel
        obtain ⟨Z, hZ⟩ : ∃ Z, roundG R f k (setX Y gr 0 false) = Z := ⟨_, rfl⟩
        rw [hZ] at hBq
        have HZ : Hid (roundG R f k (setX Y gr 0 false) = Z) := hZ
        have HBq : Hid (Bt wr B c Z) := hBq
        have HKq : Hid (Kept c.K (w.alloc (.cells #[.bool true] 4)) wr) := hKq
        have hsz : w.heap.size + 1 ≤ wr.heap.size := by have := hKq.size; simpa using this
        have hRq := HR.out.below (hKq.below (fun b hb => Bt.ge HB.out hb) (by simp; omega))
        clear hZ hBq hKq
        by_cases hlt : k < R.length
        · obtain ⟨b, o, rc', qa, qc, hv, hb, k1, k2, hqc, k3⟩ := hRq.2 k hlt
          cases hv
          have hstep : roundG R f (k + 1) (setX Y gr 0 false) = f (R.getD k (0, [])) Z := by rw [← HZ.out]; rfl
          have hK1 : Kept c.K wr (wr.alloc (.cells #[.int .i64 (R.getD k (0, [])).1, .slice qa (R.getD k (0, [])).2.length qc] 57)) := (Kept.refl _ _).alloc _
          have call := HD.out k hlt (wr.alloc (.cells #[.int .i64 (R.getD k (0, [])).1, .slice qa (R.getD k (0, [])).2.length qc] 57)) Z qa qc (HKq.out.trans hK1) (Bt.alloc HBq.out _)
            (RightAt.below (w := wr) k3 (hK1.below (fun b hb => Bt.ge HB.out hb) (by omega))) hqc
          have HK1 : Hid (Kept c.K (w.alloc (.cells #[.bool true] 4)) (wr.alloc (.cells #[.int .i64 (R.getD k (0, [])).1, .slice qa (R.getD k (0, [])).2.length qc] 57))) := HKq.out.trans hK1
          have HS : Hid (roundG R f (k + 1) (setX Y gr 0 false) = f (R.getD k (0, [])) Z) := hstep
          obtain ⟨⟨L, Rt⟩, hre⟩ : ∃ x, R.getD k (0, []) = x := ⟨_, rfl⟩
          rw [hre] at k1 k2 call HK1 HS
          simp only at k1 k2 call HK1
          have k2' : wr.cell? ⟨b, o + k * 2 + 1, none⟩ = some (.slice qa Rt.length qc) := by rw [Nat.add_assoc]; exact k2
          have j0 : (0 : Int) ≤ (k : Int) := Int.natCast_nonneg _
          have j1 : (k : Int) < (R.length : Int) := by omega
          clear hstep hre k2 k3 hK1 hRq hqc
          go_wp2_with fail
          simp only [HEn.out]
          refine Calls.mono call ?_
          rintro e w4 ⟨rfl, hB4, hK4⟩
          go_wp2_with fail
          go_roundw
          case rel => exact ⟨k + 1, by go_num, by omega, by rw [HS.out]; exact hB4, HK1.out.trans hK4⟩
          case measure => simp [intOf]; omega
        · obtain rfl : k = R.length := by omega
          clear hRq
          go_wp2_with fail
          go_roundg (togo (roundG R f R.length (setX Y gr 0 false)))
          case measure => have := HNX.out.2; rw [HN'.out]; exact this
          case rel => exact ⟨_, rfl, HNX.out.1, by rw [HZ.out]; exact HBq.out, HKq.out⟩
    | false =>
      rw [hg] at c1
      have HG : Hid (bit Y gr 0 = false) := hg
      clear hg
      go_wp2_with fail
      go_end0
      exact ⟨rfl, Y, HAY.out, HG.out, HBr.out, HKr.out⟩
end

end Go.Proofs.Ytgcpllnjdnahjaa

/- The contract of the program's grow.PutAll, for whatever rows grow. -/
namespace Go.Proofs.Ytgcpllnjdnahjaa
open Go.RowKit

section
variable {ι : Type} [DecidableEq ι] {c : Tab ι} {gr : ι} {gb : Nat}

set_option maxRecDepth 100000 in
set_option maxHeartbeats 1600000 in
theorem putAll_gen {w : World} {B n nj : Nat} {i j : ι} {X : ι → List Bool} (h : Bt w B c X) (hM : Mark c gr gb) (hd : c.dom i = some n) (hdj : c.dom j = some nj) (hle : nj ≤ n) (hi : i ≠ gr) (hs : nj ≤ 1000) :
    Calls Try.prog 61 #[c.V i, c.V j, .func (.func 59) #[] #[.pointer (some ⟨gb, 0, none⟩)]] w fun e w' => e = .returned (.tuple #[]) ∧ Bt w' B c (putAllG gr i j nj X) ∧ Kept c.K w w' := by
  obtain ⟨ja, jc, hvj⟩ := Bt.slice h hdj
  obtain ⟨ia, ic, hvi⟩ := Bt.slice h hd
  have HB : Hid (Bt w B c X) := h
  have HM : Hid (Mark c gr gb) := hM
  have HV : Hid (c.V i = .slice ia n ic) := hvi
  have HJ : Hid (c.V j = .slice ja nj jc) := hvj
  rw [hvi, hvj]
  clear h hvi hvj hM
  go_enter Try.func61, Try.ntmps61
  go_wp2_with fail
  go_loopw [10] (fun s wr => ∃ k : Nat, s = .int .i64 k ∧ k ≤ nj ∧ Bt wr B c (putAllG gr i j k X) ∧ Kept c.K w wr) (fun s _ => nj - (intOf s).toNat)
  case atStart => exact ⟨0, rfl, Nat.zero_le _, HB.out, Kept.refl _ _⟩
  case round =>
    obtain ⟨k, rfl, hk, hB, hK⟩ := hrel
    have HB' : Hid (Bt wr B c (putAllG gr i j k X)) := hB
    have HK : Hid (Kept c.K w wr) := hK
    clear hB hK
    by_cases hlt : k < nj
    · obtain ⟨g, cap, hv, _, _⟩ := Bt.form HB'.out hdj (by omega)
      have hv' := HJ.out
      rw [hv] at hv'
      cases hv'
      obtain ⟨c1, _⟩ := Bt.cell HB'.out hdj hv hlt
      have j0 : (0 : Int) ≤ (k : Int) := Int.natCast_nonneg _
      have j1 : (k : Int) < (nj : Int) := by omega
      have put := put_gen HB'.out HM.out hd (m := k) (by omega) hi
      rw [HV.out] at put
      have HE : Hid (putAllG gr i j (k + 1) X = if bit (putAllG gr i j k X) j k then putG gr (putAllG gr i j k X) i k else putAllG gr i j k X) := rfl
      clear hv
      cases hb : bit (putAllG gr i j k X) j k with
      | true =>
        rw [hb] at c1 HE
        clear hb
        go_wp2_with (go_at_call 59; refine put.mono ?_; rintro e w2 ⟨rfl, hB2, hK2⟩)
        go_roundw
        case rel => exact ⟨k + 1, by go_num, by omega, by rw [HE.out]; exact hB2, HK.out.trans hK2⟩
        case measure => simp [intOf]; omega
      | false =>
        rw [hb] at c1 HE
        clear hb put
        go_wp2_with fail
        go_roundw
        case rel => exact ⟨k + 1, by go_num, by omega, by rw [HE.out]; exact HB'.out, HK.out⟩
        case measure => simp [intOf]; omega
    · obtain rfl : k = nj := by omega
      go_wp2_with fail
      go_end0
      exact ⟨rfl, HB'.out, HK.out⟩

end

end Go.Proofs.Ytgcpllnjdnahjaa

/- The rows of the program's package sets; the contract of sets.putFirst. -/
namespace Go.Proofs.Ytgcpllnjdnahjaa
open Go.RowKit

/-- The rows of the program's sets, and the truth that tells whether any has grown. -/
inductive Iy where
  | null | gr
  | f (n : Nat)
  | g (n : Nat)
  deriving DecidableEq

abbrev Xs := Iy → List Bool

def putX (X : Xs) (i : Iy) (m : Nat) : Xs := if bit X i m then X else setX (setX X i m true) .gr 0 true
def putAllX (i j : Iy) (n : Nat) (X : Xs) : Xs := loopN n (fun m Y => if bit Y j m then putX Y i m else Y) X
def pfX (T : Nat) (i : Iy) : List Sy → Xs → Xs × Bool
  | [], X => (X, true)
  | s :: l, X => if s.1 then (putX X i s.2.toNat, false) else
      if bit (putAllX i (.f s.2.toNat) T X) .null s.2.toNat then pfX T i l (putAllX i (.f s.2.toNat) T X) else (putAllX i (.f s.2.toNat) T X, false)

def sdom (T N : Nat) : Iy → Option Nat
  | .null => some N
  | .gr => some 1
  | .f n => if n < N then some T else none
  | .g n => if n < N then some (T + 1) else none
def STab (T N : Nat) (nv : Value) (vf vg : Nat → Value) (gb : Nat) : Tab Iy :=
  ⟨fun | .null => nv | .gr => .slice (some ⟨gb, 0, none⟩) 1 1 | .f n => vf n | .g n => vg n, sdom T N⟩

/-- The values vs lie in memory at a slice value, outside K. -/
def Heads (w : World) (K : Nat → Prop) (N : Nat) (fv : Value) (vs : Nat → Value) : Prop :=
  (∃ a c, fv = .slice a N c) ∧ ∀ n, n < N → ∃ g c, fv = .slice (some ⟨g, 0, none⟩) N c ∧ ¬ K g ∧ w.cell? ⟨g, n, none⟩ = some (vs n)
theorem Heads.kept {w w' : World} {K : Nat → Prop} {N : Nat} {fv : Value} {vs : Nat → Value} (h : Heads w K N fv vs) (hk : Kept K w w') : Heads w' K N fv vs :=
  ⟨h.1, fun n hn => let ⟨g, c, h1, h2, h3⟩ := h.2 n hn; ⟨g, c, h1, h2, hk.cell h2 h3⟩⟩

section
variable {T N : Nat} {nv : Value} {vf vg : Nat → Value} {gb : Nat}

theorem stab_mark (T N : Nat) (nv : Value) (vf vg : Nat → Value) (gb : Nat) : Mark (STab T N nv vf vg gb) .gr gb := ⟨rfl, rfl⟩

theorem put_any {w : World} {B n m : Nat} {i : Iy} {X : Xs} (h : Bt w B (STab T N nv vf vg gb) X) (hd : sdom T N i = some n) (hm : m < n) (hi : i ≠ .gr) :
    Calls Try.prog 59 #[(STab T N nv vf vg gb).V i, .int .i64 m, .pointer (some ⟨gb, 0, none⟩)] w fun e w' => e = .returned (.tuple #[]) ∧ Bt w' B (STab T N nv vf vg gb) (putX X i m) ∧ Kept (STab T N nv vf vg gb).K w w' := put_gen h (stab_mark T N nv vf vg gb) hd hm hi

theorem putAll_any {w : World} {B n nj : Nat} {i j : Iy} {X : Xs} (h : Bt w B (STab T N nv vf vg gb) X) (hd : sdom T N i = some n) (hdj : sdom T N j = some nj) (hle : nj ≤ n) (hi : i ≠ .gr) (hs : nj ≤ 1000) :
    Calls Try.prog 61 #[(STab T N nv vf vg gb).V i, (STab T N nv vf vg gb).V j, .func (.func 59) #[] #[.pointer (some ⟨gb, 0, none⟩)]] w fun e w' => e = .returned (.tuple #[]) ∧ Bt w' B (STab T N nv vf vg gb) (putAllX i j nj X) ∧ Kept (STab T N nv vf vg gb).K w w' := putAll_gen h (stab_mark T N nv vf vg gb) hd hdj hle hi hs

set_option maxRecDepth 100000 in
set_option maxHeartbeats 3200000 in
theorem putFirst_any {w : World} {B n lc gl gc : Nat} {fv : Value} {la ga : Option Addr} {i : Iy} {X : Xs} {l : List Sy} (h : Bt w B (STab T N nv vf vg gb) X) (hB : B ≤ w.heap.size) (hd : sdom T N i = some n) (hTn : T ≤ n) (hi : i ≠ .gr)
    (hF : Heads w (STab T N nv vf vg gb).K N fv vf) (hl : RightAt w B la l) (hin : ∀ s ∈ l, 0 ≤ s.2 ∧ s.2 < if s.1 then (T : Int) else (N : Int)) (hT : T ≤ 1000) (h8 : l.length ≤ 1000) :
    Calls Try.prog 60 #[.agg #[nv, fv, .slice ga gl gc], (STab T N nv vf vg gb).V i, .slice la l.length lc, .func (.func 59) #[] #[.pointer (some ⟨gb, 0, none⟩)]] w fun e w' =>
      e = .returned (.bool (pfX T i l X).2) ∧ Bt w' B (STab T N nv vf vg gb) (pfX T i l X).1 ∧ Kept (STab T N nv vf vg gb).K w w' := by
  obtain ⟨ia, ic, hvi⟩ := Bt.slice h hd
  obtain ⟨na, nc, hvn'⟩ := Bt.slice (i := Iy.null) (n := N) h rfl
  have hvn : nv = .slice na N nc := hvn'
  clear hvn'
  obtain ⟨fa, fc, hfv⟩ := hF.1
  subst hvn
  subst hfv
  have HB : Hid (Bt w B (STab T N (.slice na N nc) vf vg gb) X) := h
  have HV : Hid ((STab T N (.slice na N nc) vf vg gb).V i = .slice ia n ic) := hvi
  have HF : Hid (Heads w (STab T N (.slice na N nc) vf vg gb).K N (.slice fa N fc) vf) := hF
  have HL : Hid (RightAt w B la l) := hl
  have HI : Hid (∀ s ∈ l, 0 ≤ s.2 ∧ s.2 < if s.1 then (T : Int) else (N : Int)) := hin
  rw [hvi]
  clear h hvi hF hl hin
  go_enter Try.func60, Try.ntmps60
  go_wp2_with fail
  go_loopw [13] (fun s wr => ∃ k : Nat, s = .int .i64 k ∧ k ≤ l.length ∧ ∃ Y, pfX T i l X = pfX T i (l.drop k) Y ∧ Bt wr B (STab T N (.slice na N nc) vf vg gb) Y ∧
      Kept (STab T N (.slice na N nc) vf vg gb).K (w.alloc (.cells #[.slice na N nc, .slice fa N fc, .slice ga gl gc] 69)) wr) (fun s _ => l.length - (intOf s).toNat)
  case atStart => exact ⟨0, rfl, Nat.zero_le _, X, rfl, Bt.alloc HB.out _, Kept.refl _ _⟩
  case round =>
    obtain ⟨k, rfl, hk, Y, hY, hBr, hKr⟩ := hrel
    have HY : Hid (pfX T i l X = pfX T i (l.drop k) Y) := hY
    have HBr : Hid (Bt wr B (STab T N (.slice na N nc) vf vg gb) Y) := hBr
    have HKr : Hid (Kept (STab T N (.slice na N nc) vf vg gb).K (w.alloc (.cells #[.slice na N nc, .slice fa N fc, .slice ga gl gc] 69)) wr) := hKr
    have HK0 : Hid (Kept (STab T N (.slice na N nc) vf vg gb).K w wr) := ((Kept.refl _ _).alloc _).trans hKr
    have hsz : w.heap.size + 1 ≤ wr.heap.size := by have := hKr.size; simpa using this
    have b0 : wr.cell? ⟨w.heap.size, 0, none⟩ = some (.slice na N nc) := hKr.cell (Bt.notK HB.out (Nat.le_refl _)) (by simp [go_sem])
    have b1 : wr.cell? ⟨w.heap.size, 1, none⟩ = some (.slice fa N fc) := hKr.cell (Bt.notK HB.out (Nat.le_refl _)) (by simp [go_sem])
    have HBL : Hid (Below B w wr) := HK0.out.below (fun b hb => Bt.ge HB.out hb) hB
    clear hY hBr hKr
    by_cases hlt : k < l.length
    · obtain ⟨b', o', hqa, hb', k3, k4⟩ := HL.out k hlt
      subst hqa
      have hmem : l.getD k (false, 0) ∈ l := by simp [List.getD, hlt]
      have hin := HI.out _ hmem
      have hdrop : l.drop k = l.getD k (false, 0) :: l.drop (k + 1) := by rw [List.drop_eq_getElem_cons hlt]; simp [List.getD, hlt]
      obtain ⟨⟨t, v⟩, hsy⟩ : ∃ x, l.getD k (false, 0) = x := ⟨_, rfl⟩
      rw [hsy] at k3 k4 hin hdrop
      simp only at hin
      obtain ⟨y, rfl⟩ : ∃ y : Nat, v = y := ⟨v.toNat, by omega⟩
      have k3' : wr.cell? ⟨b', o' + k * 2, none⟩ = some (.bool t) := (HBL.out.cell (p := ⟨b', o' + k * 2, none⟩) hb').trans k3
      have k4' : wr.cell? ⟨b', o' + k * 2 + 1, none⟩ = some (.int .i64 y) := by rw [Nat.add_assoc]; exact (HBL.out.cell (p := ⟨b', o' + (k * 2 + 1), none⟩) hb').trans k4
      have j0 : (0 : Int) ≤ (k : Int) := Int.natCast_nonneg _
      have j1 : (k : Int) < (l.length : Int) := by omega
      have m0 : (wr.alloc (.cells #[.bool t, .int .i64 y] 91)).cell? ⟨w.heap.size, 0, none⟩ = some (.slice na N nc) := by rw [World.cell?_alloc_past _ _ _ (by omega)]; exact b0
      have m1 : (wr.alloc (.cells #[.bool t, .int .i64 y] 91)).cell? ⟨w.heap.size, 1, none⟩ = some (.slice fa N fc) := by rw [World.cell?_alloc_past _ _ _ (by omega)]; exact b1
      have HA : Hid (Bt (wr.alloc (.cells #[.bool t, .int .i64 y] 91)) B (STab T N (.slice na N nc) vf vg gb) Y) := Bt.alloc HBr.out _
      have HKA : Hid (Kept (STab T N (.slice na N nc) vf vg gb).K w (wr.alloc (.cells #[.bool t, .int .i64 y] 91))) := HK0.out.alloc _
      have HD : Hid (l.drop k = (t, (y : Int)) :: l.drop (k + 1)) := hdrop
      clear hmem hsy k3 k4 b0 b1 hdrop
      cases t with
      | true =>
        have hyT : y < T := by simp at hin; omega
        have put := put_any HA.out hd (m := y) (by omega) hi
        rw [HV.out] at put
        have HP : Hid (pfX T i l X = (putX Y i y, false)) := by
          show pfX T i l X = _
          rw [HY.out, HD.out]
          simp [pfX]
        clear hin
        go_wp2_with (go_at_call 59; refine put.mono ?_; rintro e w2 ⟨rfl, hB2, hK2⟩)
        go_ret
        exact ⟨by rw [HP.out]; rfl, by rw [HP.out]; exact hB2, HKA.out.trans hK2⟩
      | false =>
        have hyN : y < N := by simp at hin; omega
        have all := putAll_any (i := i) (j := .f y) (nj := T) HA.out hd (by simp [sdom, hyN]) hTn hi hT
        rw [HV.out] at all
        have all' : Calls Try.prog 61 #[.slice ia n ic, vf y, .func (.func 59) #[] #[.pointer (some ⟨gb, 0, none⟩)]] _ _ := all
        obtain ⟨fg, fc', hfe, hnK, k5⟩ := HF.out.2 y hyN
        cases hfe
        have k6 : (wr.alloc (.cells #[.bool false, .int .i64 y] 91)).cell? ⟨fg, y, none⟩ = some (vf y) := HKA.out.cell hnK k5
        have j2 : (0 : Int) ≤ (y : Int) := Int.natCast_nonneg _
        have j3 : (y : Int) < (N : Int) := by omega
        have HP : Hid (pfX T i l X = if bit (putAllX i (.f y) T Y) .null y then pfX T i (l.drop (k + 1)) (putAllX i (.f y) T Y) else (putAllX i (.f y) T Y, false)) := by
          show pfX T i l X = _
          rw [HY.out, HD.out]
          simp [pfX]
        clear hin k5 all
        cases hz : bit (putAllX i (.f y) T Y) .null y with
        | true =>
          rw [hz] at HP
          have HZ : Hid (bit (putAllX i (.f y) T Y) .null y = true) := hz
          clear hz
          go_wp2_with
            (go_at_call 61; refine all'.mono ?_; rintro e w2 ⟨rfl, hB2, hK2⟩
             have n0 := hK2.cell (p := ⟨w.heap.size, 0, none⟩) (Bt.notK HB.out (Nat.le_refl _)) m0
             have n2 := hK2.cell (p := ⟨wr.heap.size, 1, none⟩) (Bt.notK HBr.out (Nat.le_refl _)) (v := .int .i64 y) (by simp [go_sem])
             obtain ⟨ng, nc', hne, _, _⟩ := Bt.form (i := Iy.null) (n := N) hB2 rfl (by omega)
             cases hne
             obtain ⟨n3, _⟩ := Bt.cell (i := Iy.null) (n := N) hB2 rfl rfl hyN
             rw [HZ.out] at n3
             have HB2 : Hid (Bt w2 B _ _) := hB2
             have HK2 : Hid (Kept _ _ w2) := hK2
             clear hB2 hK2)
          go_roundw
          case rel => exact ⟨k + 1, by go_num, by omega, _, HP.out, HB2.out, (HKr.out.alloc _).trans HK2.out⟩
          case measure => simp [intOf]; omega
        | false =>
          rw [hz] at HP
          have HZ : Hid (bit (putAllX i (.f y) T Y) .null y = false) := hz
          clear hz
          go_wp2_with
            (go_at_call 61; refine all'.mono ?_; rintro e w2 ⟨rfl, hB2, hK2⟩
             have n0 := hK2.cell (p := ⟨w.heap.size, 0, none⟩) (Bt.notK HB.out (Nat.le_refl _)) m0
             have n2 := hK2.cell (p := ⟨wr.heap.size, 1, none⟩) (Bt.notK HBr.out (Nat.le_refl _)) (v := .int .i64 y) (by simp [go_sem])
             obtain ⟨ng, nc', hne, _, _⟩ := Bt.form (i := Iy.null) (n := N) hB2 rfl (by omega)
             cases hne
             obtain ⟨n3, _⟩ := Bt.cell (i := Iy.null) (n := N) hB2 rfl rfl hyN
             rw [HZ.out] at n3
             have HB2 : Hid (Bt w2 B _ _) := hB2
             have HK2 : Hid (Kept _ _ w2) := hK2
             clear hB2 hK2)
          go_ret
          exact ⟨by rw [HP.out]; rfl, by rw [HP.out]; exact HB2.out, HKA.out.trans HK2.out⟩
    · obtain rfl : k = l.length := by omega
      have HP : Hid (pfX T i l X = (Y, true)) := by
        show pfX T i l X = _
        rw [HY.out, List.drop_length]
        rfl
      go_wp2_with fail
      go_ret
      exact ⟨by rw [HP.out]; rfl, by rw [HP.out]; exact HBr.out, HK0.out⟩
end

end Go.Proofs.Ytgcpllnjdnahjaa

/- The contract of the program's sets.growAhead; what growing is, as plain functions. -/
namespace Go.Proofs.Ytgcpllnjdnahjaa
open Go.RowKit

def aheadX (T : Nat) (L : Nat) (l : List Sy) (X : Xs) : Xs := if (pfX T (.f L) l X).2 then putX (pfX T (.f L) l X).1 .null L else (pfX T (.f L) l X).1
def stepX (T : Nat) (L : Nat) (l : List Sy) (k : Nat) (Y : Xs) : Xs :=
  if (l.getD k (false, 0)).1 then Y else
    if (pfX T (.g (l.getD k (false, 0)).2.toNat) (l.drop (k + 1)) Y).2 then putAllX (.g (l.getD k (false, 0)).2.toNat) (.g L) (T + 1) (pfX T (.g (l.getD k (false, 0)).2.toNat) (l.drop (k + 1)) Y).1
    else (pfX T (.g (l.getD k (false, 0)).2.toNat) (l.drop (k + 1)) Y).1
def behindX (T : Nat) (L : Nat) (l : List Sy) (X : Xs) : Xs := loopN l.length (stepX T L l) X

theorem RightAt.drop {w : World} {B b o c : Nat} {l : List Sy} (h : RightAt w B (some ⟨b, o, none⟩) l) (n : Nat) (hc : l.length ≤ c) (hn : n ≤ l.length) :
    RightAt w B (if c = n then some ⟨b, o, none⟩ else some ⟨b, o + n * 2, none⟩) (l.drop n) := fun j hj => by
  have hl : (l.drop n).length = l.length - n := by simp
  rw [hl] at hj
  obtain ⟨b', o', e, h0, h1, h2⟩ := h (n + j) (by omega)
  cases e
  have hg : (l.drop n).getD j (false, 0) = l.getD (n + j) (false, 0) := by simp [List.getD]
  refine ⟨b, o + n * 2, by rw [if_neg (by omega)], h0, ?_, ?_⟩
  · rw [hg, ← h1]; congr 2; omega
  · rw [hg, ← h2]; congr 2; omega

section
variable {T N : Nat} {nv : Value} {vf vg : Nat → Value} {gb : Nat}

set_option maxRecDepth 100000 in
set_option maxHeartbeats 3200000 in
theorem growAhead_any {w : World} {B lc L gl gc : Nat} {fv : Value} {la ga : Option Addr} {X : Xs} {l : List Sy} (h : Bt w B (STab T N nv vf vg gb) X) (hB : B ≤ w.heap.size) (hL : L < N)
    (hF : Heads w (STab T N nv vf vg gb).K N fv vf) (hl : RightAt w B la l) (hin : ∀ s ∈ l, 0 ≤ s.2 ∧ s.2 < if s.1 then (T : Int) else (N : Int)) (hT : T ≤ 1000) (h8 : l.length ≤ 1000) :
    Calls Try.prog 47 #[.agg #[nv, fv, .slice ga gl gc], .agg #[.int .i64 L, .slice la l.length lc], .func (.func 59) #[] #[.pointer (some ⟨gb, 0, none⟩)]] w fun e w' =>
      e = .returned (.tuple #[]) ∧ Bt w' B (STab T N nv vf vg gb) (aheadX T L l X) ∧ Kept (STab T N nv vf vg gb).K w w' := by
  obtain ⟨na, nc, hvn'⟩ := Bt.slice (i := Iy.null) (n := N) h rfl
  have hvn : nv = .slice na N nc := hvn'
  clear hvn'
  obtain ⟨fg, fc, hfv, hfK, hfc⟩ := hF.2 L hL
  subst hvn
  subst hfv
  obtain ⟨ia, ic, hvi⟩ := Bt.slice (i := Iy.f L) (n := T) h (by simp [STab, sdom, hL])
  have hvi' : vf L = .slice ia T ic := hvi
  have hK0 : Kept (STab T N (.slice na N nc) vf vg gb).K w ((w.alloc (.cells #[.slice na N nc, .slice (some ⟨fg, 0, none⟩) N fc, .slice ga gl gc] 69)).alloc (.cells #[.int .i64 L, .slice la l.length lc] 57)) := ((Kept.refl _ _).alloc _).alloc _
  have first := putFirst_any (w := ((w.alloc (.cells #[.slice na N nc, .slice (some ⟨fg, 0, none⟩) N fc, .slice ga gl gc] 69)).alloc (.cells #[.int .i64 L, .slice la l.length lc] 57)).drew)
    (i := .f L) (lc := lc) (gl := gl) (gc := gc) (ga := ga) (Bt.drew (Bt.alloc (Bt.alloc h _) _)) (by show B ≤ ((w.alloc _).alloc _).heap.size; simp; omega) (n := T) (by simp [sdom, hL]) (Nat.le_refl _) (by simp) (hF.kept hK0.drew) (hl.below (hK0.drew.below (fun b hb => Bt.ge h hb) hB)) hin hT h8
  have first' : Calls Try.prog 60 #[.agg #[.slice na N nc, .slice (some ⟨fg, 0, none⟩) N fc, .slice ga gl gc], vf L, .slice la l.length lc, .func (.func 59) #[] #[.pointer (some ⟨gb, 0, none⟩)]] _ _ := first
  rw [hvi'] at first'
  have HB : Hid (Bt w B (STab T N (.slice na N nc) vf vg gb) X) := h
  have HK0 : Hid (Kept (STab T N (.slice na N nc) vf vg gb).K w ((w.alloc (.cells #[.slice na N nc, .slice (some ⟨fg, 0, none⟩) N fc, .slice ga gl gc] 69)).alloc (.cells #[.int .i64 L, .slice la l.length lc] 57))) := hK0
  have k6 : ((w.alloc (.cells #[.slice na N nc, .slice (some ⟨fg, 0, none⟩) N fc, .slice ga gl gc] 69)).alloc (.cells #[.int .i64 L, .slice la l.length lc] 57)).cell? ⟨fg, L, none⟩ = some (vf L) := hK0.cell hfK hfc
  have j2 : (0 : Int) ≤ (L : Int) := Int.natCast_nonneg _
  have j3 : (L : Int) < (N : Int) := by omega
  clear h hF hl hin hK0 first hfc hvi
  go_enter Try.func47, Try.ntmps47
  go_upto_region 2 with fail
  go_cut [16] from 6 to 22 (fun s16 wx => s16 = .bool (pfX T (.f L) l X).2 ∧ Bt wx B (STab T N (.slice na N nc) vf vg gb) (pfX T (.f L) l X).1 ∧
    Kept (STab T N (.slice na N nc) vf vg gb).K ((w.alloc (.cells #[.slice na N nc, .slice (some ⟨fg, 0, none⟩) N fc, .slice ga gl gc] 69)).alloc (.cells #[.int .i64 L, .slice la l.length lc] 57)) wx)
  case first =>
    refine wp_region_tail 10 (by kernel_rfl) (by kernel_rfl) ?_
    simp only [List.take_succ_cons, List.take_zero, List.drop_succ_cons, List.drop_zero]
    repeat still_step
    refine wpStill_nil ?_
    go_wp2_with (go_at_call 60; refine first'.mono ?_; rintro e w2 ⟨rfl, hB2, hK2⟩)
    go_meet
    case rel => exact ⟨rfl, hB2, (Kept.refl _ _).drew.trans hK2⟩
  case rest =>
    obtain ⟨rfl, hB2, hK2⟩ := hcut
    have b0 := hK2.cell (p := ⟨w.heap.size, 0, none⟩) (Bt.notK HB.out (Nat.le_refl _)) (v := .slice na N nc) (by simp [go_sem])
    have b1 := hK2.cell (p := ⟨w.heap.size + 1, 0, none⟩) (Bt.notK HB.out (Nat.le_succ _)) (v := .int .i64 L) (by simp [go_sem])
    have HB2 : Hid (Bt wc B (STab T N (.slice na N nc) vf vg gb) (pfX T (.f L) l X).1) := hB2
    have HK2 : Hid (Kept (STab T N (.slice na N nc) vf vg gb).K w wc) := HK0.out.trans hK2
    clear hB2 hK2 first' k6
    cases hz : (pfX T (.f L) l X).2 with
    | true =>
      have put := put_any (i := .null) HB2.out (n := N) rfl hL (by simp)
      have put' : Calls Try.prog 59 #[.slice na N nc, .int .i64 L, .pointer (some ⟨gb, 0, none⟩)] _ _ := put
      have HP : Hid (aheadX T L l X = putX (pfX T (.f L) l X).1 .null L) := by show aheadX T L l X = _; simp [aheadX, hz]
      clear hz put
      go_wp2_with (go_at_call 59; refine put'.mono ?_; rintro e w2 ⟨rfl, hB3, hK3⟩)
      go_end0
      exact ⟨rfl, by rw [HP.out]; exact hB3, HK2.out.trans hK3⟩
    | false =>
      have HP : Hid (aheadX T L l X = (pfX T (.f L) l X).1) := by show aheadX T L l X = _; simp [aheadX, hz]
      clear hz
      go_wp2_with fail
      go_end0
      exact ⟨rfl, by rw [HP.out]; exact HB2.out, HK2.out⟩

end

end Go.Proofs.Ytgcpllnjdnahjaa

/- The contract of the program's sets.growBehind. -/
namespace Go.Proofs.Ytgcpllnjdnahjaa
open Go.RowKit

section
variable {T N : Nat} {nv : Value} {vf vg : Nat → Value} {gb : Nat}

set_option maxRecDepth 100000 in
set_option maxHeartbeats 1600000 in
theorem growBehind_any {w : World} {B lc L : Nat} {fv gv : Value} {la : Option Addr} {X : Xs} {l : List Sy} (h : Bt w B (STab T N nv vf vg gb) X) (hB : B ≤ w.heap.size) (hL : L < N) (hlc : l.length ≤ lc)
    (hF : Heads w (STab T N nv vf vg gb).K N fv vf) (hG : Heads w (STab T N nv vf vg gb).K N gv vg) (hl : RightAt w B la l) (hin : ∀ s ∈ l, 0 ≤ s.2 ∧ s.2 < if s.1 then (T : Int) else (N : Int)) (hT : T ≤ 900) (h8 : l.length ≤ 1000) :
    Calls Try.prog 48 #[.agg #[nv, fv, gv], .agg #[.int .i64 L, .slice la l.length lc], .func (.func 59) #[] #[.pointer (some ⟨gb, 0, none⟩)]] w fun e w' =>
      e = .returned (.tuple #[]) ∧ Bt w' B (STab T N nv vf vg gb) (behindX T L l X) ∧ Kept (STab T N nv vf vg gb).K w w' := by
  obtain ⟨na, nc, hvn'⟩ := Bt.slice (i := Iy.null) (n := N) h rfl
  have hvn : nv = .slice na N nc := hvn'
  clear hvn'
  obtain ⟨fa, fc, hfv⟩ := hF.1
  obtain ⟨gg, gc, hgv, hgK, hgL⟩ := hG.2 L hL
  subst hvn
  subst hfv
  subst hgv
  have HB : Hid (Bt w B (STab T N (.slice na N nc) vf vg gb) X) := h
  have HF : Hid (Heads w (STab T N (.slice na N nc) vf vg gb).K N (.slice fa N fc) vf) := hF
  have HG : Hid (Heads w (STab T N (.slice na N nc) vf vg gb).K N (.slice (some ⟨gg, 0, none⟩) N gc) vg) := hG
  have HL : Hid (RightAt w B la l) := hl
  have HI : Hid (∀ s ∈ l, 0 ≤ s.2 ∧ s.2 < if s.1 then (T : Int) else (N : Int)) := hin
  have HgL : Hid (w.cell? ⟨gg, L, none⟩ = some (vg L)) := hgL
  clear h hF hG hl hin hgL
  go_enter Try.func48, Try.ntmps48
  go_wp2_with fail
  go_loopw [12] (fun s wr => ∃ k : Nat, s = .int .i64 k ∧ k ≤ l.length ∧ Bt wr B (STab T N (.slice na N nc) vf vg gb) (loopN k (stepX T L l) X) ∧
      Kept (STab T N (.slice na N nc) vf vg gb).K ((w.alloc (.cells #[.slice na N nc, .slice fa N fc, .slice (some ⟨gg, 0, none⟩) N gc] 69)).alloc (.cells #[.int .i64 L, .slice la l.length lc] 57)) wr) (fun s _ => l.length - (intOf s).toNat)
  case atStart => exact ⟨0, rfl, Nat.zero_le _, Bt.alloc (Bt.alloc HB.out _) _, Kept.refl _ _⟩
  case round =>
    obtain ⟨k, rfl, hk, hBr, hKr⟩ := hrel
    obtain ⟨Y, hY⟩ : ∃ Y, loopN k (stepX T L l) X = Y := ⟨_, rfl⟩
    rw [hY] at hBr
    have HY : Hid (loopN k (stepX T L l) X = Y) := hY
    have HBr : Hid (Bt wr B (STab T N (.slice na N nc) vf vg gb) Y) := hBr
    have HKr : Hid (Kept (STab T N (.slice na N nc) vf vg gb).K ((w.alloc (.cells #[.slice na N nc, .slice fa N fc, .slice (some ⟨gg, 0, none⟩) N gc] 69)).alloc (.cells #[.int .i64 L, .slice la l.length lc] 57)) wr) := hKr
    have HK0 : Hid (Kept (STab T N (.slice na N nc) vf vg gb).K w wr) := (((Kept.refl _ _).alloc _).alloc _).trans hKr
    have hsz : w.heap.size + 2 ≤ wr.heap.size := by have := hKr.size; simp at this; omega
    have b0 : wr.cell? ⟨w.heap.size, 0, none⟩ = some (.slice na N nc) := hKr.cell (Bt.notK HB.out (Nat.le_refl _)) (by simp [go_sem])
    have b1 : wr.cell? ⟨w.heap.size, 1, none⟩ = some (.slice fa N fc) := hKr.cell (Bt.notK HB.out (Nat.le_refl _)) (by simp [go_sem])
    have b2 : wr.cell? ⟨w.heap.size, 2, none⟩ = some (.slice (some ⟨gg, 0, none⟩) N gc) := hKr.cell (Bt.notK HB.out (Nat.le_refl _)) (by simp [go_sem])
    have b3 : wr.cell? ⟨w.heap.size + 1, 0, none⟩ = some (.int .i64 L) := hKr.cell (Bt.notK HB.out (Nat.le_succ _)) (by simp [go_sem])
    have b4 : wr.cell? ⟨w.heap.size + 1, 1, none⟩ = some (.slice la l.length lc) := hKr.cell (Bt.notK HB.out (Nat.le_succ _)) (by simp [go_sem])
    have HBL : Hid (Below B w wr) := HK0.out.below (fun b hb => Bt.ge HB.out hb) hB
    clear hY hBr hKr
    by_cases hlt : k < l.length
    · obtain ⟨b', o', hqa, hb', k3, k4⟩ := HL.out k hlt
      subst hqa
      have hmem : l.getD k (false, 0) ∈ l := by simp [List.getD, hlt]
      have hin := HI.out _ hmem
      obtain ⟨⟨t, v⟩, hsy⟩ : ∃ x, l.getD k (false, 0) = x := ⟨_, rfl⟩
      have hstep : loopN (k + 1) (stepX T L l) X = if t then Y else if (pfX T (.g v.toNat) (l.drop (k + 1)) Y).2 then putAllX (.g v.toNat) (.g L) (T + 1) (pfX T (.g v.toNat) (l.drop (k + 1)) Y).1 else (pfX T (.g v.toNat) (l.drop (k + 1)) Y).1 := by
        rw [loopN, HY.out, stepX, hsy]
      rw [hsy] at k3 k4 hin
      simp only at hin
      obtain ⟨y, rfl⟩ : ∃ y : Nat, v = y := ⟨v.toNat, by omega⟩
      have k3' : wr.cell? ⟨b', o' + k * 2, none⟩ = some (.bool t) := (HBL.out.cell (p := ⟨b', o' + k * 2, none⟩) hb').trans k3
      have k4' : wr.cell? ⟨b', o' + k * 2 + 1, none⟩ = some (.int .i64 y) := by rw [Nat.add_assoc]; exact (HBL.out.cell (p := ⟨b', o' + (k * 2 + 1), none⟩) hb').trans k4
      have j0 : (0 : Int) ≤ (k : Int) := Int.natCast_nonneg _
      have j1 : (k : Int) < (l.length : Int) := by omega
      have HA : Hid (Bt (wr.alloc (.cells #[.bool t, .int .i64 y] 91)) B (STab T N (.slice na N nc) vf vg gb) Y) := Bt.alloc HBr.out _
      have HKA : Hid (Kept (STab T N (.slice na N nc) vf vg gb).K wr (wr.alloc (.cells #[.bool t, .int .i64 y] 91))) := (Kept.refl _ _).alloc _
      clear hmem hsy k3 k4
      cases t with
      | true =>
        have HS : Hid (loopN (k + 1) (stepX T L l) X = Y) := by show loopN (k + 1) _ X = Y; rw [hstep]; simp
        clear hstep hin
        go_wp2_with fail
        go_roundw
        case rel => exact ⟨k + 1, by go_num, by omega, by rw [HS.out]; exact HA.out, HKr.out.alloc _⟩
        case measure => simp [intOf]; omega
      | false =>
        have hyN : y < N := by simp at hin; omega
        simp only [Bool.false_eq_true, if_false, Int.toNat_natCast] at hstep
        have HS : Hid (loopN (k + 1) (stepX T L l) X = if (pfX T (.g y) (l.drop (k + 1)) Y).2 then putAllX (.g y) (.g L) (T + 1) (pfX T (.g y) (l.drop (k + 1)) Y).1 else (pfX T (.g y) (l.drop (k + 1)) Y).1) := hstep
        have m0 := HKA.out.cell (p := ⟨w.heap.size, 0, none⟩) (Bt.notK HB.out (Nat.le_refl _)) b0
        have m1 := HKA.out.cell (p := ⟨w.heap.size, 1, none⟩) (Bt.notK HB.out (Nat.le_refl _)) b1
        have m2 := HKA.out.cell (p := ⟨w.heap.size, 2, none⟩) (Bt.notK HB.out (Nat.le_refl _)) b2
        have m3 := HKA.out.cell (p := ⟨w.heap.size + 1, 0, none⟩) (Bt.notK HB.out (Nat.le_succ _)) b3
        have m4 := HKA.out.cell (p := ⟨w.heap.size + 1, 1, none⟩) (Bt.notK HB.out (Nat.le_succ _)) b4
        obtain ⟨gg', gc', hge, _, k5⟩ := HG.out.2 y hyN
        cases hge
        have k6 : (wr.alloc (.cells #[.bool false, .int .i64 y] 91)).cell? ⟨gg, y, none⟩ = some (vg y) := (HK0.out.trans HKA.out).cell hgK k5
        have j2 : (0 : Int) ≤ (y : Int) := Int.natCast_nonneg _
        have j3 : (y : Int) < (N : Int) := by omega
        have j4 : (k : Int) + 1 ≤ (l.length : Int) := by omega
        have j5 : (l.length : Int) ≤ (lc : Int) := by omega
        have hw : IntKind.i64.wrap ((k : Int) + 1) = (k : Int) + 1 := IntWalk.i64_in _ (by omega)
        have j8 : (0 : Int) ≤ (k : Int) + 1 := by omega
        obtain ⟨ya, yc, hvy⟩ := Bt.slice (i := Iy.g y) (n := T + 1) HB.out (by simp [STab, sdom, hyN])
        have hvy' : vg y = .slice ya (T + 1) yc := hvy
        have first := putFirst_any (w := (wr.alloc (.cells #[.bool false, .int .i64 y] 91)).drew)
          (i := .g y) (lc := lc - (k + 1)) (gl := N) (gc := gc) (ga := some ⟨gg, 0, none⟩) (Bt.drew HA.out) (by show B ≤ (wr.alloc _).heap.size; simp; omega) (n := T + 1) (by simp [sdom, hyN]) (by omega) (by simp) (HF.out.kept (HK0.out.trans HKA.out).drew)
          ((HL.out.drop (c := lc) (k + 1) hlc (by omega)).below ((HK0.out.trans HKA.out).drew.below (fun b hb => Bt.ge HB.out hb) hB)) (fun s hs => HI.out s (List.mem_of_mem_drop hs)) (by omega) (by simp; omega)
        have first' : Calls Try.prog 60 #[.agg #[.slice na N nc, .slice fa N fc, .slice (some ⟨gg, 0, none⟩) N gc], vg y, .slice (if lc = k + 1 then some ⟨b', o', none⟩ else some ⟨b', o' + (k + 1) * 2, none⟩) (l.drop (k + 1)).length (lc - (k + 1)), .func (.func 59) #[] #[.pointer (some ⟨gb, 0, none⟩)]] _ _ := first
        rw [List.length_drop, hvy'] at first'
        clear first hvy hstep hin b0 b1 b2 b3 b4 k5
        go_upto_region 8 with fail
        go_cut [33] from 13 to 43 (fun s33 wx => s33 = .bool (pfX T (.g y) (l.drop (k + 1)) Y).2 ∧ Bt wx B (STab T N (.slice na N nc) vf vg gb) (pfX T (.g y) (l.drop (k + 1)) Y).1 ∧
          Kept (STab T N (.slice na N nc) vf vg gb).K (wr.alloc (.cells #[.bool false, .int .i64 y] 91)) wx)
        case first =>
          by_cases hck : lc = k + 1
          · subst hck
            rw [if_pos rfl, Nat.sub_self, show l.length - (k + 1) = 0 by omega] at first'
            refine wp_region_tail 8 (by kernel_rfl) (by kernel_rfl) ?_
            simp only [List.take_succ_cons, List.take_zero, List.drop_succ_cons, List.drop_zero]
            repeat still_step
            refine wpStill_nil ?_
            go_wp2_with (go_at_call 60; refine first'.mono ?_; rintro e w2 ⟨rfl, hB2, hK2⟩)
            go_meet
            case rel => exact ⟨rfl, hB2, (Kept.refl _ _).drew.trans hK2⟩
          · rw [if_neg hck] at first'
            refine wp_region_tail 8 (by kernel_rfl) (by kernel_rfl) ?_
            simp only [List.take_succ_cons, List.take_zero, List.drop_succ_cons, List.drop_zero]
            repeat still_step
            refine wpStill_nil ?_
            go_wp2_with (go_at_call 60; refine first'.mono ?_; rintro e w2 ⟨rfl, hB2, hK2⟩)
            go_meet
            case rel => exact ⟨rfl, hB2, (Kept.refl _ _).drew.trans hK2⟩
        case rest =>
          obtain ⟨rfl, hB2, hK2⟩ := hcut
          have n2 := hK2.cell (p := ⟨w.heap.size, 2, none⟩) (Bt.notK HB.out (Nat.le_refl _)) m2
          have n3 := hK2.cell (p := ⟨w.heap.size + 1, 0, none⟩) (Bt.notK HB.out (Nat.le_succ _)) m3
          have n5 := ((HK0.out.trans HKA.out).trans hK2).cell hgK HgL.out
          have HB2 : Hid (Bt wc B (STab T N (.slice na N nc) vf vg gb) (pfX T (.g y) (l.drop (k + 1)) Y).1) := hB2
          have HK2 : Hid (Kept (STab T N (.slice na N nc) vf vg gb).K ((w.alloc (.cells #[.slice na N nc, .slice fa N fc, .slice (some ⟨gg, 0, none⟩) N gc] 69)).alloc (.cells #[.int .i64 L, .slice (some ⟨b', o', none⟩) l.length lc] 57)) wc) := (HKr.out.trans HKA.out).trans hK2
          have j6 : (0 : Int) ≤ (L : Int) := Int.natCast_nonneg _
          have j7 : (L : Int) < (N : Int) := by omega
          clear hB2 hK2 first' m0 m1 m2 m3 m4 k6 k3' k4'
          cases hz : (pfX T (.g y) (l.drop (k + 1)) Y).2 with
          | true =>
            have all := putAll_any (i := .g y) (j := .g L) (n := T + 1) (nj := T + 1) HB2.out (by simp [sdom, hyN]) (by simp [sdom, hL]) (Nat.le_refl _) (by simp) (by omega)
            have all' : Calls Try.prog 61 #[vg y, vg L, .func (.func 59) #[] #[.pointer (some ⟨gb, 0, none⟩)]] _ _ := all
            rw [hvy'] at all'
            rw [hz] at HS
            clear hz all
            go_wp2_with (go_at_call 61; refine all'.mono ?_; rintro e w2 ⟨rfl, hB3, hK3⟩)
            go_roundw
            case rel => exact ⟨k + 1, by go_num, by omega, by rw [HS.out]; exact hB3, HK2.out.trans hK3⟩
            case measure => simp [intOf]; omega
          | false =>
            rw [hz] at HS
            clear hz
            go_wp2_with fail
            go_roundw
            case rel => exact ⟨k + 1, by go_num, by omega, by rw [HS.out]; exact HB2.out, HK2.out⟩
            case measure => simp [intOf]; omega
    · obtain rfl : k = l.length := by omega
      have HS : Hid (behindX T L l X = Y) := HY.out
      go_wp2_with fail
      go_end0
      exact ⟨rfl, by rw [HS.out]; exact HBr.out, HK0.out⟩
end

end Go.Proofs.Ytgcpllnjdnahjaa
