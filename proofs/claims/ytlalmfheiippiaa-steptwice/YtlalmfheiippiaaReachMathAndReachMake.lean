import Derived.Test.YtlalmfheiippiaaStLeftAndLeft3
import Derived.Test.YtlalmfheiippiaaStOfP1AndGrowMath
import Derived.Test.YtlalmfheiippiaaMathAndHeldTail
/- Plain: what the program's package reach does with a rule, and that what it comes to are the least sets. No memory. -/
namespace Go.Proofs.Ytlalmfheiippiaa

/-- The mark, a row or two, and a row for each name. -/
inductive Iv where
  | gr | a | b
  | r (n : Nat)
  deriving DecidableEq

abbrev Vs := Iv → List Bool

def makesX (r : Ru) (X : Vs) : Vs := if allB (X .a) r.2 then putG .gr X .a r.1.toNat else X
def nameX (l : List Sy) (k : Nat) (Y : Vs) : Vs := if (l.getD k (false, 0)).1 then Y else putG .gr Y .b (l.getD k (false, 0)).2.toNat
def namesX (l : List Sy) (X : Vs) : Vs := loopN l.length (nameX l) X
def comesX (r : Ru) (X : Vs) : Vs := if bit X .b r.1.toNat && allB (X .a) r.2 then namesX r.2 X else X
def mdom (N : Nat) : Iv → Option Nat
  | .gr => some 1
  | .a => some N
  | .b => none
  | .r _ => none
def cdom (N : Nat) : Iv → Option Nat
  | .gr => some 1
  | .a => some N
  | .b => some N
  | .r _ => none
section
variable {T N : Nat} {R : List Ru}

/-! ### Makes -/

def ZM (N : Nat) (R : List Ru) : Iv → Nat → Prop
  | .a, m => MakesP N R m
  | _, _ => True

theorem makes_up {r : Ru} (hL : 0 ≤ r.1 ∧ r.1 < (N : Int)) {X : Vs} (h : ShpG (mdom N) X) : UpG .gr (mdom N) X (makesX r X) ∧ (bit (makesX r X) .gr 0 = false → allB (X .a) r.2 = true → bit X .a r.1.toNat = true) := by
  unfold makesX
  cases hb : allB (X .a) r.2 with
  | true =>
    simp only [if_true]
    obtain ⟨p1, p2⟩ := putG_up (gr := Iv.gr) (dom := mdom N) (i := .a) (n := N) (m := r.1.toNat) rfl h rfl (by omega) (by simp)
    exact ⟨p1, fun hz _ => by rw [p1.still hz] at p2; exact p2⟩
  | false => exact ⟨by simpa using UpG.refl h, fun _ h => by cases h⟩

theorem makes_snd (hf : Fine T N R) {r : Ru} (hr : r ∈ R) {X : Vs} (h : ShpG (mdom N) X) (hs : SndG (mdom N) (ZM N R) X) : SndG (mdom N) (ZM N R) (makesX r X) := by
  have hL := hf.left r hr
  unfold makesX
  cases hb : allB (X .a) r.2 with
  | true =>
    simp only [if_true]
    refine putG_snd (gr := Iv.gr) (i := .a) (n := N) rfl (fun _ => trivial) h rfl (by omega) hs ?_
    show MakesP N R _
    rw [toNat_of hL.1]
    refine Lv_closed (MakesF_mono hf) _ ⟨r, hr, rfl, fun s hsr hsb => ?_⟩
    have hn := hf.name r hr s hsr hsb
    have := (allB_iff (fun s hs hb => (hf.name r hr s hs hb).1)).1 hb s hsr hsb
    have := hs .a N s.2.toNat rfl (by omega) this.2
    have : MakesP N R (s.2.toNat : Nat) := this
    rwa [toNat_of hn.1] at this
  | false => simpa using hs

theorem makes_least (hf : Fine T N R) {X0 X : Vs} (h : HeadG .gr (mdom N) (ZM N R) X0 R makesX X) (hg : bit X .gr 0 = false) : ∀ n, hasB (X .a) n ↔ MakesP N R n := by
  have hl := h.shp .a N rfl
  refine fun n => ⟨fun hn => ?_, fun hn => ?_⟩
  · have hb : bit X .a n.toNat = true := hn.2
    have := h.snd .a N n.toNat rfl (by have := bit_lt hb; omega) hb
    have : MakesP N R (n.toNat : Nat) := this
    rwa [toNat_of hn.1] at this
  · refine Lv_least (MakesF_up R) (A := hasB (X .a)) (fun n hn => ?_) N n hn
    obtain ⟨r, hr, rfl, ha⟩ := hn
    obtain ⟨q, hq, rfl⟩ := getD_of_mem hr
    have hL := hf.left _ hr
    exact ⟨hL.1, (makes_up hL h.shp).2 (h.held hg q hq) ((allB_iff (fun s hs hb => (hf.name _ hr s hs hb).1)).2 ha)⟩

/-! ### Comes -/

def ZC (N : Nat) (R : List Ru) : Iv → Nat → Prop
  | .a, m => MakesP N R m
  | .b, m => ComesP N R m
  | _, _ => True

theorem nameX_up {l : List Sy} (hin : ∀ s ∈ l, s.1 = false → 0 ≤ s.2 ∧ s.2 < (N : Int)) {k : Nat} (hk : k < l.length) {X : Vs} (h : ShpG (cdom N) X) : UpG .gr (cdom N) X (nameX l k X) ∧ ((l.getD k (false, 0)).1 = false → bit (nameX l k X) .b (l.getD k (false, 0)).2.toNat = true) := by
  have hm : l.getD k (false, 0) ∈ l := by simp [List.getD, hk]
  unfold nameX
  cases hb : (l.getD k (false, 0)).1 with
  | true => exact ⟨by simpa using UpG.refl h, fun h => by cases h⟩
  | false =>
    have := hin _ hm hb
    simp only [Bool.false_eq_true, if_false]
    obtain ⟨p1, p2⟩ := putG_up (gr := Iv.gr) (dom := cdom N) (i := .b) (n := N) (m := (l.getD k (false, 0)).2.toNat) rfl h rfl (by omega) (by simp)
    exact ⟨p1, fun _ => p2⟩

theorem comes_up (hf : Fine T N R) {r : Ru} (hr : r ∈ R) {X : Vs} (h : ShpG (cdom N) X) : UpG .gr (cdom N) X (comesX r X) ∧
    (bit (comesX r X) .gr 0 = false → bit X .b r.1.toNat = true → allB (X .a) r.2 = true → ∀ n : Int, (false, n) ∈ r.2 → bit X .b n.toNat = true) := by
  unfold comesX
  cases hb : (bit X .b r.1.toNat && allB (X .a) r.2) with
  | true =>
    simp only [if_true]
    obtain ⟨u1, u2⟩ := loopG_up (gr := Iv.gr) (dom := cdom N) (n := r.2.length) (f := nameX r.2) (fun k hk Y hY => (nameX_up (hf.name r hr) hk hY).1) h
    refine ⟨u1, fun hz _ _ n hn => ?_⟩
    obtain ⟨k, hk, he⟩ := List.getElem_of_mem hn
    have hz1 := u2 hz k hk
    obtain ⟨v1, v2⟩ := nameX_up (hf.name r hr) hk h
    have e : r.2.getD k (false, 0) = (false, n) := by simp [List.getD, hk, he]
    rw [e] at v2
    have := v2 rfl
    rwa [v1.still hz1] at this
  | false =>
    refine ⟨by simpa using UpG.refl h, fun _ h1 h2 => ?_⟩
    rw [h1, h2] at hb
    cases hb

theorem comes_snd (hf : Fine T N R) {r : Ru} (hr : r ∈ R) {X : Vs} (h : ShpG (cdom N) X) (hs : SndG (cdom N) (ZC N R) X) : SndG (cdom N) (ZC N R) (comesX r X) := by
  have hL := hf.left r hr
  unfold comesX
  cases hb : (bit X .b r.1.toNat && allB (X .a) r.2) with
  | true =>
    simp only [if_true]
    simp only [Bool.and_eq_true] at hb
    have hc : ComesP N R r.1 := by
      have : ComesP N R (r.1.toNat : Nat) := hs .b N r.1.toNat rfl (by omega) hb.1
      rwa [toNat_of hL.1] at this
    have ha : AllM (MakesP N R) r.2 := fun s hsr hsb => by
      have hn := hf.name r hr s hsr hsb
      have := (allB_iff (fun s hs hb => (hf.name r hr s hs hb).1)).1 hb.2 s hsr hsb
      have : MakesP N R (s.2.toNat : Nat) := hs .a N s.2.toNat rfl (by omega) this.2
      rwa [toNat_of hn.1] at this
    refine loopG_snd (gr := Iv.gr) (fun k hk Y hY => (nameX_up (hf.name r hr) hk hY).1) (fun k hk Y hY hsY => ?_) h hs
    have hm : r.2.getD k (false, 0) ∈ r.2 := by simp [List.getD, hk]
    unfold nameX
    obtain ⟨⟨x, v⟩, hx⟩ : ∃ x, r.2.getD k (false, 0) = x := ⟨_, rfl⟩
    rw [hx] at hm ⊢
    cases x with
    | true => simpa using hsY
    | false =>
      have hn := hf.name r hr _ hm rfl
      simp only [Bool.false_eq_true, if_false]
      simp only at hn
      refine putG_snd (gr := Iv.gr) (i := .b) (n := N) rfl (fun _ => trivial) hY rfl (by omega) hsY ?_
      show ComesP N R _
      rw [toNat_of hn.1]
      exact Lv_closed (ComesF_mono hf _) _ (.inr ⟨r, hr, hm, ha, hc⟩)
  | false => simpa using hs

theorem comes_least (hf : Fine T N R) {X0 X : Vs} (h0 : ∀ n, MakesP N R n → hasB (X0 .a) n) (h1 : MakesP N R 0 → bit X0 .b 0 = true) (h : HeadG .gr (cdom N) (ZC N R) X0 R comesX X) (hg : bit X .gr 0 = false) : ∀ n, hasB (X .b) n ↔ ComesP N R n := by
  have hl := h.shp .b N rfl
  have hA : ∀ n, MakesP N R n → hasB (X .a) n := fun n hn => ⟨(h0 n hn).1, h.up .a _ (by simp) (h0 n hn).2⟩
  refine fun n => ⟨fun hn => ?_, fun hn => ?_⟩
  · have hb : bit X .b n.toNat = true := hn.2
    have : ComesP N R (n.toNat : Nat) := h.snd .b N n.toNat rfl (by have := bit_lt hb; omega) hb
    rwa [toNat_of hn.1] at this
  · refine Lv_least (ComesF_up R (MakesP N R)) (A := hasB (X .b)) (fun n hn => ?_) N n hn
    rcases hn with ⟨rfl, hm⟩ | ⟨r, hr, hmem, ha, hc⟩
    · exact ⟨Int.le_refl _, h.up .b 0 (by simp) (h1 hm)⟩
    · obtain ⟨q, hq, rfl⟩ := getD_of_mem hr
      exact ⟨(hf.name _ hr _ hmem rfl).1, (comes_up hf hr h.shp).2 (h.held hg q hq) hc.2 ((allB_iff (fun s hs hb => (hf.name _ hr s hs hb).1)).2 (ha.mono hA)) n hmem⟩

/-! ### Left -/

end

end Go.Proofs.Ytlalmfheiippiaa

/- The contracts of the program's reach.allIn and reach.putNames; the rows of package reach. -/
namespace Go.Proofs.Ytlalmfheiippiaa
open Go.RowKit

def VTab (dom : Iv → Option Nat) (va vb : Value) (vr : Nat → Value) (gb : Nat) : Tab Iv := ⟨fun | .gr => .slice (some ⟨gb, 0, none⟩) 1 1 | .a => va | .b => vb | .r n => vr n, dom⟩
theorem vmark {dom : Iv → Option Nat} {va vb : Value} {vr : Nat → Value} {gb : Nat} (h : dom .gr = some 1) : Mark (VTab dom va vb vr gb) .gr gb := ⟨rfl, h⟩

set_option maxRecDepth 100000 in
set_option maxHeartbeats 1600000 in
theorem allIn_any {ι : Type} {c : Tab ι} {w : World} {B N lc : Nat} {la : Option Addr} {i : ι} {X : ι → List Bool} {l : List Sy} (h : Bt w B c X) (hB : B ≤ w.heap.size) (hd : c.dom i = some N) (hl : RightAt w B la l) (hin : ∀ s ∈ l, s.1 = false → 0 ≤ s.2 ∧ s.2 < (N : Int)) (h8 : l.length ≤ 1000) :
    Calls Try.prog 28 #[c.V i, .slice la l.length lc] w fun e w' => e = .returned (.bool (allB (X i) l)) ∧ Below w.heap.size w w' := by
  obtain ⟨va, vc, hv⟩ := Bt.slice h hd
  have HB : Hid (Bt w B c X) := h
  have HV : Hid (c.V i = .slice va N vc) := hv
  have HL : Hid (RightAt w B la l) := hl
  have HI : Hid (∀ s ∈ l, s.1 = false → 0 ≤ s.2 ∧ s.2 < (N : Int)) := hin
  rw [hv]
  clear h hv hl hin
  go_enter Try.func28, Try.ntmps28
  go_wp2_with fail
  go_loopw [9] (fun s wr => ∃ k : Nat, s = .int .i64 k ∧ k ≤ l.length ∧ allB (X i) (l.take k) = true ∧ Below w.heap.size w wr) (fun s _ => l.length - (intOf s).toNat)
  case atStart => exact ⟨0, rfl, Nat.zero_le _, rfl, Below.refl _ _⟩
  case round =>
    obtain ⟨k, rfl, hk, hn, hb⟩ := hrel
    have HN : Hid (allB (X i) (l.take k) = true) := hn
    have HBe : Hid (Below w.heap.size w wr) := hb
    have HBr : Hid (Bt wr B c X) := Bt.below HB.out hb
    clear hn hb
    by_cases hlt : k < l.length
    · obtain ⟨b', o', hqa, hb', k3, k4⟩ := HL.out k hlt
      subst hqa
      have hmem : l.getD k (false, 0) ∈ l := by simp [List.getD, hlt]
      have hr := HI.out _ hmem
      obtain ⟨⟨t, v⟩, hs⟩ : ∃ x, l.getD k (false, 0) = x := ⟨_, rfl⟩
      have HT := allB_take (X i) l k hlt
      have HBd := allB_bad (X i) l k hlt
      rw [hs] at k3 k4 hr HT HBd
      rw [HN.out, Bool.true_and] at HT
      have HT' : Hid (allB (X i) (l.take (k + 1)) = (t || (X i).getD v.toNat false)) := HT
      have HB' : Hid ((t || (X i).getD v.toNat false) = false → allB (X i) l = false) := HBd
      have k3' : wr.cell? ⟨b', o' + k * 2, none⟩ = some (.bool t) := (HBe.out.cell (p := ⟨b', o' + k * 2, none⟩) (by simp only; omega)).trans k3
      have k4' : wr.cell? ⟨b', o' + k * 2 + 1, none⟩ = some (.int .i64 v) := by rw [Nat.add_assoc]; exact (HBe.out.cell (p := ⟨b', o' + (k * 2 + 1), none⟩) (by simp only; omega)).trans k4
      have j0 : (0 : Int) ≤ (k : Int) := Int.natCast_nonneg _
      have j1 : (k : Int) < (l.length : Int) := by omega
      have HA : Hid (Below w.heap.size w (wr.alloc (.cells #[.bool t, .int .i64 v] 42))) := HBe.out.alloc HBe.out.size _
      clear hs hmem HT HBd k3 k4
      cases t with
      | true =>
        go_wp2_with fail
        go_roundw
        case rel => exact ⟨k + 1, by go_num, by omega, by rw [HT'.out]; rfl, HA.out⟩
        case measure => simp [intOf]; omega
      | false =>
        have hr' : 0 ≤ v ∧ v < (N : Int) := hr rfl
        clear hr
        obtain ⟨y, rfl⟩ : ∃ y : Nat, v = y := ⟨v.toNat, by omega⟩
        obtain ⟨g, cap, hv, _, hgl⟩ := Bt.form HBr.out hd (by omega)
        have hv' := HV.out
        rw [hv] at hv'
        cases hv'
        obtain ⟨k5, _⟩ := Bt.cell HBr.out hd hv (m := y) (by omega)
        have k6 : (wr.alloc (.cells #[.bool false, .int .i64 y] 42)).cell? ⟨g, y, none⟩ = some (.bool (bit X i y)) := by rw [World.cell?_alloc_past _ _ _ hgl]; exact k5
        have j2 : (0 : Int) ≤ (y : Int) := Int.natCast_nonneg _
        have j3 : (y : Int) < (N : Int) := by omega
        obtain ⟨z, hz⟩ : ∃ z, bit X i y = z := ⟨_, rfl⟩
        have hz' : (X i).getD y false = z := hz
        rw [hz] at k6
        simp only [Int.toNat_natCast, hz'] at HT' HB'
        clear hz hz' hr' k5 hv
        cases z with
        | true =>
          go_wp2_with fail
          go_roundw
          case rel => exact ⟨k + 1, by go_num, by omega, by rw [HT'.out]; rfl, HA.out⟩
          case measure => simp [intOf]; omega
        | false =>
          go_wp2_with fail
          go_ret
          exact ⟨by rw [HB'.out (by simp)]; rfl, HA.out⟩
    · go_wp2_with fail
      go_ret
      exact ⟨by rw [← HN.out, List.take_of_length_le (by omega)]; rfl, HBe.out⟩

set_option maxRecDepth 100000 in
set_option maxHeartbeats 1600000 in
theorem putNames_any {w : World} {B N lc gb : Nat} {dom : Iv → Option Nat} {va vb : Value} {vr : Nat → Value} {la : Option Addr} {X : Vs} {l : List Sy} (h : Bt w B (VTab dom va vb vr gb) X) (hB : B ≤ w.heap.size) (hgr : dom .gr = some 1) (hd : dom .b = some N) (hl : RightAt w B la l) (hin : ∀ s ∈ l, s.1 = false → 0 ≤ s.2 ∧ s.2 < (N : Int)) (h8 : l.length ≤ 1000) :
    Calls Try.prog 30 #[vb, .slice la l.length lc, .func (.func 32) #[] #[.pointer (some ⟨gb, 0, none⟩)]] w fun e w' => e = .returned (.tuple #[]) ∧ Bt w' B (VTab dom va vb vr gb) (namesX l X) ∧ Kept (VTab dom va vb vr gb).K w w' := by
  obtain ⟨ba, bc, hv'⟩ := Bt.slice (i := Iv.b) h hd
  have hv : vb = .slice ba N bc := hv'
  subst hv
  have HB : Hid (Bt w B (VTab dom va (.slice ba N bc) vr gb) X) := h
  have HL : Hid (RightAt w B la l) := hl
  have HI : Hid (∀ s ∈ l, s.1 = false → 0 ≤ s.2 ∧ s.2 < (N : Int)) := hin
  clear h hv' hl hin
  go_enter Try.func30, Try.ntmps30
  go_wp2_with fail
  go_loopw [10] (fun s wr => ∃ k : Nat, s = .int .i64 k ∧ k ≤ l.length ∧ Bt wr B (VTab dom va (.slice ba N bc) vr gb) (loopN k (nameX l) X) ∧ Kept (VTab dom va (.slice ba N bc) vr gb).K w wr) (fun s _ => l.length - (intOf s).toNat)
  case atStart => exact ⟨0, rfl, Nat.zero_le _, HB.out, Kept.refl _ _⟩
  case round =>
    obtain ⟨k, rfl, hk, hBr, hKr⟩ := hrel
    obtain ⟨Y, hY⟩ : ∃ Y, loopN k (nameX l) X = Y := ⟨_, rfl⟩
    rw [hY] at hBr
    have HY : Hid (loopN k (nameX l) X = Y) := hY
    have HBr : Hid (Bt wr B (VTab dom va (.slice ba N bc) vr gb) Y) := hBr
    have HKr : Hid (Kept (VTab dom va (.slice ba N bc) vr gb).K w wr) := hKr
    have HBL : Hid (Below B w wr) := hKr.below (fun b hb => Bt.ge HB.out hb) hB
    clear hY hBr hKr
    by_cases hlt : k < l.length
    · obtain ⟨b', o', hqa, hb', k3, k4⟩ := HL.out k hlt
      subst hqa
      have hmem : l.getD k (false, 0) ∈ l := by simp [List.getD, hlt]
      have hr := HI.out _ hmem
      have hstep : loopN (k + 1) (nameX l) X = if (l.getD k (false, 0)).1 then Y else putG .gr Y .b (l.getD k (false, 0)).2.toNat := by rw [← HY.out]; rfl
      obtain ⟨⟨t, v⟩, hs⟩ : ∃ x, l.getD k (false, 0) = x := ⟨_, rfl⟩
      rw [hs] at k3 k4 hr hstep
      have k3' : wr.cell? ⟨b', o' + k * 2, none⟩ = some (.bool t) := (HBL.out.cell (p := ⟨b', o' + k * 2, none⟩) hb').trans k3
      have k4' : wr.cell? ⟨b', o' + k * 2 + 1, none⟩ = some (.int .i64 v) := by rw [Nat.add_assoc]; exact (HBL.out.cell (p := ⟨b', o' + (k * 2 + 1), none⟩) hb').trans k4
      have j0 : (0 : Int) ≤ (k : Int) := Int.natCast_nonneg _
      have j1 : (k : Int) < (l.length : Int) := by omega
      have HA : Hid (Bt (wr.alloc (.cells #[.bool t, .int .i64 v] 42)) B (VTab dom va (.slice ba N bc) vr gb) Y) := Bt.alloc HBr.out _
      have HKA : Hid (Kept (VTab dom va (.slice ba N bc) vr gb).K w (wr.alloc (.cells #[.bool t, .int .i64 v] 42))) := HKr.out.alloc _
      have HS : Hid (loopN (k + 1) (nameX l) X = if t then Y else putG .gr Y .b v.toNat) := hstep
      clear hs hmem k3 k4 hstep
      cases t with
      | true =>
        go_wp2_with fail
        go_roundw
        case rel => exact ⟨k + 1, by go_num, by omega, by rw [HS.out]; exact HA.out, HKA.out⟩
        case measure => simp [intOf]; omega
      | false =>
        have hr' : 0 ≤ v ∧ v < (N : Int) := hr rfl
        clear hr
        obtain ⟨y, rfl⟩ : ∃ y : Nat, v = y := ⟨v.toNat, by omega⟩
        have put := put_gen (i := Iv.b) (m := y) HA.out (vmark hgr) hd (by omega) (by simp)
        have put' : Calls Try.prog 32 #[.slice ba N bc, .int .i64 y, .pointer (some ⟨gb, 0, none⟩)] _ _ := put
        clear put hr'
        go_wp2_with (go_at_call 32; refine put'.mono ?_; rintro e w2 ⟨rfl, hB2, hK2⟩)
        go_roundw
        case rel => exact ⟨k + 1, by go_num, by omega, by rw [HS.out]; simpa using hB2, HKA.out.trans hK2⟩
        case measure => simp [intOf]; omega
    · obtain rfl : k = l.length := by omega
      go_wp2_with fail
      go_end0
      exact ⟨rfl, by show Bt _ _ _ (loopN l.length (nameX l) X); rw [HY.out]; exact HBr.out, HKr.out⟩

end Go.Proofs.Ytlalmfheiippiaa

/- The contract of the program's reach.Makes. -/
namespace Go.Proofs.Ytlalmfheiippiaa
open Go.RowKit

section
variable {N : Nat} {va vb : Value} {vr : Nat → Value} {gb : Nat}

set_option maxRecDepth 100000 in
set_option maxHeartbeats 1600000 in
theorem makes1_any {w : World} {B sx qc T : Nat} {qa : Option Addr} {X : Vs} {R : List Ru} {r : Ru} (h : Bt w B (VTab (mdom N) va vb vr gb) X) (hB : B ≤ w.heap.size) (hs : w.cell? ⟨sx, 0, none⟩ = some va) (hsK : ¬ (VTab (mdom N) va vb vr gb).K sx)
    (hf : Fine T N R) (hr : r ∈ R) (h8 : r.2.length ≤ 8) (hR : RightAt w B qa r.2) :
    Calls Try.prog 27 #[.agg #[.int .i64 r.1, .slice qa r.2.length qc], .func (.func 32) #[] #[.pointer (some ⟨gb, 0, none⟩)], .pointer (some ⟨sx, 0, none⟩)] w fun e w' =>
      e = .returned (.tuple #[]) ∧ Bt w' B (VTab (mdom N) va vb vr gb) (makesX r X) ∧ Kept (VTab (mdom N) va vb vr gb).K w w' := by
  have hL := hf.left r hr
  have hin := hf.name r hr
  obtain ⟨L, Rt⟩ := r
  simp only at hL hin h8 hR ⊢
  obtain ⟨l, rfl⟩ : ∃ l : Nat, L = l := ⟨L.toNat, by omega⟩
  obtain ⟨aa, ac, hv'⟩ := Bt.slice (i := Iv.a) (n := N) h rfl
  have hv : va = .slice aa N ac := hv'
  clear hv'
  subst hv
  have hK1 : Kept (VTab (mdom N) (.slice aa N ac) vb vr gb).K w (w.alloc (.cells #[.int .i64 l, .slice qa Rt.length qc] 39)) := (Kept.refl _ _).alloc _
  have hR1 := hR.below (hK1.below (fun b hb => Bt.ge h hb) hB)
  have all := allIn_any (i := Iv.a) (N := N) (lc := qc) (Bt.alloc h (.cells #[.int .i64 l, .slice qa Rt.length qc] 39)) (by simp; omega) rfl hR1 hin (by omega)
  have all' : Calls Try.prog 28 #[.slice aa N ac, .slice qa Rt.length qc] _ _ := all
  have hs1 := hK1.cell hsK hs
  have HB : Hid (Bt w B (VTab (mdom N) (.slice aa N ac) vb vr gb) X) := h
  have HsK : Hid (¬ (VTab (mdom N) (.slice aa N ac) vb vr gb).K sx) := hsK
  have HM : Hid (makesX ((l : Int), Rt) X = if allB (X .a) Rt then putG .gr X .a l else X) := by show makesX ((l : Int), Rt) X = _; simp [makesX]
  obtain ⟨z, hz⟩ : ∃ z, allB (X .a) Rt = z := ⟨_, rfl⟩
  rw [hz] at HM all'
  clear all hz h hsK hR hR1 hin
  cases z with
  | true =>
    go_enter Try.func27, Try.ntmps27
    go_wp2_with
      (first
       | (go_at_call 28; refine all'.mono ?_; rintro e w2 ⟨rfl, hb2⟩
          have q0 := (hb2.cell (p := ⟨sx, 0, none⟩) (World.block_lt_of_cell? _ _ hs1)).trans hs1
          have q1 : w2.cell? ⟨w.heap.size, 0, none⟩ = some (.int .i64 l) := (hb2.cell (by simp)).trans (by simp [go_sem])
          have hB2 : Bt w2 B (VTab (mdom N) (.slice aa N ac) vb vr gb) X := Bt.below (Bt.alloc HB.out _) hb2
          have put := put_gen (i := Iv.a) (n := N) (m := l) hB2 (vmark rfl) rfl (by omega) (by simp)
          have put' : Calls Try.prog 32 #[.slice aa N ac, .int .i64 l, .pointer (some ⟨gb, 0, none⟩)] _ _ := put
          have HK2 : Hid (Kept (VTab (mdom N) (.slice aa N ac) vb vr gb).K w w2) := hK1.trans (Kept.ofBelow hb2)
          clear hB2 put hb2 all' hs1)
       | (go_at_call 32; refine put'.mono ?_; rintro e w3 ⟨rfl, hB3, hK3⟩))
    go_end0
    exact ⟨rfl, by rw [HM.out]; exact hB3, HK2.out.trans hK3⟩
  | false =>
    go_enter Try.func27, Try.ntmps27
    go_wp2_with
      (go_at_call 28; refine all'.mono ?_; rintro e w2 ⟨rfl, hb2⟩
       have HB2 : Hid (Bt w2 B (VTab (mdom N) (.slice aa N ac) vb vr gb) X) := Bt.below (Bt.alloc HB.out _) hb2
       have HK2 : Hid (Kept (VTab (mdom N) (.slice aa N ac) vb vr gb).K w w2) := hK1.trans (Kept.ofBelow hb2)
       clear hb2 all' hs1)
    go_end0
    exact ⟨rfl, by rw [HM.out]; exact HB2.out, HK2.out⟩
end

/-- Of a grammar that may be. -/
theorem may_Fine {T N : Nat} {R : List Ru} (h : mayB T N R = true) : Fine T N R := by
  obtain ⟨_, h1, _, _, h5⟩ := may_fine h
  have mem : ∀ r ∈ R, 0 ≤ r.1 ∧ r.1 < (N : Int) ∧ ∀ s ∈ r.2, 0 ≤ s.2 ∧ s.2 < if s.1 then (T : Int) else (N : Int) := fun r hr => by
    obtain ⟨q, hq, rfl⟩ := getD_of_mem hr
    exact ⟨(h5 q hq).1, (h5 q hq).2.1, (h5 q hq).2.2.2⟩
  refine ⟨fun r hr => ⟨(mem r hr).1, (mem r hr).2.1⟩, fun r hr s hs hb => ?_, fun r hr s hs hb => ?_, h1⟩
  · have := (mem r hr).2.2 s hs; rw [hb] at this; simpa using this
  · have := (mem r hr).2.2 s hs; rw [hb] at this; simpa using this

def noV : Nat → Value := fun _ => .slice none 0 0

/-- Makes' rows at first. -/
def makes0 (N : Nat) : Vs
  | .a => List.replicate N false
  | .gr => [true]
  | _ => []

theorem own_mark {w : World} {B : Nat} (hB : B ≤ w.heap.size) : (w.alloc (.cells #[.bool true] 4)).ownsRow B 4 1 (.slice (some ⟨w.heap.size, 0, none⟩) 1 1) 1 ([true].map Value.bool) := by
  have := World.ownsRow_lit (base := B) (e := 4) (size := 1) w #[.bool true] 1 hB (by unfold maxLen; omega) rfl
  simpa using this

theorem makes_start {w1 : World} {N : Nat} (hN : N ≤ maxLen) (o : Obj) : Bt ((((w1.alloc (.cells (madeCells #[.bool false] N) 4)).alloc o)).alloc (.cells #[.bool true] 4)) w1.heap.size (VTab (mdom N) (.slice (some ⟨w1.heap.size, 0, none⟩) N N) (.slice none 0 0) noV (w1.heap.size + 2)) (makes0 N) := by
  have h0 : Bt w1 w1.heap.size (⟨fun _ => .slice none 0 0, fun _ => none⟩ : Tab Iv) (makes0 N) := bt_none _ _ fun _ => rfl
  have h1 : Bt (w1.alloc (.cells (madeCells #[.bool false] N) 4)) w1.heap.size (VTab (fun | .a => some N | _ => none) (.slice (some ⟨w1.heap.size, 0, none⟩) N N) (.slice none 0 0) noV 0) (makes0 N) :=
    bt_add .a h0 ((Below.refl _ _).alloc (Nat.le_refl _) _) rfl (row_made w1 hN) (fun g hg => by cases hg; exact Nat.le_refl _) (fun j hj m hm => by cases j <;> simp_all [VTab])
  have h2 := Bt.alloc h1 o
  refine bt_add .gr h2 ((Below.refl _ _).alloc (Nat.le_refl _) _) rfl ?_ (fun g hg => ?_) (fun j hj m hm => by cases j <;> simp_all [VTab, mdom])
  · have := own_mark (w := (w1.alloc (.cells (madeCells #[.bool false] N) 4)).alloc o) (B := w1.heap.size) (by simp; omega)
    simp only [World.size_alloc] at this
    exact this
  · simp only [VTab, Value.ownBlock, Option.some.injEq] at hg
    simp only [World.size_alloc]
    omega

theorem makes_head {N : Nat} {R : List Ru} : HeadG .gr (mdom N) (ZM N R) (makes0 N) R makesX (makes0 N) := by
  refine ⟨fun i n hd => ?_, fun i n m hd hm hb => ?_, fun _ _ _ h => h, fun hz => by simp [bit, makes0] at hz⟩
  · cases i <;> simp [mdom] at hd <;> subst hd <;> simp [makes0]
  · cases i <;> simp [mdom] at hd
    · trivial
    · subst hd
      simp [bit, makes0, List.getD, hm] at hb

def mixs (N : Nat) : List (Iv × Nat) := (List.range N).map fun m => (.a, m)
theorem mixs_in (N : Nat) : ∀ i n m, i ≠ Iv.gr → mdom N i = some n → m < n → (i, m) ∈ mixs N := fun i n m hi hd hm => by
  cases i <;> simp [mdom] at hd hi
  subst hd
  simp [mixs, hm]
theorem mixs_no (N : Nat) : ∀ p ∈ mixs N, p.1 ≠ Iv.gr := fun p hp => by
  simp only [mixs, List.mem_map] at hp
  obtain ⟨_, _, rfl⟩ := hp
  simp

theorem VTab.notK {dom : Iv → Option Nat} {va vb : Value} {vr : Nat → Value} {gb b : Nat} (h : ∀ i n, dom i = some n → ((VTab dom va vb vr gb).V i).ownBlock ≠ some b) : ¬ (VTab dom va vb vr gb).K b := fun ⟨i, n, hd, hb⟩ => h i n hd hb

set_option maxRecDepth 100000 in
set_option maxHeartbeats 1600000 in
theorem devMakes_may {w : World} {T N : Nat} {rv : Value} {R : List Ru} (hr : RulesAt w w.heap.size rv R) (hm : mayB T N R = true) :
    Calls Try.prog 22 #[.agg #[.int .i64 T, .int .i64 N, rv]] w fun e w' => ∃ g Y, e = .returned (.tuple #[.slice (some ⟨g, 0, none⟩) N N, .int .i64 0]) ∧ Below w.heap.size w w' ∧ RowB w' (w.heap.size + 1) g N Y ∧ ∀ n, hasB Y n ↔ MakesP N R n := by
  have hf := may_Fine hm
  obtain ⟨hT, hN1, hN, hRl, hfine⟩ := may_fine hm
  obtain ⟨ra, rc, hrv⟩ := hr.1
  subst hrv
  have may := mayG_any (T := T) (N := N) (hr.boxed (.cells #[.int .i64 T, .int .i64 N, .slice ra R.length rc] 24))
  rw [hm] at may
  have HR : Hid (RulesAt w w.heap.size (.slice ra R.length rc) R) := hr
  have HF : Hid (Fine T N R) := hf
  have HQ : Hid (∀ q, q < R.length → (R.getD q (0, [])).2.length ≤ 8) := fun q hq => (hfine q hq).2.2.1
  have mkN := make_bools N (by omega)
  clear hr hm hf hfine
  go_enter Try.func22, Try.ntmps22
  go_wp2_with
    (first
     | (go_at_call 5; refine may.mono ?_; rintro e w1 ⟨rfl, hB1⟩
        have b1 : w1.cell? ⟨w.heap.size, 1, none⟩ = some (.int .i64 N) := (hB1.cell (by simp)).trans (by simp [go_sem])
        have b2 : w1.cell? ⟨w.heap.size, 2, none⟩ = some (.slice ra R.length rc) := (hB1.cell (by simp)).trans (by simp [go_sem])
        have hs1 : w.heap.size + 1 ≤ w1.heap.size := by have := hB1.size; simpa using this
        have HX : Hid (Below w.heap.size w w1) := ((Below.refl _ _).alloc (Nat.le_refl _) _).trans (hB1.mono (by simp))
        have m2 : ((w1.alloc (.cells (madeCells #[.bool false] N) 4)).alloc (.cells #[.slice (some ⟨w1.heap.size, 0, none⟩) N N] 61)).cell? ⟨w.heap.size, 2, none⟩ = some (.slice ra R.length rc) := by
          rw [World.cell?_alloc_past _ _ _ (by simp; omega), World.cell?_alloc_past _ _ _ (by omega)]; exact b2
        clear hB1 may)
     | (go_at_call 26
        have hBt := makes_start (w1 := w1) (N := N) (by unfold maxLen; omega) (.cells #[.slice (some ⟨w1.heap.size, 0, none⟩) N N] 61)
        have hBA : Below w1.heap.size w1 (((w1.alloc (.cells (madeCells #[.bool false] N) 4)).alloc (.cells #[.slice (some ⟨w1.heap.size, 0, none⟩) N N] 61)).alloc (.cells #[.bool true] 4)) := (((Below.refl _ _).alloc (Nat.le_refl _) _).alloc (by simp) _).alloc (by simp; omega) _
        have hRu : RulesAt (((w1.alloc (.cells (madeCells #[.bool false] N) 4)).alloc (.cells #[.slice (some ⟨w1.heap.size, 0, none⟩) N N] 61)).alloc (.cells #[.bool true] 4)) w1.heap.size (.slice ra R.length rc) R := ((HR.out.below HX.out).mono (by omega)).below hBA
        have hsK : ¬ (VTab (mdom N) (.slice (some ⟨w1.heap.size, 0, none⟩) N N) (.slice none 0 0) noV (w1.heap.size + 2)).K (w1.heap.size + 1) := VTab.notK fun i n hd => by cases i <;> simp [mdom] at hd <;> simp [VTab, Value.ownBlock]
        have hsv : (((w1.alloc (.cells (madeCells #[.bool false] N) 4)).alloc (.cells #[.slice (some ⟨w1.heap.size, 0, none⟩) N N] 61)).alloc (.cells #[.bool true] 4)).cell? ⟨w1.heap.size + 1, 0, none⟩ = some (.slice (some ⟨w1.heap.size, 0, none⟩) N N) := by simp [go_sem]
        refine (until_gen (c := VTab (mdom N) (.slice (some ⟨w1.heap.size, 0, none⟩) N N) (.slice none 0 0) noV (w1.heap.size + 2)) (gr := Iv.gr) (B := w1.heap.size) (X := makes0 N) (R := R) (f := makesX) (Head := HeadG .gr (mdom N) (ZM N R) (makes0 N) R makesX) (togo := togoG .gr (mixs N))
          (by simpa using hBt) (by simp; omega) (by simpa using vmark (dom := mdom N) rfl) hRu (by omega) (fun k hk w2 Y qa qc hK hBtY hRA hqc => ?_) (fun args w => by simp [callFunc, Try.func27, Try.f27 ]) makes_head
          (HeadG.next rfl (mixs_in N) (mixs_no N) (fun _ => trivial) (fun q hq Y hY => (makes_up (HF.out.left _ (mem_getD hq)) hY).1) (fun q hq Y hY hs => makes_snd HF.out (mem_getD hq) hY hs))).mono ?_
        · have e : ∀ a b c : Value, #[a, b] ++ #[c] = #[a, b, c] := fun a b c => by simp
          rw [e]
          have hs := hK.size
          simp only [World.size_alloc] at hs ⊢
          exact makes1_any hBtY (by omega) (hK.cell hsK hsv) hsK HF.out (mem_getD hk) (HQ.out k hk) hRA
        rintro e w3 ⟨rfl, Y, hH, hg, hB3, hK3⟩
        have n0 := hK3.cell hsK hsv
        have HB3 : Hid (Bt w3 w1.heap.size (VTab (mdom N) (.slice (some ⟨w1.heap.size, 0, none⟩) N N) (.slice none 0 0) noV (w1.heap.size + 2)) Y) := hB3
        have HL : Hid (∀ n, hasB (Y .a) n ↔ MakesP N R n) := makes_least HF.out hH hg
        have HB : Hid (Below w.heap.size w w3) := HX.out.trans ((hBA.trans (hK3.below (fun b hb => Bt.ge hB3 hb) (by simp; omega))).mono (by omega))
        clear hBt hBA hRu hsK hsv hH hg hB3 hK3))
  refine bodyPost_ret (v := .tuple #[.slice (some ⟨w1.heap.size, 0, none⟩) N N, .int .i64 0]) (by simp [results, Try.results22, go_sem]) rfl ⟨w1.heap.size, Y .a, rfl, HB.out, own_mono (Bt.own (i := Iv.a) HB3.out rfl) (by omega), HL.out⟩

end Go.Proofs.Ytlalmfheiippiaa
