/- Plain: what the program's package reach does with a rule, and that what it comes to are the least sets. No memory. -/
import Derived.Test.YtifacfhlgilgoaaLfp3
import Derived.Test.YtifacfhlgilgoaaGrowMath
namespace Go.Proofs.Ytifacfhlgilgoaa

/-- The mark, a row or two, and a row for each name. -/
inductive Iv where
  | gr | a | b
  | r (n : Nat)
  deriving DecidableEq

abbrev Vs := Iv → List Bool

def makesX (r : Ru) (X : Vs) : Vs := if allB (X .a) r.2 then putG .gr X .a r.1.toNat else X
def nameX (l : List Sy) (k : Nat) (Y : Vs) : Vs := if (l.getD k (false, 0)).1 then Y else putG .gr Y .b (l.getD k (false, 0)).2.toNat
def namesX (l : List Sy) (X : Vs) : Vs := loopN l.length (nameX l) X
def comesX (r : Ru) (X : Vs) : Vs := if bit X .b r.1.toNat && allB (X .a) r.2 then namesX r.2 X else X
def mdom (N : Nat) : Iv → Option Nat
  | .gr => some 1
  | .a => some N
  | .b => none
  | .r _ => none
def cdom (N : Nat) : Iv → Option Nat
  | .gr => some 1
  | .a => some N
  | .b => some N
  | .r _ => none
section
variable {T N : Nat} {R : List Ru}

/-! ### Makes -/

def ZM (N : Nat) (R : List Ru) : Iv → Nat → Prop
  | .a, m => MakesP N R m
  | _, _ => True

theorem makes_up {r : Ru} (hL : 0 ≤ r.1 ∧ r.1 < (N : Int)) {X : Vs} (h : ShpG (mdom N) X) : UpG .gr (mdom N) X (makesX r X) ∧ (bit (makesX r X) .gr 0 = false → allB (X .a) r.2 = true → bit X .a r.1.toNat = true) := by
  unfold makesX
  cases hb : allB (X .a) r.2 with
  | true =>
    simp only [if_true]
    obtain ⟨p1, p2⟩ := putG_up (gr := Iv.gr) (dom := mdom N) (i := .a) (n := N) (m := r.1.toNat) rfl h rfl (by omega) (by simp)
    exact ⟨p1, fun hz _ => by rw [p1.still hz] at p2; exact p2⟩
  | false => exact ⟨by simpa using UpG.refl h, fun _ h => by cases h⟩

theorem makes_snd (hf : Fine T N R) {r : Ru} (hr : r ∈ R) {X : Vs} (h : ShpG (mdom N) X) (hs : SndG (mdom N) (ZM N R) X) : SndG (mdom N) (ZM N R) (makesX r X) := by
  have hL := hf.left r hr
  unfold makesX
  cases hb : allB (X .a) r.2 with
  | true =>
    simp only [if_true]
    refine putG_snd (gr := Iv.gr) (i := .a) (n := N) rfl (fun _ => trivial) h rfl (by omega) hs ?_
    show MakesP N R _
    rw [toNat_of hL.1]
    refine Lv_closed (MakesF_mono hf) _ ⟨r, hr, rfl, fun s hsr hsb => ?_⟩
    have hn := hf.name r hr s hsr hsb
    have := (allB_iff (fun s hs hb => (hf.name r hr s hs hb).1)).1 hb s hsr hsb
    have := hs .a N s.2.toNat rfl (by omega) this.2
    have : MakesP N R (s.2.toNat : Nat) := this
    rwa [toNat_of hn.1] at this
  | false => simpa using hs

theorem makes_least (hf : Fine T N R) {X0 X : Vs} (h : HeadG .gr (mdom N) (ZM N R) X0 R makesX X) (hg : bit X .gr 0 = false) : ∀ n, hasB (X .a) n ↔ MakesP N R n := by
  have hl := h.shp .a N rfl
  refine fun n => ⟨fun hn => ?_, fun hn => ?_⟩
  · have hb : bit X .a n.toNat = true := hn.2
    have := h.snd .a N n.toNat rfl (by have := bit_lt hb; omega) hb
    have : MakesP N R (n.toNat : Nat) := this
    rwa [toNat_of hn.1] at this
  · refine Lv_least (MakesF_up R) (A := hasB (X .a)) (fun n hn => ?_) N n hn
    obtain ⟨r, hr, rfl, ha⟩ := hn
    obtain ⟨q, hq, rfl⟩ := getD_of_mem hr
    have hL := hf.left _ hr
    exact ⟨hL.1, (makes_up hL h.shp).2 (h.held hg q hq) ((allB_iff (fun s hs hb => (hf.name _ hr s hs hb).1)).2 ha)⟩

/-! ### Comes -/

def ZC (N : Nat) (R : List Ru) : Iv → Nat → Prop
  | .a, m => MakesP N R m
  | .b, m => ComesP N R m
  | _, _ => True

theorem nameX_up {l : List Sy} (hin : ∀ s ∈ l, s.1 = false → 0 ≤ s.2 ∧ s.2 < (N : Int)) {k : Nat} (hk : k < l.length) {X : Vs} (h : ShpG (cdom N) X) : UpG .gr (cdom N) X (nameX l k X) ∧ ((l.getD k (false, 0)).1 = false → bit (nameX l k X) .b (l.getD k (false, 0)).2.toNat = true) := by
  have hm : l.getD k (false, 0) ∈ l := by simp [List.getD, hk]
  unfold nameX
  cases hb : (l.getD k (false, 0)).1 with
  | true => exact ⟨by simpa using UpG.refl h, fun h => by cases h⟩
  | false =>
    have := hin _ hm hb
    simp only [Bool.false_eq_true, if_false]
    obtain ⟨p1, p2⟩ := putG_up (gr := Iv.gr) (dom := cdom N) (i := .b) (n := N) (m := (l.getD k (false, 0)).2.toNat) rfl h rfl (by omega) (by simp)
    exact ⟨p1, fun _ => p2⟩

theorem comes_up (hf : Fine T N R) {r : Ru} (hr : r ∈ R) {X : Vs} (h : ShpG (cdom N) X) : UpG .gr (cdom N) X (comesX r X) ∧
    (bit (comesX r X) .gr 0 = false → bit X .b r.1.toNat = true → allB (X .a) r.2 = true → ∀ n : Int, (false, n) ∈ r.2 → bit X .b n.toNat = true) := by
  unfold comesX
  cases hb : (bit X .b r.1.toNat && allB (X .a) r.2) with
  | true =>
    simp only [if_true]
    obtain ⟨u1, u2⟩ := loopG_up (gr := Iv.gr) (dom := cdom N) (n := r.2.length) (f := nameX r.2) (fun k hk Y hY => (nameX_up (hf.name r hr) hk hY).1) h
    refine ⟨u1, fun hz _ _ n hn => ?_⟩
    obtain ⟨k, hk, he⟩ := List.getElem_of_mem hn
    have hz1 := u2 hz k hk
    obtain ⟨v1, v2⟩ := nameX_up (hf.name r hr) hk h
    have e : r.2.getD k (false, 0) = (false, n) := by simp [List.getD, hk, he]
    rw [e] at v2
    have := v2 rfl
    rwa [v1.still hz1] at this
  | false =>
    refine ⟨by simpa using UpG.refl h, fun _ h1 h2 => ?_⟩
    rw [h1, h2] at hb
    cases hb

theorem comes_snd (hf : Fine T N R) {r : Ru} (hr : r ∈ R) {X : Vs} (h : ShpG (cdom N) X) (hs : SndG (cdom N) (ZC N R) X) : SndG (cdom N) (ZC N R) (comesX r X) := by
  have hL := hf.left r hr
  unfold comesX
  cases hb : (bit X .b r.1.toNat && allB (X .a) r.2) with
  | true =>
    simp only [if_true]
    simp only [Bool.and_eq_true] at hb
    have hc : ComesP N R r.1 := by
      have : ComesP N R (r.1.toNat : Nat) := hs .b N r.1.toNat rfl (by omega) hb.1
      rwa [toNat_of hL.1] at this
    have ha : AllM (MakesP N R) r.2 := fun s hsr hsb => by
      have hn := hf.name r hr s hsr hsb
      have := (allB_iff (fun s hs hb => (hf.name r hr s hs hb).1)).1 hb.2 s hsr hsb
      have : MakesP N R (s.2.toNat : Nat) := hs .a N s.2.toNat rfl (by omega) this.2
      rwa [toNat_of hn.1] at this
    refine loopG_snd (gr := Iv.gr) (fun k hk Y hY => (nameX_up (hf.name r hr) hk hY).1) (fun k hk Y hY hsY => ?_) h hs
    have hm : r.2.getD k (false, 0) ∈ r.2 := by simp [List.getD, hk]
    unfold nameX
    obtain ⟨⟨x, v⟩, hx⟩ : ∃ x, r.2.getD k (false, 0) = x := ⟨_, rfl⟩
    rw [hx] at hm ⊢
    cases x with
    | true => simpa using hsY
    | false =>
      have hn := hf.name r hr _ hm rfl
      simp only [Bool.false_eq_true, if_false]
      simp only at hn
      refine putG_snd (gr := Iv.gr) (i := .b) (n := N) rfl (fun _ => trivial) hY rfl (by omega) hsY ?_
      show ComesP N R _
      rw [toNat_of hn.1]
      exact Lv_closed (ComesF_mono hf _) _ (.inr ⟨r, hr, hm, ha, hc⟩)
  | false => simpa using hs

theorem comes_least (hf : Fine T N R) {X0 X : Vs} (h0 : ∀ n, MakesP N R n → hasB (X0 .a) n) (h1 : MakesP N R 0 → bit X0 .b 0 = true) (h : HeadG .gr (cdom N) (ZC N R) X0 R comesX X) (hg : bit X .gr 0 = false) : ∀ n, hasB (X .b) n ↔ ComesP N R n := by
  have hl := h.shp .b N rfl
  have hA : ∀ n, MakesP N R n → hasB (X .a) n := fun n hn => ⟨(h0 n hn).1, h.up .a _ (by simp) (h0 n hn).2⟩
  refine fun n => ⟨fun hn => ?_, fun hn => ?_⟩
  · have hb : bit X .b n.toNat = true := hn.2
    have : ComesP N R (n.toNat : Nat) := h.snd .b N n.toNat rfl (by have := bit_lt hb; omega) hb
    rwa [toNat_of hn.1] at this
  · refine Lv_least (ComesF_up R (MakesP N R)) (A := hasB (X .b)) (fun n hn => ?_) N n hn
    rcases hn with ⟨rfl, hm⟩ | ⟨r, hr, hmem, ha, hc⟩
    · exact ⟨Int.le_refl _, h.up .b 0 (by simp) (h1 hm)⟩
    · obtain ⟨q, hq, rfl⟩ := getD_of_mem hr
      exact ⟨(hf.name _ hr _ hmem rfl).1, (comes_up hf hr h.shp).2 (h.held hg q hq) hc.2 ((allB_iff (fun s hs hb => (hf.name _ hr s hs hb).1)).2 (ha.mono hA)) n hmem⟩

/-! ### Left -/

end

end Go.Proofs.Ytifacfhlgilgoaa
