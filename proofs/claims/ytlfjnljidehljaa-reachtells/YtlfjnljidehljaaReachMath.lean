/- Plain: what the program's package reach does with a rule, and that what it comes to are the least sets. No memory. -/
import Derived.Test.YtlfjnljidehljaaLfp3
import Derived.Test.YtlfjnljidehljaaGrowMath
namespace Go.Proofs.Ytlfjnljidehljaa

/-- The mark, a row or two, and a row for each name. -/
inductive Iv where
  | gr | a | b
  | r (n : Nat)
  deriving DecidableEq

abbrev Vs := Iv → List Bool

def makesX (r : Ru) (X : Vs) : Vs := if allB (X .a) r.2 then putG .gr X .a r.1.toNat else X
def nameX (l : List Sy) (k : Nat) (Y : Vs) : Vs := if (l.getD k (false, 0)).1 then Y else putG .gr Y .b (l.getD k (false, 0)).2.toNat
def namesX (l : List Sy) (X : Vs) : Vs := loopN l.length (nameX l) X
def comesX (r : Ru) (X : Vs) : Vs := if bit X .b r.1.toNat && allB (X .a) r.2 then namesX r.2 X else X
def begX (N L : Nat) : List Sy → Vs → Vs
  | [], X => X
  | s :: l, X => if s.1 then X else
      if bit (putAllG .gr (.r L) (.r s.2.toNat) N (putG .gr X (.r L) s.2.toNat)) .a s.2.toNat then begX N L l (putAllG .gr (.r L) (.r s.2.toNat) N (putG .gr X (.r L) s.2.toNat))
      else putAllG .gr (.r L) (.r s.2.toNat) N (putG .gr X (.r L) s.2.toNat)
def beginsX (N : Nat) (r : Ru) (X : Vs) : Vs := begX N r.1.toNat r.2 X

def mdom (N : Nat) : Iv → Option Nat
  | .gr => some 1
  | .a => some N
  | .b => none
  | .r _ => none
def cdom (N : Nat) : Iv → Option Nat
  | .gr => some 1
  | .a => some N
  | .b => some N
  | .r _ => none
def ldom (N : Nat) : Iv → Option Nat
  | .gr => some 1
  | .a => some N
  | .b => none
  | .r n => if n < N then some N else none

section
variable {T N : Nat} {R : List Ru}

/-! ### Makes -/

def ZM (N : Nat) (R : List Ru) : Iv → Nat → Prop
  | .a, m => MakesP N R m
  | _, _ => True

theorem makes_up {r : Ru} (hL : 0 ≤ r.1 ∧ r.1 < (N : Int)) {X : Vs} (h : ShpG (mdom N) X) : UpG .gr (mdom N) X (makesX r X) ∧ (bit (makesX r X) .gr 0 = false → allB (X .a) r.2 = true → bit X .a r.1.toNat = true) := by
  unfold makesX
  cases hb : allB (X .a) r.2 with
  | true =>
    simp only [if_true]
    obtain ⟨p1, p2⟩ := putG_up (gr := Iv.gr) (dom := mdom N) (i := .a) (n := N) (m := r.1.toNat) rfl h rfl (by omega) (by simp)
    exact ⟨p1, fun hz _ => by rw [p1.still hz] at p2; exact p2⟩
  | false => exact ⟨by simpa using UpG.refl h, fun _ h => by cases h⟩

theorem makes_snd (hf : Fine T N R) {r : Ru} (hr : r ∈ R) {X : Vs} (h : ShpG (mdom N) X) (hs : SndG (mdom N) (ZM N R) X) : SndG (mdom N) (ZM N R) (makesX r X) := by
  have hL := hf.left r hr
  unfold makesX
  cases hb : allB (X .a) r.2 with
  | true =>
    simp only [if_true]
    refine putG_snd (gr := Iv.gr) (i := .a) (n := N) rfl (fun _ => trivial) h rfl (by omega) hs ?_
    show MakesP N R _
    rw [toNat_of hL.1]
    refine Lv_closed (MakesF_mono hf) _ ⟨r, hr, rfl, fun s hsr hsb => ?_⟩
    have hn := hf.name r hr s hsr hsb
    have := (allB_iff (fun s hs hb => (hf.name r hr s hs hb).1)).1 hb s hsr hsb
    have := hs .a N s.2.toNat rfl (by omega) this.2
    have : MakesP N R (s.2.toNat : Nat) := this
    rwa [toNat_of hn.1] at this
  | false => simpa using hs

theorem makes_least (hf : Fine T N R) {X0 X : Vs} (h : HeadG .gr (mdom N) (ZM N R) X0 R makesX X) (hg : bit X .gr 0 = false) : ∀ n, hasB (X .a) n ↔ MakesP N R n := by
  have hl := h.shp .a N rfl
  refine fun n => ⟨fun hn => ?_, fun hn => ?_⟩
  · have hb : bit X .a n.toNat = true := hn.2
    have := h.snd .a N n.toNat rfl (by have := bit_lt hb; omega) hb
    have : MakesP N R (n.toNat : Nat) := this
    rwa [toNat_of hn.1] at this
  · refine Lv_least (MakesF_up R) (A := hasB (X .a)) (fun n hn => ?_) N n hn
    obtain ⟨r, hr, rfl, ha⟩ := hn
    obtain ⟨q, hq, rfl⟩ := getD_of_mem hr
    have hL := hf.left _ hr
    exact ⟨hL.1, (makes_up hL h.shp).2 (h.held hg q hq) ((allB_iff (fun s hs hb => (hf.name _ hr s hs hb).1)).2 ha)⟩

/-! ### Comes -/

def ZC (N : Nat) (R : List Ru) : Iv → Nat → Prop
  | .a, m => MakesP N R m
  | .b, m => ComesP N R m
  | _, _ => True

theorem nameX_up {l : List Sy} (hin : ∀ s ∈ l, s.1 = false → 0 ≤ s.2 ∧ s.2 < (N : Int)) {k : Nat} (hk : k < l.length) {X : Vs} (h : ShpG (cdom N) X) : UpG .gr (cdom N) X (nameX l k X) ∧ ((l.getD k (false, 0)).1 = false → bit (nameX l k X) .b (l.getD k (false, 0)).2.toNat = true) := by
  have hm : l.getD k (false, 0) ∈ l := by simp [List.getD, hk]
  unfold nameX
  cases hb : (l.getD k (false, 0)).1 with
  | true => exact ⟨by simpa using UpG.refl h, fun h => by cases h⟩
  | false =>
    have := hin _ hm hb
    simp only [Bool.false_eq_true, if_false]
    obtain ⟨p1, p2⟩ := putG_up (gr := Iv.gr) (dom := cdom N) (i := .b) (n := N) (m := (l.getD k (false, 0)).2.toNat) rfl h rfl (by omega) (by simp)
    exact ⟨p1, fun _ => p2⟩

theorem comes_up (hf : Fine T N R) {r : Ru} (hr : r ∈ R) {X : Vs} (h : ShpG (cdom N) X) : UpG .gr (cdom N) X (comesX r X) ∧
    (bit (comesX r X) .gr 0 = false → bit X .b r.1.toNat = true → allB (X .a) r.2 = true → ∀ n : Int, (false, n) ∈ r.2 → bit X .b n.toNat = true) := by
  unfold comesX
  cases hb : (bit X .b r.1.toNat && allB (X .a) r.2) with
  | true =>
    simp only [if_true]
    obtain ⟨u1, u2⟩ := loopG_up (gr := Iv.gr) (dom := cdom N) (n := r.2.length) (f := nameX r.2) (fun k hk Y hY => (nameX_up (hf.name r hr) hk hY).1) h
    refine ⟨u1, fun hz _ _ n hn => ?_⟩
    obtain ⟨k, hk, he⟩ := List.getElem_of_mem hn
    have hz1 := u2 hz k hk
    obtain ⟨v1, v2⟩ := nameX_up (hf.name r hr) hk h
    have e : r.2.getD k (false, 0) = (false, n) := by simp [List.getD, hk, he]
    rw [e] at v2
    have := v2 rfl
    rwa [v1.still hz1] at this
  | false =>
    refine ⟨by simpa using UpG.refl h, fun _ h1 h2 => ?_⟩
    rw [h1, h2] at hb
    cases hb

theorem comes_snd (hf : Fine T N R) {r : Ru} (hr : r ∈ R) {X : Vs} (h : ShpG (cdom N) X) (hs : SndG (cdom N) (ZC N R) X) : SndG (cdom N) (ZC N R) (comesX r X) := by
  have hL := hf.left r hr
  unfold comesX
  cases hb : (bit X .b r.1.toNat && allB (X .a) r.2) with
  | true =>
    simp only [if_true]
    simp only [Bool.and_eq_true] at hb
    have hc : ComesP N R r.1 := by
      have : ComesP N R (r.1.toNat : Nat) := hs .b N r.1.toNat rfl (by omega) hb.1
      rwa [toNat_of hL.1] at this
    have ha : AllM (MakesP N R) r.2 := fun s hsr hsb => by
      have hn := hf.name r hr s hsr hsb
      have := (allB_iff (fun s hs hb => (hf.name r hr s hs hb).1)).1 hb.2 s hsr hsb
      have : MakesP N R (s.2.toNat : Nat) := hs .a N s.2.toNat rfl (by omega) this.2
      rwa [toNat_of hn.1] at this
    refine loopG_snd (gr := Iv.gr) (fun k hk Y hY => (nameX_up (hf.name r hr) hk hY).1) (fun k hk Y hY hsY => ?_) h hs
    have hm : r.2.getD k (false, 0) ∈ r.2 := by simp [List.getD, hk]
    unfold nameX
    obtain ⟨⟨x, v⟩, hx⟩ : ∃ x, r.2.getD k (false, 0) = x := ⟨_, rfl⟩
    rw [hx] at hm ⊢
    cases x with
    | true => simpa using hsY
    | false =>
      have hn := hf.name r hr _ hm rfl
      simp only [Bool.false_eq_true, if_false]
      simp only at hn
      refine putG_snd (gr := Iv.gr) (i := .b) (n := N) rfl (fun _ => trivial) hY rfl (by omega) hsY ?_
      show ComesP N R _
      rw [toNat_of hn.1]
      exact Lv_closed (ComesF_mono hf _) _ (.inr ⟨r, hr, hm, ha, hc⟩)
  | false => simpa using hs

theorem comes_least (hf : Fine T N R) {X0 X : Vs} (h0 : ∀ n, MakesP N R n → hasB (X0 .a) n) (h1 : MakesP N R 0 → bit X0 .b 0 = true) (h : HeadG .gr (cdom N) (ZC N R) X0 R comesX X) (hg : bit X .gr 0 = false) : ∀ n, hasB (X .b) n ↔ ComesP N R n := by
  have hl := h.shp .b N rfl
  have hA : ∀ n, MakesP N R n → hasB (X .a) n := fun n hn => ⟨(h0 n hn).1, h.up .a _ (by simp) (h0 n hn).2⟩
  refine fun n => ⟨fun hn => ?_, fun hn => ?_⟩
  · have hb : bit X .b n.toNat = true := hn.2
    have : ComesP N R (n.toNat : Nat) := h.snd .b N n.toNat rfl (by have := bit_lt hb; omega) hb
    rwa [toNat_of hn.1] at this
  · refine Lv_least (ComesF_up R (MakesP N R)) (A := hasB (X .b)) (fun n hn => ?_) N n hn
    rcases hn with ⟨rfl, hm⟩ | ⟨r, hr, hmem, ha, hc⟩
    · exact ⟨Int.le_refl _, h.up .b 0 (by simp) (h1 hm)⟩
    · obtain ⟨q, hq, rfl⟩ := getD_of_mem hr
      exact ⟨(hf.name _ hr _ hmem rfl).1, (comes_up hf hr h.shp).2 (h.held hg q hq) hc.2 ((allB_iff (fun s hs hb => (hf.name _ hr s hs hb).1)).2 (ha.mono hA)) n hmem⟩

/-! ### Left -/

def ZL (N : Nat) (R : List Ru) : Iv → Nat → Prop
  | .a, m => NullP N R m
  | .r n, m => WayP N R n m
  | _, _ => True

theorem beg_up {L : Nat} (hL : L < N) : ∀ (l : List Sy), (∀ s ∈ l, s.1 = false → 0 ≤ s.2 ∧ s.2 < (N : Int)) → ∀ X : Vs, ShpG (ldom N) X → UpG .gr (ldom N) X (begX N L l X) ∧
    (bit (begX N L l X) .gr 0 = false → ∀ (k : Nat) (b : Int), l[k]? = some (false, b) → AllN (hasB (X .a)) (l.take k) → bit X (.r L) b.toNat = true ∧ ∀ m, m < N → bit X (.r b.toNat) m = true → bit X (.r L) m = true) := by
  have hdL : ldom N (.r L) = some N := by simp [ldom, hL]
  intro l
  induction l with
  | nil => intro _ X h; exact ⟨UpG.refl h, fun _ k b hk => by simp at hk⟩
  | cons s l ih =>
    intro hin X h
    obtain ⟨x, v⟩ := s
    cases x with
    | true =>
      have e : begX N L ((true, v) :: l) X = X := by simp [begX]
      rw [e]
      refine ⟨UpG.refl h, fun _ k b hk ha => ?_⟩
      cases k with
      | zero => simp at hk
      | succ k => have := (ha (true, v) (by simp)).1; cases this
    | false =>
      have hv := hin (false, v) (by simp) rfl
      simp only at hv
      obtain ⟨p1, p2⟩ := putG_up (gr := Iv.gr) (dom := ldom N) (i := .r L) (n := N) (m := v.toNat) rfl h hdL (by omega) (by simp)
      obtain ⟨a1, a2⟩ := putAllG_up (gr := Iv.gr) (dom := ldom N) (i := .r L) (j := .r v.toNat) (n := N) (nj := N) rfl p1.shp hdL (Nat.le_refl _) (by simp)
      have base : bit (putAllG .gr (.r L) (.r v.toNat) N (putG .gr X (.r L) v.toNat)) .gr 0 = false → putAllG .gr (.r L) (.r v.toNat) N (putG .gr X (.r L) v.toNat) = X ∧ bit X (.r L) v.toNat = true ∧ ∀ m, m < N → bit X (.r v.toNat) m = true → bit X (.r L) m = true := fun hz => by
        have e1 := a1.still hz
        rw [e1] at hz a2
        have e2 := p1.still hz
        rw [e2] at p2 a2
        exact ⟨e1.trans e2, p2, a2⟩
      cases hb : bit (putAllG .gr (.r L) (.r v.toNat) N (putG .gr X (.r L) v.toNat)) .a v.toNat with
      | true =>
        have e : begX N L ((false, v) :: l) X = begX N L l (putAllG .gr (.r L) (.r v.toNat) N (putG .gr X (.r L) v.toNat)) := by simp [begX, hb]
        rw [e]
        obtain ⟨u1, u2⟩ := ih (fun s hs => hin s (by simp [hs])) _ a1.shp
        refine ⟨(p1.trans a1).trans u1, fun hz k b hk ha => ?_⟩
        have e1 := u1.still hz
        have hz1 : bit (putAllG .gr (.r L) (.r v.toNat) N (putG .gr X (.r L) v.toNat)) .gr 0 = false := by rw [← e1]; exact hz
        obtain ⟨b1, b2, b3⟩ := base hz1
        cases k with
        | zero =>
          simp at hk
          subst hk
          exact ⟨b2, b3⟩
        | succ k =>
          have := u2 hz k b (by simpa using hk)
          rw [b1] at this
          exact this fun y hy => ha y (by simp [hy])
      | false =>
        have e : begX N L ((false, v) :: l) X = putAllG .gr (.r L) (.r v.toNat) N (putG .gr X (.r L) v.toNat) := by simp [begX, hb]
        rw [e]
        refine ⟨p1.trans a1, fun hz k b hk ha => ?_⟩
        obtain ⟨b1, b2, b3⟩ := base hz
        cases k with
        | zero =>
          simp at hk
          subst hk
          exact ⟨b2, b3⟩
        | succ k =>
          have := (ha (false, v) (by simp)).2.2
          simp only at this
          rw [b1] at hb
          unfold bit at hb
          rw [hb] at this
          cases this

theorem beg_snd (hf : Fine T N R) {r : Ru} (hr : r ∈ R) : ∀ (l : List Sy) (q : Nat), r.2.drop q = l → AllN (NullP N R) (r.2.take q) → ∀ X : Vs, ShpG (ldom N) X → SndG (ldom N) (ZL N R) X → SndG (ldom N) (ZL N R) (begX N r.1.toNat l X) := by
  have hL := hf.left r hr
  have hdL : ldom N (.r r.1.toNat) = some N := by simp [ldom]; omega
  intro l
  induction l with
  | nil => intro q _ _ X _ hs; exact hs
  | cons s l ih =>
    intro q hq hn X h hs
    have hq' : r.2[q]? = some s := by
      have := congrArg (fun l => l[0]?) hq
      simpa using this
    have hmem : s ∈ r.2 := List.mem_of_getElem? hq'
    obtain ⟨x, v⟩ := s
    cases x with
    | true =>
      have e : begX N r.1.toNat ((true, v) :: l) X = X := by simp [begX]
      rw [e]
      exact hs
    | false =>
      have hv := hf.name r hr _ hmem rfl
      simp only at hv
      have hhead : HeadD R (NullP N R) r.1 v := ⟨r, hr, rfl, q, hq', hn⟩
      have p1 := (putG_up (gr := Iv.gr) (dom := ldom N) (i := .r r.1.toNat) (n := N) (m := v.toNat) rfl h hdL (by omega) (by simp)).1
      have p2 : SndG (ldom N) (ZL N R) (putG .gr X (.r r.1.toNat) v.toNat) := putG_snd (gr := Iv.gr) (i := .r r.1.toNat) (n := N) rfl (fun _ => trivial) h hdL (by omega) hs (by
        show WayP N R _ _
        rw [toNat_of hL.1, toNat_of hv.1]
        exact way_step hf hhead)
      have a1 := (putAllG_up (gr := Iv.gr) (dom := ldom N) (i := .r r.1.toNat) (j := .r v.toNat) (n := N) (nj := N) rfl p1.shp hdL (Nat.le_refl _) (by simp)).1
      have a2 : SndG (ldom N) (ZL N R) (putAllG .gr (.r r.1.toNat) (.r v.toNat) N (putG .gr X (.r r.1.toNat) v.toNat)) := putAllG_snd (gr := Iv.gr) (kj := N) rfl (fun _ => trivial) p1.shp hdL (Nat.le_refl _) (by simp) (by simp [ldom]; omega) (Nat.le_refl _) p2 (fun m _ hz => by
        have hz' : WayP N R (v.toNat : Nat) m := hz
        rw [toNat_of hv.1] at hz'
        show WayP N R _ _
        rw [toNat_of hL.1]
        exact way_trans hf hhead hz')
      cases hb : bit (putAllG .gr (.r r.1.toNat) (.r v.toNat) N (putG .gr X (.r r.1.toNat) v.toNat)) .a v.toNat with
      | true =>
        have e : begX N r.1.toNat ((false, v) :: l) X = begX N r.1.toNat l (putAllG .gr (.r r.1.toNat) (.r v.toNat) N (putG .gr X (.r r.1.toNat) v.toNat)) := by simp [begX, hb]
        rw [e]
        have hnv : NullP N R v := by
          have : NullP N R (v.toNat : Nat) := a2 .a N v.toNat rfl (by omega) hb
          rwa [toNat_of hv.1] at this
        refine ih (q + 1) ?_ ?_ _ a1.shp a2
        · rw [← List.drop_drop, hq]; rfl
        · have hql : q < r.2.length := (List.getElem?_eq_some_iff.1 hq').1
          rw [List.take_succ_eq_append_getElem hql]
          intro y hy
          rcases List.mem_append.1 hy with hy | hy
          · exact hn y hy
          · have e2 : r.2[q] = (false, v) := (List.getElem?_eq_some_iff.1 hq').2
            rw [e2] at hy
            simp only [List.mem_singleton] at hy
            subst hy
            exact ⟨rfl, hnv⟩
      | false =>
        have e : begX N r.1.toNat ((false, v) :: l) X = putAllG .gr (.r r.1.toNat) (.r v.toNat) N (putG .gr X (.r r.1.toNat) v.toNat) := by simp [begX, hb]
        rw [e]
        exact a2

theorem begins_up (hf : Fine T N R) {r : Ru} (hr : r ∈ R) {X : Vs} (h : ShpG (ldom N) X) : UpG .gr (ldom N) X (beginsX N r X) := (beg_up (by have := hf.left r hr; omega) r.2 (hf.name r hr) X h).1
theorem begins_snd (hf : Fine T N R) {r : Ru} (hr : r ∈ R) {X : Vs} (h : ShpG (ldom N) X) (hs : SndG (ldom N) (ZL N R) X) : SndG (ldom N) (ZL N R) (beginsX N r X) := beg_snd hf hr r.2 0 rfl (fun _ hs => by simp at hs) X h hs

theorem begins_least (hf : Fine T N R) {X0 X : Vs} (h0 : ∀ n, NullP N R n → hasB (X0 .a) n) (h : HeadG .gr (ldom N) (ZL N R) X0 R (beginsX N) X) (hg : bit X .gr 0 = false) : ∀ n m : Nat, n < N → (bit X (.r n) m = true ↔ WayP N R n m) := by
  have hA : ∀ n, NullP N R n → hasB (X .a) n := fun n hn => ⟨(h0 n hn).1, h.up .a _ (by simp) (h0 n hn).2⟩
  have hd : ∀ n, n < N → ldom N (.r n) = some N := fun n hn => by simp [ldom, hn]
  have key : ∀ a b, HeadD R (NullP N R) a b → 0 ≤ a ∧ a < (N : Int) ∧ 0 ≤ b ∧ b < (N : Int) ∧ bit X (.r a.toNat) b.toNat = true ∧ ∀ m, m < N → bit X (.r b.toNat) m = true → bit X (.r a.toNat) m = true := fun a b hab => by
    have hbd := HeadD_bound hf hab
    obtain ⟨r, hr, rfl, k, hk, hn⟩ := hab
    obtain ⟨q, hq, rfl⟩ := getD_of_mem hr
    have hL := hf.left _ hr
    have := (beg_up (L := (R.getD q (0, [])).1.toNat) (by omega) _ (hf.name _ hr) X h.shp).2 (h.held hg q hq) k b hk (hn.mono hA)
    exact ⟨hbd.1.1, hbd.1.2, hbd.2.1, hbd.2.2, this.1, this.2⟩
  refine fun n m hn => ⟨fun hb => ?_, fun hw => ?_⟩
  · have hl := h.shp _ _ (hd n hn)
    exact h.snd (.r n) N m (hd n hn) (by have := bit_lt hb; omega) hb
  · have := way_least (Nu := NullP N R) (X := fun a b => 0 ≤ a ∧ 0 ≤ b ∧ b < (N : Int) ∧ bit X (.r a.toNat) b.toNat = true) (fun a b hab => by
        obtain ⟨k1, _, k2, k3, k4, _⟩ := key a b hab
        exact ⟨k1, k2, k3, k4⟩) (fun a c b hac ⟨h1, h2, h3, h4⟩ => by
        obtain ⟨k1, _, _, _, _, k5⟩ := key a c hac
        exact ⟨k1, h2, h3, k5 b.toNat (by omega) h4⟩) N n m hw
    simpa using this.2.2.2

end

end Go.Proofs.Ytlfjnljidehljaa
