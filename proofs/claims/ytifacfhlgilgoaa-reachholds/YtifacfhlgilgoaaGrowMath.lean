/- Plain: rows that only grow, rule by rule, until they are still. No program. -/
import Derived.Test.YtifacfhlgilgoaaLfp
import Derived.Test.YtifacfhlgilgoaaGrowPut
namespace Go.Proofs.Ytifacfhlgilgoaa

section
variable {ι : Type}

def ShpG (dom : ι → Option Nat) (X : ι → List Bool) : Prop := ∀ i n, dom i = some n → (X i).length = n

/-- No row has lost anything; where the mark is not set nothing has turned. -/
structure UpG (gr : ι) (dom : ι → Option Nat) (X Y : ι → List Bool) : Prop where
  shp : ShpG dom Y
  up : ∀ i m, bit X i m = true → bit Y i m = true
  still : bit Y gr 0 = false → Y = X
  grew : bit X gr 0 = false → bit Y gr 0 = true → ∃ i m n, i ≠ gr ∧ dom i = some n ∧ m < n ∧ bit X i m = false ∧ bit Y i m = true

/-- Nothing is there without a reason. -/
def SndG (dom : ι → Option Nat) (Z : ι → Nat → Prop) (X : ι → List Bool) : Prop := ∀ i n m, dom i = some n → m < n → bit X i m = true → Z i m

variable {gr : ι} {dom : ι → Option Nat} {Z : ι → Nat → Prop}

theorem UpG.refl {X : ι → List Bool} (h : ShpG dom X) : UpG gr dom X X := ⟨h, fun _ _ h => h, fun _ => rfl, fun h1 h2 => by rw [h1] at h2; cases h2⟩
theorem UpG.trans {X Y W : ι → List Bool} (h : UpG gr dom X Y) (k : UpG gr dom Y W) : UpG gr dom X W :=
  ⟨k.shp, fun i m hm => k.up i m (h.up i m hm), fun hz => by
    have e := k.still hz
    rw [e] at hz ⊢
    exact h.still hz, fun h1 h2 => by
    cases hy : bit Y gr 0 with
    | true =>
      obtain ⟨i, m, n, a1, a2, a3, a4, a5⟩ := h.grew h1 hy
      exact ⟨i, m, n, a1, a2, a3, a4, k.up i m a5⟩
    | false =>
      obtain ⟨i, m, n, a1, a2, a3, a4, a5⟩ := k.grew hy h2
      rw [h.still hy] at a4
      exact ⟨i, m, n, a1, a2, a3, a4, a5⟩⟩

variable [DecidableEq ι]

theorem putG_up (hgr : dom gr = some 1) {X : ι → List Bool} {i : ι} {n m : Nat} (h : ShpG dom X) (hd : dom i = some n) (hm : m < n) (hi : i ≠ gr) : UpG gr dom X (putG gr X i m) ∧ bit (putG gr X i m) i m = true := by
  have hl := h i n hd
  have hg := h gr 1 hgr
  cases hb : bit X i m with
  | true =>
    have e : putG gr X i m = X := by simp [putG, hb]
    rw [e]
    exact ⟨UpG.refl h, hb⟩
  | false =>
    have e : putG gr X i m = setX (setX X i m true) gr 0 true := by simp [putG, hb]
    rw [e]
    have hg' : 0 < (setX X i m true gr).length := by rw [len_set]; omega
    refine ⟨⟨fun j k hj => ?_, fun j q hq => ?_, fun hz => ?_, fun _ _ => ?_⟩, ?_⟩
    · rw [len_set, len_set]; exact h j k hj
    · rw [bit_set hg', bit_set (by omega)]
      split
      · rfl
      · split
        · rfl
        · exact hq
    · rw [bit_set hg'] at hz
      simp at hz
    · refine ⟨i, m, n, hi, hd, hm, hb, ?_⟩
      rw [bit_set hg', bit_set (by omega)]
      simp
    · rw [bit_set hg', bit_set (by omega)]
      simp

theorem putG_snd (hgr : dom gr = some 1) (hZ : ∀ m, Z gr m) {X : ι → List Bool} {i : ι} {n m : Nat} (h : ShpG dom X) (hd : dom i = some n) (hm : m < n) (hs : SndG dom Z X) (hz : Z i m) : SndG dom Z (putG gr X i m) := by
  have hl := h i n hd
  have hg := h gr 1 hgr
  cases hb : bit X i m with
  | true =>
    have e : putG gr X i m = X := by simp [putG, hb]
    rw [e]; exact hs
  | false =>
    have e : putG gr X i m = setX (setX X i m true) gr 0 true := by simp [putG, hb]
    rw [e]
    have hg' : 0 < (setX X i m true gr).length := by rw [len_set]; omega
    intro j k q hj hq hbq
    rw [bit_set hg', bit_set (by omega)] at hbq
    by_cases c1 : j = gr ∧ q = 0
    · rw [c1.1]; exact hZ q
    · rw [if_neg c1] at hbq
      by_cases c2 : j = i ∧ q = m
      · rw [c2.1, c2.2]; exact hz
      · rw [if_neg c2] at hbq
        exact hs j k q hj hq hbq

omit [DecidableEq ι] in
/-- A loop of steps that only grow: where the mark is not set, each step has left all as it was. -/
theorem loopG_up {n : Nat} {f : Nat → (ι → List Bool) → ι → List Bool} (hf : ∀ k, k < n → ∀ Y, ShpG dom Y → UpG gr dom Y (f k Y)) {X : ι → List Bool} (h : ShpG dom X) : UpG gr dom X (loopN n f X) ∧
    (bit (loopN n f X) gr 0 = false → ∀ k, k < n → bit (f k X) gr 0 = false) := by
  induction n with
  | zero => exact ⟨UpG.refl h, fun _ k hk => absurd hk (Nat.not_lt_zero _)⟩
  | succ n ih =>
    obtain ⟨h1, h2⟩ := ih fun k hk => hf k (by omega)
    have h3 := hf n (by omega) _ h1.shp
    refine ⟨h1.trans h3, fun hz k hk => ?_⟩
    have hz' : bit (f n (loopN n f X)) gr 0 = false := hz
    have e1 := h3.still hz'
    have hz1 : bit (loopN n f X) gr 0 = false := by rw [← e1]; exact hz'
    rcases Nat.lt_succ_iff_lt_or_eq.1 hk with hk | rfl
    · exact h2 hz1 k hk
    · rw [h1.still hz1] at hz'
      exact hz'

omit [DecidableEq ι] in
theorem loopG_snd {n : Nat} {f : Nat → (ι → List Bool) → ι → List Bool} (hf : ∀ k, k < n → ∀ Y, ShpG dom Y → UpG gr dom Y (f k Y)) (hg : ∀ k, k < n → ∀ Y, ShpG dom Y → SndG dom Z Y → SndG dom Z (f k Y)) {X : ι → List Bool} (h : ShpG dom X) (hs : SndG dom Z X) : SndG dom Z (loopN n f X) := by
  induction n with
  | zero => exact hs
  | succ n ih =>
    have h1 := (loopG_up (n := n) (f := f) (fun k hk => hf k (by omega)) h).1
    exact hg n (by omega) _ h1.shp (ih (fun k hk => hf k (by omega)) fun k hk => hg k (by omega))

/-- What holds of the rows at the head of UntilStill's loop. -/
structure HeadG (gr : ι) (dom : ι → Option Nat) (Z : ι → Nat → Prop) (X0 : ι → List Bool) (R : List Ru) (f : Ru → (ι → List Bool) → ι → List Bool) (X : ι → List Bool) : Prop where
  shp : ShpG dom X
  snd : SndG dom Z X
  up : ∀ i m, i ≠ gr → bit X0 i m = true → bit X i m = true
  held : bit X gr 0 = false → ∀ q, q < R.length → bit (f (R.getD q (0, [])) X) gr 0 = false

/-- How many rounds may still come: ixs has all that may yet be put. -/
def togoG (gr : ι) (ixs : List (ι × Nat)) (X : ι → List Bool) : Nat := 2 * (ixs.filter fun p => !bit X p.1 p.2).length + if bit X gr 0 then 1 else 0

theorem HeadG.next {X0 : ι → List Bool} {R : List Ru} {f : Ru → (ι → List Bool) → ι → List Bool} {ixs : List (ι × Nat)} (hgr : dom gr = some 1) (hin : ∀ i n m, i ≠ gr → dom i = some n → m < n → (i, m) ∈ ixs) (hno : ∀ p ∈ ixs, p.1 ≠ gr) (hZ : ∀ m, Z gr m)
    (hf : ∀ q, q < R.length → ∀ Y, ShpG dom Y → UpG gr dom Y (f (R.getD q (0, [])) Y)) (hs : ∀ q, q < R.length → ∀ Y, ShpG dom Y → SndG dom Z Y → SndG dom Z (f (R.getD q (0, [])) Y))
    (X : ι → List Bool) (h : HeadG gr dom Z X0 R f X) (hg : bit X gr 0 = true) :
    HeadG gr dom Z X0 R f (roundG R f R.length (setX X gr 0 false)) ∧ togoG gr ixs (roundG R f R.length (setX X gr 0 false)) < togoG gr ixs X := by
  have hl := h.shp gr 1 hgr
  have s1 : ShpG dom (setX X gr 0 false) := fun i n hd => by rw [len_set]; exact h.shp i n hd
  have n1 : SndG dom Z (setX X gr 0 false) := fun i n m hd hm hb => by
    rw [bit_set (by omega)] at hb
    by_cases c : i = gr ∧ m = 0
    · rw [c.1]; exact hZ m
    · rw [if_neg c] at hb; exact h.snd i n m hd hm hb
  have g1 : bit (setX X gr 0 false) gr 0 = false := by rw [bit_set (by omega)]; simp
  have f1 : ∀ i m, i ≠ gr → bit (setX X gr 0 false) i m = bit X i m := fun i m hi => by rw [bit_set (by omega), if_neg (fun e => hi e.1)]
  obtain ⟨u1, u2⟩ := loopG_up (n := R.length) (f := fun q => f (R.getD q (0, []))) hf s1
  have e0 : roundG R f R.length (setX X gr 0 false) = loopN R.length (fun q => f (R.getD q (0, []))) (setX X gr 0 false) := rfl
  rw [← e0] at u1 u2
  refine ⟨⟨u1.shp, loopG_snd hf hs s1 n1, fun i m hi hb => u1.up _ _ (by rw [f1 i m hi]; exact h.up i m hi hb), fun hz => ?_⟩, ?_⟩
  · rw [u1.still hz]; exact u2 hz
  · have e : (ixs.filter fun p => !bit (setX X gr 0 false) p.1 p.2) = ixs.filter fun p => !bit X p.1 p.2 := List.filter_congr fun p hp => by rw [f1 _ _ (hno p hp)]
    unfold togoG
    rw [hg]
    cases hz : bit (roundG R f R.length (setX X gr 0 false)) gr 0 with
    | true =>
      have : (ixs.filter fun p => !bit (roundG R f R.length (setX X gr 0 false)) p.1 p.2).length < (ixs.filter fun p => !bit (setX X gr 0 false) p.1 p.2).length := by
        obtain ⟨i, m, n, a1, a2, a3, a4, a5⟩ := u1.grew g1 hz
        refine (filter_lt _ _ (fun p hp => ?_) ixs).2 ⟨(i, m), hin i n m a1 a2 a3, by simp [a4], by simp [a5]⟩
        cases hb : bit (setX X gr 0 false) p.1 p.2 with
        | false => rfl
        | true => simp [u1.up _ _ hb] at hp
      rw [e] at this
      simp only [if_true]; omega
    | false => rw [u1.still hz, e]; simp only [if_true, Bool.false_eq_true, if_false]; omega

end

end Go.Proofs.Ytifacfhlgilgoaa
