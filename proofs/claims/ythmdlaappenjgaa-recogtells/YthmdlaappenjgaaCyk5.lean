/- What pollardingref5.Has has made out so far: plain, and in memory. No walk. -/
import Derived.Test.YthmdlaappenjgaaKnown5
import Derived.Test.YthmdlaappenjgaaLfp
namespace Go.Proofs.Ythmdlaappenjgaa
open Go.RowKit

abbrev Ks := Nat × Nat → List Bool
def kX (X : Ks) : Nat → Nat → List Bool := fun i j => X (i, j)

/-- All parts shorter than S, and those of S tokens that begin below F, are made out. -/
structure Cyk (R : List Ru) (tok : List Int) (N S F : Nat) (X : Ks) : Prop where
  len : ∀ i j, i ≤ tok.length → j ≤ tok.length → (X (i, j)).length = N
  sound : ∀ i j, i ≤ j → j ≤ tok.length → ∀ m : Nat, bit X (i, j) m = true → Der R m (part tok i j)
  comp : ∀ i j, i ≤ j → j ≤ tok.length → (j - i < S ∨ (j - i = S ∧ i < F)) → ∀ m, Der R m (part tok i j) → bit X (i, j) m.toNat = true

/-- How many names are not known to yield a part. -/
def miss (X : Ks) (p : Nat × Nat) : Nat := ((X p).filter fun v => !v).length

/-- A round over so many rules, at one part; z: something new was found. -/
structure Rd (R : List Ru) (tok : List Int) (N a b : Nat) (X : Ks) (k : Nat) (z : Bool) (Y : Ks) : Prop where
  oth : ∀ p, p ≠ (a, b) → Y p = X p
  len : (Y (a, b)).length = N
  sound : ∀ m : Nat, bit Y (a, b) m = true → Der R m (part tok a b)
  still : z = false → Y = X ∧ ∀ q, q < k → Rch (kOf (kX X)) tok b (R.getD q (0, [])).2 a b → bit X (a, b) (R.getD q (0, [])).1.toNat = true
  grew : z = true → miss Y (a, b) < miss X (a, b)

section
variable {T N S F : Nat} {R : List Ru} {tok : List Int} {X Y : Ks} {a b k : Nat} {z : Bool}

theorem filter_set {V : List Bool} {m : Nat} (hm : m < V.length) (h : V.getD m false = false) : ((V.set m true).filter fun v => !v).length < (V.filter fun v => !v).length := by
  induction V generalizing m with
  | nil => simp at hm
  | cons x V ih =>
    cases m with
    | zero =>
      have hx : x = false := by simpa using h
      subst hx
      simp
    | succ m =>
      have := ih (m := m) (by simpa using hm) (by simpa using h)
      simp only [List.set_cons_succ, List.filter_cons]
      split <;> simp <;> omega

theorem rd_start (h : Cyk R tok N S F X) (hab : a ≤ b) (hb : b ≤ tok.length) : Rd R tok N a b X 0 false X :=
  ⟨fun _ _ => rfl, h.len a b (by omega) hb, h.sound a b hab hb, fun _ => ⟨rfl, fun q hq => absurd hq (Nat.not_lt_zero _)⟩, fun h => by cases h⟩

theorem Rd.skip (h : Rd R tok N a b X k z Y) (hno : z = false → Rch (kOf (kX X)) tok b (R.getD k (0, [])).2 a b → bit X (a, b) (R.getD k (0, [])).1.toNat = true) : Rd R tok N a b X (k + 1) z Y :=
  ⟨h.oth, h.len, h.sound, fun hz => ⟨(h.still hz).1, fun q hq hr => by
    rcases Nat.lt_succ_iff_lt_or_eq.1 hq with hq | rfl
    · exact (h.still hz).2 q hq hr
    · exact hno hz hr⟩, h.grew⟩

theorem Rd.cyk (h : Rd R tok N a b X k z Y) (hc : Cyk R tok N S F X) (hS : b - a = S) (hF : a = F) : Cyk R tok N S F Y := by
  refine ⟨fun i j hi hj => ?_, fun i j h1 h2 m hm => ?_, fun i j h1 h2 h3 m hm => ?_⟩
  · by_cases e : (i, j) = (a, b)
    · rw [e]; exact h.len
    · rw [h.oth _ e]; exact hc.len i j hi hj
  · by_cases e : (i, j) = (a, b)
    · cases e; exact h.sound m hm
    · exact hc.sound i j h1 h2 m (by unfold bit at hm ⊢; rw [← h.oth _ e]; exact hm)
  · have e : (i, j) ≠ (a, b) := fun e => by cases e; omega
    have := hc.comp i j h1 h2 h3 m hm
    unfold bit at this ⊢
    rw [h.oth _ e]
    exact this

theorem Rd.put (h : Rd R tok N a b X k z Y) (hf : Fine T N R) (hc : Cyk R tok N S F Y) (hab : a ≤ b) (hb : b ≤ tok.length) (hk : k < R.length) (h0 : bit Y (a, b) (R.getD k (0, [])).1.toNat = false) (hr : Rch (kOf (kX Y)) tok b (R.getD k (0, [])).2 a b) :
    Rd R tok N a b X (k + 1) true (setX Y (a, b) (R.getD k (0, [])).1.toNat true) := by
  have hm : R.getD k (0, []) ∈ R := by simp [List.getD, hk]
  have hL := hf.left _ hm
  have hl : (R.getD k (0, [])).1.toNat < (Y (a, b)).length := by rw [h.len]; omega
  have cast : (((R.getD k (0, [])).1.toNat : Nat) : Int) = (R.getD k (0, [])).1 := by omega
  refine ⟨fun p hp => by rw [← h.oth p hp]; simp [setX, hp], by simp [setX, h.len], fun m hbm => ?_, (fun hz => by cases hz), fun _ => ?_⟩
  · rw [bit_set hl] at hbm
    by_cases e : (a, b) = (a, b) ∧ m = (R.getD k (0, [])).1.toNat
    · rw [e.2, cast]
      exact Der_step hm (Rch_sound hb (fun i j h1 h2 n hn => hc.sound i j h1 (by omega) n hn) (fun s hs hb' => (hf.name _ hm s hs hb').1) hab hr)
    · rw [if_neg e] at hbm
      exact h.sound m hbm
  · have h1 : miss (setX Y (a, b) (R.getD k (0, [])).1.toNat true) (a, b) < miss Y (a, b) := by
      unfold miss setX
      rw [if_pos rfl]
      exact filter_set hl h0
    cases z with
    | true => exact Nat.lt_trans h1 (h.grew rfl)
    | false => rw [(h.still rfl).1] at h1 ⊢; exact h1

/-- A part that is closed is made out. -/
theorem cyk_next (hc : Cyk R tok N S F X) (hS : F + S ≤ tok.length) (hcl : ∀ q, q < R.length → Rch (kOf (kX X)) tok (F + S) (R.getD q (0, [])).2 F (F + S) → bit X (F, F + S) (R.getD q (0, [])).1.toNat = true) : Cyk R tok N S (F + 1) X := by
  refine ⟨hc.len, hc.sound, fun i j h1 h2 h3 m hm => ?_⟩
  by_cases h : j - i < S ∨ (j - i = S ∧ i < F)
  · exact hc.comp i j h1 h2 h m hm
  · obtain ⟨rfl, rfl⟩ : i = F ∧ j = F + S := by omega
    refine cyk_complete (K := kOf (kX X)) h1 rfl hS (fun x y k1 k2 k3 k4 n hn => ?_) (fun r hr hR => ?_) m hm
    · exact hc.comp x y k2 (by omega) (by omega) n hn
    · obtain ⟨q, hq, rfl⟩ := List.getElem_of_mem hr
      have e : R.getD q (0, []) = R[q] := by simp [List.getD, hq]
      have := hcl q hq (by rw [e]; exact hR)
      rw [e] at this
      exact this

theorem cyk_size (hc : Cyk R tok N S F X) (hF : tok.length < F + S) : Cyk R tok N (S + 1) 0 X :=
  ⟨hc.len, hc.sound, fun i j h1 h2 h3 m hm => hc.comp i j h1 h2 (by omega) m hm⟩

theorem cyk_start (R : List Ru) (tok : List Int) (N : Nat) : Cyk R tok N 0 0 fun _ => List.replicate N false := by
  refine ⟨fun i j _ _ => by simp, fun i j _ _ m hm => ?_, fun i j _ _ h => by omega⟩
  have := bit_lt hm
  simp only [List.length_replicate] at this
  simp [bit, List.getD, this] at hm

theorem cyk_end (hc : Cyk R tok N (tok.length + 1) 0 X) : bit X (0, tok.length) 0 = true ↔ Der R 0 tok := by
  constructor
  · intro h
    have := hc.sound 0 tok.length (Nat.zero_le _) (Nat.le_refl _) 0 h
    rw [part_all] at this
    exact this
  · intro h
    exact hc.comp 0 tok.length (Nat.zero_le _) (Nat.le_refl _) (.inl (by omega)) 0 (by rw [part_all]; exact h)
end

/-! ### In memory -/

def KTab (kg n N : Nat) : Tab (Nat × Nat) := ⟨fun p => rvK kg n N p.1 p.2, fun p => if p.1 ≤ n ∧ p.2 ≤ n then some N else none⟩

structure KM (W : World) (kg n N : Nat) (X : Ks) (wr : World) : Prop where
  below : Below kg W wr
  size : kg ≤ wr.heap.size
  top : ∀ i, i ≤ n → wr.cell? ⟨kg, i, none⟩ = some (hv kg n i)
  head : ∀ i j, i ≤ n → j ≤ n → wr.cell? ⟨kg + 1 + i * (n + 2), j, none⟩ = some (rvK kg n N i j)
  bt : Bt wr kg (KTab kg n N) X

section
variable {W wr wq : World} {kg n N : Nat} {X : Ks}

theorem ktab_dom {i j : Nat} (hi : i ≤ n) (hj : j ≤ n) : (KTab kg n N).dom (i, j) = some N := by simp [KTab, hi, hj]

theorem km_of (h : Owns wr kg (Pk kg n N (n + 1) (n + 1))) (hb : Below kg W wr) (hs : kg ≤ wr.heap.size) : KM W kg n N (fun _ => List.replicate N false) wr := by
  refine ⟨hb, hs, fun i hi => ?_, fun i j hi hj => ?_, ?_⟩
  · have := (h.cell (i := .top) (g := kg) (n := n + 1) (cap := n + 1) (e := 36) (size := 1) (xs := topL kg n (n + 1)) rfl i (by omega)).1
    rw [this]
    simp [topL, show i < n + 1 by omega]
  · have := (h.cell (i := .head i) (g := kg + 1 + i * (n + 2)) (n := n + 1) (cap := n + 1) (e := 37) (size := 1) (xs := headL' kg n N (n + 1) (n + 1) i) (by simp [Pk, hv, show i < n + 1 by omega]) j (by omega)).1
    rw [this]
    simp [headL', show j < n + 1 by omega]
  · have key : ∀ p r, (KTab kg n N).P (fun _ => List.replicate N false) p = some r → Pk kg n N (n + 1) (n + 1) (.row p.1 p.2) = some r := fun p r hr => by
      obtain ⟨i, j⟩ := p
      simp only [Tab.P, KTab] at hr
      split at hr
      · rename_i hc
        simp only [Option.map_some, Option.some.injEq] at hr
        subst hr
        simp only [Pk]
        rw [if_pos ⟨by omega, hc.2, .inr (by omega)⟩]
      · cases hr
    refine ⟨fun p r hr => h.own _ _ (key p r hr), fun p q x y hpq hx hy g h1 h2 => h.apart _ _ _ _ (fun e => hpq ?_) (key p x hx) (key q y hy) g h1 h2⟩
    cases p
    cases q
    cases e
    rfl

theorem KM.known (h : KM W kg n N X wr) (hN : 0 < N) : KnownAt wr (.slice (some ⟨kg, 0, none⟩) (n + 1) (n + 1)) n N (kX X) := by
  refine ⟨⟨_, _, rfl⟩, fun i j hi hj => ⟨kg, 0, n + 1, kg + 1 + i * (n + 2), 0, n + 1, kg + 1 + i * (n + 2) + 1 + j, 0, N, rfl, ?_, ?_, fun m hm => ?_⟩⟩
  · rw [Nat.zero_add]; exact h.top i hi
  · rw [Nat.zero_add]; exact h.head i j hi hj
  · have _ := hN
    rw [Nat.zero_add]
    exact (Bt.cell h.bt (ktab_dom hi hj) rfl hm).1

theorem KM.step (h : KM W kg n N X wr) (hb : Below wr.heap.size wr wq) : KM W kg n N X wq :=
  ⟨h.below.trans (hb.mono h.size), Nat.le_trans h.size hb.size, fun i hi => (hb.cell (World.block_lt_of_cell? _ _ (h.top i hi))).trans (h.top i hi), fun i j hi hj => (hb.cell (World.block_lt_of_cell? _ _ (h.head i j hi hj))).trans (h.head i j hi hj), Bt.below h.bt hb⟩

theorem KM.set (h : KM W kg n N X wr) {i j : Nat} (hi : i ≤ n) (hj : j ≤ n) (m : Nat) : KM W kg n N (setX X (i, j) m true) (wr.setCell ⟨kg + 1 + i * (n + 2) + 1 + j, m, none⟩ (.bool true)) := by
  have hne : ∀ x, kg + 1 + x * (n + 2) ≠ kg + 1 + i * (n + 2) + 1 + j := fun x e => by
    rcases Nat.lt_or_ge x (i + 1) with hx | hx
    · have := Nat.mul_le_mul_right (n + 2) (show x ≤ i by omega)
      omega
    · have := Nat.mul_le_mul_right (n + 2) hx
      rw [Nat.add_mul] at this
      omega
  refine ⟨h.below.setCell (by simp only; omega) _, by simp [h.size], fun x hx => ?_, fun x y hx hy => ?_, Bt.set h.bt (ktab_dom hi hj) rfl m true⟩
  · exact (cell_set_other (.inl (by simp only; omega))).trans (h.top x hx)
  · exact (cell_set_other (.inl (hne x))).trans (h.head x y hx hy)
end

end Go.Proofs.Ythmdlaappenjgaa
