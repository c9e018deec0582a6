import Derived.Test.YtikjekfpgklbdaaStCopiesAndStCx
import Derived.Test.YtikjekfpgklbdaaMathAndOwns
import Derived.Test.YtikjekfpgklbdaaBitsAndStepMath
import Derived.Deep.RegionLaw
import Derived.Deep.RegionWith
import Derived.Deep.Cut
import Derived.Deep.CutRange
import Derived.Deep.DrawnRows
import Derived.Test.YtikjekfpgklbdaaConcRAndDerdMath
import Derived.Test.YtikjekfpgklbdaaStepTreeAndStSmall
/- slices.Concat of one, two and three rows of symbols. No walk. -/
namespace Go.Proofs.Ytikjekfpgklbdaa
open Go.RowKit

section
variable {w : World} {pb : Nat} {va vb vc : Value} {la lb lc : List Sy}

theorem cat3 (p0 : w.cell? ⟨pb, 0, none⟩ = some va) (p1 : w.cell? ⟨pb, 1, none⟩ = some vb) (p2 : w.cell? ⟨pb, 2, none⟩ = some vc) (ha : SymsAt w va la) (hb : SymsAt w vb lb) (hc : SymsAt w vc lc) (hs : la.length + lb.length + lc.length ≤ 100000) :
    Calls Try.prog 85 #[.slice (some ⟨pb, 0, none⟩) 3 3] w fun e w' => ∃ a d, e = .returned (.slice a (la.length + lb.length + lc.length) d) ∧ w'.ownsRow w.heap.size 52 2 (.slice a (la.length + lb.length + lc.length) d) (la.length + lb.length + lc.length) (flatY (la ++ lb ++ lc)) ∧ Below w.heap.size w w' := by
  have hN : totN [(va, la.length, flatY la), (vb, lb.length, flatY lb), (vc, lc.length, flatY lc)] = la.length + lb.length + lc.length := by simp [totN]; omega
  have hX : totX [(va, la.length, flatY la), (vb, lb.length, flatY lb), (vc, lc.length, flatY lc)] = flatY (la ++ lb ++ lc) := by simp [totX, flatY_append]
  have cc := concat_ccY (w := w) (pb := pb) (PL := [(va, la.length, flatY la), (vb, lb.length, flatY lb), (vc, lc.length, flatY lc)]) (fun i hi => by
    match i, hi with
    | 0, _ => exact p0
    | 1, _ => exact p1
    | 2, _ => exact p2
    | i + 3, hi => exact absurd hi (by simp)) (fun p hp => by
    simp only [List.mem_cons, List.not_mem_nil, or_false] at hp
    rcases hp with rfl | rfl | rfl
    · exact ha.row
    · exact hb.row
    · exact hc.row) (by rw [hN]; exact hs) (by simp)
  rw [hN, hX] at cc
  exact cc
theorem cat2 (p0 : w.cell? ⟨pb, 0, none⟩ = some va) (p1 : w.cell? ⟨pb, 1, none⟩ = some vb) (ha : SymsAt w va la) (hb : SymsAt w vb lb) (hs : la.length + lb.length ≤ 100000) :
    Calls Try.prog 85 #[.slice (some ⟨pb, 0, none⟩) 2 2] w fun e w' => ∃ a d, e = .returned (.slice a (la.length + lb.length) d) ∧ w'.ownsRow w.heap.size 52 2 (.slice a (la.length + lb.length) d) (la.length + lb.length) (flatY (la ++ lb)) ∧ Below w.heap.size w w' := by
  have hN : totN [(va, la.length, flatY la), (vb, lb.length, flatY lb)] = la.length + lb.length := by simp [totN]
  have hX : totX [(va, la.length, flatY la), (vb, lb.length, flatY lb)] = flatY (la ++ lb) := by simp [totX, flatY_append]
  have cc := concat_ccY (w := w) (pb := pb) (PL := [(va, la.length, flatY la), (vb, lb.length, flatY lb)]) (fun i hi => by
    match i, hi with
    | 0, _ => exact p0
    | 1, _ => exact p1
    | i + 2, hi => exact absurd hi (by simp)) (fun p hp => by
    simp only [List.mem_cons, List.not_mem_nil, or_false] at hp
    rcases hp with rfl | rfl
    · exact ha.row
    · exact hb.row) (by rw [hN]; exact hs) (by simp)
  rw [hN, hX] at cc
  exact cc
theorem cat1 (p0 : w.cell? ⟨pb, 0, none⟩ = some va) (ha : SymsAt w va la) (hs : la.length ≤ 100000) :
    Calls Try.prog 85 #[.slice (some ⟨pb, 0, none⟩) 1 1] w fun e w' => ∃ a d, e = .returned (.slice a la.length d) ∧ w'.ownsRow w.heap.size 52 2 (.slice a la.length d) la.length (flatY la) ∧ Below w.heap.size w w' := by
  have hN : totN [(va, la.length, flatY la)] = la.length := by simp [totN]
  have hX : totX [(va, la.length, flatY la)] = flatY la := by simp [totX]
  have cc := concat_ccY (w := w) (pb := pb) (PL := [(va, la.length, flatY la)]) (fun i hi => by
    match i, hi with
    | 0, _ => exact p0
    | i + 1, hi => exact absurd hi (by simp)) (fun p hp => by
    simp only [List.mem_cons, List.not_mem_nil, or_false] at hp
    rcases hp with rfl
    exact ha.row) (by rw [hN]; exact hs) (by simp)
  rw [hN, hX] at cc
  exact cc
end

/-- A new symbol, as a row of one. -/
theorem sym_row {w : World} {t : Bool} {v : Int} : SymsAt (w.alloc (.cells #[.bool t, .int .i64 v] 52)) (.slice (some ⟨w.heap.size, 0, none⟩) 1 1) [(t, v)] := by
  have hb := heap_alloc_new w (.cells #[.bool t, .int .i64 v] 52)
  refine ⟨⟨_, _, rfl, Nat.le_refl _⟩, fun j hj => ?_⟩
  have : j = 0 := by simp at hj; omega
  subst this
  exact ⟨w.heap.size, 0, 1, rfl, cell_of_blk (i := 0) hb rfl, cell_of_blk (i := 1) hb rfl⟩

end Go.Proofs.Ytikjekfpgklbdaa

/- Rules that are cut and put together. No walk. -/
namespace Go.Proofs.Ytikjekfpgklbdaa
open Go.RowKit

/-- x[:f] of rules. -/
theorem ru_upto {g f sl lc : Nat} {fi : Int} (hf : fi = f) (hu : f ≤ lc) (w : World) : Sem.run Try.prog (Instr.sliceAt 22 (.slice (some ⟨g, 0, none⟩) sl lc) none (some (.int .i64 fi)) none) w = .ok (.slice (some ⟨g, 0, none⟩) f lc) w := by
  subst hf
  have h0 : (0 : Int) ≤ (f : Int) := Int.natCast_nonneg _
  have h1 : (f : Int) ≤ (lc : Int) := by omega
  go_simp
/-- x[f:] of rules. -/
theorem ru_from {la : Option Addr} {f n sl lc : Nat} {fi : Int} (hf : fi = f) (hs : sl = f + n) : ∃ A, (∀ w : World, Sem.run Try.prog (Instr.sliceAt 22 (.slice la sl lc) (some (.int .i64 fi)) none none) w = .ok (.slice A n (lc - f)) w) ∧ (lc ≠ f → A = la.map (·.add (f * 2))) := by
  subst hf
  have h0 : (0 : Int) ≤ (f : Int) := Int.natCast_nonneg _
  have h1 : (f : Int) ≤ (sl : Int) := by omega
  have h2 : sl - f = n := by omega
  refine ⟨if lc = f then la else la.map (·.add (f * 2)), fun w => ?_, fun h => by rw [if_neg h]⟩
  go_simp
  intro h
  omega

section
variable {w : World} {B : Nat} {e : TypeId} {v : Value} {n : Nat} {xs : List Value}
/-- A row of one's own can be read; so can what is ahead in it, and what is left. -/
theorem own_rowAt (h : w.ownsRow B e 2 v n xs) (h1 : ∀ u ∈ xs, u.oneCell' = true) : RowAt w v n xs := by
  have hh := h
  obtain ⟨hl, ⟨hv, h0⟩ | ⟨g, cap, cur, hv, hb, _, hle, _⟩⟩ := hh
  · exact ⟨⟨none, 0, by rw [hv, h0], by omega⟩, hl, h1, fun hm => by omega⟩
  · subst hv
    refine ⟨⟨_, _, rfl, hle⟩, hl, h1, fun _ => ⟨_, _, rfl, fun j u hu => ?_⟩⟩
    have hj := (List.getElem?_eq_some_iff.1 hu).1
    rw [Addr.add_lit, Nat.zero_add, h.cellAt j (by omega), hu]
theorem RowAt.take {f : Nat} {qa : Option Addr} {d : Nat} (h : RowAt w (.slice qa n d) n xs) (hf : f ≤ n) : RowAt w (.slice qa f d) f (xs.take (f * 2)) := by
  obtain ⟨⟨_, _, hv, hle⟩, hl, h1, hc⟩ := h
  cases hv
  refine ⟨⟨_, _, rfl, by omega⟩, by rw [List.length_take]; omega, fun u hu => h1 u (List.mem_of_mem_take hu), fun hm => ?_⟩
  obtain ⟨ad, c, hv, hcell⟩ := hc (by omega)
  cases hv
  refine ⟨_, _, rfl, fun j u hu => hcell j u ?_⟩
  rw [List.getElem?_take] at hu
  split at hu
  · exact hu
  · cases hu
theorem RowAt.drop {f m : Nat} {qa A : Option Addr} {d : Nat} (h : RowAt w (.slice qa n d) n xs) (hf : n = f + m) (hA : d ≠ f → A = qa.map (·.add (f * 2))) : RowAt w (.slice A m (d - f)) m (xs.drop (f * 2)) := by
  obtain ⟨⟨_, _, hv, hle⟩, hl, h1, hc⟩ := h
  cases hv
  refine ⟨⟨_, _, rfl, by omega⟩, by rw [List.length_drop]; omega, fun u hu => h1 u (List.mem_of_mem_drop hu), fun hm => ?_⟩
  obtain ⟨ad, c, hv, hcell⟩ := hc (by omega)
  cases hv
  have hA' := hA (by omega)
  simp only [Option.map_some] at hA'
  subst hA'
  refine ⟨_, _, rfl, fun j u hu => ?_⟩
  rw [List.getElem?_drop] at hu
  have := hcell _ _ hu
  rw [← this]
  congr 1
  unfold Addr.add
  by_cases h0 : f * 2 = 0
  · have : f = 0 := by omega
    subst this
    simp
  · by_cases h2 : j = 0
    · subst h2; simp
    · have h3 : ¬ (f * 2 + j = 0) := by omega
      simp only [h0, h2, h3, if_false]
      congr 1
      omega
end

theorem flatR_take (RL : List (Value × Ru)) (f : Nat) : (flatR RL).take (f * 2) = flatR (RL.take f) := by
  unfold flatR
  induction RL generalizing f with
  | nil => simp
  | cons a RL ih =>
    cases f with
    | zero => simp
    | succ f =>
      rw [List.flatMap_cons, List.take_succ_cons, List.flatMap_cons, ← ih f, show (f + 1) * 2 = f * 2 + 1 + 1 by omega]
      simp [ruV]
theorem flatR_drop (RL : List (Value × Ru)) (f : Nat) : (flatR RL).drop (f * 2) = flatR (RL.drop f) := by
  unfold flatR
  induction RL generalizing f with
  | nil => simp
  | cons a RL ih =>
    cases f with
    | zero => simp
    | succ f =>
      rw [List.flatMap_cons, List.drop_succ_cons, ← ih f, show (f + 1) * 2 = f * 2 + 1 + 1 by omega]
      simp [ruV]

section
variable {w w6 : World} {B n : Nat} {lv pv nv : Value} {RL PL RK : List (Value × Ru)}
theorem RlIn.rowAt (h : RlIn w B lv RL) : RowAt w lv RL.length (flatR RL) := own_rowAt h.own (flatR_one h.slices)
/-- Rules out of two lots, in a new row. -/
theorem RlIn.cat (h1 : RlIn w B lv RL) (h2 : RlIn w B pv PL) (hB : B ≤ w.heap.size) (hb : Below w.heap.size w w6) (ho : w6.ownsRow w.heap.size 44 2 nv RK.length (flatR RK)) (hm : ∀ x ∈ RK, x ∈ RL ∨ x ∈ PL) : RlIn w6 B nv RK := by
  refine ⟨own_mono ho hB, fun x hx => ?_⟩
  have hnv : ∀ b, b < w.heap.size → nv.ownBlock ≠ some b := fun b hlt e => by have := (ho.lt b e).1; omega
  rcases hm x hx with hx | hx
  · exact (h1.sym x hx).kept hb.size fun b hA hlt => ⟨hb.block b hlt, hA.1, hnv b hlt⟩
  · exact (h2.sym x hx).kept hb.size fun b hA hlt => ⟨hb.block b hlt, hA.1, hnv b hlt⟩
/-- slices.Concat of three rows of rules. -/
theorem catR3 {pb : Nat} {va vb vc : Value} {xa xb xc : List Value} {na nb nc : Nat} (p0 : w.cell? ⟨pb, 0, none⟩ = some va) (p1 : w.cell? ⟨pb, 1, none⟩ = some vb) (p2 : w.cell? ⟨pb, 2, none⟩ = some vc) (ha : RowAt w va na xa) (hb : RowAt w vb nb xb) (hc : RowAt w vc nc xc) (hs : na + nb + nc ≤ 100000) :
    Calls Try.prog 95 #[.slice (some ⟨pb, 0, none⟩) 3 3] w fun e w' => ∃ a d, e = .returned (.slice a (na + nb + nc) d) ∧ w'.ownsRow w.heap.size 44 2 (.slice a (na + nb + nc) d) (na + nb + nc) (xa ++ xb ++ xc) ∧ Below w.heap.size w w' := by
  have hN : totN [(va, na, xa), (vb, nb, xb), (vc, nc, xc)] = na + nb + nc := by simp [totN]; omega
  have hX : totX [(va, na, xa), (vb, nb, xb), (vc, nc, xc)] = xa ++ xb ++ xc := by simp [totX]
  have cc := concat_ccR (w := w) (pb := pb) (PL := [(va, na, xa), (vb, nb, xb), (vc, nc, xc)]) (fun i hi => by
    match i, hi with
    | 0, _ => exact p0
    | 1, _ => exact p1
    | 2, _ => exact p2
    | i + 3, hi => exact absurd hi (by simp)) (fun p hp => by
    simp only [List.mem_cons, List.not_mem_nil, or_false] at hp
    rcases hp with rfl | rfl | rfl
    · exact ha
    · exact hb
    · exact hc) (by rw [hN]; exact hs) (by simp)
  rw [hN, hX] at cc
  exact cc
end

end Go.Proofs.Ytikjekfpgklbdaa

/- Plain: the least set that an operator holds, by rounds. No program, no memory. -/
namespace Go.Proofs.Ytikjekfpgklbdaa
open Classical

/-- What so many rounds of an operator make. -/
def Lv (F : (Int → Prop) → Int → Prop) : Nat → Int → Prop
  | 0, _ => False
  | k + 1, n => F (Lv F k) n

/-- An operator that grows, on the numbers from 0 to below N. -/
structure Mono (N : Nat) (F : (Int → Prop) → Int → Prop) : Prop where
  mono : ∀ A B : Int → Prop, (∀ n, A n → B n) → ∀ n, F A n → F B n
  bound : ∀ A n, F A n → 0 ≤ n ∧ n < (N : Int)

theorem Lv_succ {N : Nat} {F : (Int → Prop) → Int → Prop} (h : Mono N F) : ∀ k n, Lv F k n → Lv F (k + 1) n := by
  intro k
  induction k with
  | zero => intro n hn; exact hn.elim
  | succ k ih => intro n hn; exact h.mono _ _ ih n hn

theorem Lv_le {N : Nat} {F : (Int → Prop) → Int → Prop} (h : Mono N F) {k m : Nat} (hkm : k ≤ m) : ∀ n, Lv F k n → Lv F m n := by
  induction hkm with
  | refl => intro n hn; exact hn
  | step _ ih => intro n hn; exact Lv_succ h _ n (ih n hn)

noncomputable def cnt (N : Nat) (A : Int → Prop) : Nat := ((List.range N).filter fun i => decide (A (i : Nat))).length

theorem cnt_le (N : Nat) (A : Int → Prop) : cnt N A ≤ N := by
  have := List.length_filter_le (fun i : Nat => decide (A i)) (List.range N)
  simpa [cnt] using this

theorem filter_lt {α : Type} (p q : α → Bool) (h : ∀ x, p x = true → q x = true) : ∀ (l : List α),
    (l.filter p).length ≤ (l.filter q).length ∧ ((∃ x ∈ l, q x = true ∧ p x = false) → (l.filter p).length < (l.filter q).length) := by
  intro l
  induction l with
  | nil => simp
  | cons a r ih =>
    obtain ⟨ih1, ih2⟩ := ih
    cases hp : p a with
    | true =>
      have hq := h a hp
      simp only [List.filter_cons, hp, hq, if_true, List.length_cons]
      refine ⟨by omega, ?_⟩
      rintro ⟨x, hx, h1, h2⟩
      have : x ∈ r := by
        rcases List.mem_cons.1 hx with rfl | hx
        · rw [hp] at h2; cases h2
        · exact hx
      have := ih2 ⟨x, this, h1, h2⟩
      omega
    | false =>
      cases hq : q a with
      | true =>
        simp only [List.filter_cons, hp, hq, if_true, List.length_cons, Bool.false_eq_true, if_false]
        exact ⟨by omega, fun _ => by omega⟩
      | false =>
        simp only [List.filter_cons, hp, hq, Bool.false_eq_true, if_false]
        refine ⟨ih1, ?_⟩
        rintro ⟨x, hx, h1, h2⟩
        have : x ∈ r := by
          rcases List.mem_cons.1 hx with rfl | hx
          · rw [hq] at h1; cases h1
          · exact hx
        exact ih2 ⟨x, this, h1, h2⟩

theorem cnt_lt {N : Nat} {A B : Int → Prop} (h : ∀ n, A n → B n) {n : Int} (h0 : 0 ≤ n) (h1 : n < (N : Int)) (hb : B n) (ha : ¬ A n) : cnt N A < cnt N B := by
  obtain ⟨k, rfl⟩ : ∃ k : Nat, n = k := ⟨n.toNat, by omega⟩
  refine (filter_lt (fun i : Nat => decide (A i)) (fun i : Nat => decide (B i)) (fun x hx => ?_) (List.range N)).2 ⟨k, List.mem_range.2 (by omega), ?_, ?_⟩
  · simp only [decide_eq_true_eq] at hx ⊢; exact h _ hx
  · simpa using hb
  · simpa using ha

/-- N rounds are enough. -/
theorem Lv_stop {N : Nat} {F : (Int → Prop) → Int → Prop} (h : Mono N F) : ∀ m n, Lv F m n → Lv F N n := by
  have ex : ∃ k, k ≤ N ∧ ∀ n, Lv F (k + 1) n → Lv F k n := by
    refine byContradiction fun hno => ?_
    have grow : ∀ k, k ≤ N + 1 → k ≤ cnt N (Lv F k) := by
      intro k
      induction k with
      | zero => intro _; exact Nat.zero_le _
      | succ k ih =>
        intro hk
        have h1 := ih (by omega)
        have h2 : ∃ n, Lv F (k + 1) n ∧ ¬ Lv F k n := by
          refine byContradiction fun hn => hno ⟨k, by omega, fun n hn' => byContradiction fun hc => hn ⟨n, hn', hc⟩⟩
        obtain ⟨n, h3, h4⟩ := h2
        have hb := h.bound _ n h3
        have := cnt_lt (Lv_succ h k) hb.1 hb.2 h3 h4
        omega
    have h1 := grow (N + 1) (Nat.le_refl _)
    have h2 := cnt_le N (Lv F (N + 1))
    omega
  obtain ⟨k, hk, hstop⟩ := ex
  have all : ∀ m n, Lv F m n → Lv F k n := by
    intro m
    induction m with
    | zero => intro n hn; exact hn.elim
    | succ m ih => intro n hn; exact hstop n (h.mono _ _ ih n hn)
  exact fun m n hn => Lv_le h hk n (all m n hn)

/-- What N rounds make is held. -/
theorem Lv_closed {N : Nat} {F : (Int → Prop) → Int → Prop} (h : Mono N F) : ∀ n, F (Lv F N) n → Lv F N n := fun n hn => Lv_stop h (N + 1) n hn

/-- .. and in whatever is held. -/
theorem Lv_least {F : (Int → Prop) → Int → Prop} (mono : ∀ A B : Int → Prop, (∀ n, A n → B n) → ∀ n, F A n → F B n) {A : Int → Prop} (hA : ∀ n, F A n → A n) : ∀ k n, Lv F k n → A n := by
  intro k
  induction k with
  | zero => intro n hn; exact hn.elim
  | succ k ih => intro n hn; exact hA n (mono _ _ ih n hn)

/-! ### Sets of grammars -/

/-- All symbols are names of A. -/
def AllN (A : Int → Prop) (l : List Sy) : Prop := ∀ s ∈ l, s.1 = false ∧ A s.2
/-- Symbols may begin with the term t, where names of A may, and those of Nu be nothing. -/
def Beg (Nu A : Int → Prop) (t : Int) (l : List Sy) : Prop := ∃ i s, l[i]? = some s ∧ ((s.1 = true ∧ s.2 = t) ∨ (s.1 = false ∧ A s.2)) ∧ AllN Nu (l.take i)
theorem AllN.mono {A B : Int → Prop} (h : ∀ n, A n → B n) {l : List Sy} (hl : AllN A l) : AllN B l := fun s hs => ⟨(hl s hs).1, h _ (hl s hs).2⟩
theorem Beg.mono {Nu A B : Int → Prop} {t : Int} (h : ∀ n, A n → B n) {l : List Sy} (hl : Beg Nu A t l) : Beg Nu B t l := by
  obtain ⟨i, s, h1, h2, h3⟩ := hl
  refine ⟨i, s, h1, ?_, h3⟩
  rcases h2 with h2 | ⟨h2, h4⟩
  · exact .inl h2
  · exact .inr ⟨h2, h _ h4⟩

/-- What A1 says of a rule's names. -/
structure Fine (T N : Nat) (R : List Ru) : Prop where
  left : ∀ r ∈ R, 0 ≤ r.1 ∧ r.1 < (N : Int)
  name : ∀ r ∈ R, ∀ s ∈ r.2, s.1 = false → 0 ≤ s.2 ∧ s.2 < (N : Int)
  term : ∀ r ∈ R, ∀ s ∈ r.2, s.1 = true → 0 ≤ s.2 ∧ s.2 < (T : Int)
  some : 1 ≤ N

section
variable {T N : Nat} {R : List Ru} (h : Fine T N R)
include h

end

end Go.Proofs.Ytikjekfpgklbdaa

/- Plain: C1's least sets: which names make, which come, which ones a name begins with. -/
namespace Go.Proofs.Ytikjekfpgklbdaa

/-- The table says so of the name n. -/
def hasB (X : List Bool) (n : Int) : Prop := 0 ≤ n ∧ X.getD n.toNat false = true
/-- All names among symbols are of A. -/
def AllM (A : Int → Prop) (l : List Sy) : Prop := ∀ s ∈ l, s.1 = false → A s.2
def MakesF (R : List Ru) (A : Int → Prop) (n : Int) : Prop := ∃ r ∈ R, r.1 = n ∧ AllM A r.2
def ComesF (R : List Ru) (M A : Int → Prop) (n : Int) : Prop := (n = 0 ∧ M 0) ∨ ∃ r ∈ R, (false, n) ∈ r.2 ∧ AllM M r.2 ∧ A r.1
def MakesP (N : Nat) (R : List Ru) : Int → Prop := Lv (MakesF R) N
def ComesP (N : Nat) (R : List Ru) : Int → Prop := Lv (ComesF R (MakesP N R)) N
theorem AllM.mono {A B : Int → Prop} (h : ∀ n, A n → B n) {l : List Sy} (hl : AllM A l) : AllM B l := fun s hs hb => h _ (hl s hs hb)

theorem MakesF_up (R : List Ru) (A B : Int → Prop) (h : ∀ n, A n → B n) (n : Int) (hn : MakesF R A n) : MakesF R B n := by
  obtain ⟨r, h1, h2, h3⟩ := hn
  exact ⟨r, h1, h2, h3.mono h⟩
theorem ComesF_up (R : List Ru) (M : Int → Prop) (A B : Int → Prop) (h : ∀ n, A n → B n) (n : Int) (hn : ComesF R M A n) : ComesF R M B n := by
  rcases hn with hn | ⟨r, h1, h2, h3, h4⟩
  · exact .inl hn
  · exact .inr ⟨r, h1, h2, h3, h _ h4⟩
section
variable {T N : Nat} {R : List Ru} (h : Fine T N R)
include h

theorem MakesF_mono : Mono N (MakesF R) := ⟨fun A B => MakesF_up R A B, fun A n hn => by obtain ⟨r, h1, rfl, _⟩ := hn; exact h.left r h1⟩
theorem ComesF_mono (M : Int → Prop) : Mono N (ComesF R M) := ⟨fun A B => ComesF_up R M A B, fun A n hn => by
  rcases hn with ⟨rfl, _⟩ | ⟨r, h1, h2, _⟩
  · have := h.some; omega
  · exact h.name r h1 _ h2 rfl⟩
end

theorem allB_iff {X : List Bool} {l : List Sy} (h : ∀ s ∈ l, s.1 = false → 0 ≤ s.2) : allB X l = true ↔ AllM (hasB X) l := by
  unfold allB AllM hasB
  rw [List.all_eq_true]
  constructor
  · intro hh s hs hb
    have := hh s hs
    rw [hb] at this
    exact ⟨h s hs hb, by simpa using this⟩
  · intro hh s hs
    cases hb : s.1 with
    | true => rfl
    | false => rw [(hh s hs hb).2]; rfl

theorem mem_getD {R : List Ru} {i : Nat} (hi : i < R.length) : R.getD i (0, []) ∈ R := by simp [List.getD, hi]
theorem getD_of_mem {R : List Ru} {r : Ru} (hr : r ∈ R) : ∃ i, i < R.length ∧ R.getD i (0, []) = r := by
  obtain ⟨i, hi, rfl⟩ := List.getElem_of_mem hr
  exact ⟨i, hi, by simp [List.getD, hi]⟩
theorem toNat_of {v : Int} (h : 0 ≤ v) : ((v.toNat : Nat) : Int) = v := by omega

end Go.Proofs.Ytikjekfpgklbdaa

/- The contract of pollardingref3.first. -/
namespace Go.Proofs.Ytikjekfpgklbdaa
open Go.RowKit

end Go.Proofs.Ytikjekfpgklbdaa

/- How sets lie in memory while they are made; what is made at first. No walk. -/
namespace Go.Proofs.Ytikjekfpgklbdaa
open Go.RowKit

section
variable {w : World} {base sb T N mf mg : Nat} {nv fv gv : Value} {vf vg : Nat → Value} {Nu : List Bool} {Fi Fo : List (List Bool)}

theorem Owns.make {ι : Type} [DecidableEq ι] {w : World} {base : Nat} {P : ι → Option Row} (h : Owns w base P) (i : ι) (n : Nat) (hb : base ≤ w.heap.size) (hn : n ≤ maxLen) :
    Owns (w.alloc (.cells (madeCells #[.bool false] n) 4)) base (upd P i ⟨.slice (some ⟨w.heap.size, 0, none⟩) n n, 4, 1, n, (List.replicate n false).map Value.bool⟩) := by
  refine h.new i (World.grownBy_alloc w _ none) ?_ (fun g hg => by simpa [Value.ownBlock] using hg.symm)
  have := World.ownsRow_lit (base := base) (e := 4) (size := 1) w (madeCells #[.bool false] n) n hb hn (by simp [size_madeCells])
  rw [toList_madeCells_one] at this
  simpa using this

end

end Go.Proofs.Ytikjekfpgklbdaa

/- How pollardingref2.Of's sets lie in memory while they grow; what it makes, as plain functions. No walk. -/
namespace Go.Proofs.Ytikjekfpgklbdaa
open Go.RowKit

section
variable {w : World} {base sb T N mf mg : Nat} {nv fv gv : Value} {vf vg : Nat → Value} {Nu : List Bool} {Fi Fo : List (List Bool)}

end

end Go.Proofs.Ytikjekfpgklbdaa

/- The contract of pollardingref2.Of, of a grammar that may be. -/
namespace Go.Proofs.Ytikjekfpgklbdaa
open Go.RowKit

end Go.Proofs.Ytikjekfpgklbdaa

/- Plain: what pollardingref2.Of makes are the least sets. -/
namespace Go.Proofs.Ytikjekfpgklbdaa

/-- The table says so of the name n. -/
def hasN (X : List Bool) (n : Int) : Prop := 0 ≤ n ∧ X.getD n.toNat false = true
theorem hasN_set {X : List Bool} {l : Nat} (hl : l < X.length) {n : Int} : hasN (X.set l true) n ↔ n = (l : Int) ∨ hasN X n := by
  unfold hasN
  constructor
  · rintro ⟨h0, h1⟩
    by_cases e : n.toNat = l
    · exact .inl (by omega)
    · right
      refine ⟨h0, ?_⟩
      rw [← h1]
      simp [List.getD, List.getElem?_set_ne (fun h => e h.symm)]
  · rintro (rfl | ⟨h0, h1⟩)
    · exact ⟨by omega, by simp [List.getD, hl]⟩
    · refine ⟨h0, ?_⟩
      by_cases e : n.toNat = l
      · subst e; simp [List.getD, hl]
      · rw [← h1]; simp [List.getD, List.getElem?_set_ne (fun h => e h.symm)]

section
variable {T N : Nat} {R : List Ru} (hf : Fine T N R)
include hf

/-- A table of N rows, each of w truths. -/
def Shape (N w : Nat) (F : List (List Bool)) : Prop := F.length = N ∧ ∀ n, n < N → (F.getD n []).length = w

omit hf in
theorem Shape.replicate (N w : Nat) : Shape N w (List.replicate N (List.replicate w false)) := by
  refine ⟨by simp, fun n hn => ?_⟩
  simp [List.getD, hn]

end

end Go.Proofs.Ytikjekfpgklbdaa

/- The contract of pollardingref3.Left. -/
namespace Go.Proofs.Ytikjekfpgklbdaa
open Go.RowKit

end Go.Proofs.Ytikjekfpgklbdaa

/- Plain: what pollardingref3's Makes, Comes and Left make are the least sets. -/
namespace Go.Proofs.Ytikjekfpgklbdaa

theorem hasB_set {X : List Bool} {l : Nat} (hl : l < X.length) {n : Int} : hasB (X.set l true) n ↔ n = (l : Int) ∨ hasB X n := hasN_set hl

theorem hasB_none {N : Nat} {n : Int} (hn : hasB (List.replicate N false) n) : False := by
  have := hn.2
  by_cases h : n.toNat < N
  · simp [List.getD, h] at this
  · simp [List.getD, List.getElem?_eq_none (show (List.replicate N false).length ≤ n.toNat by simp; omega)] at this

section
variable {T N : Nat} {R : List Ru} (hf : Fine T N R)
include hf

theorem rule_ge {i : Nat} (hi : i < R.length) : ∀ s ∈ (R.getD i (0, [])).2, s.1 = false → 0 ≤ s.2 := fun s hs h => (hf.name _ (mem_getD hi) s hs h).1

theorem makesA_iff : (makesA R N).length = N ∧ ∀ n, hasB (makesA R N) n ↔ MakesP N R n := by
  have hm := MakesF_mono hf
  have main := loopN_inv (n := N) (f := fun _ => loopN R.length (makesS R)) (x := List.replicate N false)
    (fun k X => X.length = N ∧ (∀ n, hasB X n → MakesP N R n) ∧ ∀ n, Lv (MakesF R) k n → hasB X n)
    ⟨by simp, fun n hn => (hasB_none hn).elim, fun n hn => hn.elim⟩
    (fun k _ X ⟨h1, h2, h3⟩ => by
      have inner := loopN_inv (n := R.length) (f := makesS R) (x := X)
        (fun i Y => Y.length = N ∧ (∀ n, hasB Y n → MakesP N R n) ∧ (∀ n, Lv (MakesF R) k n → hasB Y n) ∧ ∀ j, j < i → AllM (Lv (MakesF R) k) (R.getD j (0, [])).2 → hasB Y (R.getD j (0, [])).1)
        ⟨h1, h2, h3, fun j hj => absurd hj (Nat.not_lt_zero _)⟩
        (fun i hi Y ⟨y1, y2, y3, y4⟩ => by
          have hL := hf.left _ (mem_getD hi)
          have hl : (R.getD i (0, [])).1.toNat < Y.length := by omega
          have hcast := toNat_of hL.1
          unfold makesS
          cases hb : allB Y (R.getD i (0, [])).2 with
          | true =>
            simp only [if_true]
            have hall := (allB_iff (rule_ge hf hi)).1 hb
            refine ⟨by simp [y1], fun n hn => ?_, fun n hn => (hasB_set hl).2 (.inr (y3 n hn)), fun j hj ha => ?_⟩
            · rcases (hasB_set hl).1 hn with rfl | hn
              · rw [hcast]
                exact Lv_closed hm _ ⟨_, mem_getD hi, rfl, hall.mono y2⟩
              · exact y2 n hn
            · rcases Nat.lt_succ_iff_lt_or_eq.1 hj with hj | rfl
              · exact (hasB_set hl).2 (.inr (y4 j hj ha))
              · exact (hasB_set hl).2 (.inl hcast.symm)
          | false =>
            simp only [Bool.false_eq_true, if_false]
            refine ⟨y1, y2, y3, fun j hj ha => ?_⟩
            rcases Nat.lt_succ_iff_lt_or_eq.1 hj with hj | rfl
            · exact y4 j hj ha
            · rw [(allB_iff (rule_ge hf hi)).2 (ha.mono y3)] at hb; cases hb)
      obtain ⟨z1, z2, _, z4⟩ := inner
      refine ⟨z1, z2, fun n hn => ?_⟩
      obtain ⟨r, hr, rfl, ha⟩ := hn
      obtain ⟨j, hj, rfl⟩ := getD_of_mem hr
      exact z4 j hj ha)
  obtain ⟨m1, m2, m3⟩ := main
  exact ⟨m1, fun n => ⟨m2 n, fun hn => m3 n hn⟩⟩

theorem comesA_iff : (comesA R N).length = N ∧ ∀ n, hasB (comesA R N) n ↔ ComesP N R n := by
  obtain ⟨ml, mi⟩ := makesA_iff hf
  have hN := hf.some
  have hm := ComesF_mono hf (MakesP N R)
  have h0 : hasB ((List.replicate N false).set 0 ((makesA R N).getD 0 false)) 0 ↔ MakesP N R 0 := by
    rw [← mi 0]
    unfold hasB
    have : 0 < N := by omega
    simp [List.getD, this]
  have main := loopN_inv (n := N) (f := fun _ => loopN R.length (comesR R (makesA R N))) (x := (List.replicate N false).set 0 ((makesA R N).getD 0 false))
    (fun k X => X.length = N ∧ (∀ n, hasB X n → ComesP N R n) ∧ (MakesP N R 0 → hasB X 0) ∧ ∀ n, Lv (ComesF R (MakesP N R)) k n → hasB X n)
    ⟨by simp, fun n hn => by
      by_cases h : n = 0
      · subst h; exact Lv_closed hm _ (.inl ⟨rfl, h0.1 hn⟩)
      · refine (hasB_none (N := N) (n := n) ⟨hn.1, ?_⟩).elim
        have hn2 := hn.2
        have hne : 0 ≠ n.toNat := by have := hn.1; omega
        simpa [List.getD, List.getElem?_set_ne hne] using hn2, h0.2, fun n hn => hn.elim⟩
    (fun k _ X ⟨h1, h2, hz, h3⟩ => by
      have inner := loopN_inv (n := R.length) (f := comesR R (makesA R N)) (x := X)
        (fun i Y => Y.length = N ∧ (∀ n, hasB Y n → ComesP N R n) ∧ (∀ n, hasB X n → hasB Y n) ∧ ∀ j, j < i → AllM (MakesP N R) (R.getD j (0, [])).2 → hasB X (R.getD j (0, [])).1 → ∀ n : Int, (false, n) ∈ (R.getD j (0, [])).2 → hasB Y n)
        ⟨h1, h2, fun _ h => h, fun j hj => absurd hj (Nat.not_lt_zero _)⟩
        (fun i hi Y ⟨y1, y2, y3, y4⟩ => by
          have hr := mem_getD hi
          have hL := hf.left _ hr
          have hcast := toNat_of hL.1
          unfold comesR
          cases hb : (Y.getD (R.getD i (0, [])).1.toNat false && allB (makesA R N) (R.getD i (0, [])).2) with
          | true =>
            simp only [if_true]
            simp only [Bool.and_eq_true] at hb
            have hc : ComesP N R (R.getD i (0, [])).1 := y2 _ ⟨hL.1, hb.1⟩
            have hall : AllM (MakesP N R) (R.getD i (0, [])).2 := ((allB_iff (rule_ge hf hi)).1 hb.2).mono fun n hn => (mi n).1 hn
            have names := loopN_inv (n := (R.getD i (0, [])).2.length) (f := nameS (R.getD i (0, [])).2) (x := Y)
              (fun k Q => Q.length = N ∧ (∀ n, hasB Q n → ComesP N R n) ∧ (∀ n, hasB Y n → hasB Q n) ∧ ∀ j, j < k → ((R.getD i (0, [])).2.getD j (false, 0)).1 = false → hasB Q ((R.getD i (0, [])).2.getD j (false, 0)).2)
              ⟨y1, y2, fun _ h => h, fun j hj => absurd hj (Nat.not_lt_zero _)⟩
              (fun k hk Q ⟨q1, q2, q3, q4⟩ => by
                have hmem : (R.getD i (0, [])).2.getD k (false, 0) ∈ (R.getD i (0, [])).2 := by
                  generalize (R.getD i (0, [])).2 = l at hk
                  simp [List.getD, hk]
                unfold nameS
                obtain ⟨⟨x, v⟩, hx⟩ : ∃ x, (R.getD i (0, [])).2.getD k (false, 0) = x := ⟨_, rfl⟩
                rw [hx] at hmem ⊢
                cases x with
                | true =>
                  simp only [if_true]
                  refine ⟨q1, q2, q3, fun j hj hjf => ?_⟩
                  rcases Nat.lt_succ_iff_lt_or_eq.1 hj with hj | rfl
                  · exact q4 j hj hjf
                  · rw [hx] at hjf; cases hjf
                | false =>
                  simp only [Bool.false_eq_true, if_false]
                  have hv := hf.name _ hr _ hmem rfl
                  simp only at hv
                  have hl : v.toNat < Q.length := by omega
                  refine ⟨by simp [q1], fun n hn => ?_, fun n hn => (hasB_set hl).2 (.inr (q3 n hn)), fun j hj hjf => ?_⟩
                  · rcases (hasB_set hl).1 hn with rfl | hn
                    · rw [toNat_of hv.1]
                      exact Lv_closed hm _ (.inr ⟨_, hr, hmem, hall, hc⟩)
                    · exact q2 n hn
                  · rcases Nat.lt_succ_iff_lt_or_eq.1 hj with hj | rfl
                    · exact (hasB_set hl).2 (.inr (q4 j hj hjf))
                    · rw [hx]; exact (hasB_set hl).2 (.inl (toNat_of hv.1).symm))
            obtain ⟨z1, z2, z3, z4⟩ := names
            refine ⟨z1, z2, fun n hn => z3 n (y3 n hn), fun j hj ha hx n hmem => ?_⟩
            rcases Nat.lt_succ_iff_lt_or_eq.1 hj with hj | rfl
            · exact z3 n (y4 j hj ha hx n hmem)
            · obtain ⟨q, hq, he⟩ := List.getElem_of_mem hmem
              have e : (R.getD j (0, [])).2.getD q (false, 0) = (false, n) := by
                generalize (R.getD j (0, [])).2 = l at hq he
                simp [List.getD, hq, he]
              have := z4 q hq (by rw [e])
              rwa [e] at this
          | false =>
            simp only [Bool.false_eq_true, if_false]
            refine ⟨y1, y2, y3, fun j hj ha hx n hmem => ?_⟩
            rcases Nat.lt_succ_iff_lt_or_eq.1 hj with hj | rfl
            · exact y4 j hj ha hx n hmem
            · rw [(y3 _ hx).2, (allB_iff (rule_ge hf hi)).2 (ha.mono fun n hn => (mi n).2 hn)] at hb
              cases hb)
      obtain ⟨z1, z2, z3, z4⟩ := inner
      refine ⟨z1, z2, fun h => z3 0 (hz h), fun n hn => ?_⟩
      rcases hn with ⟨rfl, hM⟩ | ⟨r, hr, hmem, ha, hc⟩
      · exact z3 0 (hz hM)
      · obtain ⟨j, hj, rfl⟩ := getD_of_mem hr
        exact z4 j hj ha (h3 _ hc) n hmem)
  obtain ⟨m1, m2, _, m3⟩ := main
  exact ⟨m1, fun n => ⟨m2 n, fun hn => m3 n hn⟩⟩

end

end Go.Proofs.Ytikjekfpgklbdaa

/- Plain: what a grammar has stays, whatever step is done (H3). No program. -/
namespace Go.Proofs.Ytikjekfpgklbdaa

theorem mid_split (l : List Sy) {b c : Nat} (h : b ≤ c) : l.take b ++ (l.take c).drop b ++ l.drop c = l := by
  have h1 : l.take b = (l.take c).take b := by rw [List.take_take, Nat.min_eq_left h]
  rw [h1, List.take_append_drop, List.take_append_drop]

section
variable {T N : Nat} {R : List Ru} (hf : Fine T N R)
include hf

/-! ### SSwap -/
omit hf in
theorem swapN_swapN (a b n : Int) : swapN a b (swapN a b n) = n := by
  unfold swapN
  split
  · split
    · omega
    · simp; omega
  · split
    · simp; omega
    · simp_all
/-! ### SExtract -/
/-! ### SInline -/
/-! ### SLeft -/
omit hf in
theorem ownR_form {r : Ru} (h : ownR r = true) : ∃ l, r.2 = (false, r.1) :: l := by
  obtain ⟨L, l⟩ := r
  unfold ownR at h
  cases l with
  | nil => simp at h
  | cons s l =>
    obtain ⟨t, n⟩ := s
    simp at h
    exact ⟨l, by rw [h.1, h.2]⟩
/-! ### SPrune -/
theorem needB_iff {r : Ru} (hr : r ∈ R) : needB N R r = true ↔ MakesP N R r.1 ∧ ComesP N R r.1 ∧ AllM (MakesP N R) r.2 := by
  have h1 := (makesA_iff hf).2
  have h2 := (comesA_iff hf).2
  have h0 := (hf.left r hr).1
  have hM : (makesA R N).getD r.1.toNat false = true ↔ MakesP N R r.1 := ⟨fun h => (h1 _).1 ⟨h0, h⟩, fun h => ((h1 _).2 h).2⟩
  have hC : (comesA R N).getD r.1.toNat false = true ↔ ComesP N R r.1 := ⟨fun h => (h2 _).1 ⟨h0, h⟩, fun h => ((h2 _).2 h).2⟩
  have hA : allB (makesA R N) r.2 = true ↔ AllM (MakesP N R) r.2 := by
    unfold allB
    rw [List.all_eq_true]
    constructor
    · intro h s hs hb
      have := h s hs
      rw [hb, Bool.false_or] at this
      exact (h1 _).1 ⟨(hf.name r hr s hs hb).1, this⟩
    · intro h s hs
      cases hb : s.1 with
      | true => rfl
      | false => rw [Bool.false_or]; exact ((h1 _).2 (h s hs hb)).2
  unfold needB
  rw [Bool.and_eq_true, Bool.and_eq_true, hM, hC, hA, and_assoc]
end

end Go.Proofs.Ytikjekfpgklbdaa

/- Plain: SExtract: each derivation is carried over, and back (H2, H3). No program. -/
namespace Go.Proofs.Ytikjekfpgklbdaa

def lenF : Fo → Nat
  | .no => 0
  | .nd _ _ ts => lenF ts + 1
def takeF : Nat → Fo → Fo
  | 0, _ => .no
  | _ + 1, .no => .no
  | i + 1, .nd q ks ts => .nd q ks (takeF i ts)
def dropF : Nat → Fo → Fo
  | 0, t => t
  | _ + 1, .no => .no
  | i + 1, .nd _ _ ts => dropF i ts
def kidsF : Fo → Fo
  | .no => .no
  | .nd _ ks _ => ks
def restF : Fo → Fo
  | .no => .no
  | .nd _ _ ts => ts

theorem take_app : ∀ (t u : Fo), takeF (lenF t) (appF t u) = t
  | .no, u => rfl
  | .nd q ks ts, u => by rw [lenF, appF, takeF, take_app ts u]
theorem drop_app : ∀ (t u : Fo), dropF (lenF t) (appF t u) = u
  | .no, u => rfl
  | .nd q ks ts, u => by rw [lenF, appF, dropF, drop_app ts u]
theorem app_assoc : ∀ (t u v : Fo), appF (appF t u) v = appF t (appF u v)
  | .no, u, v => rfl
  | .nd q ks ts, u, v => by rw [appF, appF, appF, app_assoc ts u v]
theorem app_no : ∀ (t : Fo), appF t .no = t
  | .no => rfl
  | .nd q ks ts => by rw [appF, app_no ts]
theorem ok_lenF {R : List Ru} : ∀ (t : Fo) (ns : List Int), okF R t ns → lenF t = ns.length
  | .no, ns, h => by cases h; rfl
  | .nd q ks ts, ns, h => by
    obtain ⟨n, ns', rfl, h1, h2, h3, h4⟩ := h
    rw [lenF, List.length_cons, ok_lenF ts ns' h4]

/-- i trees, the next m of them as one's, the others. -/
def inF (i m L : Nat) (t : Fo) : Fo := appF (takeF i t) (.nd L (takeF m (dropF i t)) (dropF m (dropF i t)))
/-- And back. -/
def outF (i : Nat) (t : Fo) : Fo := appF (takeF i t) (appF (kidsF (dropF i t)) (restF (dropF i t)))
theorem inF_app {i m : Nat} (L : Nat) {k1 k2 k3 : Fo} (h1 : lenF k1 = i) (h2 : lenF k2 = m) : inF i m L (appF k1 (appF k2 k3)) = appF k1 (.nd L k2 k3) := by
  unfold inF
  rw [← h1, ← h2, take_app, drop_app, take_app, drop_app]
theorem outF_app {i L : Nat} {k1 k2 k3 : Fo} (h1 : lenF k1 = i) : outF i (appF k1 (.nd L k2 k3)) = appF k1 (appF k2 k3) := by
  unfold outF
  rw [← h1, take_app, drop_app]
  rfl

def exF (a L i m : Nat) : Fo → Fo
  | .no => .no
  | .nd q ks ts => .nd q (if q = a then inF i m L (exF a L i m ks) else exF a L i m ks) (exF a L i m ts)
def exB (a i : Nat) : Fo → Fo
  | .no => .no
  | .nd q ks ts => .nd q (if q = a then outF i (exB a i ks) else exB a i ks) (exB a i ts)
theorem exF_app (a L i m : Nat) : ∀ (t u : Fo), exF a L i m (appF t u) = appF (exF a L i m t) (exF a L i m u)
  | .no, u => rfl
  | .nd q ks ts, u => by rw [appF, exF, exF, appF, exF_app a L i m ts u]
theorem exB_app (a i : Nat) : ∀ (t u : Fo), exB a i (appF t u) = appF (exB a i t) (exB a i u)
  | .no, u => rfl
  | .nd q ks ts, u => by rw [appF, exB, exB, appF, exB_app a i ts u]
theorem exF_len (a L i m : Nat) : ∀ t : Fo, lenF (exF a L i m t) = lenF t
  | .no => rfl
  | .nd q ks ts => by rw [exF, lenF, lenF, exF_len a L i m ts]
theorem exB_len (a i : Nat) : ∀ t : Fo, lenF (exB a i t) = lenF t
  | .no => rfl
  | .nd q ks ts => by rw [exB, lenF, lenF, exB_len a i ts]

/-- R' is R, with the symbols from b to below c of the rule a as a rule of its own, the last one. -/
structure ExIs (N : Nat) (R R' : List Ru) (a : Nat) (l1 l2 l3 : List Sy) : Prop where
  lt : a < R.length
  len : R'.length = R.length + 1
  cut : (R.getD a (0, [])).2 = l1 ++ (l2 ++ l3)
  here : R'.getD a (0, []) = ((R.getD a (0, [])).1, l1 ++ (false, (N : Int)) :: l3)
  last : R'.getD R.length (0, []) = ((N : Int), l2)
  other : ∀ q, q < R.length → q ≠ a → R'.getD q (0, []) = R.getD q (0, [])
  low : ∀ r ∈ R, r.1 < (N : Int) ∧ ∀ s ∈ r.2, s.1 = false → s.2 < (N : Int)

section
variable {N : Nat} {R R' : List Ru} {a : Nat} {l1 l2 l3 : List Sy}

theorem ex_back (h : ExIs N R R' a l1 l2 l3) : ∀ (m : Nat) (t : Fo) (ns : List Int), (flatFo t).length < m → (∀ n ∈ ns, n < (N : Int)) → okF R' t ns → okF R (exB a (namesS l1).length t) ns ∧ yldF R (exB a (namesS l1).length t) = yldF R' t ∧ exF a R.length (namesS l1).length (namesS l2).length (exB a (namesS l1).length t) = t := by
  intro m
  induction m with
  | zero => intro t ns h; omega
  | succ m ih =>
    intro t ns hm hns hok
    cases t with
    | no => cases hok; exact ⟨rfl, rfl, rfl⟩
    | nd q ks ts =>
      obtain ⟨n, ns', rfl, h1, h2, h3, h4⟩ := hok
      rw [flatFo, List.length_cons, List.length_append] at hm
      have hlen := h.len
      have hlow : ∀ {r : Ru} {l : List Sy}, r ∈ R → (∀ s ∈ l, s ∈ r.2) → ∀ x ∈ namesS l, x < (N : Int) := fun {r} {l} hr hl x hx => by
        have : (false, x) ∈ l := by
          clear hl
          induction l with
          | nil => cases hx
          | cons s l ihl =>
            obtain ⟨b, y⟩ := s
            cases b with
            | true => exact List.mem_cons_of_mem _ (ihl hx)
            | false =>
              rcases List.mem_cons.1 hx with rfl | hx
              · exact List.mem_cons_self ..
              · exact List.mem_cons_of_mem _ (ihl hx)
        exact (h.low r hr).2 _ (hl _ this) rfl
      obtain ⟨b1, b2, b3⟩ := ih ts ns' (by omega) (fun x hx => hns x (List.mem_cons_of_mem _ hx)) h4
      have hqL : q ≠ R.length := fun e => by
        rw [e, h.last] at h2
        have := hns n (List.mem_cons_self ..)
        simp only at h2
        omega
      have hq' : q < R.length := by omega
      by_cases hq : q = a
      · subst hq
        have hr := mem_getD (R := R) h.lt
        rw [h.here, names_app] at h3
        obtain ⟨k1, kk, rfl, c1, c2⟩ := ok_split _ _ _ h3
        obtain ⟨q2, k2, k3, rfl, d1, d2, d3, d4⟩ := okF_cons c2
        have hq2 : q2 = R.length := by
          by_cases e : q2 = R.length
          · exact e
          · exfalso
            by_cases e2 : q2 = q
            · rw [e2, h.here] at d2
              have := (h.low _ hr).1
              simp only at d2
              omega
            · rw [h.other q2 (by omega) e2] at d2
              have := (h.low _ (mem_getD (R := R) (i := q2) (by omega))).1
              omega
        subst hq2
        rw [h.last] at d3
        rw [flat_app, flatFo, List.length_append, List.length_cons, List.length_append] at hm
        obtain ⟨p1, p2, p3⟩ := ih k1 _ (by omega) (hlow (l := l1) hr (fun s hs => by rw [h.cut]; exact List.mem_append_left _ hs)) c1
        obtain ⟨q1, q2, q3⟩ := ih k2 _ (by omega) (hlow (l := l2) hr (fun s hs => by rw [h.cut]; exact List.mem_append_right _ (List.mem_append_left _ hs))) d3
        obtain ⟨r1, r2, r3⟩ := ih k3 _ (by omega) (hlow (l := l3) hr (fun s hs => by rw [h.cut]; exact List.mem_append_right _ (List.mem_append_right _ hs))) d4
        have e2 : outF (namesS l1).length (exB q (namesS l1).length (appF k1 (.nd R.length k2 k3))) = appF (exB q (namesS l1).length k1) (appF (exB q (namesS l1).length k2) (exB q (namesS l1).length k3)) := by
          rw [exB_app, exB, if_neg (by have := h.lt; omega), outF_app (by rw [exB_len]; exact ok_lenF _ _ c1)]
        rw [exB, if_pos rfl, e2]
        refine ⟨⟨n, ns', rfl, hq', by rw [h.here] at h2; exact h2, ?_, b1⟩, ?_, ?_⟩
        · rw [h.cut, names_app, names_app]
          exact ok_app _ _ _ _ p1 (ok_app _ _ _ _ q1 r1)
        · rw [yldF, yldF, b2, h.here, h.cut, yld_app, yld_app, p2, q2, r2, yld_app, yldF, h.last]
          congr 1
          rw [weave_app _ _ _ _ (okF_len _ _ c1), weave_app _ _ _ _ (okF_len _ _ c1), weave_app _ _ _ _ (okF_len _ _ d3)]
          rfl
        · rw [exF, if_pos rfl, b3, exF_app, exF_app, p3, q3, r3, inF_app _ (ok_lenF _ _ c1) (ok_lenF _ _ d3)]
      · have e := h.other q hq' hq
        rw [e] at h2 h3
        have hr := mem_getD (R := R) hq'
        obtain ⟨a1, a2, a3⟩ := ih ks _ (by omega) (hlow hr (fun s hs => hs)) h3
        rw [exB, if_neg hq]
        refine ⟨⟨n, ns', rfl, hq', h2, a1, b1⟩, ?_, ?_⟩
        · rw [yldF, yldF, b2, e, a2]
        · rw [exF, if_neg hq, a3, b3]
end

end Go.Proofs.Ytikjekfpgklbdaa
