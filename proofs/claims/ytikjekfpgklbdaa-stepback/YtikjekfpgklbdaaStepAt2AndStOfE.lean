import Derived.Test.YtikjekfpgklbdaaStepInAndStepAt
import Derived.Test.YtikjekfpgklbdaaHeldTailAndConcT
import Derived.Test.YtikjekfpgklbdaaStCatAndStepEx
import Derived.Test.YtikjekfpgklbdaaStCopiesAndStCx
/- Plain: where the rules lie in what comes of SPrune, SInline. No program. -/
namespace Go.Proofs.Ytikjekfpgklbdaa

/-! ### Those of the numbers that are meant -/

def idxF (p : Nat → Bool) (n : Nat) : List Nat := (List.range n).filter p
def rankF (p : Nat → Bool) (q : Nat) : Nat := (idxF p q).length
theorem idx_succ (p : Nat → Bool) (n : Nat) : idxF p (n + 1) = idxF p n ++ (if p n then [n] else []) := by
  unfold idxF
  rw [List.range_succ, List.filter_append]
  congr 1
  cases h : p n <;> simp [h]
theorem rank_get {p : Nat → Bool} : ∀ {n q : Nat}, q < n → p q = true → (idxF p n)[rankF p q]? = some q
  | 0, q, h, _ => by omega
  | n + 1, q, h, hp => by
    rw [idx_succ]
    by_cases hq : q = n
    · subst hq
      rw [if_pos hp]
      unfold rankF
      rw [List.getElem?_append_right (Nat.le_refl _), Nat.sub_self]
      rfl
    · have hi := rank_get (p := p) (n := n) (by omega) hp
      rw [List.getElem?_append_left (List.getElem?_eq_some_iff.1 hi).1]
      exact hi
theorem rank_back {p : Nat → Bool} : ∀ {n j : Nat}, j < (idxF p n).length → ∃ q, q < n ∧ p q = true ∧ (idxF p n)[j]? = some q ∧ rankF p q = j
  | 0, j, h => by simp [idxF] at h
  | n + 1, j, h => by
    rw [idx_succ] at h ⊢
    by_cases hj : j < (idxF p n).length
    · obtain ⟨q, h1, h2, h3, h4⟩ := rank_back hj
      exact ⟨q, by omega, h2, by rw [List.getElem?_append_left hj]; exact h3, h4⟩
    · rw [List.length_append] at h
      cases hp : p n with
      | false => rw [hp] at h; simp at h; omega
      | true =>
        rw [hp] at h
        simp at h
        have hj' : j = (idxF p n).length := by omega
        refine ⟨n, by omega, hp, ?_, hj'.symm⟩
        rw [if_pos rfl, List.getElem?_append_right (by omega), hj', Nat.sub_self]
        rfl
theorem rank_lt {p : Nat → Bool} {n q : Nat} (hq : q < n) (hp : p q = true) : rankF p q < (idxF p n).length := (List.getElem?_eq_some_iff.1 (rank_get hq hp)).1

theorem getD_some {L : List Nat} {i x : Nat} (h : L[i]? = some x) : L.getD i 0 = x := by rw [List.getD, h]; rfl
theorem flatMap_on {f g : Nat → List Ru} : ∀ L : List Nat, (∀ k ∈ L, f k = g k) → L.flatMap f = L.flatMap g
  | [], _ => rfl
  | k :: L, h => by rw [List.flatMap_cons, List.flatMap_cons, h k (List.mem_cons_self ..), flatMap_on L fun k hk => h k (List.mem_cons_of_mem _ hk)]
theorem mem_names {l : List Sy} {n : Int} : n ∈ namesS l ↔ (false, n) ∈ l := by
  induction l with
  | nil => simp [namesS]
  | cons s l ih =>
    obtain ⟨b, y⟩ := s
    cases b with
    | true => rw [namesS, ih]; simp
    | false => rw [namesS, List.mem_cons, ih]; simp

section
variable {T N : Nat} {R : List Ru}

theorem flatMap_pick (p : Nat → Bool) (f : Nat → Ru) : ∀ L : List Nat, (L.flatMap fun k => if p k then [f k] else []) = (L.filter p).map f
  | [] => rfl
  | k :: L => by
    rw [List.flatMap_cons, flatMap_pick p f L, List.filter_cons]
    split <;> rfl

theorem prune_is (hf : Fine T N R) {a b c : Int} : PrIs R (doR N R ⟨5, a, b, c⟩) (MakesP N R) (ComesP N R) (rankF fun k => needB N R (R.getD k (0, []))) (fun j => (idxF (fun k => needB N R (R.getD k (0, []))) R.length).getD j 0) := by
  have hl : lastR N R ⟨5, a, b, c⟩ = [] := by unfold lastR; simp only; rw [if_neg (by decide), if_neg (by decide)]
  have hd : doR N R ⟨5, a, b, c⟩ = (idxF (fun k => needB N R (R.getD k (0, []))) R.length).map fun k => R.getD k (0, []) := by
    unfold doR idxF
    rw [hl, List.append_nil, ← flatMap_pick]
    congr 1
  have all : ∀ q, (∀ n ∈ namesS (R.getD q (0, [])).2, MakesP N R n) → AllM (MakesP N R) (R.getD q (0, [])).2 := fun q h x hx hb => by
    obtain ⟨t, n⟩ := x
    cases hb
    exact h n (mem_names.2 hx)
  refine ⟨fun q hq h => Lv_closed (MakesF_mono hf) _ ⟨_, mem_getD hq, rfl, all q h⟩, fun q hq hC hM => ?_, fun p hp => ?_⟩
  · have hmk : MakesP N R (R.getD q (0, [])).1 := Lv_closed (MakesF_mono hf) _ ⟨_, mem_getD hq, rfl, all q hM⟩
    have hn : needB N R (R.getD q (0, [])) = true := (needB_iff hf (mem_getD hq)).2 ⟨hmk, hC, all q hM⟩
    have hg := rank_get (p := fun k => needB N R (R.getD k (0, []))) hq hn
    refine ⟨by rw [hd, List.length_map]; exact rank_lt hq hn, ?_, ?_, fun n hx => ?_⟩
    · rw [hd, List.getD, List.getElem?_map, hg]; rfl
    · exact getD_some hg
    · exact Lv_closed (ComesF_mono hf _) _ (.inr ⟨_, mem_getD hq, mem_names.1 hx, all q hM, hC⟩)
  · rw [hd, List.length_map] at hp
    obtain ⟨q, h1, h2, h3, h4⟩ := rank_back hp
    have e : (idxF (fun k => needB N R (R.getD k (0, []))) R.length).getD p 0 = q := by rw [List.getD, h3]; rfl
    refine ⟨by rw [e]; exact h1, ?_, by rw [e]; exact h4⟩
    rw [e, hd, List.getD, List.getD, List.getElem?_map, h3]
    rfl

/-- The rules of a name, by their numbers. -/
theorem filter_idx (X : Int) : (R.filter fun x => decide (x.1 = X)) = (idxF (fun k => decide ((R.getD k (0, [])).1 = X)) R.length).map fun k => R.getD k (0, []) := by
  have hR : R = (List.range R.length).map fun k => R.getD k (0, []) := by
    refine List.ext_getElem? fun i => ?_
    by_cases hi : i < R.length
    · rw [List.getElem?_map, List.getElem?_range hi]
      simp [List.getD, hi]
    · rw [List.getElem?_eq_none (by omega), List.getElem?_eq_none (by rw [List.length_map, List.length_range]; omega)]
  conv => lhs; rw [hR]
  rw [List.filter_map]
  rfl

theorem inline_is {a b c : Int} (hs : stepB N R ⟨3, a, b, c⟩ = true) : ∃ l1 l3 X sh ush rk isIn m, InIs R (doR N R ⟨3, a, b, c⟩) a.toNat l1 l3 X sh ush rk isIn m ∧ l1 = (R.getD a.toNat (0, [])).2.take b.toNat ∧ X = ((R.getD a.toNat (0, [])).2.getD b.toNat (false, 0)).2 ∧
    sh = (fun q => if q < a.toNat then q else q - 1 + (idxF (fun k => decide ((R.getD k (0, [])).1 = X)) R.length).length) ∧ ush = (fun p => if p < a.toNat then p else p + 1 - (idxF (fun k => decide ((R.getD k (0, [])).1 = X)) R.length).length) ∧ rk = (fun j => a.toNat + rankF (fun k => decide ((R.getD k (0, [])).1 = X)) j) ∧
    isIn = (fun p => if p < a.toNat then none else (idxF (fun k => decide ((R.getD k (0, [])).1 = X)) R.length)[p - a.toNat]?) ∧ m = fun j => (namesS (R.getD j (0, [])).2).length := by
  have hst : 0 ≤ a ∧ a < (R.length : Int) ∧ 0 ≤ b ∧ b < ((R.getD a.toNat (0, [])).2.length : Int) ∧ ((R.getD a.toNat (0, [])).2.getD b.toNat (false, 0)).1 = false ∧ ¬ ((R.getD a.toNat (0, [])).2.getD b.toNat (false, 0)).2 = (R.getD a.toNat (0, [])).1 := by
    unfold stepB at hs
    simp only at hs
    rw [if_neg (by decide), if_neg (by decide), if_pos trivial] at hs
    simp only [Bool.and_eq_true, decide_eq_true_eq, Bool.not_eq_true', decide_eq_false_iff_not] at hs
    obtain ⟨⟨⟨⟨⟨h1, h2⟩, h3⟩, h4⟩, h5⟩, h6⟩ := hs
    exact ⟨h1.1, h1.2, h2, h3, h5, h6⟩
  obtain ⟨an, rfl⟩ : ∃ x : Nat, a = x := ⟨a.toNat, by omega⟩
  obtain ⟨bn, rfl⟩ : ∃ x : Nat, b = x := ⟨b.toNat, by omega⟩
  simp only [Int.toNat_natCast] at hst ⊢
  have ha : an < R.length := by omega
  obtain ⟨r, hr⟩ : ∃ r, R.getD an (0, []) = r := ⟨_, rfl⟩
  rw [hr] at hst ⊢
  obtain ⟨X, hX⟩ : ∃ X, (r.2.getD bn (false, 0)).2 = X := ⟨_, rfl⟩
  have hbl : bn < r.2.length := by omega
  have hsym : r.2.getD bn (false, 0) = (false, X) := Prod.ext hst.2.2.2.2.1 hX
  have hne : r.1 ≠ X := by rw [← hX]; exact fun e => hst.2.2.2.2.2 e.symm
  rw [hX]
  have hcut : r.2 = r.2.take bn ++ (false, X) :: r.2.drop (bn + 1) := by
    have e : r.2[bn] = (false, X) := by rw [← hsym]; simp [List.getD, hbl]
    rw [← e, ← List.drop_eq_getElem_cons hbl, List.take_append_drop]
  have hone : ∀ k, oneR N R ⟨3, an, bn, c⟩ k = if k = an then (R.filter fun x => decide (x.1 = X)).map (inlR bn r) else [R.getD k (0, [])] := fun k => by
    unfold oneR
    simp only [Int.toNat_natCast]
    rw [if_neg (by decide), if_neg (by decide), if_pos trivial]
    by_cases hk : k = an
    · subst hk; rw [if_pos rfl, if_pos rfl, hr]; simp only [hX]
    · rw [if_neg (by omega), if_neg hk]
  have hlast : lastR N R ⟨3, an, bn, c⟩ = [] := by unfold lastR; simp only; rw [if_neg (by decide), if_neg (by decide)]
  obtain ⟨I, hI⟩ : ∃ I, idxF (fun k => decide ((R.getD k (0, [])).1 = X)) R.length = I := ⟨_, rfl⟩
  obtain ⟨mm, hmm⟩ : ∃ mm, R.length = an + (1 + mm) := ⟨R.length - an - 1, by omega⟩
  have hd : doR N R ⟨3, an, bn, c⟩ = (List.range an).map (fun k => R.getD k (0, [])) ++ (I.map (fun j => inlR bn r (R.getD j (0, []))) ++ (List.range mm).map (fun k => R.getD (an + 1 + k) (0, []))) := by
    unfold doR
    rw [hlast, List.append_nil, hmm, List.range_add, List.range_add, List.map_append, List.flatMap_append, List.flatMap_append, List.map_map]
    congr 1
    · rw [← flatMap_single (f := fun k => [R.getD k (0, [])]) (fun _ => rfl)]
      refine flatMap_on _ fun k hk => ?_
      rw [hone, if_neg (by have := List.mem_range.1 hk; omega)]
    · congr 1
      · show ([an + 0].flatMap _) = _
        rw [List.flatMap_cons, List.flatMap_nil, List.append_nil, hone, if_pos (by omega), filter_idx, hI, List.map_map]
        rfl
      · rw [List.flatMap_map, ← flatMap_single (f := fun k => [R.getD (an + 1 + k) (0, [])]) (fun _ => rfl)]
        refine flatMap_on _ fun k hk => ?_
        simp only [Function.comp]
        rw [hone, if_neg (by omega), Nat.add_assoc]
  have hlen : (doR N R ⟨3, an, bn, c⟩).length = an + (I.length + mm) := by
    rw [hd, List.length_append, List.length_append, List.length_map, List.length_map, List.length_map, List.length_range, List.length_range]
  have at1 : ∀ q, q < an → (doR N R ⟨3, an, bn, c⟩).getD q (0, []) = R.getD q (0, []) := fun q hq => by
    rw [hd, List.getD, List.getElem?_append_left (by rw [List.length_map, List.length_range]; exact hq), List.getElem?_map, List.getElem?_range hq]
    rfl
  have at2 : ∀ k j, I[k]? = some j → (doR N R ⟨3, an, bn, c⟩).getD (an + k) (0, []) = inlR bn r (R.getD j (0, [])) := fun k j hk => by
    have hkl := (List.getElem?_eq_some_iff.1 hk).1
    rw [hd, List.getD, List.getElem?_append_right (by rw [List.length_map, List.length_range]; omega), List.length_map, List.length_range, Nat.add_sub_cancel_left, List.getElem?_append_left (by rw [List.length_map]; exact hkl), List.getElem?_map, hk]
    rfl
  have at3 : ∀ k, k < mm → (doR N R ⟨3, an, bn, c⟩).getD (an + I.length + k) (0, []) = R.getD (an + 1 + k) (0, []) := fun k hk => by
    rw [hd, List.getD, List.getElem?_append_right (by rw [List.length_map, List.length_range]; omega), List.length_map, List.length_range, List.getElem?_append_right (by rw [List.length_map]; omega), List.length_map, show an + I.length + k - an - I.length = k by omega, List.getElem?_map, List.getElem?_range hk]
    rfl
  refine ⟨_, r.2.drop (bn + 1), _, _, _, _, _, _, ?_, rfl, rfl, rfl, rfl, rfl, rfl, rfl⟩
  rw [hI]
  refine ⟨ha, by rw [hr]; exact hcut, by rw [hr]; exact hne, fun q hq hqa => ?_, fun j hj hjX => ?_, fun p hp => ?_, fun j => rfl⟩
  · by_cases h1 : q < an
    · rw [if_pos h1, if_pos h1, if_pos h1]
      exact ⟨by omega, at1 q h1, rfl, rfl⟩
    · rw [if_neg h1, if_neg (by omega), if_neg (by omega)]
      refine ⟨by omega, ?_, by omega, List.getElem?_eq_none (by omega)⟩
      have := at3 (q - 1 - an) (by omega)
      rw [show an + I.length + (q - 1 - an) = q - 1 + I.length by omega, show an + 1 + (q - 1 - an) = q by omega] at this
      exact this
  · have hg := rank_get (p := fun k => decide ((R.getD k (0, [])).1 = X)) hj (by simpa using hjX)
    rw [hI] at hg
    have hl := (List.getElem?_eq_some_iff.1 hg).1
    refine ⟨by omega, ?_, ?_⟩
    · rw [at2 _ _ hg, hr]
      unfold inlR
      rw [List.append_assoc]
    · rw [if_neg (by omega), Nat.add_sub_cancel_left]; exact hg
  · by_cases h1 : p < an
    · exact .inl ⟨p, by omega, by omega, by rw [if_pos h1]⟩
    · by_cases h2 : p < an + I.length
      · obtain ⟨q, q1, q2, q3, q4⟩ := rank_back (p := fun k => decide ((R.getD k (0, [])).1 = X)) (n := R.length) (j := p - an) (by rw [hI]; omega)
        exact .inr ⟨q, q1, by simpa using q2, by rw [q4]; omega⟩
      · refine .inl ⟨p + 1 - I.length, by omega, by omega, ?_⟩
        rw [if_neg (by omega)]
        omega
end

end Go.Proofs.Ytikjekfpgklbdaa

/- Plain: each derivation is carried over, and back, whatever step is done (H2, H3). No program. -/
namespace Go.Proofs.Ytikjekfpgklbdaa

/-- The rule that a step speaks of, and its symbols ahead of the part. -/
def ruS (R : List Ru) (s : Stp) : Ru := R.getD s.a.toNat (0, [])
def aheadS (R : List Ru) (s : Stp) : Nat := (namesS ((ruS R s).2.take s.b.toNat)).length
def partS (R : List Ru) (s : Stp) : Nat := (namesS (((ruS R s).2.take s.c.toNat).drop s.b.toNat)).length
/-- The name that SInline speaks of; its rules. -/
def nameOfX (R : List Ru) (s : Stp) : Int := ((ruS R s).2.getD s.b.toNat (false, 0)).2
def idxX (R : List Ru) (s : Stp) : List Nat := idxF (fun k => decide ((R.getD k (0, [])).1 = nameOfX R s)) R.length
def shX (R : List Ru) (s : Stp) (q : Nat) : Nat := if q < s.a.toNat then q else q - 1 + (idxX R s).length
def ushX (R : List Ru) (s : Stp) (p : Nat) : Nat := if p < s.a.toNat then p else p + 1 - (idxX R s).length
def rkX (R : List Ru) (s : Stp) (j : Nat) : Nat := s.a.toNat + rankF (fun k => decide ((R.getD k (0, [])).1 = nameOfX R s)) j
def isX (R : List Ru) (s : Stp) (p : Nat) : Option Nat := if p < s.a.toNat then none else (idxX R s)[p - s.a.toNat]?
def manyX (R : List Ru) (j : Nat) : Nat := (namesS (R.getD j (0, [])).2).length
/-- SLeft: the rule begins with A; the rule is A's. -/
def ownX (R : List Ru) (s : Stp) (q : Nat) : Bool := decide (q < R.length) && ownA s.a (R.getD q (0, []))
def ofX (R : List Ru) (s : Stp) (q : Nat) : Bool := decide (q < R.length) && decide ((R.getD q (0, [])).1 = s.a)

def fwdS (N : Nat) (R : List Ru) (s : Stp) (t : Fo) : Fo :=
  if s.op = 2 then exF s.a.toNat R.length (aheadS R s) (partS R s) t
  else if s.op = 3 then inlF s.a.toNat (aheadS R s) (shX R s) (ushX R s) (rkX R s) t
  else if s.op = 4 then leG R.length (ownX R s) (ofX R s) t (.nd R.length .no .no)
  else if s.op = 5 then renF (rankF fun k => needB N R (R.getD k (0, []))) t
  else t
def bakS (N : Nat) (R : List Ru) (s : Stp) (t : Fo) : Fo :=
  if s.op = 2 then exB s.a.toNat (aheadS R s) t
  else if s.op = 3 then inlB s.a.toNat (aheadS R s) (ushX R s) (isX R s) (manyX R) t
  else if s.op = 4 then (leH R.length (ownX R s) (ofX R s) t).1
  else if s.op = 5 then renF (fun j => (idxF (fun k => needB N R (R.getD k (0, []))) R.length).getD j 0) t
  else t

section
variable {T N : Nat} {R : List Ru} (hf : Fine T N R) {s : Stp} (hs : stepB N R s = true)

theorem step_kind (hs : stepB N R s = true) : s.op = 1 ∨ s.op = 2 ∨ s.op = 3 ∨ s.op = 4 ∨ s.op = 5 := by
  by_cases h1 : s.op = 1
  · exact .inl h1
  by_cases h2 : s.op = 2
  · exact .inr (.inl h2)
  by_cases h3 : s.op = 3
  · exact .inr (.inr (.inl h3))
  by_cases h4 : s.op = 4
  · exact .inr (.inr (.inr (.inl h4)))
  by_cases h5 : s.op = 5
  · exact .inr (.inr (.inr (.inr h5)))
  · exfalso
    unfold stepB at hs
    simp [h1, h2, h3, h4, h5] at hs
theorem inl_is {a b c : Int} (hs : stepB N R ⟨3, a, b, c⟩ = true) : ∃ l3, InIs R (doR N R ⟨3, a, b, c⟩) a.toNat ((R.getD a.toNat (0, [])).2.take b.toNat) l3 (nameOfX R ⟨3, a, b, c⟩) (shX R ⟨3, a, b, c⟩) (ushX R ⟨3, a, b, c⟩) (rkX R ⟨3, a, b, c⟩) (isX R ⟨3, a, b, c⟩) (manyX R) := by
  obtain ⟨l1, l3, X, sh, ush, rk, isIn, m, h, rfl, rfl, rfl, rfl, rfl, rfl, rfl⟩ := inline_is hs
  exact ⟨l3, h⟩
theorem swap_zero {a b c : Int} (hs : stepB N R ⟨1, a, b, c⟩ = true) : swapN a b 0 = 0 := by
  unfold stepB at hs
  simp only at hs
  rw [if_pos trivial] at hs
  simp only [Bool.and_eq_true, decide_eq_true_eq] at hs
  unfold swapN
  rw [if_neg (by omega), if_neg (by omega)]
theorem swap_back {a b c : Int} : ∀ q, q < (doR N R ⟨1, a, b, c⟩).length → R.getD q (0, []) = (swapN a b ((doR N R ⟨1, a, b, c⟩).getD q (0, [])).1, ((doR N R ⟨1, a, b, c⟩).getD q (0, [])).2.map (swapS a b)) := fun q hq => by
  obtain ⟨h1, h2⟩ := swap_at (N := N) (R := R) (a := a) (b := b) (c := c)
  rw [h2 q (by omega), swapN_swapN, List.map_map]
  have : ∀ l : List Sy, l.map (swapS a b ∘ swapS a b) = l := fun l => by
    induction l with
    | nil => rfl
    | cons x l ih =>
      rw [List.map_cons, ih]
      obtain ⟨t, n⟩ := x
      cases t with
      | true => rfl
      | false => show (false, swapN a b (swapN a b n)) :: l = _; rw [swapN_swapN]
  rw [this]

/-- And back. -/
theorem carry_back (hf : Fine T N R) (hs : stepB N R s = true) {t : Fo} (ht : okF (doR N R s) t [0]) : okF R (bakS N R s t) [0] ∧ yldF R (bakS N R s t) = yldF (doR N R s) t ∧ fwdS N R s (bakS N R s t) = t ∧ (flatFo (bakS N R s t)).length ≤ 2 * (flatFo t).length := by
  obtain ⟨op, a, b, c⟩ := s
  have hN := hf.some
  have h0 : ∀ n ∈ [(0 : Int)], n < (N : Int) := fun n hn => by rw [List.mem_singleton.1 hn]; omega
  rcases step_kind hs with h | h | h | h | h <;> simp only at h <;> subst h
  · obtain ⟨h1, h2⟩ := swap_at (N := N) (R := R) (a := a) (b := b) (c := c)
    obtain ⟨k1, k2⟩ := sw_fwd (R := doR N R ⟨1, a, b, c⟩) (R' := R) (swapN a b) (swapS a b) (swapS_is a b) h1.symm swap_back t _ ht
    rw [List.map_cons, List.map_nil, swap_zero hs] at k1
    exact ⟨k1, k2, rfl, by show (flatFo t).length ≤ _; omega⟩
  · obtain ⟨k1, k2, k3⟩ := ex_back (extract_is hf hs) _ t _ (Nat.lt_succ_self _) h0 ht
    refine ⟨k1, k2, k3, ?_⟩
    have := exB_flat a.toNat (aheadS R ⟨2, a, b, c⟩) t
    show (flatFo (exB a.toNat (aheadS R ⟨2, a, b, c⟩) t)).length ≤ _
    omega
  · obtain ⟨l3, hI⟩ := inl_is hs
    obtain ⟨k1, k2, k3⟩ := in_back hI _ t _ (Nat.lt_succ_self _) ht
    exact ⟨k1, k2, k3, inlB_flat _ _ _ _ _ _⟩
  · obtain ⟨k1, k2, k3⟩ := (le_back (left_is hf hs) _).1 t _ (Nat.lt_succ_self _) h0 ht
    refine ⟨k1, k2, k3, ?_⟩
    have hl := ((leG_flat (left_is hf hs) _).1 _ _ (Nat.lt_succ_self _) k1).1
    rw [k3] at hl
    show (flatFo (leH R.length (ownX R ⟨4, a, b, c⟩) (ofX R ⟨4, a, b, c⟩) t).1).length ≤ _
    exact Nat.le_trans hl (by omega)
  · have hP := prune_is hf (a := a) (b := b) (c := c)
    obtain ⟨k1, k2, k3⟩ := pr_back hP t _ ht
    refine ⟨k1, k2, k3, ?_⟩
    have := renF_flat (fun j => (idxF (fun k => needB N R (R.getD k (0, []))) R.length).getD j 0) t
    show (flatFo (renF (fun j => (idxF (fun k => needB N R (R.getD k (0, []))) R.length).getD j 0) t)).length ≤ _
    omega
end

end Go.Proofs.Ytikjekfpgklbdaa

/- How trees lie in memory. No walk. -/
namespace Go.Proofs.Ytikjekfpgklbdaa
open Go.RowKit

/-- Trees in a row lie at a, in blocks of A, from the i-th element on: each one's rule, and the slice of what is within. -/
def TrsAt (w : World) (A : Nat → Prop) : Fo → Option Addr → Nat → Prop
  | .no, _, _ => True
  | .nd q ks ts, a, i => (∃ b o ka kc, a = some ⟨b, o, none⟩ ∧ A b ∧ w.cell? ⟨b, o + i * 2, none⟩ = some (.int .i64 (q : Int)) ∧ w.cell? ⟨b, o + i * 2 + 1, none⟩ = some (.slice ka (lenF ks) kc) ∧ lenF ks ≤ kc ∧ TrsAt w A ks ka 0) ∧ TrsAt w A ts a (i + 1)
/-- Trees lie at a slice value, in blocks of A. -/
def FoIn (w : World) (A : Nat → Prop) (v : Value) (t : Fo) : Prop := ∃ a c, v = .slice a (lenF t) c ∧ lenF t ≤ c ∧ TrsAt w A t a 0

/-- Trees, one by one: the slice of what is within, the rule, what is within. -/
abbrev Tr := Value × Nat × Fo
def rowOf : List Tr → Fo
  | [] => .no
  | x :: L => .nd x.2.1 x.2.2 (rowOf L)
def trV (x : Tr) : List Value := [.int .i64 (x.2.1 : Int), x.1]
def flatT (L : List Tr) : List Value := L.flatMap trV

section
variable {w w' : World} {v : Value} {t : Fo}
theorem TrsAt.kept {A A' : Nat → Prop} (hb : ∀ b, A b → b < w.heap.size → w'.heap[b]? = w.heap[b]? ∧ A' b) : ∀ (t : Fo) (a : Option Addr) (i : Nat), TrsAt w A t a i → TrsAt w' A' t a i
  | .no, _, _, _ => trivial
  | .nd _ ks ts, a, i, ⟨⟨b, o, ka, kc, h1, hA, h2, h3, h4, h5⟩, h6⟩ =>
    have hk := hb b hA (World.block_lt_of_cell? _ _ h2)
    ⟨⟨b, o, ka, kc, h1, hk.2, (World.cell?_of_block (w := w) hk.1).trans h2, (World.cell?_of_block (w := w) hk.1).trans h3, h4, TrsAt.kept hb ks ka 0 h5⟩, TrsAt.kept hb ts a (i + 1) h6⟩
theorem FoIn.kept {A A' : Nat → Prop} (h : FoIn w A v t) (hb : ∀ b, A b → b < w.heap.size → w'.heap[b]? = w.heap[b]? ∧ A' b) : FoIn w' A' v t :=
  let ⟨a, c, h1, h2, h3⟩ := h
  ⟨a, c, h1, h2, TrsAt.kept hb t a 0 h3⟩
theorem FoIn.below {A : Nat → Prop} (h : FoIn w A v t) (hb : Below w.heap.size w w') : FoIn w' A v t := h.kept fun b hA hlt => ⟨hb.block b hlt, hA⟩
theorem foIn_nil (w : World) (A : Nat → Prop) : FoIn w A (.slice none 0 0) .no := ⟨none, 0, rfl, Nat.le_refl _, trivial⟩

theorem rowOf_len (L : List Tr) : lenF (rowOf L) = L.length := by
  induction L with
  | nil => rfl
  | cons x L ih => rw [rowOf, lenF, ih, List.length_cons]
theorem rowOf_app (L M : List Tr) : rowOf (L ++ M) = appF (rowOf L) (rowOf M) := by
  induction L with
  | nil => rfl
  | cons x L ih => rw [List.cons_append, rowOf, rowOf, appF, ih]
theorem rowOf_take (L : List Tr) (i : Nat) : rowOf (L.take i) = takeF i (rowOf L) := by
  induction L generalizing i with
  | nil => cases i <;> rfl
  | cons x L ih =>
    cases i with
    | zero => rfl
    | succ i => rw [List.take_succ_cons, rowOf, rowOf, takeF, ih]
theorem rowOf_drop (L : List Tr) (i : Nat) : rowOf (L.drop i) = dropF i (rowOf L) := by
  induction L generalizing i with
  | nil => cases i <;> rfl
  | cons x L ih =>
    cases i with
    | zero => rfl
    | succ i => rw [List.drop_succ_cons, rowOf, dropF, ih]
theorem flatT_len (L : List Tr) : (flatT L).length = L.length * 2 := by
  unfold flatT
  induction L with
  | nil => rfl
  | cons a L ih => rw [List.flatMap_cons, List.length_append, ih]; simp [trV]; omega
theorem flatT_append (L M : List Tr) : flatT (L ++ M) = flatT L ++ flatT M := by simp [flatT]
theorem flatT_get {L : List Tr} {i j : Nat} (hi : i < L.length) (hj : j < 2) : (flatT L)[i * 2 + j]? = (trV L[i])[j]? := by
  unfold flatT
  induction L generalizing i with
  | nil => simp at hi
  | cons a L ih =>
    rw [List.flatMap_cons]
    cases i with
    | zero => rw [List.getElem?_append_left (by simp [trV]; omega)]; simp
    | succ i =>
      rw [List.getElem?_append_right (by simp [trV]; omega)]
      simp only [trV, List.length_cons, List.length_nil]
      rw [show (i + 1) * 2 + j - (0 + 1 + 1) = i * 2 + j by omega]
      have := ih (i := i) (by simpa using hi)
      simpa [trV] using this
/-- Trees, one by one, as they lie. -/
structure TrIn (w : World) (A : Nat → Prop) (v : Value) (L : List Tr) : Prop where
  form : ∃ a c, v = .slice a L.length c ∧ L.length ≤ c
  cells : ∀ k (hk : k < L.length), ∃ b o c, v = .slice (some ⟨b, o, none⟩) L.length c ∧ A b ∧ w.cell? ⟨b, o + k * 2, none⟩ = some (.int .i64 (L[k].2.1 : Int)) ∧ w.cell? ⟨b, o + k * 2 + 1, none⟩ = some L[k].1
  kids : ∀ x ∈ L, FoIn w A x.1 x.2.2

theorem TrIn.kept {A A' : Nat → Prop} {L : List Tr} (h : TrIn w A v L) (hb : ∀ b, A b → b < w.heap.size → w'.heap[b]? = w.heap[b]? ∧ A' b) : TrIn w' A' v L :=
  ⟨h.form, fun k hk => let ⟨b, o, c, h1, hA, h2, h3⟩ := h.cells k hk
    have hk := hb b hA (World.block_lt_of_cell? _ _ h2)
    ⟨b, o, c, h1, hk.2, (World.cell?_of_block (w := w) hk.1).trans h2, (World.cell?_of_block (w := w) hk.1).trans h3⟩, fun x hx => (h.kids x hx).kept hb⟩
theorem TrIn.below {A : Nat → Prop} {L : List Tr} (h : TrIn w A v L) (hb : Below w.heap.size w w') : TrIn w' A v L := h.kept fun b hA hlt => ⟨hb.block b hlt, hA⟩
theorem TrIn.one {A : Nat → Prop} {L : List Tr} (h : TrIn w A v L) : ∀ u ∈ flatT L, u.oneCell' = true := fun u hu => by
  unfold flatT at hu
  obtain ⟨x, hx, hu⟩ := List.mem_flatMap.1 hu
  obtain ⟨a', c', e, _⟩ := h.kids x hx
  simp only [trV, List.mem_cons, List.not_mem_nil, or_false] at hu
  rcases hu with rfl | rfl
  · rfl
  · rw [e]; rfl
theorem TrIn.row {A : Nat → Prop} {L : List Tr} (h : TrIn w A v L) : RowAt w v L.length (flatT L) := by
  refine ⟨h.form, flatT_len L, h.one, fun hm => ?_⟩
  obtain ⟨b, o, c, rfl, _, _, _⟩ := h.cells 0 hm
  refine ⟨_, _, rfl, fun j u hu => ?_⟩
  have hj := (List.getElem?_eq_some_iff.1 hu).1
  rw [flatT_len] at hj
  obtain ⟨b', o', c', e, _, c1, c2⟩ := h.cells (j / 2) (by omega)
  cases e
  rw [Addr.add_lit]
  rcases Nat.mod_two_eq_zero_or_one j with h5 | h5
  · have e : j = j / 2 * 2 + 0 := by omega
    rw [e, flatT_get (by omega) (by omega)] at hu
    simp only [trV, List.getElem?_cons_zero, Option.some.injEq] at hu
    rw [← hu, ← c1]
    congr 2
    omega
  · have e : j = j / 2 * 2 + 1 := by omega
    rw [e, flatT_get (by omega) (by omega)] at hu
    simp only [trV, List.getElem?_cons_succ, List.getElem?_cons_zero, Option.some.injEq] at hu
    rw [← hu, ← c2]
    congr 2
    omega
/-- A row of one's own. -/
theorem own_trIn {A : Nat → Prop} {B : Nat} {L : List Tr} (h : w.ownsRow B 70 2 v L.length (flatT L)) (hA : ∀ g, v.ownBlock = some g → A g) (hk : ∀ x ∈ L, FoIn w A x.1 x.2.2) : TrIn w A v L := by
  have hh := h
  obtain ⟨_, ⟨hv, h0⟩ | ⟨g, cap, cur, hv, _, _, hle, _⟩⟩ := hh
  · exact ⟨⟨none, 0, by rw [hv, h0], by omega⟩, fun k hk => by omega, hk⟩
  · subst hv
    refine ⟨⟨_, _, rfl, hle⟩, fun k hkl => ⟨g, 0, cap, rfl, hA g rfl, ?_, ?_⟩, hk⟩
    · rw [Nat.zero_add, h.cellAt (k * 2) (by omega)]
      exact flatT_get (j := 0) hkl (by omega)
    · rw [Nat.zero_add, h.cellAt (k * 2 + 1) (by omega)]
      exact flatT_get (j := 1) hkl (by omega)
theorem trs_of {A : Nat → Prop} {L : List Tr} {a : Option Addr} (hk : ∀ x ∈ L, FoIn w A x.1 x.2.2) : ∀ (i : Nat), (∀ k (hk : k < L.length), ∃ b o, a = some ⟨b, o, none⟩ ∧ A b ∧ w.cell? ⟨b, o + (i + k) * 2, none⟩ = some (.int .i64 (L[k].2.1 : Int)) ∧ w.cell? ⟨b, o + (i + k) * 2 + 1, none⟩ = some L[k].1) → TrsAt w A (rowOf L) a i := by
  induction L with
  | nil => intro i _; trivial
  | cons x L ih =>
    intro i hc
    obtain ⟨b, o, e, hA, c1, c2⟩ := hc 0 (by simp)
    obtain ⟨ka, kc, e2, hle, hT⟩ := hk x (by simp)
    refine ⟨⟨b, o, ka, kc, e, hA, by simpa using c1, by rw [← e2]; simpa using c2, hle, hT⟩, ih (fun y hy => hk y (by simp [hy])) (i + 1) fun k hk' => ?_⟩
    obtain ⟨b', o', e', hA', d1, d2⟩ := hc (k + 1) (by simpa using hk')
    refine ⟨b', o', e', hA', ?_, ?_⟩
    · rw [show i + 1 + k = i + (k + 1) by omega]; simpa using d1
    · rw [show i + 1 + k = i + (k + 1) by omega]; simpa using d2
theorem TrIn.fo {A : Nat → Prop} {L : List Tr} (h : TrIn w A v L) : FoIn w A v (rowOf L) := by
  obtain ⟨a, c, rfl, hle⟩ := h.form
  refine ⟨a, c, by rw [rowOf_len], by rw [rowOf_len]; exact hle, trs_of h.kids 0 fun k hk => ?_⟩
  obtain ⟨b, o, c', e, hA, c1, c2⟩ := h.cells k hk
  cases e
  exact ⟨b, o, rfl, hA, by rw [Nat.zero_add]; exact c1, by rw [Nat.zero_add]; exact c2⟩
theorem TrIn.take {A : Nat → Prop} {L : List Tr} {a : Option Addr} {c f : Nat} (h : TrIn w A (.slice a L.length c) L) (hf : f ≤ L.length) : TrIn w A (.slice a f c) (L.take f) := by
  have hl : (L.take f).length = f := by rw [List.length_take]; omega
  obtain ⟨_, _, hv, hle⟩ := h.form
  cases hv
  refine ⟨⟨a, c, by rw [hl], by omega⟩, fun k hk => ?_, fun x hx => h.kids x (List.mem_of_mem_take hx)⟩
  obtain ⟨b, o, c', e, hA, c1, c2⟩ := h.cells k (by omega)
  cases e
  exact ⟨b, o, c, by rw [hl], hA, by simpa using c1, by simpa using c2⟩
theorem TrIn.drop {B : Nat → Prop} {L : List Tr} {a A : Option Addr} {c f m : Nat} (h : TrIn w B (.slice a L.length c) L) (hf : L.length = f + m) (hA : c ≠ f → A = a.map (·.add (f * 2))) : TrIn w B (.slice A m (c - f)) (L.drop f) := by
  have hl : (L.drop f).length = m := by rw [List.length_drop]; omega
  obtain ⟨_, _, hv, hle⟩ := h.form
  cases hv
  refine ⟨⟨A, c - f, by rw [hl], by omega⟩, fun k hk => ?_, fun x hx => h.kids x (List.mem_of_mem_drop hx)⟩
  obtain ⟨b, o, c', e, hB, c1, c2⟩ := h.cells (f + k) (by omega)
  cases e
  have hA' := hA (by omega)
  simp only [Option.map_some, Addr.add_lit] at hA'
  subst hA'
  refine ⟨b, o + f * 2, c - f, by rw [hl], hB, ?_, ?_⟩
  · rw [show o + f * 2 + k * 2 = o + (f + k) * 2 by omega]; simpa using c1
  · rw [show o + f * 2 + k * 2 + 1 = o + (f + k) * 2 + 1 by omega]; simpa using c2

/-- Out of trees that lie, one by one. -/
theorem trs_list {A : Nat → Prop} : ∀ (t : Fo) (a : Option Addr) (i : Nat), TrsAt w A t a i → ∃ L, rowOf L = t ∧ (∀ k (hk : k < L.length), ∃ b o, a = some ⟨b, o, none⟩ ∧ A b ∧ w.cell? ⟨b, o + (i + k) * 2, none⟩ = some (.int .i64 (L[k].2.1 : Int)) ∧ w.cell? ⟨b, o + (i + k) * 2 + 1, none⟩ = some L[k].1) ∧ ∀ x ∈ L, FoIn w A x.1 x.2.2
  | .no, _, _, _ => ⟨[], rfl, fun k hk => absurd hk (Nat.not_lt_zero _), fun x hx => by cases hx⟩
  | .nd q ks ts, a, i, ⟨⟨b, o, ka, kc, h1, hA, h2, h3, h4, h5⟩, h6⟩ => by
    obtain ⟨L, hL, hc, hk⟩ := trs_list ts a (i + 1) h6
    refine ⟨(.slice ka (lenF ks) kc, q, ks) :: L, by rw [rowOf, hL], fun k hkl => ?_, fun x hx => ?_⟩
    · cases k with
      | zero => exact ⟨b, o, h1, hA, h2, h3⟩
      | succ k =>
        obtain ⟨b', o', e, hA', c1, c2⟩ := hc k (by simpa using hkl)
        refine ⟨b', o', e, hA', ?_, ?_⟩
        · rw [show i + (k + 1) = i + 1 + k by omega]; simpa using c1
        · rw [show i + (k + 1) = i + 1 + k by omega]; simpa using c2
    · rcases List.mem_cons.1 hx with rfl | hx
      · exact ⟨ka, kc, rfl, h4, h5⟩
      · exact hk x hx
theorem FoIn.list {A : Nat → Prop} (h : FoIn w A v t) : ∃ L, rowOf L = t ∧ TrIn w A v L := by
  obtain ⟨a, c, rfl, hle, hT⟩ := h
  obtain ⟨L, rfl, hc, hk⟩ := trs_list t a 0 hT
  rw [rowOf_len] at hle ⊢
  refine ⟨L, rfl, ⟨_, _, rfl, hle⟩, fun k hkl => ?_, hk⟩
  obtain ⟨b, o, rfl, hA, c1, c2⟩ := hc k hkl
  rw [Nat.zero_add] at c1 c2
  exact ⟨b, o, c, rfl, hA, c1, c2⟩
end

end Go.Proofs.Ytikjekfpgklbdaa

/- The contract of package step's extractOf. -/
namespace Go.Proofs.Ytikjekfpgklbdaa
open Go.RowKit

/-- The carrier's box, and the rules. -/
structure KBox (w : World) (T N : Int) (ra : Option Addr) (rc : Nat) (R : List Ru) (op a b c : Int) (wq : World) : Prop where
  blk : wq.heap[w.heap.size]? = some (.cells #[.int .i64 T, .int .i64 N, .slice ra R.length rc, .int .i64 op, .int .i64 a, .int .i64 b, .int .i64 c] 66 (0, 0))
  rules : RulesAt wq w.heap.size (.slice ra R.length rc) R
  below : Below w.heap.size w wq

section
variable {w wq w' : World} {T N : Int} {ra : Option Addr} {rc : Nat} {R : List Ru} {op a b c : Int}
theorem KBox.size (h : KBox w T N ra rc R op a b c wq) : w.heap.size + 1 ≤ wq.heap.size := (Array.getElem?_eq_some_iff.1 h.blk).1
theorem KBox.next (h : KBox w T N ra rc R op a b c wq) (hb : Below wq.heap.size wq w') : KBox w T N ra rc R op a b c w' :=
  ⟨(hb.block _ h.size).trans h.blk, h.rules.below (hb.mono (Nat.le_trans (by omega) h.size)), h.below.trans (hb.mono (Nat.le_trans (by omega) h.size))⟩
theorem KBox.x0 (h : KBox w T N ra rc R op a b c wq) : wq.cell? ⟨w.heap.size, 0, none⟩ = some (.int .i64 T) := cell_of_blk h.blk rfl
theorem KBox.x1 (h : KBox w T N ra rc R op a b c wq) : wq.cell? ⟨w.heap.size, 1, none⟩ = some (.int .i64 N) := cell_of_blk h.blk rfl
theorem KBox.x2 (h : KBox w T N ra rc R op a b c wq) : wq.cell? ⟨w.heap.size, 2, none⟩ = some (.slice ra R.length rc) := cell_of_blk h.blk rfl
theorem KBox.x3 (h : KBox w T N ra rc R op a b c wq) : wq.cell? ⟨w.heap.size, 3, none⟩ = some (.int .i64 op) := cell_of_blk h.blk rfl
theorem KBox.x4 (h : KBox w T N ra rc R op a b c wq) : wq.cell? ⟨w.heap.size, 4, none⟩ = some (.int .i64 a) := cell_of_blk h.blk rfl
theorem KBox.x5 (h : KBox w T N ra rc R op a b c wq) : wq.cell? ⟨w.heap.size, 5, none⟩ = some (.int .i64 b) := cell_of_blk h.blk rfl
theorem KBox.x6 (h : KBox w T N ra rc R op a b c wq) : wq.cell? ⟨w.heap.size, 6, none⟩ = some (.int .i64 c) := cell_of_blk h.blk rfl
theorem KBox.all (h : KBox w T N ra rc R op a b c wq) : RulesAt wq wq.heap.size (.slice ra R.length rc) R := h.rules.mono (Nat.le_trans (by omega) h.size)
theorem kbox_start (hr : RulesAt w w.heap.size (.slice ra R.length rc) R) : KBox w T N ra rc R op a b c (w.alloc (.cells #[.int .i64 T, .int .i64 N, .slice ra R.length rc, .int .i64 op, .int .i64 a, .int .i64 b, .int .i64 c] 66)) := by
  have hB : Below w.heap.size w (w.alloc (.cells #[.int .i64 T, .int .i64 N, .slice ra R.length rc, .int .i64 op, .int .i64 a, .int .i64 b, .int .i64 c] 66)) := (Below.refl _ _).alloc (Nat.le_refl _) _
  exact ⟨heap_alloc_new _ _, hr.below hB, hB⟩
end

set_option maxRecDepth 100000 in
set_option maxHeartbeats 6400000 in
theorem st_extractOf_no {w : World} {T N : Int} {ra : Option Addr} {rc : Nat} {R : List Ru} {op a b c : Int} (hr : RulesAt w w.heap.size (.slice ra R.length rc) R) (hs : ¬ (0 ≤ a ∧ a < (R.length : Int) ∧ 0 ≤ b ∧ b < c ∧ c ≤ ((R.getD a.toNat (0, [])).2.length : Int))) :
    Calls Try.prog 27 #[.agg #[.int .i64 T, .int .i64 N, .slice ra R.length rc, .int .i64 op, .int .i64 a, .int .i64 b, .int .i64 c]] w fun e w' => e = .returned (.tuple #[.nilIface, .bool false]) ∧ Below w.heap.size w w' := by
  have hK := kbox_start (T := T) (N := N) (op := op) (a := a) (b := b) (c := c) hr
  obtain ⟨W0, hW0⟩ : ∃ W, w.alloc (.cells #[.int .i64 T, .int .i64 N, .slice ra R.length rc, .int .i64 op, .int .i64 a, .int .i64 b, .int .i64 c] 66) = W := ⟨_, rfl⟩
  rw [hW0] at hK
  have x2 := hK.x2
  have x4 := hK.x4
  have x5 := hK.x5
  have x6 := hK.x6
  have HB : Hid (Below w.heap.size w W0) := hK.below
  have ia := st_isBelow (w := W0) (n := a) (m := (R.length : Int))
  cases hA : (decide (0 ≤ a) && decide (a < (R.length : Int))) with
  | false =>
    rw [hA] at ia
    clear hK hr hs hA
    go_enter Try.func27, Try.ntmps27
    go_wp2_with (go_at_call 36; refine ia.mono ?_; rintro e w2 ⟨rfl, rfl⟩)
    refine bodyPost_ret (v := .tuple #[.nilIface, .bool false]) (by simp [results, Try.results27, go_sem]) rfl ?_
    exact ⟨rfl, HB.out⟩
  | true =>
    rw [hA] at ia
    simp only [Bool.and_eq_true, decide_eq_true_eq] at hA
    obtain ⟨ka, rfl⟩ : ∃ ka : Nat, a = ka := ⟨a.toNat, by omega⟩
    have hk : ka < R.length := by omega
    obtain ⟨b0, o0, rc0, qa, qc, hv, _, k1, k2, _⟩ := hK.rules.syms hk
    cases hv
    rw [Int.toNat_natCast] at hs
    obtain ⟨n, hn⟩ : ∃ n, (R.getD ka (0, [])).2.length = n := ⟨_, rfl⟩
    rw [hn] at k2 hs
    have i0 : (0 : Int) ≤ (ka : Int) := Int.natCast_nonneg _
    have i1 : (ka : Int) < (R.length : Int) := by omega
    have ib := st_isBelow (w := W0) (n := b) (m := c)
    by_cases hc : (n : Int) < c
    · clear hK hr hs hn k1 ib hA
      go_enter Try.func27, Try.ntmps27
      go_wp2_with (go_at_call 36; refine ia.mono ?_; rintro e w2 ⟨rfl, rfl⟩)
      refine bodyPost_ret (v := .tuple #[.nilIface, .bool false]) (by simp [results, Try.results27, go_sem]) rfl ?_
      exact ⟨rfl, HB.out⟩
    · have hBb : (decide (0 ≤ b) && decide (b < c)) = false := by
        cases h : (decide (0 ≤ b) && decide (b < c)) with
        | false => rfl
        | true =>
          simp only [Bool.and_eq_true, decide_eq_true_eq] at h
          exact absurd ⟨i0, i1, h.1, h.2, by omega⟩ hs
      rw [hBb] at ib
      have ec : decide ((n : Int) < c) = false := decide_eq_false hc
      clear hK hr hs hn k1 hBb hA hc
      go_enter Try.func27, Try.ntmps27
      go_wp2_with
        (first
         | (go_at_call 36; refine ia.mono ?_; rintro e w2 ⟨rfl, rfl⟩; clear ia)
         | (go_at_call 36; refine ib.mono ?_; rintro e w2 ⟨rfl, rfl⟩))
      refine bodyPost_ret (v := .tuple #[.nilIface, .bool false]) (by simp [results, Try.results27, go_sem]) rfl ?_
      exact ⟨rfl, HB.out⟩

set_option maxRecDepth 100000 in
set_option maxHeartbeats 6400000 in
theorem st_extractOf_yes {w : World} {T N : Int} {ra : Option Addr} {rc : Nat} {R : List Ru} {op : Int} {ka bn cn m : Nat} {L : Int} {l : List Sy} (hr : RulesAt w w.heap.size (.slice ra R.length rc) R) (hk : ka < R.length) (hx : R.getD ka (0, []) = (L, l)) (hbc : bn < cn) (hcl : l.length = cn + m) (hl8 : l.length ≤ 1000) :
    Calls Try.prog 27 #[.agg #[.int .i64 T, .int .i64 N, .slice ra R.length rc, .int .i64 op, .int .i64 ka, .int .i64 bn, .int .i64 cn]] w fun e w' => e = .returned (.tuple #[.iface 86 (.agg #[.int .i64 T, .int .i64 N, .slice ra R.length rc, .int .i64 op, .int .i64 ka, .int .i64 bn, .int .i64 cn, .int .i64 (namesS (l.take bn)).length, .int .i64 (namesS (l.take cn)).length]), .bool true]) ∧ Below w.heap.size w w' := by
  have hK := kbox_start (T := T) (N := N) (op := op) (a := ka) (b := bn) (c := cn) hr
  obtain ⟨W0, hW0⟩ : ∃ W, w.alloc (.cells #[.int .i64 T, .int .i64 N, .slice ra R.length rc, .int .i64 op, .int .i64 ka, .int .i64 bn, .int .i64 cn] 66) = W := ⟨_, rfl⟩
  rw [hW0] at hK
  have x2 := hK.x2
  have x4 := hK.x4
  have x5 := hK.x5
  have x6 := hK.x6
  have ia := st_isBelow (w := W0) (n := ka) (m := (R.length : Int))
  have ib := st_isBelow (w := W0) (n := bn) (m := cn)
  obtain ⟨b0, o0, rc0, qa, qc, hv, _, k1, k2, hsy⟩ := hK.rules.syms hk
  cases hv
  rw [hx] at k1 k2 hsy
  simp only at k1 k2 hsy
  have hqc : l.length ≤ qc := by obtain ⟨_, _, hv, hle⟩ := hsy.1; cases hv; exact hle
  obtain ⟨ad, rfl⟩ := hsy.someG (by omega)
  rw [hcl] at k2 hqc
  have i0 : (0 : Int) ≤ (ka : Int) := Int.natCast_nonneg _
  have i1 : (ka : Int) < (R.length : Int) := by omega
  have j0 : (0 : Int) ≤ (bn : Int) := Int.natCast_nonneg _
  have j1 : (bn : Int) < (cn : Int) := by omega
  rw [decide_eq_true i0, decide_eq_true i1] at ia
  rw [decide_eq_true j0, decide_eq_true j1] at ib
  have ec : decide (((cn + m : Nat) : Int) < (cn : Int)) = false := decide_eq_false (by omega)
  have HK : Hid (KBox w T N (some ⟨b0, o0, none⟩) rc R op ka bn cn W0) := hK
  have HSy : Hid (∀ wq, Below W0.heap.size W0 wq → SymsAt wq (.slice (some ad) l.length qc) l) := fun wq hq => hsy.same (same_below hq)
  have HX : Hid (l.length = cn + m) := hcl
  have hup1 := fun w => sy_uptoG (ad := ad) (f := bn) (sl := cn + m) (lc := qc) (fi := (bn : Int)) rfl (by omega) w
  have hup2 := fun w => sy_uptoG (ad := ad) (f := cn) (sl := cn + m) (lc := qc) (fi := (cn : Int)) rfl (by omega) w
  clear hK hr hx hcl hsy k1
  go_enter Try.func27, Try.ntmps27
  go_upto_region 6 with
    (first
     | (go_at_call 36; with_reducible refine ia.mono ?_; rintro e w2 ⟨rfl, h2⟩; obtain rfl : W0 = w2 := h2.symm; clear ia)
     | (go_at_call 36; with_reducible refine ib.mono ?_; rintro e w2 ⟨rfl, h2⟩; obtain rfl : W0 = w2 := h2.symm; clear ib))
  obtain ⟨Wd, hWd⟩ : ∃ W, W0.drew = W := ⟨_, rfl⟩
  have hBd : Below W0.heap.size W0 Wd := by rw [← hWd]; exact (Below.refl _ _).drew
  have HKd : Hid (∀ wq, Below Wd.heap.size Wd wq → KBox w T N (some ⟨b0, o0, none⟩) rc R op ka bn cn wq ∧ SymsAt wq (.slice (some ad) l.length qc) l) := fun wq hq => by
    have h1 : Below W0.heap.size W0 wq := hBd.trans (hq.mono hBd.size)
    exact ⟨HK.out.next h1, HSy.out wq h1⟩
  have HSS : Hid (∀ wq, Below Wd.heap.size Wd wq → wq.cell? ⟨w.heap.size, 0, none⟩ = some (.int .i64 T) ∧ wq.cell? ⟨w.heap.size, 1, none⟩ = some (.int .i64 N) ∧ wq.cell? ⟨w.heap.size, 2, none⟩ = some (.slice (some ⟨b0, o0, none⟩) R.length rc) ∧ wq.cell? ⟨w.heap.size, 3, none⟩ = some (.int .i64 op) ∧ wq.cell? ⟨w.heap.size, 4, none⟩ = some (.int .i64 ka) ∧ wq.cell? ⟨w.heap.size, 5, none⟩ = some (.int .i64 bn) ∧ wq.cell? ⟨w.heap.size, 6, none⟩ = some (.int .i64 cn)) := fun wq hq =>
    let h := (HKd.out wq hq).1
    ⟨h.x0, h.x1, h.x2, h.x3, h.x4, h.x5, h.x6⟩
  have S0 := HSS.out Wd (Below.refl _ _)
  clear hBd x2 x4 x5 x6 k2 hW0
  refine wp_region_mix [0, 1, 2, 3, 4, 5, 7, 8, 9, 10, 11] 6 16 (fun wq => wq.cell? ⟨w.heap.size, 0, none⟩ = some (.int .i64 T) ∧ wq.cell? ⟨w.heap.size, 1, none⟩ = some (.int .i64 N) ∧ wq.cell? ⟨w.heap.size, 2, none⟩ = some (.slice (some ⟨b0, o0, none⟩) R.length rc) ∧ wq.cell? ⟨w.heap.size, 3, none⟩ = some (.int .i64 op) ∧ wq.cell? ⟨w.heap.size, 4, none⟩ = some (.int .i64 ka) ∧ wq.cell? ⟨w.heap.size, 5, none⟩ = some (.int .i64 bn) ∧ wq.cell? ⟨w.heap.size, 6, none⟩ = some (.int .i64 cn)) (by kernel_rfl) (by kernel_rfl) (by rw [hWd]; exact S0) ?_
  rw [hWd]
  clear hWd S0
  iterate 11
    refine StillI.con8 (v := ?_) rfl (by rfl) ?_ ?_
    rotate_left
    · intro w' hSw
      obtain ⟨z0, z1, z2, z3, z4, z5, z6⟩ := hSw
      go_simp
      try with_reducible rfl
    simp only [Act.put, List.setIfInBounds_toArray, List.set_cons_zero, List.set_cons_succ]
  rw [StillI]
  have n1 := st_namesIn (w := Wd) ((HKd.out Wd (Below.refl _ _)).2.takeG (f := bn) (by rw [HX.out]; omega)) (by rw [List.length_take]; omega)
  refine TailC.one (i := 6) (by kernel_rfl) ⟨_, rfl, fun K hK => ?_⟩
  go_simp
  refine n1.mono ?_
  rintro e w3 ⟨rfl, hB3⟩
  dsimp only
  refine hK.out _ _ (fun _ => HSS.out _ hB3) ?_
  clear hK n1
  have n2 := st_namesIn (w := w3) ((HKd.out w3 hB3).2.takeG (f := cn) (by rw [HX.out]; omega)) (by rw [List.length_take]; omega)
  refine TailC.one (i := 12) (by kernel_rfl) ⟨_, rfl, fun K hK => ?_⟩
  go_simp
  refine n2.mono ?_
  rintro e w4 ⟨rfl, hB4⟩
  dsimp only
  have hB4' : Below Wd.heap.size Wd w4 := hB3.trans (hB4.mono hB3.size)
  refine hK.out _ _ (fun _ => HSS.out _ hB4') ?_
  clear hK n2
  refine TailC.one (i := 13) (by kernel_rfl) ⟨_, rfl, fun K hK => ?_⟩
  go_simp
  refine hK.out _ _ (fun _ => HSS.out _ hB4') ?_
  clear hK
  refine TailC.one (i := 14) (by kernel_rfl) ⟨_, rfl, fun K hK => ?_⟩
  go_simp
  refine hK.out _ _ (fun _ => HSS.out _ hB4') ?_
  clear hK
  refine TailC.one (i := 15) (by kernel_rfl) ⟨_, rfl, fun K hK => ?_⟩
  go_simp
  refine hK.out _ _ (fun _ => HSS.out _ hB4') ?_
  clear hK
  refine TailC.last (i := 16) (by kernel_rfl) ⟨_, rfl, fun K hK => ?_⟩
  go_simp
  refine hK.out _ _ (fun h => absurd h (by omega)) (NoPanic.normal ?_)
  clear hK
  go_wp2_with fail
  refine bodyPost_ret (v := .tuple #[.iface 86 (.agg #[.int .i64 T, .int .i64 N, .slice (some ⟨b0, o0, none⟩) R.length rc, .int .i64 op, .int .i64 ka, .int .i64 bn, .int .i64 cn, .int .i64 (namesS (l.take bn)).length, .int .i64 (namesS (l.take cn)).length]), .bool true]) (by simp [results, Try.results27, go_sem]) rfl ?_
  exact ⟨rfl, (HKd.out w4 hB4').1.below⟩

end Go.Proofs.Ytikjekfpgklbdaa
