import Derived.Test.YtkkcmcckdaobmaaSpreadMathAndLooksMath
import Derived.Test.YtkkcmcckdaobmaaMay1AndSets2Mem
import Derived.Test.YtkkcmcckdaobmaaRows
import Derived.Test.YtkkcmcckdaobmaaMathAndNull2
import Derived.WalkKit
import Derived.WalkSpells
import Derived.Deep.QuietTactic
import Derived.BigQuiet
import Derived.StillTailTactics
import Derived.Test.YtkkcmcckdaobmaaAuto6AndBits
/- Plain: what pollardingref2.Of makes are the least sets. -/
namespace Go.Proofs.Ytkkcmcckdaobmaa

/-- The table says so of the name n. -/
def hasN (X : List Bool) (n : Int) : Prop := 0 ≤ n ∧ X.getD n.toNat false = true
def has2 (F : List (List Bool)) (t : Nat) (n : Int) : Prop := 0 ≤ n ∧ (F.getD n.toNat []).getD t false = true

theorem hasN_set {X : List Bool} {l : Nat} (hl : l < X.length) {n : Int} : hasN (X.set l true) n ↔ n = (l : Int) ∨ hasN X n := by
  unfold hasN
  constructor
  · rintro ⟨h0, h1⟩
    by_cases e : n.toNat = l
    · exact .inl (by omega)
    · right
      refine ⟨h0, ?_⟩
      rw [← h1]
      simp [List.getD, List.getElem?_set_ne (fun h => e h.symm)]
  · rintro (rfl | ⟨h0, h1⟩)
    · exact ⟨by omega, by simp [List.getD, hl]⟩
    · refine ⟨h0, ?_⟩
      by_cases e : n.toNat = l
      · subst e; simp [List.getD, hl]
      · rw [← h1]; simp [List.getD, List.getElem?_set_ne (fun h => e h.symm)]

theorem has2_set {F : List (List Bool)} {l t : Nat} (hl : l < F.length) (ht : t < (F.getD l []).length) {u : Nat} {n : Int} : has2 (set2 F l t) u n ↔ (n = (l : Int) ∧ u = t) ∨ has2 F u n := by
  unfold has2
  rw [set2_get]
  by_cases e : n.toNat = l
  · rw [if_pos ⟨e, hl⟩]
    by_cases eu : u = t
    · subst eu
      constructor
      · rintro ⟨h0, _⟩; exact .inl ⟨by omega, rfl⟩
      · intro h
        have h0 : 0 ≤ n := by rcases h with ⟨rfl, _⟩ | ⟨h, _⟩ <;> omega
        exact ⟨h0, by generalize F.getD l [] = X at ht; simp [List.getD, ht]⟩
    · have : ((F.getD l []).set t true).getD u false = (F.getD l []).getD u false := by generalize F.getD l [] = X; simp [List.getD, List.getElem?_set_ne (fun h => eu h.symm)]
      rw [this, e]
      constructor
      · intro h; exact .inr h
      · rintro (⟨_, h⟩ | h)
        · exact absurd h eu
        · exact h
  · rw [if_neg (fun h => e h.1)]
    constructor
    · intro h; exact .inr h
    · rintro (⟨rfl, _⟩ | h)
      · exact absurd (by omega) e
      · exact h

theorem nullB_iff {X : List Bool} {l : List Sy} (h : ∀ s ∈ l, s.1 = false → 0 ≤ s.2) : nullB X l = true ↔ AllN (hasN X) l := by
  unfold nullB AllN hasN
  rw [List.all_eq_true]
  constructor
  · intro hh s hs
    have := hh s hs
    simp only [Bool.and_eq_true, Bool.not_eq_true'] at this
    exact ⟨this.1, h s hs this.1, this.2⟩
  · intro hh s hs
    obtain ⟨h1, _, h2⟩ := hh s hs
    rw [h1, h2]
    rfl

theorem begB_iff {X : List Bool} {F : List (List Bool)} {t : Nat} {l : List Sy} (h : ∀ s ∈ l, s.1 = false → 0 ≤ s.2) : begB X F t l = true ↔ Beg (hasN X) (has2 F t) t l := by
  unfold begB Beg
  rw [List.any_eq_true]
  constructor
  · rintro ⟨i, hi, hh⟩
    have hil : i < l.length := List.mem_range.1 hi
    simp only [Bool.and_eq_true] at hh
    have e : l.getD i (false, 0) = l[i] := by simp [List.getD, hil]
    rw [e] at hh
    refine ⟨i, l[i], by simp [hil], ?_, (nullB_iff fun s hs => h s (List.mem_of_mem_take hs)).1 hh.1⟩
    have hh2 := hh.2
    unfold hitB at hh2
    cases hb : (l[i]).1 with
    | true => rw [hb] at hh2; exact .inl ⟨rfl, by simpa using hh2⟩
    | false => rw [hb] at hh2; exact .inr ⟨rfl, h _ (List.getElem_mem hil) hb, by simpa using hh2⟩
  · rintro ⟨i, s, hs, hh, hn⟩
    have hil : i < l.length := (List.getElem?_eq_some_iff.1 hs).1
    have e : l.getD i (false, 0) = s := by simp [List.getD, hs]
    refine ⟨i, List.mem_range.2 hil, ?_⟩
    rw [(nullB_iff fun s hs => h s (List.mem_of_mem_take hs)).2 hn, e]
    unfold hitB
    rcases hh with ⟨h1, h2⟩ | ⟨h1, _, h2⟩
    · simp [h1, h2]
    · simp [h1]; simpa [List.getD] using h2

section
variable {T N : Nat} {R : List Ru} (hf : Fine T N R)
include hf

theorem rule_mem {i : Nat} (hi : i < R.length) : R.getD i (0, []) ∈ R := by
  have _ := hf.some
  simp [List.getD, hi]

theorem rule_pos {i : Nat} (hi : i < R.length) : ∀ s ∈ (R.getD i (0, [])).2, s.1 = false → 0 ≤ s.2 := fun s hs h => (hf.name _ (rule_mem hf hi) s hs h).1

/-- Null: the rounds make the least set. -/
theorem nullA_iff : (nullA R N).length = N ∧ ∀ n, hasN (nullA R N) n ↔ NullP N R n := by
  have hm := NullF_mono hf
  have main := loopN_inv (n := N + 1) (f := fun _ => loopN R.length (nullS R)) (x := List.replicate N false)
    (fun k X => X.length = N ∧ (∀ n, hasN X n → NullP N R n) ∧ ∀ n, Lv (NullF R) k n → hasN X n)
    ⟨by simp, fun n hn => by
      unfold hasN at hn
      have := hn.2
      by_cases h : n.toNat < N
      · simp [List.getD, h] at this
      · simp [List.getD, List.getElem?_eq_none (show (List.replicate N false).length ≤ n.toNat by simp; omega)] at this, fun n hn => hn.elim⟩
    (fun k _ X ⟨h1, h2, h3⟩ => by
      have inner := loopN_inv (n := R.length) (f := nullS R) (x := X)
        (fun i Y => Y.length = N ∧ (∀ n, hasN Y n → NullP N R n) ∧ (∀ n, Lv (NullF R) k n → hasN Y n) ∧ ∀ j, j < i → AllN (Lv (NullF R) k) (R.getD j (0, [])).2 → hasN Y (R.getD j (0, [])).1)
        ⟨h1, h2, h3, fun j hj => absurd hj (Nat.not_lt_zero _)⟩
        (fun i hi Y ⟨y1, y2, y3, y4⟩ => by
          have hL := hf.left _ (rule_mem hf hi)
          have hl : (R.getD i (0, [])).1.toNat < Y.length := by omega
          have hcast : (((R.getD i (0, [])).1.toNat : Nat) : Int) = (R.getD i (0, [])).1 := by omega
          unfold nullS
          cases hb : nullB Y (R.getD i (0, [])).2 with
          | true =>
            simp only [if_true]
            have hall := (nullB_iff (rule_pos hf hi)).1 hb
            refine ⟨by simp [y1], fun n hn => ?_, fun n hn => (hasN_set hl).2 (.inr (y3 n hn)), fun j hj ha => ?_⟩
            · rcases (hasN_set hl).1 hn with rfl | hn
              · rw [hcast]
                exact Lv_closed hm _ ⟨_, rule_mem hf hi, rfl, hall.mono y2⟩
              · exact y2 n hn
            · rcases Nat.lt_succ_iff_lt_or_eq.1 hj with hj | rfl
              · exact (hasN_set hl).2 (.inr (y4 j hj ha))
              · exact (hasN_set hl).2 (.inl hcast.symm)
          | false =>
            simp only [Bool.false_eq_true, if_false]
            refine ⟨y1, y2, y3, fun j hj ha => ?_⟩
            rcases Nat.lt_succ_iff_lt_or_eq.1 hj with hj | rfl
            · exact y4 j hj ha
            · rw [(nullB_iff (rule_pos hf hi)).2 (ha.mono y3)] at hb; cases hb)
      obtain ⟨z1, z2, _, z4⟩ := inner
      refine ⟨z1, z2, fun n hn => ?_⟩
      obtain ⟨r, hr, rfl, ha⟩ := hn
      obtain ⟨j, hj, rfl⟩ := List.getElem_of_mem hr
      have e : R.getD j (0, []) = R[j] := by simp [List.getD, hj]
      have := z4 j hj (by rw [e]; exact ha)
      rwa [e] at this)
  obtain ⟨m1, m2, m3⟩ := main
  exact ⟨m1, fun n => ⟨m2 n, fun hn => m3 n (Lv_succ hm N n hn)⟩⟩

/-- A table of N rows, each of w truths. -/
def Shape (N w : Nat) (F : List (List Bool)) : Prop := F.length = N ∧ ∀ n, n < N → (F.getD n []).length = w

omit hf in
theorem Shape.set2 {N w : Nat} {F : List (List Bool)} (h : Shape N w F) (l t : Nat) : Shape N w (set2 F l t) := by
  refine ⟨by rw [set2_length]; exact h.1, fun n hn => ?_⟩
  rw [set2_get]
  split
  · rename_i e
    rw [List.length_set, ← e.1]
    exact h.2 n hn
  · exact h.2 n hn

omit hf in
theorem Shape.replicate (N w : Nat) : Shape N w (List.replicate N (List.replicate w false)) := by
  refine ⟨by simp, fun n hn => ?_⟩
  simp [List.getD, hn]

omit hf in
theorem has2_replicate {N w t : Nat} {n : Int} : ¬ has2 (List.replicate N (List.replicate w false)) t n := by
  rintro ⟨_, h⟩
  by_cases h1 : n.toNat < N
  · by_cases h2 : t < w
    · simp [List.getD, h1, h2] at h
    · simp [List.getD, h1, h2] at h
  · simp [List.getD, h1] at h

/-- First: likewise. -/
theorem firstA_iff {Nu : List Bool} (hNu : ∀ n, hasN Nu n ↔ NullP N R n) : Shape N T (firstA R Nu T N) ∧ ∀ t, t < T → ∀ n, has2 (firstA R Nu T N) t n ↔ FirstP N R t n := by
  have hNe : hasN Nu = NullP N R := funext fun n => propext (hNu n)
  have hm := fun t : Int => FirstF_mono hf (NullP N R) t
  have main := loopN_inv (n := N + 1) (f := fun _ => loopN R.length fun i => loopN T fun t => firstS R Nu i t) (x := List.replicate N (List.replicate T false))
    (fun k X => Shape N T X ∧ (∀ t, t < T → ∀ n, has2 X t n → FirstP N R t n) ∧ ∀ t, t < T → ∀ n, Lv (FirstF R (NullP N R) t) k n → has2 X t n)
    ⟨Shape.replicate N T, fun t _ n hn => absurd hn has2_replicate, fun t _ n hn => hn.elim⟩
    (fun k _ X ⟨h1, h2, h3⟩ => by
      have inner := loopN_inv (n := R.length) (f := fun i => loopN T fun t => firstS R Nu i t) (x := X)
        (fun i Y => Shape N T Y ∧ (∀ t, t < T → ∀ n, has2 Y t n → FirstP N R t n) ∧ (∀ t, t < T → ∀ n, Lv (FirstF R (NullP N R) t) k n → has2 Y t n) ∧
          ∀ j, j < i → ∀ t, t < T → Beg (NullP N R) (Lv (FirstF R (NullP N R) t) k) t (R.getD j (0, [])).2 → has2 Y t (R.getD j (0, [])).1)
        ⟨h1, h2, h3, fun j hj => absurd hj (Nat.not_lt_zero _)⟩
        (fun i hi Y ⟨y1, y2, y3, y4⟩ => by
          have hL := hf.left _ (rule_mem hf hi)
          have hcast : (((R.getD i (0, [])).1.toNat : Nat) : Int) = (R.getD i (0, [])).1 := by omega
          have deep := loopN_inv (n := T) (f := fun t => firstS R Nu i t) (x := Y)
            (fun u Z => Shape N T Z ∧ (∀ t, t < T → ∀ n, has2 Z t n → FirstP N R t n) ∧ (∀ t n, has2 Y t n → has2 Z t n) ∧
              ∀ t, t < u → t < T → Beg (NullP N R) (Lv (FirstF R (NullP N R) t) k) t (R.getD i (0, [])).2 → has2 Z t (R.getD i (0, [])).1)
            ⟨y1, y2, fun _ _ h => h, fun t ht => absurd ht (Nat.not_lt_zero _)⟩
            (fun u hu Z ⟨z1, z2, z3, z4⟩ => by
              have hl : (R.getD i (0, [])).1.toNat < Z.length := by rw [z1.1]; omega
              have hw : u < (Z.getD (R.getD i (0, [])).1.toNat []).length := by rw [z1.2 _ (by omega)]; exact hu
              unfold firstS
              cases hb : begB Nu Z u (R.getD i (0, [])).2 with
              | true =>
                simp only [if_true]
                have hbeg := (begB_iff (rule_pos hf hi)).1 hb
                rw [hNe] at hbeg
                refine ⟨z1.set2 _ _, fun t ht n hn => ?_, fun t n hn => (has2_set hl hw).2 (.inr (z3 t n hn)), fun t ht htT ha => ?_⟩
                · rcases (has2_set hl hw).1 hn with ⟨rfl, rfl⟩ | hn
                  · rw [hcast]
                    exact Lv_closed (hm t) _ ⟨_, rule_mem hf hi, rfl, hbeg.mono (z2 t ht)⟩
                  · exact z2 t ht n hn
                · rcases Nat.lt_succ_iff_lt_or_eq.1 ht with ht | rfl
                  · exact (has2_set hl hw).2 (.inr (z4 t ht htT ha))
                  · exact (has2_set hl hw).2 (.inl ⟨hcast.symm, rfl⟩)
              | false =>
                simp only [Bool.false_eq_true, if_false]
                refine ⟨z1, z2, z3, fun t ht htT ha => ?_⟩
                rcases Nat.lt_succ_iff_lt_or_eq.1 ht with ht | rfl
                · exact z4 t ht htT ha
                · have : begB Nu Z t (R.getD i (0, [])).2 = true := (begB_iff (rule_pos hf hi)).2 (by rw [hNe]; exact ha.mono fun n hn => z3 t n (y3 t htT n hn))
                  rw [this] at hb; cases hb)
          obtain ⟨d1, d2, d3, d4⟩ := deep
          refine ⟨d1, d2, fun t ht n hn => d3 t n (y3 t ht n hn), fun j hj t ht ha => ?_⟩
          rcases Nat.lt_succ_iff_lt_or_eq.1 hj with hj | rfl
          · exact d3 t _ (y4 j hj t ht ha)
          · exact d4 t ht ht ha)
      obtain ⟨z1, z2, _, z4⟩ := inner
      refine ⟨z1, z2, fun t ht n hn => ?_⟩
      obtain ⟨r, hr, rfl, ha⟩ := hn
      obtain ⟨j, hj, rfl⟩ := List.getElem_of_mem hr
      have e : R.getD j (0, []) = R[j] := by simp [List.getD, hj]
      have := z4 j hj t ht (by rw [e]; exact ha)
      rwa [e] at this)
  obtain ⟨m1, m2, m3⟩ := main
  exact ⟨m1, fun t ht n => ⟨m2 t ht n, fun hn => m3 t ht n (Lv_succ (hm t) N n hn)⟩⟩

/-- Follow: likewise. -/
theorem followA_iff {Nu : List Bool} {Fi : List (List Bool)} (hNu : ∀ n, hasN Nu n ↔ NullP N R n) (hFi : ∀ t, t < T → ∀ n, has2 Fi t n ↔ FirstP N R t n) :
    Shape N (T + 1) (followA R Nu Fi T N) ∧ ∀ t, t < T + 1 → ∀ n, has2 (followA R Nu Fi T N) t n ↔ FollowP T N R t n := by
  have hNe : hasN Nu = NullP N R := funext fun n => propext (hNu n)
  have hFe : ∀ t, t < T → has2 Fi t = FirstP N R t := fun t ht => funext fun n => propext (hFi t ht n)
  have hm := fun t : Int => FollowF_mono hf (NullP N R) (FirstP N R) t
  have h1N := hf.some
  have s0 : Shape N (T + 1) (set2 (List.replicate N (List.replicate (T + 1) false)) 0 T) := (Shape.replicate N (T + 1)).set2 0 T
  have h00 : ∀ {u : Nat} {n : Int}, has2 (set2 (List.replicate N (List.replicate (T + 1) false)) 0 T) u n ↔ n = 0 ∧ u = T := by
    intro u n
    rw [has2_set (by simp; omega) (by rw [(Shape.replicate N (T + 1)).2 0 (by omega)]; omega)]
    constructor
    · rintro (⟨h1, h2⟩ | h)
      · exact ⟨by simpa using h1, h2⟩
      · exact absurd h has2_replicate
    · rintro ⟨h1, h2⟩; exact .inl ⟨by simpa using h1, h2⟩
  have main := loopN_inv (n := N + 1) (f := fun _ => loopN R.length fun i => loopN (R.getD i (0, [])).2.length fun k => followK R Nu Fi T i k) (x := set2 (List.replicate N (List.replicate (T + 1) false)) 0 T)
    (fun m X => Shape N (T + 1) X ∧ (∀ t, t < T + 1 → ∀ n, has2 X t n → FollowP T N R t n) ∧ (∀ t, t < T + 1 → ∀ n, Lv (FollowF R (NullP N R) (FirstP N R) T t) m n → has2 X t n) ∧ has2 X T 0)
    ⟨s0, fun t _ n hn => by
      obtain ⟨rfl, rfl⟩ := h00.1 hn
      exact Lv_closed (hm t) 0 (.inl ⟨rfl, rfl⟩), fun t _ n hn => hn.elim, h00.2 ⟨rfl, rfl⟩⟩
    (fun m _ X ⟨h1, h2, h3, h4⟩ => by
      have inner := loopN_inv (n := R.length) (f := fun i => loopN (R.getD i (0, [])).2.length fun k => followK R Nu Fi T i k) (x := X)
        (fun i Y => Shape N (T + 1) Y ∧ (∀ t, t < T + 1 → ∀ n, has2 Y t n → FollowP T N R t n) ∧ (∀ t n, has2 X t n → has2 Y t n) ∧
          ∀ j, j < i → ∀ k n, (R.getD j (0, [])).2[k]? = some (false, n) → ∀ t, t < T + 1 →
            (((t : Int) < T ∧ Beg (NullP N R) (FirstP N R t) t ((R.getD j (0, [])).2.drop (k + 1))) ∨ (AllN (NullP N R) ((R.getD j (0, [])).2.drop (k + 1)) ∧ Lv (FollowF R (NullP N R) (FirstP N R) T t) m (R.getD j (0, [])).1)) → has2 Y t n)
        ⟨h1, h2, fun _ _ h => h, fun j hj => absurd hj (Nat.not_lt_zero _)⟩
        (fun i hi Y ⟨y1, y2, y3, y4⟩ => by
          have hL := hf.left _ (rule_mem hf hi)
          have hcL : (((R.getD i (0, [])).1.toNat : Nat) : Int) = (R.getD i (0, [])).1 := by omega
          have mid := loopN_inv (n := (R.getD i (0, [])).2.length) (f := fun k => followK R Nu Fi T i k) (x := Y)
            (fun q Z => Shape N (T + 1) Z ∧ (∀ t, t < T + 1 → ∀ n, has2 Z t n → FollowP T N R t n) ∧ (∀ t n, has2 Y t n → has2 Z t n) ∧
              ∀ k, k < q → ∀ n, (R.getD i (0, [])).2[k]? = some (false, n) → ∀ t, t < T + 1 →
                (((t : Int) < T ∧ Beg (NullP N R) (FirstP N R t) t ((R.getD i (0, [])).2.drop (k + 1))) ∨ (AllN (NullP N R) ((R.getD i (0, [])).2.drop (k + 1)) ∧ Lv (FollowF R (NullP N R) (FirstP N R) T t) m (R.getD i (0, [])).1)) → has2 Z t n)
            ⟨y1, y2, fun _ _ h => h, fun k hk => absurd hk (Nat.not_lt_zero _)⟩
            (fun q hq Z ⟨z1, z2, z3, z4⟩ => by
              obtain ⟨⟨tb, v⟩, hs⟩ : ∃ s, (R.getD i (0, [])).2[q]? = some s := ⟨(R.getD i (0, [])).2[q], by simp⟩
              have hgs : (R.getD i (0, [])).2.getD q (false, 0) = (tb, v) := by generalize (R.getD i (0, [])).2 = l at *; simp [List.getD, hs]
              unfold followK
              rw [hgs]
              cases tb with
              | true =>
                simp only [if_true]
                refine ⟨z1, z2, z3, fun k hk n hn => ?_⟩
                rcases Nat.lt_succ_iff_lt_or_eq.1 hk with hk | rfl
                · exact z4 k hk n hn
                · rw [hs] at hn; cases hn
              | false =>
                simp only [Bool.false_eq_true, if_false]
                have hmem : (false, v) ∈ (R.getD i (0, [])).2 := List.mem_of_getElem? hs
                have hv := hf.name _ (rule_mem hf hi) _ hmem rfl
                simp only at hv
                have hcv : ((v.toNat : Nat) : Int) = v := by omega
                have hpos : ∀ s ∈ (R.getD i (0, [])).2.drop (q + 1), s.1 = false → 0 ≤ s.2 := fun s hs' => rule_pos hf hi s (List.mem_of_mem_drop hs')
                have deep := loopN_inv (n := T + 1) (f := fun t => followS R Nu Fi T i q t) (x := Z)
                  (fun u V => Shape N (T + 1) V ∧ (∀ t, t < T + 1 → ∀ n, has2 V t n → FollowP T N R t n) ∧ (∀ t n, has2 Z t n → has2 V t n) ∧
                    ∀ t, t < u → t < T + 1 → (((t : Int) < T ∧ Beg (NullP N R) (FirstP N R t) t ((R.getD i (0, [])).2.drop (q + 1))) ∨ (AllN (NullP N R) ((R.getD i (0, [])).2.drop (q + 1)) ∧ Lv (FollowF R (NullP N R) (FirstP N R) T t) m (R.getD i (0, [])).1)) → has2 V t v)
                  ⟨z1, z2, fun _ _ h => h, fun t ht => absurd ht (Nat.not_lt_zero _)⟩
                  (fun u hu V ⟨v1, v2, v3, v4⟩ => by
                    have hl : v.toNat < V.length := by rw [v1.1]; omega
                    have hw : u < (V.getD v.toNat []).length := by rw [v1.2 _ (by omega)]; exact hu
                    unfold followS
                    rw [hgs]
                    cases hb : ((decide (u < T) && begB Nu Fi u ((R.getD i (0, [])).2.drop (q + 1))) || (nullB Nu ((R.getD i (0, [])).2.drop (q + 1)) && (V.getD (R.getD i (0, [])).1.toNat []).getD u false)) with
                    | true =>
                      simp only [if_true]
                      have hprem : FollowF R (NullP N R) (FirstP N R) T u (FollowP T N R u) v := by
                        refine .inr ⟨_, rule_mem hf hi, q, hs, ?_⟩
                        simp only [Bool.or_eq_true, Bool.and_eq_true, decide_eq_true_eq] at hb
                        rcases hb with ⟨b1, b2⟩ | ⟨b1, b2⟩
                        · have := (begB_iff hpos).1 b2
                          rw [hNe, hFe u b1] at this
                          exact .inl ⟨by omega, this⟩
                        · have := (nullB_iff hpos).1 b1
                          rw [hNe] at this
                          exact .inr ⟨this, v2 u hu _ ⟨hL.1, b2⟩⟩
                      refine ⟨v1.set2 _ _, fun t ht n hn => ?_, fun t n hn => (has2_set hl hw).2 (.inr (v3 t n hn)), fun t ht htT ha => ?_⟩
                      · rcases (has2_set hl hw).1 hn with ⟨rfl, rfl⟩ | hn
                        · rw [hcv]
                          exact Lv_closed (hm t) _ hprem
                        · exact v2 t ht n hn
                      · rcases Nat.lt_succ_iff_lt_or_eq.1 ht with ht | rfl
                        · exact (has2_set hl hw).2 (.inr (v4 t ht htT ha))
                        · exact (has2_set hl hw).2 (.inl ⟨hcv.symm, rfl⟩)
                    | false =>
                      simp only [Bool.false_eq_true, if_false]
                      refine ⟨v1, v2, v3, fun t ht htT ha => ?_⟩
                      rcases Nat.lt_succ_iff_lt_or_eq.1 ht with ht | rfl
                      · exact v4 t ht htT ha
                      · exfalso
                        simp only [Bool.or_eq_false_iff] at hb
                        rcases ha with ⟨a1, a2⟩ | ⟨a1, a2⟩
                        · have ht' : t < T := by omega
                          have : begB Nu Fi t ((R.getD i (0, [])).2.drop (q + 1)) = true := (begB_iff hpos).2 (by rw [hNe, hFe t ht']; exact a2)
                          rw [this] at hb
                          simp [ht'] at hb
                        · have hn1 : nullB Nu ((R.getD i (0, [])).2.drop (q + 1)) = true := (nullB_iff hpos).2 (by rw [hNe]; exact a1)
                          have hn2 := (v3 t _ (z3 t _ (y3 t _ (h3 t htT _ a2)))).2
                          rw [hn1, hn2] at hb
                          simp at hb)
                obtain ⟨d1, d2, d3, d4⟩ := deep
                refine ⟨d1, d2, fun t n hn => d3 t n (z3 t n hn), fun k hk n hn t ht ha => ?_⟩
                rcases Nat.lt_succ_iff_lt_or_eq.1 hk with hk | rfl
                · exact d3 t n (z4 k hk n hn t ht ha)
                · rw [hs] at hn
                  cases hn
                  exact d4 t ht ht ha)
          obtain ⟨z1, z2, z3, z4⟩ := mid
          refine ⟨z1, z2, fun t n hn => z3 t n (y3 t n hn), fun j hj k n hn t ht ha => ?_⟩
          rcases Nat.lt_succ_iff_lt_or_eq.1 hj with hj | rfl
          · exact z3 t n (y4 j hj k n hn t ht ha)
          · exact z4 k (List.getElem?_eq_some_iff.1 hn).1 n hn t ht ha)
      obtain ⟨z1, z2, z3, z4⟩ := inner
      refine ⟨z1, z2, fun t ht n hn => ?_, z3 _ _ h4⟩
      rcases hn with ⟨rfl, hT⟩ | ⟨r, hr, k, hk, ha⟩
      · obtain rfl : t = T := by omega
        exact z3 _ _ h4
      · obtain ⟨j, hj, rfl⟩ := List.getElem_of_mem hr
        have e : R.getD j (0, []) = R[j] := by simp [List.getD, hj]
        exact z4 j hj k n (by rw [e]; exact hk) t ht (by rw [e]; exact ha))
  obtain ⟨m1, m2, m3, _⟩ := main
  exact ⟨m1, fun t ht n => ⟨m2 t ht n, fun hn => m3 t ht n (Lv_succ (hm t) N n hn)⟩⟩
end

end Go.Proofs.Ytkkcmcckdaobmaa

/- How a table lies in memory; the contract of pollardingref6.Clashes. -/
namespace Go.Proofs.Ytkkcmcckdaobmaa
open Go.RowKit

/-- A cell: Shift, Rules, End. -/
abbrev Ce := Int × List Int × Bool

/-- Cells lie in memory. -/
def CellsAt (w : World) (v : Value) (X : List Ce) : Prop :=
  (∃ a c, v = .slice a X.length c) ∧ ∀ k, k < X.length → ∃ b o c rl, v = .slice (some ⟨b, o, none⟩) X.length c ∧ w.cell? ⟨b, o + k * 3, none⟩ = some (.int .i64 (X.getD k (0, [], false)).1) ∧
    w.cell? ⟨b, o + k * 3 + 1, none⟩ = some rl ∧ ListAt w w.heap.size rl (X.getD k (0, [], false)).2.1 ∧ w.cell? ⟨b, o + k * 3 + 2, none⟩ = some (.bool (X.getD k (0, [], false)).2.2)
def CellsMat (w : World) (v : Value) (X : List (List Ce)) : Prop :=
  (∃ a c, v = .slice a X.length c) ∧ ∀ i, i < X.length → ∃ b o c rv, v = .slice (some ⟨b, o, none⟩) X.length c ∧ w.cell? ⟨b, o + i, none⟩ = some rv ∧ CellsAt w rv (X.getD i [])
def IntsMat (w : World) (v : Value) (X : List (List Int)) : Prop :=
  (∃ a c, v = .slice a X.length c) ∧ ∀ i, i < X.length → ∃ b o c rv, v = .slice (some ⟨b, o, none⟩) X.length c ∧ w.cell? ⟨b, o + i, none⟩ = some rv ∧ ListAt w w.heap.size rv (X.getD i [])
/-- A table: its cells, and where names go on. -/
structure TabAt (w : World) (cv gv : Value) (C : List (List Ce)) (G : List (List Int)) : Prop where
  cells : CellsMat w cv C
  goto : IntsMat w gv G

section
variable {w w' : World}
theorem CellsAt.below {v : Value} {X : List Ce} (h : CellsAt w v X) (hb : Below w.heap.size w w') : CellsAt w' v X :=
  ⟨h.1, fun k hk => let ⟨b, o, c, rl, h1, h2, h3, h4, h5⟩ := h.2 k hk; ⟨b, o, c, rl, h1, (hb.cell (World.block_lt_of_cell? _ _ h2)).trans h2, (hb.cell (World.block_lt_of_cell? _ _ h3)).trans h3, (h4.below hb).mono hb.size, (hb.cell (World.block_lt_of_cell? _ _ h5)).trans h5⟩⟩
theorem CellsMat.below {v : Value} {X : List (List Ce)} (h : CellsMat w v X) (hb : Below w.heap.size w w') : CellsMat w' v X :=
  ⟨h.1, fun k hk => let ⟨b, o, c, rv, h1, h2, h3⟩ := h.2 k hk; ⟨b, o, c, rv, h1, (hb.cell (World.block_lt_of_cell? _ _ h2)).trans h2, h3.below hb⟩⟩
theorem IntsMat.below {v : Value} {X : List (List Int)} (h : IntsMat w v X) (hb : Below w.heap.size w w') : IntsMat w' v X :=
  ⟨h.1, fun k hk => let ⟨b, o, c, rv, h1, h2, h3⟩ := h.2 k hk; ⟨b, o, c, rv, h1, (hb.cell (World.block_lt_of_cell? _ _ h2)).trans h2, (h3.below hb).mono hb.size⟩⟩
theorem TabAt.below {cv gv : Value} {C : List (List Ce)} {G : List (List Int)} (h : TabAt w cv gv C G) (hb : Below w.heap.size w w') : TabAt w' cv gv C G := ⟨h.cells.below hb, h.goto.below hb⟩
end

/-- A cell says but one thing. -/
def oneB (c : Ce) : Bool := (decide (c.2.1.length = 0) && !c.2.2) || (decide (c.1 < 0) && (decide (c.2.1.length = 0) || (decide (c.2.1.length = 1) && !c.2.2)))
def clashR (X : List Ce) : Nat := (X.filter fun c => !oneB c).length
def clashN (C : List (List Ce)) : Nat := (C.map clashR).sum

theorem clashR_take {X : List Ce} {k : Nat} (hk : k < X.length) : clashR (X.take (k + 1)) = clashR (X.take k) + (if oneB (X.getD k (0, [], false)) then 0 else 1) := by
  have e : X.getD k (0, [], false) = X[k] := by simp [List.getD, hk]
  unfold clashR
  rw [List.take_succ_eq_append_getElem hk, List.filter_append, List.length_append, e]
  cases h : oneB X[k] <;> simp [h]
theorem clashN_take {C : List (List Ce)} {i : Nat} (hi : i < C.length) : clashN (C.take (i + 1)) = clashN (C.take i) + clashR (C.getD i []) := by
  have e : C.getD i [] = C[i] := by simp [List.getD, hi]
  unfold clashN
  rw [List.take_succ_eq_append_getElem hi, List.map_append, List.sum_append, e]
  simp
theorem clashR_le (X : List Ce) : clashR X ≤ X.length := List.length_filter_le _ _
theorem clashN_le {C : List (List Ce)} {m : Nat} (h : ∀ i, i < C.length → (C.getD i []).length ≤ m) : clashN C ≤ C.length * m := by
  have : ∀ n, n ≤ C.length → clashN (C.take n) ≤ n * m := by
    intro n
    induction n with
    | zero => simp [clashN]
    | succ n ih =>
      intro hn
      rw [clashN_take (by omega), Nat.add_mul]
      have := ih (by omega)
      have := clashR_le (C.getD n [])
      have := h n (by omega)
      omega
  have h1 := this C.length (Nat.le_refl _)
  rwa [List.take_length] at h1

set_option maxRecDepth 100000 in
set_option maxHeartbeats 3200000 in
theorem clashes6_any {w : World} {cv gv : Value} {C : List (List Ce)} {G : List (List Int)} (h : TabAt w cv gv C G) (hC : C.length ≤ 1000) (hR : ∀ i, i < C.length → (C.getD i []).length ≤ 1000) :
    Calls Try.prog 7 #[.agg #[cv, gv]] w fun e w' => e = .returned (.int .i64 (clashN C)) ∧ Below w.heap.size w w' := by
  obtain ⟨ca, cc, hcv⟩ := h.cells.1
  obtain ⟨ga, gc, hgv⟩ := h.goto.1
  subst hcv
  subst hgv
  have HH : Hid (CellsMat w (.slice ca C.length cc) C) := h.cells
  have HR : Hid (∀ i, i < C.length → (C.getD i []).length ≤ 1000) := hR
  have HB0 : Hid (Below w.heap.size w (w.alloc (.cells #[.slice ca C.length cc, .slice ga G.length gc] 38))) := (Below.refl _ _).alloc (Nat.le_refl _) _
  have HBX : Hid (∀ wr, Below (w.heap.size + 1) (w.alloc (.cells #[.slice ca C.length cc, .slice ga G.length gc] 38)) wr → wr.cell? ⟨w.heap.size, 0, none⟩ = some (.slice ca C.length cc) ∧ Below w.heap.size w wr ∧ w.heap.size + 1 ≤ wr.heap.size) := fun wr hB =>
    ⟨(hB.cell (by simp)).trans (by simp [go_sem]), HB0.out.trans (hB.mono (by omega)), by have := hB.size; simpa using this⟩
  clear h hR
  go_enter Try.func7, Try.ntmps7
  go_wp2_with fail
  obtain ⟨WT, hWT⟩ : ∃ W, w.alloc (.cells #[.slice ca C.length cc, .slice ga G.length gc] 38) = W := ⟨_, rfl⟩
  rw [hWT] at HBX ⊢
  clear hWT HB0
  go_loopw [3, 4] (fun s3 s4 wr => ∃ i : Nat, s3 = .int .i64 (clashN (C.take i)) ∧ s4 = .int .i64 i ∧ i ≤ C.length ∧ Below (w.heap.size + 1) WT wr) (fun _ s _ => C.length - (intOf s).toNat)
  case atStart => exact ⟨0, rfl, rfl, Nat.zero_le _, Below.refl _ _⟩
  case round =>
    obtain ⟨i, rfl, rfl, hi, hB⟩ := hrel
    have HB : Hid (Below (w.heap.size + 1) WT wr) := hB
    obtain ⟨b0, hBw, hsz⟩ := HBX.out wr hB
    by_cases hlt : i < C.length
    · have hCl : clashN (C.take i) ≤ i * 1000 := by
        have := clashN_le (C := C.take i) (m := 1000) fun j hj => by
          have hj' : j < i := by simp at hj; omega
          have e : (C.take i).getD j [] = C.getD j [] := by simp [List.getD, hj']
          rw [e]; exact HR.out j (by omega)
        simp only [List.length_take] at this
        rw [Nat.min_eq_left hi] at this
        exact this
      obtain ⟨Xr, hXr⟩ : ∃ x, C.getD i [] = x := ⟨_, rfl⟩
      have HXr : Hid (C.getD i [] = Xr) := hXr
      have hXl : Xr.length ≤ 1000 := by rw [← hXr]; exact HR.out i hlt
      clear hB hBw hXr
      go_wp2_with fail
      clear b0
      go_loopw [3, 5] (fun s3 s5 wq => ∃ k : Nat, s3 = .int .i64 ((clashN (C.take i) + clashR (Xr.take k) : Nat) : Int) ∧ s5 = .int .i64 k ∧ k ≤ Xr.length ∧ Below (w.heap.size + 1) WT wq) (fun _ s _ => Xr.length - (intOf s).toNat)
      case atStart => exact ⟨0, by simp [clashR], rfl, Nat.zero_le _, HB.out⟩
      case round =>
        clear HB
        obtain ⟨k, rfl, rfl, hk, hB⟩ := hrel
        have HB : Hid (Below (w.heap.size + 1) WT wr) := hB
        obtain ⟨b0, hBw, hsz⟩ := HBX.out wr hB
        obtain ⟨b, o, c, rv, hv, d0, hcs⟩ := (HH.out.below hBw).2 i hlt
        cases hv
        rw [HXr.out] at hcs
        obtain ⟨xa, xc, hrv⟩ := hcs.1
        subst hrv
        have i0 : (0 : Int) ≤ (i : Int) := Int.natCast_nonneg _
        have i1 : (i : Int) < (C.length : Int) := by omega
        have hcr := clashR_le (Xr.take k)
        simp only [List.length_take] at hcr
        obtain ⟨q, hq⟩ : ∃ q, clashN (C.take i) + clashR (Xr.take k) = q := ⟨_, rfl⟩
        have HQ : Hid (clashN (C.take i) + clashR (Xr.take k) = q) := hq
        have hqb : q ≤ 2000000 := by omega
        rw [hq]
        clear hB hBw hq
        by_cases hklt : k < Xr.length
        · obtain ⟨b', o', c', rl, hv', e0, e1, e2, e3⟩ := hcs.2 k hklt
          cases hv'
          have hstep := clashR_take hklt
          obtain ⟨⟨sh, ru, en⟩, hce⟩ : ∃ x, Xr.getD k (0, [], false) = x := ⟨_, rfl⟩
          rw [hce] at e0 e2 e3 hstep
          simp only at e0 e2 e3
          obtain ⟨ra, rc, hrl⟩ := e2.1
          subst hrl
          have k0 : (0 : Int) ≤ (k : Int) := Int.natCast_nonneg _
          have k1 : (k : Int) < (Xr.length : Int) := by omega
          obtain ⟨z, hz⟩ : ∃ z, oneB (sh, ru, en) = z := ⟨_, rfl⟩
          rw [hz] at hstep
          have HSt : Hid (clashR (Xr.take (k + 1)) = clashR (Xr.take k) + (if z then 0 else 1)) := hstep
          have HA : Hid (Below (w.heap.size + 1) WT (wr.alloc (.cells #[.int .i64 sh, .slice ra ru.length rc, .bool en] 74))) := HB.out.alloc (by omega) _
          have hzz : z = ((decide (ru.length = 0) && !en) || (decide (sh < 0) && (decide (ru.length = 0) || (decide (ru.length = 1) && !en)))) := by rw [← hz]; rfl
          obtain ⟨p, hp⟩ : ∃ p, ((ru.length : Int) == 0) = p := ⟨_, rfl⟩
          obtain ⟨p1, hp1⟩ : ∃ p, ((ru.length : Int) == 1) = p := ⟨_, rfl⟩
          obtain ⟨p2, hp2⟩ : ∃ p, decide (sh < 0) = p := ⟨_, rfl⟩
          have hzp : z = ((p && !en) || (p2 && (p || (p1 && !en)))) := by
            rw [hzz, ← hp, ← hp1, ← hp2]
            have q0 : ((ru.length : Int) == 0) = decide (ru.length = 0) := by rw [Bool.eq_iff_iff]; simp
            have q1 : ((ru.length : Int) == 1) = decide (ru.length = 1) := by rw [Bool.eq_iff_iff]; simp; omega
            rw [q0, q1]
          clear hcs hstep hce e2 hz hzz
          cases p <;> cases p1 <;> cases p2 <;> cases en <;>
            (simp at hzp
             subst hzp
             simp only [if_true, Bool.false_eq_true, if_false, Nat.add_zero] at HSt
             go_wp2_with fail
             go_roundw
             case rel => exact ⟨k + 1, by rw [HSt.out, ← HQ.out] <;> first | rfl | go_num, by go_num, by omega, HA.out⟩
             case measure => simp [intOf]; omega)
        · have HE : Hid (clashN (C.take (i + 1)) = q) := by
            show clashN (C.take (i + 1)) = q
            rw [clashN_take hlt, HXr.out, ← HQ.out, List.take_of_length_le (by omega : Xr.length ≤ k)]
          clear hcs
          go_wp2_with fail
          go_roundw
          case rel => exact ⟨i + 1, by rw [HE.out], by go_num, by omega, HB.out⟩
          case measure => simp [intOf]; omega
    · obtain rfl : i = C.length := by omega
      have HBw : Hid (Below w.heap.size w wr) := hBw
      rw [List.take_length]
      clear hB hBw
      go_wp2_with fail
      go_ret
      exact ⟨rfl, HBw.out⟩

end Go.Proofs.Ytkkcmcckdaobmaa

/- Plain: a table in plain words (F3). No program. -/
namespace Go.Proofs.Ytkkcmcckdaobmaa

section
open Classical
/-- A rule is read whole in the state k, and has t as lookahead. -/
def DoneP (T N : Nat) (R : List Ru) (NL : List (List Int)) (Ls : List SetI) (k t n : Nat) : Prop := Ls.getD k noS (n, (rightF R n).length) ∧ LookQ T R (nullA R N) (firstA R (nullA R N) T N) NL Ls k (n, (rightF R n).length) t
noncomputable def cellP (T N : Nat) (R : List Ru) (NL : List (List Int)) (Ls : List SetI) (k t : Nat) : Ce :=
  (if t < T then (NL.getD k []).getD t 0 else -1, ((List.range R.length).filter fun n => decide (DoneP T N R NL Ls k t n)).map fun n => ((n : Nat) : Int), decide (DoneP T N R NL Ls k t R.length))
noncomputable def rowP (T N : Nat) (R : List Ru) (NL : List (List Int)) (Ls : List SetI) (k : Nat) : List Ce := (List.range (T + 1)).map (cellP T N R NL Ls k)
/-- F3: the table, where there are K states. -/
noncomputable def tabC (T N : Nat) (R : List Ru) (K : Nat) : List (List Ce) := (List.range K).map (rowP T N R (allN T N R K).1 (allN T N R K).2)
noncomputable def tabG (T N : Nat) (R : List Ru) (K : Nat) : List (List Int) := (List.range K).map fun k => ((allN T N R K).1.getD k []).drop T

end

theorem num_in {T N : Nat} {R : List Ru} (hf : Fine T N R) {r : Nat} (hr : r ≤ R.length) : ∀ s ∈ rightF R r, (0 ≤ numF T s ∧ numF T s < (T : Int) + N) ∧ (s.1 = false → 0 ≤ s.2 ∧ s.2 < (N : Int)) := fun s hs => by
  have hN := hf.some
  unfold rightF at hs
  split at hs
  · simp only [List.mem_singleton] at hs
    subst hs
    simp [numF]
    omega
  · have hm : R.getD r (0, []) ∈ R := by simp [List.getD, show r < R.length by omega]
    obtain ⟨t, v⟩ := s
    cases t with
    | true => have := hf.term _ hm _ hs rfl; simp only [numF, if_true] at this ⊢; exact ⟨by omega, fun h => (nomatch h)⟩
    | false => have := hf.name _ hm _ hs rfl; simp only [numF, Bool.false_eq_true, if_false] at this ⊢; exact ⟨by omega, fun _ => this⟩

end Go.Proofs.Ytkkcmcckdaobmaa
