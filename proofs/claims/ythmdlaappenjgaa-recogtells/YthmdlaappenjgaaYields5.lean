/- The contract of pollardingref5.yields. -/
import Derived.Test.YthmdlaappenjgaaRowB
import Derived.Test.YthmdlaappenjgaaDerMath
import Derived.BigQuiet
import Derived.Deep.LoopGhost
namespace Go.Proofs.Ythmdlaappenjgaa
open Go.RowKit

theorem same_of_below {w w' : World} (h : Below w.heap.size w w') : ∀ b o, b < w.heap.size → w'.cell? ⟨b, o, none⟩ = w.cell? ⟨b, o, none⟩ := fun _ _ hb => h.cell hb

/-- What is known of parts lies in memory: (n + 1) by (n + 1) rows of N truths. -/
def KnownAt (w : World) (kv : Value) (n N : Nat) (X : Nat → Nat → List Bool) : Prop :=
  (∃ a c, kv = .slice a (n + 1) c) ∧ ∀ i j, i ≤ n → j ≤ n → ∃ g o c g' o' c' b p c'', kv = .slice (some ⟨g, o, none⟩) (n + 1) c ∧ w.cell? ⟨g, o + i, none⟩ = some (.slice (some ⟨g', o', none⟩) (n + 1) c') ∧
    w.cell? ⟨g', o' + j, none⟩ = some (.slice (some ⟨b, p, none⟩) N c'') ∧ ∀ m, m < N → w.cell? ⟨b, p + m, none⟩ = some (.bool ((X i j).getD m false))

theorem KnownAt.same {w w' : World} {kv : Value} {n N : Nat} {X : Nat → Nat → List Bool} (h : KnownAt w kv n N X) (hw : ∀ b o, b < w.heap.size → w'.cell? ⟨b, o, none⟩ = w.cell? ⟨b, o, none⟩) : KnownAt w' kv n N X := by
  refine ⟨h.1, fun i j hi hj => ?_⟩
  obtain ⟨g, o, c, g', o', c', b, p, c'', h1, h2, h3, h4⟩ := h.2 i j hi hj
  exact ⟨g, o, c, g', o', c', b, p, c'', h1, (hw _ _ (World.block_lt_of_cell? w _ h2)).trans h2, (hw _ _ (World.block_lt_of_cell? w _ h3)).trans h3, fun m hm => (hw _ _ (World.block_lt_of_cell? w _ (h4 m hm))).trans (h4 m hm)⟩

def kOf (X : Nat → Nat → List Bool) (i j m : Nat) : Bool := (X i j).getD m false

/-- The row A tells where the symbols may have come to. -/
def AtRow (K : Nat → Nat → Nat → Bool) (tok : List Int) (a b : Nat) (l : List Sy) (A : List Bool) : Prop :=
  A.length = b - a + 1 ∧ ∀ x, a ≤ x → x ≤ b → (A.getD (x - a) false = true ↔ Rch K tok b l a x)

/-- .. and the row V where the next one may, from what lies below i, and from i to what lies below j. -/
def NR (K : Nat → Nat → Nat → Bool) (tok : List Int) (a b : Nat) (A : List Bool) (s : Sy) (i j : Nat) (V : List Bool) : Prop :=
  V.length = b - a + 1 ∧ ∀ x, a ≤ x → x ≤ b → (V.getD (x - a) false = true ↔ (∃ m, a ≤ m ∧ m < i ∧ A.getD (m - a) false = true ∧ Mv K tok b s m x) ∨ (A.getD (i - a) false = true ∧ s.1 = false ∧ i ≤ x ∧ x < j ∧ K i x s.2.toNat = true))

theorem getD_set_eq {V : List Bool} {k y : Nat} (hk : k < V.length) : (V.set k true).getD y false = true ↔ y = k ∨ V.getD y false = true := by
  by_cases h : k = y
  · subst h
    rw [List.getD, List.getElem?_set_self hk]
    simp
  · rw [List.getD, List.getElem?_set_ne h]
    constructor
    · intro h1; exact .inr h1
    · rintro (h1 | h1)
      · exact absurd h1.symm h
      · exact h1

section
variable {K : Nat → Nat → Nat → Bool} {tok : List Int} {a b : Nat} {A V : List Bool} {s : Sy} {i j : Nat}

theorem at_start (K : Nat → Nat → Nat → Bool) (tok : List Int) {a b : Nat} : AtRow K tok a b [] ((List.replicate (b - a + 1) false).set 0 true) := by
  refine ⟨by simp, fun x h1 h2 => ?_⟩
  rw [getD_set_eq (by simp)]
  show _ ↔ a = x
  have : (List.replicate (b - a + 1) false).getD (x - a) false = false := by simp [List.getD, show x - a < b - a + 1 by omega]
  rw [this]
  simp
  omega

theorem nr_start (K : Nat → Nat → Nat → Bool) (tok : List Int) (a b : Nat) (A : List Bool) (s : Sy) : NR K tok a b A s a a (List.replicate (b - a + 1) false) := by
  refine ⟨by simp, fun x h1 h2 => ?_⟩
  have : (List.replicate (b - a + 1) false).getD (x - a) false = false := by simp [List.getD, show x - a < b - a + 1 by omega]
  rw [this]
  constructor
  · intro h; cases h
  · rintro (⟨m, h3, h4, _⟩ | ⟨_, _, h3, h4, _⟩) <;> omega

theorem nr_skip (h : NR K tok a b A s i i V) (hA : A.getD (i - a) false = false) : NR K tok a b A s (i + 1) (i + 1) V := by
  refine ⟨h.1, fun x h1 h2 => (h.2 x h1 h2).trans ?_⟩
  constructor
  · rintro (⟨m, h3, h4, h5, h6⟩ | ⟨h3, _⟩)
    · exact .inl ⟨m, h3, by omega, h5, h6⟩
    · rw [hA] at h3; cases h3
  · rintro (⟨m, h3, h4, h5, h6⟩ | ⟨_, _, h3, h4, _⟩)
    · refine .inl ⟨m, h3, ?_, h5, h6⟩
      by_cases e : m = i
      · subst e; rw [hA] at h5; cases h5
      · omega
    · omega

theorem nr_hit (h : NR K tok a b A s i i V) (hai : a ≤ i) (hA : A.getD (i - a) false = true) (hs : s.1 = true) (hi : i < b) (ht : tok.getD i 0 = s.2) : NR K tok a b A s (i + 1) (i + 1) (V.set (i + 1 - a) true) := by
  have hl := h.1
  refine ⟨by simp [hl], fun x h1 h2 => ?_⟩
  rw [getD_set_eq (by omega), h.2 x h1 h2]
  constructor
  · rintro (h3 | ⟨m, h3, h4, h5, h6⟩ | ⟨_, _, h3, h4, _⟩)
    · exact .inl ⟨i, hai, by omega, hA, .inl ⟨hs, hi, by omega, ht⟩⟩
    · exact .inl ⟨m, h3, by omega, h5, h6⟩
    · omega
  · rintro (⟨m, h3, h4, h5, h6⟩ | ⟨_, _, h3, h4, _⟩)
    · by_cases e : m = i
      · subst e
        rcases h6 with ⟨_, _, h7, _⟩ | ⟨h7, _⟩
        · left; omega
        · rw [hs] at h7; cases h7
      · exact .inr (.inl ⟨m, h3, by omega, h5, h6⟩)
    · omega

theorem nr_miss (h : NR K tok a b A s i i V) (hs : s.1 = true) (hno : ¬ (i < b ∧ tok.getD i 0 = s.2)) : NR K tok a b A s (i + 1) (i + 1) V := by
  refine ⟨h.1, fun x h1 h2 => (h.2 x h1 h2).trans ?_⟩
  constructor
  · rintro (⟨m, h3, h4, h5, h6⟩ | ⟨_, h3, _⟩)
    · exact .inl ⟨m, h3, by omega, h5, h6⟩
    · rw [hs] at h3; cases h3
  · rintro (⟨m, h3, h4, h5, h6⟩ | ⟨_, _, h3, h4, _⟩)
    · by_cases e : m = i
      · subst e
        rcases h6 with ⟨_, h7, _, h8⟩ | ⟨h7, _⟩
        · exact absurd ⟨h7, h8⟩ hno
        · rw [hs] at h7; cases h7
      · exact .inl ⟨m, h3, by omega, h5, h6⟩
    · omega

theorem nr_known (h : NR K tok a b A s i j V) (hai : a ≤ i) (hij : i ≤ j) (hj : j ≤ b) (hA : A.getD (i - a) false = true) (hs : s.1 = false) (hK : K i j s.2.toNat = true) : NR K tok a b A s i (j + 1) (V.set (j - a) true) := by
  have hl := h.1
  refine ⟨by simp [hl], fun x h1 h2 => ?_⟩
  rw [getD_set_eq (by omega), h.2 x h1 h2]
  constructor
  · rintro (h3 | h3 | ⟨h3, h4, h5, h6, h7⟩)
    · have e : x = j := by omega
      subst e
      exact .inr ⟨hA, hs, hij, by omega, hK⟩
    · exact .inl h3
    · exact .inr ⟨h3, h4, h5, by omega, h7⟩
  · rintro (h3 | ⟨h3, h4, h5, h6, h7⟩)
    · exact .inr (.inl h3)
    · by_cases e : x = j
      · left; omega
      · exact .inr (.inr ⟨h3, h4, h5, by omega, h7⟩)

theorem nr_not (h : NR K tok a b A s i j V) (hK : K i j s.2.toNat = false) : NR K tok a b A s i (j + 1) V := by
  refine ⟨h.1, fun x h1 h2 => (h.2 x h1 h2).trans ?_⟩
  constructor
  · rintro (h3 | ⟨h3, h4, h5, h6, h7⟩)
    · exact .inl h3
    · exact .inr ⟨h3, h4, h5, by omega, h7⟩
  · rintro (h3 | ⟨h3, h4, h5, h6, h7⟩)
    · exact .inl h3
    · refine .inr ⟨h3, h4, h5, ?_, h7⟩
      by_cases e : x = j
      · subst e; rw [hK] at h7; cases h7
      · omega

theorem nr_through (h : NR K tok a b A s i (b + 1) V) (hai : a ≤ i) (hA : A.getD (i - a) false = true) (hs : s.1 = false) : NR K tok a b A s (i + 1) (i + 1) V := by
  refine ⟨h.1, fun x h1 h2 => (h.2 x h1 h2).trans ?_⟩
  constructor
  · rintro (⟨m, h3, h4, h5, h6⟩ | ⟨_, _, h5, h6, h7⟩)
    · exact .inl ⟨m, h3, by omega, h5, h6⟩
    · exact .inl ⟨i, hai, by omega, hA, .inr ⟨hs, h5, h2, h7⟩⟩
  · rintro (⟨m, h3, h4, h5, h6⟩ | ⟨_, _, h3, h4, _⟩)
    · by_cases e : m = i
      · subst e
        rcases h6 with ⟨h7, _⟩ | ⟨_, h7, h8, h9⟩
        · rw [hs] at h7; cases h7
        · exact .inr ⟨hA, hs, h7, by omega, h9⟩
      · exact .inl ⟨m, h3, by omega, h5, h6⟩
    · omega

theorem nr_end {l : List Sy} {k : Nat} (hk : k < l.length) (hab : a ≤ b) (hat : AtRow K tok a b (l.take k) A) (h : NR K tok a b A (l.getD k (false, 0)) (b + 1) (b + 1) V) : AtRow K tok a b (l.take (k + 1)) V := by
  have e : l.take (k + 1) = l.take k ++ [l.getD k (false, 0)] := by rw [List.take_succ_eq_append_getElem hk]; simp [List.getD, hk]
  refine ⟨h.1, fun x h1 h2 => (h.2 x h1 h2).trans ?_⟩
  rw [e, Rch_snoc]
  constructor
  · rintro (⟨m, h3, h4, h5, h6⟩ | ⟨_, _, h3, h4, _⟩)
    · exact ⟨m, (hat.2 m h3 (by omega)).1 h5, h6⟩
    · omega
  · rintro ⟨m, h3, h4⟩
    have := h3.le hab
    exact .inl ⟨m, this.1, by omega, (hat.2 m this.1 this.2).2 h3, h4⟩
end

set_option maxRecDepth 100000 in
set_option maxHeartbeats 3200000 in
theorem yields5_any {w : World} {lim lc n N a b : Nat} {la : Option Addr} {tv kv : Value} {tok : List Int} {X : Nat → Nat → List Bool} {l : List Sy} (hl : RightAt w lim la l) (hlim : lim ≤ w.heap.size) (ht : ListAt w w.heap.size tv tok) (hk : KnownAt w kv n N X) (hn : tok.length = n) (hn30 : n ≤ 1000) (hab : a ≤ b) (hbn : b ≤ n)
    (hin : ∀ s ∈ l, s.1 = false → 0 ≤ s.2 ∧ s.2 < (N : Int)) (h8 : l.length ≤ 1000) :
    Calls Try.prog 12 #[.slice la l.length lc, tv, kv, .int .i64 a, .int .i64 b] w fun e w' => ∃ z, e = .returned (.bool z) ∧ (z = true ↔ Rch (kOf X) tok b l a b) ∧ Below w.heap.size w w' := by
  subst hn
  obtain ⟨ta, tc, htv⟩ := ht.1
  obtain ⟨ka, kc, hkv⟩ := hk.1
  subst htv
  subst hkv
  have HL : Hid (RightAt w lim la l) := hl
  have HT : Hid (ListAt w w.heap.size (.slice ta tok.length tc) tok) := ht
  have HK : Hid (KnownAt w (.slice ka (tok.length + 1) kc) tok.length N X) := hk
  have HI : Hid (∀ s ∈ l, s.1 = false → 0 ≤ s.2 ∧ s.2 < (N : Int)) := hin
  obtain ⟨M, hM⟩ : ∃ M, b - a + 1 = M := ⟨_, rfl⟩
  have HM : Hid (b - a + 1 = M) := hM
  have mkM : ∀ u : World, (Instr.makeSlice 37 (.int .i64 ((b : Int) - (a : Int) + 1)) (.int .i64 ((b : Int) - (a : Int) + 1))).run Try.prog u = .ok (.slice (some ⟨u.heap.size, 0, none⟩) M M) (u.alloc (.cells (madeCells #[.bool false] M) 4)) := fun u => by
    have := make_bools M (by omega) u
    rw [show ((b : Int) - (a : Int) + 1) = (M : Int) by omega]
    exact this
  have HA0 : Hid (AtRow (kOf X) tok a b [] ((List.replicate M false).set 0 true)) := by rw [← hM]; exact at_start _ _
  have hM0 : (0 : Int) < (M : Int) := by omega
  have HMl : Hid (M ≤ maxLen) := by show M ≤ maxLen; unfold maxLen; omega
  have HRow0 : Hid (RowB (w.alloc (.cells (madeCells #[.bool false] M) 4)) w.heap.size w.heap.size M (List.replicate M false)) := row_made w HMl.out
  obtain ⟨f1, f2⟩ := HRow0.out.cell (m := 0) (by omega)
  clear hl ht hk hin hM
  go_enter Try.func12, Try.ntmps12
  go_wp2_with fail
  have HRow1 : Hid (RowB (w.alloc (.cells ((madeCells #[.bool false] M).setIfInBounds 0 (.bool true)) 4)) w.heap.size w.heap.size M ((List.replicate M false).set 0 true)) := row_made_set w HMl.out 0 true
  clear f1 f2 HRow0
  go_loopw [11, 12] (fun s11 s12 wr => ∃ (k g : Nat) (A : List Bool), s11 = .slice (some ⟨g, 0, none⟩) M M ∧ s12 = .int .i64 k ∧ k ≤ l.length ∧ Below w.heap.size w wr ∧ RowB wr w.heap.size g M A ∧ AtRow (kOf X) tok a b (l.take k) A) (fun _ s _ => l.length - (intOf s).toNat)
  case atStart => exact ⟨0, w.heap.size, _, rfl, rfl, Nat.zero_le _, (Below.refl _ _).alloc (Nat.le_refl _) _, HRow1.out, HA0.out⟩
  case round =>
    clear HRow1 HA0
    obtain ⟨k, g, A, rfl, rfl, hk, hB, hrow, hat⟩ := hrel
    have HB : Hid (Below w.heap.size w wr) := hB
    have HRowA : Hid (RowB wr w.heap.size g M A) := hrow
    have HAt : Hid (AtRow (kOf X) tok a b (l.take k) A) := hat
    have hgl := World.block_lt_of_cell? wr _ (hrow.cell (m := 0) (by omega)).1
    simp only at hgl
    by_cases hlt : k < l.length
    · obtain ⟨b', o', hqa, hb', k3, k4⟩ := (HL.out.below (hB.mono hlim)) k hlt
      subst hqa
      have hmem : l.getD k (false, 0) ∈ l := by simp [List.getD, hlt]
      have hrng := HI.out _ hmem
      obtain ⟨⟨t, v⟩, hs⟩ : ∃ x, l.getD k (false, 0) = x := ⟨_, rfl⟩
      rw [hs] at k3 k4 hrng
      have HSy : Hid (l.getD k (false, 0) = (t, v)) := hs
      have HQ : Hid (∀ wq, Below wr.heap.size wr wq → Below w.heap.size w wq ∧ RowB wq w.heap.size g M A ∧ wq.cell? ⟨b', o' + k * 2, none⟩ = some (.bool t) ∧ wq.cell? ⟨b', o' + k * 2 + 1, none⟩ = some (.int .i64 v) ∧ KnownAt wq (.slice ka (tok.length + 1) kc) tok.length N X ∧ ListAt wq wq.heap.size (.slice ta tok.length tc) tok) := fun wq hq => by
        have hB' : Below w.heap.size w wq := HB.out.trans (hq.mono HB.out.size)
        refine ⟨hB', HRowA.out.below hq, (hq.cell (p := ⟨b', o' + k * 2, none⟩) (World.block_lt_of_cell? _ _ k3)).trans k3, ?_, HK.out.same (same_of_below hB'), (HT.out.below hB').mono hB'.size⟩
        rw [Nat.add_assoc]
        exact (hq.cell (p := ⟨b', o' + (k * 2 + 1), none⟩) (World.block_lt_of_cell? _ _ k4)).trans k4
      have HN0 : Hid (NR (kOf X) tok a b A (t, v) a a (List.replicate M false)) := by
        show NR (kOf X) tok a b A (t, v) a a (List.replicate M false)
        rw [← HM.out]
        exact nr_start _ _ _ _ _ _
      have HRowN : Hid (RowB (wr.alloc (.cells (madeCells #[.bool false] M) 4)) wr.heap.size wr.heap.size M (List.replicate M false)) := row_made wr HMl.out
      have j0 : (0 : Int) ≤ (k : Int) := Int.natCast_nonneg _
      have j1 : (k : Int) < (l.length : Int) := by omega
      obtain ⟨w3, hw3⟩ : ∃ w3, w3 = wr := ⟨_, rfl⟩
      subst hw3
      clear hB hrow hat hmem hs k3 k4
      go_wp2_with fail
      go_loopw [14] (fun s14 wq => ∃ (i : Nat) (V : List Bool), s14 = .int .i64 i ∧ a ≤ i ∧ i ≤ b + 1 ∧ Below w3.heap.size w3 wq ∧ RowB wq w3.heap.size w3.heap.size M V ∧ NR (kOf X) tok a b A (t, v) i i V) (fun s _ => b + 1 - (intOf s).toNat)
      case atStart => exact ⟨a, _, rfl, Nat.le_refl _, by omega, (Below.refl _ _).alloc (Nat.le_refl _) _, HRowN.out, HN0.out⟩
      case round =>
        clear HRowN HN0
        obtain ⟨i, V, rfl, hai, hib, hBq, hrowV, hnr⟩ := hrel
        obtain ⟨hBw, hrowA, c3, c4, hkn, hto⟩ := HQ.out wr hBq
        have HBq : Hid (Below w3.heap.size w3 wr) := hBq
        have HRowV : Hid (RowB wr w3.heap.size w3.heap.size M V) := hrowV
        have HNR : Hid (NR (kOf X) tok a b A (t, v) i i V) := hnr
        by_cases hle : i ≤ b
        · obtain ⟨x, hx⟩ : ∃ x, A.getD (i - a) false = x := ⟨_, rfl⟩
          have HX : Hid (A.getD (i - a) false = x) := hx
          have c1 := (hrowA.cell (m := i - a) (by have := HM.out; omega)).1
          rw [hx] at c1
          have i0 : (0 : Int) ≤ (i : Int) - (a : Int) := by omega
          have i1 : (i : Int) - (a : Int) < (M : Int) := by have := HM.out; omega
          have i2 : (i : Int) ≤ (b : Int) := by omega
          have i3 : ((i : Int) - (a : Int)).toNat = i - a := by omega
          cases x with
          | false =>
            clear hBq hrowV hnr hBw hrowA hkn hto hx c3 c4
            go_wp2_with fail
            go_roundw
            case rel => exact ⟨i + 1, V, by go_num, by omega, by omega, HBq.out, HRowV.out, nr_skip HNR.out HX.out⟩
            case measure => simp [intOf]; omega
          | true =>
            cases t with
            | true =>
              by_cases hib2 : i < b
              · obtain ⟨tg, tO, tc', hte, _, d1⟩ := hto.2 i (by omega)
                cases hte
                obtain ⟨y, hy⟩ : ∃ y, tok.getD i 0 = y := ⟨_, rfl⟩
                have HY : Hid (tok.getD i 0 = y) := hy
                rw [hy] at d1
                have i4 : (i : Int) < (b : Int) := by omega
                have i5 : (0 : Int) ≤ (i : Int) := Int.natCast_nonneg _
                have i6 : (i : Int) < (tok.length : Int) := by omega
                by_cases hyv : y = v
                · subst hyv
                  have ey : (y == y) = true := by simp
                  obtain ⟨e1, e2⟩ := hrowV.cell (m := i + 1 - a) (by have := HM.out; omega)
                  have i7 : (0 : Int) ≤ (i : Int) + 1 - (a : Int) := by omega
                  have i8 : (i : Int) + 1 - (a : Int) < (M : Int) := by have := HM.out; omega
                  have i9 : ((i : Int) + 1 - (a : Int)).toNat = i + 1 - a := by omega
                  clear hBq hrowV hnr hBw hrowA hkn hto hx hy
                  go_wp2_with fail
                  go_big_quiet (fail)
                  go_wp2_with fail
                  go_roundw
                  case rel => exact ⟨i + 1, _, by go_num, by omega, by omega, (below_drewN HBq.out _).setCell (by simp) _, RowB.set (w := wr.drewN _) HRowV.out (i + 1 - a) true, nr_hit HNR.out hai HX.out rfl hib2 HY.out⟩
                  case measure => simp [intOf]; omega
                · have ey : (y == v) = false := by simpa using hyv
                  have HNo : Hid (¬ (i < b ∧ tok.getD i 0 = v)) := fun h => hyv (by rw [← HY.out]; exact h.2)
                  clear hBq hrowV hnr hBw hrowA hkn hto hx hy
                  go_wp2_with fail
                  go_big_quiet (fail)
                  go_wp2_with fail
                  go_roundw
                  case rel => exact ⟨i + 1, _, by go_num, by omega, by omega, below_drewN HBq.out _, HRowV.out, nr_miss HNR.out rfl HNo.out⟩
                  case measure => simp [intOf]; omega
              · have i4 : decide ((i : Int) < (b : Int)) = false := decide_eq_false (by omega)
                have HNo : Hid (¬ (i < b ∧ tok.getD i 0 = v)) := fun h => hib2 h.1
                clear hBq hrowV hnr hBw hrowA hkn hto hx
                go_wp2_with fail
                go_big_quiet (fail)
                go_wp2_with fail
                go_roundw
                case rel => exact ⟨i + 1, _, by go_num, by omega, by omega, below_drewN HBq.out _, HRowV.out, nr_miss HNR.out rfl HNo.out⟩
                case measure => simp [intOf]; omega
            | false =>
              have hv : 0 ≤ v ∧ v < (N : Int) := hrng rfl
              obtain ⟨y, rfl⟩ : ∃ y : Nat, v = y := ⟨v.toNat, by omega⟩
              obtain ⟨w4, hw4⟩ : ∃ w4, w4 = wr := ⟨_, rfl⟩
              subst hw4
              clear hBq hrowV hnr hBw hrowA hkn hto hx
              go_wp2_with fail
              go_loopw [15] (fun s15 wq => ∃ (j : Nat) (U : List Bool), s15 = .int .i64 j ∧ i ≤ j ∧ j ≤ b + 1 ∧ Below w3.heap.size w3 wq ∧ RowB wq w3.heap.size w3.heap.size M U ∧ NR (kOf X) tok a b A (false, (y : Int)) i j U) (fun s _ => b + 1 - (intOf s).toNat)
              case atStart => exact ⟨i, V, rfl, Nat.le_refl _, by omega, HBq.out, HRowV.out, HNR.out⟩
              case round =>
                clear HBq HRowV HNR c1 c3 c4
                obtain ⟨j, U, rfl, hij, hjb, hBq, hrowV, hnr⟩ := hrel
                obtain ⟨hBw, hrowA, c3, c4, hkn, hto⟩ := HQ.out wr hBq
                have HBq : Hid (Below w3.heap.size w3 wr) := hBq
                have HRowV : Hid (RowB wr w3.heap.size w3.heap.size M U) := hrowV
                have HNR : Hid (NR (kOf X) tok a b A (false, (y : Int)) i j U) := hnr
                by_cases hjle : j ≤ b
                · obtain ⟨g1, o1, q1, g2, o2, q2, g3, o3, q3, hke, d1, d2, d3⟩ := hkn.2 i j (by omega) (by omega)
                  cases hke
                  have d4 := d3 y (by omega)
                  obtain ⟨z, hz⟩ : ∃ z, (X i j).getD y false = z := ⟨_, rfl⟩
                  have HZ : Hid (kOf X i j ((y : Int)).toNat = z) := hz
                  rw [hz] at d4
                  have k0 : (0 : Int) ≤ (i : Int) := Int.natCast_nonneg _
                  have k1 : (i : Int) < (tok.length : Int) + 1 := by omega
                  have k2 : (0 : Int) ≤ (j : Int) := Int.natCast_nonneg _
                  have k3 : (j : Int) < (tok.length : Int) + 1 := by omega
                  have k4 : (0 : Int) ≤ (y : Int) := Int.natCast_nonneg _
                  have k5 : (y : Int) < (N : Int) := by omega
                  have k6 : (j : Int) ≤ (b : Int) := by omega
                  obtain ⟨e1, e2⟩ := hrowV.cell (m := j - a) (by have := HM.out; omega)
                  have i7 : (0 : Int) ≤ (j : Int) - (a : Int) := by omega
                  have i8 : (j : Int) - (a : Int) < (M : Int) := by have := HM.out; omega
                  have i9 : ((j : Int) - (a : Int)).toNat = j - a := by omega
                  clear hBq hrowV hnr hBw hrowA hkn hto hz d3
                  cases z with
                  | true =>
                    go_wp2_with fail
                    go_big_quiet (fail)
                    go_wp2_with fail
                    go_roundw
                    case rel => exact ⟨j + 1, _, by go_num, by omega, by omega, (below_drewN HBq.out _).setCell (by simp) _, RowB.set (w := wr.drewN _) HRowV.out (j - a) true, nr_known HNR.out hai hij hjle HX.out rfl HZ.out⟩
                    case measure => simp [intOf]; omega
                  | false =>
                    go_wp2_with fail
                    go_big_quiet (fail)
                    go_wp2_with fail
                    go_roundw
                    case rel => exact ⟨j + 1, _, by go_num, by omega, by omega, below_drewN HBq.out _, HRowV.out, nr_not HNR.out HZ.out⟩
                    case measure => simp [intOf]; omega
                · obtain rfl : j = b + 1 := by omega
                  have k6 : decide (((b : Int) + 1) ≤ (b : Int)) = false := decide_eq_false (by omega)
                  clear hBq hrowV hnr hBw hrowA hkn hto
                  go_wp2_with fail
                  go_roundw
                  case rel => exact ⟨i + 1, _, by go_num, by omega, by omega, HBq.out, HRowV.out, nr_through HNR.out hai HX.out rfl⟩
                  case measure => simp [intOf]; omega
        · obtain rfl : i = b + 1 := by omega
          have i2 : decide (((b : Int) + 1) ≤ (b : Int)) = false := decide_eq_false (by omega)
          have HE : Hid (AtRow (kOf X) tok a b (l.take (k + 1)) V) := nr_end hlt hab HAt.out (by rw [HSy.out]; exact HNR.out)
          have HBw : Hid (Below w.heap.size w wr) := hBw
          clear hBq hrowV hnr hBw hrowA hkn hto
          go_wp2_with fail
          go_roundw
          case rel => exact ⟨k + 1, w3.heap.size, V, rfl, by go_num, by omega, HBw.out, HRowV.out.mono HB.out.size, HE.out⟩
          case measure => simp [intOf]; omega
    · obtain rfl : k = l.length := by omega
      obtain ⟨x, hx⟩ : ∃ x, A.getD (b - a) false = x := ⟨_, rfl⟩
      have c1 := (hrow.cell (m := b - a) (by have := HM.out; omega)).1
      rw [hx] at c1
      have i0 : (0 : Int) ≤ (b : Int) - (a : Int) := by omega
      have i1 : (b : Int) - (a : Int) < (M : Int) := by have := HM.out; omega
      have i3 : ((b : Int) - (a : Int)).toNat = b - a := by omega
      have HE : Hid (x = true ↔ Rch (kOf X) tok b l a b) := by
        have := HAt.out.2 b hab (Nat.le_refl _)
        rw [List.take_length, hx] at this
        exact this
      clear hB hrow hat hx
      go_wp2_with fail
      go_ret
      exact ⟨x, rfl, HE.out, HB.out⟩

end Go.Proofs.Ythmdlaappenjgaa
