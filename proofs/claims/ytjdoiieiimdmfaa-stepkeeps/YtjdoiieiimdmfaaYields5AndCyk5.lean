import Derived.Test.YtjdoiieiimdmfaaRowBAndConcR
import Derived.Test.YtjdoiieiimdmfaaConcYAndMay8
import Derived.BigQuiet
import Derived.Deep.LoopGhost
import Derived.Test.YtjdoiieiimdmfaaStOfLAndRef3Math
/- The contract of pollardingref5.yields. -/
namespace Go.Proofs.Ytjdoiieiimdmfaa
open Go.RowKit

theorem same_of_below {w w' : World} (h : Below w.heap.size w w') : ∀ b o, b < w.heap.size → w'.cell? ⟨b, o, none⟩ = w.cell? ⟨b, o, none⟩ := fun _ _ hb => h.cell hb

/-- What is known of parts lies in memory: (n + 1) by (n + 1) rows of N truths. -/
def KnownAt (w : World) (kv : Value) (n N : Nat) (X : Nat → Nat → List Bool) : Prop :=
  (∃ a c, kv = .slice a (n + 1) c) ∧ ∀ i j, i ≤ n → j ≤ n → ∃ g o c g' o' c' b p c'', kv = .slice (some ⟨g, o, none⟩) (n + 1) c ∧ w.cell? ⟨g, o + i, none⟩ = some (.slice (some ⟨g', o', none⟩) (n + 1) c') ∧
    w.cell? ⟨g', o' + j, none⟩ = some (.slice (some ⟨b, p, none⟩) N c'') ∧ ∀ m, m < N → w.cell? ⟨b, p + m, none⟩ = some (.bool ((X i j).getD m false))

theorem KnownAt.same {w w' : World} {kv : Value} {n N : Nat} {X : Nat → Nat → List Bool} (h : KnownAt w kv n N X) (hw : ∀ b o, b < w.heap.size → w'.cell? ⟨b, o, none⟩ = w.cell? ⟨b, o, none⟩) : KnownAt w' kv n N X := by
  refine ⟨h.1, fun i j hi hj => ?_⟩
  obtain ⟨g, o, c, g', o', c', b, p, c'', h1, h2, h3, h4⟩ := h.2 i j hi hj
  exact ⟨g, o, c, g', o', c', b, p, c'', h1, (hw _ _ (World.block_lt_of_cell? w _ h2)).trans h2, (hw _ _ (World.block_lt_of_cell? w _ h3)).trans h3, fun m hm => (hw _ _ (World.block_lt_of_cell? w _ (h4 m hm))).trans (h4 m hm)⟩

def kOf (X : Nat → Nat → List Bool) (i j m : Nat) : Bool := (X i j).getD m false

/-- The row A tells where the symbols may have come to. -/
def AtRow (K : Nat → Nat → Nat → Bool) (tok : List Int) (a b : Nat) (l : List Sy) (A : List Bool) : Prop :=
  A.length = b - a + 1 ∧ ∀ x, a ≤ x → x ≤ b → (A.getD (x - a) false = true ↔ Rch K tok b l a x)

/-- .. and the row V where the next one may, from what lies below i, and from i to what lies below j. -/
def NR (K : Nat → Nat → Nat → Bool) (tok : List Int) (a b : Nat) (A : List Bool) (s : Sy) (i j : Nat) (V : List Bool) : Prop :=
  V.length = b - a + 1 ∧ ∀ x, a ≤ x → x ≤ b → (V.getD (x - a) false = true ↔ (∃ m, a ≤ m ∧ m < i ∧ A.getD (m - a) false = true ∧ Mv K tok b s m x) ∨ (A.getD (i - a) false = true ∧ s.1 = false ∧ i ≤ x ∧ x < j ∧ K i x s.2.toNat = true))

theorem getD_set_eq {V : List Bool} {k y : Nat} (hk : k < V.length) : (V.set k true).getD y false = true ↔ y = k ∨ V.getD y false = true := by
  by_cases h : k = y
  · subst h
    rw [List.getD, List.getElem?_set_self hk]
    simp
  · rw [List.getD, List.getElem?_set_ne h]
    constructor
    · intro h1; exact .inr h1
    · rintro (h1 | h1)
      · exact absurd h1.symm h
      · exact h1

section
variable {K : Nat → Nat → Nat → Bool} {tok : List Int} {a b : Nat} {A V : List Bool} {s : Sy} {i j : Nat}

theorem at_start (K : Nat → Nat → Nat → Bool) (tok : List Int) {a b : Nat} : AtRow K tok a b [] ((List.replicate (b - a + 1) false).set 0 true) := by
  refine ⟨by simp, fun x h1 h2 => ?_⟩
  rw [getD_set_eq (by simp)]
  show _ ↔ a = x
  have : (List.replicate (b - a + 1) false).getD (x - a) false = false := by simp [List.getD, show x - a < b - a + 1 by omega]
  rw [this]
  simp
  omega

theorem nr_start (K : Nat → Nat → Nat → Bool) (tok : List Int) (a b : Nat) (A : List Bool) (s : Sy) : NR K tok a b A s a a (List.replicate (b - a + 1) false) := by
  refine ⟨by simp, fun x h1 h2 => ?_⟩
  have : (List.replicate (b - a + 1) false).getD (x - a) false = false := by simp [List.getD, show x - a < b - a + 1 by omega]
  rw [this]
  constructor
  · intro h; cases h
  · rintro (⟨m, h3, h4, _⟩ | ⟨_, _, h3, h4, _⟩) <;> omega

theorem nr_skip (h : NR K tok a b A s i i V) (hA : A.getD (i - a) false = false) : NR K tok a b A s (i + 1) (i + 1) V := by
  refine ⟨h.1, fun x h1 h2 => (h.2 x h1 h2).trans ?_⟩
  constructor
  · rintro (⟨m, h3, h4, h5, h6⟩ | ⟨h3, _⟩)
    · exact .inl ⟨m, h3, by omega, h5, h6⟩
    · rw [hA] at h3; cases h3
  · rintro (⟨m, h3, h4, h5, h6⟩ | ⟨_, _, h3, h4, _⟩)
    · refine .inl ⟨m, h3, ?_, h5, h6⟩
      by_cases e : m = i
      · subst e; rw [hA] at h5; cases h5
      · omega
    · omega

theorem nr_hit (h : NR K tok a b A s i i V) (hai : a ≤ i) (hA : A.getD (i - a) false = true) (hs : s.1 = true) (hi : i < b) (ht : tok.getD i 0 = s.2) : NR K tok a b A s (i + 1) (i + 1) (V.set (i + 1 - a) true) := by
  have hl := h.1
  refine ⟨by simp [hl], fun x h1 h2 => ?_⟩
  rw [getD_set_eq (by omega), h.2 x h1 h2]
  constructor
  · rintro (h3 | ⟨m, h3, h4, h5, h6⟩ | ⟨_, _, h3, h4, _⟩)
    · exact .inl ⟨i, hai, by omega, hA, .inl ⟨hs, hi, by omega, ht⟩⟩
    · exact .inl ⟨m, h3, by omega, h5, h6⟩
    · omega
  · rintro (⟨m, h3, h4, h5, h6⟩ | ⟨_, _, h3, h4, _⟩)
    · by_cases e : m = i
      · subst e
        rcases h6 with ⟨_, _, h7, _⟩ | ⟨h7, _⟩
        · left; omega
        · rw [hs] at h7; cases h7
      · exact .inr (.inl ⟨m, h3, by omega, h5, h6⟩)
    · omega

theorem nr_miss (h : NR K tok a b A s i i V) (hs : s.1 = true) (hno : ¬ (i < b ∧ tok.getD i 0 = s.2)) : NR K tok a b A s (i + 1) (i + 1) V := by
  refine ⟨h.1, fun x h1 h2 => (h.2 x h1 h2).trans ?_⟩
  constructor
  · rintro (⟨m, h3, h4, h5, h6⟩ | ⟨_, h3, _⟩)
    · exact .inl ⟨m, h3, by omega, h5, h6⟩
    · rw [hs] at h3; cases h3
  · rintro (⟨m, h3, h4, h5, h6⟩ | ⟨_, _, h3, h4, _⟩)
    · by_cases e : m = i
      · subst e
        rcases h6 with ⟨_, h7, _, h8⟩ | ⟨h7, _⟩
        · exact absurd ⟨h7, h8⟩ hno
        · rw [hs] at h7; cases h7
      · exact .inl ⟨m, h3, by omega, h5, h6⟩
    · omega

theorem nr_known (h : NR K tok a b A s i j V) (hai : a ≤ i) (hij : i ≤ j) (hj : j ≤ b) (hA : A.getD (i - a) false = true) (hs : s.1 = false) (hK : K i j s.2.toNat = true) : NR K tok a b A s i (j + 1) (V.set (j - a) true) := by
  have hl := h.1
  refine ⟨by simp [hl], fun x h1 h2 => ?_⟩
  rw [getD_set_eq (by omega), h.2 x h1 h2]
  constructor
  · rintro (h3 | h3 | ⟨h3, h4, h5, h6, h7⟩)
    · have e : x = j := by omega
      subst e
      exact .inr ⟨hA, hs, hij, by omega, hK⟩
    · exact .inl h3
    · exact .inr ⟨h3, h4, h5, by omega, h7⟩
  · rintro (h3 | ⟨h3, h4, h5, h6, h7⟩)
    · exact .inr (.inl h3)
    · by_cases e : x = j
      · left; omega
      · exact .inr (.inr ⟨h3, h4, h5, by omega, h7⟩)

theorem nr_not (h : NR K tok a b A s i j V) (hK : K i j s.2.toNat = false) : NR K tok a b A s i (j + 1) V := by
  refine ⟨h.1, fun x h1 h2 => (h.2 x h1 h2).trans ?_⟩
  constructor
  · rintro (h3 | ⟨h3, h4, h5, h6, h7⟩)
    · exact .inl h3
    · exact .inr ⟨h3, h4, h5, by omega, h7⟩
  · rintro (h3 | ⟨h3, h4, h5, h6, h7⟩)
    · exact .inl h3
    · refine .inr ⟨h3, h4, h5, ?_, h7⟩
      by_cases e : x = j
      · subst e; rw [hK] at h7; cases h7
      · omega

theorem nr_through (h : NR K tok a b A s i (b + 1) V) (hai : a ≤ i) (hA : A.getD (i - a) false = true) (hs : s.1 = false) : NR K tok a b A s (i + 1) (i + 1) V := by
  refine ⟨h.1, fun x h1 h2 => (h.2 x h1 h2).trans ?_⟩
  constructor
  · rintro (⟨m, h3, h4, h5, h6⟩ | ⟨_, _, h5, h6, h7⟩)
    · exact .inl ⟨m, h3, by omega, h5, h6⟩
    · exact .inl ⟨i, hai, by omega, hA, .inr ⟨hs, h5, h2, h7⟩⟩
  · rintro (⟨m, h3, h4, h5, h6⟩ | ⟨_, _, h3, h4, _⟩)
    · by_cases e : m = i
      · subst e
        rcases h6 with ⟨h7, _⟩ | ⟨_, h7, h8, h9⟩
        · rw [hs] at h7; cases h7
        · exact .inr ⟨hA, hs, h7, by omega, h9⟩
      · exact .inl ⟨m, h3, by omega, h5, h6⟩
    · omega

theorem nr_end {l : List Sy} {k : Nat} (hk : k < l.length) (hab : a ≤ b) (hat : AtRow K tok a b (l.take k) A) (h : NR K tok a b A (l.getD k (false, 0)) (b + 1) (b + 1) V) : AtRow K tok a b (l.take (k + 1)) V := by
  have e : l.take (k + 1) = l.take k ++ [l.getD k (false, 0)] := by rw [List.take_succ_eq_append_getElem hk]; simp [List.getD, hk]
  refine ⟨h.1, fun x h1 h2 => (h.2 x h1 h2).trans ?_⟩
  rw [e, Rch_snoc]
  constructor
  · rintro (⟨m, h3, h4, h5, h6⟩ | ⟨_, _, h3, h4, _⟩)
    · exact ⟨m, (hat.2 m h3 (by omega)).1 h5, h6⟩
    · omega
  · rintro ⟨m, h3, h4⟩
    have := h3.le hab
    exact .inl ⟨m, this.1, by omega, (hat.2 m this.1 this.2).2 h3, h4⟩
end

set_option maxRecDepth 100000 in
set_option maxHeartbeats 3200000 in
theorem yields5_any {w : World} {lim lc n N a b : Nat} {la : Option Addr} {tv kv : Value} {tok : List Int} {X : Nat → Nat → List Bool} {l : List Sy} (hl : RightAt w lim la l) (hlim : lim ≤ w.heap.size) (ht : ListAt w w.heap.size tv tok) (hk : KnownAt w kv n N X) (hn : tok.length = n) (hn30 : n ≤ 1000) (hab : a ≤ b) (hbn : b ≤ n)
    (hin : ∀ s ∈ l, s.1 = false → 0 ≤ s.2 ∧ s.2 < (N : Int)) (h8 : l.length ≤ 1000) :
    Calls Try.prog 9 #[.slice la l.length lc, tv, kv, .int .i64 a, .int .i64 b] w fun e w' => ∃ z, e = .returned (.bool z) ∧ (z = true ↔ Rch (kOf X) tok b l a b) ∧ Below w.heap.size w w' := by
  subst hn
  obtain ⟨ta, tc, htv⟩ := ht.1
  obtain ⟨ka, kc, hkv⟩ := hk.1
  subst htv
  subst hkv
  have HL : Hid (RightAt w lim la l) := hl
  have HT : Hid (ListAt w w.heap.size (.slice ta tok.length tc) tok) := ht
  have HK : Hid (KnownAt w (.slice ka (tok.length + 1) kc) tok.length N X) := hk
  have HI : Hid (∀ s ∈ l, s.1 = false → 0 ≤ s.2 ∧ s.2 < (N : Int)) := hin
  obtain ⟨M, hM⟩ : ∃ M, b - a + 1 = M := ⟨_, rfl⟩
  have HM : Hid (b - a + 1 = M) := hM
  have mkM : ∀ u : World, (Instr.makeSlice 46 (.int .i64 ((b : Int) - (a : Int) + 1)) (.int .i64 ((b : Int) - (a : Int) + 1))).run Try.prog u = .ok (.slice (some ⟨u.heap.size, 0, none⟩) M M) (u.alloc (.cells (madeCells #[.bool false] M) 4)) := fun u => by
    have := make_bools M (by omega) u
    rw [show ((b : Int) - (a : Int) + 1) = (M : Int) by omega]
    exact this
  have HA0 : Hid (AtRow (kOf X) tok a b [] ((List.replicate M false).set 0 true)) := by rw [← hM]; exact at_start _ _
  have hM0 : (0 : Int) < (M : Int) := by omega
  have HMl : Hid (M ≤ maxLen) := by show M ≤ maxLen; unfold maxLen; omega
  have HRow0 : Hid (RowB (w.alloc (.cells (madeCells #[.bool false] M) 4)) w.heap.size w.heap.size M (List.replicate M false)) := row_made w HMl.out
  obtain ⟨f1, f2⟩ := HRow0.out.cell (m := 0) (by omega)
  clear hl ht hk hin hM
  go_enter Try.func9, Try.ntmps9
  go_wp2_with fail
  have HRow1 : Hid (RowB (w.alloc (.cells ((madeCells #[.bool false] M).setIfInBounds 0 (.bool true)) 4)) w.heap.size w.heap.size M ((List.replicate M false).set 0 true)) := row_made_set w HMl.out 0 true
  clear f1 f2 HRow0
  go_loopw [11, 12] (fun s11 s12 wr => ∃ (k g : Nat) (A : List Bool), s11 = .slice (some ⟨g, 0, none⟩) M M ∧ s12 = .int .i64 k ∧ k ≤ l.length ∧ Below w.heap.size w wr ∧ RowB wr w.heap.size g M A ∧ AtRow (kOf X) tok a b (l.take k) A) (fun _ s _ => l.length - (intOf s).toNat)
  case atStart => exact ⟨0, w.heap.size, _, rfl, rfl, Nat.zero_le _, (Below.refl _ _).alloc (Nat.le_refl _) _, HRow1.out, HA0.out⟩
  case round =>
    clear HRow1 HA0
    obtain ⟨k, g, A, rfl, rfl, hk, hB, hrow, hat⟩ := hrel
    have HB : Hid (Below w.heap.size w wr) := hB
    have HRowA : Hid (RowB wr w.heap.size g M A) := hrow
    have HAt : Hid (AtRow (kOf X) tok a b (l.take k) A) := hat
    have hgl := World.block_lt_of_cell? wr _ (hrow.cell (m := 0) (by omega)).1
    simp only at hgl
    by_cases hlt : k < l.length
    · obtain ⟨b', o', hqa, hb', k3, k4⟩ := (HL.out.below (hB.mono hlim)) k hlt
      subst hqa
      have hmem : l.getD k (false, 0) ∈ l := by simp [List.getD, hlt]
      have hrng := HI.out _ hmem
      obtain ⟨⟨t, v⟩, hs⟩ : ∃ x, l.getD k (false, 0) = x := ⟨_, rfl⟩
      rw [hs] at k3 k4 hrng
      have HSy : Hid (l.getD k (false, 0) = (t, v)) := hs
      have HQ : Hid (∀ wq, Below wr.heap.size wr wq → Below w.heap.size w wq ∧ RowB wq w.heap.size g M A ∧ wq.cell? ⟨b', o' + k * 2, none⟩ = some (.bool t) ∧ wq.cell? ⟨b', o' + k * 2 + 1, none⟩ = some (.int .i64 v) ∧ KnownAt wq (.slice ka (tok.length + 1) kc) tok.length N X ∧ ListAt wq wq.heap.size (.slice ta tok.length tc) tok) := fun wq hq => by
        have hB' : Below w.heap.size w wq := HB.out.trans (hq.mono HB.out.size)
        refine ⟨hB', HRowA.out.below hq, (hq.cell (p := ⟨b', o' + k * 2, none⟩) (World.block_lt_of_cell? _ _ k3)).trans k3, ?_, HK.out.same (same_of_below hB'), (HT.out.below hB').mono hB'.size⟩
        rw [Nat.add_assoc]
        exact (hq.cell (p := ⟨b', o' + (k * 2 + 1), none⟩) (World.block_lt_of_cell? _ _ k4)).trans k4
      have HN0 : Hid (NR (kOf X) tok a b A (t, v) a a (List.replicate M false)) := by
        show NR (kOf X) tok a b A (t, v) a a (List.replicate M false)
        rw [← HM.out]
        exact nr_start _ _ _ _ _ _
      have HRowN : Hid (RowB (wr.alloc (.cells (madeCells #[.bool false] M) 4)) wr.heap.size wr.heap.size M (List.replicate M false)) := row_made wr HMl.out
      have j0 : (0 : Int) ≤ (k : Int) := Int.natCast_nonneg _
      have j1 : (k : Int) < (l.length : Int) := by omega
      obtain ⟨w3, hw3⟩ : ∃ w3, w3 = wr := ⟨_, rfl⟩
      subst hw3
      clear hB hrow hat hmem hs k3 k4
      go_wp2_with fail
      go_loopw [14] (fun s14 wq => ∃ (i : Nat) (V : List Bool), s14 = .int .i64 i ∧ a ≤ i ∧ i ≤ b + 1 ∧ Below w3.heap.size w3 wq ∧ RowB wq w3.heap.size w3.heap.size M V ∧ NR (kOf X) tok a b A (t, v) i i V) (fun s _ => b + 1 - (intOf s).toNat)
      case atStart => exact ⟨a, _, rfl, Nat.le_refl _, by omega, (Below.refl _ _).alloc (Nat.le_refl _) _, HRowN.out, HN0.out⟩
      case round =>
        clear HRowN HN0
        obtain ⟨i, V, rfl, hai, hib, hBq, hrowV, hnr⟩ := hrel
        obtain ⟨hBw, hrowA, c3, c4, hkn, hto⟩ := HQ.out wr hBq
        have HBq : Hid (Below w3.heap.size w3 wr) := hBq
        have HRowV : Hid (RowB wr w3.heap.size w3.heap.size M V) := hrowV
        have HNR : Hid (NR (kOf X) tok a b A (t, v) i i V) := hnr
        by_cases hle : i ≤ b
        · obtain ⟨x, hx⟩ : ∃ x, A.getD (i - a) false = x := ⟨_, rfl⟩
          have HX : Hid (A.getD (i - a) false = x) := hx
          have c1 := (hrowA.cell (m := i - a) (by have := HM.out; omega)).1
          rw [hx] at c1
          have i0 : (0 : Int) ≤ (i : Int) - (a : Int) := by omega
          have i1 : (i : Int) - (a : Int) < (M : Int) := by have := HM.out; omega
          have i2 : (i : Int) ≤ (b : Int) := by omega
          have i3 : ((i : Int) - (a : Int)).toNat = i - a := by omega
          cases x with
          | false =>
            clear hBq hrowV hnr hBw hrowA hkn hto hx c3 c4
            go_wp2_with fail
            go_roundw
            case rel => exact ⟨i + 1, V, by go_num, by omega, by omega, HBq.out, HRowV.out, nr_skip HNR.out HX.out⟩
            case measure => simp [intOf]; omega
          | true =>
            cases t with
            | true =>
              by_cases hib2 : i < b
              · obtain ⟨tg, tO, tc', hte, _, d1⟩ := hto.2 i (by omega)
                cases hte
                obtain ⟨y, hy⟩ : ∃ y, tok.getD i 0 = y := ⟨_, rfl⟩
                have HY : Hid (tok.getD i 0 = y) := hy
                rw [hy] at d1
                have i4 : (i : Int) < (b : Int) := by omega
                have i5 : (0 : Int) ≤ (i : Int) := Int.natCast_nonneg _
                have i6 : (i : Int) < (tok.length : Int) := by omega
                by_cases hyv : y = v
                · subst hyv
                  have ey : (y == y) = true := by simp
                  obtain ⟨e1, e2⟩ := hrowV.cell (m := i + 1 - a) (by have := HM.out; omega)
                  have i7 : (0 : Int) ≤ (i : Int) + 1 - (a : Int) := by omega
                  have i8 : (i : Int) + 1 - (a : Int) < (M : Int) := by have := HM.out; omega
                  have i9 : ((i : Int) + 1 - (a : Int)).toNat = i + 1 - a := by omega
                  clear hBq hrowV hnr hBw hrowA hkn hto hx hy
                  go_wp2_with fail
                  go_big_quiet (fail)
                  go_wp2_with fail
                  go_roundw
                  case rel => exact ⟨i + 1, _, by go_num, by omega, by omega, (below_drewN HBq.out _).setCell (by simp) _, RowB.set (w := wr.drewN _) HRowV.out (i + 1 - a) true, nr_hit HNR.out hai HX.out rfl hib2 HY.out⟩
                  case measure => simp [intOf]; omega
                · have ey : (y == v) = false := by simpa using hyv
                  have HNo : Hid (¬ (i < b ∧ tok.getD i 0 = v)) := fun h => hyv (by rw [← HY.out]; exact h.2)
                  clear hBq hrowV hnr hBw hrowA hkn hto hx hy
                  go_wp2_with fail
                  go_big_quiet (fail)
                  go_wp2_with fail
                  go_roundw
                  case rel => exact ⟨i + 1, _, by go_num, by omega, by omega, below_drewN HBq.out _, HRowV.out, nr_miss HNR.out rfl HNo.out⟩
                  case measure => simp [intOf]; omega
              · have i4 : decide ((i : Int) < (b : Int)) = false := decide_eq_false (by omega)
                have HNo : Hid (¬ (i < b ∧ tok.getD i 0 = v)) := fun h => hib2 h.1
                clear hBq hrowV hnr hBw hrowA hkn hto hx
                go_wp2_with fail
                go_big_quiet (fail)
                go_wp2_with fail
                go_roundw
                case rel => exact ⟨i + 1, _, by go_num, by omega, by omega, below_drewN HBq.out _, HRowV.out, nr_miss HNR.out rfl HNo.out⟩
                case measure => simp [intOf]; omega
            | false =>
              have hv : 0 ≤ v ∧ v < (N : Int) := hrng rfl
              obtain ⟨y, rfl⟩ : ∃ y : Nat, v = y := ⟨v.toNat, by omega⟩
              obtain ⟨w4, hw4⟩ : ∃ w4, w4 = wr := ⟨_, rfl⟩
              subst hw4
              clear hBq hrowV hnr hBw hrowA hkn hto hx
              go_wp2_with fail
              go_loopw [15] (fun s15 wq => ∃ (j : Nat) (U : List Bool), s15 = .int .i64 j ∧ i ≤ j ∧ j ≤ b + 1 ∧ Below w3.heap.size w3 wq ∧ RowB wq w3.heap.size w3.heap.size M U ∧ NR (kOf X) tok a b A (false, (y : Int)) i j U) (fun s _ => b + 1 - (intOf s).toNat)
              case atStart => exact ⟨i, V, rfl, Nat.le_refl _, by omega, HBq.out, HRowV.out, HNR.out⟩
              case round =>
                clear HBq HRowV HNR c1 c3 c4
                obtain ⟨j, U, rfl, hij, hjb, hBq, hrowV, hnr⟩ := hrel
                obtain ⟨hBw, hrowA, c3, c4, hkn, hto⟩ := HQ.out wr hBq
                have HBq : Hid (Below w3.heap.size w3 wr) := hBq
                have HRowV : Hid (RowB wr w3.heap.size w3.heap.size M U) := hrowV
                have HNR : Hid (NR (kOf X) tok a b A (false, (y : Int)) i j U) := hnr
                by_cases hjle : j ≤ b
                · obtain ⟨g1, o1, q1, g2, o2, q2, g3, o3, q3, hke, d1, d2, d3⟩ := hkn.2 i j (by omega) (by omega)
                  cases hke
                  have d4 := d3 y (by omega)
                  obtain ⟨z, hz⟩ : ∃ z, (X i j).getD y false = z := ⟨_, rfl⟩
                  have HZ : Hid (kOf X i j ((y : Int)).toNat = z) := hz
                  rw [hz] at d4
                  have k0 : (0 : Int) ≤ (i : Int) := Int.natCast_nonneg _
                  have k1 : (i : Int) < (tok.length : Int) + 1 := by omega
                  have k2 : (0 : Int) ≤ (j : Int) := Int.natCast_nonneg _
                  have k3 : (j : Int) < (tok.length : Int) + 1 := by omega
                  have k4 : (0 : Int) ≤ (y : Int) := Int.natCast_nonneg _
                  have k5 : (y : Int) < (N : Int) := by omega
                  have k6 : (j : Int) ≤ (b : Int) := by omega
                  obtain ⟨e1, e2⟩ := hrowV.cell (m := j - a) (by have := HM.out; omega)
                  have i7 : (0 : Int) ≤ (j : Int) - (a : Int) := by omega
                  have i8 : (j : Int) - (a : Int) < (M : Int) := by have := HM.out; omega
                  have i9 : ((j : Int) - (a : Int)).toNat = j - a := by omega
                  clear hBq hrowV hnr hBw hrowA hkn hto hz d3
                  cases z with
                  | true =>
                    go_wp2_with fail
                    go_big_quiet (fail)
                    go_wp2_with fail
                    go_roundw
                    case rel => exact ⟨j + 1, _, by go_num, by omega, by omega, (below_drewN HBq.out _).setCell (by simp) _, RowB.set (w := wr.drewN _) HRowV.out (j - a) true, nr_known HNR.out hai hij hjle HX.out rfl HZ.out⟩
                    case measure => simp [intOf]; omega
                  | false =>
                    go_wp2_with fail
                    go_big_quiet (fail)
                    go_wp2_with fail
                    go_roundw
                    case rel => exact ⟨j + 1, _, by go_num, by omega, by omega, below_drewN HBq.out _, HRowV.out, nr_not HNR.out HZ.out⟩
                    case measure => simp [intOf]; omega
                · obtain rfl : j = b + 1 := by omega
                  have k6 : decide (((b : Int) + 1) ≤ (b : Int)) = false := decide_eq_false (by omega)
                  clear hBq hrowV hnr hBw hrowA hkn hto
                  go_wp2_with fail
                  go_roundw
                  case rel => exact ⟨i + 1, _, by go_num, by omega, by omega, HBq.out, HRowV.out, nr_through HNR.out hai HX.out rfl⟩
                  case measure => simp [intOf]; omega
        · obtain rfl : i = b + 1 := by omega
          have i2 : decide (((b : Int) + 1) ≤ (b : Int)) = false := decide_eq_false (by omega)
          have HE : Hid (AtRow (kOf X) tok a b (l.take (k + 1)) V) := nr_end hlt hab HAt.out (by rw [HSy.out]; exact HNR.out)
          have HBw : Hid (Below w.heap.size w wr) := hBw
          clear hBq hrowV hnr hBw hrowA hkn hto
          go_wp2_with fail
          go_roundw
          case rel => exact ⟨k + 1, w3.heap.size, V, rfl, by go_num, by omega, HBw.out, HRowV.out.mono HB.out.size, HE.out⟩
          case measure => simp [intOf]; omega
    · obtain rfl : k = l.length := by omega
      obtain ⟨x, hx⟩ : ∃ x, A.getD (b - a) false = x := ⟨_, rfl⟩
      have c1 := (hrow.cell (m := b - a) (by have := HM.out; omega)).1
      rw [hx] at c1
      have i0 : (0 : Int) ≤ (b : Int) - (a : Int) := by omega
      have i1 : (b : Int) - (a : Int) < (M : Int) := by have := HM.out; omega
      have i3 : ((b : Int) - (a : Int)).toNat = b - a := by omega
      have HE : Hid (x = true ↔ Rch (kOf X) tok b l a b) := by
        have := HAt.out.2 b hab (Nat.le_refl _)
        rw [List.take_length, hx] at this
        exact this
      clear hB hrow hat hx
      go_wp2_with fail
      go_ret
      exact ⟨x, rfl, HE.out, HB.out⟩

end Go.Proofs.Ytjdoiieiimdmfaa

/- How what is known of parts lies in memory while pollardingref5.Has makes it. No walk. -/
namespace Go.Proofs.Ytjdoiieiimdmfaa
open Go.RowKit

inductive Kx where
  | top
  | head (i : Nat)
  | row (i j : Nat)
  deriving DecidableEq

def hv (kg n i : Nat) : Value := .slice (some ⟨kg + 1 + i * (n + 2), 0, none⟩) (n + 1) (n + 1)
def rvK (kg n N i j : Nat) : Value := .slice (some ⟨kg + 1 + i * (n + 2) + 1 + j, 0, none⟩) N N
def topL (kg n I : Nat) : List Value := (List.range (n + 1)).map fun i => if i < I then hv kg n i else .slice none 0 0
def headL' (kg n N I J i : Nat) : List Value := (List.range (n + 1)).map fun j => if i + 1 < I ∨ j < J then rvK kg n N i j else .slice none 0 0

/-- I heads are made, and J rows of the last one. -/
def Pk (kg n N I J : Nat) : Kx → Option Row
  | .top => some ⟨.slice (some ⟨kg, 0, none⟩) (n + 1) (n + 1), 45, 1, n + 1, topL kg n I⟩
  | .head i => if i < I then some ⟨hv kg n i, 46, 1, n + 1, headL' kg n N I J i⟩ else none
  | .row i j => if i < I ∧ j ≤ n ∧ (i + 1 < I ∨ j < J) then some ⟨rvK kg n N i j, 4, 1, N, (List.replicate N false).map Value.bool⟩ else none

theorem Try.infoMat : (Try.prog.info? 45).map (fun i => (i.zero, i.size, i.bytes)) = some (some (.slice none 0 0), 1, 24) := by kernel_rfl
theorem Try.infoBoolsK : (Try.prog.info? 46).map (fun i => (i.zero, i.size, i.bytes)) = some (some (.slice none 0 0), 1, 24) := by kernel_rfl
theorem make_tops (n : Nat) (hn : n ≤ 1000000) (u : World) : (Instr.makeSlice 44 (.int .i64 n) (.int .i64 n)).run Try.prog u = .ok (.slice (some ⟨u.heap.size, 0, none⟩) n n) (u.alloc (.cells (madeCells #[.slice none 0 0] n) 45)) := by
  obtain ⟨i0, hi, hz0, hz1, hz2⟩ := info_parts Try.infoMat
  have h := run_make (P := Try.prog) u 44 45 i0 (.slice none 0 0) Try.underlying44 hi hz0 .i64 .i64 n n (by omega) (Int.le_refl _) (by rw [hz2]; omega) (by omega)
  simpa [hz1, Value.cells] using h
theorem make_heads (n : Nat) (hn : n ≤ 1000000) (u : World) : (Instr.makeSlice 45 (.int .i64 n) (.int .i64 n)).run Try.prog u = .ok (.slice (some ⟨u.heap.size, 0, none⟩) n n) (u.alloc (.cells (madeCells #[.slice none 0 0] n) 46)) := by
  obtain ⟨i0, hi, hz0, hz1, hz2⟩ := info_parts Try.infoBoolsK
  have h := run_make (P := Try.prog) u 45 46 i0 (.slice none 0 0) Try.underlying45 hi hz0 .i64 .i64 n n (by omega) (Int.le_refl _) (by rw [hz2]; omega) (by omega)
  simpa [hz1, Value.cells] using h

section
variable {w : World} {kg n N I J : Nat}

theorem pk_start (w : World) (n N : Nat) (hn : n + 1 ≤ maxLen) : Owns (w.alloc (.cells (madeCells #[.slice none 0 0] (n + 1)) 45)) w.heap.size (Pk w.heap.size n N 0 (n + 1)) := by
  refine ⟨fun i r hr => ?_, fun i j a b hij ha hb => ?_⟩
  · cases i with
    | top =>
      simp only [Pk, Option.some.injEq] at hr
      subst hr
      have := World.ownsRow_lit (base := w.heap.size) (e := 45) (size := 1) w (madeCells #[.slice none 0 0] (n + 1)) (n + 1) (Nat.le_refl _) hn (by simp [size_madeCells])
      rw [toList_madeCells_one] at this
      have e : topL w.heap.size n 0 = List.replicate (n + 1) (.slice none 0 0) := by
        unfold topL
        refine List.ext_getElem (by simp) fun i h1 h2 => ?_
        simp
      show World.ownsRow _ _ _ _ _ _ (topL w.heap.size n 0)
      rw [e]
      exact this
    | head i => simp [Pk] at hr
    | row i j => simp [Pk] at hr
  · cases i <;> simp [Pk] at ha
    cases j <;> simp [Pk] at hb
    exact absurd rfl hij

/-- A new head. -/
theorem pk_head (h : Owns w kg (Pk kg n N I (n + 1))) (hs : w.heap.size = kg + 1 + I * (n + 2)) (hI : I ≤ n) (hn : n + 1 ≤ maxLen) :
    Owns ((w.alloc (.cells (madeCells #[.slice none 0 0] (n + 1)) 46)).setCell ⟨kg, I, none⟩ (.slice (some ⟨w.heap.size, 0, none⟩) (n + 1) (n + 1))) kg (Pk kg n N (I + 1) 0) := by
  have hown := World.ownsRow_lit (base := kg) (e := 46) (size := 1) w (madeCells #[.slice none 0 0] (n + 1)) (n + 1) (by omega) hn (by simp [size_madeCells])
  rw [toList_madeCells_one] at hown
  have h1 := h.new (.head I) (r := ⟨.slice (some ⟨w.heap.size, 0, none⟩) (n + 1) (n + 1), 46, 1, n + 1, List.replicate (n + 1) (.slice none 0 0)⟩) (World.grownBy_alloc w _ none) hown (fun g hg => by simpa [Value.ownBlock] using hg.symm)
  have h2 := h1.store (i := .top) (g := kg) (n := n + 1) (cap := n + 1) (e := 45) (size := 1) (xs := topL kg n I) (by rw [upd_other _ (by simp)]; rfl) I (.slice (some ⟨w.heap.size, 0, none⟩) (n + 1) (n + 1))
  have e : upd (upd (Pk kg n N I (n + 1)) (.head I) ⟨.slice (some ⟨w.heap.size, 0, none⟩) (n + 1) (n + 1), 46, 1, n + 1, List.replicate (n + 1) (.slice none 0 0)⟩) .top ⟨.slice (some ⟨kg, 0, none⟩) (n + 1) (n + 1), 45, 1, n + 1, (topL kg n I).set I (.slice (some ⟨w.heap.size, 0, none⟩) (n + 1) (n + 1))⟩ = Pk kg n N (I + 1) 0 := by
    funext x
    cases x with
    | top =>
      rw [upd_same]
      simp only [Pk]
      congr 2
      unfold topL
      refine List.ext_getElem (by simp) fun i h1 h2 => ?_
      simp only [List.length_set, List.length_map, List.length_range] at h1
      by_cases hi : i = I
      · subst hi
        simp [hv, hs]
      · rw [List.getElem_set_ne (fun e => hi e.symm)]
        simp only [List.getElem_map, List.getElem_range]
        by_cases hlt : i < I
        · rw [if_pos hlt, if_pos (by omega)]
        · rw [if_neg hlt, if_neg (by omega)]
    | head i =>
      rw [upd_other _ (by simp)]
      by_cases hi : i = I
      · subst hi
        rw [upd_same]
        simp only [Pk, if_pos (Nat.lt_succ_self i), hv, hs]
        congr 2
        unfold headL'
        refine (List.ext_getElem (by simp) fun j h1 h2 => ?_).symm
        simp
      · rw [upd_other _ (fun e => hi (by cases e; rfl))]
        simp only [Pk]
        by_cases hlt : i < I
        · rw [if_pos hlt, if_pos (by omega)]
          congr 2
          unfold headL'
          refine List.map_congr_left fun j hj => ?_
          have hj' : j < n + 1 := List.mem_range.1 hj
          rw [if_pos (.inr hj'), if_pos (.inl (by omega))]
        · rw [if_neg hlt, if_neg (by omega)]
    | row i j =>
      rw [upd_other _ (by simp), upd_other _ (by simp)]
      simp only [Pk]
      by_cases hlt : i < I ∧ j ≤ n
      · rw [if_pos ⟨hlt.1, hlt.2, .inr (by omega)⟩, if_pos ⟨by omega, hlt.2, .inl (by omega)⟩]
      · rw [if_neg (fun e => hlt ⟨e.1, e.2.1⟩), if_neg (fun e => by
          rcases e.2.2 with e2 | e2
          · exact hlt ⟨by omega, e.2.1⟩
          · omega)]
  rw [e] at h2
  exact h2

/-- A new row. -/
theorem pk_row (h : Owns w kg (Pk kg n N (I + 1) J)) (hs : w.heap.size = kg + 1 + I * (n + 2) + 1 + J) (hJ : J ≤ n) (hN : N ≤ maxLen) :
    Owns ((w.alloc (.cells (madeCells #[.bool false] N) 4)).setCell ⟨kg + 1 + I * (n + 2), J, none⟩ (.slice (some ⟨w.heap.size, 0, none⟩) N N)).drew kg (Pk kg n N (I + 1) (J + 1)) := by
  have hown := World.ownsRow_lit (base := kg) (e := 4) (size := 1) w (madeCells #[.bool false] N) N (by omega) hN (by simp [size_madeCells])
  rw [toList_madeCells_one] at hown
  have h1 := h.new (.row I J) (r := ⟨.slice (some ⟨w.heap.size, 0, none⟩) N N, 4, 1, N, (List.replicate N false).map Value.bool⟩) (World.grownBy_alloc w _ none) (by simpa using hown) (fun g hg => by simpa [Value.ownBlock] using hg.symm)
  have h2 := h1.store (i := .head I) (g := kg + 1 + I * (n + 2)) (n := n + 1) (cap := n + 1) (e := 46) (size := 1) (xs := headL' kg n N (I + 1) J I) (by rw [upd_other _ (by simp)]; simp [Pk, hv]) J (.slice (some ⟨w.heap.size, 0, none⟩) N N)
  have e : upd (upd (Pk kg n N (I + 1) J) (.row I J) ⟨.slice (some ⟨w.heap.size, 0, none⟩) N N, 4, 1, N, (List.replicate N false).map Value.bool⟩) (.head I) ⟨.slice (some ⟨kg + 1 + I * (n + 2), 0, none⟩) (n + 1) (n + 1), 46, 1, n + 1, (headL' kg n N (I + 1) J I).set J (.slice (some ⟨w.heap.size, 0, none⟩) N N)⟩ = Pk kg n N (I + 1) (J + 1) := by
    funext x
    cases x with
    | top => rw [upd_other _ (by simp), upd_other _ (by simp)]; rfl
    | head i =>
      by_cases hi : i = I
      · subst hi
        rw [upd_same]
        simp only [Pk, if_pos (Nat.lt_succ_self i), hv]
        congr 2
        unfold headL'
        refine List.ext_getElem (by simp) fun j h1 h2 => ?_
        simp only [List.length_set, List.length_map, List.length_range] at h1
        by_cases hj : j = J
        · subst hj
          simp [rvK, hs]
        · rw [List.getElem_set_ne (fun e => hj e.symm)]
          simp only [List.getElem_map, List.getElem_range]
          by_cases hlt : j < J
          · rw [if_pos (.inr hlt), if_pos (.inr (by omega))]
          · rw [if_neg (by omega), if_neg (by omega)]
      · rw [upd_other _ (fun e => hi (by cases e; rfl)), upd_other _ (by simp)]
        simp only [Pk]
        by_cases hlt : i < I + 1
        · rw [if_pos hlt, if_pos hlt]
          congr 2
          unfold headL'
          refine List.map_congr_left fun j hj => ?_
          rw [if_pos (.inl (by omega)), if_pos (.inl (by omega))]
        · rw [if_neg hlt, if_neg hlt]
    | row i j =>
      rw [upd_other _ (by simp)]
      by_cases hij : i = I ∧ j = J
      · obtain ⟨rfl, rfl⟩ := hij
        rw [upd_same]
        simp only [Pk]
        rw [if_pos ⟨by omega, hJ, .inr (by omega)⟩]
        simp [rvK, hs]
      · rw [upd_other _ (fun e => hij (by cases e; exact ⟨rfl, rfl⟩))]
        simp only [Pk]
        by_cases hc : i < I + 1 ∧ j ≤ n ∧ (i + 1 < I + 1 ∨ j < J)
        · rw [if_pos hc, if_pos ⟨hc.1, hc.2.1, by rcases hc.2.2 with h | h; exact .inl h; exact .inr (by omega)⟩]
        · rw [if_neg hc, if_neg (fun e => hc ⟨e.1, e.2.1, by
            rcases e.2.2 with h | h
            · exact .inl h
            · by_cases hiI : i = I
              · exact .inr (by have : j ≠ J := fun e2 => hij ⟨hiI, e2⟩; omega)
              · exact .inl (by have := e.1; omega)⟩)]
  rw [e] at h2
  exact h2.drew
end

end Go.Proofs.Ytjdoiieiimdmfaa

/- What pollardingref5.Has has made out so far: plain, and in memory. No walk. -/
namespace Go.Proofs.Ytjdoiieiimdmfaa
open Go.RowKit

abbrev Ks := Nat × Nat → List Bool
def kX (X : Ks) : Nat → Nat → List Bool := fun i j => X (i, j)

/-- All parts shorter than S, and those of S tokens that begin below F, are made out. -/
structure Cyk (R : List Ru) (tok : List Int) (N S F : Nat) (X : Ks) : Prop where
  len : ∀ i j, i ≤ tok.length → j ≤ tok.length → (X (i, j)).length = N
  sound : ∀ i j, i ≤ j → j ≤ tok.length → ∀ m : Nat, bit X (i, j) m = true → Der R m (part tok i j)
  comp : ∀ i j, i ≤ j → j ≤ tok.length → (j - i < S ∨ (j - i = S ∧ i < F)) → ∀ m, Der R m (part tok i j) → bit X (i, j) m.toNat = true

/-- How many names are not known to yield a part. -/
def miss (X : Ks) (p : Nat × Nat) : Nat := ((X p).filter fun v => !v).length

/-- A round over so many rules, at one part; z: something new was found. -/
structure Rd (R : List Ru) (tok : List Int) (N a b : Nat) (X : Ks) (k : Nat) (z : Bool) (Y : Ks) : Prop where
  oth : ∀ p, p ≠ (a, b) → Y p = X p
  len : (Y (a, b)).length = N
  sound : ∀ m : Nat, bit Y (a, b) m = true → Der R m (part tok a b)
  still : z = false → Y = X ∧ ∀ q, q < k → Rch (kOf (kX X)) tok b (R.getD q (0, [])).2 a b → bit X (a, b) (R.getD q (0, [])).1.toNat = true
  grew : z = true → miss Y (a, b) < miss X (a, b)

section
variable {T N S F : Nat} {R : List Ru} {tok : List Int} {X Y : Ks} {a b k : Nat} {z : Bool}

theorem filter_set {V : List Bool} {m : Nat} (hm : m < V.length) (h : V.getD m false = false) : ((V.set m true).filter fun v => !v).length < (V.filter fun v => !v).length := by
  induction V generalizing m with
  | nil => simp at hm
  | cons x V ih =>
    cases m with
    | zero =>
      have hx : x = false := by simpa using h
      subst hx
      simp
    | succ m =>
      have := ih (m := m) (by simpa using hm) (by simpa using h)
      simp only [List.set_cons_succ, List.filter_cons]
      split <;> simp <;> omega

theorem rd_start (h : Cyk R tok N S F X) (hab : a ≤ b) (hb : b ≤ tok.length) : Rd R tok N a b X 0 false X :=
  ⟨fun _ _ => rfl, h.len a b (by omega) hb, h.sound a b hab hb, fun _ => ⟨rfl, fun q hq => absurd hq (Nat.not_lt_zero _)⟩, fun h => by cases h⟩

theorem Rd.skip (h : Rd R tok N a b X k z Y) (hno : z = false → Rch (kOf (kX X)) tok b (R.getD k (0, [])).2 a b → bit X (a, b) (R.getD k (0, [])).1.toNat = true) : Rd R tok N a b X (k + 1) z Y :=
  ⟨h.oth, h.len, h.sound, fun hz => ⟨(h.still hz).1, fun q hq hr => by
    rcases Nat.lt_succ_iff_lt_or_eq.1 hq with hq | rfl
    · exact (h.still hz).2 q hq hr
    · exact hno hz hr⟩, h.grew⟩

theorem Rd.cyk (h : Rd R tok N a b X k z Y) (hc : Cyk R tok N S F X) (hS : b - a = S) (hF : a = F) : Cyk R tok N S F Y := by
  refine ⟨fun i j hi hj => ?_, fun i j h1 h2 m hm => ?_, fun i j h1 h2 h3 m hm => ?_⟩
  · by_cases e : (i, j) = (a, b)
    · rw [e]; exact h.len
    · rw [h.oth _ e]; exact hc.len i j hi hj
  · by_cases e : (i, j) = (a, b)
    · cases e; exact h.sound m hm
    · exact hc.sound i j h1 h2 m (by unfold bit at hm ⊢; rw [← h.oth _ e]; exact hm)
  · have e : (i, j) ≠ (a, b) := fun e => by cases e; omega
    have := hc.comp i j h1 h2 h3 m hm
    unfold bit at this ⊢
    rw [h.oth _ e]
    exact this

theorem Rd.put (h : Rd R tok N a b X k z Y) (hf : Fine T N R) (hc : Cyk R tok N S F Y) (hab : a ≤ b) (hb : b ≤ tok.length) (hk : k < R.length) (h0 : bit Y (a, b) (R.getD k (0, [])).1.toNat = false) (hr : Rch (kOf (kX Y)) tok b (R.getD k (0, [])).2 a b) :
    Rd R tok N a b X (k + 1) true (setX Y (a, b) (R.getD k (0, [])).1.toNat true) := by
  have hm : R.getD k (0, []) ∈ R := by simp [List.getD, hk]
  have hL := hf.left _ hm
  have hl : (R.getD k (0, [])).1.toNat < (Y (a, b)).length := by rw [h.len]; omega
  have cast : (((R.getD k (0, [])).1.toNat : Nat) : Int) = (R.getD k (0, [])).1 := by omega
  refine ⟨fun p hp => by rw [← h.oth p hp]; simp [setX, hp], by simp [setX, h.len], fun m hbm => ?_, (fun hz => by cases hz), fun _ => ?_⟩
  · rw [bit_set hl] at hbm
    by_cases e : (a, b) = (a, b) ∧ m = (R.getD k (0, [])).1.toNat
    · rw [e.2, cast]
      exact Der_step hm (Rch_sound hb (fun i j h1 h2 n hn => hc.sound i j h1 (by omega) n hn) (fun s hs hb' => (hf.name _ hm s hs hb').1) hab hr)
    · rw [if_neg e] at hbm
      exact h.sound m hbm
  · have h1 : miss (setX Y (a, b) (R.getD k (0, [])).1.toNat true) (a, b) < miss Y (a, b) := by
      unfold miss setX
      rw [if_pos rfl]
      exact filter_set hl h0
    cases z with
    | true => exact Nat.lt_trans h1 (h.grew rfl)
    | false => rw [(h.still rfl).1] at h1 ⊢; exact h1

/-- A part that is closed is made out. -/
theorem cyk_next (hc : Cyk R tok N S F X) (hS : F + S ≤ tok.length) (hcl : ∀ q, q < R.length → Rch (kOf (kX X)) tok (F + S) (R.getD q (0, [])).2 F (F + S) → bit X (F, F + S) (R.getD q (0, [])).1.toNat = true) : Cyk R tok N S (F + 1) X := by
  refine ⟨hc.len, hc.sound, fun i j h1 h2 h3 m hm => ?_⟩
  by_cases h : j - i < S ∨ (j - i = S ∧ i < F)
  · exact hc.comp i j h1 h2 h m hm
  · obtain ⟨rfl, rfl⟩ : i = F ∧ j = F + S := by omega
    refine cyk_complete (K := kOf (kX X)) h1 rfl hS (fun x y k1 k2 k3 k4 n hn => ?_) (fun r hr hR => ?_) m hm
    · exact hc.comp x y k2 (by omega) (by omega) n hn
    · obtain ⟨q, hq, rfl⟩ := List.getElem_of_mem hr
      have e : R.getD q (0, []) = R[q] := by simp [List.getD, hq]
      have := hcl q hq (by rw [e]; exact hR)
      rw [e] at this
      exact this

theorem cyk_size (hc : Cyk R tok N S F X) (hF : tok.length < F + S) : Cyk R tok N (S + 1) 0 X :=
  ⟨hc.len, hc.sound, fun i j h1 h2 h3 m hm => hc.comp i j h1 h2 (by omega) m hm⟩

theorem cyk_start (R : List Ru) (tok : List Int) (N : Nat) : Cyk R tok N 0 0 fun _ => List.replicate N false := by
  refine ⟨fun i j _ _ => by simp, fun i j _ _ m hm => ?_, fun i j _ _ h => by omega⟩
  have := bit_lt hm
  simp only [List.length_replicate] at this
  simp [bit, List.getD, this] at hm

theorem cyk_end (hc : Cyk R tok N (tok.length + 1) 0 X) : bit X (0, tok.length) 0 = true ↔ Der R 0 tok := by
  constructor
  · intro h
    have := hc.sound 0 tok.length (Nat.zero_le _) (Nat.le_refl _) 0 h
    rw [part_all] at this
    exact this
  · intro h
    exact hc.comp 0 tok.length (Nat.zero_le _) (Nat.le_refl _) (.inl (by omega)) 0 (by rw [part_all]; exact h)
end

/-! ### In memory -/

def KTab (kg n N : Nat) : Tab (Nat × Nat) := ⟨fun p => rvK kg n N p.1 p.2, fun p => if p.1 ≤ n ∧ p.2 ≤ n then some N else none⟩

structure KM (W : World) (kg n N : Nat) (X : Ks) (wr : World) : Prop where
  below : Below kg W wr
  size : kg ≤ wr.heap.size
  top : ∀ i, i ≤ n → wr.cell? ⟨kg, i, none⟩ = some (hv kg n i)
  head : ∀ i j, i ≤ n → j ≤ n → wr.cell? ⟨kg + 1 + i * (n + 2), j, none⟩ = some (rvK kg n N i j)
  bt : Bt wr kg (KTab kg n N) X

section
variable {W wr wq : World} {kg n N : Nat} {X : Ks}

theorem ktab_dom {i j : Nat} (hi : i ≤ n) (hj : j ≤ n) : (KTab kg n N).dom (i, j) = some N := by simp [KTab, hi, hj]

theorem km_of (h : Owns wr kg (Pk kg n N (n + 1) (n + 1))) (hb : Below kg W wr) (hs : kg ≤ wr.heap.size) : KM W kg n N (fun _ => List.replicate N false) wr := by
  refine ⟨hb, hs, fun i hi => ?_, fun i j hi hj => ?_, ?_⟩
  · have := (h.cell (i := .top) (g := kg) (n := n + 1) (cap := n + 1) (e := 45) (size := 1) (xs := topL kg n (n + 1)) rfl i (by omega)).1
    rw [this]
    simp [topL, show i < n + 1 by omega]
  · have := (h.cell (i := .head i) (g := kg + 1 + i * (n + 2)) (n := n + 1) (cap := n + 1) (e := 46) (size := 1) (xs := headL' kg n N (n + 1) (n + 1) i) (by simp [Pk, hv, show i < n + 1 by omega]) j (by omega)).1
    rw [this]
    simp [headL', show j < n + 1 by omega]
  · have key : ∀ p r, (KTab kg n N).P (fun _ => List.replicate N false) p = some r → Pk kg n N (n + 1) (n + 1) (.row p.1 p.2) = some r := fun p r hr => by
      obtain ⟨i, j⟩ := p
      simp only [Tab.P, KTab] at hr
      split at hr
      · rename_i hc
        simp only [Option.map_some, Option.some.injEq] at hr
        subst hr
        simp only [Pk]
        rw [if_pos ⟨by omega, hc.2, .inr (by omega)⟩]
      · cases hr
    refine ⟨fun p r hr => h.own _ _ (key p r hr), fun p q x y hpq hx hy g h1 h2 => h.apart _ _ _ _ (fun e => hpq ?_) (key p x hx) (key q y hy) g h1 h2⟩
    cases p
    cases q
    cases e
    rfl

theorem KM.known (h : KM W kg n N X wr) (hN : 0 < N) : KnownAt wr (.slice (some ⟨kg, 0, none⟩) (n + 1) (n + 1)) n N (kX X) := by
  refine ⟨⟨_, _, rfl⟩, fun i j hi hj => ⟨kg, 0, n + 1, kg + 1 + i * (n + 2), 0, n + 1, kg + 1 + i * (n + 2) + 1 + j, 0, N, rfl, ?_, ?_, fun m hm => ?_⟩⟩
  · rw [Nat.zero_add]; exact h.top i hi
  · rw [Nat.zero_add]; exact h.head i j hi hj
  · have _ := hN
    rw [Nat.zero_add]
    exact (Bt.cell h.bt (ktab_dom hi hj) rfl hm).1

theorem KM.step (h : KM W kg n N X wr) (hb : Below wr.heap.size wr wq) : KM W kg n N X wq :=
  ⟨h.below.trans (hb.mono h.size), Nat.le_trans h.size hb.size, fun i hi => (hb.cell (World.block_lt_of_cell? _ _ (h.top i hi))).trans (h.top i hi), fun i j hi hj => (hb.cell (World.block_lt_of_cell? _ _ (h.head i j hi hj))).trans (h.head i j hi hj), Bt.below h.bt hb⟩

theorem KM.set (h : KM W kg n N X wr) {i j : Nat} (hi : i ≤ n) (hj : j ≤ n) (m : Nat) : KM W kg n N (setX X (i, j) m true) (wr.setCell ⟨kg + 1 + i * (n + 2) + 1 + j, m, none⟩ (.bool true)) := by
  have hne : ∀ x, kg + 1 + x * (n + 2) ≠ kg + 1 + i * (n + 2) + 1 + j := fun x e => by
    rcases Nat.lt_or_ge x (i + 1) with hx | hx
    · have := Nat.mul_le_mul_right (n + 2) (show x ≤ i by omega)
      omega
    · have := Nat.mul_le_mul_right (n + 2) hx
      rw [Nat.add_mul] at this
      omega
  refine ⟨h.below.setCell (by simp only; omega) _, by simp [h.size], fun x hx => ?_, fun x y hx hy => ?_, Bt.set h.bt (ktab_dom hi hj) rfl m true⟩
  · exact (cell_set_other (.inl (by simp only; omega))).trans (h.top x hx)
  · exact (cell_set_other (.inl (hne x))).trans (h.head x y hx hy)
end

end Go.Proofs.Ytjdoiieiimdmfaa
