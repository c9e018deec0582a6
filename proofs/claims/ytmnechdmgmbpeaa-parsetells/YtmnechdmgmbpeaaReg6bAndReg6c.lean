import Derived.Test.YtmnechdmgmbpeaaReg6
import Derived.Deep.Onto
/- A region of pollardingref6.Parse that draws its order: the state that comes next is put on the stack. -/
namespace Go.Proofs.Ytmnechdmgmbpeaa
open Go.RowKit

noncomputable def ops33 : List Oper := findR 33 (Try.f5.body.getD .skip)

def pv33 (tb rb2 gb go K gc sb n sc kp qs hb h0 N hc Lf gg : Nat) : Nat → Option Value
  | 0 => some (.slice (some ⟨sb, 0, none⟩) n sc)
  | 1 => some (.pointer (some ⟨tb, 1, none⟩))
  | 2 => some (.slice (some ⟨gb, go, none⟩) K gc)
  | 3 => some (.slice (some ⟨sb, 0, none⟩) n sc)
  | 4 => some (.int .i64 kp)
  | 5 => some (.pointer (some ⟨sb, kp, none⟩))
  | 6 => some (.int .i64 qs)
  | 7 => some (.pointer (some ⟨gb, go + qs, none⟩))
  | 8 => some (.slice (some ⟨hb, h0, none⟩) N hc)
  | 9 => some (.pointer (some ⟨rb2, 0, none⟩))
  | 10 => some (.int .i64 Lf)
  | 11 => some (.pointer (some ⟨hb, h0 + Lf, none⟩))
  | 12 => some (.int .i64 gg)
  | _ => none

def pre33 : Nat → List Nat
  | 2 => [1] | 5 => [3, 4] | 6 => [5] | 7 => [2, 6] | 8 => [7] | 10 => [9] | 11 => [8, 10] | 12 => [11] | 13 => [12] | 14 => [0, 13] | _ => []

structure J33 (W : World) (pv : Nat → Option Value) (B sb n gg : Nat) (xs : List Value) (vals : Nat → Option Value) (w : World) : Prop where
  b : vals 14 = none → Below W.heap.size W w
  pure : ∀ j v u, vals j = some v → pv j = some u → v = u
  one : ∀ v, vals 13 = some v → ∃ c, v = .slice (some ⟨c, 0, none⟩) 1 1 ∧ (vals 14 = none → w.heap[c]? = some (.cells #[.int .i64 gg] 3 (0, 0)))
  both : ∀ v, vals 14 = some v → ∃ g cap wm, v = .slice (some ⟨g, 0, none⟩) (n + 1) cap ∧ Below W.heap.size W wm ∧ wm.grownBy w (some sb) ∧ (g = sb ∨ g = wm.heap.size) ∧ g < w.heap.size ∧ w.ownsRow B 3 1 v (n + 1) (xs ++ [.int .i64 gg])
  back : ∀ i v, vals i = some v → ∀ j ∈ pre33 i, ∃ u, vals j = some u
  fin : ∀ u, vals 15 = some u → vals 14 = some u ∧ ∀ i, i < 15 → ∃ v, vals i = some v

theorem J33.all {W : World} {pv : Nat → Option Value} {B sb n gg : Nat} {xs : List Value} {vals : Nat → Option Value} {w : World} (h : J33 W pv B sb n gg xs vals w) {v : Value} (hv : vals 14 = some v) : ∀ i, i < 14 → ∃ u, vals i = some u := by
  obtain ⟨_, h0⟩ := h.back 14 v hv 0 (by simp [pre33])
  obtain ⟨_, h13⟩ := h.back 14 v hv 13 (by simp [pre33])
  obtain ⟨_, h12⟩ := h.back 13 _ h13 12 (by simp [pre33])
  obtain ⟨_, h11⟩ := h.back 12 _ h12 11 (by simp [pre33])
  obtain ⟨_, h8⟩ := h.back 11 _ h11 8 (by simp [pre33])
  obtain ⟨_, h10⟩ := h.back 11 _ h11 10 (by simp [pre33])
  obtain ⟨_, h9⟩ := h.back 10 _ h10 9 (by simp [pre33])
  obtain ⟨_, h7⟩ := h.back 8 _ h8 7 (by simp [pre33])
  obtain ⟨_, h2⟩ := h.back 7 _ h7 2 (by simp [pre33])
  obtain ⟨_, h6⟩ := h.back 7 _ h7 6 (by simp [pre33])
  obtain ⟨_, h5⟩ := h.back 6 _ h6 5 (by simp [pre33])
  obtain ⟨_, h3⟩ := h.back 5 _ h5 3 (by simp [pre33])
  obtain ⟨_, h4⟩ := h.back 5 _ h5 4 (by simp [pre33])
  obtain ⟨_, h1⟩ := h.back 2 _ h2 1 (by simp [pre33])
  intro i hi
  match i, hi with
  | 0, _ => exact ⟨_, h0⟩
  | 1, _ => exact ⟨_, h1⟩
  | 2, _ => exact ⟨_, h2⟩
  | 3, _ => exact ⟨_, h3⟩
  | 4, _ => exact ⟨_, h4⟩
  | 5, _ => exact ⟨_, h5⟩
  | 6, _ => exact ⟨_, h6⟩
  | 7, _ => exact ⟨_, h7⟩
  | 8, _ => exact ⟨_, h8⟩
  | 9, _ => exact ⟨_, h9⟩
  | 10, _ => exact ⟨_, h10⟩
  | 11, _ => exact ⟨_, h11⟩
  | 12, _ => exact ⟨_, h12⟩
  | 13, _ => exact ⟨_, h13⟩
  | i + 14, hi => omega

theorem back_upd {vals : Nat → Option Value} {i : Nat} {u : Value} (h : ∀ i v, vals i = some v → ∀ j ∈ pre33 i, ∃ u, vals j = some u) (hb : ∀ j ∈ pre33 i, ∃ u, vals j = some u) : ∀ k v, updV vals i u k = some v → ∀ j ∈ pre33 k, ∃ u', updV vals i u j = some u' := by
  intro k v hv j hj
  by_cases hji : j = i
  · exact ⟨u, by simp [updV, hji]⟩
  · have : ∃ u', vals j = some u' := by
      by_cases hk : k = i
      · subst hk; exact hb j hj
      · exact h k v (by simpa [updV, hk] using hv) j hj
    obtain ⟨u', hu'⟩ := this
    exact ⟨u', by simp [updV, hji, hu']⟩

theorem J33.n14 {W : World} {pv : Nat → Option Value} {B sb n gg : Nat} {xs : List Value} {vals : Nat → Option Value} {w : World} (h : J33 W pv B sb n gg xs vals w) {i : Nat} (hn : vals i = none) (hi : i < 14) : vals 14 = none := by
  cases h14 : vals 14 with
  | none => rfl
  | some v =>
    obtain ⟨u, hu⟩ := h.all h14 i hi
    rw [hn] at hu; cases hu
theorem J33.n15 {W : World} {pv : Nat → Option Value} {B sb n gg : Nat} {xs : List Value} {vals : Nat → Option Value} {w : World} (h : J33 W pv B sb n gg xs vals w) {i : Nat} (hn : vals i = none) (hi : i < 15) : vals 15 = none := by
  cases h15 : vals 15 with
  | none => rfl
  | some v =>
    obtain ⟨u, hu⟩ := (h.fin v h15).2 i hi
    rw [hn] at hu; cases hu

theorem J33.read {W : World} {pv : Nat → Option Value} {B sb n gg : Nat} {xs : List Value} {vals : Nat → Option Value} {w : World} (h : J33 W pv B sb n gg xs vals w) {i : Nat} {u : Value} (hp : pv i = some u) (hn : vals i = none) (hi : i < 13) (hb : ∀ j ∈ pre33 i, ∃ u, vals j = some u) : J33 W pv B sb n gg xs (updV vals i u) w := by
  have e : ∀ j, j ≠ i → updV vals i u j = vals j := fun j hj => by simp [updV, hj]
  refine ⟨?_, fun j v u' hv hu => ?_, ?_, ?_, back_upd h.back hb, ?_⟩
  · rw [e 14 (by omega)]; exact h.b
  · by_cases hj : j = i
    · subst hj
      rw [hp] at hu
      simp only [updV, if_true, Option.some.injEq] at hv hu
      rw [← hv, hu]
    · rw [e j hj] at hv
      exact h.pure j v u' hv hu
  · rw [e 13 (by omega), e 14 (by omega)]; exact h.one
  · rw [e 14 (by omega)]; exact h.both
  · rw [e 15 (by omega)]
    intro u' hu
    rw [h.n15 hn (by omega)] at hu; cases hu

set_option maxRecDepth 100000 in
set_option maxHeartbeats 3200000 in
theorem reg33 {a : Act} {W : World} {Q : Exit → Act → World → Prop} {B tb rb2 gb go K gc sb n sc kp qs hb h0 N hc Lf gg : Nat} {xs : List Value} (hsz : a.tmps.size = 144) (h8 : a.eval (.tmp 8) = .pointer (some ⟨tb, 0, none⟩)) (h16 : a.eval (.tmp 16) = .pointer (some ⟨rb2, 0, none⟩)) (h10 : a.eval (.tmp 10) = .slice (some ⟨sb, 0, none⟩) n sc) (h17 : a.eval (.tmp 17) = .int .i64 kp)
    (x1 : W.cell? ⟨tb, 1, none⟩ = some (.slice (some ⟨gb, go, none⟩) K gc)) (x2 : W.cell? ⟨sb, kp, none⟩ = some (.int .i64 qs)) (x3 : W.cell? ⟨gb, go + qs, none⟩ = some (.slice (some ⟨hb, h0, none⟩) N hc)) (x4 : W.cell? ⟨rb2, 0, none⟩ = some (.int .i64 Lf)) (x5 : W.cell? ⟨hb, h0 + Lf, none⟩ = some (.int .i64 gg))
    (hkn : kp < n) (hqK : qs < K) (hLN : Lf < N) (hn : n ≤ 1000) (hB : B ≤ W.heap.size) (own : W.ownsRow B 3 1 (.slice (some ⟨sb, 0, none⟩) n sc) n xs)
    (hQ : ∀ (vals : Nat → Option Value) (w : World), J33 W (pv33 tb rb2 gb go K gc sb n sc kp qs hb h0 N hc Lf gg) B sb n gg xs vals w → (∀ i, i < 16 → ∃ v, vals i = some v) → Q .normal (frameF vals 0 ops33 a) w) : (Code.region 33 ops33.toArray true).wp Try.prog Q a W := by
  obtain ⟨L, hL⟩ : ∃ L, L = ops33 := ⟨_, rfl⟩
  rw [← hL] at hQ ⊢
  simp only [ops33, Try.f5, Option.getD_some, findR, Nat.reduceBEq, cond_true, cond_false, List.nil_append, List.append_nil] at hL
  have hL' : ∀ o ∈ L, o.dst ≠ some 8 ∧ o.dst ≠ some 16 ∧ o.dst ≠ some 17 := by simp [hL]
  have hL10 : ∀ j o, L[j]? = some o → o.dst = some 10 → j = 15 := by
    intro j o ho hd
    rw [hL] at ho
    match j, ho with
    | 0, ho | 1, ho | 2, ho | 3, ho | 4, ho | 5, ho | 6, ho | 7, ho | 8, ho | 9, ho | 10, ho | 11, ho | 12, ho | 13, ho | 14, ho => injection ho with ho; subst ho; simp at hd
    | 15, ho => rfl
    | j + 16, ho => simp at ho
  refine wp_region_joint (J33 W (pv33 tb rb2 gb go K gc sb n sc kp qs hb h0 N hc Lf gg) B sb n gg xs) (by kernel_rfl) (by rw [hL]; kernel_rfl) (by rw [hL]; kernel_rfl) (by rw [hL]; kernel_rfl) ?_ ?_ (fun vals w hJ hall => hQ vals w hJ (by rw [hL] at hall; exact hall))
  · exact ⟨fun _ => (Below.refl _ _).drew, fun _ _ _ h => (by cases h), fun _ h => (by cases h), fun _ h => (by cases h), fun _ _ h => (by cases h), fun _ h => (by cases h)⟩
  · intro i o ho vals w hJ hvn hdep
    have same : ∀ (j : Nat) (t : Tmp) (v : Value) (oj : Oper), L[j]? = some oj → oj.dst = some t → vals j = some v → t < 144 → (frameF vals 0 L a).eval (.tmp t) = v := fun j t v oj h1 h2 h3 h4 => frame_same (by rw [hL]; kernel_rfl) h1 h2 (by rw [Nat.zero_add]; exact h3) (by rw [hsz]; exact h4)
    have other : ∀ t, (∀ o ∈ L, o.dst ≠ some t) → (frameF vals 0 L a).eval (.tmp t) = a.eval (.tmp t) := fun t h => frame_other h
    match i, ho with
    | 0, ho =>
      rw [hL] at ho
      injection ho with ho
      subst ho
      have e9 := (frame_none (l := L) (k := 0) (a := a) (vals := vals) (t := 10) fun j o ho hd => by rw [hL10 j o ho hd]; exact hJ.n15 hvn (by decide)).trans h10
      refine ⟨.slice (some ⟨sb, 0, none⟩) n sc, w, .inl ?_, hJ.read (i := 0) rfl hvn (by decide) (fun j hj => by simp [pre33] at hj)⟩
      generalize (frameF vals 0 L a).eval = ev at e9
      clear hQ hdep hL hL' hL10 same other hvn own hJ x1 x2 x3 x4 x5 h8 h16 h10 h17 hsz ho
      go_simp
    | 1, ho =>
      rw [hL] at ho
      injection ho with ho
      subst ho
      have e9 := (other 8 fun o h => (hL' o h).1).trans h8
      refine ⟨.pointer (some ⟨tb, 1, none⟩), w, .inl ?_, hJ.read (i := 1) rfl hvn (by decide) (fun j hj => by simp [pre33] at hj)⟩
      generalize (frameF vals 0 L a).eval = ev at e9
      clear hQ hdep hL hL' hL10 same other hvn own hJ x1 x2 x3 x4 x5 h8 h16 h10 h17 hsz ho
      go_simp
    | 2, ho =>
      rw [hL] at ho
      injection ho with ho
      subst ho
      obtain ⟨v0, hv0⟩ := hdep { on := 1, ground := Ground.data } (by simp) rfl
      have e0 := same 1 128 v0 _ (by rw [hL]; rfl) rfl hv0 (by decide)
      rw [hJ.pure 1 v0 _ hv0 rfl] at e0
      have k1 := ((hJ.b (hJ.n14 hvn (by decide))).cell (p := ⟨tb, 1, none⟩) (World.block_lt_of_cell? W _ x1)).trans x1
      refine ⟨.slice (some ⟨gb, go, none⟩) K gc, w, .inl ?_, hJ.read (i := 2) rfl hvn (by decide) (fun j hj => by simp only [pre33, List.mem_cons, List.not_mem_nil, or_false] at hj; subst hj; exact ⟨v0, hv0⟩)⟩
      generalize (frameF vals 0 L a).eval = ev at e0
      clear hQ hdep hL hL' hL10 same other hvn own hJ x1 x2 x3 x4 x5 h8 h16 h10 h17 hsz ho
      go_simp
    | 3, ho =>
      rw [hL] at ho
      injection ho with ho
      subst ho
      have e9 := (frame_none (l := L) (k := 0) (a := a) (vals := vals) (t := 10) fun j o ho hd => by rw [hL10 j o ho hd]; exact hJ.n15 hvn (by decide)).trans h10
      refine ⟨.slice (some ⟨sb, 0, none⟩) n sc, w, .inl ?_, hJ.read (i := 3) rfl hvn (by decide) (fun j hj => by simp [pre33] at hj)⟩
      generalize (frameF vals 0 L a).eval = ev at e9
      clear hQ hdep hL hL' hL10 same other hvn own hJ x1 x2 x3 x4 x5 h8 h16 h10 h17 hsz ho
      go_simp
    | 4, ho =>
      rw [hL] at ho
      injection ho with ho
      subst ho
      have e9 := (other 17 fun o h => (hL' o h).2.2).trans h17
      refine ⟨.int .i64 kp, w, .inl ?_, hJ.read (i := 4) rfl hvn (by decide) (fun j hj => by simp [pre33] at hj)⟩
      generalize (frameF vals 0 L a).eval = ev at e9
      clear hQ hdep hL hL' hL10 same other hvn own hJ x1 x2 x3 x4 x5 h8 h16 h10 h17 hsz ho
      go_simp
    | 5, ho =>
      rw [hL] at ho
      injection ho with ho
      subst ho
      obtain ⟨v0, hv0⟩ := hdep { on := 3, ground := Ground.data } (by simp) rfl
      have e0 := same 3 130 v0 _ (by rw [hL]; rfl) rfl hv0 (by decide)
      rw [hJ.pure 3 v0 _ hv0 rfl] at e0
      obtain ⟨v1, hv1⟩ := hdep { on := 4, ground := Ground.data } (by simp) rfl
      have e1 := same 4 131 v1 _ (by rw [hL]; rfl) rfl hv1 (by decide)
      rw [hJ.pure 4 v1 _ hv1 rfl] at e1
      have y0 : (0 : Int) ≤ (kp : Int) := Int.natCast_nonneg _
      have y1 : (kp : Int) < (n : Int) := by omega
      refine ⟨.pointer (some ⟨sb, kp, none⟩), w, .inl ?_, hJ.read (i := 5) rfl hvn (by decide) (fun j hj => by simp only [pre33, List.mem_cons, List.not_mem_nil, or_false] at hj; rcases hj with rfl | rfl; exact ⟨v0, hv0⟩; exact ⟨v1, hv1⟩)⟩
      generalize (frameF vals 0 L a).eval = ev at e0 e1
      clear hQ hdep hL hL' hL10 same other hvn own hJ x1 x2 x3 x4 x5 h8 h16 h10 h17 hsz ho
      go_simp
    | 6, ho =>
      rw [hL] at ho
      injection ho with ho
      subst ho
      obtain ⟨v0, hv0⟩ := hdep { on := 5, ground := Ground.data } (by simp) rfl
      have e0 := same 5 132 v0 _ (by rw [hL]; rfl) rfl hv0 (by decide)
      rw [hJ.pure 5 v0 _ hv0 rfl] at e0
      have k1 := ((hJ.b (hJ.n14 hvn (by decide))).cell (p := ⟨sb, kp, none⟩) (World.block_lt_of_cell? W _ x2)).trans x2
      refine ⟨.int .i64 qs, w, .inl ?_, hJ.read (i := 6) rfl hvn (by decide) (fun j hj => by simp only [pre33, List.mem_cons, List.not_mem_nil, or_false] at hj; subst hj; exact ⟨v0, hv0⟩)⟩
      generalize (frameF vals 0 L a).eval = ev at e0
      clear hQ hdep hL hL' hL10 same other hvn own hJ x1 x2 x3 x4 x5 h8 h16 h10 h17 hsz ho
      go_simp
    | 7, ho =>
      rw [hL] at ho
      injection ho with ho
      subst ho
      obtain ⟨v0, hv0⟩ := hdep { on := 2, ground := Ground.data } (by simp) rfl
      have e0 := same 2 129 v0 _ (by rw [hL]; rfl) rfl hv0 (by decide)
      rw [hJ.pure 2 v0 _ hv0 rfl] at e0
      obtain ⟨v1, hv1⟩ := hdep { on := 6, ground := Ground.data } (by simp) rfl
      have e1 := same 6 133 v1 _ (by rw [hL]; rfl) rfl hv1 (by decide)
      rw [hJ.pure 6 v1 _ hv1 rfl] at e1
      have y0 : (0 : Int) ≤ (qs : Int) := Int.natCast_nonneg _
      have y1 : (qs : Int) < (K : Int) := by omega
      refine ⟨.pointer (some ⟨gb, go + qs, none⟩), w, .inl ?_, hJ.read (i := 7) rfl hvn (by decide) (fun j hj => by simp only [pre33, List.mem_cons, List.not_mem_nil, or_false] at hj; rcases hj with rfl | rfl; exact ⟨v0, hv0⟩; exact ⟨v1, hv1⟩)⟩
      generalize (frameF vals 0 L a).eval = ev at e0 e1
      clear hQ hdep hL hL' hL10 same other hvn own hJ x1 x2 x3 x4 x5 h8 h16 h10 h17 hsz ho
      go_simp
    | 8, ho =>
      rw [hL] at ho
      injection ho with ho
      subst ho
      obtain ⟨v0, hv0⟩ := hdep { on := 7, ground := Ground.data } (by simp) rfl
      have e0 := same 7 134 v0 _ (by rw [hL]; rfl) rfl hv0 (by decide)
      rw [hJ.pure 7 v0 _ hv0 rfl] at e0
      have k1 := ((hJ.b (hJ.n14 hvn (by decide))).cell (p := ⟨gb, go + qs, none⟩) (World.block_lt_of_cell? W _ x3)).trans x3
      refine ⟨.slice (some ⟨hb, h0, none⟩) N hc, w, .inl ?_, hJ.read (i := 8) rfl hvn (by decide) (fun j hj => by simp only [pre33, List.mem_cons, List.not_mem_nil, or_false] at hj; subst hj; exact ⟨v0, hv0⟩)⟩
      generalize (frameF vals 0 L a).eval = ev at e0
      clear hQ hdep hL hL' hL10 same other hvn own hJ x1 x2 x3 x4 x5 h8 h16 h10 h17 hsz ho
      go_simp
    | 9, ho =>
      rw [hL] at ho
      injection ho with ho
      subst ho
      have e9 := (other 16 fun o h => (hL' o h).2.1).trans h16
      refine ⟨.pointer (some ⟨rb2, 0, none⟩), w, .inl ?_, hJ.read (i := 9) rfl hvn (by decide) (fun j hj => by simp [pre33] at hj)⟩
      generalize (frameF vals 0 L a).eval = ev at e9
      clear hQ hdep hL hL' hL10 same other hvn own hJ x1 x2 x3 x4 x5 h8 h16 h10 h17 hsz ho
      go_simp
    | 10, ho =>
      rw [hL] at ho
      injection ho with ho
      subst ho
      obtain ⟨v0, hv0⟩ := hdep { on := 9, ground := Ground.data } (by simp) rfl
      have e0 := same 9 136 v0 _ (by rw [hL]; rfl) rfl hv0 (by decide)
      rw [hJ.pure 9 v0 _ hv0 rfl] at e0
      have k1 := ((hJ.b (hJ.n14 hvn (by decide))).cell (p := ⟨rb2, 0, none⟩) (World.block_lt_of_cell? W _ x4)).trans x4
      refine ⟨.int .i64 Lf, w, .inl ?_, hJ.read (i := 10) rfl hvn (by decide) (fun j hj => by simp only [pre33, List.mem_cons, List.not_mem_nil, or_false] at hj; subst hj; exact ⟨v0, hv0⟩)⟩
      generalize (frameF vals 0 L a).eval = ev at e0
      clear hQ hdep hL hL' hL10 same other hvn own hJ x1 x2 x3 x4 x5 h8 h16 h10 h17 hsz ho
      go_simp
    | 11, ho =>
      rw [hL] at ho
      injection ho with ho
      subst ho
      obtain ⟨v0, hv0⟩ := hdep { on := 8, ground := Ground.data } (by simp) rfl
      have e0 := same 8 135 v0 _ (by rw [hL]; rfl) rfl hv0 (by decide)
      rw [hJ.pure 8 v0 _ hv0 rfl] at e0
      obtain ⟨v1, hv1⟩ := hdep { on := 10, ground := Ground.data } (by simp) rfl
      have e1 := same 10 137 v1 _ (by rw [hL]; rfl) rfl hv1 (by decide)
      rw [hJ.pure 10 v1 _ hv1 rfl] at e1
      have y0 : (0 : Int) ≤ (Lf : Int) := Int.natCast_nonneg _
      have y1 : (Lf : Int) < (N : Int) := by omega
      refine ⟨.pointer (some ⟨hb, h0 + Lf, none⟩), w, .inl ?_, hJ.read (i := 11) rfl hvn (by decide) (fun j hj => by simp only [pre33, List.mem_cons, List.not_mem_nil, or_false] at hj; rcases hj with rfl | rfl; exact ⟨v0, hv0⟩; exact ⟨v1, hv1⟩)⟩
      generalize (frameF vals 0 L a).eval = ev at e0 e1
      clear hQ hdep hL hL' hL10 same other hvn own hJ x1 x2 x3 x4 x5 h8 h16 h10 h17 hsz ho
      go_simp
    | 12, ho =>
      rw [hL] at ho
      injection ho with ho
      subst ho
      obtain ⟨v0, hv0⟩ := hdep { on := 11, ground := Ground.data } (by simp) rfl
      have e0 := same 11 138 v0 _ (by rw [hL]; rfl) rfl hv0 (by decide)
      rw [hJ.pure 11 v0 _ hv0 rfl] at e0
      have k1 := ((hJ.b (hJ.n14 hvn (by decide))).cell (p := ⟨hb, h0 + Lf, none⟩) (World.block_lt_of_cell? W _ x5)).trans x5
      refine ⟨.int .i64 gg, w, .inl ?_, hJ.read (i := 12) rfl hvn (by decide) (fun j hj => by simp only [pre33, List.mem_cons, List.not_mem_nil, or_false] at hj; subst hj; exact ⟨v0, hv0⟩)⟩
      generalize (frameF vals 0 L a).eval = ev at e0
      clear hQ hdep hL hL' hL10 same other hvn own hJ x1 x2 x3 x4 x5 h8 h16 h10 h17 hsz ho
      go_simp
    | 13, ho =>
      rw [hL] at ho
      injection ho with ho
      subst ho
      obtain ⟨v0, hv0⟩ := hdep { on := 12, ground := Ground.data } (by simp) rfl
      have e0 := same 12 139 v0 _ (by rw [hL]; rfl) rfl hv0 (by decide)
      rw [hJ.pure 12 v0 _ hv0 rfl] at e0
      have n14 := hJ.n14 hvn (by decide)
      have n15 := hJ.n15 hvn (by decide)
      have hW := (hJ.b n14).size
      refine ⟨.slice (some ⟨w.heap.size, 0, none⟩) 1 1, w.alloc (.cells #[.int .i64 gg] 3), .inl ?_, ?_⟩
      · generalize (frameF vals 0 L a).eval = ev at e0
        clear hQ hdep hL hL' hL10 same other hvn own hJ x1 x2 x3 x4 x5 h8 h16 h10 h17 hsz ho n14 n15 hW
        go_simp
      · refine ⟨fun _ => (hJ.b n14).alloc hW _, fun j v u hv hu => ?_, fun v hv => ?_, fun v hv => ?_, back_upd hJ.back (fun j hj => by simp only [pre33, List.mem_cons, List.not_mem_nil, or_false] at hj; subst hj; exact ⟨v0, hv0⟩), fun u hu => ?_⟩
        · by_cases hj : j = 13
          · subst hj; simp [pv33] at hu
          · exact hJ.pure j v u (by simpa [updV, hj] using hv) hu
        · simp only [updV, if_true, Option.some.injEq] at hv
          exact ⟨w.heap.size, hv.symm, fun _ => heap_alloc_new _ _⟩
        · have h : vals 14 = some v := by simpa [updV] using hv
          rw [n14] at h; cases h
        · have h : vals 15 = some u := by simpa [updV] using hu
          rw [n15] at h; cases h
    | 14, ho =>
      rw [hL] at ho
      injection ho with ho
      subst ho
      obtain ⟨v0, hv0⟩ := hdep { on := 0, ground := Ground.data } (by simp) rfl
      have e0 := same 0 127 v0 _ (by rw [hL]; rfl) rfl hv0 (by decide)
      obtain ⟨v1, hv1⟩ := hdep { on := 13, ground := Ground.data } (by simp) rfl
      have e1 := same 13 140 v1 _ (by rw [hL]; rfl) rfl hv1 (by decide)
      rw [hJ.pure 0 v0 _ hv0 rfl] at e0
      obtain ⟨c, rfl, hc3⟩ := hJ.one v1 hv1
      have hBl := hJ.b hvn
      have n15 := hJ.n15 hvn (by decide)
      have own' := own_below own hBl fun k hk => (own.lt k hk).2
      obtain ⟨i1, hi1, hy0, hy1, hy2⟩ := info_parts Try.infoInt
      obtain ⟨g2, cap2, w', hrun, ho2, hgr, hat, hlt⟩ := run_append_lies (P := Try.prog) w 25 25 B 3 i1 _ 1 8 Try.underlying25 hi1 hy0 hy1 hy2 rfl (by omega) (.slice (some ⟨sb, 0, none⟩) n sc) n xs own' ⟨c, 0, none⟩ 1 1 [.int .i64 gg] rfl (World.news_of_block (cs := #[.int .i64 gg]) (t := 3) (fr := (0, 0)) (hc3 hvn)) (by simp [Value.oneCell']) (by omega) (by simp only [maxLen]; omega) (by omega) (Nat.le_trans hB hBl.size) w.heap.size rfl
      refine ⟨.slice (some ⟨g2, 0, none⟩) (n + 1) cap2, w', .inl ?_, ?_⟩
      · generalize (frameF vals 0 L a).eval = ev at e0 e1
        simp only [execOp, resolve, invoke, builtin, Sem.run_bind, Sem.run_pure, Result.andThen_ok, List.map_toArray, List.map_cons, List.map_nil, e0, e1, hrun]
      · refine ⟨fun h => by simp [updV] at h, fun j v u hv hu => ?_, fun v hv => ?_, fun v hv => ?_, back_upd hJ.back (fun j hj => by simp only [pre33, List.mem_cons, List.not_mem_nil, or_false] at hj; rcases hj with rfl | rfl; exact ⟨v0, hv0⟩; exact ⟨_, hv1⟩), fun u hu => ?_⟩
        · by_cases hj : j = 14
          · subst hj; simp [pv33] at hu
          · exact hJ.pure j v u (by simpa [updV, hj] using hv) hu
        · obtain ⟨c', h1, _⟩ := hJ.one v (by simpa [updV] using hv)
          exact ⟨c', h1, fun h => by simp [updV] at h⟩
        · simp only [updV, if_true, Option.some.injEq] at hv
          refine ⟨g2, cap2, w, hv.symm, hBl, hgr, ?_, hlt, hv ▸ ho2⟩
          rcases hat with e | e
          · simp only [Value.ownBlock, Option.some.injEq] at e
            exact .inl e.symm
          · exact .inr e
        · have h : vals 15 = some u := by simpa [updV] using hu
          rw [n15] at h; cases h
    | 15, ho =>
      rw [hL] at ho
      injection ho with ho
      subst ho
      obtain ⟨v0, hv0⟩ := hdep { on := 14, ground := Ground.data } (by simp) rfl
      have e0 := same 14 141 v0 _ (by rw [hL]; rfl) rfl hv0 (by decide)
      have hall : ∀ i, i < 15 → ∃ v, vals i = some v := fun i hi => hdep { on := i, ground := Ground.phase } (by
        match i, hi with
        | 0, _ | 1, _ | 2, _ | 3, _ | 4, _ | 5, _ | 6, _ | 7, _ | 8, _ | 9, _ | 10, _ | 11, _ | 12, _ | 13, _ | 14, _ => simp
        | i + 15, hi => omega) rfl
      refine ⟨v0, w, .inl ?_, ?_⟩
      · generalize (frameF vals 0 L a).eval = ev at e0
        clear hQ hdep hL hL' hL10 same other hvn own hJ x1 x2 x3 x4 x5 h8 h16 h10 h17 hsz ho hall
        go_simp
      · refine ⟨fun h => hJ.b (by simpa [updV] using h), fun j v u hv hu => ?_, fun v hv => ?_, fun v hv => ?_, back_upd hJ.back (fun j hj => by simp [pre33] at hj), fun u hu => ?_⟩
        · by_cases hj : j = 15
          · subst hj; simp [pv33] at hu
          · exact hJ.pure j v u (by simpa [updV, hj] using hv) hu
        · obtain ⟨c, h1, h2⟩ := hJ.one v (by simpa [updV] using hv)
          exact ⟨c, h1, fun h => h2 (by simpa [updV] using h)⟩
        · exact hJ.both v (by simpa [updV] using hv)
        · simp only [updV, if_true, Option.some.injEq] at hu
          subst hu
          refine ⟨by simpa [updV] using hv0, fun i hi => ?_⟩
          obtain ⟨v, hv⟩ := hall i hi
          exact ⟨v, by simp [updV, show i ≠ 15 by omega, hv]⟩
    | i + 16, ho => simp [hL] at ho

end Go.Proofs.Ytmnechdmgmbpeaa

/- The regions of pollardingref6.Parse's reduce, as a walk takes them. -/
namespace Go.Proofs.Ytmnechdmgmbpeaa
open Go.RowKit

set_option maxRecDepth 100000 in
set_option maxHeartbeats 3200000 in
theorem reg30_end {a : Act} {W : World} {Q : Exit → Act → World → Prop} {cx lb lo m2 uc2 m kp n : Nat} {tv s7 : Value} {KL : List Tn} (hsz : a.tmps.size = 144) (h15 : a.eval (.tmp 15) = .pointer (some ⟨cx, 0, none⟩)) (h11 : a.eval (.tmp 11) = tv) (h17 : a.eval (.tmp 17) = .int .i64 kp)
    (x1 : W.cell? ⟨cx, 1, none⟩ = some (.slice (some ⟨lb, lo, none⟩) m2 uc2)) (x2 : W.cell? ⟨lb, lo, none⟩ = some (.int .i64 m)) (hm2 : 0 < m2) (hs7 : ∀ w, (Instr.sliceAt 48 tv (some (.int .i64 kp)) none none).run Try.prog w = .ok s7 w)
    (happ : ∀ (w : World) (b : Nat), Below W.heap.size W w → W.heap.size ≤ b → b < w.heap.size → w.heap[b]? = some (.cells #[] 54 (0, 0)) → ∃ g cap w', (Builtin.append_ #[ 48, 48 ] 48 #[.slice (some ⟨b, 0, none⟩) 0 0, s7]).run Try.prog w = .ok (.slice (some ⟨g, 0, none⟩) n cap) w' ∧ w.grownBy w' (some b) ∧ (g = b ∨ (g = w.heap.size ∧ w.heap.size < w'.heap.size)) ∧ w'.ownsRow W.heap.size 54 2 (.slice (some ⟨g, 0, none⟩) n cap) n (flatTn KL))
    (hQ : ∀ (v0 v1 v2 v3 v4 v5 v6 v7 v8 v9 v11 : Value) (xb g cap : Nat) (w : World), Below W.heap.size W w → W.heap.size ≤ xb → w.cell? ⟨xb, 0, none⟩ = some (.int .i64 m) → w.cell? ⟨xb, 1, none⟩ = some (.slice (some ⟨g, 0, none⟩) n cap) → W.heap.size ≤ g → g < w.heap.size → (0 < n → w.ownsRow W.heap.size 54 2 (.slice (some ⟨g, 0, none⟩) n cap) n (flatTn KL)) → Q .normal ((((((((((((a.put (some 103) v0).put (some 104) v1).put (some 105) v2).put (some 106) v3).put (some 107) v4).put (some 108) v5).put (some 109) v6).put (some 110) v7).put (some 111) v8).put (some 112) v9).put (some 18) (.pointer (some ⟨xb, 0, none⟩))).put none v11) w) : (Code.region 30 ops30.toArray true).wp Try.prog Q a W := by
  refine reg30 hsz h15 h11 h17 x1 x2 hm2 hs7 (fun w b h1 h2 h3 h4 => by
    obtain ⟨g, cap, w', k1, k2, k3, k4⟩ := happ w b h1 h2 h3 h4
    exact ⟨g, cap, w', k1, k2, k3, fun _ => k4⟩) fun vals w hJ hall => ?_
  obtain ⟨v0, hv0⟩ := hall 0 (by omega)
  obtain ⟨v1, hv1⟩ := hall 1 (by omega)
  obtain ⟨v2, hv2⟩ := hall 2 (by omega)
  obtain ⟨v3, hv3⟩ := hall 3 (by omega)
  obtain ⟨v4, hv4⟩ := hall 4 (by omega)
  obtain ⟨v5, hv5⟩ := hall 5 (by omega)
  obtain ⟨v6, hv6⟩ := hall 6 (by omega)
  obtain ⟨v7, hv7⟩ := hall 7 (by omega)
  obtain ⟨v8, hv8⟩ := hall 8 (by omega)
  obtain ⟨v9, hv9⟩ := hall 9 (by omega)
  obtain ⟨v10, hv10⟩ := hall 10 (by omega)
  obtain ⟨v11, hv11⟩ := hall 11 (by omega)
  obtain ⟨xb, c0, c1, rfl, hx2, hx3, hx4, hx5⟩ := hJ.box v10 hv10
  obtain ⟨g, cap, rfl, hg1, hg2, hg3⟩ := hJ.kids v8 hv8
  obtain ⟨rfl, rfl⟩ := hx5 v11 _ hv11 hv8
  have := hQ v0 v1 v2 v3 v4 v5 v6 v7 (.slice (some ⟨g, 0, none⟩) n cap) v9 v11 xb g cap w hJ.b hx2 (by simp [World.cell?, hx4]) (by simp [World.cell?, hx4]) hg1 hg2 hg3
  simp only [ops30, Try.f5, Option.getD_some, findR, Nat.reduceBEq, cond_true, cond_false, List.nil_append, List.append_nil, frameF, Nat.zero_add, Nat.reduceAdd, hv0, hv1, hv2, hv3, hv4, hv5, hv6, hv7, hv8, hv9, hv10, hv11]
  exact this

set_option maxRecDepth 100000 in
set_option maxHeartbeats 3200000 in
theorem reg31_end {a : Act} {W : World} {Q : Exit → Act → World → Prop} {xb m kp kg kn kc : Nat} {tv s3 : Value} {KL : List Tn} (hsz : a.tmps.size = 144) (h18 : a.eval (.tmp 18) = .pointer (some ⟨xb, 0, none⟩)) (h11 : a.eval (.tmp 11) = tv) (h17 : a.eval (.tmp 17) = .int .i64 kp)
    (x1 : W.cell? ⟨xb, 0, none⟩ = some (.int .i64 m)) (x2 : W.cell? ⟨xb, 1, none⟩ = some (.slice (some ⟨kg, 0, none⟩) kn kc)) (hkp : kp ≤ 1000) (hs3 : ∀ w, (Instr.sliceAt 48 tv none (some (.int .i64 kp)) none).run Try.prog w = .ok s3 w)
    (happ : ∀ (w : World) (b : Nat), Below W.heap.size W w → W.heap.size ≤ b → b < w.heap.size → w.heap[b]? = some (.cells #[] 54 (0, 0)) → ∃ g cap w', (Builtin.append_ #[ 48, 48 ] 48 #[.slice (some ⟨b, 0, none⟩) 0 0, s3]).run Try.prog w = .ok (.slice (some ⟨g, 0, none⟩) kp cap) w' ∧ w.grownBy w' (some b) ∧ (g = b ∨ (g = w.heap.size ∧ w.heap.size < w'.heap.size)) ∧ w'.ownsRow W.heap.size 54 2 (.slice (some ⟨g, 0, none⟩) kp cap) kp (flatTn KL))
    (hQ : ∀ (v0 v1 v2 v3 v4 v5 v6 v7 : Value) (g cap : Nat) (w : World), Below W.heap.size W w → W.heap.size ≤ g → g < w.heap.size → w.ownsRow W.heap.size 54 2 (.slice (some ⟨g, 0, none⟩) (kp + 1) cap) (kp + 1) (flatTn KL ++ [.int .i64 m, .slice (some ⟨kg, 0, none⟩) kn kc]) → Q .normal (((((((((a.put (some 113) v0).put (some 114) v1).put (some 115) v2).put (some 116) v3).put (some 117) v4).put (some 118) v5).put (some 119) v6).put (some 120) v7).put (some 11) (.slice (some ⟨g, 0, none⟩) (kp + 1) cap)) w) : (Code.region 31 ops31.toArray true).wp Try.prog Q a W := by
  refine reg31 hsz h18 h11 h17 x1 x2 hkp hs3 happ fun vals w hJ hall => ?_
  obtain ⟨v0, hv0⟩ := hall 0 (by omega)
  obtain ⟨v1, hv1⟩ := hall 1 (by omega)
  obtain ⟨v2, hv2⟩ := hall 2 (by omega)
  obtain ⟨v3, hv3⟩ := hall 3 (by omega)
  obtain ⟨v4, hv4⟩ := hall 4 (by omega)
  obtain ⟨v5, hv5⟩ := hall 5 (by omega)
  obtain ⟨v6, hv6⟩ := hall 6 (by omega)
  obtain ⟨v7, hv7⟩ := hall 7 (by omega)
  obtain ⟨v8, hv8⟩ := hall 8 (by omega)
  have e8 := (hJ.fin v8 hv8).1
  obtain ⟨g, cap, rfl, hg1, hg2, hg3⟩ := hJ.both v8 e8
  have := hQ v0 v1 v2 v3 v4 v5 v6 v7 g cap w hJ.b hg1 hg2 hg3
  simp only [ops31, Try.f5, Option.getD_some, findR, Nat.reduceBEq, cond_true, cond_false, List.nil_append, List.append_nil, frameF, Nat.zero_add, Nat.reduceAdd, hv0, hv1, hv2, hv3, hv4, hv5, hv6, hv7, hv8]
  exact this

set_option maxRecDepth 100000 in
set_option maxHeartbeats 3200000 in
theorem reg33_end {a : Act} {W : World} {Q : Exit → Act → World → Prop} {B tb rb2 gb go K gc sb n sc kp qs hb h0 N hc Lf gg : Nat} {xs : List Value} (hsz : a.tmps.size = 144) (h8 : a.eval (.tmp 8) = .pointer (some ⟨tb, 0, none⟩)) (h16 : a.eval (.tmp 16) = .pointer (some ⟨rb2, 0, none⟩)) (h10 : a.eval (.tmp 10) = .slice (some ⟨sb, 0, none⟩) n sc) (h17 : a.eval (.tmp 17) = .int .i64 kp)
    (x1 : W.cell? ⟨tb, 1, none⟩ = some (.slice (some ⟨gb, go, none⟩) K gc)) (x2 : W.cell? ⟨sb, kp, none⟩ = some (.int .i64 qs)) (x3 : W.cell? ⟨gb, go + qs, none⟩ = some (.slice (some ⟨hb, h0, none⟩) N hc)) (x4 : W.cell? ⟨rb2, 0, none⟩ = some (.int .i64 Lf)) (x5 : W.cell? ⟨hb, h0 + Lf, none⟩ = some (.int .i64 gg))
    (hkn : kp < n) (hqK : qs < K) (hLN : Lf < N) (hn : n ≤ 1000) (hB : B ≤ W.heap.size) (own : W.ownsRow B 3 1 (.slice (some ⟨sb, 0, none⟩) n sc) n xs)
    (hQ : ∀ (v0 v1 v2 v3 v4 v5 v6 v7 v8 v9 v10 v11 v12 v13 v14 : Value) (g cap : Nat) (wm w : World), Below W.heap.size W wm → wm.grownBy w (some sb) → (g = sb ∨ g = wm.heap.size) → g < w.heap.size → w.ownsRow B 3 1 (.slice (some ⟨g, 0, none⟩) (n + 1) cap) (n + 1) (xs ++ [.int .i64 gg]) → Q .normal ((((((((((((((((a.put (some 127) v0).put (some 128) v1).put (some 129) v2).put (some 130) v3).put (some 131) v4).put (some 132) v5).put (some 133) v6).put (some 134) v7).put (some 135) v8).put (some 136) v9).put (some 137) v10).put (some 138) v11).put (some 139) v12).put (some 140) v13).put (some 141) v14).put (some 10) (.slice (some ⟨g, 0, none⟩) (n + 1) cap)) w) : (Code.region 33 ops33.toArray true).wp Try.prog Q a W := by
  refine reg33 hsz h8 h16 h10 h17 x1 x2 x3 x4 x5 hkn hqK hLN hn hB own fun vals w hJ hall => ?_
  obtain ⟨v0, hv0⟩ := hall 0 (by omega)
  obtain ⟨v1, hv1⟩ := hall 1 (by omega)
  obtain ⟨v2, hv2⟩ := hall 2 (by omega)
  obtain ⟨v3, hv3⟩ := hall 3 (by omega)
  obtain ⟨v4, hv4⟩ := hall 4 (by omega)
  obtain ⟨v5, hv5⟩ := hall 5 (by omega)
  obtain ⟨v6, hv6⟩ := hall 6 (by omega)
  obtain ⟨v7, hv7⟩ := hall 7 (by omega)
  obtain ⟨v8, hv8⟩ := hall 8 (by omega)
  obtain ⟨v9, hv9⟩ := hall 9 (by omega)
  obtain ⟨v10, hv10⟩ := hall 10 (by omega)
  obtain ⟨v11, hv11⟩ := hall 11 (by omega)
  obtain ⟨v12, hv12⟩ := hall 12 (by omega)
  obtain ⟨v13, hv13⟩ := hall 13 (by omega)
  obtain ⟨v14, hv14⟩ := hall 14 (by omega)
  obtain ⟨v15, hv15⟩ := hall 15 (by omega)
  have e15 := (hJ.fin v15 hv15).1
  obtain ⟨g, cap, wm, rfl, k1, k2, k3, k4, k5⟩ := hJ.both v15 e15
  have := hQ v0 v1 v2 v3 v4 v5 v6 v7 v8 v9 v10 v11 v12 v13 v14 g cap wm w k1 k2 k3 k4 k5
  simp only [ops33, Try.f5, Option.getD_some, findR, Nat.reduceBEq, cond_true, cond_false, List.nil_append, List.append_nil, frameF, Nat.zero_add, Nat.reduceAdd, hv0, hv1, hv2, hv3, hv4, hv5, hv6, hv7, hv8, hv9, hv10, hv11, hv12, hv13, hv14, hv15]
  exact this

section
variable {w w1 w2 : World} {B : Nat} {sv tv : Value} {S : List Nat} {TL : List Tn} {k : Nat}

/-- The last ones, copied. -/
theorem copy_low {ua : Option Addr} {kp n uc : Nat} (h : PM B sv (.slice ua (kp + n) uc) S TL k w) (hl : TL.length = kp + n) (hlim : kp + n ≤ 1000) (w' : World) (b : Nat) (hB : Below w.heap.size w w') (hb : w.heap.size ≤ b) (hbw : b < w'.heap.size) (hcell : w'.heap[b]? = some (.cells #[] 54 (0, 0))) :
    ∃ g cap w2, (Builtin.append_ #[ 48, 48 ] 48 #[.slice (some ⟨b, 0, none⟩) 0 0, sliced ua kp (kp + n) uc 2]).run Try.prog w' = .ok (.slice (some ⟨g, 0, none⟩) n cap) w2 ∧ w'.grownBy w2 (some b) ∧ (g = b ∨ (g = w'.heap.size ∧ w'.heap.size < w2.heap.size)) ∧ w2.ownsRow w.heap.size 54 2 (.slice (some ⟨g, 0, none⟩) n cap) n (flatTn (TL.drop kp)) := by
  unfold sliced
  rw [show kp + n - kp = n by omega]
  refine append_copy (by simp [hl]) (fun hn => ?_) (fun x hx => (h.trees x (List.mem_of_mem_drop hx)).slice) hb hbw hcell (by omega)
  have ho := h.ownT
  rw [hl] at ho
  obtain ⟨g, cap, hv, hg, hlt⟩ := ho.form (by omega)
  injection hv with hv1 _ hv3
  subst hv1 hv3
  have hcap : uc ≠ kp := by
    obtain ⟨_, ⟨hx, _⟩ | ⟨g', c', cur, hv', _, _, h5, _⟩⟩ := ho
    · cases hx
    · injection hv' with _ _ hv'
      omega
  refine ⟨⟨g, kp * 2, none⟩, by rw [if_neg hcap]; simp [Addr.add_lit], fun j u hj => ?_⟩
  rw [flatTn_drop, List.getElem?_drop] at hj
  have hj2 : kp * 2 + j < (kp + n) * 2 := by
    have := (List.getElem?_eq_some_iff.1 hj).1
    rw [flatTn_len, hl] at this
    exact this
  have := ho.cellAt (kp * 2 + j) hj2
  rw [hj] at this
  rw [Addr.add_lit]
  exact (hB.cell (p := ⟨g, kp * 2 + j, none⟩) hlt).trans this

/-- The first ones, copied. -/
theorem copy_high {ua : Option Addr} {kp n uc : Nat} (h : PM B sv (.slice ua (kp + n) uc) S TL k w) (hl : TL.length = kp + n) (hlim : kp + n ≤ 1000) (w' : World) (b : Nat) (hB : Below w.heap.size w w') (hb : w.heap.size ≤ b) (hbw : b < w'.heap.size) (hcell : w'.heap[b]? = some (.cells #[] 54 (0, 0))) :
    ∃ g cap w2, (Builtin.append_ #[ 48, 48 ] 48 #[.slice (some ⟨b, 0, none⟩) 0 0, sliced ua 0 kp uc 2]).run Try.prog w' = .ok (.slice (some ⟨g, 0, none⟩) kp cap) w2 ∧ w'.grownBy w2 (some b) ∧ (g = b ∨ (g = w'.heap.size ∧ w'.heap.size < w2.heap.size)) ∧ w2.ownsRow w.heap.size 54 2 (.slice (some ⟨g, 0, none⟩) kp cap) kp (flatTn (TL.take kp)) := by
  unfold sliced
  rw [show kp - 0 = kp by omega]
  refine append_copy (by simp [hl]) (fun hn => ?_) (fun x hx => (h.trees x (List.mem_of_mem_take hx)).slice) hb hbw hcell (by omega)
  have ho := h.ownT
  rw [hl] at ho
  obtain ⟨g, cap, hv, hg, hlt⟩ := ho.form (by omega)
  injection hv with hv1 _ hv3
  subst hv1 hv3
  refine ⟨⟨g, 0, none⟩, by simp [Addr.add_lit], fun j u hj => ?_⟩
  rw [flatTn_take (by omega), List.getElem?_take] at hj
  split at hj
  · have := ho.cellAt j (by omega)
    rw [hj] at this
    rw [Addr.add_lit, Nat.zero_add]
    exact (hB.cell (p := ⟨g, j, none⟩) hlt).trans this
  · cases hj

/-- The stack of trees behind a reduce. -/
theorem PM.made (h : PM B sv tv S TL k w) (hb : Below w.heap.size w w1) {n g cap g2 cap2 : Nat} (hn : n ≤ TL.length) (hl : TL.length ≤ 1000) (hkids : 0 < (TL.drop n).length → w1.ownsRow w.heap.size 54 2 (.slice (some ⟨g, 0, none⟩) (TL.drop n).length cap) (TL.drop n).length (flatTn (TL.drop n))) (hg1 : w.heap.size ≤ g) (hg2 : g < w1.heap.size) {q : Int} (hq : 0 ≤ q)
    (hb2 : Below w1.heap.size w1 w2) (ho : w2.ownsRow w1.heap.size 54 2 (.slice (some ⟨g2, 0, none⟩) (n + 1) cap2) (n + 1) (flatTn (TL.take n) ++ [.int .i64 q, .slice (some ⟨g, 0, none⟩) (TL.drop n).length cap])) (hg3 : w1.heap.size ≤ g2) :
    PM B sv (.slice (some ⟨g2, 0, none⟩) (n + 1) cap2) S (TL.take n ++ [(q, .slice (some ⟨g, 0, none⟩) (TL.drop n).length cap, q :: ((TL.drop n).map fun x => x.2.2).flatten)]) (k + 1) w2 := by
  have h1 := h.below hb
  have hlen : (TL.take n ++ [(q, Value.slice (some ⟨g, 0, none⟩) (TL.drop n).length cap, q :: ((TL.drop n).map fun x => x.2.2).flatten)]).length = n + 1 := by simp [hn]
  have hA : ∀ b, notRows w1 sv tv b → notRows w2 sv (.slice (some ⟨g2, 0, none⟩) (n + 1) cap2) b := fun b hb' => ⟨Nat.lt_of_lt_of_le hb'.1 hb2.size, hb'.2.1, fun e => by
    have : g2 = b := by simpa [Value.ownBlock] using e
    have := hb'.1
    omega⟩
  refine h1.freshT hb2 (by rw [hlen, flatTn_append]; exact ho.mono h1.size) (fun g' hg' => by
    have : g2 = g' := by simpa [Value.ownBlock] using hg'
    omega) fun x hx => ?_
  rcases List.mem_append.1 hx with hx | hx
  · exact ((h1.trees x (List.mem_of_mem_take hx)).kept (fun b hb' => hb2.block b hb'.1) hA).up
  · simp only [List.mem_singleton] at hx
    subst hx
    exact (tree_made h hb hl (fun hlt => ⟨hg1, hg2, hkids (by simp; omega)⟩) hq).kept (fun b hb' => hb2.block b hb'.1) hA
end

end Go.Proofs.Ytmnechdmgmbpeaa
