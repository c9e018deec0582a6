/- A region of pollardingref6.Parse that draws its order: a tree is made of others. -/
import Derived.Test.YtmnechdmgmbpeaaPrParseAndParseMem6
import Derived.Test.YtmnechdmgmbpeaaWrong5AndRegionFacts
import Derived.RegionTactic
import Derived.Great.BuildSlice
import Derived.Deep.AppendLies
namespace Go.Proofs.Ytmnechdmgmbpeaa
open Go.RowKit

/-- The operations of a code's region. -/
def findR (k : Nat) : Code → List Oper
  | .region id ops _ => bif id == k then ops.toList else []
  | .seq a b => findR k a ++ findR k b
  | .cond _ a b => findR k a ++ findR k b
  | .block _ a => findR k a
  | .loop a => findR k a
  | .scope a => findR k a
  | _ => []

/-- A tree is made of the last ones. -/
noncomputable def ops30 : List Oper := findR 30 (Try.f5.body.getD .skip)

/-- What those yield that only read. -/
def pv30 (cx lb lo m2 uc2 m kp : Nat) (tv s7 : Value) : Nat → Option Value
  | 0 => some (.pointer (some ⟨cx, 1, none⟩))
  | 1 => some (.slice (some ⟨lb, lo, none⟩) m2 uc2)
  | 2 => some (.pointer (some ⟨lb, lo, none⟩))
  | 3 => some (.int .i64 m)
  | 5 => some tv
  | 6 => some (.int .i64 kp)
  | 7 => some s7
  | _ => none

structure J30 (W : World) (pv : Nat → Option Value) (m n : Nat) (KL : List Tn) (vals : Nat → Option Value) (w : World) : Prop where
  b : Below W.heap.size W w
  pure : ∀ j v u, vals j = some v → pv j = some u → v = u
  lit : ∀ v, vals 4 = some v → ∃ b, v = .slice (some ⟨b, 0, none⟩) 0 0 ∧ W.heap.size ≤ b ∧ b < w.heap.size ∧ (vals 8 = none → w.heap[b]? = some (.cells #[] 54 (0, 0)))
  kids : ∀ v, vals 8 = some v → ∃ g cap, v = .slice (some ⟨g, 0, none⟩) n cap ∧ W.heap.size ≤ g ∧ g < w.heap.size ∧ (0 < n → w.ownsRow W.heap.size 54 2 v n (flatTn KL))
  agg : ∀ v, vals 9 = some v → ∃ kv, vals 8 = some kv ∧ v = .agg #[.int .i64 m, kv]
  box : ∀ v, vals 10 = some v → ∃ xb c0 c1, v = .pointer (some ⟨xb, 0, none⟩) ∧ W.heap.size ≤ xb ∧ xb < w.heap.size ∧ w.heap[xb]? = some (.cells #[c0, c1] 54 (0, 0)) ∧ (∀ u kv, vals 11 = some u → vals 8 = some kv → c0 = .int .i64 m ∧ c1 = kv)
  late : ∀ u, vals 11 = some u → (∃ kv, vals 8 = some kv) ∧ ∃ x, vals 10 = some x
  ne1 : ∀ b xb, vals 4 = some (.slice (some ⟨b, 0, none⟩) 0 0) → vals 10 = some (.pointer (some ⟨xb, 0, none⟩)) → b ≠ xb
  ne2 : ∀ g n cap xb, vals 8 = some (.slice (some ⟨g, 0, none⟩) n cap) → vals 10 = some (.pointer (some ⟨xb, 0, none⟩)) → g ≠ xb

theorem J30.read {W : World} {pv : Nat → Option Value} {m n : Nat} {KL : List Tn} {vals : Nat → Option Value} {w : World} (h : J30 W pv m n KL vals w) {i : Nat} {u : Value} (hp : pv i = some u) (h4 : i ≠ 4) (h8 : i ≠ 8) (h9 : i ≠ 9) (h10 : i ≠ 10) (h11 : i ≠ 11) : J30 W pv m n KL (updV vals i u) w := by
  have e : ∀ j, j ≠ i → updV vals i u j = vals j := fun j hj => by simp [updV, hj]
  refine ⟨h.b, fun j v u' hv hu => ?_, ?_, ?_, ?_, ?_, ?_, ?_, ?_⟩
  · by_cases hj : j = i
    · subst hj
      rw [hp] at hu
      simp only [updV, if_true, Option.some.injEq] at hv hu
      rw [← hv, hu]
    · rw [e j hj] at hv
      exact h.pure j v u' hv hu
  · rw [e 4 h4.symm, e 8 h8.symm]; exact h.lit
  · rw [e 8 h8.symm]; exact h.kids
  · rw [e 9 h9.symm, e 8 h8.symm]; exact h.agg
  · rw [e 10 h10.symm, e 8 h8.symm, e 11 h11.symm]; exact h.box
  · rw [e 11 h11.symm, e 8 h8.symm, e 10 h10.symm]; exact h.late
  · rw [e 4 h4.symm, e 10 h10.symm]; exact h.ne1
  · rw [e 8 h8.symm, e 10 h10.symm]; exact h.ne2

theorem heap_two {w : World} {xb : Nat} {c0 c1 x y : Value} {t : TypeId} (h : w.heap[xb]? = some (.cells #[c0, c1] t (0, 0))) : ((w.setCell ⟨xb, 0, none⟩ x).setCell ⟨xb, 1, none⟩ y).heap[xb]? = some (.cells #[x, y] t (0, 0)) := by
  have h1 := heap_setCell_same w xb 0 _ t x h
  have h2 := heap_setCell_same _ xb 1 _ t y h1
  simpa using h2

/-- A row whose own block is as it was. -/
theorem row_same {w w' : World} {base g n cap : Nat} {e : TypeId} {size : Nat} {xs : List Value} (h : w.ownsRow base e size (.slice (some ⟨g, 0, none⟩) n cap) n xs) (hb : w'.heap[g]? = w.heap[g]?) : w'.ownsRow base e size (.slice (some ⟨g, 0, none⟩) n cap) n xs := by
  obtain ⟨h1, h2 | ⟨g', c', cur, hv, h3, h4, h5⟩⟩ := h
  · cases h2.1
  · simp only [Value.slice.injEq, Option.some.injEq, Addr.mk.injEq, and_true, true_and] at hv
    obtain ⟨rfl, rfl⟩ := hv
    exact ⟨h1, .inr ⟨g, cap, cur, rfl, h3, hb.trans h4, h5⟩⟩

set_option maxRecDepth 100000 in
set_option maxHeartbeats 3200000 in
theorem reg30 {a : Act} {W : World} {Q : Exit → Act → World → Prop} {cx lb lo m2 uc2 m kp n : Nat} {tv s7 : Value} {KL : List Tn} (hsz : a.tmps.size = 144) (h15 : a.eval (.tmp 15) = .pointer (some ⟨cx, 0, none⟩)) (h11 : a.eval (.tmp 11) = tv) (h17 : a.eval (.tmp 17) = .int .i64 kp)
    (x1 : W.cell? ⟨cx, 1, none⟩ = some (.slice (some ⟨lb, lo, none⟩) m2 uc2)) (x2 : W.cell? ⟨lb, lo, none⟩ = some (.int .i64 m)) (hm2 : 0 < m2) (hs7 : ∀ w, (Instr.sliceAt 48 tv (some (.int .i64 kp)) none none).run Try.prog w = .ok s7 w)
    (happ : ∀ (w : World) (b : Nat), Below W.heap.size W w → W.heap.size ≤ b → b < w.heap.size → w.heap[b]? = some (.cells #[] 54 (0, 0)) → ∃ g cap w', (Builtin.append_ #[ 48, 48 ] 48 #[.slice (some ⟨b, 0, none⟩) 0 0, s7]).run Try.prog w = .ok (.slice (some ⟨g, 0, none⟩) n cap) w' ∧ w.grownBy w' (some b) ∧ (g = b ∨ (g = w.heap.size ∧ w.heap.size < w'.heap.size)) ∧ (0 < n → w'.ownsRow W.heap.size 54 2 (.slice (some ⟨g, 0, none⟩) n cap) n (flatTn KL)))
    (hQ : ∀ (vals : Nat → Option Value) (w : World), J30 W (pv30 cx lb lo m2 uc2 m kp tv s7) m n KL vals w → (∀ i, i < 12 → ∃ v, vals i = some v) → Q .normal (frameF vals 0 ops30 a) w) : (Code.region 30 ops30.toArray true).wp Try.prog Q a W := by
  obtain ⟨L, hL⟩ : ∃ L, L = ops30 := ⟨_, rfl⟩
  rw [← hL] at hQ ⊢
  simp only [ops30, Try.f5, Option.getD_some, findR, Nat.reduceBEq, cond_true, cond_false, List.nil_append, List.append_nil] at hL
  have hL' : ∀ o ∈ L, o.dst ≠ some 15 ∧ o.dst ≠ some 11 ∧ o.dst ≠ some 17 := by simp [hL]
  refine wp_region_joint (J30 W (pv30 cx lb lo m2 uc2 m kp tv s7) m n KL) (by kernel_rfl) (by rw [hL]; kernel_rfl) (by rw [hL]; kernel_rfl) (by rw [hL]; kernel_rfl) ?_ ?_ (fun vals w hJ hall => hQ vals w hJ (by rw [hL] at hall; exact hall))
  · exact ⟨(Below.refl _ _).drew, fun _ _ _ h => (by cases h), fun _ h => (by cases h), fun _ h => (by cases h), fun _ h => (by cases h), fun _ h => (by cases h), fun _ h => (by cases h), fun _ _ h => (by cases h), fun _ _ _ _ h => (by cases h)⟩
  · intro i o ho vals w hJ hvn hdep
    have same : ∀ (j : Nat) (t : Tmp) (v : Value) (oj : Oper), L[j]? = some oj → oj.dst = some t → vals j = some v → t < 144 → (frameF vals 0 L a).eval (.tmp t) = v := fun j t v oj h1 h2 h3 h4 => frame_same (by rw [hL]; kernel_rfl) h1 h2 (by rw [Nat.zero_add]; exact h3) (by rw [hsz]; exact h4)
    have other : ∀ t, (∀ o ∈ L, o.dst ≠ some t) → (frameF vals 0 L a).eval (.tmp t) = a.eval (.tmp t) := fun t h => frame_other h
    match i, ho with
    | 0, ho =>
      rw [hL] at ho
      injection ho with ho
      subst ho
      have e15 := (other 15 fun o h => (hL' o h).1).trans h15
      refine ⟨.pointer (some ⟨cx, 1, none⟩), w, .inl ?_, hJ.read (i := 0) rfl (by decide) (by decide) (by decide) (by decide) (by decide)⟩
      generalize (frameF vals 0 L a).eval = ev at e15
      go_simp
    | 1, ho =>
      rw [hL] at ho
      injection ho with ho
      subst ho
      obtain ⟨v0, hv0⟩ := hdep { on := 0, ground := Ground.data } (by simp) rfl
      have e0 := same 0 103 v0 _ (by rw [hL]; rfl) rfl hv0 (by decide)
      rw [hJ.pure 0 v0 _ hv0 rfl] at e0
      have k1 := (hJ.b.cell (p := ⟨cx, 1, none⟩) (World.block_lt_of_cell? W _ x1)).trans x1
      refine ⟨.slice (some ⟨lb, lo, none⟩) m2 uc2, w, .inl ?_, hJ.read (i := 1) rfl (by decide) (by decide) (by decide) (by decide) (by decide)⟩
      generalize (frameF vals 0 L a).eval = ev at e0
      go_simp
    | 2, ho =>
      rw [hL] at ho
      injection ho with ho
      subst ho
      obtain ⟨v0, hv0⟩ := hdep { on := 1, ground := Ground.data } (by simp) rfl
      have e0 := same 1 104 v0 _ (by rw [hL]; rfl) rfl hv0 (by decide)
      rw [hJ.pure 1 v0 _ hv0 rfl] at e0
      have hm : (0 : Int) < (m2 : Int) := by omega
      refine ⟨.pointer (some ⟨lb, lo, none⟩), w, .inl ?_, hJ.read (i := 2) rfl (by decide) (by decide) (by decide) (by decide) (by decide)⟩
      have ec : (frameF vals 0 L a).eval (.const (.int .i64 0)) = .int .i64 0 := rfl
      generalize (frameF vals 0 L a).eval = ev at e0 ec
      go_simp
    | 3, ho =>
      rw [hL] at ho
      injection ho with ho
      subst ho
      obtain ⟨v0, hv0⟩ := hdep { on := 2, ground := Ground.data } (by simp) rfl
      have e0 := same 2 105 v0 _ (by rw [hL]; rfl) rfl hv0 (by decide)
      rw [hJ.pure 2 v0 _ hv0 rfl] at e0
      have k1 := (hJ.b.cell (p := ⟨lb, lo, none⟩) (World.block_lt_of_cell? W _ x2)).trans x2
      refine ⟨.int .i64 m, w, .inl ?_, hJ.read (i := 3) rfl (by decide) (by decide) (by decide) (by decide) (by decide)⟩
      generalize (frameF vals 0 L a).eval = ev at e0
      go_simp
    | 4, ho =>
      rw [hL] at ho
      injection ho with ho
      subst ho
      refine ⟨.slice (some ⟨w.heap.size, 0, none⟩) 0 0, w.alloc (.cells #[] 54), .inl ?_, ?_⟩
      · generalize (frameF vals 0 L a).eval = ev
        go_simp
      · have hW := hJ.b.size
        have hold : ∀ b, b < w.heap.size → (w.alloc (.cells #[] 54)).heap[b]? = w.heap[b]? := fun b hb => (World.grownBy_alloc w _ none).block b hb (by simp)
        refine ⟨hJ.b.alloc hW _, fun j v u hv hu => ?_, fun v hv => ?_, fun v hv => ?_, fun v hv => ?_, fun v hv => ?_, fun u hu => ?_, fun b xb hb hx => ?_, fun g n' cap xb hg hx => ?_⟩
        · by_cases hj : j = 4
          · subst hj; simp [pv30] at hu
          · exact hJ.pure j v u (by simpa [updV, hj] using hv) hu
        · simp only [updV, if_true, Option.some.injEq] at hv
          exact ⟨w.heap.size, hv.symm, hW, by simp, fun _ => heap_alloc_new _ _⟩
        · obtain ⟨g, cap, h1, h2, h3, h4⟩ := hJ.kids v (by simpa [updV] using hv)
          exact ⟨g, cap, h1, h2, by simp; omega, fun hn => (h4 hn).alloc _⟩
        · exact hJ.agg v (by simpa [updV] using hv)
        · obtain ⟨xb, c0, c1, h1, h2, h3, h4, h5⟩ := hJ.box v (by simpa [updV] using hv)
          exact ⟨xb, c0, c1, h1, h2, by simp; omega, (hold xb h3).trans h4, fun u kv hu hk => h5 u kv (by simpa [updV] using hu) (by simpa [updV] using hk)⟩
        · simpa [updV] using hJ.late u (by simpa [updV] using hu)
        · simp only [updV, if_true, Option.some.injEq, Value.slice.injEq, Addr.mk.injEq, and_true] at hb
          obtain ⟨xb', _, _, h1, _, h3, _⟩ := hJ.box _ (by simpa [updV] using hx)
          simp only [Value.pointer.injEq, Option.some.injEq, Addr.mk.injEq, and_true] at h1
          omega
        · exact hJ.ne2 g n' cap xb (by simpa [updV] using hg) (by simpa [updV] using hx)
    | 5, ho =>
      rw [hL] at ho
      injection ho with ho
      subst ho
      have e0 := (other 11 fun o h => (hL' o h).2.1).trans h11
      refine ⟨tv, w, .inl ?_, hJ.read (i := 5) rfl (by decide) (by decide) (by decide) (by decide) (by decide)⟩
      generalize (frameF vals 0 L a).eval = ev at e0
      go_simp
    | 6, ho =>
      rw [hL] at ho
      injection ho with ho
      subst ho
      have e0 := (other 17 fun o h => (hL' o h).2.2).trans h17
      refine ⟨.int .i64 kp, w, .inl ?_, hJ.read (i := 6) rfl (by decide) (by decide) (by decide) (by decide) (by decide)⟩
      generalize (frameF vals 0 L a).eval = ev at e0
      go_simp
    | 7, ho =>
      rw [hL] at ho
      injection ho with ho
      subst ho
      obtain ⟨v0, hv0⟩ := hdep { on := 5, ground := Ground.data } (by simp) rfl
      obtain ⟨v1, hv1⟩ := hdep { on := 6, ground := Ground.data } (by simp) rfl
      have e0 := same 5 108 v0 _ (by rw [hL]; rfl) rfl hv0 (by decide)
      have e1 := same 6 109 v1 _ (by rw [hL]; rfl) rfl hv1 (by decide)
      rw [hJ.pure 5 v0 _ hv0 rfl] at e0
      rw [hJ.pure 6 v1 _ hv1 rfl] at e1
      have hrun := hs7 w
      refine ⟨s7, w, .inl ?_, hJ.read (i := 7) rfl (by decide) (by decide) (by decide) (by decide) (by decide)⟩
      generalize (frameF vals 0 L a).eval = ev at e0 e1
      simp [execOp, e0, e1, hrun, Result.andThen]
    | 8, ho =>
      rw [hL] at ho
      injection ho with ho
      subst ho
      obtain ⟨v0, hv0⟩ := hdep { on := 4, ground := Ground.data } (by simp) rfl
      have e0 := same 4 107 v0 _ (by rw [hL]; rfl) rfl hv0 (by decide)
      obtain ⟨v1, hv1⟩ := hdep { on := 7, ground := Ground.data } (by simp) rfl
      have e1 := same 7 110 v1 _ (by rw [hL]; rfl) rfl hv1 (by decide)
      rw [hJ.pure 7 v1 _ hv1 rfl] at e1
      obtain ⟨b, hb, hb1, hb2, hb3⟩ := hJ.lit v0 hv0
      rw [hb] at e0
      rw [hb] at hv0
      obtain ⟨g, cap, w', hrun, hg, hgb, how⟩ := happ w b hJ.b hb1 hb2 (hb3 hvn)
      have hW := hJ.b.size
      refine ⟨.slice (some ⟨g, 0, none⟩) n cap, w', .inl ?_, ?_⟩
      · generalize (frameF vals 0 L a).eval = ev at e0 e1
        simp only [execOp, resolve, invoke, builtin, Sem.run_bind, Sem.run_pure, Result.andThen_ok, List.map_toArray, List.map_cons, List.map_nil, e0, e1, hrun]
      · refine ⟨hJ.b.grown hg hW (fun k hk => by cases hk; exact hb1), fun j v u hv hu => ?_, fun v hv => ?_, fun v hv => ?_, fun v hv => ?_, fun v hv => ?_, fun u hu => ?_, fun b' xb hb' hx => ?_, fun g' n' cap' xb hg' hx => ?_⟩
        · by_cases hj : j = 8
          · subst hj; simp [pv30] at hu
          · exact hJ.pure j v u (by simpa [updV, hj] using hv) hu
        · obtain ⟨b', h1, h2, h3, h4⟩ := hJ.lit v (by simpa [updV] using hv)
          exact ⟨b', h1, h2, Nat.lt_of_lt_of_le h3 hg.size, fun h => by simp [updV] at h⟩
        · simp only [updV, if_true, Option.some.injEq] at hv
          refine ⟨g, cap, hv.symm, ?_, ?_, fun hn => hv ▸ how hn⟩
          · rcases hgb with rfl | ⟨rfl, _⟩ <;> omega
          · have := hg.size
            rcases hgb with rfl | ⟨rfl, _⟩ <;> omega
        · obtain ⟨kv, hk, _⟩ := hJ.agg v (by simpa [updV] using hv)
          rw [hvn] at hk; cases hk
        · obtain ⟨xb, c0, c1, h1, h2, h3, h4, h5⟩ := hJ.box v (by simpa [updV] using hv)
          have hne : b ≠ xb := hJ.ne1 b xb hv0 (by rw [← h1]; simpa [updV] using hv)
          refine ⟨xb, c0, c1, h1, h2, Nat.lt_of_lt_of_le h3 hg.size, (hg.block xb h3 (by simp; omega)).trans h4, fun u kv hu hk => ?_⟩
          obtain ⟨⟨kv', hk'⟩, _⟩ := hJ.late u (by simpa [updV] using hu)
          rw [hvn] at hk'; cases hk'
        · obtain ⟨⟨kv', hk'⟩, _⟩ := hJ.late u (by simpa [updV] using hu)
          rw [hvn] at hk'; cases hk'
        · exact hJ.ne1 b' xb (by simpa [updV] using hb') (by simpa [updV] using hx)
        · simp only [updV, if_true, Option.some.injEq, Value.slice.injEq, Addr.mk.injEq, and_true] at hg'
          have hx' : vals 10 = some (.pointer (some ⟨xb, 0, none⟩)) := by simpa [updV] using hx
          obtain ⟨xb', _, _, h1, _, h3, _⟩ := hJ.box _ hx'
          simp only [Value.pointer.injEq, Option.some.injEq, Addr.mk.injEq, and_true] at h1
          have hne : b ≠ xb := hJ.ne1 b xb hv0 hx'
          obtain ⟨rfl, _⟩ := hg'
          rcases hgb with rfl | ⟨rfl, _⟩ <;> omega
    | 9, ho =>
      rw [hL] at ho
      injection ho with ho
      subst ho
      obtain ⟨v0, hv0⟩ := hdep { on := 3, ground := Ground.data } (by simp) rfl
      have e0 := same 3 106 v0 _ (by rw [hL]; rfl) rfl hv0 (by decide)
      obtain ⟨v1, hv1⟩ := hdep { on := 8, ground := Ground.data } (by simp) rfl
      have e1 := same 8 111 v1 _ (by rw [hL]; rfl) rfl hv1 (by decide)
      rw [hJ.pure 3 v0 _ hv0 rfl] at e0
      obtain ⟨g, cap, rfl, hg1, hg2, hg3⟩ := hJ.kids v1 hv1
      refine ⟨.agg #[.int .i64 m, .slice (some ⟨g, 0, none⟩) n cap], w, .inl ?_, ?_⟩
      · generalize (frameF vals 0 L a).eval = ev at e0 e1
        go_simp
      · refine ⟨hJ.b, fun j v u hv hu => ?_, fun v hv => ?_, fun v hv => ?_, fun v hv => ?_, fun v hv => ?_, fun u hu => ?_, fun b' xb hb' hx => ?_, fun g' n' cap' xb hg' hx => ?_⟩
        · by_cases hj : j = 9
          · subst hj; simp [pv30] at hu
          · exact hJ.pure j v u (by simpa [updV, hj] using hv) hu
        · obtain ⟨b', h1, h2, h3, h4⟩ := hJ.lit v (by simpa [updV] using hv)
          exact ⟨b', h1, h2, h3, fun h => h4 (by simpa [updV] using h)⟩
        · exact hJ.kids v (by simpa [updV] using hv)
        · simp only [updV, if_true, Option.some.injEq] at hv
          exact ⟨_, by simpa [updV] using hv1, hv.symm⟩
        · obtain ⟨xb, c0, c1, h1, h2, h3, h4, h5⟩ := hJ.box v (by simpa [updV] using hv)
          exact ⟨xb, c0, c1, h1, h2, h3, h4, fun u kv hu hk => h5 u kv (by simpa [updV] using hu) (by simpa [updV] using hk)⟩
        · simpa [updV] using hJ.late u (by simpa [updV] using hu)
        · exact hJ.ne1 b' xb (by simpa [updV] using hb') (by simpa [updV] using hx)
        · exact hJ.ne2 g' n' cap' xb (by simpa [updV] using hg') (by simpa [updV] using hx)
    | 10, ho =>
      rw [hL] at ho
      injection ho with ho
      subst ho
      refine ⟨.pointer (some ⟨w.heap.size, 0, none⟩), w.alloc (.cells #[.int .i64 0, .slice none 0 0] 54), .inl ?_, ?_⟩
      · generalize (frameF vals 0 L a).eval = ev
        go_simp
      · have hW := hJ.b.size
        have hold : ∀ b, b < w.heap.size → (w.alloc (.cells #[.int .i64 0, .slice none 0 0] 54)).heap[b]? = w.heap[b]? := fun b hb => (World.grownBy_alloc w _ none).block b hb (by simp)
        refine ⟨hJ.b.alloc hW _, fun j v u hv hu => ?_, fun v hv => ?_, fun v hv => ?_, fun v hv => ?_, fun v hv => ?_, fun u hu => ?_, fun b' xb hb' hx => ?_, fun g' n' cap' xb hg' hx => ?_⟩
        · by_cases hj : j = 10
          · subst hj; simp [pv30] at hu
          · exact hJ.pure j v u (by simpa [updV, hj] using hv) hu
        · obtain ⟨b', h1, h2, h3, h4⟩ := hJ.lit v (by simpa [updV] using hv)
          exact ⟨b', h1, h2, by simp; omega, fun h => (hold b' h3).trans (h4 (by simpa [updV] using h))⟩
        · obtain ⟨g, cap, rfl, h2, h3, h4⟩ := hJ.kids v (by simpa [updV] using hv)
          exact ⟨g, cap, rfl, h2, by simp; omega, fun hn => row_same (h4 hn) (hold g h3)⟩
        · obtain ⟨kv, hk, h⟩ := hJ.agg v (by simpa [updV] using hv)
          exact ⟨kv, by simpa [updV] using hk, h⟩
        · simp only [updV, if_true, Option.some.injEq] at hv
          refine ⟨w.heap.size, _, _, hv.symm, hW, by simp, heap_alloc_new _ _, fun u kv hu hk => ?_⟩
          obtain ⟨_, x, hx⟩ := hJ.late u (by simpa [updV] using hu)
          rw [hvn] at hx; cases hx
        · obtain ⟨⟨kv, hk⟩, x, hx⟩ := hJ.late u (by simpa [updV] using hu)
          rw [hvn] at hx; cases hx
        · obtain ⟨b2, h1, _, h3, _⟩ := hJ.lit _ (by simpa [updV] using hb')
          simp only [Value.slice.injEq, Option.some.injEq, Addr.mk.injEq, and_true] at h1
          simp only [updV, if_true, Option.some.injEq, Value.pointer.injEq, Addr.mk.injEq, and_true] at hx
          omega
        · obtain ⟨b2, cap2, h1, _, h3, _⟩ := hJ.kids _ (by simpa [updV] using hg')
          simp only [Value.slice.injEq, Option.some.injEq, Addr.mk.injEq, and_true] at h1
          simp only [updV, if_true, Option.some.injEq, Value.pointer.injEq, Addr.mk.injEq, and_true] at hx
          omega
    | 11, ho =>
      rw [hL] at ho
      injection ho with ho
      subst ho
      obtain ⟨v0, hv0⟩ := hdep { on := 10, ground := Ground.data } (by simp) rfl
      have e0 := same 10 18 v0 _ (by rw [hL]; rfl) rfl hv0 (by decide)
      obtain ⟨v1, hv1⟩ := hdep { on := 9, ground := Ground.data } (by simp) rfl
      have e1 := same 9 112 v1 _ (by rw [hL]; rfl) rfl hv1 (by decide)
      obtain ⟨kv, hk, rfl⟩ := hJ.agg v1 hv1
      obtain ⟨g, cap, rfl, hg1, hg2, hg3⟩ := hJ.kids kv hk
      obtain ⟨xb, c0, c1, rfl, hx1, hx2, hx3, hx4⟩ := hJ.box v0 hv0
      have hW := hJ.b.size
      have hgx : g ≠ xb := hJ.ne2 g n cap xb hk hv0
      have hold : ∀ b, b ≠ xb → ((w.setCell ⟨xb, 0, none⟩ (.int .i64 m)).setCell ⟨xb, 1, none⟩ (.slice (some ⟨g, 0, none⟩) n cap)).heap[b]? = w.heap[b]? := fun b hb => (Below.heap_setCell _ _ _ b hb).trans (Below.heap_setCell _ _ _ b hb)
      refine ⟨undef, (w.setCell ⟨xb, 0, none⟩ (.int .i64 m)).setCell ⟨xb, 1, none⟩ (.slice (some ⟨g, 0, none⟩) n cap), .inr ⟨?_, rfl⟩, ?_⟩
      · have y0 : w.cell? ⟨xb, 0, none⟩ = some c0 := by simp [World.cell?, hx3]
        have y1 : w.cell? ⟨xb, 1, none⟩ = some c1 := by simp [World.cell?, hx3]
        have z0 := frozen_of_row w xb 0 _ _ hx3
        have z1 := frozen_of_row w xb 1 _ _ hx3
        generalize (frameF vals 0 L a).eval = ev at e0 e1
        go_simp
      · refine ⟨(hJ.b.setCell (by exact hx1) _).setCell (by exact hx1) _, fun j v u hv hu => ?_, fun v hv => ?_, fun v hv => ?_, fun v hv => ?_, fun v hv => ?_, fun u hu => ?_, fun b' xb hb' hx => ?_, fun g' n' cap' xb hg' hx => ?_⟩
        · by_cases hj : j = 11
          · subst hj; simp [pv30] at hu
          · exact hJ.pure j v u (by simpa [updV, hj] using hv) hu
        · have hv' : vals 4 = some v := by simpa [updV] using hv
          obtain ⟨b', h1, h2, h3, h4⟩ := hJ.lit v hv'
          exact ⟨b', h1, h2, by simpa using h3, fun h => by rw [show updV vals 11 undef 8 = vals 8 by simp [updV], hk] at h; cases h⟩
        · have hv' : vals 8 = some v := by simpa [updV] using hv
          rw [hk] at hv'
          cases hv'
          exact ⟨g, cap, rfl, hg1, by simpa using hg2, fun hn => row_same (hg3 hn) (hold g hgx)⟩
        · obtain ⟨kv, hk, h⟩ := hJ.agg v (by simpa [updV] using hv)
          exact ⟨kv, by simpa [updV] using hk, h⟩
        · have hv' : vals 10 = some v := by simpa [updV] using hv
          rw [hv0] at hv'
          cases hv'
          refine ⟨xb, _, _, rfl, hx1, by simpa using hx2, heap_two hx3, fun u kv hu hk' => ⟨rfl, ?_⟩⟩
          rw [show updV vals 11 undef 8 = vals 8 by simp [updV], hk] at hk'
          cases hk'; rfl
        · exact ⟨⟨_, by simpa [updV] using hk⟩, _, by simpa [updV] using hv0⟩
        · exact hJ.ne1 b' xb (by simpa [updV] using hb') (by simpa [updV] using hx)
        · exact hJ.ne2 g' n' cap' xb (by simpa [updV] using hg') (by simpa [updV] using hx)
    | i + 12, ho => simp [hL] at ho

/-- A slot that is written by none that is done. -/
theorem frame_none {vals : Nat → Option Value} {t : Tmp} : ∀ {l : List Oper} {k : Nat} {a : Act}, (∀ j o, l[j]? = some o → o.dst = some t → vals (k + j) = none) → (frameF vals k l a).eval (.tmp t) = a.eval (.tmp t) := by
  intro l
  induction l with
  | nil => intro k a _; rfl
  | cons o l ih =>
    intro k a h
    unfold frameF
    rw [ih fun j o' ho hd => by rw [Nat.add_assoc, Nat.add_comm 1 j]; exact h (j + 1) o' (by simpa using ho) hd]
    cases hv : vals k with
    | none => rfl
    | some u => exact put_eval_other fun e => by have := h 0 o rfl e; rw [Nat.add_zero, hv] at this; cases this

/-- Nothing is appended to a literal that is empty. -/
theorem append_nothing {w : World} {b c : Nat} {sa : Option Addr} : (Builtin.append_ #[ 48, 48 ] 48 #[.slice (some ⟨b, 0, none⟩) 0 0, .slice sa 0 c]).run Try.prog w = .ok (.slice (some ⟨b, 0, none⟩) 0 0) w := by
  cases sa <;> go_simp

/-- Trees are copied: append to a literal that is empty. -/
theorem append_copy {w : World} {base b : Nat} {sa : Option Addr} {n c : Nat} {KL : List Tn} (hn : KL.length = n) (hsrc : 0 < n → ∃ ad, sa = some ad ∧ ∀ j u, (flatTn KL)[j]? = some u → w.cell? (ad.add j) = some u) (hone : ∀ x ∈ KL, ∃ a n c, x.2.1 = .slice a n c)
    (hb : base ≤ b) (hbw : b < w.heap.size) (hcell : w.heap[b]? = some (.cells #[] 54 (0, 0))) (hlim : n ≤ 1000) :
    ∃ g cap w', (Builtin.append_ #[ 48, 48 ] 48 #[.slice (some ⟨b, 0, none⟩) 0 0, .slice sa n c]).run Try.prog w = .ok (.slice (some ⟨g, 0, none⟩) n cap) w' ∧ w.grownBy w' (some b) ∧ (g = b ∨ (g = w.heap.size ∧ w.heap.size < w'.heap.size)) ∧
      w'.ownsRow base 54 2 (.slice (some ⟨g, 0, none⟩) n cap) n (flatTn KL) := by
  have own0 : w.ownsRow base 54 2 (.slice (some ⟨b, 0, none⟩) 0 0) 0 [] := ⟨rfl, .inr ⟨b, 0, #[], rfl, hb, hcell, Nat.le_refl _, by decide, rfl, rfl⟩⟩
  rcases Nat.eq_zero_or_pos n with h0 | h0
  · subst h0
    have hk : KL = [] := List.eq_nil_of_length_eq_zero hn
    subst hk
    exact ⟨b, 0, w, append_nothing, World.grownBy.refl w _, .inl rfl, own0⟩
  · obtain ⟨ad, rfl, hc⟩ := hsrc h0
    obtain ⟨i1, hi1, hy0, hy1, hy2⟩ := info_parts Try.infoTree
    obtain ⟨g, cap, w', hr, ho, hg, hat, hlt⟩ := run_append_lies (P := Try.prog) w 48 48 base 54 i1 _ 2 32 Try.underlying48 hi1 hy0 hy1 hy2 rfl (by omega) (.slice (some ⟨b, 0, none⟩) 0 0) 0 [] own0 ad n c (flatTn KL) (by rw [flatTn_len, hn]) hc (flatTn_one hone) h0 (by simp only [maxLen]; omega) (by omega) (by omega) w.heap.size rfl
    rw [Nat.zero_add, List.nil_append] at ho
    rw [Nat.zero_add] at hr
    refine ⟨g, cap, w', hr, hg, ?_, ho⟩
    rcases hat with e | e
    · simp only [Value.ownBlock, Option.some.injEq] at e
      exact .inl e.symm
    · exact .inr ⟨e, by omega⟩

/-- x[kp:] -/
theorem slice_low {ua : Option Addr} {n uc kp : Nat} (w : World) : (Instr.sliceAt 48 (.slice ua (kp + n) uc) (some (.int .i64 kp)) none none).run Try.prog w = .ok (sliced ua kp (kp + n) uc 2) w := by
  have h0 : (0 : Int) ≤ (kp : Int) := Int.natCast_nonneg _
  have h1 : (kp : Int) ≤ ((kp + n : Nat) : Int) := by omega
  go_simp
  intro hc
  omega
/-- x[:kp] -/
theorem slice_high {ua : Option Addr} {n uc kp : Nat} (hu : kp + n ≤ uc) (w : World) : (Instr.sliceAt 48 (.slice ua (kp + n) uc) none (some (.int .i64 kp)) none).run Try.prog w = .ok (sliced ua 0 kp uc 2) w := by
  have h0 : (0 : Int) ≤ (kp : Int) := Int.natCast_nonneg _
  have h1 : (kp : Int) ≤ (uc : Int) := by omega
  go_simp

/-- The stack of trees gets a tree in the last ones' stead. -/
noncomputable def ops31 : List Oper := findR 31 (Try.f5.body.getD .skip)

def pv31 (m kp : Nat) (tv s3 kv : Value) : Nat → Option Value
  | 1 => some tv
  | 2 => some (.int .i64 kp)
  | 3 => some s3
  | 5 => some (.agg #[.int .i64 m, kv])
  | _ => none

structure J31 (W : World) (pv : Nat → Option Value) (m kp : Nat) (kv : Value) (KL : List Tn) (vals : Nat → Option Value) (w : World) : Prop where
  b : Below W.heap.size W w
  pure : ∀ j v u, vals j = some v → pv j = some u → v = u
  lit : ∀ v, vals 0 = some v → ∃ b, v = .slice (some ⟨b, 0, none⟩) 0 0 ∧ W.heap.size ≤ b ∧ b < w.heap.size ∧ (vals 4 = none → w.heap[b]? = some (.cells #[] 54 (0, 0)))
  front : ∀ v, vals 4 = some v → ∃ g cap, v = .slice (some ⟨g, 0, none⟩) kp cap ∧ W.heap.size ≤ g ∧ g < w.heap.size ∧ (vals 7 = none → w.ownsRow W.heap.size 54 2 v kp (flatTn KL))
  one : ∀ v, vals 6 = some v → ∃ c, v = .slice (some ⟨c, 0, none⟩) 1 1 ∧ W.heap.size ≤ c ∧ c < w.heap.size ∧ w.heap[c]? = some (.cells #[.int .i64 m, kv] 54 (0, 0))
  both : ∀ v, vals 7 = some v → ∃ g cap, v = .slice (some ⟨g, 0, none⟩) (kp + 1) cap ∧ W.heap.size ≤ g ∧ g < w.heap.size ∧ w.ownsRow W.heap.size 54 2 v (kp + 1) (flatTn KL ++ [.int .i64 m, kv])
  late : ∀ u, vals 7 = some u → (∃ v, vals 4 = some v) ∧ ∃ v, vals 6 = some v
  fin : ∀ u, vals 8 = some u → vals 7 = some u ∧ ∀ i, i < 8 → ∃ v, vals i = some v
  ne1 : ∀ b c, vals 0 = some (.slice (some ⟨b, 0, none⟩) 0 0) → vals 6 = some (.slice (some ⟨c, 0, none⟩) 1 1) → b ≠ c
  ne2 : ∀ g cap c, vals 4 = some (.slice (some ⟨g, 0, none⟩) kp cap) → vals 6 = some (.slice (some ⟨c, 0, none⟩) 1 1) → g ≠ c

theorem J31.read {W : World} {pv : Nat → Option Value} {m kp : Nat} {kv : Value} {KL : List Tn} {vals : Nat → Option Value} {w : World} (h : J31 W pv m kp kv KL vals w) {i : Nat} {u : Value} (hp : pv i = some u) (hn : vals i = none) (hi : i < 8) (h0 : i ≠ 0) (h4 : i ≠ 4) (h6 : i ≠ 6) (h7 : i ≠ 7) : J31 W pv m kp kv KL (updV vals i u) w := by
  have e : ∀ j, j ≠ i → updV vals i u j = vals j := fun j hj => by simp [updV, hj]
  refine ⟨h.b, fun j v u' hv hu => ?_, ?_, ?_, ?_, ?_, ?_, ?_, ?_, ?_⟩
  · by_cases hj : j = i
    · subst hj
      rw [hp] at hu
      simp only [updV, if_true, Option.some.injEq] at hv hu
      rw [← hv, hu]
    · rw [e j hj] at hv
      exact h.pure j v u' hv hu
  · rw [e 0 h0.symm, e 4 h4.symm]; exact h.lit
  · rw [e 4 h4.symm, e 7 h7.symm]; exact h.front
  · rw [e 6 h6.symm]; exact h.one
  · rw [e 7 h7.symm]; exact h.both
  · rw [e 7 h7.symm, e 4 h4.symm, e 6 h6.symm]; exact h.late
  · rw [e 8 (by omega)]
    intro u' hu
    obtain ⟨v, hv⟩ := (h.fin u' hu).2 i hi
    rw [hn] at hv; cases hv
  · rw [e 0 h0.symm, e 6 h6.symm]; exact h.ne1
  · rw [e 4 h4.symm, e 6 h6.symm]; exact h.ne2

set_option maxRecDepth 100000 in
set_option maxHeartbeats 3200000 in
theorem reg31 {a : Act} {W : World} {Q : Exit → Act → World → Prop} {xb m kp kg kn kc : Nat} {tv s3 : Value} {KL : List Tn} (hsz : a.tmps.size = 144) (h18 : a.eval (.tmp 18) = .pointer (some ⟨xb, 0, none⟩)) (h11 : a.eval (.tmp 11) = tv) (h17 : a.eval (.tmp 17) = .int .i64 kp)
    (x1 : W.cell? ⟨xb, 0, none⟩ = some (.int .i64 m)) (x2 : W.cell? ⟨xb, 1, none⟩ = some (.slice (some ⟨kg, 0, none⟩) kn kc)) (hkp : kp ≤ 1000) (hs3 : ∀ w, (Instr.sliceAt 48 tv none (some (.int .i64 kp)) none).run Try.prog w = .ok s3 w)
    (happ : ∀ (w : World) (b : Nat), Below W.heap.size W w → W.heap.size ≤ b → b < w.heap.size → w.heap[b]? = some (.cells #[] 54 (0, 0)) → ∃ g cap w', (Builtin.append_ #[ 48, 48 ] 48 #[.slice (some ⟨b, 0, none⟩) 0 0, s3]).run Try.prog w = .ok (.slice (some ⟨g, 0, none⟩) kp cap) w' ∧ w.grownBy w' (some b) ∧ (g = b ∨ (g = w.heap.size ∧ w.heap.size < w'.heap.size)) ∧ w'.ownsRow W.heap.size 54 2 (.slice (some ⟨g, 0, none⟩) kp cap) kp (flatTn KL))
    (hQ : ∀ (vals : Nat → Option Value) (w : World), J31 W (pv31 m kp tv s3 (.slice (some ⟨kg, 0, none⟩) kn kc)) m kp (.slice (some ⟨kg, 0, none⟩) kn kc) KL vals w → (∀ i, i < 9 → ∃ v, vals i = some v) → Q .normal (frameF vals 0 ops31 a) w) : (Code.region 31 ops31.toArray true).wp Try.prog Q a W := by
  obtain ⟨L, hL⟩ : ∃ L, L = ops31 := ⟨_, rfl⟩
  rw [← hL] at hQ ⊢
  simp only [ops31, Try.f5, Option.getD_some, findR, Nat.reduceBEq, cond_true, cond_false, List.nil_append, List.append_nil] at hL
  have hL' : ∀ o ∈ L, o.dst ≠ some 18 ∧ o.dst ≠ some 17 := by simp [hL]
  have hL11 : ∀ j o, L[j]? = some o → o.dst = some 11 → j = 8 := by
    intro j o ho hd
    rw [hL] at ho
    match j, ho with
    | 0, ho | 1, ho | 2, ho | 3, ho | 4, ho | 5, ho | 6, ho | 7, ho => injection ho with ho; subst ho; simp at hd
    | 8, ho => rfl
    | j + 9, ho => simp at ho
  refine wp_region_joint (J31 W (pv31 m kp tv s3 (.slice (some ⟨kg, 0, none⟩) kn kc)) m kp (.slice (some ⟨kg, 0, none⟩) kn kc) KL) (by kernel_rfl) (by rw [hL]; kernel_rfl) (by rw [hL]; kernel_rfl) (by rw [hL]; kernel_rfl) ?_ ?_ (fun vals w hJ hall => hQ vals w hJ (by rw [hL] at hall; exact hall))
  · exact ⟨(Below.refl _ _).drew, fun _ _ _ h => (by cases h), fun _ h => (by cases h), fun _ h => (by cases h), fun _ h => (by cases h), fun _ h => (by cases h), fun _ h => (by cases h), fun _ h => (by cases h), fun _ _ h => (by cases h), fun _ _ _ h => (by cases h)⟩
  · intro i o ho vals w hJ hvn hdep
    have same : ∀ (j : Nat) (t : Tmp) (v : Value) (oj : Oper), L[j]? = some oj → oj.dst = some t → vals j = some v → t < 144 → (frameF vals 0 L a).eval (.tmp t) = v := fun j t v oj h1 h2 h3 h4 => frame_same (by rw [hL]; kernel_rfl) h1 h2 (by rw [Nat.zero_add]; exact h3) (by rw [hsz]; exact h4)
    have other : ∀ t, (∀ o ∈ L, o.dst ≠ some t) → (frameF vals 0 L a).eval (.tmp t) = a.eval (.tmp t) := fun t h => frame_other h
    have hW := hJ.b.size
    have n8 : i < 8 → vals 8 = none := fun hi => by
      cases h8 : vals 8 with
      | none => rfl
      | some u =>
        obtain ⟨v, hv⟩ := (hJ.fin u h8).2 i hi
        rw [hvn] at hv; cases hv
    match i, ho with
    | 0, ho =>
      rw [hL] at ho
      injection ho with ho
      subst ho
      refine ⟨.slice (some ⟨w.heap.size, 0, none⟩) 0 0, w.alloc (.cells #[] 54), .inl ?_, ?_⟩
      · generalize (frameF vals 0 L a).eval = ev
        go_simp
      · have hold : ∀ b, b < w.heap.size → (w.alloc (.cells #[] 54)).heap[b]? = w.heap[b]? := fun b hb => (World.grownBy_alloc w _ none).block b hb (by simp)
        refine ⟨hJ.b.alloc hW _, fun j v u hv hu => ?_, fun v hv => ?_, fun v hv => ?_, fun v hv => ?_, fun v hv => ?_, fun u hu => ?_, fun u hu => ?_, fun b' c' hb' hc' => ?_, fun g' cap' c' hg' hc' => ?_⟩
        · by_cases hj : j = 0
          · subst hj; simp [pv31] at hu
          · exact hJ.pure j v u (by simpa [updV, hj] using hv) hu
        · simp only [updV, if_true, Option.some.injEq] at hv
          exact ⟨w.heap.size, hv.symm, hW, by simp, fun _ => heap_alloc_new _ _⟩
        · obtain ⟨g, cap, rfl, h2, h3, h4⟩ := hJ.front v (by simpa [updV] using hv)
          exact ⟨g, cap, rfl, h2, by simp; omega, fun h7 => row_same (h4 (by simpa [updV] using h7)) (hold g h3)⟩
        · obtain ⟨c, rfl, h2, h3, h4⟩ := hJ.one v (by simpa [updV] using hv)
          exact ⟨c, rfl, h2, by simp; omega, (hold c h3).trans h4⟩
        · obtain ⟨g, cap, rfl, h2, h3, h4⟩ := hJ.both v (by simpa [updV] using hv)
          exact ⟨g, cap, rfl, h2, by simp; omega, row_same h4 (hold g h3)⟩
        · simpa [updV] using hJ.late u (by simpa [updV] using hu)
        · have h8 : vals 8 = some u := by simpa [updV] using hu
          rw [n8 (by decide)] at h8; cases h8
        · simp only [updV, if_true, Option.some.injEq, Value.slice.injEq, Addr.mk.injEq, and_true] at hb'
          obtain ⟨c, h1, _, h3, _⟩ := hJ.one _ (by simpa [updV] using hc')
          simp only [Value.slice.injEq, Option.some.injEq, Addr.mk.injEq, and_true] at h1
          omega
        · exact hJ.ne2 g' cap' c' (by simpa [updV] using hg') (by simpa [updV] using hc')
    | 1, ho =>
      rw [hL] at ho
      injection ho with ho
      subst ho
      have e0 := (frame_none (l := L) (k := 0) (a := a) (vals := vals) (t := 11) fun j o ho hd => by rw [hL11 j o ho hd]; exact n8 (by decide)).trans h11
      refine ⟨tv, w, .inl ?_, hJ.read (i := 1) rfl hvn (by decide) (by decide) (by decide) (by decide) (by decide)⟩
      generalize (frameF vals 0 L a).eval = ev at e0
      go_simp
    | 2, ho =>
      rw [hL] at ho
      injection ho with ho
      subst ho
      have e0 := (other 17 fun o h => (hL' o h).2).trans h17
      refine ⟨.int .i64 kp, w, .inl ?_, hJ.read (i := 2) rfl hvn (by decide) (by decide) (by decide) (by decide) (by decide)⟩
      generalize (frameF vals 0 L a).eval = ev at e0
      go_simp
    | 3, ho =>
      rw [hL] at ho
      injection ho with ho
      subst ho
      obtain ⟨v0, hv0⟩ := hdep { on := 1, ground := Ground.data } (by simp) rfl
      have e0 := same 1 114 v0 _ (by rw [hL]; rfl) rfl hv0 (by decide)
      obtain ⟨v1, hv1⟩ := hdep { on := 2, ground := Ground.data } (by simp) rfl
      have e1 := same 2 115 v1 _ (by rw [hL]; rfl) rfl hv1 (by decide)
      rw [hJ.pure 1 v0 _ hv0 rfl] at e0
      rw [hJ.pure 2 v1 _ hv1 rfl] at e1
      have hrun := hs3 w
      refine ⟨s3, w, .inl ?_, hJ.read (i := 3) rfl hvn (by decide) (by decide) (by decide) (by decide) (by decide)⟩
      generalize (frameF vals 0 L a).eval = ev at e0 e1
      simp [execOp, e0, e1, hrun, Result.andThen]
    | 4, ho =>
      rw [hL] at ho
      injection ho with ho
      subst ho
      obtain ⟨v0, hv0⟩ := hdep { on := 0, ground := Ground.data } (by simp) rfl
      have e0 := same 0 113 v0 _ (by rw [hL]; rfl) rfl hv0 (by decide)
      obtain ⟨v1, hv1⟩ := hdep { on := 3, ground := Ground.data } (by simp) rfl
      have e1 := same 3 116 v1 _ (by rw [hL]; rfl) rfl hv1 (by decide)
      rw [hJ.pure 3 v1 _ hv1 rfl] at e1
      obtain ⟨b, hb, hb1, hb2, hb3⟩ := hJ.lit v0 hv0
      rw [hb] at e0
      rw [hb] at hv0
      obtain ⟨g, cap, w', hrun, hg, hgb, how⟩ := happ w b hJ.b hb1 hb2 (hb3 hvn)
      have n7 : vals 7 = none := by
        cases h7 : vals 7 with
        | none => rfl
        | some u =>
          obtain ⟨⟨v, hv⟩, _⟩ := hJ.late u h7
          rw [hvn] at hv; cases hv
      refine ⟨.slice (some ⟨g, 0, none⟩) kp cap, w', .inl ?_, ?_⟩
      · generalize (frameF vals 0 L a).eval = ev at e0 e1
        simp only [execOp, resolve, invoke, builtin, Sem.run_bind, Sem.run_pure, Result.andThen_ok, List.map_toArray, List.map_cons, List.map_nil, e0, e1, hrun]
      · refine ⟨hJ.b.grown hg hW (fun k hk => by cases hk; exact hb1), fun j v u hv hu => ?_, fun v hv => ?_, fun v hv => ?_, fun v hv => ?_, fun v hv => ?_, fun u hu => ?_, fun u hu => ?_, fun b' c' hb' hc' => ?_, fun g' cap' c' hg' hc' => ?_⟩
        · by_cases hj : j = 4
          · subst hj; simp [pv31] at hu
          · exact hJ.pure j v u (by simpa [updV, hj] using hv) hu
        · obtain ⟨b', h1, h2, h3, h4⟩ := hJ.lit v (by simpa [updV] using hv)
          exact ⟨b', h1, h2, Nat.lt_of_lt_of_le h3 hg.size, fun h => by simp [updV] at h⟩
        · simp only [updV, if_true, Option.some.injEq] at hv
          refine ⟨g, cap, hv.symm, ?_, ?_, fun _ => hv ▸ how⟩
          · rcases hgb with rfl | ⟨rfl, _⟩ <;> omega
          · have := hg.size
            rcases hgb with rfl | ⟨rfl, _⟩ <;> omega
        · have hv' : vals 6 = some v := by simpa [updV] using hv
          obtain ⟨c, rfl, h2, h3, h4⟩ := hJ.one v hv'
          have hne : b ≠ c := hJ.ne1 b c hv0 hv'
          exact ⟨c, rfl, h2, Nat.lt_of_lt_of_le h3 hg.size, (hg.block c h3 (by simp; omega)).trans h4⟩
        · have h7 : vals 7 = some v := by simpa [updV] using hv
          rw [n7] at h7; cases h7
        · have h7 : vals 7 = some u := by simpa [updV] using hu
          rw [n7] at h7; cases h7
        · have h8 : vals 8 = some u := by simpa [updV] using hu
          rw [n8 (by decide)] at h8; cases h8
        · exact hJ.ne1 b' c' (by simpa [updV] using hb') (by simpa [updV] using hc')
        · simp only [updV, if_true, Option.some.injEq, Value.slice.injEq, Addr.mk.injEq, and_true, true_and] at hg'
          have hc2 : vals 6 = some (.slice (some ⟨c', 0, none⟩) 1 1) := by simpa [updV] using hc'
          obtain ⟨c, h1, _, h3, _⟩ := hJ.one _ hc2
          simp only [Value.slice.injEq, Option.some.injEq, Addr.mk.injEq, and_true] at h1
          have hne : b ≠ c' := hJ.ne1 b c' hv0 hc2
          obtain ⟨rfl, _⟩ := hg'
          rcases hgb with rfl | ⟨rfl, _⟩ <;> omega
    | 5, ho =>
      rw [hL] at ho
      injection ho with ho
      subst ho
      have e0 := (other 18 fun o h => (hL' o h).1).trans h18
      have k1 := (hJ.b.cell (p := ⟨xb, 0, none⟩) (World.block_lt_of_cell? W _ x1)).trans x1
      have k2 := (hJ.b.cell (p := ⟨xb, 1, none⟩) (World.block_lt_of_cell? W _ x2)).trans x2
      refine ⟨.agg #[.int .i64 m, .slice (some ⟨kg, 0, none⟩) kn kc], w, .inl ?_, hJ.read (i := 5) rfl hvn (by decide) (by decide) (by decide) (by decide) (by decide)⟩
      generalize (frameF vals 0 L a).eval = ev at e0
      go_simp
    | 6, ho =>
      rw [hL] at ho
      injection ho with ho
      subst ho
      obtain ⟨v0, hv0⟩ := hdep { on := 5, ground := Ground.data } (by simp) rfl
      have e0 := same 5 118 v0 _ (by rw [hL]; rfl) rfl hv0 (by decide)
      rw [hJ.pure 5 v0 _ hv0 rfl] at e0
      have n7 : vals 7 = none := by
        cases h7 : vals 7 with
        | none => rfl
        | some u =>
          obtain ⟨_, v, hv⟩ := hJ.late u h7
          rw [hvn] at hv; cases hv
      refine ⟨.slice (some ⟨w.heap.size, 0, none⟩) 1 1, w.alloc (.cells #[.int .i64 m, .slice (some ⟨kg, 0, none⟩) kn kc] 54), .inl ?_, ?_⟩
      · generalize (frameF vals 0 L a).eval = ev at e0
        clear hQ happ hs3 hdep n7 n8 hL hL' hL11 same other hvn hv0 hJ hW x1 x2 h18 h11 h17 hsz hkp ho
        obtain ⟨i1, hi1, hy0, hy1, hy2⟩ := info_parts Try.infoTree
        have hb := run_buildSlice (P := Try.prog) w 48 54 1 #[(0, .agg #[.int .i64 m, .slice (some ⟨kg, 0, none⟩) kn kc])] #[.int .i64 m, .slice (some ⟨kg, 0, none⟩) kn kc] i1 _ Try.underlying48 hi1 hy0 (by rw [hy1]; omega) (by rw [hy1]; omega) (by rw [hy1]; kernel_rfl)
        simp only [execOp, Sem.run_bind, Sem.run_pure, Result.andThen_ok, List.map_toArray, List.map_cons, List.map_nil, e0, hb]
      · have hold : ∀ b, b < w.heap.size → (w.alloc (.cells #[.int .i64 m, .slice (some ⟨kg, 0, none⟩) kn kc] 54)).heap[b]? = w.heap[b]? := fun b hb => (World.grownBy_alloc w _ none).block b hb (by simp)
        refine ⟨hJ.b.alloc hW _, fun j v u hv hu => ?_, fun v hv => ?_, fun v hv => ?_, fun v hv => ?_, fun v hv => ?_, fun u hu => ?_, fun u hu => ?_, fun b' c' hb' hc' => ?_, fun g' cap' c' hg' hc' => ?_⟩
        · by_cases hj : j = 6
          · subst hj; simp [pv31] at hu
          · exact hJ.pure j v u (by simpa [updV, hj] using hv) hu
        · obtain ⟨b', h1, h2, h3, h4⟩ := hJ.lit v (by simpa [updV] using hv)
          exact ⟨b', h1, h2, by simp; omega, fun h => (hold b' h3).trans (h4 (by simpa [updV] using h))⟩
        · obtain ⟨g, cap, rfl, h2, h3, h4⟩ := hJ.front v (by simpa [updV] using hv)
          exact ⟨g, cap, rfl, h2, by simp; omega, fun h7 => row_same (h4 (by simpa [updV] using h7)) (hold g h3)⟩
        · simp only [updV, if_true, Option.some.injEq] at hv
          exact ⟨w.heap.size, hv.symm, hW, by simp, heap_alloc_new _ _⟩
        · have h7 : vals 7 = some v := by simpa [updV] using hv
          rw [n7] at h7; cases h7
        · have h7 : vals 7 = some u := by simpa [updV] using hu
          rw [n7] at h7; cases h7
        · have h8 : vals 8 = some u := by simpa [updV] using hu
          rw [n8 (by decide)] at h8; cases h8
        · obtain ⟨b2, h1, _, h3, _⟩ := hJ.lit _ (by simpa [updV] using hb')
          simp only [Value.slice.injEq, Option.some.injEq, Addr.mk.injEq, and_true] at h1
          simp only [updV, if_true, Option.some.injEq, Value.slice.injEq, Addr.mk.injEq, and_true] at hc'
          omega
        · obtain ⟨b2, cap2, h1, _, h3, _⟩ := hJ.front _ (by simpa [updV] using hg')
          simp only [Value.slice.injEq, Option.some.injEq, Addr.mk.injEq, and_true, true_and] at h1
          simp only [updV, if_true, Option.some.injEq, Value.slice.injEq, Addr.mk.injEq, and_true] at hc'
          omega
    | 7, ho =>
      rw [hL] at ho
      injection ho with ho
      subst ho
      obtain ⟨v0, hv0⟩ := hdep { on := 4, ground := Ground.data } (by simp) rfl
      have e0 := same 4 117 v0 _ (by rw [hL]; rfl) rfl hv0 (by decide)
      obtain ⟨v1, hv1⟩ := hdep { on := 6, ground := Ground.data } (by simp) rfl
      have e1 := same 6 119 v1 _ (by rw [hL]; rfl) rfl hv1 (by decide)
      obtain ⟨g, cap, rfl, hg1, hg2, hg3⟩ := hJ.front v0 hv0
      obtain ⟨c, rfl, hc1, hc2, hc3⟩ := hJ.one v1 hv1
      have hne : g ≠ c := hJ.ne2 g cap c hv0 hv1
      have own := hg3 hvn
      obtain ⟨i1, hi1, hy0, hy1, hy2⟩ := info_parts Try.infoTree
      obtain ⟨g2, cap2, w', hrun, ho2, hgr, hat, hlt⟩ := run_append_lies (P := Try.prog) w 48 48 W.heap.size 54 i1 _ 2 32 Try.underlying48 hi1 hy0 hy1 hy2 rfl (by omega) (.slice (some ⟨g, 0, none⟩) kp cap) kp (flatTn KL) own ⟨c, 0, none⟩ 1 1 [.int .i64 m, .slice (some ⟨kg, 0, none⟩) kn kc] rfl (World.news_of_block (cs := #[.int .i64 m, .slice (some ⟨kg, 0, none⟩) kn kc]) (t := 54) (fr := (0, 0)) hc3) (by simp [Value.oneCell']) (by omega) (by simp only [maxLen]; omega) (by omega) hW w.heap.size rfl
      refine ⟨.slice (some ⟨g2, 0, none⟩) (kp + 1) cap2, w', .inl ?_, ?_⟩
      · generalize (frameF vals 0 L a).eval = ev at e0 e1
        simp only [execOp, resolve, invoke, builtin, Sem.run_bind, Sem.run_pure, Result.andThen_ok, List.map_toArray, List.map_cons, List.map_nil, e0, e1, hrun]
      · refine ⟨hJ.b.grown hgr hW (fun k hk => by cases hk; exact hg1), fun j v u hv hu => ?_, fun v hv => ?_, fun v hv => ?_, fun v hv => ?_, fun v hv => ?_, fun u hu => ?_, fun u hu => ?_, fun b' c' hb' hc' => ?_, fun g' cap' c' hg' hc' => ?_⟩
        · by_cases hj : j = 7
          · subst hj; simp [pv31] at hu
          · exact hJ.pure j v u (by simpa [updV, hj] using hv) hu
        · obtain ⟨b', h1, h2, h3, h4⟩ := hJ.lit v (by simpa [updV] using hv)
          exact ⟨b', h1, h2, Nat.lt_of_lt_of_le h3 hgr.size, fun h => by rw [show updV vals 7 (.slice (some ⟨g2, 0, none⟩) (kp + 1) cap2) 4 = vals 4 by simp [updV], hv0] at h; cases h⟩
        · obtain ⟨g', cap', rfl, h2, h3, h4⟩ := hJ.front v (by simpa [updV] using hv)
          exact ⟨g', cap', rfl, h2, Nat.lt_of_lt_of_le h3 hgr.size, fun h7 => by simp [updV] at h7⟩
        · have hv' : vals 6 = some v := by simpa [updV] using hv
          rw [hv1] at hv'
          cases hv'
          exact ⟨c, rfl, hc1, Nat.lt_of_lt_of_le hc2 hgr.size, (hgr.block c hc2 (by simp [Value.ownBlock]; omega)).trans hc3⟩
        · simp only [updV, if_true, Option.some.injEq] at hv
          refine ⟨g2, cap2, hv.symm, ?_, hlt, hv ▸ ho2⟩
          rcases hat with e | e
          · simp only [Value.ownBlock, Option.some.injEq] at e
            omega
          · omega
        · exact ⟨⟨_, by simpa [updV] using hv0⟩, _, by simpa [updV] using hv1⟩
        · have h8 : vals 8 = some u := by simpa [updV] using hu
          rw [n8 (by decide)] at h8; cases h8
        · exact hJ.ne1 b' c' (by simpa [updV] using hb') (by simpa [updV] using hc')
        · exact hJ.ne2 g' cap' c' (by simpa [updV] using hg') (by simpa [updV] using hc')
    | 8, ho =>
      rw [hL] at ho
      injection ho with ho
      subst ho
      obtain ⟨v0, hv0⟩ := hdep { on := 7, ground := Ground.data } (by simp) rfl
      have e0 := same 7 120 v0 _ (by rw [hL]; rfl) rfl hv0 (by decide)
      have hall : ∀ i, i < 8 → ∃ v, vals i = some v := fun i hi => hdep { on := i, ground := Ground.phase } (by
        match i, hi with
        | 0, _ | 1, _ | 2, _ | 3, _ | 4, _ | 5, _ | 6, _ | 7, _ => simp
        | i + 8, hi => omega) rfl
      refine ⟨v0, w, .inl ?_, ?_⟩
      · generalize (frameF vals 0 L a).eval = ev at e0
        go_simp
      · refine ⟨hJ.b, fun j v u hv hu => ?_, fun v hv => ?_, fun v hv => ?_, fun v hv => ?_, fun v hv => ?_, fun u hu => ?_, fun u hu => ?_, fun b' c' hb' hc' => ?_, fun g' cap' c' hg' hc' => ?_⟩
        · by_cases hj : j = 8
          · subst hj; simp [pv31] at hu
          · exact hJ.pure j v u (by simpa [updV, hj] using hv) hu
        · obtain ⟨b', h1, h2, h3, h4⟩ := hJ.lit v (by simpa [updV] using hv)
          exact ⟨b', h1, h2, h3, fun h => h4 (by simpa [updV] using h)⟩
        · obtain ⟨g, cap, rfl, h2, h3, h4⟩ := hJ.front v (by simpa [updV] using hv)
          exact ⟨g, cap, rfl, h2, h3, fun h7 => h4 (by simpa [updV] using h7)⟩
        · exact hJ.one v (by simpa [updV] using hv)
        · exact hJ.both v (by simpa [updV] using hv)
        · simpa [updV] using hJ.late u (by simpa [updV] using hu)
        · simp only [updV, if_true, Option.some.injEq] at hu
          subst hu
          refine ⟨by simpa [updV] using hv0, fun i hi => ?_⟩
          obtain ⟨v, hv⟩ := hall i hi
          exact ⟨v, by simp [updV, show i ≠ 8 by omega, hv]⟩
        · exact hJ.ne1 b' c' (by simpa [updV] using hb') (by simpa [updV] using hc')
        · exact hJ.ne2 g' cap' c' (by simpa [updV] using hg') (by simpa [updV] using hc')
    | i + 9, ho => simp [hL] at ho

end Go.Proofs.Ytmnechdmgmbpeaa
