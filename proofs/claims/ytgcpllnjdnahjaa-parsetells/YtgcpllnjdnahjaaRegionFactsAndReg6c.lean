import Derived.Test.YtgcpllnjdnahjaaHeldTail
import Derived.Test.YtgcpllnjdnahjaaFlat6AndParseMem6
import Derived.RegionTactic
import Derived.Great.BuildSlice
import Derived.Deep.AppendLies
import Derived.Deep.Onto
/- A region that draws its order, each operation shown ONCE, whatever was done ahead of it: what is known of each operation's value stays true while others are done. No program. -/
namespace Go.Proofs.Ytgcpllnjdnahjaa

/-- The frame, with what the operations that are done have yielded. -/
def frameF (vals : Nat → Option Value) : Nat → List Oper → Act → Act
  | _, [], a => a
  | k, o :: l, a => frameF vals (k + 1) l (match vals k with | some v => a.put o.dst v | none => a)

theorem put_comm {a : Act} {d d' : Option Tmp} {v v' : Value} (h : d = none ∨ d' = none ∨ d ≠ d') : (a.put d v).put d' v' = (a.put d' v').put d v := by
  cases d with
  | none => rfl
  | some d =>
    cases d' with
    | none => rfl
    | some d' =>
      have hne : d ≠ d' := fun e => by
        rcases h with h | h | h
        · cases h
        · cases h
        · exact h (by rw [e])
      show Act.mk _ _ = Act.mk _ _
      congr 1
      exact Array.setIfInBounds_comm _ _ hne

theorem frame_put {vals : Nat → Option Value} {d : Option Tmp} {v : Value} : ∀ {l : List Oper} {k : Nat} {a : Act}, (∀ o ∈ l, d = none ∨ o.dst = none ∨ o.dst ≠ d) → frameF vals k l (a.put d v) = (frameF vals k l a).put d v := by
  intro l
  induction l with
  | nil => intro k a _; rfl
  | cons o l ih =>
    intro k a h
    unfold frameF
    cases hv : vals k with
    | none => exact ih fun o ho => h o (by simp [ho])
    | some u =>
      simp only
      have h0 := h o (by simp)
      rw [put_comm (show d = none ∨ o.dst = none ∨ d ≠ o.dst by rcases h0 with h | h | h; exact .inl h; exact .inr (.inl h); exact .inr (.inr fun e => h e.symm))]
      exact ih fun o ho => h o (by simp [ho])

def updV (vals : Nat → Option Value) (i : Nat) (v : Value) : Nat → Option Value := fun j => if j = i then some v else vals j

theorem frame_congr {vals vals' : Nat → Option Value} : ∀ {l : List Oper} {k : Nat} {a : Act}, (∀ j, k ≤ j → vals j = vals' j) → frameF vals k l a = frameF vals' k l a := by
  intro l
  induction l with
  | nil => intro k a _; rfl
  | cons o l ih =>
    intro k a h
    unfold frameF
    rw [h k (Nat.le_refl _)]
    exact ih fun j hj => h j (by omega)

/-- No two operations write one slot. -/
def apartB (l : List Oper) : Bool := match l with
  | [] => true
  | o :: l => (l.all fun o' => o.dst.isNone || o'.dst.isNone || o'.dst != o.dst) && apartB l

theorem frame_upd {vals : Nat → Option Value} {i : Nat} {v : Value} : ∀ {l : List Oper} {k : Nat} {a : Act} {o : Oper}, apartB l = true → l[i - k]? = some o → k ≤ i → vals i = none → frameF (updV vals i v) k l a = (frameF vals k l a).put o.dst v := by
  intro l
  induction l with
  | nil => intro k a o _ h; simp at h
  | cons o' l ih =>
    intro k a o hA h hk hn
    simp only [apartB, Bool.and_eq_true, List.all_eq_true] at hA
    by_cases hik : i = k
    · subst hik
      simp only [Nat.sub_self, List.getElem?_cons_zero, Option.some.injEq] at h
      subst h
      unfold frameF
      have e1 : updV vals i v i = some v := by simp [updV]
      rw [e1, hn]
      simp only
      rw [frame_congr (vals := updV vals i v) (vals' := vals) fun j hj => by simp [updV, show j ≠ i by omega]]
      refine frame_put fun o ho => ?_
      have := hA.1 o ho
      simp only [Bool.or_eq_true, Option.isNone_iff_eq_none, bne_iff_ne] at this
      rcases this with (h | h) | h
      · exact .inl h
      · exact .inr (.inl h)
      · exact .inr (.inr h)
    · have e : i - k = (i - (k + 1)) + 1 := by omega
      rw [e, List.getElem?_cons_succ] at h
      unfold frameF
      have e1 : updV vals i v k = vals k := by simp [updV, show k ≠ i from fun e => hik e.symm]
      rw [e1]
      exact ih hA.2 h (by omega) hn

theorem put_eval_same {a : Act} {t : Tmp} {v : Value} (ht : t < a.tmps.size) : (a.put (some t) v).eval (.tmp t) = v := by simp [Act.put, Act.eval, Array.getD, ht]
theorem put_eval_other {a : Act} {d : Option Tmp} {t : Tmp} {v : Value} (h : d ≠ some t) : (a.put d v).eval (.tmp t) = a.eval (.tmp t) := by
  cases d with
  | none => rfl
  | some d =>
    have hne : d ≠ t := fun e => h (by rw [e])
    simp [Act.put, Act.eval, Array.getD_eq_getD_getElem?, Array.getElem?_setIfInBounds_ne hne]
theorem put_size {a : Act} {d : Option Tmp} {v : Value} : (a.put d v).tmps.size = a.tmps.size := by cases d <;> simp [Act.put]

theorem frame_other {vals : Nat → Option Value} {t : Tmp} : ∀ {l : List Oper} {k : Nat} {a : Act}, (∀ o ∈ l, o.dst ≠ some t) → (frameF vals k l a).eval (.tmp t) = a.eval (.tmp t) := by
  intro l
  induction l with
  | nil => intro k a _; rfl
  | cons o l ih =>
    intro k a h
    unfold frameF
    rw [ih fun o ho => h o (by simp [ho])]
    cases vals k with
    | none => rfl
    | some v => exact put_eval_other (h o (by simp))

/-- What an operation that is done has yielded lies in its slot. -/
theorem frame_same {vals : Nat → Option Value} {t : Tmp} {v : Value} : ∀ {l : List Oper} {k : Nat} {a : Act} {j : Nat} {o : Oper}, apartB l = true → l[j]? = some o → o.dst = some t → vals (k + j) = some v → t < a.tmps.size → (frameF vals k l a).eval (.tmp t) = v := by
  intro l
  induction l with
  | nil => intro k a j o _ h; simp at h
  | cons o' l ih =>
    intro k a j o hA h hd hv ht
    simp only [apartB, Bool.and_eq_true, List.all_eq_true] at hA
    unfold frameF
    cases j with
    | zero =>
      simp only [List.getElem?_cons_zero, Option.some.injEq] at h
      subst h
      rw [Nat.add_zero] at hv
      rw [hv]
      simp only
      rw [hd, frame_other, put_eval_same ht]
      intro o ho e
      have := hA.1 o ho
      simp [hd, e] at this
    | succ j =>
      rw [List.getElem?_cons_succ] at h
      refine ih hA.2 h hd (by rw [show k + 1 + j = k + (j + 1) by omega]; exact hv) ?_
      cases vals k with
      | none => exact ht
      | some u => simp only; rw [put_size]; exact ht

/-- How many are not yet done. -/
def unl (vals : Nat → Option Value) : Nat → Nat
  | 0 => 0
  | n + 1 => unl vals n + (if (vals n).isNone then 1 else 0)
theorem unl_le (vals : Nat → Option Value) : ∀ n, unl vals n ≤ n
  | 0 => Nat.le_refl _
  | n + 1 => by have := unl_le vals n; unfold unl; split <;> omega
theorem unl_zero {vals : Nat → Option Value} : ∀ {n : Nat}, unl vals n = 0 → ∀ j, j < n → ∃ v, vals j = some v
  | 0, _, j, hj => by omega
  | n + 1, h, j, hj => by
    unfold unl at h
    have h1 : unl vals n = 0 := by omega
    by_cases e : j = n
    · subst e
      cases hv : vals j with
      | none => rw [hv] at h; simp at h
      | some v => exact ⟨v, rfl⟩
    · exact unl_zero h1 j (by omega)
theorem unl_same {vals vals' : Nat → Option Value} : ∀ {n : Nat}, (∀ j, j < n → vals j = vals' j) → unl vals n = unl vals' n
  | 0, _ => rfl
  | n + 1, h => by unfold unl; rw [unl_same fun j hj => h j (by omega), h n (by omega)]
theorem unl_upd {vals : Nat → Option Value} {i : Nat} {v : Value} (hn : vals i = none) : ∀ {n : Nat}, i < n → unl (updV vals i v) n + 1 = unl vals n
  | 0, h => by omega
  | n + 1, h => by
    unfold unl
    by_cases e : i = n
    · subst e
      rw [unl_same (vals := updV vals i v) (vals' := vals) fun j hj => by simp [updV, show j ≠ i by omega]]
      simp [updV, hn]
    · have := unl_upd hn (v := v) (n := n) (by omega)
      have e1 : updV vals i v n = vals n := by simp [updV, show n ≠ i from fun e' => e e'.symm]
      rw [e1]
      omega

/-- Each operation waits for earlier ones alone. -/
def backB : Nat → List Oper → Bool
  | _, [] => true
  | k, o :: l => (o.after.toList.all fun e => decide (e.on < k)) && backB (k + 1) l
theorem backB_spec : ∀ {l : List Oper} {k j : Nat} {o : Oper}, backB k l = true → l[j]? = some o → ∀ e ∈ o.after, e.on < k + j := by
  intro l
  induction l with
  | nil => intro k j o _ h; simp at h
  | cons o' l ih =>
    intro k j o hB h e he
    simp only [backB, Bool.and_eq_true, List.all_eq_true, decide_eq_true_eq] at hB
    cases j with
    | zero =>
      simp only [List.getElem?_cons_zero, Option.some.injEq] at h
      subst h
      exact hB.1 e (by simpa using he)
    | succ j =>
      rw [List.getElem?_cons_succ] at h
      have := ih hB.2 h e he
      omega

section
variable {P : Program} {Q : Exit → Act → World → Prop}

/-- J: what is known, of the values that were yielded so far and of the world. Each operation is shown once, whatever was done ahead of it. -/
theorem wp_region_joint {id : Nat} {a : Act} {w : World} {l : List Oper} (J : (Nat → Option Value) → World → Prop) (hm : P.follows .mixedOrders = true) (hA : apartB l = true) (hB : backB 0 l = true) (hg : (l.all fun o => o.guard.isNone) = true) (h0 : J (fun _ => none) w.drew)
    (hop : ∀ i o, l[i]? = some o → ∀ (vals : Nat → Option Value) (w : World), J vals w → vals i = none → (∀ e ∈ o.after, Region.binds .any e = true → ∃ v, vals e.on = some v) →
      ∃ v w', ((execOp (frameF vals 0 l a).eval o).run P w = .ok (.value v) w' ∨ ((execOp (frameF vals 0 l a).eval o).run P w = .ok .skip w' ∧ v = undef)) ∧ J (updV vals i v) w')
    (hend : ∀ (vals : Nat → Option Value) (w : World), J vals w → (∀ i, i < l.length → ∃ v, vals i = some v) → Q .normal (frameF vals 0 l a) w) : (Code.region id l.toArray true).wp P Q a w := by
  refine wp_region_any hm ?_
  have key : ∀ (fuel : Nat) (listed : Array Bool) (vals : Nat → Option Value) (w : World), unl vals l.length ≤ fuel → J vals w → listed.size = l.length → (∀ j, j < l.length → (listed.getD j true = true ↔ ∃ v, vals j = some v)) →
      wpAny P .any l.toArray Q fuel listed (frameF vals 0 l a) w := by
    intro fuel
    induction fuel with
    | zero =>
      intro listed vals w hf hJ hls hl
      have hall := unl_zero (vals := vals) (n := l.length) (by omega)
      refine ⟨?_, hend vals w hJ hall⟩
      rw [List.eq_nil_iff_forall_not_mem]
      intro j hj
      obtain ⟨h1, o, ho, _⟩ := mem_ready.1 hj
      have hjl : j < l.length := by
        have := (Array.getElem?_eq_some_iff.1 ho).1
        simpa using this
      rw [(hl j hjl).2 (hall j hjl)] at h1
      cases h1
    | succ fuel ih =>
      intro listed vals w hf hJ hls hl
      refine ⟨fun hr => hend vals w hJ fun i hi => ?_, fun i hi => ?_⟩
      · -- the first that is not done would be ready
        have hall : ∀ n j, j < n → j < l.length → ∃ v, vals j = some v := by
          intro n
          induction n with
          | zero => intro j hj; omega
          | succ n ihn =>
            intro j hj hjl
            by_cases e : j < n
            · exact ihn j e hjl
            · obtain rfl : j = n := by omega
              refine Classical.byContradiction fun hno => ?_
              have hlf : listed.getD j true = false := by
                cases hb : listed.getD j true with
                | false => rfl
                | true => exact absurd ((hl j hjl).1 hb) hno
              have hmem : j ∈ Region.ready .any l.toArray listed := mem_ready.2 ⟨hlf, l[j], by simp [hjl], fun e he _ => by
                have hlt := backB_spec hB (List.getElem?_eq_getElem hjl) e he
                rw [Nat.zero_add] at hlt
                have := (hl e.on (by omega)).2 (ihn e.on hlt (by omega))
                have hsz : e.on < listed.size := by omega
                simpa [Array.getD, hsz] using this⟩
              rw [hr] at hmem
              cases hmem
        exact hall l.length i hi hi
      · obtain ⟨h1, o, ho, hdep⟩ := mem_ready.1 hi
        have hlo : l[i]? = some o := by simpa using ho
        have hil : i < l.length := (List.getElem?_eq_some_iff.1 hlo).1
        have hvn : vals i = none := by
          cases hv : vals i with
          | none => rfl
          | some v => rw [(hl i hil).2 ⟨v, hv⟩] at h1; cases h1
        have hgo : o.guard = none := by
          have := List.all_eq_true.1 hg o (List.mem_of_getElem? hlo)
          simpa using this
        obtain ⟨v, w', hrun, hJ'⟩ := hop i o hlo vals w hJ hvn (fun e he hb => by
          have h2 := hdep e he hb
          have hlt : e.on < l.length := by
            have := backB_spec hB hlo e he
            omega
          refine (hl e.on hlt).1 ?_
          have hsz : e.on < listed.size := by omega
          simpa [Array.getD, hsz] using h2)
        have hnext : wpAny P .any l.toArray Q fuel (listed.setIfInBounds i true) ((frameF vals 0 l a).put o.dst v) w' := by
          rw [← frame_upd (v := v) hA (show l[i - 0]? = some o from hlo) (Nat.zero_le _) hvn]
          refine ih _ _ _ (by have := unl_upd hvn (v := v) hil; omega) hJ' (by simpa using hls) (fun j hj => ?_)
          · by_cases e : j = i
            · subst e
              have : j < listed.size := by omega
              simp [updV, Array.getD, this]
            · have e1 : (listed.setIfInBounds i true).getD j true = listed.getD j true := by
                simp [Array.getD_eq_getD_getElem?, Array.getElem?_setIfInBounds_ne (fun e' => e e'.symm)]
              rw [e1, hl j hj]
              simp [updV, e]
        unfold wpOp
        simp only [ho]
        rw [if_pos (by simp [Region.wanted, hgo])]
        left
        unfold Oper.wp
        rcases hrun with hrun | ⟨hrun, rfl⟩
        · rw [hrun]; exact hnext
        · rw [hrun]; exact hnext
  have h1 : frameF (fun _ => none) 0 l a = a := by
    have : ∀ (l : List Oper) (k : Nat), frameF (fun _ => none) k l a = a := by
      intro l
      induction l with
      | nil => intro k; rfl
      | cons o l ih => intro k; exact ih (k + 1)
    exact this l 0
  have h2 := key l.toArray.size (Array.replicate l.toArray.size false) (fun _ => none) w.drew (by have := unl_le (fun _ => none) l.length; simpa using this) h0 (by simp) (fun j hj => by simp [Array.getD, hj])
  rw [h1] at h2
  exact h2
end

end Go.Proofs.Ytgcpllnjdnahjaa

/- A region of pollardingref6.Parse that draws its order: a tree is made of others. -/
namespace Go.Proofs.Ytgcpllnjdnahjaa
open Go.RowKit

/-- The operations of a code's region. -/
def findR (k : Nat) : Code → List Oper
  | .region id ops _ => bif id == k then ops.toList else []
  | .seq a b => findR k a ++ findR k b
  | .cond _ a b => findR k a ++ findR k b
  | .block _ a => findR k a
  | .loop a => findR k a
  | .scope a => findR k a
  | _ => []

/-- A tree is made of the last ones. -/
noncomputable def ops30 : List Oper := findR 30 (Try.f5.body.getD .skip)

/-- What those yield that only read. -/
def pv30 (cx lb lo m2 uc2 m kp : Nat) (tv s7 : Value) : Nat → Option Value
  | 0 => some (.pointer (some ⟨cx, 1, none⟩))
  | 1 => some (.slice (some ⟨lb, lo, none⟩) m2 uc2)
  | 2 => some (.pointer (some ⟨lb, lo, none⟩))
  | 3 => some (.int .i64 m)
  | 5 => some tv
  | 6 => some (.int .i64 kp)
  | 7 => some s7
  | _ => none

structure J30 (W : World) (pv : Nat → Option Value) (m n : Nat) (KL : List Tn) (vals : Nat → Option Value) (w : World) : Prop where
  b : Below W.heap.size W w
  pure : ∀ j v u, vals j = some v → pv j = some u → v = u
  lit : ∀ v, vals 4 = some v → ∃ b, v = .slice (some ⟨b, 0, none⟩) 0 0 ∧ W.heap.size ≤ b ∧ b < w.heap.size ∧ (vals 8 = none → w.heap[b]? = some (.cells #[] 54 (0, 0)))
  kids : ∀ v, vals 8 = some v → ∃ g cap, v = .slice (some ⟨g, 0, none⟩) n cap ∧ W.heap.size ≤ g ∧ g < w.heap.size ∧ (0 < n → w.ownsRow W.heap.size 54 2 v n (flatTn KL))
  agg : ∀ v, vals 9 = some v → ∃ kv, vals 8 = some kv ∧ v = .agg #[.int .i64 m, kv]
  box : ∀ v, vals 10 = some v → ∃ xb c0 c1, v = .pointer (some ⟨xb, 0, none⟩) ∧ W.heap.size ≤ xb ∧ xb < w.heap.size ∧ w.heap[xb]? = some (.cells #[c0, c1] 54 (0, 0)) ∧ (∀ u kv, vals 11 = some u → vals 8 = some kv → c0 = .int .i64 m ∧ c1 = kv)
  late : ∀ u, vals 11 = some u → (∃ kv, vals 8 = some kv) ∧ ∃ x, vals 10 = some x
  ne1 : ∀ b xb, vals 4 = some (.slice (some ⟨b, 0, none⟩) 0 0) → vals 10 = some (.pointer (some ⟨xb, 0, none⟩)) → b ≠ xb
  ne2 : ∀ g n cap xb, vals 8 = some (.slice (some ⟨g, 0, none⟩) n cap) → vals 10 = some (.pointer (some ⟨xb, 0, none⟩)) → g ≠ xb

theorem J30.read {W : World} {pv : Nat → Option Value} {m n : Nat} {KL : List Tn} {vals : Nat → Option Value} {w : World} (h : J30 W pv m n KL vals w) {i : Nat} {u : Value} (hp : pv i = some u) (h4 : i ≠ 4) (h8 : i ≠ 8) (h9 : i ≠ 9) (h10 : i ≠ 10) (h11 : i ≠ 11) : J30 W pv m n KL (updV vals i u) w := by
  have e : ∀ j, j ≠ i → updV vals i u j = vals j := fun j hj => by simp [updV, hj]
  refine ⟨h.b, fun j v u' hv hu => ?_, ?_, ?_, ?_, ?_, ?_, ?_, ?_⟩
  · by_cases hj : j = i
    · subst hj
      rw [hp] at hu
      simp only [updV, if_true, Option.some.injEq] at hv hu
      rw [← hv, hu]
    · rw [e j hj] at hv
      exact h.pure j v u' hv hu
  · rw [e 4 h4.symm, e 8 h8.symm]; exact h.lit
  · rw [e 8 h8.symm]; exact h.kids
  · rw [e 9 h9.symm, e 8 h8.symm]; exact h.agg
  · rw [e 10 h10.symm, e 8 h8.symm, e 11 h11.symm]; exact h.box
  · rw [e 11 h11.symm, e 8 h8.symm, e 10 h10.symm]; exact h.late
  · rw [e 4 h4.symm, e 10 h10.symm]; exact h.ne1
  · rw [e 8 h8.symm, e 10 h10.symm]; exact h.ne2

theorem heap_two {w : World} {xb : Nat} {c0 c1 x y : Value} {t : TypeId} (h : w.heap[xb]? = some (.cells #[c0, c1] t (0, 0))) : ((w.setCell ⟨xb, 0, none⟩ x).setCell ⟨xb, 1, none⟩ y).heap[xb]? = some (.cells #[x, y] t (0, 0)) := by
  have h1 := heap_setCell_same w xb 0 _ t x h
  have h2 := heap_setCell_same _ xb 1 _ t y h1
  simpa using h2

/-- A row whose own block is as it was. -/
theorem row_same {w w' : World} {base g n cap : Nat} {e : TypeId} {size : Nat} {xs : List Value} (h : w.ownsRow base e size (.slice (some ⟨g, 0, none⟩) n cap) n xs) (hb : w'.heap[g]? = w.heap[g]?) : w'.ownsRow base e size (.slice (some ⟨g, 0, none⟩) n cap) n xs := by
  obtain ⟨h1, h2 | ⟨g', c', cur, hv, h3, h4, h5⟩⟩ := h
  · cases h2.1
  · simp only [Value.slice.injEq, Option.some.injEq, Addr.mk.injEq, and_true, true_and] at hv
    obtain ⟨rfl, rfl⟩ := hv
    exact ⟨h1, .inr ⟨g, cap, cur, rfl, h3, hb.trans h4, h5⟩⟩

set_option maxRecDepth 100000 in
set_option maxHeartbeats 3200000 in
theorem reg30 {a : Act} {W : World} {Q : Exit → Act → World → Prop} {cx lb lo m2 uc2 m kp n : Nat} {tv s7 : Value} {KL : List Tn} (hsz : a.tmps.size = 144) (h15 : a.eval (.tmp 15) = .pointer (some ⟨cx, 0, none⟩)) (h11 : a.eval (.tmp 11) = tv) (h17 : a.eval (.tmp 17) = .int .i64 kp)
    (x1 : W.cell? ⟨cx, 1, none⟩ = some (.slice (some ⟨lb, lo, none⟩) m2 uc2)) (x2 : W.cell? ⟨lb, lo, none⟩ = some (.int .i64 m)) (hm2 : 0 < m2) (hs7 : ∀ w, (Instr.sliceAt 48 tv (some (.int .i64 kp)) none none).run Try.prog w = .ok s7 w)
    (happ : ∀ (w : World) (b : Nat), Below W.heap.size W w → W.heap.size ≤ b → b < w.heap.size → w.heap[b]? = some (.cells #[] 54 (0, 0)) → ∃ g cap w', (Builtin.append_ #[ 48, 48 ] 48 #[.slice (some ⟨b, 0, none⟩) 0 0, s7]).run Try.prog w = .ok (.slice (some ⟨g, 0, none⟩) n cap) w' ∧ w.grownBy w' (some b) ∧ (g = b ∨ (g = w.heap.size ∧ w.heap.size < w'.heap.size)) ∧ (0 < n → w'.ownsRow W.heap.size 54 2 (.slice (some ⟨g, 0, none⟩) n cap) n (flatTn KL)))
    (hQ : ∀ (vals : Nat → Option Value) (w : World), J30 W (pv30 cx lb lo m2 uc2 m kp tv s7) m n KL vals w → (∀ i, i < 12 → ∃ v, vals i = some v) → Q .normal (frameF vals 0 ops30 a) w) : (Code.region 30 ops30.toArray true).wp Try.prog Q a W := by
  obtain ⟨L, hL⟩ : ∃ L, L = ops30 := ⟨_, rfl⟩
  rw [← hL] at hQ ⊢
  simp only [ops30, Try.f5, Option.getD_some, findR, Nat.reduceBEq, cond_true, cond_false, List.nil_append, List.append_nil] at hL
  have hL' : ∀ o ∈ L, o.dst ≠ some 15 ∧ o.dst ≠ some 11 ∧ o.dst ≠ some 17 := by simp [hL]
  refine wp_region_joint (J30 W (pv30 cx lb lo m2 uc2 m kp tv s7) m n KL) (by kernel_rfl) (by rw [hL]; kernel_rfl) (by rw [hL]; kernel_rfl) (by rw [hL]; kernel_rfl) ?_ ?_ (fun vals w hJ hall => hQ vals w hJ (by rw [hL] at hall; exact hall))
  · exact ⟨(Below.refl _ _).drew, fun _ _ _ h => (by cases h), fun _ h => (by cases h), fun _ h => (by cases h), fun _ h => (by cases h), fun _ h => (by cases h), fun _ h => (by cases h), fun _ _ h => (by cases h), fun _ _ _ _ h => (by cases h)⟩
  · intro i o ho vals w hJ hvn hdep
    have same : ∀ (j : Nat) (t : Tmp) (v : Value) (oj : Oper), L[j]? = some oj → oj.dst = some t → vals j = some v → t < 144 → (frameF vals 0 L a).eval (.tmp t) = v := fun j t v oj h1 h2 h3 h4 => frame_same (by rw [hL]; kernel_rfl) h1 h2 (by rw [Nat.zero_add]; exact h3) (by rw [hsz]; exact h4)
    have other : ∀ t, (∀ o ∈ L, o.dst ≠ some t) → (frameF vals 0 L a).eval (.tmp t) = a.eval (.tmp t) := fun t h => frame_other h
    match i, ho with
    | 0, ho =>
      rw [hL] at ho
      injection ho with ho
      subst ho
      have e15 := (other 15 fun o h => (hL' o h).1).trans h15
      refine ⟨.pointer (some ⟨cx, 1, none⟩), w, .inl ?_, hJ.read (i := 0) rfl (by decide) (by decide) (by decide) (by decide) (by decide)⟩
      generalize (frameF vals 0 L a).eval = ev at e15
      go_simp
    | 1, ho =>
      rw [hL] at ho
      injection ho with ho
      subst ho
      obtain ⟨v0, hv0⟩ := hdep { on := 0, ground := Ground.data } (by simp) rfl
      have e0 := same 0 103 v0 _ (by rw [hL]; rfl) rfl hv0 (by decide)
      rw [hJ.pure 0 v0 _ hv0 rfl] at e0
      have k1 := (hJ.b.cell (p := ⟨cx, 1, none⟩) (World.block_lt_of_cell? W _ x1)).trans x1
      refine ⟨.slice (some ⟨lb, lo, none⟩) m2 uc2, w, .inl ?_, hJ.read (i := 1) rfl (by decide) (by decide) (by decide) (by decide) (by decide)⟩
      generalize (frameF vals 0 L a).eval = ev at e0
      go_simp
    | 2, ho =>
      rw [hL] at ho
      injection ho with ho
      subst ho
      obtain ⟨v0, hv0⟩ := hdep { on := 1, ground := Ground.data } (by simp) rfl
      have e0 := same 1 104 v0 _ (by rw [hL]; rfl) rfl hv0 (by decide)
      rw [hJ.pure 1 v0 _ hv0 rfl] at e0
      have hm : (0 : Int) < (m2 : Int) := by omega
      refine ⟨.pointer (some ⟨lb, lo, none⟩), w, .inl ?_, hJ.read (i := 2) rfl (by decide) (by decide) (by decide) (by decide) (by decide)⟩
      have ec : (frameF vals 0 L a).eval (.const (.int .i64 0)) = .int .i64 0 := rfl
      generalize (frameF vals 0 L a).eval = ev at e0 ec
      go_simp
    | 3, ho =>
      rw [hL] at ho
      injection ho with ho
      subst ho
      obtain ⟨v0, hv0⟩ := hdep { on := 2, ground := Ground.data } (by simp) rfl
      have e0 := same 2 105 v0 _ (by rw [hL]; rfl) rfl hv0 (by decide)
      rw [hJ.pure 2 v0 _ hv0 rfl] at e0
      have k1 := (hJ.b.cell (p := ⟨lb, lo, none⟩) (World.block_lt_of_cell? W _ x2)).trans x2
      refine ⟨.int .i64 m, w, .inl ?_, hJ.read (i := 3) rfl (by decide) (by decide) (by decide) (by decide) (by decide)⟩
      generalize (frameF vals 0 L a).eval = ev at e0
      go_simp
    | 4, ho =>
      rw [hL] at ho
      injection ho with ho
      subst ho
      refine ⟨.slice (some ⟨w.heap.size, 0, none⟩) 0 0, w.alloc (.cells #[] 54), .inl ?_, ?_⟩
      · generalize (frameF vals 0 L a).eval = ev
        go_simp
      · have hW := hJ.b.size
        have hold : ∀ b, b < w.heap.size → (w.alloc (.cells #[] 54)).heap[b]? = w.heap[b]? := fun b hb => (World.grownBy_alloc w _ none).block b hb (by simp)
        refine ⟨hJ.b.alloc hW _, fun j v u hv hu => ?_, fun v hv => ?_, fun v hv => ?_, fun v hv => ?_, fun v hv => ?_, fun u hu => ?_, fun b xb hb hx => ?_, fun g n' cap xb hg hx => ?_⟩
        · by_cases hj : j = 4
          · subst hj; simp [pv30] at hu
          · exact hJ.pure j v u (by simpa [updV, hj] using hv) hu
        · simp only [updV, if_true, Option.some.injEq] at hv
          exact ⟨w.heap.size, hv.symm, hW, by simp, fun _ => heap_alloc_new _ _⟩
        · obtain ⟨g, cap, h1, h2, h3, h4⟩ := hJ.kids v (by simpa [updV] using hv)
          exact ⟨g, cap, h1, h2, by simp; omega, fun hn => (h4 hn).alloc _⟩
        · exact hJ.agg v (by simpa [updV] using hv)
        · obtain ⟨xb, c0, c1, h1, h2, h3, h4, h5⟩ := hJ.box v (by simpa [updV] using hv)
          exact ⟨xb, c0, c1, h1, h2, by simp; omega, (hold xb h3).trans h4, fun u kv hu hk => h5 u kv (by simpa [updV] using hu) (by simpa [updV] using hk)⟩
        · simpa [updV] using hJ.late u (by simpa [updV] using hu)
        · simp only [updV, if_true, Option.some.injEq, Value.slice.injEq, Addr.mk.injEq, and_true] at hb
          obtain ⟨xb', _, _, h1, _, h3, _⟩ := hJ.box _ (by simpa [updV] using hx)
          simp only [Value.pointer.injEq, Option.some.injEq, Addr.mk.injEq, and_true] at h1
          omega
        · exact hJ.ne2 g n' cap xb (by simpa [updV] using hg) (by simpa [updV] using hx)
    | 5, ho =>
      rw [hL] at ho
      injection ho with ho
      subst ho
      have e0 := (other 11 fun o h => (hL' o h).2.1).trans h11
      refine ⟨tv, w, .inl ?_, hJ.read (i := 5) rfl (by decide) (by decide) (by decide) (by decide) (by decide)⟩
      generalize (frameF vals 0 L a).eval = ev at e0
      go_simp
    | 6, ho =>
      rw [hL] at ho
      injection ho with ho
      subst ho
      have e0 := (other 17 fun o h => (hL' o h).2.2).trans h17
      refine ⟨.int .i64 kp, w, .inl ?_, hJ.read (i := 6) rfl (by decide) (by decide) (by decide) (by decide) (by decide)⟩
      generalize (frameF vals 0 L a).eval = ev at e0
      go_simp
    | 7, ho =>
      rw [hL] at ho
      injection ho with ho
      subst ho
      obtain ⟨v0, hv0⟩ := hdep { on := 5, ground := Ground.data } (by simp) rfl
      obtain ⟨v1, hv1⟩ := hdep { on := 6, ground := Ground.data } (by simp) rfl
      have e0 := same 5 108 v0 _ (by rw [hL]; rfl) rfl hv0 (by decide)
      have e1 := same 6 109 v1 _ (by rw [hL]; rfl) rfl hv1 (by decide)
      rw [hJ.pure 5 v0 _ hv0 rfl] at e0
      rw [hJ.pure 6 v1 _ hv1 rfl] at e1
      have hrun := hs7 w
      refine ⟨s7, w, .inl ?_, hJ.read (i := 7) rfl (by decide) (by decide) (by decide) (by decide) (by decide)⟩
      generalize (frameF vals 0 L a).eval = ev at e0 e1
      simp [execOp, e0, e1, hrun, Result.andThen]
    | 8, ho =>
      rw [hL] at ho
      injection ho with ho
      subst ho
      obtain ⟨v0, hv0⟩ := hdep { on := 4, ground := Ground.data } (by simp) rfl
      have e0 := same 4 107 v0 _ (by rw [hL]; rfl) rfl hv0 (by decide)
      obtain ⟨v1, hv1⟩ := hdep { on := 7, ground := Ground.data } (by simp) rfl
      have e1 := same 7 110 v1 _ (by rw [hL]; rfl) rfl hv1 (by decide)
      rw [hJ.pure 7 v1 _ hv1 rfl] at e1
      obtain ⟨b, hb, hb1, hb2, hb3⟩ := hJ.lit v0 hv0
      rw [hb] at e0
      rw [hb] at hv0
      obtain ⟨g, cap, w', hrun, hg, hgb, how⟩ := happ w b hJ.b hb1 hb2 (hb3 hvn)
      have hW := hJ.b.size
      refine ⟨.slice (some ⟨g, 0, none⟩) n cap, w', .inl ?_, ?_⟩
      · generalize (frameF vals 0 L a).eval = ev at e0 e1
        simp only [execOp, resolve, invoke, builtin, Sem.run_bind, Sem.run_pure, Result.andThen_ok, List.map_toArray, List.map_cons, List.map_nil, e0, e1, hrun]
      · refine ⟨hJ.b.grown hg hW (fun k hk => by cases hk; exact hb1), fun j v u hv hu => ?_, fun v hv => ?_, fun v hv => ?_, fun v hv => ?_, fun v hv => ?_, fun u hu => ?_, fun b' xb hb' hx => ?_, fun g' n' cap' xb hg' hx => ?_⟩
        · by_cases hj : j = 8
          · subst hj; simp [pv30] at hu
          · exact hJ.pure j v u (by simpa [updV, hj] using hv) hu
        · obtain ⟨b', h1, h2, h3, h4⟩ := hJ.lit v (by simpa [updV] using hv)
          exact ⟨b', h1, h2, Nat.lt_of_lt_of_le h3 hg.size, fun h => by simp [updV] at h⟩
        · simp only [updV, if_true, Option.some.injEq] at hv
          refine ⟨g, cap, hv.symm, ?_, ?_, fun hn => hv ▸ how hn⟩
          · rcases hgb with rfl | ⟨rfl, _⟩ <;> omega
          · have := hg.size
            rcases hgb with rfl | ⟨rfl, _⟩ <;> omega
        · obtain ⟨kv, hk, _⟩ := hJ.agg v (by simpa [updV] using hv)
          rw [hvn] at hk; cases hk
        · obtain ⟨xb, c0, c1, h1, h2, h3, h4, h5⟩ := hJ.box v (by simpa [updV] using hv)
          have hne : b ≠ xb := hJ.ne1 b xb hv0 (by rw [← h1]; simpa [updV] using hv)
          refine ⟨xb, c0, c1, h1, h2, Nat.lt_of_lt_of_le h3 hg.size, (hg.block xb h3 (by simp; omega)).trans h4, fun u kv hu hk => ?_⟩
          obtain ⟨⟨kv', hk'⟩, _⟩ := hJ.late u (by simpa [updV] using hu)
          rw [hvn] at hk'; cases hk'
        · obtain ⟨⟨kv', hk'⟩, _⟩ := hJ.late u (by simpa [updV] using hu)
          rw [hvn] at hk'; cases hk'
        · exact hJ.ne1 b' xb (by simpa [updV] using hb') (by simpa [updV] using hx)
        · simp only [updV, if_true, Option.some.injEq, Value.slice.injEq, Addr.mk.injEq, and_true] at hg'
          have hx' : vals 10 = some (.pointer (some ⟨xb, 0, none⟩)) := by simpa [updV] using hx
          obtain ⟨xb', _, _, h1, _, h3, _⟩ := hJ.box _ hx'
          simp only [Value.pointer.injEq, Option.some.injEq, Addr.mk.injEq, and_true] at h1
          have hne : b ≠ xb := hJ.ne1 b xb hv0 hx'
          obtain ⟨rfl, _⟩ := hg'
          rcases hgb with rfl | ⟨rfl, _⟩ <;> omega
    | 9, ho =>
      rw [hL] at ho
      injection ho with ho
      subst ho
      obtain ⟨v0, hv0⟩ := hdep { on := 3, ground := Ground.data } (by simp) rfl
      have e0 := same 3 106 v0 _ (by rw [hL]; rfl) rfl hv0 (by decide)
      obtain ⟨v1, hv1⟩ := hdep { on := 8, ground := Ground.data } (by simp) rfl
      have e1 := same 8 111 v1 _ (by rw [hL]; rfl) rfl hv1 (by decide)
      rw [hJ.pure 3 v0 _ hv0 rfl] at e0
      obtain ⟨g, cap, rfl, hg1, hg2, hg3⟩ := hJ.kids v1 hv1
      refine ⟨.agg #[.int .i64 m, .slice (some ⟨g, 0, none⟩) n cap], w, .inl ?_, ?_⟩
      · generalize (frameF vals 0 L a).eval = ev at e0 e1
        go_simp
      · refine ⟨hJ.b, fun j v u hv hu => ?_, fun v hv => ?_, fun v hv => ?_, fun v hv => ?_, fun v hv => ?_, fun u hu => ?_, fun b' xb hb' hx => ?_, fun g' n' cap' xb hg' hx => ?_⟩
        · by_cases hj : j = 9
          · subst hj; simp [pv30] at hu
          · exact hJ.pure j v u (by simpa [updV, hj] using hv) hu
        · obtain ⟨b', h1, h2, h3, h4⟩ := hJ.lit v (by simpa [updV] using hv)
          exact ⟨b', h1, h2, h3, fun h => h4 (by simpa [updV] using h)⟩
        · exact hJ.kids v (by simpa [updV] using hv)
        · simp only [updV, if_true, Option.some.injEq] at hv
          exact ⟨_, by simpa [updV] using hv1, hv.symm⟩
        · obtain ⟨xb, c0, c1, h1, h2, h3, h4, h5⟩ := hJ.box v (by simpa [updV] using hv)
          exact ⟨xb, c0, c1, h1, h2, h3, h4, fun u kv hu hk => h5 u kv (by simpa [updV] using hu) (by simpa [updV] using hk)⟩
        · simpa [updV] using hJ.late u (by simpa [updV] using hu)
        · exact hJ.ne1 b' xb (by simpa [updV] using hb') (by simpa [updV] using hx)
        · exact hJ.ne2 g' n' cap' xb (by simpa [updV] using hg') (by simpa [updV] using hx)
    | 10, ho =>
      rw [hL] at ho
      injection ho with ho
      subst ho
      refine ⟨.pointer (some ⟨w.heap.size, 0, none⟩), w.alloc (.cells #[.int .i64 0, .slice none 0 0] 54), .inl ?_, ?_⟩
      · generalize (frameF vals 0 L a).eval = ev
        go_simp
      · have hW := hJ.b.size
        have hold : ∀ b, b < w.heap.size → (w.alloc (.cells #[.int .i64 0, .slice none 0 0] 54)).heap[b]? = w.heap[b]? := fun b hb => (World.grownBy_alloc w _ none).block b hb (by simp)
        refine ⟨hJ.b.alloc hW _, fun j v u hv hu => ?_, fun v hv => ?_, fun v hv => ?_, fun v hv => ?_, fun v hv => ?_, fun u hu => ?_, fun b' xb hb' hx => ?_, fun g' n' cap' xb hg' hx => ?_⟩
        · by_cases hj : j = 10
          · subst hj; simp [pv30] at hu
          · exact hJ.pure j v u (by simpa [updV, hj] using hv) hu
        · obtain ⟨b', h1, h2, h3, h4⟩ := hJ.lit v (by simpa [updV] using hv)
          exact ⟨b', h1, h2, by simp; omega, fun h => (hold b' h3).trans (h4 (by simpa [updV] using h))⟩
        · obtain ⟨g, cap, rfl, h2, h3, h4⟩ := hJ.kids v (by simpa [updV] using hv)
          exact ⟨g, cap, rfl, h2, by simp; omega, fun hn => row_same (h4 hn) (hold g h3)⟩
        · obtain ⟨kv, hk, h⟩ := hJ.agg v (by simpa [updV] using hv)
          exact ⟨kv, by simpa [updV] using hk, h⟩
        · simp only [updV, if_true, Option.some.injEq] at hv
          refine ⟨w.heap.size, _, _, hv.symm, hW, by simp, heap_alloc_new _ _, fun u kv hu hk => ?_⟩
          obtain ⟨_, x, hx⟩ := hJ.late u (by simpa [updV] using hu)
          rw [hvn] at hx; cases hx
        · obtain ⟨⟨kv, hk⟩, x, hx⟩ := hJ.late u (by simpa [updV] using hu)
          rw [hvn] at hx; cases hx
        · obtain ⟨b2, h1, _, h3, _⟩ := hJ.lit _ (by simpa [updV] using hb')
          simp only [Value.slice.injEq, Option.some.injEq, Addr.mk.injEq, and_true] at h1
          simp only [updV, if_true, Option.some.injEq, Value.pointer.injEq, Addr.mk.injEq, and_true] at hx
          omega
        · obtain ⟨b2, cap2, h1, _, h3, _⟩ := hJ.kids _ (by simpa [updV] using hg')
          simp only [Value.slice.injEq, Option.some.injEq, Addr.mk.injEq, and_true] at h1
          simp only [updV, if_true, Option.some.injEq, Value.pointer.injEq, Addr.mk.injEq, and_true] at hx
          omega
    | 11, ho =>
      rw [hL] at ho
      injection ho with ho
      subst ho
      obtain ⟨v0, hv0⟩ := hdep { on := 10, ground := Ground.data } (by simp) rfl
      have e0 := same 10 18 v0 _ (by rw [hL]; rfl) rfl hv0 (by decide)
      obtain ⟨v1, hv1⟩ := hdep { on := 9, ground := Ground.data } (by simp) rfl
      have e1 := same 9 112 v1 _ (by rw [hL]; rfl) rfl hv1 (by decide)
      obtain ⟨kv, hk, rfl⟩ := hJ.agg v1 hv1
      obtain ⟨g, cap, rfl, hg1, hg2, hg3⟩ := hJ.kids kv hk
      obtain ⟨xb, c0, c1, rfl, hx1, hx2, hx3, hx4⟩ := hJ.box v0 hv0
      have hW := hJ.b.size
      have hgx : g ≠ xb := hJ.ne2 g n cap xb hk hv0
      have hold : ∀ b, b ≠ xb → ((w.setCell ⟨xb, 0, none⟩ (.int .i64 m)).setCell ⟨xb, 1, none⟩ (.slice (some ⟨g, 0, none⟩) n cap)).heap[b]? = w.heap[b]? := fun b hb => (Below.heap_setCell _ _ _ b hb).trans (Below.heap_setCell _ _ _ b hb)
      refine ⟨undef, (w.setCell ⟨xb, 0, none⟩ (.int .i64 m)).setCell ⟨xb, 1, none⟩ (.slice (some ⟨g, 0, none⟩) n cap), .inr ⟨?_, rfl⟩, ?_⟩
      · have y0 : w.cell? ⟨xb, 0, none⟩ = some c0 := by simp [World.cell?, hx3]
        have y1 : w.cell? ⟨xb, 1, none⟩ = some c1 := by simp [World.cell?, hx3]
        have z0 := frozen_of_row w xb 0 _ _ hx3
        have z1 := frozen_of_row w xb 1 _ _ hx3
        generalize (frameF vals 0 L a).eval = ev at e0 e1
        go_simp
      · refine ⟨(hJ.b.setCell (by exact hx1) _).setCell (by exact hx1) _, fun j v u hv hu => ?_, fun v hv => ?_, fun v hv => ?_, fun v hv => ?_, fun v hv => ?_, fun u hu => ?_, fun b' xb hb' hx => ?_, fun g' n' cap' xb hg' hx => ?_⟩
        · by_cases hj : j = 11
          · subst hj; simp [pv30] at hu
          · exact hJ.pure j v u (by simpa [updV, hj] using hv) hu
        · have hv' : vals 4 = some v := by simpa [updV] using hv
          obtain ⟨b', h1, h2, h3, h4⟩ := hJ.lit v hv'
          exact ⟨b', h1, h2, by simpa using h3, fun h => by rw [show updV vals 11 undef 8 = vals 8 by simp [updV], hk] at h; cases h⟩
        · have hv' : vals 8 = some v := by simpa [updV] using hv
          rw [hk] at hv'
          cases hv'
          exact ⟨g, cap, rfl, hg1, by simpa using hg2, fun hn => row_same (hg3 hn) (hold g hgx)⟩
        · obtain ⟨kv, hk, h⟩ := hJ.agg v (by simpa [updV] using hv)
          exact ⟨kv, by simpa [updV] using hk, h⟩
        · have hv' : vals 10 = some v := by simpa [updV] using hv
          rw [hv0] at hv'
          cases hv'
          refine ⟨xb, _, _, rfl, hx1, by simpa using hx2, heap_two hx3, fun u kv hu hk' => ⟨rfl, ?_⟩⟩
          rw [show updV vals 11 undef 8 = vals 8 by simp [updV], hk] at hk'
          cases hk'; rfl
        · exact ⟨⟨_, by simpa [updV] using hk⟩, _, by simpa [updV] using hv0⟩
        · exact hJ.ne1 b' xb (by simpa [updV] using hb') (by simpa [updV] using hx)
        · exact hJ.ne2 g' n' cap' xb (by simpa [updV] using hg') (by simpa [updV] using hx)
    | i + 12, ho => simp [hL] at ho

/-- A slot that is written by none that is done. -/
theorem frame_none {vals : Nat → Option Value} {t : Tmp} : ∀ {l : List Oper} {k : Nat} {a : Act}, (∀ j o, l[j]? = some o → o.dst = some t → vals (k + j) = none) → (frameF vals k l a).eval (.tmp t) = a.eval (.tmp t) := by
  intro l
  induction l with
  | nil => intro k a _; rfl
  | cons o l ih =>
    intro k a h
    unfold frameF
    rw [ih fun j o' ho hd => by rw [Nat.add_assoc, Nat.add_comm 1 j]; exact h (j + 1) o' (by simpa using ho) hd]
    cases hv : vals k with
    | none => rfl
    | some u => exact put_eval_other fun e => by have := h 0 o rfl e; rw [Nat.add_zero, hv] at this; cases this

/-- Nothing is appended to a literal that is empty. -/
theorem append_nothing {w : World} {b c : Nat} {sa : Option Addr} : (Builtin.append_ #[ 48, 48 ] 48 #[.slice (some ⟨b, 0, none⟩) 0 0, .slice sa 0 c]).run Try.prog w = .ok (.slice (some ⟨b, 0, none⟩) 0 0) w := by
  cases sa <;> go_simp

/-- Trees are copied: append to a literal that is empty. -/
theorem append_copy {w : World} {base b : Nat} {sa : Option Addr} {n c : Nat} {KL : List Tn} (hn : KL.length = n) (hsrc : 0 < n → ∃ ad, sa = some ad ∧ ∀ j u, (flatTn KL)[j]? = some u → w.cell? (ad.add j) = some u) (hone : ∀ x ∈ KL, ∃ a n c, x.2.1 = .slice a n c)
    (hb : base ≤ b) (hbw : b < w.heap.size) (hcell : w.heap[b]? = some (.cells #[] 54 (0, 0))) (hlim : n ≤ 1000) :
    ∃ g cap w', (Builtin.append_ #[ 48, 48 ] 48 #[.slice (some ⟨b, 0, none⟩) 0 0, .slice sa n c]).run Try.prog w = .ok (.slice (some ⟨g, 0, none⟩) n cap) w' ∧ w.grownBy w' (some b) ∧ (g = b ∨ (g = w.heap.size ∧ w.heap.size < w'.heap.size)) ∧
      w'.ownsRow base 54 2 (.slice (some ⟨g, 0, none⟩) n cap) n (flatTn KL) := by
  have own0 : w.ownsRow base 54 2 (.slice (some ⟨b, 0, none⟩) 0 0) 0 [] := ⟨rfl, .inr ⟨b, 0, #[], rfl, hb, hcell, Nat.le_refl _, by decide, rfl, rfl⟩⟩
  rcases Nat.eq_zero_or_pos n with h0 | h0
  · subst h0
    have hk : KL = [] := List.eq_nil_of_length_eq_zero hn
    subst hk
    exact ⟨b, 0, w, append_nothing, World.grownBy.refl w _, .inl rfl, own0⟩
  · obtain ⟨ad, rfl, hc⟩ := hsrc h0
    obtain ⟨i1, hi1, hy0, hy1, hy2⟩ := info_parts Try.infoTree
    obtain ⟨g, cap, w', hr, ho, hg, hat, hlt⟩ := run_append_lies (P := Try.prog) w 48 48 base 54 i1 _ 2 32 Try.underlying48 hi1 hy0 hy1 hy2 rfl (by omega) (.slice (some ⟨b, 0, none⟩) 0 0) 0 [] own0 ad n c (flatTn KL) (by rw [flatTn_len, hn]) hc (flatTn_one hone) h0 (by simp only [maxLen]; omega) (by omega) (by omega) w.heap.size rfl
    rw [Nat.zero_add, List.nil_append] at ho
    rw [Nat.zero_add] at hr
    refine ⟨g, cap, w', hr, hg, ?_, ho⟩
    rcases hat with e | e
    · simp only [Value.ownBlock, Option.some.injEq] at e
      exact .inl e.symm
    · exact .inr ⟨e, by omega⟩

/-- x[kp:] -/
theorem slice_low {ua : Option Addr} {n uc kp : Nat} (w : World) : (Instr.sliceAt 48 (.slice ua (kp + n) uc) (some (.int .i64 kp)) none none).run Try.prog w = .ok (sliced ua kp (kp + n) uc 2) w := by
  have h0 : (0 : Int) ≤ (kp : Int) := Int.natCast_nonneg _
  have h1 : (kp : Int) ≤ ((kp + n : Nat) : Int) := by omega
  go_simp
  intro hc
  omega
/-- x[:kp] -/
theorem slice_high {ua : Option Addr} {n uc kp : Nat} (hu : kp + n ≤ uc) (w : World) : (Instr.sliceAt 48 (.slice ua (kp + n) uc) none (some (.int .i64 kp)) none).run Try.prog w = .ok (sliced ua 0 kp uc 2) w := by
  have h0 : (0 : Int) ≤ (kp : Int) := Int.natCast_nonneg _
  have h1 : (kp : Int) ≤ (uc : Int) := by omega
  go_simp

/-- The stack of trees gets a tree in the last ones' stead. -/
noncomputable def ops31 : List Oper := findR 31 (Try.f5.body.getD .skip)

def pv31 (m kp : Nat) (tv s3 kv : Value) : Nat → Option Value
  | 1 => some tv
  | 2 => some (.int .i64 kp)
  | 3 => some s3
  | 5 => some (.agg #[.int .i64 m, kv])
  | _ => none

structure J31 (W : World) (pv : Nat → Option Value) (m kp : Nat) (kv : Value) (KL : List Tn) (vals : Nat → Option Value) (w : World) : Prop where
  b : Below W.heap.size W w
  pure : ∀ j v u, vals j = some v → pv j = some u → v = u
  lit : ∀ v, vals 0 = some v → ∃ b, v = .slice (some ⟨b, 0, none⟩) 0 0 ∧ W.heap.size ≤ b ∧ b < w.heap.size ∧ (vals 4 = none → w.heap[b]? = some (.cells #[] 54 (0, 0)))
  front : ∀ v, vals 4 = some v → ∃ g cap, v = .slice (some ⟨g, 0, none⟩) kp cap ∧ W.heap.size ≤ g ∧ g < w.heap.size ∧ (vals 7 = none → w.ownsRow W.heap.size 54 2 v kp (flatTn KL))
  one : ∀ v, vals 6 = some v → ∃ c, v = .slice (some ⟨c, 0, none⟩) 1 1 ∧ W.heap.size ≤ c ∧ c < w.heap.size ∧ w.heap[c]? = some (.cells #[.int .i64 m, kv] 54 (0, 0))
  both : ∀ v, vals 7 = some v → ∃ g cap, v = .slice (some ⟨g, 0, none⟩) (kp + 1) cap ∧ W.heap.size ≤ g ∧ g < w.heap.size ∧ w.ownsRow W.heap.size 54 2 v (kp + 1) (flatTn KL ++ [.int .i64 m, kv])
  late : ∀ u, vals 7 = some u → (∃ v, vals 4 = some v) ∧ ∃ v, vals 6 = some v
  fin : ∀ u, vals 8 = some u → vals 7 = some u ∧ ∀ i, i < 8 → ∃ v, vals i = some v
  ne1 : ∀ b c, vals 0 = some (.slice (some ⟨b, 0, none⟩) 0 0) → vals 6 = some (.slice (some ⟨c, 0, none⟩) 1 1) → b ≠ c
  ne2 : ∀ g cap c, vals 4 = some (.slice (some ⟨g, 0, none⟩) kp cap) → vals 6 = some (.slice (some ⟨c, 0, none⟩) 1 1) → g ≠ c

theorem J31.read {W : World} {pv : Nat → Option Value} {m kp : Nat} {kv : Value} {KL : List Tn} {vals : Nat → Option Value} {w : World} (h : J31 W pv m kp kv KL vals w) {i : Nat} {u : Value} (hp : pv i = some u) (hn : vals i = none) (hi : i < 8) (h0 : i ≠ 0) (h4 : i ≠ 4) (h6 : i ≠ 6) (h7 : i ≠ 7) : J31 W pv m kp kv KL (updV vals i u) w := by
  have e : ∀ j, j ≠ i → updV vals i u j = vals j := fun j hj => by simp [updV, hj]
  refine ⟨h.b, fun j v u' hv hu => ?_, ?_, ?_, ?_, ?_, ?_, ?_, ?_, ?_⟩
  · by_cases hj : j = i
    · subst hj
      rw [hp] at hu
      simp only [updV, if_true, Option.some.injEq] at hv hu
      rw [← hv, hu]
    · rw [e j hj] at hv
      exact h.pure j v u' hv hu
  · rw [e 0 h0.symm, e 4 h4.symm]; exact h.lit
  · rw [e 4 h4.symm, e 7 h7.symm]; exact h.front
  · rw [e 6 h6.symm]; exact h.one
  · rw [e 7 h7.symm]; exact h.both
  · rw [e 7 h7.symm, e 4 h4.symm, e 6 h6.symm]; exact h.late
  · rw [e 8 (by omega)]
    intro u' hu
    obtain ⟨v, hv⟩ := (h.fin u' hu).2 i hi
    rw [hn] at hv; cases hv
  · rw [e 0 h0.symm, e 6 h6.symm]; exact h.ne1
  · rw [e 4 h4.symm, e 6 h6.symm]; exact h.ne2

set_option maxRecDepth 100000 in
set_option maxHeartbeats 3200000 in
theorem reg31 {a : Act} {W : World} {Q : Exit → Act → World → Prop} {xb m kp kg kn kc : Nat} {tv s3 : Value} {KL : List Tn} (hsz : a.tmps.size = 144) (h18 : a.eval (.tmp 18) = .pointer (some ⟨xb, 0, none⟩)) (h11 : a.eval (.tmp 11) = tv) (h17 : a.eval (.tmp 17) = .int .i64 kp)
    (x1 : W.cell? ⟨xb, 0, none⟩ = some (.int .i64 m)) (x2 : W.cell? ⟨xb, 1, none⟩ = some (.slice (some ⟨kg, 0, none⟩) kn kc)) (hkp : kp ≤ 1000) (hs3 : ∀ w, (Instr.sliceAt 48 tv none (some (.int .i64 kp)) none).run Try.prog w = .ok s3 w)
    (happ : ∀ (w : World) (b : Nat), Below W.heap.size W w → W.heap.size ≤ b → b < w.heap.size → w.heap[b]? = some (.cells #[] 54 (0, 0)) → ∃ g cap w', (Builtin.append_ #[ 48, 48 ] 48 #[.slice (some ⟨b, 0, none⟩) 0 0, s3]).run Try.prog w = .ok (.slice (some ⟨g, 0, none⟩) kp cap) w' ∧ w.grownBy w' (some b) ∧ (g = b ∨ (g = w.heap.size ∧ w.heap.size < w'.heap.size)) ∧ w'.ownsRow W.heap.size 54 2 (.slice (some ⟨g, 0, none⟩) kp cap) kp (flatTn KL))
    (hQ : ∀ (vals : Nat → Option Value) (w : World), J31 W (pv31 m kp tv s3 (.slice (some ⟨kg, 0, none⟩) kn kc)) m kp (.slice (some ⟨kg, 0, none⟩) kn kc) KL vals w → (∀ i, i < 9 → ∃ v, vals i = some v) → Q .normal (frameF vals 0 ops31 a) w) : (Code.region 31 ops31.toArray true).wp Try.prog Q a W := by
  obtain ⟨L, hL⟩ : ∃ L, L = ops31 := ⟨_, rfl⟩
  rw [← hL] at hQ ⊢
  simp only [ops31, Try.f5, Option.getD_some, findR, Nat.reduceBEq, cond_true, cond_false, List.nil_append, List.append_nil] at hL
  have hL' : ∀ o ∈ L, o.dst ≠ some 18 ∧ o.dst ≠ some 17 := by simp [hL]
  have hL11 : ∀ j o, L[j]? = some o → o.dst = some 11 → j = 8 := by
    intro j o ho hd
    rw [hL] at ho
    match j, ho with
    | 0, ho | 1, ho | 2, ho | 3, ho | 4, ho | 5, ho | 6, ho | 7, ho => injection ho with ho; subst ho; simp at hd
    | 8, ho => rfl
    | j + 9, ho => simp at ho
  refine wp_region_joint (J31 W (pv31 m kp tv s3 (.slice (some ⟨kg, 0, none⟩) kn kc)) m kp (.slice (some ⟨kg, 0, none⟩) kn kc) KL) (by kernel_rfl) (by rw [hL]; kernel_rfl) (by rw [hL]; kernel_rfl) (by rw [hL]; kernel_rfl) ?_ ?_ (fun vals w hJ hall => hQ vals w hJ (by rw [hL] at hall; exact hall))
  · exact ⟨(Below.refl _ _).drew, fun _ _ _ h => (by cases h), fun _ h => (by cases h), fun _ h => (by cases h), fun _ h => (by cases h), fun _ h => (by cases h), fun _ h => (by cases h), fun _ h => (by cases h), fun _ _ h => (by cases h), fun _ _ _ h => (by cases h)⟩
  · intro i o ho vals w hJ hvn hdep
    have same : ∀ (j : Nat) (t : Tmp) (v : Value) (oj : Oper), L[j]? = some oj → oj.dst = some t → vals j = some v → t < 144 → (frameF vals 0 L a).eval (.tmp t) = v := fun j t v oj h1 h2 h3 h4 => frame_same (by rw [hL]; kernel_rfl) h1 h2 (by rw [Nat.zero_add]; exact h3) (by rw [hsz]; exact h4)
    have other : ∀ t, (∀ o ∈ L, o.dst ≠ some t) → (frameF vals 0 L a).eval (.tmp t) = a.eval (.tmp t) := fun t h => frame_other h
    have hW := hJ.b.size
    have n8 : i < 8 → vals 8 = none := fun hi => by
      cases h8 : vals 8 with
      | none => rfl
      | some u =>
        obtain ⟨v, hv⟩ := (hJ.fin u h8).2 i hi
        rw [hvn] at hv; cases hv
    match i, ho with
    | 0, ho =>
      rw [hL] at ho
      injection ho with ho
      subst ho
      refine ⟨.slice (some ⟨w.heap.size, 0, none⟩) 0 0, w.alloc (.cells #[] 54), .inl ?_, ?_⟩
      · generalize (frameF vals 0 L a).eval = ev
        go_simp
      · have hold : ∀ b, b < w.heap.size → (w.alloc (.cells #[] 54)).heap[b]? = w.heap[b]? := fun b hb => (World.grownBy_alloc w _ none).block b hb (by simp)
        refine ⟨hJ.b.alloc hW _, fun j v u hv hu => ?_, fun v hv => ?_, fun v hv => ?_, fun v hv => ?_, fun v hv => ?_, fun u hu => ?_, fun u hu => ?_, fun b' c' hb' hc' => ?_, fun g' cap' c' hg' hc' => ?_⟩
        · by_cases hj : j = 0
          · subst hj; simp [pv31] at hu
          · exact hJ.pure j v u (by simpa [updV, hj] using hv) hu
        · simp only [updV, if_true, Option.some.injEq] at hv
          exact ⟨w.heap.size, hv.symm, hW, by simp, fun _ => heap_alloc_new _ _⟩
        · obtain ⟨g, cap, rfl, h2, h3, h4⟩ := hJ.front v (by simpa [updV] using hv)
          exact ⟨g, cap, rfl, h2, by simp; omega, fun h7 => row_same (h4 (by simpa [updV] using h7)) (hold g h3)⟩
        · obtain ⟨c, rfl, h2, h3, h4⟩ := hJ.one v (by simpa [updV] using hv)
          exact ⟨c, rfl, h2, by simp; omega, (hold c h3).trans h4⟩
        · obtain ⟨g, cap, rfl, h2, h3, h4⟩ := hJ.both v (by simpa [updV] using hv)
          exact ⟨g, cap, rfl, h2, by simp; omega, row_same h4 (hold g h3)⟩
        · simpa [updV] using hJ.late u (by simpa [updV] using hu)
        · have h8 : vals 8 = some u := by simpa [updV] using hu
          rw [n8 (by decide)] at h8; cases h8
        · simp only [updV, if_true, Option.some.injEq, Value.slice.injEq, Addr.mk.injEq, and_true] at hb'
          obtain ⟨c, h1, _, h3, _⟩ := hJ.one _ (by simpa [updV] using hc')
          simp only [Value.slice.injEq, Option.some.injEq, Addr.mk.injEq, and_true] at h1
          omega
        · exact hJ.ne2 g' cap' c' (by simpa [updV] using hg') (by simpa [updV] using hc')
    | 1, ho =>
      rw [hL] at ho
      injection ho with ho
      subst ho
      have e0 := (frame_none (l := L) (k := 0) (a := a) (vals := vals) (t := 11) fun j o ho hd => by rw [hL11 j o ho hd]; exact n8 (by decide)).trans h11
      refine ⟨tv, w, .inl ?_, hJ.read (i := 1) rfl hvn (by decide) (by decide) (by decide) (by decide) (by decide)⟩
      generalize (frameF vals 0 L a).eval = ev at e0
      go_simp
    | 2, ho =>
      rw [hL] at ho
      injection ho with ho
      subst ho
      have e0 := (other 17 fun o h => (hL' o h).2).trans h17
      refine ⟨.int .i64 kp, w, .inl ?_, hJ.read (i := 2) rfl hvn (by decide) (by decide) (by decide) (by decide) (by decide)⟩
      generalize (frameF vals 0 L a).eval = ev at e0
      go_simp
    | 3, ho =>
      rw [hL] at ho
      injection ho with ho
      subst ho
      obtain ⟨v0, hv0⟩ := hdep { on := 1, ground := Ground.data } (by simp) rfl
      have e0 := same 1 114 v0 _ (by rw [hL]; rfl) rfl hv0 (by decide)
      obtain ⟨v1, hv1⟩ := hdep { on := 2, ground := Ground.data } (by simp) rfl
      have e1 := same 2 115 v1 _ (by rw [hL]; rfl) rfl hv1 (by decide)
      rw [hJ.pure 1 v0 _ hv0 rfl] at e0
      rw [hJ.pure 2 v1 _ hv1 rfl] at e1
      have hrun := hs3 w
      refine ⟨s3, w, .inl ?_, hJ.read (i := 3) rfl hvn (by decide) (by decide) (by decide) (by decide) (by decide)⟩
      generalize (frameF vals 0 L a).eval = ev at e0 e1
      simp [execOp, e0, e1, hrun, Result.andThen]
    | 4, ho =>
      rw [hL] at ho
      injection ho with ho
      subst ho
      obtain ⟨v0, hv0⟩ := hdep { on := 0, ground := Ground.data } (by simp) rfl
      have e0 := same 0 113 v0 _ (by rw [hL]; rfl) rfl hv0 (by decide)
      obtain ⟨v1, hv1⟩ := hdep { on := 3, ground := Ground.data } (by simp) rfl
      have e1 := same 3 116 v1 _ (by rw [hL]; rfl) rfl hv1 (by decide)
      rw [hJ.pure 3 v1 _ hv1 rfl] at e1
      obtain ⟨b, hb, hb1, hb2, hb3⟩ := hJ.lit v0 hv0
      rw [hb] at e0
      rw [hb] at hv0
      obtain ⟨g, cap, w', hrun, hg, hgb, how⟩ := happ w b hJ.b hb1 hb2 (hb3 hvn)
      have n7 : vals 7 = none := by
        cases h7 : vals 7 with
        | none => rfl
        | some u =>
          obtain ⟨⟨v, hv⟩, _⟩ := hJ.late u h7
          rw [hvn] at hv; cases hv
      refine ⟨.slice (some ⟨g, 0, none⟩) kp cap, w', .inl ?_, ?_⟩
      · generalize (frameF vals 0 L a).eval = ev at e0 e1
        simp only [execOp, resolve, invoke, builtin, Sem.run_bind, Sem.run_pure, Result.andThen_ok, List.map_toArray, List.map_cons, List.map_nil, e0, e1, hrun]
      · refine ⟨hJ.b.grown hg hW (fun k hk => by cases hk; exact hb1), fun j v u hv hu => ?_, fun v hv => ?_, fun v hv => ?_, fun v hv => ?_, fun v hv => ?_, fun u hu => ?_, fun u hu => ?_, fun b' c' hb' hc' => ?_, fun g' cap' c' hg' hc' => ?_⟩
        · by_cases hj : j = 4
          · subst hj; simp [pv31] at hu
          · exact hJ.pure j v u (by simpa [updV, hj] using hv) hu
        · obtain ⟨b', h1, h2, h3, h4⟩ := hJ.lit v (by simpa [updV] using hv)
          exact ⟨b', h1, h2, Nat.lt_of_lt_of_le h3 hg.size, fun h => by simp [updV] at h⟩
        · simp only [updV, if_true, Option.some.injEq] at hv
          refine ⟨g, cap, hv.symm, ?_, ?_, fun _ => hv ▸ how⟩
          · rcases hgb with rfl | ⟨rfl, _⟩ <;> omega
          · have := hg.size
            rcases hgb with rfl | ⟨rfl, _⟩ <;> omega
        · have hv' : vals 6 = some v := by simpa [updV] using hv
          obtain ⟨c, rfl, h2, h3, h4⟩ := hJ.one v hv'
          have hne : b ≠ c := hJ.ne1 b c hv0 hv'
          exact ⟨c, rfl, h2, Nat.lt_of_lt_of_le h3 hg.size, (hg.block c h3 (by simp; omega)).trans h4⟩
        · have h7 : vals 7 = some v := by simpa [updV] using hv
          rw [n7] at h7; cases h7
        · have h7 : vals 7 = some u := by simpa [updV] using hu
          rw [n7] at h7; cases h7
        · have h8 : vals 8 = some u := by simpa [updV] using hu
          rw [n8 (by decide)] at h8; cases h8
        · exact hJ.ne1 b' c' (by simpa [updV] using hb') (by simpa [updV] using hc')
        · simp only [updV, if_true, Option.some.injEq, Value.slice.injEq, Addr.mk.injEq, and_true, true_and] at hg'
          have hc2 : vals 6 = some (.slice (some ⟨c', 0, none⟩) 1 1) := by simpa [updV] using hc'
          obtain ⟨c, h1, _, h3, _⟩ := hJ.one _ hc2
          simp only [Value.slice.injEq, Option.some.injEq, Addr.mk.injEq, and_true] at h1
          have hne : b ≠ c' := hJ.ne1 b c' hv0 hc2
          obtain ⟨rfl, _⟩ := hg'
          rcases hgb with rfl | ⟨rfl, _⟩ <;> omega
    | 5, ho =>
      rw [hL] at ho
      injection ho with ho
      subst ho
      have e0 := (other 18 fun o h => (hL' o h).1).trans h18
      have k1 := (hJ.b.cell (p := ⟨xb, 0, none⟩) (World.block_lt_of_cell? W _ x1)).trans x1
      have k2 := (hJ.b.cell (p := ⟨xb, 1, none⟩) (World.block_lt_of_cell? W _ x2)).trans x2
      refine ⟨.agg #[.int .i64 m, .slice (some ⟨kg, 0, none⟩) kn kc], w, .inl ?_, hJ.read (i := 5) rfl hvn (by decide) (by decide) (by decide) (by decide) (by decide)⟩
      generalize (frameF vals 0 L a).eval = ev at e0
      go_simp
    | 6, ho =>
      rw [hL] at ho
      injection ho with ho
      subst ho
      obtain ⟨v0, hv0⟩ := hdep { on := 5, ground := Ground.data } (by simp) rfl
      have e0 := same 5 118 v0 _ (by rw [hL]; rfl) rfl hv0 (by decide)
      rw [hJ.pure 5 v0 _ hv0 rfl] at e0
      have n7 : vals 7 = none := by
        cases h7 : vals 7 with
        | none => rfl
        | some u =>
          obtain ⟨_, v, hv⟩ := hJ.late u h7
          rw [hvn] at hv; cases hv
      refine ⟨.slice (some ⟨w.heap.size, 0, none⟩) 1 1, w.alloc (.cells #[.int .i64 m, .slice (some ⟨kg, 0, none⟩) kn kc] 54), .inl ?_, ?_⟩
      · generalize (frameF vals 0 L a).eval = ev at e0
        clear hQ happ hs3 hdep n7 n8 hL hL' hL11 same other hvn hv0 hJ hW x1 x2 h18 h11 h17 hsz hkp ho
        obtain ⟨i1, hi1, hy0, hy1, hy2⟩ := info_parts Try.infoTree
        have hb := run_buildSlice (P := Try.prog) w 48 54 1 #[(0, .agg #[.int .i64 m, .slice (some ⟨kg, 0, none⟩) kn kc])] #[.int .i64 m, .slice (some ⟨kg, 0, none⟩) kn kc] i1 _ Try.underlying48 hi1 hy0 (by rw [hy1]; omega) (by rw [hy1]; omega) (by rw [hy1]; kernel_rfl)
        simp only [execOp, Sem.run_bind, Sem.run_pure, Result.andThen_ok, List.map_toArray, List.map_cons, List.map_nil, e0, hb]
      · have hold : ∀ b, b < w.heap.size → (w.alloc (.cells #[.int .i64 m, .slice (some ⟨kg, 0, none⟩) kn kc] 54)).heap[b]? = w.heap[b]? := fun b hb => (World.grownBy_alloc w _ none).block b hb (by simp)
        refine ⟨hJ.b.alloc hW _, fun j v u hv hu => ?_, fun v hv => ?_, fun v hv => ?_, fun v hv => ?_, fun v hv => ?_, fun u hu => ?_, fun u hu => ?_, fun b' c' hb' hc' => ?_, fun g' cap' c' hg' hc' => ?_⟩
        · by_cases hj : j = 6
          · subst hj; simp [pv31] at hu
          · exact hJ.pure j v u (by simpa [updV, hj] using hv) hu
        · obtain ⟨b', h1, h2, h3, h4⟩ := hJ.lit v (by simpa [updV] using hv)
          exact ⟨b', h1, h2, by simp; omega, fun h => (hold b' h3).trans (h4 (by simpa [updV] using h))⟩
        · obtain ⟨g, cap, rfl, h2, h3, h4⟩ := hJ.front v (by simpa [updV] using hv)
          exact ⟨g, cap, rfl, h2, by simp; omega, fun h7 => row_same (h4 (by simpa [updV] using h7)) (hold g h3)⟩
        · simp only [updV, if_true, Option.some.injEq] at hv
          exact ⟨w.heap.size, hv.symm, hW, by simp, heap_alloc_new _ _⟩
        · have h7 : vals 7 = some v := by simpa [updV] using hv
          rw [n7] at h7; cases h7
        · have h7 : vals 7 = some u := by simpa [updV] using hu
          rw [n7] at h7; cases h7
        · have h8 : vals 8 = some u := by simpa [updV] using hu
          rw [n8 (by decide)] at h8; cases h8
        · obtain ⟨b2, h1, _, h3, _⟩ := hJ.lit _ (by simpa [updV] using hb')
          simp only [Value.slice.injEq, Option.some.injEq, Addr.mk.injEq, and_true] at h1
          simp only [updV, if_true, Option.some.injEq, Value.slice.injEq, Addr.mk.injEq, and_true] at hc'
          omega
        · obtain ⟨b2, cap2, h1, _, h3, _⟩ := hJ.front _ (by simpa [updV] using hg')
          simp only [Value.slice.injEq, Option.some.injEq, Addr.mk.injEq, and_true, true_and] at h1
          simp only [updV, if_true, Option.some.injEq, Value.slice.injEq, Addr.mk.injEq, and_true] at hc'
          omega
    | 7, ho =>
      rw [hL] at ho
      injection ho with ho
      subst ho
      obtain ⟨v0, hv0⟩ := hdep { on := 4, ground := Ground.data } (by simp) rfl
      have e0 := same 4 117 v0 _ (by rw [hL]; rfl) rfl hv0 (by decide)
      obtain ⟨v1, hv1⟩ := hdep { on := 6, ground := Ground.data } (by simp) rfl
      have e1 := same 6 119 v1 _ (by rw [hL]; rfl) rfl hv1 (by decide)
      obtain ⟨g, cap, rfl, hg1, hg2, hg3⟩ := hJ.front v0 hv0
      obtain ⟨c, rfl, hc1, hc2, hc3⟩ := hJ.one v1 hv1
      have hne : g ≠ c := hJ.ne2 g cap c hv0 hv1
      have own := hg3 hvn
      obtain ⟨i1, hi1, hy0, hy1, hy2⟩ := info_parts Try.infoTree
      obtain ⟨g2, cap2, w', hrun, ho2, hgr, hat, hlt⟩ := run_append_lies (P := Try.prog) w 48 48 W.heap.size 54 i1 _ 2 32 Try.underlying48 hi1 hy0 hy1 hy2 rfl (by omega) (.slice (some ⟨g, 0, none⟩) kp cap) kp (flatTn KL) own ⟨c, 0, none⟩ 1 1 [.int .i64 m, .slice (some ⟨kg, 0, none⟩) kn kc] rfl (World.news_of_block (cs := #[.int .i64 m, .slice (some ⟨kg, 0, none⟩) kn kc]) (t := 54) (fr := (0, 0)) hc3) (by simp [Value.oneCell']) (by omega) (by simp only [maxLen]; omega) (by omega) hW w.heap.size rfl
      refine ⟨.slice (some ⟨g2, 0, none⟩) (kp + 1) cap2, w', .inl ?_, ?_⟩
      · generalize (frameF vals 0 L a).eval = ev at e0 e1
        simp only [execOp, resolve, invoke, builtin, Sem.run_bind, Sem.run_pure, Result.andThen_ok, List.map_toArray, List.map_cons, List.map_nil, e0, e1, hrun]
      · refine ⟨hJ.b.grown hgr hW (fun k hk => by cases hk; exact hg1), fun j v u hv hu => ?_, fun v hv => ?_, fun v hv => ?_, fun v hv => ?_, fun v hv => ?_, fun u hu => ?_, fun u hu => ?_, fun b' c' hb' hc' => ?_, fun g' cap' c' hg' hc' => ?_⟩
        · by_cases hj : j = 7
          · subst hj; simp [pv31] at hu
          · exact hJ.pure j v u (by simpa [updV, hj] using hv) hu
        · obtain ⟨b', h1, h2, h3, h4⟩ := hJ.lit v (by simpa [updV] using hv)
          exact ⟨b', h1, h2, Nat.lt_of_lt_of_le h3 hgr.size, fun h => by rw [show updV vals 7 (.slice (some ⟨g2, 0, none⟩) (kp + 1) cap2) 4 = vals 4 by simp [updV], hv0] at h; cases h⟩
        · obtain ⟨g', cap', rfl, h2, h3, h4⟩ := hJ.front v (by simpa [updV] using hv)
          exact ⟨g', cap', rfl, h2, Nat.lt_of_lt_of_le h3 hgr.size, fun h7 => by simp [updV] at h7⟩
        · have hv' : vals 6 = some v := by simpa [updV] using hv
          rw [hv1] at hv'
          cases hv'
          exact ⟨c, rfl, hc1, Nat.lt_of_lt_of_le hc2 hgr.size, (hgr.block c hc2 (by simp [Value.ownBlock]; omega)).trans hc3⟩
        · simp only [updV, if_true, Option.some.injEq] at hv
          refine ⟨g2, cap2, hv.symm, ?_, hlt, hv ▸ ho2⟩
          rcases hat with e | e
          · simp only [Value.ownBlock, Option.some.injEq] at e
            omega
          · omega
        · exact ⟨⟨_, by simpa [updV] using hv0⟩, _, by simpa [updV] using hv1⟩
        · have h8 : vals 8 = some u := by simpa [updV] using hu
          rw [n8 (by decide)] at h8; cases h8
        · exact hJ.ne1 b' c' (by simpa [updV] using hb') (by simpa [updV] using hc')
        · exact hJ.ne2 g' cap' c' (by simpa [updV] using hg') (by simpa [updV] using hc')
    | 8, ho =>
      rw [hL] at ho
      injection ho with ho
      subst ho
      obtain ⟨v0, hv0⟩ := hdep { on := 7, ground := Ground.data } (by simp) rfl
      have e0 := same 7 120 v0 _ (by rw [hL]; rfl) rfl hv0 (by decide)
      have hall : ∀ i, i < 8 → ∃ v, vals i = some v := fun i hi => hdep { on := i, ground := Ground.phase } (by
        match i, hi with
        | 0, _ | 1, _ | 2, _ | 3, _ | 4, _ | 5, _ | 6, _ | 7, _ => simp
        | i + 8, hi => omega) rfl
      refine ⟨v0, w, .inl ?_, ?_⟩
      · generalize (frameF vals 0 L a).eval = ev at e0
        go_simp
      · refine ⟨hJ.b, fun j v u hv hu => ?_, fun v hv => ?_, fun v hv => ?_, fun v hv => ?_, fun v hv => ?_, fun u hu => ?_, fun u hu => ?_, fun b' c' hb' hc' => ?_, fun g' cap' c' hg' hc' => ?_⟩
        · by_cases hj : j = 8
          · subst hj; simp [pv31] at hu
          · exact hJ.pure j v u (by simpa [updV, hj] using hv) hu
        · obtain ⟨b', h1, h2, h3, h4⟩ := hJ.lit v (by simpa [updV] using hv)
          exact ⟨b', h1, h2, h3, fun h => h4 (by simpa [updV] using h)⟩
        · obtain ⟨g, cap, rfl, h2, h3, h4⟩ := hJ.front v (by simpa [updV] using hv)
          exact ⟨g, cap, rfl, h2, h3, fun h7 => h4 (by simpa [updV] using h7)⟩
        · exact hJ.one v (by simpa [updV] using hv)
        · exact hJ.both v (by simpa [updV] using hv)
        · simpa [updV] using hJ.late u (by simpa [updV] using hu)
        · simp only [updV, if_true, Option.some.injEq] at hu
          subst hu
          refine ⟨by simpa [updV] using hv0, fun i hi => ?_⟩
          obtain ⟨v, hv⟩ := hall i hi
          exact ⟨v, by simp [updV, show i ≠ 8 by omega, hv]⟩
        · exact hJ.ne1 b' c' (by simpa [updV] using hb') (by simpa [updV] using hc')
        · exact hJ.ne2 g' cap' c' (by simpa [updV] using hg') (by simpa [updV] using hc')
    | i + 9, ho => simp [hL] at ho

end Go.Proofs.Ytgcpllnjdnahjaa

/- A region of pollardingref6.Parse that draws its order: the state that comes next is put on the stack. -/
namespace Go.Proofs.Ytgcpllnjdnahjaa
open Go.RowKit

noncomputable def ops33 : List Oper := findR 33 (Try.f5.body.getD .skip)

def pv33 (tb rb2 gb go K gc sb n sc kp qs hb h0 N hc Lf gg : Nat) : Nat → Option Value
  | 0 => some (.slice (some ⟨sb, 0, none⟩) n sc)
  | 1 => some (.pointer (some ⟨tb, 1, none⟩))
  | 2 => some (.slice (some ⟨gb, go, none⟩) K gc)
  | 3 => some (.slice (some ⟨sb, 0, none⟩) n sc)
  | 4 => some (.int .i64 kp)
  | 5 => some (.pointer (some ⟨sb, kp, none⟩))
  | 6 => some (.int .i64 qs)
  | 7 => some (.pointer (some ⟨gb, go + qs, none⟩))
  | 8 => some (.slice (some ⟨hb, h0, none⟩) N hc)
  | 9 => some (.pointer (some ⟨rb2, 0, none⟩))
  | 10 => some (.int .i64 Lf)
  | 11 => some (.pointer (some ⟨hb, h0 + Lf, none⟩))
  | 12 => some (.int .i64 gg)
  | _ => none

def pre33 : Nat → List Nat
  | 2 => [1] | 5 => [3, 4] | 6 => [5] | 7 => [2, 6] | 8 => [7] | 10 => [9] | 11 => [8, 10] | 12 => [11] | 13 => [12] | 14 => [0, 13] | _ => []

structure J33 (W : World) (pv : Nat → Option Value) (B sb n gg : Nat) (xs : List Value) (vals : Nat → Option Value) (w : World) : Prop where
  b : vals 14 = none → Below W.heap.size W w
  pure : ∀ j v u, vals j = some v → pv j = some u → v = u
  one : ∀ v, vals 13 = some v → ∃ c, v = .slice (some ⟨c, 0, none⟩) 1 1 ∧ (vals 14 = none → w.heap[c]? = some (.cells #[.int .i64 gg] 3 (0, 0)))
  both : ∀ v, vals 14 = some v → ∃ g cap wm, v = .slice (some ⟨g, 0, none⟩) (n + 1) cap ∧ Below W.heap.size W wm ∧ wm.grownBy w (some sb) ∧ (g = sb ∨ g = wm.heap.size) ∧ g < w.heap.size ∧ w.ownsRow B 3 1 v (n + 1) (xs ++ [.int .i64 gg])
  back : ∀ i v, vals i = some v → ∀ j ∈ pre33 i, ∃ u, vals j = some u
  fin : ∀ u, vals 15 = some u → vals 14 = some u ∧ ∀ i, i < 15 → ∃ v, vals i = some v

theorem J33.all {W : World} {pv : Nat → Option Value} {B sb n gg : Nat} {xs : List Value} {vals : Nat → Option Value} {w : World} (h : J33 W pv B sb n gg xs vals w) {v : Value} (hv : vals 14 = some v) : ∀ i, i < 14 → ∃ u, vals i = some u := by
  obtain ⟨_, h0⟩ := h.back 14 v hv 0 (by simp [pre33])
  obtain ⟨_, h13⟩ := h.back 14 v hv 13 (by simp [pre33])
  obtain ⟨_, h12⟩ := h.back 13 _ h13 12 (by simp [pre33])
  obtain ⟨_, h11⟩ := h.back 12 _ h12 11 (by simp [pre33])
  obtain ⟨_, h8⟩ := h.back 11 _ h11 8 (by simp [pre33])
  obtain ⟨_, h10⟩ := h.back 11 _ h11 10 (by simp [pre33])
  obtain ⟨_, h9⟩ := h.back 10 _ h10 9 (by simp [pre33])
  obtain ⟨_, h7⟩ := h.back 8 _ h8 7 (by simp [pre33])
  obtain ⟨_, h2⟩ := h.back 7 _ h7 2 (by simp [pre33])
  obtain ⟨_, h6⟩ := h.back 7 _ h7 6 (by simp [pre33])
  obtain ⟨_, h5⟩ := h.back 6 _ h6 5 (by simp [pre33])
  obtain ⟨_, h3⟩ := h.back 5 _ h5 3 (by simp [pre33])
  obtain ⟨_, h4⟩ := h.back 5 _ h5 4 (by simp [pre33])
  obtain ⟨_, h1⟩ := h.back 2 _ h2 1 (by simp [pre33])
  intro i hi
  match i, hi with
  | 0, _ => exact ⟨_, h0⟩
  | 1, _ => exact ⟨_, h1⟩
  | 2, _ => exact ⟨_, h2⟩
  | 3, _ => exact ⟨_, h3⟩
  | 4, _ => exact ⟨_, h4⟩
  | 5, _ => exact ⟨_, h5⟩
  | 6, _ => exact ⟨_, h6⟩
  | 7, _ => exact ⟨_, h7⟩
  | 8, _ => exact ⟨_, h8⟩
  | 9, _ => exact ⟨_, h9⟩
  | 10, _ => exact ⟨_, h10⟩
  | 11, _ => exact ⟨_, h11⟩
  | 12, _ => exact ⟨_, h12⟩
  | 13, _ => exact ⟨_, h13⟩
  | i + 14, hi => omega

theorem back_upd {vals : Nat → Option Value} {i : Nat} {u : Value} (h : ∀ i v, vals i = some v → ∀ j ∈ pre33 i, ∃ u, vals j = some u) (hb : ∀ j ∈ pre33 i, ∃ u, vals j = some u) : ∀ k v, updV vals i u k = some v → ∀ j ∈ pre33 k, ∃ u', updV vals i u j = some u' := by
  intro k v hv j hj
  by_cases hji : j = i
  · exact ⟨u, by simp [updV, hji]⟩
  · have : ∃ u', vals j = some u' := by
      by_cases hk : k = i
      · subst hk; exact hb j hj
      · exact h k v (by simpa [updV, hk] using hv) j hj
    obtain ⟨u', hu'⟩ := this
    exact ⟨u', by simp [updV, hji, hu']⟩

theorem J33.n14 {W : World} {pv : Nat → Option Value} {B sb n gg : Nat} {xs : List Value} {vals : Nat → Option Value} {w : World} (h : J33 W pv B sb n gg xs vals w) {i : Nat} (hn : vals i = none) (hi : i < 14) : vals 14 = none := by
  cases h14 : vals 14 with
  | none => rfl
  | some v =>
    obtain ⟨u, hu⟩ := h.all h14 i hi
    rw [hn] at hu; cases hu
theorem J33.n15 {W : World} {pv : Nat → Option Value} {B sb n gg : Nat} {xs : List Value} {vals : Nat → Option Value} {w : World} (h : J33 W pv B sb n gg xs vals w) {i : Nat} (hn : vals i = none) (hi : i < 15) : vals 15 = none := by
  cases h15 : vals 15 with
  | none => rfl
  | some v =>
    obtain ⟨u, hu⟩ := (h.fin v h15).2 i hi
    rw [hn] at hu; cases hu

theorem J33.read {W : World} {pv : Nat → Option Value} {B sb n gg : Nat} {xs : List Value} {vals : Nat → Option Value} {w : World} (h : J33 W pv B sb n gg xs vals w) {i : Nat} {u : Value} (hp : pv i = some u) (hn : vals i = none) (hi : i < 13) (hb : ∀ j ∈ pre33 i, ∃ u, vals j = some u) : J33 W pv B sb n gg xs (updV vals i u) w := by
  have e : ∀ j, j ≠ i → updV vals i u j = vals j := fun j hj => by simp [updV, hj]
  refine ⟨?_, fun j v u' hv hu => ?_, ?_, ?_, back_upd h.back hb, ?_⟩
  · rw [e 14 (by omega)]; exact h.b
  · by_cases hj : j = i
    · subst hj
      rw [hp] at hu
      simp only [updV, if_true, Option.some.injEq] at hv hu
      rw [← hv, hu]
    · rw [e j hj] at hv
      exact h.pure j v u' hv hu
  · rw [e 13 (by omega), e 14 (by omega)]; exact h.one
  · rw [e 14 (by omega)]; exact h.both
  · rw [e 15 (by omega)]
    intro u' hu
    rw [h.n15 hn (by omega)] at hu; cases hu

set_option maxRecDepth 100000 in
set_option maxHeartbeats 3200000 in
theorem reg33 {a : Act} {W : World} {Q : Exit → Act → World → Prop} {B tb rb2 gb go K gc sb n sc kp qs hb h0 N hc Lf gg : Nat} {xs : List Value} (hsz : a.tmps.size = 144) (h8 : a.eval (.tmp 8) = .pointer (some ⟨tb, 0, none⟩)) (h16 : a.eval (.tmp 16) = .pointer (some ⟨rb2, 0, none⟩)) (h10 : a.eval (.tmp 10) = .slice (some ⟨sb, 0, none⟩) n sc) (h17 : a.eval (.tmp 17) = .int .i64 kp)
    (x1 : W.cell? ⟨tb, 1, none⟩ = some (.slice (some ⟨gb, go, none⟩) K gc)) (x2 : W.cell? ⟨sb, kp, none⟩ = some (.int .i64 qs)) (x3 : W.cell? ⟨gb, go + qs, none⟩ = some (.slice (some ⟨hb, h0, none⟩) N hc)) (x4 : W.cell? ⟨rb2, 0, none⟩ = some (.int .i64 Lf)) (x5 : W.cell? ⟨hb, h0 + Lf, none⟩ = some (.int .i64 gg))
    (hkn : kp < n) (hqK : qs < K) (hLN : Lf < N) (hn : n ≤ 1000) (hB : B ≤ W.heap.size) (own : W.ownsRow B 3 1 (.slice (some ⟨sb, 0, none⟩) n sc) n xs)
    (hQ : ∀ (vals : Nat → Option Value) (w : World), J33 W (pv33 tb rb2 gb go K gc sb n sc kp qs hb h0 N hc Lf gg) B sb n gg xs vals w → (∀ i, i < 16 → ∃ v, vals i = some v) → Q .normal (frameF vals 0 ops33 a) w) : (Code.region 33 ops33.toArray true).wp Try.prog Q a W := by
  obtain ⟨L, hL⟩ : ∃ L, L = ops33 := ⟨_, rfl⟩
  rw [← hL] at hQ ⊢
  simp only [ops33, Try.f5, Option.getD_some, findR, Nat.reduceBEq, cond_true, cond_false, List.nil_append, List.append_nil] at hL
  have hL' : ∀ o ∈ L, o.dst ≠ some 8 ∧ o.dst ≠ some 16 ∧ o.dst ≠ some 17 := by simp [hL]
  have hL10 : ∀ j o, L[j]? = some o → o.dst = some 10 → j = 15 := by
    intro j o ho hd
    rw [hL] at ho
    match j, ho with
    | 0, ho | 1, ho | 2, ho | 3, ho | 4, ho | 5, ho | 6, ho | 7, ho | 8, ho | 9, ho | 10, ho | 11, ho | 12, ho | 13, ho | 14, ho => injection ho with ho; subst ho; simp at hd
    | 15, ho => rfl
    | j + 16, ho => simp at ho
  refine wp_region_joint (J33 W (pv33 tb rb2 gb go K gc sb n sc kp qs hb h0 N hc Lf gg) B sb n gg xs) (by kernel_rfl) (by rw [hL]; kernel_rfl) (by rw [hL]; kernel_rfl) (by rw [hL]; kernel_rfl) ?_ ?_ (fun vals w hJ hall => hQ vals w hJ (by rw [hL] at hall; exact hall))
  · exact ⟨fun _ => (Below.refl _ _).drew, fun _ _ _ h => (by cases h), fun _ h => (by cases h), fun _ h => (by cases h), fun _ _ h => (by cases h), fun _ h => (by cases h)⟩
  · intro i o ho vals w hJ hvn hdep
    have same : ∀ (j : Nat) (t : Tmp) (v : Value) (oj : Oper), L[j]? = some oj → oj.dst = some t → vals j = some v → t < 144 → (frameF vals 0 L a).eval (.tmp t) = v := fun j t v oj h1 h2 h3 h4 => frame_same (by rw [hL]; kernel_rfl) h1 h2 (by rw [Nat.zero_add]; exact h3) (by rw [hsz]; exact h4)
    have other : ∀ t, (∀ o ∈ L, o.dst ≠ some t) → (frameF vals 0 L a).eval (.tmp t) = a.eval (.tmp t) := fun t h => frame_other h
    match i, ho with
    | 0, ho =>
      rw [hL] at ho
      injection ho with ho
      subst ho
      have e9 := (frame_none (l := L) (k := 0) (a := a) (vals := vals) (t := 10) fun j o ho hd => by rw [hL10 j o ho hd]; exact hJ.n15 hvn (by decide)).trans h10
      refine ⟨.slice (some ⟨sb, 0, none⟩) n sc, w, .inl ?_, hJ.read (i := 0) rfl hvn (by decide) (fun j hj => by simp [pre33] at hj)⟩
      generalize (frameF vals 0 L a).eval = ev at e9
      clear hQ hdep hL hL' hL10 same other hvn own hJ x1 x2 x3 x4 x5 h8 h16 h10 h17 hsz ho
      go_simp
    | 1, ho =>
      rw [hL] at ho
      injection ho with ho
      subst ho
      have e9 := (other 8 fun o h => (hL' o h).1).trans h8
      refine ⟨.pointer (some ⟨tb, 1, none⟩), w, .inl ?_, hJ.read (i := 1) rfl hvn (by decide) (fun j hj => by simp [pre33] at hj)⟩
      generalize (frameF vals 0 L a).eval = ev at e9
      clear hQ hdep hL hL' hL10 same other hvn own hJ x1 x2 x3 x4 x5 h8 h16 h10 h17 hsz ho
      go_simp
    | 2, ho =>
      rw [hL] at ho
      injection ho with ho
      subst ho
      obtain ⟨v0, hv0⟩ := hdep { on := 1, ground := Ground.data } (by simp) rfl
      have e0 := same 1 128 v0 _ (by rw [hL]; rfl) rfl hv0 (by decide)
      rw [hJ.pure 1 v0 _ hv0 rfl] at e0
      have k1 := ((hJ.b (hJ.n14 hvn (by decide))).cell (p := ⟨tb, 1, none⟩) (World.block_lt_of_cell? W _ x1)).trans x1
      refine ⟨.slice (some ⟨gb, go, none⟩) K gc, w, .inl ?_, hJ.read (i := 2) rfl hvn (by decide) (fun j hj => by simp only [pre33, List.mem_cons, List.not_mem_nil, or_false] at hj; subst hj; exact ⟨v0, hv0⟩)⟩
      generalize (frameF vals 0 L a).eval = ev at e0
      clear hQ hdep hL hL' hL10 same other hvn own hJ x1 x2 x3 x4 x5 h8 h16 h10 h17 hsz ho
      go_simp
    | 3, ho =>
      rw [hL] at ho
      injection ho with ho
      subst ho
      have e9 := (frame_none (l := L) (k := 0) (a := a) (vals := vals) (t := 10) fun j o ho hd => by rw [hL10 j o ho hd]; exact hJ.n15 hvn (by decide)).trans h10
      refine ⟨.slice (some ⟨sb, 0, none⟩) n sc, w, .inl ?_, hJ.read (i := 3) rfl hvn (by decide) (fun j hj => by simp [pre33] at hj)⟩
      generalize (frameF vals 0 L a).eval = ev at e9
      clear hQ hdep hL hL' hL10 same other hvn own hJ x1 x2 x3 x4 x5 h8 h16 h10 h17 hsz ho
      go_simp
    | 4, ho =>
      rw [hL] at ho
      injection ho with ho
      subst ho
      have e9 := (other 17 fun o h => (hL' o h).2.2).trans h17
      refine ⟨.int .i64 kp, w, .inl ?_, hJ.read (i := 4) rfl hvn (by decide) (fun j hj => by simp [pre33] at hj)⟩
      generalize (frameF vals 0 L a).eval = ev at e9
      clear hQ hdep hL hL' hL10 same other hvn own hJ x1 x2 x3 x4 x5 h8 h16 h10 h17 hsz ho
      go_simp
    | 5, ho =>
      rw [hL] at ho
      injection ho with ho
      subst ho
      obtain ⟨v0, hv0⟩ := hdep { on := 3, ground := Ground.data } (by simp) rfl
      have e0 := same 3 130 v0 _ (by rw [hL]; rfl) rfl hv0 (by decide)
      rw [hJ.pure 3 v0 _ hv0 rfl] at e0
      obtain ⟨v1, hv1⟩ := hdep { on := 4, ground := Ground.data } (by simp) rfl
      have e1 := same 4 131 v1 _ (by rw [hL]; rfl) rfl hv1 (by decide)
      rw [hJ.pure 4 v1 _ hv1 rfl] at e1
      have y0 : (0 : Int) ≤ (kp : Int) := Int.natCast_nonneg _
      have y1 : (kp : Int) < (n : Int) := by omega
      refine ⟨.pointer (some ⟨sb, kp, none⟩), w, .inl ?_, hJ.read (i := 5) rfl hvn (by decide) (fun j hj => by simp only [pre33, List.mem_cons, List.not_mem_nil, or_false] at hj; rcases hj with rfl | rfl; exact ⟨v0, hv0⟩; exact ⟨v1, hv1⟩)⟩
      generalize (frameF vals 0 L a).eval = ev at e0 e1
      clear hQ hdep hL hL' hL10 same other hvn own hJ x1 x2 x3 x4 x5 h8 h16 h10 h17 hsz ho
      go_simp
    | 6, ho =>
      rw [hL] at ho
      injection ho with ho
      subst ho
      obtain ⟨v0, hv0⟩ := hdep { on := 5, ground := Ground.data } (by simp) rfl
      have e0 := same 5 132 v0 _ (by rw [hL]; rfl) rfl hv0 (by decide)
      rw [hJ.pure 5 v0 _ hv0 rfl] at e0
      have k1 := ((hJ.b (hJ.n14 hvn (by decide))).cell (p := ⟨sb, kp, none⟩) (World.block_lt_of_cell? W _ x2)).trans x2
      refine ⟨.int .i64 qs, w, .inl ?_, hJ.read (i := 6) rfl hvn (by decide) (fun j hj => by simp only [pre33, List.mem_cons, List.not_mem_nil, or_false] at hj; subst hj; exact ⟨v0, hv0⟩)⟩
      generalize (frameF vals 0 L a).eval = ev at e0
      clear hQ hdep hL hL' hL10 same other hvn own hJ x1 x2 x3 x4 x5 h8 h16 h10 h17 hsz ho
      go_simp
    | 7, ho =>
      rw [hL] at ho
      injection ho with ho
      subst ho
      obtain ⟨v0, hv0⟩ := hdep { on := 2, ground := Ground.data } (by simp) rfl
      have e0 := same 2 129 v0 _ (by rw [hL]; rfl) rfl hv0 (by decide)
      rw [hJ.pure 2 v0 _ hv0 rfl] at e0
      obtain ⟨v1, hv1⟩ := hdep { on := 6, ground := Ground.data } (by simp) rfl
      have e1 := same 6 133 v1 _ (by rw [hL]; rfl) rfl hv1 (by decide)
      rw [hJ.pure 6 v1 _ hv1 rfl] at e1
      have y0 : (0 : Int) ≤ (qs : Int) := Int.natCast_nonneg _
      have y1 : (qs : Int) < (K : Int) := by omega
      refine ⟨.pointer (some ⟨gb, go + qs, none⟩), w, .inl ?_, hJ.read (i := 7) rfl hvn (by decide) (fun j hj => by simp only [pre33, List.mem_cons, List.not_mem_nil, or_false] at hj; rcases hj with rfl | rfl; exact ⟨v0, hv0⟩; exact ⟨v1, hv1⟩)⟩
      generalize (frameF vals 0 L a).eval = ev at e0 e1
      clear hQ hdep hL hL' hL10 same other hvn own hJ x1 x2 x3 x4 x5 h8 h16 h10 h17 hsz ho
      go_simp
    | 8, ho =>
      rw [hL] at ho
      injection ho with ho
      subst ho
      obtain ⟨v0, hv0⟩ := hdep { on := 7, ground := Ground.data } (by simp) rfl
      have e0 := same 7 134 v0 _ (by rw [hL]; rfl) rfl hv0 (by decide)
      rw [hJ.pure 7 v0 _ hv0 rfl] at e0
      have k1 := ((hJ.b (hJ.n14 hvn (by decide))).cell (p := ⟨gb, go + qs, none⟩) (World.block_lt_of_cell? W _ x3)).trans x3
      refine ⟨.slice (some ⟨hb, h0, none⟩) N hc, w, .inl ?_, hJ.read (i := 8) rfl hvn (by decide) (fun j hj => by simp only [pre33, List.mem_cons, List.not_mem_nil, or_false] at hj; subst hj; exact ⟨v0, hv0⟩)⟩
      generalize (frameF vals 0 L a).eval = ev at e0
      clear hQ hdep hL hL' hL10 same other hvn own hJ x1 x2 x3 x4 x5 h8 h16 h10 h17 hsz ho
      go_simp
    | 9, ho =>
      rw [hL] at ho
      injection ho with ho
      subst ho
      have e9 := (other 16 fun o h => (hL' o h).2.1).trans h16
      refine ⟨.pointer (some ⟨rb2, 0, none⟩), w, .inl ?_, hJ.read (i := 9) rfl hvn (by decide) (fun j hj => by simp [pre33] at hj)⟩
      generalize (frameF vals 0 L a).eval = ev at e9
      clear hQ hdep hL hL' hL10 same other hvn own hJ x1 x2 x3 x4 x5 h8 h16 h10 h17 hsz ho
      go_simp
    | 10, ho =>
      rw [hL] at ho
      injection ho with ho
      subst ho
      obtain ⟨v0, hv0⟩ := hdep { on := 9, ground := Ground.data } (by simp) rfl
      have e0 := same 9 136 v0 _ (by rw [hL]; rfl) rfl hv0 (by decide)
      rw [hJ.pure 9 v0 _ hv0 rfl] at e0
      have k1 := ((hJ.b (hJ.n14 hvn (by decide))).cell (p := ⟨rb2, 0, none⟩) (World.block_lt_of_cell? W _ x4)).trans x4
      refine ⟨.int .i64 Lf, w, .inl ?_, hJ.read (i := 10) rfl hvn (by decide) (fun j hj => by simp only [pre33, List.mem_cons, List.not_mem_nil, or_false] at hj; subst hj; exact ⟨v0, hv0⟩)⟩
      generalize (frameF vals 0 L a).eval = ev at e0
      clear hQ hdep hL hL' hL10 same other hvn own hJ x1 x2 x3 x4 x5 h8 h16 h10 h17 hsz ho
      go_simp
    | 11, ho =>
      rw [hL] at ho
      injection ho with ho
      subst ho
      obtain ⟨v0, hv0⟩ := hdep { on := 8, ground := Ground.data } (by simp) rfl
      have e0 := same 8 135 v0 _ (by rw [hL]; rfl) rfl hv0 (by decide)
      rw [hJ.pure 8 v0 _ hv0 rfl] at e0
      obtain ⟨v1, hv1⟩ := hdep { on := 10, ground := Ground.data } (by simp) rfl
      have e1 := same 10 137 v1 _ (by rw [hL]; rfl) rfl hv1 (by decide)
      rw [hJ.pure 10 v1 _ hv1 rfl] at e1
      have y0 : (0 : Int) ≤ (Lf : Int) := Int.natCast_nonneg _
      have y1 : (Lf : Int) < (N : Int) := by omega
      refine ⟨.pointer (some ⟨hb, h0 + Lf, none⟩), w, .inl ?_, hJ.read (i := 11) rfl hvn (by decide) (fun j hj => by simp only [pre33, List.mem_cons, List.not_mem_nil, or_false] at hj; rcases hj with rfl | rfl; exact ⟨v0, hv0⟩; exact ⟨v1, hv1⟩)⟩
      generalize (frameF vals 0 L a).eval = ev at e0 e1
      clear hQ hdep hL hL' hL10 same other hvn own hJ x1 x2 x3 x4 x5 h8 h16 h10 h17 hsz ho
      go_simp
    | 12, ho =>
      rw [hL] at ho
      injection ho with ho
      subst ho
      obtain ⟨v0, hv0⟩ := hdep { on := 11, ground := Ground.data } (by simp) rfl
      have e0 := same 11 138 v0 _ (by rw [hL]; rfl) rfl hv0 (by decide)
      rw [hJ.pure 11 v0 _ hv0 rfl] at e0
      have k1 := ((hJ.b (hJ.n14 hvn (by decide))).cell (p := ⟨hb, h0 + Lf, none⟩) (World.block_lt_of_cell? W _ x5)).trans x5
      refine ⟨.int .i64 gg, w, .inl ?_, hJ.read (i := 12) rfl hvn (by decide) (fun j hj => by simp only [pre33, List.mem_cons, List.not_mem_nil, or_false] at hj; subst hj; exact ⟨v0, hv0⟩)⟩
      generalize (frameF vals 0 L a).eval = ev at e0
      clear hQ hdep hL hL' hL10 same other hvn own hJ x1 x2 x3 x4 x5 h8 h16 h10 h17 hsz ho
      go_simp
    | 13, ho =>
      rw [hL] at ho
      injection ho with ho
      subst ho
      obtain ⟨v0, hv0⟩ := hdep { on := 12, ground := Ground.data } (by simp) rfl
      have e0 := same 12 139 v0 _ (by rw [hL]; rfl) rfl hv0 (by decide)
      rw [hJ.pure 12 v0 _ hv0 rfl] at e0
      have n14 := hJ.n14 hvn (by decide)
      have n15 := hJ.n15 hvn (by decide)
      have hW := (hJ.b n14).size
      refine ⟨.slice (some ⟨w.heap.size, 0, none⟩) 1 1, w.alloc (.cells #[.int .i64 gg] 3), .inl ?_, ?_⟩
      · generalize (frameF vals 0 L a).eval = ev at e0
        clear hQ hdep hL hL' hL10 same other hvn own hJ x1 x2 x3 x4 x5 h8 h16 h10 h17 hsz ho n14 n15 hW
        go_simp
      · refine ⟨fun _ => (hJ.b n14).alloc hW _, fun j v u hv hu => ?_, fun v hv => ?_, fun v hv => ?_, back_upd hJ.back (fun j hj => by simp only [pre33, List.mem_cons, List.not_mem_nil, or_false] at hj; subst hj; exact ⟨v0, hv0⟩), fun u hu => ?_⟩
        · by_cases hj : j = 13
          · subst hj; simp [pv33] at hu
          · exact hJ.pure j v u (by simpa [updV, hj] using hv) hu
        · simp only [updV, if_true, Option.some.injEq] at hv
          exact ⟨w.heap.size, hv.symm, fun _ => heap_alloc_new _ _⟩
        · have h : vals 14 = some v := by simpa [updV] using hv
          rw [n14] at h; cases h
        · have h : vals 15 = some u := by simpa [updV] using hu
          rw [n15] at h; cases h
    | 14, ho =>
      rw [hL] at ho
      injection ho with ho
      subst ho
      obtain ⟨v0, hv0⟩ := hdep { on := 0, ground := Ground.data } (by simp) rfl
      have e0 := same 0 127 v0 _ (by rw [hL]; rfl) rfl hv0 (by decide)
      obtain ⟨v1, hv1⟩ := hdep { on := 13, ground := Ground.data } (by simp) rfl
      have e1 := same 13 140 v1 _ (by rw [hL]; rfl) rfl hv1 (by decide)
      rw [hJ.pure 0 v0 _ hv0 rfl] at e0
      obtain ⟨c, rfl, hc3⟩ := hJ.one v1 hv1
      have hBl := hJ.b hvn
      have n15 := hJ.n15 hvn (by decide)
      have own' := own_below own hBl fun k hk => (own.lt k hk).2
      obtain ⟨i1, hi1, hy0, hy1, hy2⟩ := info_parts Try.infoInt
      obtain ⟨g2, cap2, w', hrun, ho2, hgr, hat, hlt⟩ := run_append_lies (P := Try.prog) w 25 25 B 3 i1 _ 1 8 Try.underlying25 hi1 hy0 hy1 hy2 rfl (by omega) (.slice (some ⟨sb, 0, none⟩) n sc) n xs own' ⟨c, 0, none⟩ 1 1 [.int .i64 gg] rfl (World.news_of_block (cs := #[.int .i64 gg]) (t := 3) (fr := (0, 0)) (hc3 hvn)) (by simp [Value.oneCell']) (by omega) (by simp only [maxLen]; omega) (by omega) (Nat.le_trans hB hBl.size) w.heap.size rfl
      refine ⟨.slice (some ⟨g2, 0, none⟩) (n + 1) cap2, w', .inl ?_, ?_⟩
      · generalize (frameF vals 0 L a).eval = ev at e0 e1
        simp only [execOp, resolve, invoke, builtin, Sem.run_bind, Sem.run_pure, Result.andThen_ok, List.map_toArray, List.map_cons, List.map_nil, e0, e1, hrun]
      · refine ⟨fun h => by simp [updV] at h, fun j v u hv hu => ?_, fun v hv => ?_, fun v hv => ?_, back_upd hJ.back (fun j hj => by simp only [pre33, List.mem_cons, List.not_mem_nil, or_false] at hj; rcases hj with rfl | rfl; exact ⟨v0, hv0⟩; exact ⟨_, hv1⟩), fun u hu => ?_⟩
        · by_cases hj : j = 14
          · subst hj; simp [pv33] at hu
          · exact hJ.pure j v u (by simpa [updV, hj] using hv) hu
        · obtain ⟨c', h1, _⟩ := hJ.one v (by simpa [updV] using hv)
          exact ⟨c', h1, fun h => by simp [updV] at h⟩
        · simp only [updV, if_true, Option.some.injEq] at hv
          refine ⟨g2, cap2, w, hv.symm, hBl, hgr, ?_, hlt, hv ▸ ho2⟩
          rcases hat with e | e
          · simp only [Value.ownBlock, Option.some.injEq] at e
            exact .inl e.symm
          · exact .inr e
        · have h : vals 15 = some u := by simpa [updV] using hu
          rw [n15] at h; cases h
    | 15, ho =>
      rw [hL] at ho
      injection ho with ho
      subst ho
      obtain ⟨v0, hv0⟩ := hdep { on := 14, ground := Ground.data } (by simp) rfl
      have e0 := same 14 141 v0 _ (by rw [hL]; rfl) rfl hv0 (by decide)
      have hall : ∀ i, i < 15 → ∃ v, vals i = some v := fun i hi => hdep { on := i, ground := Ground.phase } (by
        match i, hi with
        | 0, _ | 1, _ | 2, _ | 3, _ | 4, _ | 5, _ | 6, _ | 7, _ | 8, _ | 9, _ | 10, _ | 11, _ | 12, _ | 13, _ | 14, _ => simp
        | i + 15, hi => omega) rfl
      refine ⟨v0, w, .inl ?_, ?_⟩
      · generalize (frameF vals 0 L a).eval = ev at e0
        clear hQ hdep hL hL' hL10 same other hvn own hJ x1 x2 x3 x4 x5 h8 h16 h10 h17 hsz ho hall
        go_simp
      · refine ⟨fun h => hJ.b (by simpa [updV] using h), fun j v u hv hu => ?_, fun v hv => ?_, fun v hv => ?_, back_upd hJ.back (fun j hj => by simp [pre33] at hj), fun u hu => ?_⟩
        · by_cases hj : j = 15
          · subst hj; simp [pv33] at hu
          · exact hJ.pure j v u (by simpa [updV, hj] using hv) hu
        · obtain ⟨c, h1, h2⟩ := hJ.one v (by simpa [updV] using hv)
          exact ⟨c, h1, fun h => h2 (by simpa [updV] using h)⟩
        · exact hJ.both v (by simpa [updV] using hv)
        · simp only [updV, if_true, Option.some.injEq] at hu
          subst hu
          refine ⟨by simpa [updV] using hv0, fun i hi => ?_⟩
          obtain ⟨v, hv⟩ := hall i hi
          exact ⟨v, by simp [updV, show i ≠ 15 by omega, hv]⟩
    | i + 16, ho => simp [hL] at ho

end Go.Proofs.Ytgcpllnjdnahjaa

/- The regions of pollardingref6.Parse's reduce, as a walk takes them. -/
namespace Go.Proofs.Ytgcpllnjdnahjaa
open Go.RowKit

set_option maxRecDepth 100000 in
set_option maxHeartbeats 3200000 in
theorem reg30_end {a : Act} {W : World} {Q : Exit → Act → World → Prop} {cx lb lo m2 uc2 m kp n : Nat} {tv s7 : Value} {KL : List Tn} (hsz : a.tmps.size = 144) (h15 : a.eval (.tmp 15) = .pointer (some ⟨cx, 0, none⟩)) (h11 : a.eval (.tmp 11) = tv) (h17 : a.eval (.tmp 17) = .int .i64 kp)
    (x1 : W.cell? ⟨cx, 1, none⟩ = some (.slice (some ⟨lb, lo, none⟩) m2 uc2)) (x2 : W.cell? ⟨lb, lo, none⟩ = some (.int .i64 m)) (hm2 : 0 < m2) (hs7 : ∀ w, (Instr.sliceAt 48 tv (some (.int .i64 kp)) none none).run Try.prog w = .ok s7 w)
    (happ : ∀ (w : World) (b : Nat), Below W.heap.size W w → W.heap.size ≤ b → b < w.heap.size → w.heap[b]? = some (.cells #[] 54 (0, 0)) → ∃ g cap w', (Builtin.append_ #[ 48, 48 ] 48 #[.slice (some ⟨b, 0, none⟩) 0 0, s7]).run Try.prog w = .ok (.slice (some ⟨g, 0, none⟩) n cap) w' ∧ w.grownBy w' (some b) ∧ (g = b ∨ (g = w.heap.size ∧ w.heap.size < w'.heap.size)) ∧ w'.ownsRow W.heap.size 54 2 (.slice (some ⟨g, 0, none⟩) n cap) n (flatTn KL))
    (hQ : ∀ (v0 v1 v2 v3 v4 v5 v6 v7 v8 v9 v11 : Value) (xb g cap : Nat) (w : World), Below W.heap.size W w → W.heap.size ≤ xb → w.cell? ⟨xb, 0, none⟩ = some (.int .i64 m) → w.cell? ⟨xb, 1, none⟩ = some (.slice (some ⟨g, 0, none⟩) n cap) → W.heap.size ≤ g → g < w.heap.size → (0 < n → w.ownsRow W.heap.size 54 2 (.slice (some ⟨g, 0, none⟩) n cap) n (flatTn KL)) → Q .normal ((((((((((((a.put (some 103) v0).put (some 104) v1).put (some 105) v2).put (some 106) v3).put (some 107) v4).put (some 108) v5).put (some 109) v6).put (some 110) v7).put (some 111) v8).put (some 112) v9).put (some 18) (.pointer (some ⟨xb, 0, none⟩))).put none v11) w) : (Code.region 30 ops30.toArray true).wp Try.prog Q a W := by
  refine reg30 hsz h15 h11 h17 x1 x2 hm2 hs7 (fun w b h1 h2 h3 h4 => by
    obtain ⟨g, cap, w', k1, k2, k3, k4⟩ := happ w b h1 h2 h3 h4
    exact ⟨g, cap, w', k1, k2, k3, fun _ => k4⟩) fun vals w hJ hall => ?_
  obtain ⟨v0, hv0⟩ := hall 0 (by omega)
  obtain ⟨v1, hv1⟩ := hall 1 (by omega)
  obtain ⟨v2, hv2⟩ := hall 2 (by omega)
  obtain ⟨v3, hv3⟩ := hall 3 (by omega)
  obtain ⟨v4, hv4⟩ := hall 4 (by omega)
  obtain ⟨v5, hv5⟩ := hall 5 (by omega)
  obtain ⟨v6, hv6⟩ := hall 6 (by omega)
  obtain ⟨v7, hv7⟩ := hall 7 (by omega)
  obtain ⟨v8, hv8⟩ := hall 8 (by omega)
  obtain ⟨v9, hv9⟩ := hall 9 (by omega)
  obtain ⟨v10, hv10⟩ := hall 10 (by omega)
  obtain ⟨v11, hv11⟩ := hall 11 (by omega)
  obtain ⟨xb, c0, c1, rfl, hx2, hx3, hx4, hx5⟩ := hJ.box v10 hv10
  obtain ⟨g, cap, rfl, hg1, hg2, hg3⟩ := hJ.kids v8 hv8
  obtain ⟨rfl, rfl⟩ := hx5 v11 _ hv11 hv8
  have := hQ v0 v1 v2 v3 v4 v5 v6 v7 (.slice (some ⟨g, 0, none⟩) n cap) v9 v11 xb g cap w hJ.b hx2 (by simp [World.cell?, hx4]) (by simp [World.cell?, hx4]) hg1 hg2 hg3
  simp only [ops30, Try.f5, Option.getD_some, findR, Nat.reduceBEq, cond_true, cond_false, List.nil_append, List.append_nil, frameF, Nat.zero_add, Nat.reduceAdd, hv0, hv1, hv2, hv3, hv4, hv5, hv6, hv7, hv8, hv9, hv10, hv11]
  exact this

set_option maxRecDepth 100000 in
set_option maxHeartbeats 3200000 in
theorem reg31_end {a : Act} {W : World} {Q : Exit → Act → World → Prop} {xb m kp kg kn kc : Nat} {tv s3 : Value} {KL : List Tn} (hsz : a.tmps.size = 144) (h18 : a.eval (.tmp 18) = .pointer (some ⟨xb, 0, none⟩)) (h11 : a.eval (.tmp 11) = tv) (h17 : a.eval (.tmp 17) = .int .i64 kp)
    (x1 : W.cell? ⟨xb, 0, none⟩ = some (.int .i64 m)) (x2 : W.cell? ⟨xb, 1, none⟩ = some (.slice (some ⟨kg, 0, none⟩) kn kc)) (hkp : kp ≤ 1000) (hs3 : ∀ w, (Instr.sliceAt 48 tv none (some (.int .i64 kp)) none).run Try.prog w = .ok s3 w)
    (happ : ∀ (w : World) (b : Nat), Below W.heap.size W w → W.heap.size ≤ b → b < w.heap.size → w.heap[b]? = some (.cells #[] 54 (0, 0)) → ∃ g cap w', (Builtin.append_ #[ 48, 48 ] 48 #[.slice (some ⟨b, 0, none⟩) 0 0, s3]).run Try.prog w = .ok (.slice (some ⟨g, 0, none⟩) kp cap) w' ∧ w.grownBy w' (some b) ∧ (g = b ∨ (g = w.heap.size ∧ w.heap.size < w'.heap.size)) ∧ w'.ownsRow W.heap.size 54 2 (.slice (some ⟨g, 0, none⟩) kp cap) kp (flatTn KL))
    (hQ : ∀ (v0 v1 v2 v3 v4 v5 v6 v7 : Value) (g cap : Nat) (w : World), Below W.heap.size W w → W.heap.size ≤ g → g < w.heap.size → w.ownsRow W.heap.size 54 2 (.slice (some ⟨g, 0, none⟩) (kp + 1) cap) (kp + 1) (flatTn KL ++ [.int .i64 m, .slice (some ⟨kg, 0, none⟩) kn kc]) → Q .normal (((((((((a.put (some 113) v0).put (some 114) v1).put (some 115) v2).put (some 116) v3).put (some 117) v4).put (some 118) v5).put (some 119) v6).put (some 120) v7).put (some 11) (.slice (some ⟨g, 0, none⟩) (kp + 1) cap)) w) : (Code.region 31 ops31.toArray true).wp Try.prog Q a W := by
  refine reg31 hsz h18 h11 h17 x1 x2 hkp hs3 happ fun vals w hJ hall => ?_
  obtain ⟨v0, hv0⟩ := hall 0 (by omega)
  obtain ⟨v1, hv1⟩ := hall 1 (by omega)
  obtain ⟨v2, hv2⟩ := hall 2 (by omega)
  obtain ⟨v3, hv3⟩ := hall 3 (by omega)
  obtain ⟨v4, hv4⟩ := hall 4 (by omega)
  obtain ⟨v5, hv5⟩ := hall 5 (by omega)
  obtain ⟨v6, hv6⟩ := hall 6 (by omega)
  obtain ⟨v7, hv7⟩ := hall 7 (by omega)
  obtain ⟨v8, hv8⟩ := hall 8 (by omega)
  have e8 := (hJ.fin v8 hv8).1
  obtain ⟨g, cap, rfl, hg1, hg2, hg3⟩ := hJ.both v8 e8
  have := hQ v0 v1 v2 v3 v4 v5 v6 v7 g cap w hJ.b hg1 hg2 hg3
  simp only [ops31, Try.f5, Option.getD_some, findR, Nat.reduceBEq, cond_true, cond_false, List.nil_append, List.append_nil, frameF, Nat.zero_add, Nat.reduceAdd, hv0, hv1, hv2, hv3, hv4, hv5, hv6, hv7, hv8]
  exact this

set_option maxRecDepth 100000 in
set_option maxHeartbeats 3200000 in
theorem reg33_end {a : Act} {W : World} {Q : Exit → Act → World → Prop} {B tb rb2 gb go K gc sb n sc kp qs hb h0 N hc Lf gg : Nat} {xs : List Value} (hsz : a.tmps.size = 144) (h8 : a.eval (.tmp 8) = .pointer (some ⟨tb, 0, none⟩)) (h16 : a.eval (.tmp 16) = .pointer (some ⟨rb2, 0, none⟩)) (h10 : a.eval (.tmp 10) = .slice (some ⟨sb, 0, none⟩) n sc) (h17 : a.eval (.tmp 17) = .int .i64 kp)
    (x1 : W.cell? ⟨tb, 1, none⟩ = some (.slice (some ⟨gb, go, none⟩) K gc)) (x2 : W.cell? ⟨sb, kp, none⟩ = some (.int .i64 qs)) (x3 : W.cell? ⟨gb, go + qs, none⟩ = some (.slice (some ⟨hb, h0, none⟩) N hc)) (x4 : W.cell? ⟨rb2, 0, none⟩ = some (.int .i64 Lf)) (x5 : W.cell? ⟨hb, h0 + Lf, none⟩ = some (.int .i64 gg))
    (hkn : kp < n) (hqK : qs < K) (hLN : Lf < N) (hn : n ≤ 1000) (hB : B ≤ W.heap.size) (own : W.ownsRow B 3 1 (.slice (some ⟨sb, 0, none⟩) n sc) n xs)
    (hQ : ∀ (v0 v1 v2 v3 v4 v5 v6 v7 v8 v9 v10 v11 v12 v13 v14 : Value) (g cap : Nat) (wm w : World), Below W.heap.size W wm → wm.grownBy w (some sb) → (g = sb ∨ g = wm.heap.size) → g < w.heap.size → w.ownsRow B 3 1 (.slice (some ⟨g, 0, none⟩) (n + 1) cap) (n + 1) (xs ++ [.int .i64 gg]) → Q .normal ((((((((((((((((a.put (some 127) v0).put (some 128) v1).put (some 129) v2).put (some 130) v3).put (some 131) v4).put (some 132) v5).put (some 133) v6).put (some 134) v7).put (some 135) v8).put (some 136) v9).put (some 137) v10).put (some 138) v11).put (some 139) v12).put (some 140) v13).put (some 141) v14).put (some 10) (.slice (some ⟨g, 0, none⟩) (n + 1) cap)) w) : (Code.region 33 ops33.toArray true).wp Try.prog Q a W := by
  refine reg33 hsz h8 h16 h10 h17 x1 x2 x3 x4 x5 hkn hqK hLN hn hB own fun vals w hJ hall => ?_
  obtain ⟨v0, hv0⟩ := hall 0 (by omega)
  obtain ⟨v1, hv1⟩ := hall 1 (by omega)
  obtain ⟨v2, hv2⟩ := hall 2 (by omega)
  obtain ⟨v3, hv3⟩ := hall 3 (by omega)
  obtain ⟨v4, hv4⟩ := hall 4 (by omega)
  obtain ⟨v5, hv5⟩ := hall 5 (by omega)
  obtain ⟨v6, hv6⟩ := hall 6 (by omega)
  obtain ⟨v7, hv7⟩ := hall 7 (by omega)
  obtain ⟨v8, hv8⟩ := hall 8 (by omega)
  obtain ⟨v9, hv9⟩ := hall 9 (by omega)
  obtain ⟨v10, hv10⟩ := hall 10 (by omega)
  obtain ⟨v11, hv11⟩ := hall 11 (by omega)
  obtain ⟨v12, hv12⟩ := hall 12 (by omega)
  obtain ⟨v13, hv13⟩ := hall 13 (by omega)
  obtain ⟨v14, hv14⟩ := hall 14 (by omega)
  obtain ⟨v15, hv15⟩ := hall 15 (by omega)
  have e15 := (hJ.fin v15 hv15).1
  obtain ⟨g, cap, wm, rfl, k1, k2, k3, k4, k5⟩ := hJ.both v15 e15
  have := hQ v0 v1 v2 v3 v4 v5 v6 v7 v8 v9 v10 v11 v12 v13 v14 g cap wm w k1 k2 k3 k4 k5
  simp only [ops33, Try.f5, Option.getD_some, findR, Nat.reduceBEq, cond_true, cond_false, List.nil_append, List.append_nil, frameF, Nat.zero_add, Nat.reduceAdd, hv0, hv1, hv2, hv3, hv4, hv5, hv6, hv7, hv8, hv9, hv10, hv11, hv12, hv13, hv14, hv15]
  exact this

section
variable {w w1 w2 : World} {B : Nat} {sv tv : Value} {S : List Nat} {TL : List Tn} {k : Nat}

/-- The last ones, copied. -/
theorem copy_low {ua : Option Addr} {kp n uc : Nat} (h : PM B sv (.slice ua (kp + n) uc) S TL k w) (hl : TL.length = kp + n) (hlim : kp + n ≤ 1000) (w' : World) (b : Nat) (hB : Below w.heap.size w w') (hb : w.heap.size ≤ b) (hbw : b < w'.heap.size) (hcell : w'.heap[b]? = some (.cells #[] 54 (0, 0))) :
    ∃ g cap w2, (Builtin.append_ #[ 48, 48 ] 48 #[.slice (some ⟨b, 0, none⟩) 0 0, sliced ua kp (kp + n) uc 2]).run Try.prog w' = .ok (.slice (some ⟨g, 0, none⟩) n cap) w2 ∧ w'.grownBy w2 (some b) ∧ (g = b ∨ (g = w'.heap.size ∧ w'.heap.size < w2.heap.size)) ∧ w2.ownsRow w.heap.size 54 2 (.slice (some ⟨g, 0, none⟩) n cap) n (flatTn (TL.drop kp)) := by
  unfold sliced
  rw [show kp + n - kp = n by omega]
  refine append_copy (by simp [hl]) (fun hn => ?_) (fun x hx => (h.trees x (List.mem_of_mem_drop hx)).slice) hb hbw hcell (by omega)
  have ho := h.ownT
  rw [hl] at ho
  obtain ⟨g, cap, hv, hg, hlt⟩ := ho.form (by omega)
  injection hv with hv1 _ hv3
  subst hv1 hv3
  have hcap : uc ≠ kp := by
    obtain ⟨_, ⟨hx, _⟩ | ⟨g', c', cur, hv', _, _, h5, _⟩⟩ := ho
    · cases hx
    · injection hv' with _ _ hv'
      omega
  refine ⟨⟨g, kp * 2, none⟩, by rw [if_neg hcap]; simp [Addr.add_lit], fun j u hj => ?_⟩
  rw [flatTn_drop, List.getElem?_drop] at hj
  have hj2 : kp * 2 + j < (kp + n) * 2 := by
    have := (List.getElem?_eq_some_iff.1 hj).1
    rw [flatTn_len, hl] at this
    exact this
  have := ho.cellAt (kp * 2 + j) hj2
  rw [hj] at this
  rw [Addr.add_lit]
  exact (hB.cell (p := ⟨g, kp * 2 + j, none⟩) hlt).trans this

/-- The first ones, copied. -/
theorem copy_high {ua : Option Addr} {kp n uc : Nat} (h : PM B sv (.slice ua (kp + n) uc) S TL k w) (hl : TL.length = kp + n) (hlim : kp + n ≤ 1000) (w' : World) (b : Nat) (hB : Below w.heap.size w w') (hb : w.heap.size ≤ b) (hbw : b < w'.heap.size) (hcell : w'.heap[b]? = some (.cells #[] 54 (0, 0))) :
    ∃ g cap w2, (Builtin.append_ #[ 48, 48 ] 48 #[.slice (some ⟨b, 0, none⟩) 0 0, sliced ua 0 kp uc 2]).run Try.prog w' = .ok (.slice (some ⟨g, 0, none⟩) kp cap) w2 ∧ w'.grownBy w2 (some b) ∧ (g = b ∨ (g = w'.heap.size ∧ w'.heap.size < w2.heap.size)) ∧ w2.ownsRow w.heap.size 54 2 (.slice (some ⟨g, 0, none⟩) kp cap) kp (flatTn (TL.take kp)) := by
  unfold sliced
  rw [show kp - 0 = kp by omega]
  refine append_copy (by simp [hl]) (fun hn => ?_) (fun x hx => (h.trees x (List.mem_of_mem_take hx)).slice) hb hbw hcell (by omega)
  have ho := h.ownT
  rw [hl] at ho
  obtain ⟨g, cap, hv, hg, hlt⟩ := ho.form (by omega)
  injection hv with hv1 _ hv3
  subst hv1 hv3
  refine ⟨⟨g, 0, none⟩, by simp [Addr.add_lit], fun j u hj => ?_⟩
  rw [flatTn_take (by omega), List.getElem?_take] at hj
  split at hj
  · have := ho.cellAt j (by omega)
    rw [hj] at this
    rw [Addr.add_lit, Nat.zero_add]
    exact (hB.cell (p := ⟨g, j, none⟩) hlt).trans this
  · cases hj

/-- The stack of trees behind a reduce. -/
theorem PM.made (h : PM B sv tv S TL k w) (hb : Below w.heap.size w w1) {n g cap g2 cap2 : Nat} (hn : n ≤ TL.length) (hl : TL.length ≤ 1000) (hkids : 0 < (TL.drop n).length → w1.ownsRow w.heap.size 54 2 (.slice (some ⟨g, 0, none⟩) (TL.drop n).length cap) (TL.drop n).length (flatTn (TL.drop n))) (hg1 : w.heap.size ≤ g) (hg2 : g < w1.heap.size) {q : Int} (hq : 0 ≤ q)
    (hb2 : Below w1.heap.size w1 w2) (ho : w2.ownsRow w1.heap.size 54 2 (.slice (some ⟨g2, 0, none⟩) (n + 1) cap2) (n + 1) (flatTn (TL.take n) ++ [.int .i64 q, .slice (some ⟨g, 0, none⟩) (TL.drop n).length cap])) (hg3 : w1.heap.size ≤ g2) :
    PM B sv (.slice (some ⟨g2, 0, none⟩) (n + 1) cap2) S (TL.take n ++ [(q, .slice (some ⟨g, 0, none⟩) (TL.drop n).length cap, q :: ((TL.drop n).map fun x => x.2.2).flatten)]) (k + 1) w2 := by
  have h1 := h.below hb
  have hlen : (TL.take n ++ [(q, Value.slice (some ⟨g, 0, none⟩) (TL.drop n).length cap, q :: ((TL.drop n).map fun x => x.2.2).flatten)]).length = n + 1 := by simp [hn]
  have hA : ∀ b, notRows w1 sv tv b → notRows w2 sv (.slice (some ⟨g2, 0, none⟩) (n + 1) cap2) b := fun b hb' => ⟨Nat.lt_of_lt_of_le hb'.1 hb2.size, hb'.2.1, fun e => by
    have : g2 = b := by simpa [Value.ownBlock] using e
    have := hb'.1
    omega⟩
  refine h1.freshT hb2 (by rw [hlen, flatTn_append]; exact ho.mono h1.size) (fun g' hg' => by
    have : g2 = g' := by simpa [Value.ownBlock] using hg'
    omega) fun x hx => ?_
  rcases List.mem_append.1 hx with hx | hx
  · exact ((h1.trees x (List.mem_of_mem_take hx)).kept (fun b hb' => hb2.block b hb'.1) hA).up
  · simp only [List.mem_singleton] at hx
    subst hx
    exact (tree_made h hb hl (fun hlt => ⟨hg1, hg2, hkids (by simp; omega)⟩) hq).kept (fun b hb' => hb2.block b hb'.1) hA
end

end Go.Proofs.Ytgcpllnjdnahjaa
