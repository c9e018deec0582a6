import Derived.Test.YtmnechdmgmbpeaaLRRunAndPrFor
import Derived.Test.YtmnechdmgmbpeaaMay1AndSets2Mem
import Derived.BigQuiet
import Derived.Test.YtmnechdmgmbpeaaBuildMemAndHeldTail
/- The contract of pollardingref5.Wrong. -/
namespace Go.Proofs.Ytmnechdmgmbpeaa
open Go.RowKit

set_option maxRecDepth 100000 in
set_option maxHeartbeats 1600000 in
theorem wrong5_any {w : World} {T N : Int} {rv tv : Value} {R : List Ru} {tok : List Int} (hr : RulesAt w w.heap.size rv R) (ht : ListAt w w.heap.size tv tok) :
    Calls Try.prog 9 #[.agg #[.int .i64 T, .int .i64 N, rv], tv] w fun e w' => e = .returned (.int .i64 (wrongE T N R tok)) ∧ Below w.heap.size w w' := by
  obtain ⟨ra, rc, hrv⟩ := hr.1
  obtain ⟨ta, tc, htv⟩ := ht.1
  subst hrv
  subst htv
  have may := may1_any (T := T) (N := N) (hr.boxed (.cells #[.int .i64 T, .int .i64 N, .slice ra R.length rc] 24))
  have HT : Hid (ListAt w w.heap.size (.slice ta tok.length tc) tok) := ht
  have HB0 : Hid (Below w.heap.size w (w.alloc (.cells #[.int .i64 T, .int .i64 N, .slice ra R.length rc] 24))) := (Below.refl _ _).alloc (Nat.le_refl _) _
  clear hr ht
  cases hm : mayB T N R with
  | false =>
    rw [hm] at may
    have HE : Hid (wrongE T N R tok = 2) := by show wrongE T N R tok = 2; simp [wrongE, hm]
    clear hm
    go_enter Try.func9, Try.ntmps9
    go_wp2_with
      (go_at_call 22; refine may.mono ?_; rintro e w1 ⟨rfl, hB1⟩
       have HB1 : Hid (Below w.heap.size w w1) := HB0.out.trans (hB1.mono (by simp))
       clear hB1)
    go_ret
    exact ⟨by rw [HE.out]; rfl, HB1.out⟩
  | true =>
    rw [hm] at may
    by_cases h30 : 30 < tok.length
    · have HE : Hid (wrongE T N R tok = 1) := by show wrongE T N R tok = 1; simp [wrongE, hm, h30]
      have j0 : (30 : Int) < (tok.length : Int) := by omega
      clear hm
      go_enter Try.func9, Try.ntmps9
      go_wp2_with
        (go_at_call 22; refine may.mono ?_; rintro e w1 ⟨rfl, hB1⟩
         have HB1 : Hid (Below w.heap.size w w1) := HB0.out.trans (hB1.mono (by simp))
         clear hB1)
      go_ret
      exact ⟨by rw [HE.out]; rfl, HB1.out⟩
    · have HW : Hid (wrongE T N R tok = if inB T tok = false then 3 else 0) := by show wrongE T N R tok = _; simp [wrongE, hm, h30]
      have j0 : decide ((30 : Int) < (tok.length : Int)) = false := decide_eq_false (by omega)
      clear hm
      go_enter Try.func9, Try.ntmps9
      go_wp2_with
        (go_at_call 22; refine may.mono ?_; rintro e w1 ⟨rfl, hB1⟩
         have HB1 : Hid (Below w.heap.size w w1) := HB0.out.trans (hB1.mono (by simp))
         have b0 : w1.cell? ⟨w.heap.size, 0, none⟩ = some (.int .i64 T) := (hB1.cell (by simp)).trans (by simp [go_sem])
         have HT1 : Hid (ListAt w1 w1.heap.size (.slice ta tok.length tc) tok) := (HT.out.below HB1.out).mono HB1.out.size
         clear hB1 may)
      have Hb0 : Hid (w1.cell? ⟨w.heap.size, 0, none⟩ = some (.int .i64 T)) := b0
      clear b0
      go_loopw [5] (fun s wr => ∃ i m : Nat, s = .int .i64 i ∧ i ≤ tok.length ∧ wr = w1.drewN m ∧ inB T (tok.take i) = true) (fun s _ => tok.length - (intOf s).toNat)
      case atStart => exact ⟨0, 0, rfl, Nat.zero_le _, rfl, rfl⟩
      case round =>
        obtain ⟨i, m, rfl, hi, rfl, hIn⟩ := hrel
        have HIn : Hid (inB T (tok.take i) = true) := hIn
        clear hIn
        by_cases hlt : i < tok.length
        · obtain ⟨tg, tO, tc', hte, _, d1⟩ := HT1.out.2 i hlt
          cases hte
          obtain ⟨x, hx⟩ : ∃ x, tok.getD i 0 = x := ⟨_, rfl⟩
          have hxe : tok[i] = x := by rw [← hx]; simp [List.getD, hlt]
          have HBad : Hid (¬ (0 ≤ x ∧ x < T) → inB T tok = false) := fun h => by
            unfold inB
            rw [List.all_eq_false]
            exact ⟨tok[i], List.getElem_mem hlt, by rw [hxe]; simpa using fun h1 => by have := fun h2 => h ⟨h1, h2⟩; omega⟩
          have HGood : Hid (0 ≤ x ∧ x < T → inB T (tok.take (i + 1)) = true) := fun h => by
            have := HIn.out
            unfold inB at this ⊢
            rw [List.take_succ_eq_append_getElem hlt, List.all_append, this, hxe]
            simp [h.1, h.2]
          rw [hx] at d1
          have b0 := Hb0.out
          have i0 : (0 : Int) ≤ (i : Int) := Int.natCast_nonneg _
          have i1 : (i : Int) < (tok.length : Int) := by omega
          clear hx hxe
          by_cases hx0 : x < 0
          · have HE : Hid (wrongE T N R tok = 3) := by show wrongE T N R tok = 3; rw [HW.out, HBad.out (by omega)]; rfl
            go_wp2_with fail
            go_big_quiet (fail)
            go_wp2_with fail
            go_ret
            exact ⟨by rw [HE.out]; rfl, below_drewN (below_drewN HB1.out _) _⟩
          · have hx1 : decide (x < 0) = false := decide_eq_false hx0
            by_cases hxT : T ≤ x
            · have HE : Hid (wrongE T N R tok = 3) := by show wrongE T N R tok = 3; rw [HW.out, HBad.out (by omega)]; rfl
              go_wp2_with fail
              go_big_quiet (fail)
              go_wp2_with fail
              go_ret
              exact ⟨by rw [HE.out]; rfl, below_drewN (below_drewN HB1.out _) _⟩
            · have hx2 : decide (T ≤ x) = false := decide_eq_false hxT
              have HG : Hid (inB T (tok.take (i + 1)) = true) := HGood.out ⟨by omega, by omega⟩
              go_wp2_with fail
              go_big_quiet (fail)
              go_wp2_with fail
              go_roundw
              case rel => exact ⟨i + 1, _, by go_num, by omega, rfl, HG.out⟩
              case measure => simp [intOf]; omega
        · have HE : Hid (wrongE T N R tok = 0) := by
            show wrongE T N R tok = 0
            have := HIn.out
            rw [List.take_of_length_le (by omega)] at this
            rw [HW.out, this]
            rfl
          go_wp2_with fail
          go_ret
          exact ⟨by rw [HE.out]; rfl, below_drewN HB1.out _⟩

end Go.Proofs.Ytmnechdmgmbpeaa

/- A region that draws its order, each operation shown ONCE, whatever was done ahead of it: what is known of each operation's value stays true while others are done. No program. -/
namespace Go.Proofs.Ytmnechdmgmbpeaa

/-- The frame, with what the operations that are done have yielded. -/
def frameF (vals : Nat → Option Value) : Nat → List Oper → Act → Act
  | _, [], a => a
  | k, o :: l, a => frameF vals (k + 1) l (match vals k with | some v => a.put o.dst v | none => a)

theorem put_comm {a : Act} {d d' : Option Tmp} {v v' : Value} (h : d = none ∨ d' = none ∨ d ≠ d') : (a.put d v).put d' v' = (a.put d' v').put d v := by
  cases d with
  | none => rfl
  | some d =>
    cases d' with
    | none => rfl
    | some d' =>
      have hne : d ≠ d' := fun e => by
        rcases h with h | h | h
        · cases h
        · cases h
        · exact h (by rw [e])
      show Act.mk _ _ = Act.mk _ _
      congr 1
      exact Array.setIfInBounds_comm _ _ hne

theorem frame_put {vals : Nat → Option Value} {d : Option Tmp} {v : Value} : ∀ {l : List Oper} {k : Nat} {a : Act}, (∀ o ∈ l, d = none ∨ o.dst = none ∨ o.dst ≠ d) → frameF vals k l (a.put d v) = (frameF vals k l a).put d v := by
  intro l
  induction l with
  | nil => intro k a _; rfl
  | cons o l ih =>
    intro k a h
    unfold frameF
    cases hv : vals k with
    | none => exact ih fun o ho => h o (by simp [ho])
    | some u =>
      simp only
      have h0 := h o (by simp)
      rw [put_comm (show d = none ∨ o.dst = none ∨ d ≠ o.dst by rcases h0 with h | h | h; exact .inl h; exact .inr (.inl h); exact .inr (.inr fun e => h e.symm))]
      exact ih fun o ho => h o (by simp [ho])

def updV (vals : Nat → Option Value) (i : Nat) (v : Value) : Nat → Option Value := fun j => if j = i then some v else vals j

theorem frame_congr {vals vals' : Nat → Option Value} : ∀ {l : List Oper} {k : Nat} {a : Act}, (∀ j, k ≤ j → vals j = vals' j) → frameF vals k l a = frameF vals' k l a := by
  intro l
  induction l with
  | nil => intro k a _; rfl
  | cons o l ih =>
    intro k a h
    unfold frameF
    rw [h k (Nat.le_refl _)]
    exact ih fun j hj => h j (by omega)

/-- No two operations write one slot. -/
def apartB (l : List Oper) : Bool := match l with
  | [] => true
  | o :: l => (l.all fun o' => o.dst.isNone || o'.dst.isNone || o'.dst != o.dst) && apartB l

theorem frame_upd {vals : Nat → Option Value} {i : Nat} {v : Value} : ∀ {l : List Oper} {k : Nat} {a : Act} {o : Oper}, apartB l = true → l[i - k]? = some o → k ≤ i → vals i = none → frameF (updV vals i v) k l a = (frameF vals k l a).put o.dst v := by
  intro l
  induction l with
  | nil => intro k a o _ h; simp at h
  | cons o' l ih =>
    intro k a o hA h hk hn
    simp only [apartB, Bool.and_eq_true, List.all_eq_true] at hA
    by_cases hik : i = k
    · subst hik
      simp only [Nat.sub_self, List.getElem?_cons_zero, Option.some.injEq] at h
      subst h
      unfold frameF
      have e1 : updV vals i v i = some v := by simp [updV]
      rw [e1, hn]
      simp only
      rw [frame_congr (vals := updV vals i v) (vals' := vals) fun j hj => by simp [updV, show j ≠ i by omega]]
      refine frame_put fun o ho => ?_
      have := hA.1 o ho
      simp only [Bool.or_eq_true, Option.isNone_iff_eq_none, bne_iff_ne] at this
      rcases this with (h | h) | h
      · exact .inl h
      · exact .inr (.inl h)
      · exact .inr (.inr h)
    · have e : i - k = (i - (k + 1)) + 1 := by omega
      rw [e, List.getElem?_cons_succ] at h
      unfold frameF
      have e1 : updV vals i v k = vals k := by simp [updV, show k ≠ i from fun e => hik e.symm]
      rw [e1]
      exact ih hA.2 h (by omega) hn

theorem put_eval_same {a : Act} {t : Tmp} {v : Value} (ht : t < a.tmps.size) : (a.put (some t) v).eval (.tmp t) = v := by simp [Act.put, Act.eval, Array.getD, ht]
theorem put_eval_other {a : Act} {d : Option Tmp} {t : Tmp} {v : Value} (h : d ≠ some t) : (a.put d v).eval (.tmp t) = a.eval (.tmp t) := by
  cases d with
  | none => rfl
  | some d =>
    have hne : d ≠ t := fun e => h (by rw [e])
    simp [Act.put, Act.eval, Array.getD_eq_getD_getElem?, Array.getElem?_setIfInBounds_ne hne]
theorem put_size {a : Act} {d : Option Tmp} {v : Value} : (a.put d v).tmps.size = a.tmps.size := by cases d <;> simp [Act.put]

theorem frame_other {vals : Nat → Option Value} {t : Tmp} : ∀ {l : List Oper} {k : Nat} {a : Act}, (∀ o ∈ l, o.dst ≠ some t) → (frameF vals k l a).eval (.tmp t) = a.eval (.tmp t) := by
  intro l
  induction l with
  | nil => intro k a _; rfl
  | cons o l ih =>
    intro k a h
    unfold frameF
    rw [ih fun o ho => h o (by simp [ho])]
    cases vals k with
    | none => rfl
    | some v => exact put_eval_other (h o (by simp))

/-- What an operation that is done has yielded lies in its slot. -/
theorem frame_same {vals : Nat → Option Value} {t : Tmp} {v : Value} : ∀ {l : List Oper} {k : Nat} {a : Act} {j : Nat} {o : Oper}, apartB l = true → l[j]? = some o → o.dst = some t → vals (k + j) = some v → t < a.tmps.size → (frameF vals k l a).eval (.tmp t) = v := by
  intro l
  induction l with
  | nil => intro k a j o _ h; simp at h
  | cons o' l ih =>
    intro k a j o hA h hd hv ht
    simp only [apartB, Bool.and_eq_true, List.all_eq_true] at hA
    unfold frameF
    cases j with
    | zero =>
      simp only [List.getElem?_cons_zero, Option.some.injEq] at h
      subst h
      rw [Nat.add_zero] at hv
      rw [hv]
      simp only
      rw [hd, frame_other, put_eval_same ht]
      intro o ho e
      have := hA.1 o ho
      simp [hd, e] at this
    | succ j =>
      rw [List.getElem?_cons_succ] at h
      refine ih hA.2 h hd (by rw [show k + 1 + j = k + (j + 1) by omega]; exact hv) ?_
      cases vals k with
      | none => exact ht
      | some u => simp only; rw [put_size]; exact ht

/-- How many are not yet done. -/
def unl (vals : Nat → Option Value) : Nat → Nat
  | 0 => 0
  | n + 1 => unl vals n + (if (vals n).isNone then 1 else 0)
theorem unl_le (vals : Nat → Option Value) : ∀ n, unl vals n ≤ n
  | 0 => Nat.le_refl _
  | n + 1 => by have := unl_le vals n; unfold unl; split <;> omega
theorem unl_zero {vals : Nat → Option Value} : ∀ {n : Nat}, unl vals n = 0 → ∀ j, j < n → ∃ v, vals j = some v
  | 0, _, j, hj => by omega
  | n + 1, h, j, hj => by
    unfold unl at h
    have h1 : unl vals n = 0 := by omega
    by_cases e : j = n
    · subst e
      cases hv : vals j with
      | none => rw [hv] at h; simp at h
      | some v => exact ⟨v, rfl⟩
    · exact unl_zero h1 j (by omega)
theorem unl_same {vals vals' : Nat → Option Value} : ∀ {n : Nat}, (∀ j, j < n → vals j = vals' j) → unl vals n = unl vals' n
  | 0, _ => rfl
  | n + 1, h => by unfold unl; rw [unl_same fun j hj => h j (by omega), h n (by omega)]
theorem unl_upd {vals : Nat → Option Value} {i : Nat} {v : Value} (hn : vals i = none) : ∀ {n : Nat}, i < n → unl (updV vals i v) n + 1 = unl vals n
  | 0, h => by omega
  | n + 1, h => by
    unfold unl
    by_cases e : i = n
    · subst e
      rw [unl_same (vals := updV vals i v) (vals' := vals) fun j hj => by simp [updV, show j ≠ i by omega]]
      simp [updV, hn]
    · have := unl_upd hn (v := v) (n := n) (by omega)
      have e1 : updV vals i v n = vals n := by simp [updV, show n ≠ i from fun e' => e e'.symm]
      rw [e1]
      omega

/-- Each operation waits for earlier ones alone. -/
def backB : Nat → List Oper → Bool
  | _, [] => true
  | k, o :: l => (o.after.toList.all fun e => decide (e.on < k)) && backB (k + 1) l
theorem backB_spec : ∀ {l : List Oper} {k j : Nat} {o : Oper}, backB k l = true → l[j]? = some o → ∀ e ∈ o.after, e.on < k + j := by
  intro l
  induction l with
  | nil => intro k j o _ h; simp at h
  | cons o' l ih =>
    intro k j o hB h e he
    simp only [backB, Bool.and_eq_true, List.all_eq_true, decide_eq_true_eq] at hB
    cases j with
    | zero =>
      simp only [List.getElem?_cons_zero, Option.some.injEq] at h
      subst h
      exact hB.1 e (by simpa using he)
    | succ j =>
      rw [List.getElem?_cons_succ] at h
      have := ih hB.2 h e he
      omega

section
variable {P : Program} {Q : Exit → Act → World → Prop}

/-- J: what is known, of the values that were yielded so far and of the world. Each operation is shown once, whatever was done ahead of it. -/
theorem wp_region_joint {id : Nat} {a : Act} {w : World} {l : List Oper} (J : (Nat → Option Value) → World → Prop) (hm : P.follows .mixedOrders = true) (hA : apartB l = true) (hB : backB 0 l = true) (hg : (l.all fun o => o.guard.isNone) = true) (h0 : J (fun _ => none) w.drew)
    (hop : ∀ i o, l[i]? = some o → ∀ (vals : Nat → Option Value) (w : World), J vals w → vals i = none → (∀ e ∈ o.after, Region.binds .any e = true → ∃ v, vals e.on = some v) →
      ∃ v w', ((execOp (frameF vals 0 l a).eval o).run P w = .ok (.value v) w' ∨ ((execOp (frameF vals 0 l a).eval o).run P w = .ok .skip w' ∧ v = undef)) ∧ J (updV vals i v) w')
    (hend : ∀ (vals : Nat → Option Value) (w : World), J vals w → (∀ i, i < l.length → ∃ v, vals i = some v) → Q .normal (frameF vals 0 l a) w) : (Code.region id l.toArray true).wp P Q a w := by
  refine wp_region_any hm ?_
  have key : ∀ (fuel : Nat) (listed : Array Bool) (vals : Nat → Option Value) (w : World), unl vals l.length ≤ fuel → J vals w → listed.size = l.length → (∀ j, j < l.length → (listed.getD j true = true ↔ ∃ v, vals j = some v)) →
      wpAny P .any l.toArray Q fuel listed (frameF vals 0 l a) w := by
    intro fuel
    induction fuel with
    | zero =>
      intro listed vals w hf hJ hls hl
      have hall := unl_zero (vals := vals) (n := l.length) (by omega)
      refine ⟨?_, hend vals w hJ hall⟩
      rw [List.eq_nil_iff_forall_not_mem]
      intro j hj
      obtain ⟨h1, o, ho, _⟩ := mem_ready.1 hj
      have hjl : j < l.length := by
        have := (Array.getElem?_eq_some_iff.1 ho).1
        simpa using this
      rw [(hl j hjl).2 (hall j hjl)] at h1
      cases h1
    | succ fuel ih =>
      intro listed vals w hf hJ hls hl
      refine ⟨fun hr => hend vals w hJ fun i hi => ?_, fun i hi => ?_⟩
      · -- the first that is not done would be ready
        have hall : ∀ n j, j < n → j < l.length → ∃ v, vals j = some v := by
          intro n
          induction n with
          | zero => intro j hj; omega
          | succ n ihn =>
            intro j hj hjl
            by_cases e : j < n
            · exact ihn j e hjl
            · obtain rfl : j = n := by omega
              refine Classical.byContradiction fun hno => ?_
              have hlf : listed.getD j true = false := by
                cases hb : listed.getD j true with
                | false => rfl
                | true => exact absurd ((hl j hjl).1 hb) hno
              have hmem : j ∈ Region.ready .any l.toArray listed := mem_ready.2 ⟨hlf, l[j], by simp [hjl], fun e he _ => by
                have hlt := backB_spec hB (List.getElem?_eq_getElem hjl) e he
                rw [Nat.zero_add] at hlt
                have := (hl e.on (by omega)).2 (ihn e.on hlt (by omega))
                have hsz : e.on < listed.size := by omega
                simpa [Array.getD, hsz] using this⟩
              rw [hr] at hmem
              cases hmem
        exact hall l.length i hi hi
      · obtain ⟨h1, o, ho, hdep⟩ := mem_ready.1 hi
        have hlo : l[i]? = some o := by simpa using ho
        have hil : i < l.length := (List.getElem?_eq_some_iff.1 hlo).1
        have hvn : vals i = none := by
          cases hv : vals i with
          | none => rfl
          | some v => rw [(hl i hil).2 ⟨v, hv⟩] at h1; cases h1
        have hgo : o.guard = none := by
          have := List.all_eq_true.1 hg o (List.mem_of_getElem? hlo)
          simpa using this
        obtain ⟨v, w', hrun, hJ'⟩ := hop i o hlo vals w hJ hvn (fun e he hb => by
          have h2 := hdep e he hb
          have hlt : e.on < l.length := by
            have := backB_spec hB hlo e he
            omega
          refine (hl e.on hlt).1 ?_
          have hsz : e.on < listed.size := by omega
          simpa [Array.getD, hsz] using h2)
        have hnext : wpAny P .any l.toArray Q fuel (listed.setIfInBounds i true) ((frameF vals 0 l a).put o.dst v) w' := by
          rw [← frame_upd (v := v) hA (show l[i - 0]? = some o from hlo) (Nat.zero_le _) hvn]
          refine ih _ _ _ (by have := unl_upd hvn (v := v) hil; omega) hJ' (by simpa using hls) (fun j hj => ?_)
          · by_cases e : j = i
            · subst e
              have : j < listed.size := by omega
              simp [updV, Array.getD, this]
            · have e1 : (listed.setIfInBounds i true).getD j true = listed.getD j true := by
                simp [Array.getD_eq_getD_getElem?, Array.getElem?_setIfInBounds_ne (fun e' => e e'.symm)]
              rw [e1, hl j hj]
              simp [updV, e]
        unfold wpOp
        simp only [ho]
        rw [if_pos (by simp [Region.wanted, hgo])]
        left
        unfold Oper.wp
        rcases hrun with hrun | ⟨hrun, rfl⟩
        · rw [hrun]; exact hnext
        · rw [hrun]; exact hnext
  have h1 : frameF (fun _ => none) 0 l a = a := by
    have : ∀ (l : List Oper) (k : Nat), frameF (fun _ => none) k l a = a := by
      intro l
      induction l with
      | nil => intro k; rfl
      | cons o l ih => intro k; exact ih (k + 1)
    exact this l 0
  have h2 := key l.toArray.size (Array.replicate l.toArray.size false) (fun _ => none) w.drew (by have := unl_le (fun _ => none) l.length; simpa using this) h0 (by simp) (fun j hj => by simp [Array.getD, hj])
  rw [h1] at h2
  exact h2
end

end Go.Proofs.Ytmnechdmgmbpeaa
