import Derived.Test.YtlalmfheiippiaaRef3MathAndStOfI
import Derived.Test.YtlalmfheiippiaaMathAndHeldTail
import Derived.Test.YtlalmfheiippiaaStTakenAndSame8
import Derived.Test.YtlalmfheiippiaaRows
import Derived.ProofKit
import Derived.Deep.SlicePairs
/- Plain: swapped twice, and pruned twice (H1). No program. -/
namespace Go.Proofs.Ytlalmfheiippiaa

section
variable {T N : Nat} {R : List Ru}

theorem prune_filter {a b c : Int} : doR N R ⟨5, a, b, c⟩ = R.filter (needB N R) := by
  have hl : lastR N R ⟨5, a, b, c⟩ = [] := by unfold lastR; simp only; rw [if_neg (by decide), if_neg (by decide)]
  have hR : R = (List.range R.length).map fun k => R.getD k (0, []) := by
    refine List.ext_getElem? fun i => ?_
    by_cases hi : i < R.length
    · rw [List.getElem?_map, List.getElem?_range hi]
      simp [List.getD, hi]
    · rw [List.getElem?_eq_none (by omega), List.getElem?_eq_none (by rw [List.length_map, List.length_range]; omega)]
  have hd : doR N R ⟨5, a, b, c⟩ = ((List.range R.length).filter fun k => needB N R (R.getD k (0, []))).map fun k => R.getD k (0, []) := by
    unfold doR
    rw [hl, List.append_nil, ← flatMap_pick]
    congr 1
  have hR2 : R.filter (needB N R) = ((List.range R.length).map fun k => R.getD k (0, [])).filter (needB N R) := congrArg (List.filter (needB N R)) hR
  rw [hd, hR2, List.filter_map]
  rfl

/-- What was pruned makes, and comes, as before. -/
theorem prune_again (hf : Fine T N R) : ∀ r ∈ R.filter (needB N R), needB N (R.filter (needB N R)) r = true := by
  have hf' : Fine T N (R.filter (needB N R)) := ⟨fun r hr => hf.left r (List.mem_filter.1 hr).1, fun r hr => hf.name r (List.mem_filter.1 hr).1, fun r hr => hf.term r (List.mem_filter.1 hr).1, hf.some⟩
  have stay : ∀ r ∈ R, ComesP N R r.1 → AllM (MakesP N R) r.2 → r ∈ R.filter (needB N R) := fun r hr hC hM =>
    List.mem_filter.2 ⟨hr, (needB_iff hf hr).2 ⟨Lv_closed (MakesF_mono hf) _ ⟨r, hr, rfl, hM⟩, hC, hM⟩⟩
  have mk : ∀ n, MakesP N R n → MakesP N R n ∧ (ComesP N R n → MakesP N (R.filter (needB N R)) n) := fun n hn =>
    Lv_least (MakesF_up R) (A := fun n => MakesP N R n ∧ (ComesP N R n → MakesP N (R.filter (needB N R)) n)) (fun n ⟨r, hr, hL, hA⟩ => by
      have hM : AllM (MakesP N R) r.2 := hA.mono fun _ h => h.1
      subst hL
      refine ⟨Lv_closed (MakesF_mono hf) _ ⟨r, hr, rfl, hM⟩, fun hC => ?_⟩
      refine Lv_closed (MakesF_mono hf') _ ⟨r, stay r hr hC hM, rfl, fun s hs hb => (hA s hs hb).2 ?_⟩
      refine Lv_closed (ComesF_mono hf _) _ (.inr ⟨r, hr, ?_, hM, hC⟩)
      obtain ⟨t, x⟩ := s
      cases hb
      exact hs) N n hn
  have cm : ∀ n, ComesP N R n → ComesP N R n ∧ ComesP N (R.filter (needB N R)) n := fun n hn =>
    Lv_least (ComesF_up R (MakesP N R)) (A := fun n => ComesP N R n ∧ ComesP N (R.filter (needB N R)) n) (fun n hn => by
      rcases hn with ⟨rfl, hM⟩ | ⟨r, hr, hx, hM, hC⟩
      · have h0 : ComesP N R 0 := Lv_closed (ComesF_mono hf _) _ (.inl ⟨rfl, hM⟩)
        exact ⟨h0, Lv_closed (ComesF_mono hf' _) _ (.inl ⟨rfl, (mk 0 hM).2 h0⟩)⟩
      · have hn' : ∀ s ∈ r.2, s.1 = false → ComesP N R s.2 := fun s hs hb => by
          refine Lv_closed (ComesF_mono hf _) _ (.inr ⟨r, hr, ?_, hM, hC.1⟩)
          obtain ⟨t, x⟩ := s
          cases hb
          exact hs
        refine ⟨hn' _ hx rfl, Lv_closed (ComesF_mono hf' _) _ (.inr ⟨r, stay r hr hC.1 hM, hx, fun s hs hb => (mk _ (hM s hs hb)).2 (hn' s hs hb), hC.2⟩)⟩) N n hn
  intro r hr
  obtain ⟨hrR, hn⟩ := List.mem_filter.1 hr
  obtain ⟨h1, h2, h3⟩ := (needB_iff hf hrR).1 hn
  refine (needB_iff hf' hr).2 ⟨(mk _ h1).2 h2, (cm _ h2).2, fun s hs hb => (mk _ (h3 s hs hb)).2 ?_⟩
  refine Lv_closed (ComesF_mono hf _) _ (.inr ⟨r, hrR, ?_, h3, h2⟩)
  obtain ⟨t, x⟩ := s
  cases hb
  exact hs
/-- Who prunes twice has pruned once. -/
theorem prune_twice (hf : Fine T N R) {a b c a' b' c' : Int} : doR N (doR N R ⟨5, a, b, c⟩) ⟨5, a', b', c'⟩ = doR N R ⟨5, a, b, c⟩ := by
  rw [prune_filter, prune_filter]
  exact List.filter_eq_self.2 (prune_again hf)
theorem prune_may {T N : Nat} {R : List Ru} (h : mayB T N R = true) {a b c : Int} : mayB T N (doR N R ⟨5, a, b, c⟩) = true := by
  rw [prune_filter]
  unfold mayB headB at h ⊢
  simp only [Bool.and_eq_true, decide_eq_true_eq, List.all_eq_true] at h ⊢
  have := List.length_filter_le (needB N R) R
  exact ⟨by omega, fun r hr => h.2 r (List.mem_filter.1 hr).1⟩

/-- Who swaps, and swaps back, has the grammar. -/
theorem swap_twice {a b c : Int} : doR N (doR N R ⟨1, a, b, c⟩) ⟨1, a, b, c⟩ = R := by
  obtain ⟨h1, h2⟩ := swap_at (N := N) (R := R) (a := a) (b := b) (c := c)
  obtain ⟨k1, k2⟩ := swap_at (N := N) (R := doR N R ⟨1, a, b, c⟩) (a := a) (b := b) (c := c)
  have ss : ∀ l : List Sy, (l.map (swapS a b)).map (swapS a b) = l := fun l => by
    induction l with
    | nil => rfl
    | cons x l ih =>
      rw [List.map_cons, List.map_cons, ih]
      obtain ⟨t, n⟩ := x
      cases t with
      | true => rfl
      | false => show (false, swapN a b (swapN a b n)) :: l = _; rw [swapN_swapN]
  have key : ∀ q, q < R.length → (doR N (doR N R ⟨1, a, b, c⟩) ⟨1, a, b, c⟩).getD q (0, []) = R.getD q (0, []) := fun q hq => by
    rw [k2 q (by omega), h2 q hq, swapN_swapN, ss]
  refine List.ext_getElem? fun i => ?_
  by_cases hi : i < R.length
  · have := key i hi
    have hi2 : i < (doR N (doR N R ⟨1, a, b, c⟩) ⟨1, a, b, c⟩).length := by omega
    rw [List.getElem?_eq_getElem hi, List.getElem?_eq_getElem hi2]
    simp only [List.getD, List.getElem?_eq_getElem hi, List.getElem?_eq_getElem hi2, Option.getD_some] at this
    rw [this]
  · rw [List.getElem?_eq_none (by omega), List.getElem?_eq_none (by omega)]
theorem swap_may {T N : Nat} {R : List Ru} (h : mayB T N R = true) {a b c : Int} (ha : 1 ≤ a ∧ a < N) (hb : 1 ≤ b ∧ b < N) : mayB T N (doR N R ⟨1, a, b, c⟩) = true := by
  obtain ⟨h1, h2⟩ := swap_at (N := N) (R := R) (a := a) (b := b) (c := c)
  have sn : ∀ n : Int, 0 ≤ n ∧ n < N → 0 ≤ swapN a b n ∧ swapN a b n < N := fun n hn => by
    unfold swapN
    split
    · omega
    · split <;> omega
  unfold mayB headB at h ⊢
  simp only [Bool.and_eq_true, decide_eq_true_eq, List.all_eq_true] at h ⊢
  refine ⟨by omega, fun r hr => ?_⟩
  obtain ⟨q, hq, rfl⟩ := getD_of_mem hr
  have hq' : q < R.length := by omega
  rw [h2 q hq']
  have hr := h.2 _ (mem_getD hq')
  unfold ruleB at hr ⊢
  simp only [Bool.and_eq_true, decide_eq_true_eq, List.all_eq_true, List.length_map] at hr ⊢
  obtain ⟨⟨r1, r2, r3⟩, r4⟩ := hr
  refine ⟨⟨(sn _ ⟨r1, r2⟩).1, (sn _ ⟨r1, r2⟩).2, r3⟩, fun x hx => ?_⟩
  obtain ⟨y, hy, rfl⟩ := List.mem_map.1 hx
  have := r4 y hy
  obtain ⟨t, n⟩ := y
  cases t with
  | true => exact this
  | false =>
    unfold symB at this ⊢
    simp only [decide_eq_true_eq] at this ⊢
    exact sn n this
end

end Go.Proofs.Ytlalmfheiippiaa

/- The law pollardingkeep.StepTwice: it returns true. -/
namespace Go.Proofs.Ytlalmfheiippiaa
open Go.RowKit

theorem nilList (w : World) : ListAt w w.heap.size (.slice none 0 0) [] := ⟨⟨none, 0, rfl⟩, fun _ h => absurd h (Nat.not_lt_zero _)⟩

/-- Do, as the law calls it: in whatever later world. -/
theorem do_later {w : World} {T N : Int} {ra : Option Addr} {rc : Nat} {R : List Ru} (hr : RulesAt w w.heap.size (.slice ra R.length rc) R) {op a b c : Int} {V M E : Int} {RR : List Ru} (hV : verd T N R ⟨op, a, b, c⟩ = (V, M, E, RR)) :
    Calls Try.prog 4 #[.agg #[.int .i64 T, .int .i64 N, .slice ra R.length rc], .agg #[.int .i64 op, .int .i64 a, .int .i64 b, .int .i64 c]] w fun e w' => ∃ la lc, e = .returned (.tuple #[.agg #[.int .i64 V, .int .i64 M, .slice la RR.length lc], .int .i64 E]) ∧ RulesAt w' w'.heap.size (.slice la RR.length lc) RR ∧ Below w.heap.size w w' := by
  have d := st_Do (T := T) (N := N) hr ⟨op, a, b, c⟩
  rw [hV] at d
  refine d.mono ?_
  rintro e w' ⟨lv, RL, rfl, hR, hmap, hB⟩
  have hru := hR.rules
  rw [hmap] at hru
  obtain ⟨la, lc, hlv⟩ := hru.1
  subst hlv
  exact ⟨la, lc, rfl, hru, hB⟩

set_option maxRecDepth 100000 in
set_option maxHeartbeats 3200000 in
theorem stepTwice_not {w : World} {T N : Int} {ra : Option Addr} {rc : Nat} {R : List Ru} {a b : Int} (hr : RulesAt w w.heap.size (.slice ra R.length rc) R) (hm : mayB T N R = false) :
    Calls Try.prog 3 #[.agg #[.int .i64 T, .int .i64 N, .slice ra R.length rc], .int .i64 a, .int .i64 b] w fun e w' => e = .returned (.bool true) ∧ Below w.heap.size w w' := by
  obtain ⟨W0, hW0⟩ : ∃ W, (w.alloc (.cells #[.int .i64 T, .int .i64 N, .slice ra R.length rc] 24)).alloc (.cells #[.int .i64 1, .int .i64 a, .int .i64 b, .int .i64 0] 26) = W := ⟨_, rfl⟩
  have hK := kpIn_start (T := T) (N := N) (s := ⟨1, a, b, 0⟩) hr (nilList w)
  simp only at hK
  rw [hW0] at hK
  have HK : Hid (KpIn w T N ra rc R ⟨1, a, b, 0⟩ (.slice none 0 0) [] W0) := hK
  have HW0 : Hid ((w.alloc (.cells #[.int .i64 T, .int .i64 N, .slice ra R.length rc] 24)).alloc (.cells #[.int .i64 1, .int .i64 a, .int .i64 b, .int .i64 0] 26) = W0) := hW0
  have HM : Hid (mayB T N R = false) := hm
  have hV : ∀ s, verd T N R s = (0, 0, 2, []) := fun s => by unfold verd; rw [hm]; rfl
  have HV : Hid (∀ s, verd T N R s = (0, 0, 2, [])) := hV
  have g0 := hK.g0
  have g1 := hK.g1
  have g2 := hK.g2
  have s0 := hK.s0
  have s1 := hK.s1
  have s2 := hK.s2
  have s3 := hK.s3
  have d1 := do_later hK.all (HV.out ⟨1, a, b, 0⟩)
  rw [← hW0] at g0 g1 g2 s0 s1 s2 s3
  simp only at s0 s1 s2 s3
  clear hr hm hK hV hW0
  go_enter Try.func3, Try.ntmps3
  go_upto_region 2 with fail
  rw [HW0.out]
  rw [HW0.out] at g0 g1 g2 s0 s1 s2 s3
  go_wp2_with
    (first
     | (go_at_call 4; with_reducible refine d1.mono ?_; rintro e w2 ⟨la, lc, rfl, hru, hB2⟩
        have hB3 : Below W0.heap.size W0 (w2.alloc (.cells #[.int .i64 0, .int .i64 0, .slice la ([] : List Ru).length lc] 24)) := hB2.alloc hB2.size _
        obtain ⟨w3, hw3⟩ : ∃ W, w2.alloc (.cells #[.int .i64 0, .int .i64 0, .slice la ([] : List Ru).length lc] 24) = W := ⟨_, rfl⟩
        rw [hw3] at hB3
        simp only [List.length_nil] at hw3
        have hK3 := HK.out.next hB3
        have u0 := hK3.g0
        have u1 := hK3.g1
        have u2 := hK3.g2
        have d2 := do_later hK3.all (HV.out ⟨5, 0, 0, 0⟩)
        have HB3 : Hid (Below W0.heap.size W0 w3) := hB3
        clear d1 hru hB2 hB3 hK3 g0 g1 g2 s0 s1 s2 s3)
     | (go_at_call 4; with_reducible refine d2.mono ?_; rintro e w4 ⟨la2, lc2, rfl, hru2, hB4⟩
        have hB5 : Below w3.heap.size w3 (w4.alloc (.cells #[.int .i64 0, .int .i64 0, .slice la2 ([] : List Ru).length lc2] 24)) := hB4.alloc hB4.size _
        obtain ⟨w5, hw5⟩ : ∃ W, w4.alloc (.cells #[.int .i64 0, .int .i64 0, .slice la2 ([] : List Ru).length lc2] 24) = W := ⟨_, rfl⟩
        rw [hw5] at hB5
        simp only [List.length_nil] at hw5
        have hB5' : Below W0.heap.size W0 w5 := HB3.out.trans (hB5.mono HB3.out.size)
        have hK5 := HK.out.next hB5'
        have v0 := hK5.g0
        have v1 := hK5.g1
        have v2 := hK5.g2
        have my := mayG_any (T := T) (N := N) hK5.all
        rw [HM.out] at my
        have HB5 : Hid (Below W0.heap.size W0 w5) := hB5'
        clear d2 hru2 hB4 hB5 hB5' hK5 u0 u1 u2)
     | (go_at_call 5; refine my.mono ?_; rintro e w6 ⟨rfl, hB6⟩
        have HB6 : Hid (Below W0.heap.size W0 w6) := HB5.out.trans (hB6.mono HB5.out.size)
        clear my hB6))
  go_ret
  exact ⟨rfl, (HK.out.next HB6.out).below⟩

set_option maxRecDepth 100000 in
set_option maxHeartbeats 6400000 in
theorem stepTwice_no {w : World} {T N : Nat} {ra : Option Addr} {rc : Nat} {R : List Ru} {a b : Int} (hr : RulesAt w w.heap.size (.slice ra R.length rc) R) (hm : mayB T N R = true) (hs : stepB N R ⟨1, a, b, 0⟩ = false) :
    Calls Try.prog 3 #[.agg #[.int .i64 T, .int .i64 N, .slice ra R.length rc], .int .i64 a, .int .i64 b] w fun e w' => e = .returned (.bool true) ∧ Below w.heap.size w w' := by
  obtain ⟨W0, hW0⟩ : ∃ W, (w.alloc (.cells #[.int .i64 T, .int .i64 N, .slice ra R.length rc] 24)).alloc (.cells #[.int .i64 1, .int .i64 a, .int .i64 b, .int .i64 0] 26) = W := ⟨_, rfl⟩
  have hK := kpIn_start (T := T) (N := N) (s := ⟨1, a, b, 0⟩) hr (nilList w)
  simp only at hK
  rw [hW0] at hK
  have HK : Hid (KpIn w T N ra rc R ⟨1, a, b, 0⟩ (.slice none 0 0) [] W0) := hK
  have HW0 : Hid ((w.alloc (.cells #[.int .i64 T, .int .i64 N, .slice ra R.length rc] 24)).alloc (.cells #[.int .i64 1, .int .i64 a, .int .i64 b, .int .i64 0] 26) = W0) := hW0
  have hpm : mayB T N (doR N R ⟨5, 0, 0, 0⟩) = true := prune_may hm
  have hp2 : doR N (doR N R ⟨5, 0, 0, 0⟩) ⟨5, 0, 0, 0⟩ = doR N R ⟨5, 0, 0, 0⟩ := prune_twice (may_Fine hm)
  obtain ⟨RP, hRP⟩ : ∃ RP, doR N R ⟨5, 0, 0, 0⟩ = RP := ⟨_, rfl⟩
  have hs5 : ∀ R', stepB N R' ⟨5, 0, 0, 0⟩ = true := fun R' => by unfold stepB; simp
  have hV2 : verd T N R ⟨5, 0, 0, 0⟩ = ((T : Int), (N : Int), 0, RP) := by
    unfold verd
    rw [hm, hs5, Int.toNat_natCast, hRP]
    have e : doN N ⟨5, 0, 0, 0⟩ = N := by unfold doN; simp
    rw [e, ← hRP, hpm]
    rfl
  rw [hRP] at hpm hp2
  have hV3 : verd T N RP ⟨5, 0, 0, 0⟩ = ((T : Int), (N : Int), 0, RP) := by
    unfold verd
    rw [hpm, hs5, Int.toNat_natCast, hp2]
    have e : doN N ⟨5, 0, 0, 0⟩ = N := by unfold doN; simp
    rw [e, hpm]
    rfl
  have HV : Hid (verd T N R ⟨5, 0, 0, 0⟩ = ((T : Int), (N : Int), 0, RP) ∧ verd T N RP ⟨5, 0, 0, 0⟩ = ((T : Int), (N : Int), 0, RP) ∧ mayB T N RP = true) := ⟨hV2, hV3, hpm⟩
  have HP : Hid (RP.length ≤ 1000 ∧ ∀ i, i < RP.length → (RP.getD i (0, [])).2.length ≤ 1000) := by
    obtain ⟨_, _, _, h4, h5⟩ := may_fine hpm
    exact ⟨by omega, fun i hi => by have := (h5 i hi).2.2.1; omega⟩
  have g0 := hK.g0
  have g1 := hK.g1
  have g2 := hK.g2
  have s0 := hK.s0
  have s1 := hK.s1
  have s2 := hK.s2
  have s3 := hK.s3
  have hV1 : verd T N R ⟨1, a, b, 0⟩ = (0, 0, 2, []) := by unfold verd; rw [hm, hs]; rfl
  have d1 := do_later hK.all hV1
  rw [← hW0] at g0 g1 g2 s0 s1 s2 s3
  simp only at s0 s1 s2 s3
  have HSt : Hid (¬ (1 ≤ a ∧ a < (N : Int) ∧ 1 ≤ b ∧ b < (N : Int))) := fun h => by
    have : stepB N R ⟨1, a, b, 0⟩ = true := by
      unfold stepB
      simp only
      rw [if_pos trivial]
      simp only [Bool.and_eq_true, decide_eq_true_eq]
      exact ⟨⟨⟨⟨h.1, h.2.1⟩, h.2.2.1⟩, h.2.2.2⟩, trivial⟩
    rw [this] at hs
    cases hs
  clear hr hm hK hW0 hpm hp2 hRP hs5 hV2 hV3 hs hV1
  go_enter Try.func3, Try.ntmps3
  go_upto_region 2 with fail
  rw [HW0.out]
  rw [HW0.out] at g0 g1 g2 s0 s1 s2 s3
  go_upto_region 10 with
    (first
     | (go_at_call 4; with_reducible refine d1.mono ?_; rintro e w2 ⟨la, lc, rfl, hru, hB2⟩
        have hB3 : Below W0.heap.size W0 (w2.alloc (.cells #[.int .i64 0, .int .i64 0, .slice la ([] : List Ru).length lc] 24)) := hB2.alloc hB2.size _
        have hx3 := boxR_new (V := 0) (M := 0) hru
        obtain ⟨w3, hw3⟩ : ∃ W, w2.alloc (.cells #[.int .i64 0, .int .i64 0, .slice la ([] : List Ru).length lc] 24) = W := ⟨_, rfl⟩
        rw [hw3] at hB3 hx3
        simp only [List.length_nil] at hw3
        clear hx3
        have hK3 := HK.out.next hB3
        have u0 := hK3.g0
        have u1 := hK3.g1
        have u2 := hK3.g2
        have d2 := do_later hK3.all HV.out.1
        have HB3 : Hid (Below W0.heap.size W0 w3) := hB3
        clear d1 hru hB2 hB3 hK3 g0 g1 g2 s0 s1 s2 s3)
     | (go_at_call 4; with_reducible refine d2.mono ?_; rintro e w4 ⟨la2, lc2, rfl, hru2, hB4⟩
        have hB5 : Below w3.heap.size w3 (w4.alloc (.cells #[.int .i64 T, .int .i64 N, .slice la2 RP.length lc2] 24)) := hB4.alloc hB4.size _
        have hx5 := boxR_new (V := T) (M := N) hru2
        obtain ⟨w5, hw5⟩ : ∃ W, w4.alloc (.cells #[.int .i64 T, .int .i64 N, .slice la2 RP.length lc2] 24) = W := ⟨_, rfl⟩
        rw [hw5] at hB5 hx5
        have v0 := hx5.c0
        have v1 := hx5.c1
        have v2 := hx5.c2
        have d3 := do_later hx5.rules HV.out.2.1
        have HX5 : Hid (BoxR T N la2 lc2 RP w4.heap.size w5) := hx5
        have HB5 : Hid (Below W0.heap.size W0 w5) := HB3.out.trans (hB5.mono HB3.out.size)
        have HB35 : Hid (Below w3.heap.size w3 w5) := hB5
        clear d2 hru2 hB4 hB5 hx5 u0 u1 u2)
     | (go_at_call 4; with_reducible refine d3.mono ?_; rintro e w6 ⟨la3, lc3, rfl, hru3, hB6⟩
        have hB7 : Below w5.heap.size w5 (w6.alloc (.cells #[.int .i64 T, .int .i64 N, .slice la3 RP.length lc3] 24)) := hB6.alloc hB6.size _
        have hx7 := boxR_new (V := T) (M := N) hru3
        obtain ⟨w7, hw7⟩ : ∃ W, w6.alloc (.cells #[.int .i64 T, .int .i64 N, .slice la3 RP.length lc3] 24) = W := ⟨_, rfl⟩
        rw [hw7] at hB7 hx7
        have hy7 := HX5.out.next hB7
        have t0 := hx7.c0
        have t1 := hx7.c1
        have t2 := hx7.c2
        have t3 := hy7.c0
        have t4 := hy7.c1
        have t5 := hy7.c2
        have sm := same8_eq (w := w7) (T := T) (N := N) hy7.rules hx7.rules HP.out.1 HP.out.2
        have HY7 : Hid (BoxR T N la2 lc2 RP w4.heap.size w7) := hy7
        have HB7 : Hid (Below W0.heap.size W0 w7) := HB5.out.trans (hB7.mono HB5.out.size)
        have HB57 : Hid (Below w5.heap.size w5 w7) := hB7
        clear d3 hru3 hB6 hB7 hx7 hy7 v0 v1 v2)
     | (go_at_call 6; with_reducible refine sm.mono ?_; rintro e w8 ⟨rfl, hB8⟩
        have hy8 := HY7.out.next hB8
        have r0 := hy8.c0
        have r1 := hy8.c1
        have r2 := hy8.c2
        have my := mayG_any (w := w8) (T := T) (N := N) hy8.rules
        rw [HV.out.2.2] at my
        have HB8 : Hid (Below W0.heap.size W0 w8) := HB7.out.trans (hB8.mono HB7.out.size)
        have HB78 : Hid (Below w7.heap.size w7 w8) := hB8
        clear sm hB8 hy8 t0 t1 t2 t3 t4 t5)
     | (go_at_call 5; with_reducible refine my.mono ?_; rintro e w9 ⟨rfl, hB9⟩
        have hB9' : Below W0.heap.size W0 w9 := HB8.out.trans (hB9.mono HB8.out.size)
        have HB9 : Hid (Below W0.heap.size W0 w9) := hB9'
        have q1 := (HK.out.next hB9').g1
        clear my hB9 hB9' r0 r1 r2))
  by_cases h1 : a < 1
  · go_wp2_with fail
    go_ret
    exact ⟨rfl, (HK.out.next HB9.out).below⟩
  · have e1 : decide (a < 1) = false := decide_eq_false h1
    have HA : Hid (¬ a < 1) := h1
    clear h1
    by_cases h2 : b < 1
    · go_wp2_with fail
      go_ret
      exact ⟨rfl, (HK.out.next HB9.out).below⟩
    · have e2 : decide (b < 1) = false := decide_eq_false h2
      have HBb : Hid (¬ b < 1) := h2
      clear h2
      by_cases h3 : (N : Int) ≤ a
      · go_wp2_with fail
        go_ret
        exact ⟨rfl, (HK.out.next HB9.out).below⟩
      · have e3 : decide ((N : Int) ≤ a) = false := decide_eq_false h3
        have h4 : (N : Int) ≤ b := Classical.byContradiction fun h => HSt.out ⟨by have := HA.out; omega, by omega, by have := HBb.out; omega, by omega⟩
        clear h3
        go_wp2_with fail
        go_ret
        exact ⟨rfl, (HK.out.next HB9.out).below⟩

set_option maxRecDepth 100000 in
set_option maxHeartbeats 6400000 in
theorem stepTwice_yes {w : World} {T N : Nat} {ra : Option Addr} {rc : Nat} {R : List Ru} {a b : Int} (hr : RulesAt w w.heap.size (.slice ra R.length rc) R) (hm : mayB T N R = true) (hs : stepB N R ⟨1, a, b, 0⟩ = true) :
    Calls Try.prog 3 #[.agg #[.int .i64 T, .int .i64 N, .slice ra R.length rc], .int .i64 a, .int .i64 b] w fun e w' => e = .returned (.bool true) ∧ Below w.heap.size w w' := by
  obtain ⟨W0, hW0⟩ : ∃ W, (w.alloc (.cells #[.int .i64 T, .int .i64 N, .slice ra R.length rc] 24)).alloc (.cells #[.int .i64 1, .int .i64 a, .int .i64 b, .int .i64 0] 26) = W := ⟨_, rfl⟩
  have hK := kpIn_start (T := T) (N := N) (s := ⟨1, a, b, 0⟩) hr (nilList w)
  simp only at hK
  rw [hW0] at hK
  have HK : Hid (KpIn w T N ra rc R ⟨1, a, b, 0⟩ (.slice none 0 0) [] W0) := hK
  have HW0 : Hid ((w.alloc (.cells #[.int .i64 T, .int .i64 N, .slice ra R.length rc] 24)).alloc (.cells #[.int .i64 1, .int .i64 a, .int .i64 b, .int .i64 0] 26) = W0) := hW0
  have hpm : mayB T N (doR N R ⟨5, 0, 0, 0⟩) = true := prune_may hm
  have hp2 : doR N (doR N R ⟨5, 0, 0, 0⟩) ⟨5, 0, 0, 0⟩ = doR N R ⟨5, 0, 0, 0⟩ := prune_twice (may_Fine hm)
  obtain ⟨RP, hRP⟩ : ∃ RP, doR N R ⟨5, 0, 0, 0⟩ = RP := ⟨_, rfl⟩
  have hs5 : ∀ R', stepB N R' ⟨5, 0, 0, 0⟩ = true := fun R' => by unfold stepB; simp
  have hV2 : verd T N R ⟨5, 0, 0, 0⟩ = ((T : Int), (N : Int), 0, RP) := by
    unfold verd
    rw [hm, hs5, Int.toNat_natCast, hRP]
    have e : doN N ⟨5, 0, 0, 0⟩ = N := by unfold doN; simp
    rw [e, ← hRP, hpm]
    rfl
  rw [hRP] at hpm hp2
  have hV3 : verd T N RP ⟨5, 0, 0, 0⟩ = ((T : Int), (N : Int), 0, RP) := by
    unfold verd
    rw [hpm, hs5, Int.toNat_natCast, hp2]
    have e : doN N ⟨5, 0, 0, 0⟩ = N := by unfold doN; simp
    rw [e, hpm]
    rfl
  have HV : Hid (verd T N R ⟨5, 0, 0, 0⟩ = ((T : Int), (N : Int), 0, RP) ∧ verd T N RP ⟨5, 0, 0, 0⟩ = ((T : Int), (N : Int), 0, RP) ∧ mayB T N RP = true) := ⟨hV2, hV3, hpm⟩
  have HP : Hid (RP.length ≤ 1000 ∧ ∀ i, i < RP.length → (RP.getD i (0, [])).2.length ≤ 1000) := by
    obtain ⟨_, _, _, h4, h5⟩ := may_fine hpm
    exact ⟨by omega, fun i hi => by have := (h5 i hi).2.2.1; omega⟩
  have g0 := hK.g0
  have g1 := hK.g1
  have g2 := hK.g2
  have s0 := hK.s0
  have s1 := hK.s1
  have s2 := hK.s2
  have s3 := hK.s3
  have hab : (1 ≤ a ∧ a < (N : Int)) ∧ 1 ≤ b ∧ b < (N : Int) := by
    unfold stepB at hs
    simp only at hs
    rw [if_pos trivial] at hs
    simp only [Bool.and_eq_true, decide_eq_true_eq] at hs
    exact ⟨⟨hs.1.1.1.1, hs.1.1.1.2⟩, hs.1.1.2, hs.1.2⟩
  have hsm : mayB T N (doR N R ⟨1, a, b, 0⟩) = true := swap_may hm ⟨hab.1.1, hab.1.2⟩ ⟨hab.2.1, hab.2.2⟩
  have hst : doR N (doR N R ⟨1, a, b, 0⟩) ⟨1, a, b, 0⟩ = R := swap_twice
  obtain ⟨RS, hRS⟩ : ∃ RS, doR N R ⟨1, a, b, 0⟩ = RS := ⟨_, rfl⟩
  rw [hRS] at hsm hst
  have eN : doN N ⟨1, a, b, 0⟩ = N := by unfold doN; simp
  have hV1 : verd T N R ⟨1, a, b, 0⟩ = ((T : Int), (N : Int), 0, RS) := by
    unfold verd
    rw [hm, hs, Int.toNat_natCast, hRS, eN, hsm]
    rfl
  have hs2 : stepB N RS ⟨1, a, b, 0⟩ = true := by
    unfold stepB at hs ⊢
    simp only at hs ⊢
    rw [if_pos trivial] at hs ⊢
    exact hs
  have HV4 : Hid (verd T N RS ⟨1, a, b, 0⟩ = ((T : Int), (N : Int), 0, R)) := by
    show _ = _
    unfold verd
    rw [hsm, hs2, Int.toNat_natCast, hst, eN, hm]
    rfl
  have HR : Hid (R.length ≤ 1000 ∧ ∀ i, i < R.length → (R.getD i (0, [])).2.length ≤ 1000) := by
    obtain ⟨_, _, _, h4, h5⟩ := may_fine hm
    exact ⟨by omega, fun i hi => by have := (h5 i hi).2.2.1; omega⟩
  have d1 := do_later hK.all hV1
  rw [← hW0] at g0 g1 g2 s0 s1 s2 s3
  simp only at s0 s1 s2 s3
  clear hr hm hK hW0 hpm hp2 hRP hs5 hV2 hV3 hs hV1 hab hsm hst hRS eN hs2
  go_enter Try.func3, Try.ntmps3
  go_upto_region 2 with fail
  rw [HW0.out]
  rw [HW0.out] at g0 g1 g2 s0 s1 s2 s3
  go_wp2_with
    (first
     | (go_at_call 4; with_reducible refine d1.mono ?_; rintro e w2 ⟨la, lc, rfl, hru, hB2⟩
        have hB3 : Below W0.heap.size W0 (w2.alloc (.cells #[.int .i64 T, .int .i64 N, .slice la RS.length lc] 24)) := hB2.alloc hB2.size _
        have hx3 := boxR_new (V := T) (M := N) hru
        obtain ⟨w3, hw3⟩ : ∃ W, w2.alloc (.cells #[.int .i64 T, .int .i64 N, .slice la RS.length lc] 24) = W := ⟨_, rfl⟩
        rw [hw3] at hB3 hx3
        have HX3 : Hid (BoxR T N la lc RS w2.heap.size w3) := hx3
        have hK3 := HK.out.next hB3
        have u0 := hK3.g0
        have u1 := hK3.g1
        have u2 := hK3.g2
        have d2 := do_later hK3.all HV.out.1
        have HB3 : Hid (Below W0.heap.size W0 w3) := hB3
        clear d1 hru hB2 hB3 hx3 hK3 g0 g1 g2 s0 s1 s2 s3)
     | (go_at_call 4; with_reducible refine d2.mono ?_; rintro e w4 ⟨la2, lc2, rfl, hru2, hB4⟩
        have hB5 : Below w3.heap.size w3 (w4.alloc (.cells #[.int .i64 T, .int .i64 N, .slice la2 RP.length lc2] 24)) := hB4.alloc hB4.size _
        have hx5 := boxR_new (V := T) (M := N) hru2
        obtain ⟨w5, hw5⟩ : ∃ W, w4.alloc (.cells #[.int .i64 T, .int .i64 N, .slice la2 RP.length lc2] 24) = W := ⟨_, rfl⟩
        rw [hw5] at hB5 hx5
        have v0 := hx5.c0
        have v1 := hx5.c1
        have v2 := hx5.c2
        have d3 := do_later hx5.rules HV.out.2.1
        have HX5 : Hid (BoxR T N la2 lc2 RP w4.heap.size w5) := hx5
        have HB5 : Hid (Below W0.heap.size W0 w5) := HB3.out.trans (hB5.mono HB3.out.size)
        have HB35 : Hid (Below w3.heap.size w3 w5) := hB5
        clear d2 hru2 hB4 hB5 hx5 u0 u1 u2)
     | (go_at_call 4; with_reducible refine d3.mono ?_; rintro e w6 ⟨la3, lc3, rfl, hru3, hB6⟩
        have hB7 : Below w5.heap.size w5 (w6.alloc (.cells #[.int .i64 T, .int .i64 N, .slice la3 RP.length lc3] 24)) := hB6.alloc hB6.size _
        have hx7 := boxR_new (V := T) (M := N) hru3
        obtain ⟨w7, hw7⟩ : ∃ W, w6.alloc (.cells #[.int .i64 T, .int .i64 N, .slice la3 RP.length lc3] 24) = W := ⟨_, rfl⟩
        rw [hw7] at hB7 hx7
        have hy7 := HX5.out.next hB7
        have t0 := hx7.c0
        have t1 := hx7.c1
        have t2 := hx7.c2
        have t3 := hy7.c0
        have t4 := hy7.c1
        have t5 := hy7.c2
        have sm := same8_eq (w := w7) (T := T) (N := N) hy7.rules hx7.rules HP.out.1 HP.out.2
        have HY7 : Hid (BoxR T N la2 lc2 RP w4.heap.size w7) := hy7
        have HB7 : Hid (Below W0.heap.size W0 w7) := HB5.out.trans (hB7.mono HB5.out.size)
        have HB57 : Hid (Below w5.heap.size w5 w7) := hB7
        clear d3 hru3 hB6 hB7 hx7 hy7 v0 v1 v2)
     | (go_at_call 6; with_reducible refine sm.mono ?_; rintro e w8 ⟨rfl, hB8⟩
        have hy8 := HY7.out.next hB8
        have r0 := hy8.c0
        have r1 := hy8.c1
        have r2 := hy8.c2
        have my := mayG_any (w := w8) (T := T) (N := N) hy8.rules
        rw [HV.out.2.2] at my
        have HB8 : Hid (Below W0.heap.size W0 w8) := HB7.out.trans (hB8.mono HB7.out.size)
        have HB78 : Hid (Below w7.heap.size w7 w8) := hB8
        clear sm hB8 hy8 t0 t1 t2 t3 t4 t5)
     | (go_at_call 5; with_reducible refine my.mono ?_; rintro e w9 ⟨rfl, hB9⟩
        have hB9' : Below W0.heap.size W0 w9 := HB8.out.trans (hB9.mono HB8.out.size)
        have HB9 : Hid (Below W0.heap.size W0 w9) := hB9'
        have hK9 := HK.out.next hB9'
        have hx9 := (((HX3.out.next HB35.out).next HB57.out).next HB78.out).next hB9
        have k0 := hx9.c0
        have k1 := hx9.c1
        have k2 := hx9.c2
        have j0 := hK9.s0
        have j1 := hK9.s1
        have j2 := hK9.s2
        have j3 := hK9.s3
        simp only at j0 j1 j2 j3
        have d4 := do_later hx9.rules HV4.out
        clear hK9 hx9
        clear my hB9 hB9' r0 r1 r2)
     | (go_at_call 4; with_reducible refine d4.mono ?_; rintro e w10 ⟨la4, lc4, rfl, hru4, hB10⟩
        have hB11 : Below w9.heap.size w9 (w10.alloc (.cells #[.int .i64 T, .int .i64 N, .slice la4 R.length lc4] 24)) := hB10.alloc hB10.size _
        have hx11 := boxR_new (V := T) (M := N) hru4
        obtain ⟨w11, hw11⟩ : ∃ W, w10.alloc (.cells #[.int .i64 T, .int .i64 N, .slice la4 R.length lc4] 24) = W := ⟨_, rfl⟩
        rw [hw11] at hB11 hx11
        have hB11' : Below W0.heap.size W0 w11 := HB9.out.trans (hB11.mono HB9.out.size)
        have hK11 := HK.out.next hB11'
        have l0 := hx11.c0
        have l1 := hx11.c1
        have l2 := hx11.c2
        have l3 := hK11.g0
        have l4 := hK11.g1
        have l5 := hK11.g2
        have sm2 := same8_eq (w := w11) (T := T) (N := N) hx11.rules hK11.all HR.out.1 HR.out.2
        have HB11 : Hid (Below W0.heap.size W0 w11) := hB11'
        clear d4 hru4 hB10 hB11 hB11' hx11 hK11 k0 k1 k2 j0 j1 j2 j3)
     | (go_at_call 6; with_reducible refine sm2.mono ?_; rintro e w12 ⟨rfl, hB12⟩
        have HB12 : Hid (Below W0.heap.size W0 w12) := HB11.out.trans (hB12.mono HB11.out.size)
        clear sm2 hB12))
  go_ret
  exact ⟨rfl, (HK.out.next HB12.out).below⟩

theorem stepTwice_any {w : World} {T N : Int} {rv : Value} {R : List Ru} {a b : Int} (hr : RulesAt w w.heap.size rv R) :
    Calls Try.prog 3 #[.agg #[.int .i64 T, .int .i64 N, rv], .int .i64 a, .int .i64 b] w fun e w' => e = .returned (.bool true) ∧ Below w.heap.size w w' := by
  obtain ⟨ra, rc, hrv⟩ := hr.1
  subst hrv
  cases hm : mayB T N R with
  | false => exact stepTwice_not hr hm
  | true =>
    obtain ⟨t, n, rfl, rfl⟩ := may_natural hm
    cases hs : stepB n R ⟨1, a, b, 0⟩ with
    | false => exact stepTwice_no hr hm hs
    | true => exact stepTwice_yes hr hm hs

end Go.Proofs.Ytlalmfheiippiaa

/- A grammar that came in as data lies in memory as RulesAt says; what the bound on the bulk gives. -/
namespace Go.Proofs.Ytlalmfheiippiaa
open Go.ChangeShapes Go.WideShapes Go.ChangeAt Go.RowKit Go.Deep

theorem Try.cells39 : Try.prog.cellsOf 39 = 2 := by kernel_rfl
theorem Try.cells42 : Try.prog.cellsOf 42 = 2 := by kernel_rfl
theorem Try.cells3 : Try.prog.cellsOf 3 = 1 := by kernel_rfl
theorem Try.cells4 : Try.prog.cellsOf 4 = 1 := by kernel_rfl
theorem Try.cells37 : Try.prog.cellsOf 37 = 1 := by kernel_rfl

theorem bulk_one {H : Type} (d : DataW H) : 1 ≤ Rows.uptoBulk d := by
  cases d with
  | lit l => cases l <;> simp [Rows.uptoBulk]
  | nil => simp [Rows.uptoBulk]
  | ptr d => simp [Rows.uptoBulk]
  | slice elems spare => simp [Rows.uptoBulk]
  | agg parts => simp [Rows.uptoBulk]
  | iface t d => simp [Rows.uptoBulk]
  | map entries => simp [Rows.uptoBulk]
  | held h => simp [Rows.uptoBulk]

theorem bulk_part {H : Type} {d : DataW H} {l : List (DataW H)} (h : d ∈ l) : Rows.uptoBulk d ≤ Rows.uptoBulkAll l := by
  induction l with
  | nil => cases h
  | cons x r ih =>
    simp only [Rows.uptoBulkAll]
    cases List.mem_cons.1 h with
    | inl e => subst e; omega
    | inr e => have := ih e; omega

theorem bulk_length {H : Type} (l : List (DataW H)) : l.length ≤ Rows.uptoBulkAll l := by
  induction l with
  | nil => simp
  | cons x r ih => have := bulk_one x; simp only [Rows.uptoBulkAll, List.length_cons]; omega

section
variable {H : Type} {enc : TypeId × Value → H} {W : World} {n : Nat} {v : Value} {x : DataW H × List MemPlace}

theorem plain_of_cell {a : Addr} {u : Value} (h : W.cell? (a.add 0) = some u) : ∃ b o, a = ⟨b, o, none⟩ := by
  obtain ⟨b, o, spot⟩ := a
  have : spot = none := by simpa [Addr.add] using World.cell?_spot h
  subst this
  exact ⟨b, o, rfl⟩

/-- The symbols of a rule. -/
theorem syms_read (h : DataW.trod enc Try.prog W 0 (fun _ => true) true n 37 [v] = some x) :
    ∃ (Rt : List Sy) (qa : Option Addr) (qc : Nat), v = .slice qa Rt.length qc ∧ Rt.length ≤ qc ∧ Rt.length ≤ Rows.uptoBulk x.1 ∧
      ∀ j, j < Rt.length → ∃ b' o', qa = some ⟨b', o', none⟩ ∧ b' < W.heap.size ∧
        W.cell? ⟨b', o' + j * 2, none⟩ = some (.bool (Rt.getD j (false, 0)).1) ∧ W.cell? ⟨b', o' + (j * 2 + 1), none⟩ = some (.int .i64 (Rt.getD j (false, 0)).2) := by
  rcases open_slice_pairs Try.underlying37 Try.underlying42 Try.cells42 rfl rfl Try.cells4 Try.cells3 h with ⟨hv, _⟩ | ⟨a, len, cap, m, n', V0, V1, D0, D1, P0, P1, hv, _, hl, _, hm, rfl, hx⟩
  · simp only [List.cons.injEq, and_true] at hv
    exact ⟨[], none, 0, hv, by simp, by simp, fun j hj => by simp at hj⟩
  · simp only [List.cons.injEq, and_true] at hv
    simp only [if_true] at hm
    have each : ∀ i, i < len → ∃ s : Sy, W.cell? (a.add (i * 2)) = some (.bool s.1) ∧ W.cell? (a.add (i * 2 + 1)) = some (.int .i64 s.2) := fun i hi => by
      obtain ⟨h1, h2, h3, h4⟩ := hx i (by omega)
      obtain ⟨t, ht, _⟩ := DataW.trod_bool Try.underlying4 h3
      obtain ⟨k, hk, _⟩ := DataW.trod_int Try.underlying3 h4
      simp only [List.cons.injEq, and_true] at ht hk
      exact ⟨(t, k), by rw [h1, ht], by rw [h2, hk]⟩
    obtain ⟨f, hf⟩ := choose_lt each
    have hlen : ((List.range len).map f).length = len := by simp
    have hget : ∀ j, j < len → ((List.range len).map f).getD j (false, 0) = f j := fun j hj => by simp [List.getD, hj]
    refine ⟨(List.range len).map f, some a, cap, by rw [hv, hlen], by rw [hlen]; exact hl, ?_, fun j hj => ?_⟩
    · have := bulk_length ((List.range len).map fun i => DataW.agg [D0 i, D1 i])
      simp only [Rows.uptoBulk, List.length_map, List.length_range] at this ⊢
      omega
    · rw [hlen] at hj
      rw [hget j hj]
      have h0 := (hf 0 (by omega)).1
      rw [Nat.zero_mul] at h0
      obtain ⟨b, o, rfl⟩ := plain_of_cell h0
      obtain ⟨h1, h2⟩ := hf j hj
      rw [add_plain] at h1 h2
      exact ⟨b, o, rfl, World.block_lt_of_cell? W _ h1, h1, h2⟩

/-- The rules of a grammar. -/
theorem rules_read (h : DataW.trod enc Try.prog W 0 (fun _ => true) true n 22 [v] = some x) :
    ∃ R : List Ru, RulesAt W W.heap.size v R ∧ ∀ q, (R.getD q (0, [])).2.length ≤ Rows.uptoBulk x.1 := by
  rcases open_slice_pairs Try.underlying22 Try.underlying39 Try.cells39 rfl rfl Try.cells3 Try.cells37 h with ⟨hv, _⟩ | ⟨a, len, cap, m, n', V0, V1, D0, D1, P0, P1, hv, _, hl, _, hm, rfl, hx⟩
  · simp only [List.cons.injEq, and_true] at hv
    exact ⟨[], ⟨⟨none, 0, hv⟩, fun q hq => by simp at hq⟩, fun q => by simp⟩
  · simp only [List.cons.injEq, and_true] at hv
    simp only [if_true] at hm
    have each : ∀ i, i < len → ∃ r : Ru, W.cell? (a.add (i * 2)) = some (.int .i64 r.1) ∧ ∃ qa qc, W.cell? (a.add (i * 2 + 1)) = some (.slice qa r.2.length qc) ∧ r.2.length ≤ qc ∧ r.2.length ≤ Rows.uptoBulk (D1 i) ∧
        ∀ j, j < r.2.length → ∃ b' o', qa = some ⟨b', o', none⟩ ∧ b' < W.heap.size ∧
          W.cell? ⟨b', o' + j * 2, none⟩ = some (.bool (r.2.getD j (false, 0)).1) ∧ W.cell? ⟨b', o' + (j * 2 + 1), none⟩ = some (.int .i64 (r.2.getD j (false, 0)).2) := fun i hi => by
      obtain ⟨h1, h2, h3, h4⟩ := hx i (by omega)
      obtain ⟨k, hk, _⟩ := DataW.trod_int Try.underlying3 h3
      simp only [List.cons.injEq, and_true] at hk
      obtain ⟨Rt, qa, qc, hq, hc, hb, hs⟩ := syms_read h4
      exact ⟨(k, Rt), by rw [h1, hk], qa, qc, by rw [h2, hq], hc, hb, hs⟩
    obtain ⟨f, hf⟩ := choose_lt each
    have hlen : ((List.range len).map f).length = len := by simp
    have hget : ∀ j, j < len → ((List.range len).map f).getD j (0, []) = f j := fun j hj => by simp [List.getD, hj]
    refine ⟨(List.range len).map f, ⟨⟨some a, cap, by rw [hv, hlen]⟩, fun q hq => ?_⟩, fun q => ?_⟩
    · rw [hlen] at hq
      rw [hget q hq]
      have h0 := (hf 0 (by omega)).1
      rw [Nat.zero_mul] at h0
      obtain ⟨b, o, rfl⟩ := plain_of_cell h0
      obtain ⟨h1, qa, qc, h2, hc, _, h3⟩ := hf q hq
      rw [add_plain] at h1 h2
      exact ⟨b, o, cap, qa, qc, by rw [hv, hlen], World.block_lt_of_cell? W _ h1, h1, h2, hc, h3⟩
    · by_cases hq : q < len
      · rw [hget q hq]
        obtain ⟨_, _, _, _, _, hb, _⟩ := hf q hq
        have h1 : DataW.agg [D0 q, D1 q] ∈ (List.range len).map fun i => DataW.agg [D0 i, D1 i] := List.mem_map.2 ⟨q, List.mem_range.2 hq, rfl⟩
        have h2 := bulk_part h1
        simp only [Rows.uptoBulk, Rows.uptoBulkAll] at h2 ⊢
        omega
      · simp [List.getD, List.getElem?_eq_none (show ((List.range len).map f).length ≤ q by omega)]

end

end Go.Proofs.Ytlalmfheiippiaa
