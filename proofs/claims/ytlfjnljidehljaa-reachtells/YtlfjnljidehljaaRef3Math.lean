/- Plain: what pollardingref3's Makes, Comes and Left make are the least sets. -/
import Derived.Test.YtlfjnljidehljaaLfp3
import Derived.Test.YtlfjnljidehljaaLeft3
namespace Go.Proofs.Ytlfjnljidehljaa

theorem hasB_set {X : List Bool} {l : Nat} (hl : l < X.length) {n : Int} : hasB (X.set l true) n ↔ n = (l : Int) ∨ hasB X n := hasN_set hl

theorem hasB_none {N : Nat} {n : Int} (hn : hasB (List.replicate N false) n) : False := by
  have := hn.2
  by_cases h : n.toNat < N
  · simp [List.getD, h] at this
  · simp [List.getD, List.getElem?_eq_none (show (List.replicate N false).length ≤ n.toNat by simp; omega)] at this

section
variable {T N : Nat} {R : List Ru} (hf : Fine T N R)
include hf

theorem rule_ge {i : Nat} (hi : i < R.length) : ∀ s ∈ (R.getD i (0, [])).2, s.1 = false → 0 ≤ s.2 := fun s hs h => (hf.name _ (mem_getD hi) s hs h).1

theorem makesA_iff : (makesA R N).length = N ∧ ∀ n, hasB (makesA R N) n ↔ MakesP N R n := by
  have hm := MakesF_mono hf
  have main := loopN_inv (n := N) (f := fun _ => loopN R.length (makesS R)) (x := List.replicate N false)
    (fun k X => X.length = N ∧ (∀ n, hasB X n → MakesP N R n) ∧ ∀ n, Lv (MakesF R) k n → hasB X n)
    ⟨by simp, fun n hn => (hasB_none hn).elim, fun n hn => hn.elim⟩
    (fun k _ X ⟨h1, h2, h3⟩ => by
      have inner := loopN_inv (n := R.length) (f := makesS R) (x := X)
        (fun i Y => Y.length = N ∧ (∀ n, hasB Y n → MakesP N R n) ∧ (∀ n, Lv (MakesF R) k n → hasB Y n) ∧ ∀ j, j < i → AllM (Lv (MakesF R) k) (R.getD j (0, [])).2 → hasB Y (R.getD j (0, [])).1)
        ⟨h1, h2, h3, fun j hj => absurd hj (Nat.not_lt_zero _)⟩
        (fun i hi Y ⟨y1, y2, y3, y4⟩ => by
          have hL := hf.left _ (mem_getD hi)
          have hl : (R.getD i (0, [])).1.toNat < Y.length := by omega
          have hcast := toNat_of hL.1
          unfold makesS
          cases hb : allB Y (R.getD i (0, [])).2 with
          | true =>
            simp only [if_true]
            have hall := (allB_iff (rule_ge hf hi)).1 hb
            refine ⟨by simp [y1], fun n hn => ?_, fun n hn => (hasB_set hl).2 (.inr (y3 n hn)), fun j hj ha => ?_⟩
            · rcases (hasB_set hl).1 hn with rfl | hn
              · rw [hcast]
                exact Lv_closed hm _ ⟨_, mem_getD hi, rfl, hall.mono y2⟩
              · exact y2 n hn
            · rcases Nat.lt_succ_iff_lt_or_eq.1 hj with hj | rfl
              · exact (hasB_set hl).2 (.inr (y4 j hj ha))
              · exact (hasB_set hl).2 (.inl hcast.symm)
          | false =>
            simp only [Bool.false_eq_true, if_false]
            refine ⟨y1, y2, y3, fun j hj ha => ?_⟩
            rcases Nat.lt_succ_iff_lt_or_eq.1 hj with hj | rfl
            · exact y4 j hj ha
            · rw [(allB_iff (rule_ge hf hi)).2 (ha.mono y3)] at hb; cases hb)
      obtain ⟨z1, z2, _, z4⟩ := inner
      refine ⟨z1, z2, fun n hn => ?_⟩
      obtain ⟨r, hr, rfl, ha⟩ := hn
      obtain ⟨j, hj, rfl⟩ := getD_of_mem hr
      exact z4 j hj ha)
  obtain ⟨m1, m2, m3⟩ := main
  exact ⟨m1, fun n => ⟨m2 n, fun hn => m3 n hn⟩⟩

theorem comesA_iff : (comesA R N).length = N ∧ ∀ n, hasB (comesA R N) n ↔ ComesP N R n := by
  obtain ⟨ml, mi⟩ := makesA_iff hf
  have hN := hf.some
  have hm := ComesF_mono hf (MakesP N R)
  have h0 : hasB ((List.replicate N false).set 0 ((makesA R N).getD 0 false)) 0 ↔ MakesP N R 0 := by
    rw [← mi 0]
    unfold hasB
    have : 0 < N := by omega
    simp [List.getD, this]
  have main := loopN_inv (n := N) (f := fun _ => loopN R.length (comesR R (makesA R N))) (x := (List.replicate N false).set 0 ((makesA R N).getD 0 false))
    (fun k X => X.length = N ∧ (∀ n, hasB X n → ComesP N R n) ∧ (MakesP N R 0 → hasB X 0) ∧ ∀ n, Lv (ComesF R (MakesP N R)) k n → hasB X n)
    ⟨by simp, fun n hn => by
      by_cases h : n = 0
      · subst h; exact Lv_closed hm _ (.inl ⟨rfl, h0.1 hn⟩)
      · refine (hasB_none (N := N) (n := n) ⟨hn.1, ?_⟩).elim
        have hn2 := hn.2
        have hne : 0 ≠ n.toNat := by have := hn.1; omega
        simpa [List.getD, List.getElem?_set_ne hne] using hn2, h0.2, fun n hn => hn.elim⟩
    (fun k _ X ⟨h1, h2, hz, h3⟩ => by
      have inner := loopN_inv (n := R.length) (f := comesR R (makesA R N)) (x := X)
        (fun i Y => Y.length = N ∧ (∀ n, hasB Y n → ComesP N R n) ∧ (∀ n, hasB X n → hasB Y n) ∧ ∀ j, j < i → AllM (MakesP N R) (R.getD j (0, [])).2 → hasB X (R.getD j (0, [])).1 → ∀ n : Int, (false, n) ∈ (R.getD j (0, [])).2 → hasB Y n)
        ⟨h1, h2, fun _ h => h, fun j hj => absurd hj (Nat.not_lt_zero _)⟩
        (fun i hi Y ⟨y1, y2, y3, y4⟩ => by
          have hr := mem_getD hi
          have hL := hf.left _ hr
          have hcast := toNat_of hL.1
          unfold comesR
          cases hb : (Y.getD (R.getD i (0, [])).1.toNat false && allB (makesA R N) (R.getD i (0, [])).2) with
          | true =>
            simp only [if_true]
            simp only [Bool.and_eq_true] at hb
            have hc : ComesP N R (R.getD i (0, [])).1 := y2 _ ⟨hL.1, hb.1⟩
            have hall : AllM (MakesP N R) (R.getD i (0, [])).2 := ((allB_iff (rule_ge hf hi)).1 hb.2).mono fun n hn => (mi n).1 hn
            have names := loopN_inv (n := (R.getD i (0, [])).2.length) (f := nameS (R.getD i (0, [])).2) (x := Y)
              (fun k Q => Q.length = N ∧ (∀ n, hasB Q n → ComesP N R n) ∧ (∀ n, hasB Y n → hasB Q n) ∧ ∀ j, j < k → ((R.getD i (0, [])).2.getD j (false, 0)).1 = false → hasB Q ((R.getD i (0, [])).2.getD j (false, 0)).2)
              ⟨y1, y2, fun _ h => h, fun j hj => absurd hj (Nat.not_lt_zero _)⟩
              (fun k hk Q ⟨q1, q2, q3, q4⟩ => by
                have hmem : (R.getD i (0, [])).2.getD k (false, 0) ∈ (R.getD i (0, [])).2 := by
                  generalize (R.getD i (0, [])).2 = l at hk
                  simp [List.getD, hk]
                unfold nameS
                obtain ⟨⟨x, v⟩, hx⟩ : ∃ x, (R.getD i (0, [])).2.getD k (false, 0) = x := ⟨_, rfl⟩
                rw [hx] at hmem ⊢
                cases x with
                | true =>
                  simp only [if_true]
                  refine ⟨q1, q2, q3, fun j hj hjf => ?_⟩
                  rcases Nat.lt_succ_iff_lt_or_eq.1 hj with hj | rfl
                  · exact q4 j hj hjf
                  · rw [hx] at hjf; cases hjf
                | false =>
                  simp only [Bool.false_eq_true, if_false]
                  have hv := hf.name _ hr _ hmem rfl
                  simp only at hv
                  have hl : v.toNat < Q.length := by omega
                  refine ⟨by simp [q1], fun n hn => ?_, fun n hn => (hasB_set hl).2 (.inr (q3 n hn)), fun j hj hjf => ?_⟩
                  · rcases (hasB_set hl).1 hn with rfl | hn
                    · rw [toNat_of hv.1]
                      exact Lv_closed hm _ (.inr ⟨_, hr, hmem, hall, hc⟩)
                    · exact q2 n hn
                  · rcases Nat.lt_succ_iff_lt_or_eq.1 hj with hj | rfl
                    · exact (hasB_set hl).2 (.inr (q4 j hj hjf))
                    · rw [hx]; exact (hasB_set hl).2 (.inl (toNat_of hv.1).symm))
            obtain ⟨z1, z2, z3, z4⟩ := names
            refine ⟨z1, z2, fun n hn => z3 n (y3 n hn), fun j hj ha hx n hmem => ?_⟩
            rcases Nat.lt_succ_iff_lt_or_eq.1 hj with hj | rfl
            · exact z3 n (y4 j hj ha hx n hmem)
            · obtain ⟨q, hq, he⟩ := List.getElem_of_mem hmem
              have e : (R.getD j (0, [])).2.getD q (false, 0) = (false, n) := by
                generalize (R.getD j (0, [])).2 = l at hq he
                simp [List.getD, hq, he]
              have := z4 q hq (by rw [e])
              rwa [e] at this
          | false =>
            simp only [Bool.false_eq_true, if_false]
            refine ⟨y1, y2, y3, fun j hj ha hx n hmem => ?_⟩
            rcases Nat.lt_succ_iff_lt_or_eq.1 hj with hj | rfl
            · exact y4 j hj ha hx n hmem
            · rw [(y3 _ hx).2, (allB_iff (rule_ge hf hi)).2 (ha.mono fun n hn => (mi n).2 hn)] at hb
              cases hb)
      obtain ⟨z1, z2, z3, z4⟩ := inner
      refine ⟨z1, z2, fun h => z3 0 (hz h), fun n hn => ?_⟩
      rcases hn with ⟨rfl, hM⟩ | ⟨r, hr, hmem, ha, hc⟩
      · exact z3 0 (hz hM)
      · obtain ⟨j, hj, rfl⟩ := getD_of_mem hr
        exact z4 j hj ha (h3 _ hc) n hmem)
  obtain ⟨m1, m2, _, m3⟩ := main
  exact ⟨m1, fun n => ⟨m2 n, fun hn => m3 n hn⟩⟩

theorem firstB_iff {a b : Int} : firstB R (nullA R N) a b = true ↔ HeadD R (NullP N R) a b := by
  have hnu := (nullA_iff hf).2
  unfold firstB HeadD
  rw [List.any_eq_true]
  constructor
  · rintro ⟨i, hi, hh⟩
    have hil : i < R.length := List.mem_range.1 hi
    simp only [Bool.and_eq_true, decide_eq_true_eq] at hh
    obtain ⟨h1, h2⟩ := hh
    unfold headL at h2
    rw [List.any_eq_true] at h2
    obtain ⟨k, hk, h3⟩ := h2
    have hkl : k < (R.getD i (0, [])).2.length := List.mem_range.1 hk
    unfold hitL at h3
    simp only [Bool.and_eq_true, Bool.not_eq_true', decide_eq_true_eq] at h3
    obtain ⟨⟨h4, h5⟩, h6⟩ := h3
    refine ⟨_, mem_getD hil, h1, k, ?_, ((nullB_iff fun s hs => rule_ge hf hil s (List.mem_of_mem_take hs)).1 h6).mono fun n hn => (hnu n).1 hn⟩
    generalize (R.getD i (0, [])).2 = l at hkl h4 h5
    have e : l.getD k (false, 0) = l[k] := by simp [List.getD, hkl]
    rw [e] at h4 h5
    have e2 : l[k] = (false, b) := Prod.ext h4 h5
    rw [List.getElem?_eq_getElem hkl, e2]
  · rintro ⟨r, hr, rfl, k, hk, hn⟩
    obtain ⟨i, hil, rfl⟩ := getD_of_mem hr
    refine ⟨i, List.mem_range.2 hil, ?_⟩
    simp only [Bool.and_eq_true, decide_eq_true_eq]
    refine ⟨by trivial, ?_⟩
    have hkl : k < (R.getD i (0, [])).2.length := (List.getElem?_eq_some_iff.1 hk).1
    refine headL_hit hkl ?_
    unfold hitL
    have e : (R.getD i (0, [])).2.getD k (false, 0) = (false, b) := getD_of_some hk
    rw [e, (nullB_iff fun s hs => rule_ge hf hil s (List.mem_of_mem_take hs)).2 (hn.mono fun n hn => (hnu n).2 hn)]
    simp

theorem wayA_iff {n : Nat} : (wayA R (nullA R N) N n).length = N ∧ ∀ b, hasB (wayA R (nullA R N) N n) b ↔ WayP N R n b := by
  have hm := WayF_mono hf (NullP N R) n
  have main := loopN_inv (n := N + 1) (f := fun _ => loopN N fun a => loopN N fun b => leftS R (nullA R N) n a b) (x := List.replicate N false)
    (fun k X => X.length = N ∧ (∀ b, hasB X b → WayP N R n b) ∧ ∀ b, Lv (WayF R (NullP N R) n) k b → hasB X b)
    ⟨by simp, fun n hn => (hasB_none hn).elim, fun n hn => hn.elim⟩
    (fun k _ X ⟨h1, h2, h3⟩ => by
      have inner := loopN_inv (n := N) (f := fun a => loopN N fun b => leftS R (nullA R N) n a b) (x := X)
        (fun i Y => Y.length = N ∧ (∀ b, hasB Y b → WayP N R n b) ∧ (∀ b, hasB X b → hasB Y b) ∧ ∀ a : Nat, a < i → (a = n ∨ hasB X a) → ∀ b : Nat, b < N → HeadD R (NullP N R) a b → hasB Y b)
        ⟨h1, h2, fun _ h => h, fun j hj => absurd hj (Nat.not_lt_zero _)⟩
        (fun i hi Y ⟨y1, y2, y3, y4⟩ => by
          have inn2 := loopN_inv (n := N) (f := fun b => leftS R (nullA R N) n i b) (x := Y)
            (fun j Q => Q.length = N ∧ (∀ b, hasB Q b → WayP N R n b) ∧ (∀ b, hasB Y b → hasB Q b) ∧ ∀ b : Nat, b < j → (i = n ∨ hasB X i) → HeadD R (NullP N R) i b → hasB Q b)
            ⟨y1, y2, fun _ h => h, fun j hj => absurd hj (Nat.not_lt_zero _)⟩
            (fun j hj Q ⟨q1, q2, q3, q4⟩ => by
              unfold leftS
              cases hb : (decide (i = n) || Q.getD i false) && firstB R (nullA R N) i j with
              | true =>
                simp only [if_true]
                simp only [Bool.and_eq_true, Bool.or_eq_true, decide_eq_true_eq] at hb
                have hhd := (firstB_iff hf).1 hb.2
                have hl : j < Q.length := by omega
                refine ⟨by simp [q1], fun b hbq => ?_, fun b hbq => (hasB_set hl).2 (.inr (q3 b hbq)), fun b hbj hx hd => ?_⟩
                · rcases (hasB_set hl).1 hbq with rfl | hbq
                  · rcases hb.1 with rfl | hq
                    · exact Lv_closed hm _ (.inl hhd)
                    · exact Lv_closed hm _ (.inr ⟨i, q2 i ⟨Int.natCast_nonneg _, by simpa using hq⟩, hhd⟩)
                  · exact q2 b hbq
                · rcases Nat.lt_succ_iff_lt_or_eq.1 hbj with hbj | rfl
                  · exact (hasB_set hl).2 (.inr (q4 b hbj hx hd))
                  · exact (hasB_set hl).2 (.inl rfl)
              | false =>
                simp only [Bool.false_eq_true, if_false]
                refine ⟨q1, q2, q3, fun b hbj hx hd => ?_⟩
                rcases Nat.lt_succ_iff_lt_or_eq.1 hbj with hbj | rfl
                · exact q4 b hbj hx hd
                · rw [(firstB_iff hf).2 hd, Bool.and_true] at hb
                  simp only [Bool.or_eq_false_iff, decide_eq_false_iff_not] at hb
                  rcases hx with hx | hx
                  · exact absurd hx hb.1
                  · have := (q3 i (y3 i hx)).2
                    simp only [Int.toNat_natCast] at this
                    rw [hb.2] at this
                    cases this)
          obtain ⟨z1, z2, z3, z4⟩ := inn2
          refine ⟨z1, z2, fun b hb => z3 b (y3 b hb), fun a ha hx b hbN hd => ?_⟩
          rcases Nat.lt_succ_iff_lt_or_eq.1 ha with ha | rfl
          · exact z3 b (y4 a ha hx b hbN hd)
          · exact z4 b hbN hx hd)
      obtain ⟨z1, z2, z3, z4⟩ := inner
      refine ⟨z1, z2, fun b hb => ?_⟩
      have use : ∀ a b : Int, HeadD R (NullP N R) a b → (a = n ∨ hasB X a) → hasB (loopN N (fun a => loopN N fun b => leftS R (nullA R N) n a b) X) b := fun a b hd hx => by
        have hbd := HeadD_bound hf hd
        obtain ⟨a', rfl⟩ : ∃ a' : Nat, a = a' := ⟨a.toNat, by omega⟩
        obtain ⟨b', rfl⟩ : ∃ b' : Nat, b = b' := ⟨b.toNat, by omega⟩
        exact z4 a' (by omega) (hx.imp (fun h => by omega) id) b' (by omega) hd
      rcases hb with hb | ⟨a, h4, h5⟩
      · exact use n b hb (.inl rfl)
      · exact use a b h5 (.inr (h3 a h4)))
  obtain ⟨m1, m2, m3⟩ := main
  exact ⟨m1, fun b => ⟨m2 b, fun hb => m3 b (Lv_succ hm N b hb)⟩⟩

omit hf in
theorem leftA_get (Nu : List Bool) : (leftA R Nu N).length = N ∧ ∀ n, n < N → (leftA R Nu N).getD n false = (wayA R Nu N n).getD n false := by
  have main := loopN_inv (n := N) (f := fun n O => O.set n ((wayA R Nu N n).getD n false)) (x := List.replicate N false)
    (fun k O => O.length = N ∧ ∀ n, n < k → O.getD n false = (wayA R Nu N n).getD n false)
    ⟨by simp, fun n hn => absurd hn (Nat.not_lt_zero _)⟩
    (fun k hk O ⟨h1, h2⟩ => ⟨by simp [h1], fun n hn => by
      have hkl : k < O.length := by omega
      rcases Nat.lt_succ_iff_lt_or_eq.1 hn with hn | rfl
      · rw [← h2 n hn]; simp [List.getD, List.getElem?_set_ne (show k ≠ n by omega)]
      · rw [List.getD, List.getElem?_set_self hkl]; rfl⟩)
  exact main
end

end Go.Proofs.Ytlfjnljidehljaa
