/- The contract of the program's recog.Has. -/
import Derived.Test.YtgkikliaadjmiaaChartOf
import Derived.Test.YtgkikliaadjmiaaMayG
import Derived.Test.YtgkikliaadjmiaaRecogDef
namespace Go.Proofs.Ytgkikliaadjmiaa
open Go.RowKit

set_option maxRecDepth 100000 in
set_option maxHeartbeats 1600000 in
theorem allTerms_any {w : World} {T N : Int} {rv tv : Value} {tok : List Int} (hr : ∃ ra rl rc, rv = .slice ra rl rc) (ht : ListAt w w.heap.size tv tok) (h30 : tok.length ≤ 30) :
    Calls Try.prog 8 #[.agg #[.int .i64 T, .int .i64 N, rv], tv] w fun e w' => e = .returned (.bool (inB T tok)) ∧ Below w.heap.size w w' := by
  obtain ⟨ra, rl, rc, rfl⟩ := hr
  obtain ⟨ta, tc, htv⟩ := ht.1
  subst htv
  have HT1 : Hid (ListAt (w.alloc (.cells #[.int .i64 T, .int .i64 N, .slice ra rl rc] 24)) w.heap.size (.slice ta tok.length tc) tok) := ht.below ((Below.refl _ _).alloc (Nat.le_refl _) _)
  have HB : Hid (Below w.heap.size w (w.alloc (.cells #[.int .i64 T, .int .i64 N, .slice ra rl rc] 24))) := (Below.refl _ _).alloc (Nat.le_refl _) _
  clear ht
  go_enter Try.func8, Try.ntmps8
  go_wp2_with fail
  go_loopw [9] (fun s wr => ∃ i : Nat, s = .int .i64 i ∧ i ≤ tok.length ∧ inB T (tok.take i) = true ∧ wr = w.alloc (.cells #[.int .i64 T, .int .i64 N, .slice ra rl rc] 24)) (fun s _ => tok.length - (intOf s).toNat)
  case atStart => exact ⟨0, rfl, Nat.zero_le _, rfl, rfl⟩
  case round =>
    obtain ⟨i, rfl, hi, hIn, rfl⟩ := hrel
    have HIn : Hid (inB T (tok.take i) = true) := hIn
    clear hIn
    by_cases hlt : i < tok.length
    · obtain ⟨tg, tO, tc', hte, _, d1⟩ := HT1.out.2 i hlt
      injection hte with h5 _ h6
      subst h5
      subst h6
      obtain ⟨x, hx⟩ : ∃ x, tok.getD i 0 = x := ⟨_, rfl⟩
      have hxe : tok[i] = x := by rw [← hx]; simp [List.getD, hlt]
      have HBad : Hid (¬ (0 ≤ x ∧ x < T) → inB T tok = false) := fun h => by
        unfold inB
        rw [List.all_eq_false]
        exact ⟨tok[i], List.getElem_mem hlt, by rw [hxe]; simpa using fun h1 => by have := fun h2 => h ⟨h1, h2⟩; omega⟩
      have HGood : Hid (0 ≤ x ∧ x < T → inB T (tok.take (i + 1)) = true) := fun h => by
        have := HIn.out
        unfold inB at this ⊢
        rw [List.take_succ_eq_append_getElem hlt, List.all_append, this, hxe]
        simp [h.1, h.2]
      rw [hx] at d1
      have i0 : (0 : Int) ≤ (i : Int) := Int.natCast_nonneg _
      have i1 : (i : Int) < (tok.length : Int) := by omega
      clear hx hxe
      by_cases hx0 : x < 0
      · have HE : Hid (inB T tok = false) := HBad.out (by omega)
        go_wp2_with fail
        go_ret
        exact ⟨by rw [HE.out]; rfl, HB.out⟩
      · have hx1 : decide (x < 0) = false := decide_eq_false hx0
        by_cases hxT : T ≤ x
        · have HE : Hid (inB T tok = false) := HBad.out (by omega)
          go_wp2_with fail
          go_ret
          exact ⟨by rw [HE.out]; rfl, HB.out⟩
        · have hx2 : decide (T ≤ x) = false := decide_eq_false hxT
          have HG : Hid (inB T (tok.take (i + 1)) = true) := HGood.out ⟨by omega, by omega⟩
          go_wp2_with fail
          go_roundw
          case rel => exact ⟨i + 1, by go_num, by omega, HG.out, trivial⟩
          case measure => simp [intOf]; omega
    · have HE : Hid (inB T tok = true) := by
        show inB T tok = true
        have := HIn.out
        rw [List.take_of_length_le (by omega)] at this
        exact this
      go_wp2_with fail
      go_ret
      exact ⟨by rw [HE.out]; rfl, HB.out⟩

set_option maxRecDepth 100000 in
set_option maxHeartbeats 1600000 in
theorem hasAll_any {w : World} {B nm : Nat} {d : Ad} {v : CM} {st : ChS} (h : ChM w B d v st nm) (hn : nm ≤ 1000000) (hE : (st.E (0, 0)).length ≤ 1000000) {ta : Option Addr} {tl tc : Nat} (ht : d.tv = .slice ta tl tc) :
    Calls Try.prog 10 #[.pointer (some ⟨d.ca, 0, none⟩)] w fun r w' => r = .returned (.bool (decide (tl ∈ st.E (0, 0)))) ∧ Below w.heap.size w w' := by
  have c7 := (h.cell (i := 7) rfl (by omega)).1
  have c3 := (h.cell (i := 3) rfl (by omega)).1
  rw [ht] at c3
  have l1 := look_E h.drew (s := (0, 0)) (by decide) (by decide) (by decide) hn
  unfold spV at l1
  simp only at l1
  rw [show ((0 : Nat) : Int) = 0 from rfl] at l1
  have ct := contains_any (ends_list h.drew (0, 0)) (by simpa using hE) tl
  have hmem : decide ((tl : Int) ∈ (st.E (0, 0)).map fun j : Nat => (j : Int)) = decide (tl ∈ st.E (0, 0)) := by
    apply decide_eq_decide.2
    rw [List.mem_map]
    constructor
    · rintro ⟨x, hx, e⟩
      have : x = tl := by omega
      rw [← this]; exact hx
    · intro hx; exact ⟨tl, hx, rfl⟩
  rw [hmem] at ct
  obtain ⟨z, hz⟩ : ∃ z, decide (tl ∈ st.E (0, 0)) = z := ⟨_, rfl⟩
  rw [hz] at ct ⊢
  obtain ⟨ev, hev⟩ : ∃ ev, v.VE (0, 0) = ev := ⟨_, rfl⟩
  rw [hev] at l1 ct
  clear h hmem hz hev ht
  go_enter Try.func10, Try.ntmps10
  go_wp2_with fail
  refine wp_region_tail 11 (by kernel_rfl) (by kernel_rfl) ?_
  simp only [List.take_succ_cons, List.take_zero, List.drop_succ_cons, List.drop_zero]
  repeat still_step
  refine wpStill_nil ?_
  go_wp2_with (go_at_call 14; refine ct.mono ?_; rintro r w1 ⟨rfl, rfl⟩)
  go_ret
  exact ⟨rfl, (Below.refl _ _).drew⟩

set_option maxRecDepth 100000 in
set_option maxHeartbeats 1600000 in
theorem has_wrong {w : World} {T N : Int} {rv tv : Value} {R : List Ru} {tok : List Int} (hr : RulesAt w w.heap.size rv R) (ht : ListAt w w.heap.size tv tok) (hw : wrongE T N R tok ≠ 0) :
    Calls Try.prog 5 #[.agg #[.int .i64 T, .int .i64 N, rv], tv] w fun e w' => e = .returned (.tuple #[.bool false, .int .i64 (wrongE T N R tok)]) ∧ Below w.heap.size w w' := by
  obtain ⟨ra, rc, hrv⟩ := hr.1
  obtain ⟨ta, tc, htv⟩ := ht.1
  subst hrv
  subst htv
  have may := mayG_any (T := T) (N := N) (hr.boxed (.cells #[.int .i64 T, .int .i64 N, .slice ra R.length rc] 24))
  simp only [World.size_alloc] at may
  have HB0 : Hid (Below w.heap.size w (w.alloc (.cells #[.int .i64 T, .int .i64 N, .slice ra R.length rc] 24))) := (Below.refl _ _).alloc (Nat.le_refl _) _
  have HT : Hid (ListAt w w.heap.size (.slice ta tok.length tc) tok) := ht
  clear hr ht
  cases hm : mayB T N R with
  | false =>
    rw [hm] at may
    have HE : Hid (wrongE T N R tok = 2) := by show wrongE T N R tok = 2; simp [wrongE, hm]
    rw [HE.out]
    clear hm hw HE
    go_enter Try.func5, Try.ntmps5
    go_wp2_with
      (go_at_call 7; refine may.mono ?_; rintro e w1 ⟨rfl, hB1⟩
       have HB1 : Hid (Below w.heap.size w w1) := HB0.out.trans (hB1.mono (by simp))
       clear hB1)
    refine bodyPost_ret (v := .tuple #[.bool false, .int .i64 2]) (by simp [results, Try.results5, go_sem]) rfl ⟨rfl, HB1.out⟩
  | true =>
    rw [hm] at may
    by_cases h30 : 30 < tok.length
    · have HE : Hid (wrongE T N R tok = 1) := by show wrongE T N R tok = 1; simp [wrongE, hm, h30]
      rw [HE.out]
      have j0 : (30 : Int) < (tok.length : Int) := by omega
      clear hm hw HE
      go_enter Try.func5, Try.ntmps5
      go_wp2_with
        (go_at_call 7; refine may.mono ?_; rintro e w1 ⟨rfl, hB1⟩
         have HB1 : Hid (Below w.heap.size w w1) := HB0.out.trans (hB1.mono (by simp))
         clear hB1)
      refine bodyPost_ret (v := .tuple #[.bool false, .int .i64 1]) (by simp [results, Try.results5, go_sem]) rfl ⟨rfl, HB1.out⟩
    · have hin : inB T tok = false := by
        cases hin : inB T tok with
        | false => rfl
        | true => exact absurd (by simp [wrongE, hm, h30, hin]) hw
      have HE : Hid (wrongE T N R tok = 3) := by show wrongE T N R tok = 3; simp [wrongE, hm, h30, hin]
      rw [HE.out]
      have j0 : decide ((30 : Int) < (tok.length : Int)) = false := decide_eq_false (by omega)
      have HIN : Hid (inB T tok = false) := hin
      clear hm hw HE hin
      go_enter Try.func5, Try.ntmps5
      go_wp2_with
        (first
         | (go_at_call 7; refine may.mono ?_; rintro e w1 ⟨rfl, hB1⟩
            have HB1 : Hid (Below w.heap.size w w1) := HB0.out.trans (hB1.mono (by simp))
            have b0 : w1.cell? ⟨w.heap.size, 0, none⟩ = some (.int .i64 T) := (hB1.cell (by simp)).trans (by simp [go_sem])
            have b1 : w1.cell? ⟨w.heap.size, 1, none⟩ = some (.int .i64 N) := (hB1.cell (by simp)).trans (by simp [go_sem])
            have b2 : w1.cell? ⟨w.heap.size, 2, none⟩ = some (.slice ra R.length rc) := (hB1.cell (by simp)).trans (by simp [go_sem])
            have at1 := allTerms_any (w := w1) (T := T) (N := N) (rv := .slice ra R.length rc) ⟨_, _, _, rfl⟩ ((HT.out.below HB1.out).mono HB1.out.size) (by omega)
            rw [HIN.out] at at1
            clear hB1 may)
         | (go_at_call 8; refine at1.mono ?_; rintro e w2 ⟨rfl, hB2⟩
            have HB2 : Hid (Below w.heap.size w w2) := HB1.out.trans (hB2.mono HB1.out.size)
            clear hB2))
      refine bodyPost_ret (v := .tuple #[.bool false, .int .i64 3]) (by simp [results, Try.results5, go_sem]) rfl ⟨rfl, HB2.out⟩

set_option maxRecDepth 100000 in
set_option maxHeartbeats 1600000 in
theorem has_right {w : World} {T N : Nat} {rv tv : Value} {R : List Ru} {tok : List Int} (hr : RulesAt w w.heap.size rv R) (ht : ListAt w w.heap.size tv tok) (hm : mayB T N R = true) (h30 : tok.length ≤ 30) (hin : inB T tok = true) :
    Calls Try.prog 5 #[.agg #[.int .i64 T, .int .i64 N, rv], tv] w fun e w' => ∃ z, e = .returned (.tuple #[.bool z, .int .i64 0]) ∧ (z = true ↔ Der R 0 tok) ∧ Below w.heap.size w w' := by
  obtain ⟨ra, rc, hrv⟩ := hr.1
  obtain ⟨ta, tc, htv⟩ := ht.1
  subst hrv
  subst htv
  have may := mayG_any (T := T) (N := N) (hr.boxed (.cells #[.int .i64 T, .int .i64 N, .slice ra R.length rc] 24))
  simp only [World.size_alloc] at may
  rw [hm] at may
  have HB0 : Hid (Below w.heap.size w (w.alloc (.cells #[.int .i64 T, .int .i64 N, .slice ra R.length rc] 24))) := (Below.refl _ _).alloc (Nat.le_refl _) _
  have HT : Hid (ListAt w w.heap.size (.slice ta tok.length tc) tok) := ht
  have HR : Hid (RulesAt w w.heap.size (.slice ra R.length rc) R) := hr
  have j0 : decide ((30 : Int) < (tok.length : Int)) = false := decide_eq_false (by omega)
  have HIN : Hid (inB T tok = true) := hin
  have HM : Hid (mayB T N R = true) := hm
  obtain ⟨tl, htl⟩ : ∃ tl, tok.length = tl := ⟨_, rfl⟩
  have HTL : Hid (tok.length = tl) := htl
  clear hm hin hr ht
  rw [htl] at j0 h30 ⊢
  clear htl
  go_enter Try.func5, Try.ntmps5
  go_wp2_with
    (first
     | (go_at_call 7; refine may.mono ?_; rintro e w1 ⟨rfl, hB1⟩
        have HB1 : Hid (Below w.heap.size w w1) := HB0.out.trans (hB1.mono (by simp))
        have b0 : w1.cell? ⟨w.heap.size, 0, none⟩ = some (.int .i64 T) := (hB1.cell (by simp)).trans (by simp [go_sem])
        have b1 : w1.cell? ⟨w.heap.size, 1, none⟩ = some (.int .i64 N) := (hB1.cell (by simp)).trans (by simp [go_sem])
        have b2 : w1.cell? ⟨w.heap.size, 2, none⟩ = some (.slice ra R.length rc) := (hB1.cell (by simp)).trans (by simp [go_sem])
        have hs1 : w.heap.size + 1 ≤ w1.heap.size := by have := hB1.size; simpa using this
        have at1 := allTerms_any (w := w1) (T := T) (N := N) (rv := .slice ra R.length rc) ⟨_, _, _, rfl⟩ ((HT.out.below HB1.out).mono HB1.out.size) (by rw [HTL.out]; exact h30)
        rw [HIN.out, HTL.out] at at1
        clear hB1 may)
     | (go_at_call 8; refine at1.mono ?_; rintro e w2 ⟨rfl, hB2⟩
        have HB2 : Hid (Below w.heap.size w w2) := HB1.out.trans (hB2.mono HB1.out.size)
        have d0 := (hB2.cell (p := ⟨w.heap.size, 0, none⟩) (by simp only; omega)).trans b0
        have d1 := (hB2.cell (p := ⟨w.heap.size, 1, none⟩) (by simp only; omega)).trans b1
        have d2 := (hB2.cell (p := ⟨w.heap.size, 2, none⟩) (by simp only; omega)).trans b2
        have co := chartOf_any (w := w2) (T := T) (N := N) ((HR.out.below HB2.out).mono HB2.out.size) ((HT.out.below HB2.out).mono HB2.out.size) HM.out (by rw [HTL.out]; exact h30)
        rw [HTL.out] at co
        clear hB2 at1)
     | (go_at_call 9; refine co.mono ?_; rintro e w3 ⟨d, v, st, nm, rfl, hdt, hC, hnm, hE, hD, hB3⟩
        have HB3 : Hid (Below w.heap.size w w3) := HB2.out.trans (hB3.mono HB2.out.size)
        have ha := hasAll_any hC hnm hE hdt
        obtain ⟨z, hz⟩ : ∃ z, decide (tl ∈ st.E (0, 0)) = z := ⟨_, rfl⟩
        have HZ : Hid (z = true ↔ Der R 0 tok) := by
          show z = true ↔ Der R 0 tok
          rw [← hz, decide_eq_true_iff]
          exact hD
        rw [hz] at ha
        clear hB3 hC hdt hD hz co)
     | (go_at_call 10; refine ha.mono ?_; rintro e w4 ⟨rfl, hB4⟩
        have HB4 : Hid (Below w.heap.size w w4) := HB3.out.trans (hB4.mono HB3.out.size)
        clear hB4))
  refine bodyPost_ret (v := .tuple #[.bool z, .int .i64 0]) (by simp [results, Try.results5, go_sem]) rfl ⟨z, rfl, HZ.out, HB4.out⟩

end Go.Proofs.Ytgkikliaadjmiaa
