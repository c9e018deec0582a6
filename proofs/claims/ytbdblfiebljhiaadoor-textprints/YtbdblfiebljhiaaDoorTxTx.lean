/- The contract of pollardingref9's Text. -/
import Derived.Test.YtbdblfiebljhiaaDoorTxDig
import Derived.Test.YtbdblfiebljhiaaDoorMayG
namespace Go.Proofs.YtbdblfiebljhiaaDoor
open Go.RowKit

section
variable {w : World} {ra : Option Addr} {rc : Nat} {R : List Ru}

set_option maxRecDepth 100000 in
set_option maxHeartbeats 6400000 in
theorem text_any {T N : Nat} (hr : RulesAt w w.heap.size (.slice ra R.length rc) R) (hm : mayB T N R = true) :
    Calls Tryd.prog 6 #[.agg #[.int .i64 T, .int .i64 N, .slice ra R.length rc]] w fun e w' => e = .returned (.string ⟨(textB T N R).toArray⟩) ∧ Below w.heap.size w w' := by
  obtain ⟨W1, hW1⟩ : ∃ W, w.alloc (.cells #[.int .i64 (T : Int), .int .i64 (N : Int), .slice ra R.length rc] 24) = W := ⟨_, rfl⟩
  have hB1 : Below w.heap.size w W1 := by rw [← hW1]; exact (Below.refl _ _).alloc (Nat.le_refl _) _
  have hx := heap_alloc_new w (.cells #[.int .i64 (T : Int), .int .i64 (N : Int), .slice ra R.length rc] 24)
  rw [hW1] at hx
  obtain ⟨p, hp⟩ : ∃ x, w.heap.size = x := ⟨_, rfl⟩
  have hz1 : W1.heap.size = p + 1 := by rw [← hW1, ← hp]; simp
  have HLow : Hid (Low T N R) := low_of hm
  have hr1 : RulesAt W1 W1.heap.size (.slice ra R.length rc) R := (hr.below hB1).mono hB1.size
  rw [hp] at hx hB1
  have HG : Hid (∀ wq, Below W1.heap.size W1 wq → (wq.cell? ⟨p, 0, none⟩ = some (.int .i64 (T : Int)) ∧ wq.cell? ⟨p, 1, none⟩ = some (.int .i64 (N : Int)) ∧ wq.cell? ⟨p, 2, none⟩ = some (.slice ra R.length rc)) ∧ RulesAt wq W1.heap.size (.slice ra R.length rc) R ∧ Below p w wq) := fun wq hq => by
    have hy := (hq.block _ (Array.getElem?_eq_some_iff.1 hx).1).trans hx
    exact ⟨⟨cell_bk hy rfl, cell_bk hy rfl, cell_bk hy rfl⟩, hr1.below hq, hB1.trans (hq.mono (by omega))⟩
  have HZ : Hid (W1.heap.size = p + 1) := hz1
  clear hr hm hB1 hx hr1 hz1
  go_enter Tryd.func6, Tryd.ntmps6
  go_upto_region 1 with fail
  obtain ⟨Wd, hWd⟩ : ∃ V, W1.drew = V := ⟨_, rfl⟩
  have hBd : Below W1.heap.size W1 Wd := by rw [← hWd]; exact (Below.refl _ _).drew
  have S0 := (HG.out Wd hBd).1
  have HD : Hid (Below W1.heap.size W1 Wd) := hBd
  clear hBd
  refine wp_region_mix [0, 1, 5, 6] 7 10 (fun wq => wq.cell? ⟨p, 0, none⟩ = some (.int .i64 (T : Int)) ∧ wq.cell? ⟨p, 1, none⟩ = some (.int .i64 (N : Int)) ∧ wq.cell? ⟨p, 2, none⟩ = some (.slice ra R.length rc)) (by kernel_rfl) (by kernel_rfl) (by rw [hWd]; exact S0) ?_
  rw [hWd]
  clear hWd hW1
  iterate 4
    refine StillI.con9 (v := ?_) rfl (by rfl) ?_ ?_
    rotate_left
    · intro w' hSw
      obtain ⟨z0, z1, z2⟩ := hSw
      go_simp
      try with_reducible rfl
    simp only [Act.put, List.setIfInBounds_toArray, List.set_cons_zero, List.set_cons_succ]
  rw [StillI]
  have hlT := dec_len HLow.out.t
  have hlN := dec_len HLow.out.n
  have it1 := digits_any T Wd HLow.out.t
  obtain ⟨dT, hdT⟩ : ∃ y, y = Lib.decDigits T := ⟨_, rfl⟩
  obtain ⟨dN, hdN⟩ : ∃ y, y = Lib.decDigits N := ⟨_, rfl⟩
  rw [← hdT] at it1 hlT
  rw [← hdN] at hlN
  have q1 := txt_add (P := Tryd.prog) [116, 101, 114, 109, 115, 32] dT (by simp; omega)
  obtain ⟨s1, hs1⟩ : ∃ x, x = [116, 101, 114, 109, 115, 32] ++ dT := ⟨_, rfl⟩
  rw [← hs1] at q1
  have l1 : s1.length ≤ 10 := by rw [hs1]; simp; omega
  have q2 := txt_add (P := Tryd.prog) s1 [32, 110, 97, 109, 101, 115, 32] (by simp; omega)
  obtain ⟨s2, hs2⟩ : ∃ x, x = s1 ++ [32, 110, 97, 109, 101, 115, 32] := ⟨_, rfl⟩
  rw [← hs2] at q2
  have l2 : s2.length ≤ 20 := by rw [hs2]; simp; omega
  have q3 := txt_add (P := Tryd.prog) s2 dN (by omega)
  obtain ⟨s3, hs3⟩ : ∃ x, x = s2 ++ dN := ⟨_, rfl⟩
  rw [← hs3] at q3
  have l3 : s3.length ≤ 30 := by rw [hs3]; simp; omega
  have q4 := txt_add (P := Tryd.prog) s3 [10] (by simp; omega)
  obtain ⟨s4, hs4⟩ : ∃ x, x = s3 ++ [10] := ⟨_, rfl⟩
  rw [← hs4] at q4
  have HH : Hid (s4 = headB9 T N) := by
    show s4 = headB9 T N
    rw [hs4, hs3, hs2, hs1, hdT, hdN]
    simp [headB9]
  have HdN : Hid (dN = Lib.decDigits N) := hdN
  clear hs1 hs2 hs3 hs4 hdT hdN l1 l2 l3 hlT hlN
  refine TailC.one (i := 2) (by kernel_rfl) ⟨_, rfl, fun K hK => ?_⟩
  go_simp
  refine it1.mono ?_
  rintro e w4 ⟨rfl, h4⟩
  dsimp only
  have hB4 : Below W1.heap.size W1 w4 := HD.out.trans (h4.mono HD.out.size)
  refine hK.out _ _ (fun _ => (HG.out w4 hB4).1) ?_
  clear hK it1 h4
  have S4 := (HG.out w4 hB4).1
  refine TailC.read (i := 3) (v := ?_) rfl (by kernel_rfl) (by rfl) ?_ S4 ?_
  rotate_left
  · intro w' _
    go_simp
    try with_reducible rfl
  simp only [Act.put, List.setIfInBounds_toArray, List.set_cons_zero, List.set_cons_succ]
  refine TailC.read (i := 4) (v := ?_) rfl (by kernel_rfl) (by rfl) ?_ S4 ?_
  rotate_left
  · intro w' _
    go_simp
    try with_reducible rfl
  simp only [Act.put, List.setIfInBounds_toArray, List.set_cons_zero, List.set_cons_succ]
  have it2 := digits_any N w4 HLow.out.n
  rw [← HdN.out] at it2
  refine TailC.one (i := 7) (by kernel_rfl) ⟨_, rfl, fun K hK => ?_⟩
  go_simp
  refine it2.mono ?_
  rintro e w5 ⟨rfl, h5⟩
  dsimp only
  have HB5 : Hid (Below W1.heap.size W1 w5) := hB4.trans (h5.mono hB4.size)
  refine hK.out _ _ (fun _ => (HG.out w5 HB5.out).1) ?_
  clear hK it2 h5 S4 hB4
  have S5 := (HG.out w5 HB5.out).1
  refine TailC.read (i := 8) (v := ?_) rfl (by kernel_rfl) (by rfl) ?_ S5 ?_
  rotate_left
  · intro w' _
    go_simp
    try with_reducible rfl
  simp only [Act.put, List.setIfInBounds_toArray, List.set_cons_zero, List.set_cons_succ]
  refine TailC.read (i := 9) (v := ?_) rfl (by kernel_rfl) (by rfl) ?_ S5 ?_
  rotate_left
  · intro w' _
    go_simp
    try with_reducible rfl
  simp only [Act.put, List.setIfInBounds_toArray, List.set_cons_zero, List.set_cons_succ]
  refine TailC.last (i := 10) (by kernel_rfl) ⟨_, rfl, fun K hK => ?_⟩
  go_simp
  refine hK.out _ _ (fun h => absurd h (by omega)) (NoPanic.normal ?_)
  clear hK S5 q1 q2 q3 q4
  obtain ⟨z0, z1, z2⟩ := (HG.out w5 HB5.out).1
  go_wp2_with fail
  clear z0 z1 z2
  go_loopw [3, 4] (fun s3 s4 wr => ∃ k : Nat, s4 = .int .i64 k ∧ k ≤ R.length ∧ (∃ t : List UInt8, s3 = .string ⟨t.toArray⟩ ∧ t = headB9 T N ++ ((R.take k).map ruleB9).flatten) ∧ Below W1.heap.size W1 wr) (fun _ s _ => R.length - (intOf s).toNat)
  case atStart =>
    refine ⟨0, rfl, Nat.zero_le _, ⟨_, rfl, ?_⟩, HB5.out⟩
    rw [List.take_zero, List.map_nil, List.flatten_nil, List.append_nil]; exact HH.out
  case round =>
    clear HB5 HD S0
    obtain ⟨k, rfl, hk, ⟨acc, rfl, hacc⟩, hB⟩ := hrel
    have hR40 := HLow.out.r
    obtain ⟨wo, hwo⟩ : ∃ x, x = wr := ⟨_, rfl⟩
    subst hwo
    have HB : Hid (Below W1.heap.size W1 wo) := hB
    clear hB
    obtain ⟨z0, z1, z2⟩ := (HG.out wo HB.out).1
    by_cases hlt : k < R.length
    · obtain ⟨b0, o0, rc0, qa, qc, hv, hb0, k1, k2, -, hsy⟩ := (HG.out W1 (Below.refl _ _)).2.1.2 k hlt
      injection hv with hv1 _ hv3
      subst hv1
      subst hv3
      have hstep := take_next ruleB9 hlt
      rw [← getD_at9 (d := (0, [])) hlt] at hstep
      have hpl := HLow.out.part k
      have hhl := head_len HLow.out
      have hll := HLow.out.left_len hlt
      have hsl := fun j => HLow.out.sympart hlt j
      have hsm := HLow.out.sym k hlt
      have hsn := HLow.out.len k hlt
      obtain ⟨m, hm, hm1⟩ := HLow.out.left k hlt
      obtain ⟨⟨L, l⟩, hx⟩ : ∃ x, R.getD k (0, []) = x := ⟨_, rfl⟩
      rw [hx] at k1 k2 hsy hstep hll hsl hsm hsn hm
      simp only at k1 k2 hsy hll hsl hsm hsn hm
      subst hm
      have hal : acc.length ≤ 1700 := by rw [hacc, List.length_append]; omega
      have HSt : Hid (headB9 T N ++ ((R.take (k + 1)).map ruleB9).flatten = acc ++ ruleB9 ((m : Int), l)) := by
        show _ = _
        rw [hstep, ← List.append_assoc, ← hacc]
      have HK : Hid (∀ wq, Below W1.heap.size W1 wq → (wq.cell? ⟨b0, o0 + k * 2, none⟩ = some (.int .i64 (m : Int)) ∧ wq.cell? ⟨b0, o0 + k * 2 + 1, none⟩ = some (.slice qa l.length qc)) ∧ ∀ j, j < l.length → ∃ b' o', qa = some ⟨b', o', none⟩ ∧ wq.cell? ⟨b', o' + j * 2, none⟩ = some (.bool (l.getD j (false, 0)).1) ∧ wq.cell? ⟨b', o' + j * 2 + 1, none⟩ = some (.int .i64 (l.getD j (false, 0)).2)) := fun wq hq => by
        refine ⟨⟨(hq.cell hb0).trans k1, (hq.cell hb0).trans k2⟩, fun j hj => ?_⟩
        obtain ⟨b', o', h1, h2, h3, h4⟩ := hsy j hj
        exact ⟨b', o', h1, (hq.cell h2).trans h3, (hq.cell h2).trans h4⟩
      clear k1 k2 hsy
      obtain ⟨⟨k1, k2⟩, -⟩ := HK.out wo HB.out
      have hlm := dec_len hm1
      have it1 := digits_any m wo hm1
      obtain ⟨dm, hdm⟩ : ∃ y, y = Lib.decDigits m := ⟨_, rfl⟩
      rw [← hdm] at it1 hlm
      have q1 := txt_add (P := Tryd.prog) acc [110] (by simp; omega)
      obtain ⟨s1, hs1⟩ : ∃ x, x = acc ++ [110] := ⟨_, rfl⟩
      rw [← hs1] at q1
      have l1 : s1.length ≤ 1710 := by rw [hs1]; simp; omega
      have q2 := txt_add (P := Tryd.prog) s1 dm (by omega)
      obtain ⟨s2, hs2⟩ : ∃ x, x = s1 ++ dm := ⟨_, rfl⟩
      rw [← hs2] at q2
      have l2 : s2.length ≤ 1720 := by rw [hs2]; simp; omega
      have q3 := txt_add (P := Tryd.prog) s2 [58] (by simp; omega)
      obtain ⟨s3, hs3⟩ : ∃ x, x = s2 ++ [58] := ⟨_, rfl⟩
      rw [← hs3] at q3
      have l3 : s3.length ≤ 1730 := by rw [hs3]; simp; omega
      have HS3 : Hid (s3 = acc ++ leftB9 (m : Int)) := by
        show _ = _
        rw [hs3, hs2, hs1, hdm]
        simp [leftB9]
      have i0 : (0 : Int) ≤ (k : Int) := Int.natCast_nonneg _
      have i1 : (k : Int) < (R.length : Int) := by omega
      clear hs1 hs2 hs3 hdm hstep hpl hhl hll hx hacc
      go_wp2_with
        (go_at_call 13; refine it1.mono ?_; rintro e w6 ⟨rfl, h6⟩
         have HB6 : Hid (Below W1.heap.size W1 w6) := HB.out.trans (h6.mono HB.out.size)
         clear it1 h6)
      clear q1 q2 q3 k1 k2 z0 z1 z2
      go_loopw [3, 5] (fun s3' s5 wq => ∃ j : Nat, s5 = .int .i64 j ∧ j ≤ l.length ∧ (∃ t : List UInt8, s3' = .string ⟨t.toArray⟩ ∧ t = s3 ++ ((l.take j).map symT9).flatten) ∧ Below W1.heap.size W1 wq) (fun _ s _ => l.length - (intOf s).toNat)
      case atStart =>
        refine ⟨0, rfl, Nat.zero_le _, ⟨_, rfl, ?_⟩, HB6.out⟩
        rw [List.take_zero, List.map_nil, List.flatten_nil, List.append_nil]
      case round =>
        clear HB6
        obtain ⟨j, rfl, hj, ⟨ac2, rfl, hac2⟩, hBq⟩ := hrel
        have HQ : Hid (Below W1.heap.size W1 wr) := hBq
        clear hBq
        obtain ⟨z0, z1, z2⟩ := (HG.out wr HQ.out).1
        obtain ⟨⟨k1, k2⟩, hsy⟩ := HK.out wr HQ.out
        have hle := hsl j
        have hal2 : ac2.length ≤ 1800 := by rw [hac2, List.length_append]; omega
        by_cases hjl : j < l.length
        · obtain ⟨b1, o1, hqa, d1, d2⟩ := hsy j hjl
          subst hqa
          obtain ⟨v, hv, hv1⟩ := hsm j hjl
          have hnx := take_next symT9 hjl
          rw [← getD_at9 (d := (false, 0)) hjl] at hnx
          obtain ⟨⟨t, v'⟩, hx⟩ : ∃ x, l.getD j (false, 0) = x := ⟨_, rfl⟩
          rw [hx] at d1 d2 hv hnx
          simp only at d1 d2 hv
          subst hv
          have sy := sym_text t v wr hv1
          have hlv := dec_len hv1
          obtain ⟨y, hy⟩ : ∃ y : List UInt8, y = ((if t then 116 else 110) :: Lib.decDigits v) := ⟨_, rfl⟩
          rw [← hy] at sy
          have hly : y.length ≤ 3 := by rw [hy, List.length_cons]; omega
          have q1 := txt_add (P := Tryd.prog) ac2 [32] (by simp; omega)
          obtain ⟨s1, hs1⟩ : ∃ x, x = ac2 ++ [32] := ⟨_, rfl⟩
          rw [← hs1] at q1
          have l1 : s1.length ≤ 1810 := by rw [hs1]; simp; omega
          have q2 := txt_add (P := Tryd.prog) s1 y (by omega)
          obtain ⟨s2, hs2⟩ : ∃ x, x = s1 ++ y := ⟨_, rfl⟩
          rw [← hs2] at q2
          have HNx : Hid (s3 ++ ((l.take (j + 1)).map symT9).flatten = s2) := by
            show _ = _
            rw [hnx, ← List.append_assoc, ← hac2, hs2, hs1, hy]
            simp [symT9]
          have i2 : (0 : Int) ≤ (j : Int) := Int.natCast_nonneg _
          have i3 : (j : Int) < (l.length : Int) := by omega
          clear hnx hle hx hac2 hs1 hs2 hy hsy
          go_wp2_with
            (go_at_call 14; refine sy.mono ?_; rintro e w6 ⟨rfl, h6⟩
             have HB6 : Hid (Below W1.heap.size W1 w6) := HQ.out.trans (h6.mono HQ.out.size)
             clear sy h6)
          go_roundw
          case rel => exact ⟨j + 1, by go_num, by omega, ⟨_, rfl, HNx.out.symm⟩, HB6.out⟩
          case measure => simp [intOf]; omega
        · have hjj : j = l.length := by omega
          rw [hjj, List.take_length] at hac2
          have q1 := txt_add (P := Tryd.prog) ac2 [10] (by simp; omega)
          obtain ⟨s1, hs1⟩ : ∃ x, x = ac2 ++ [10] := ⟨_, rfl⟩
          rw [← hs1] at q1
          have HAc : Hid (s1 = headB9 T N ++ ((R.take (k + 1)).map ruleB9).flatten) := by
            show _ = _
            rw [HSt.out, hs1, hac2, HS3.out]
            simp [ruleB9]
          clear hjj hac2 hs1 hsy hle
          go_wp2_with fail
          go_roundw
          case rel => exact ⟨k + 1, by go_num, by omega, ⟨_, rfl, HAc.out⟩, HQ.out⟩
          case measure => simp [intOf]; omega
    · have hkk : k = R.length := by omega
      rw [hkk, List.take_length] at hacc
      have HA : Hid (acc = textB T N R) := hacc
      clear hkk hacc
      go_wp2_with fail
      go_ret
      refine ⟨by rw [← HA.out]; rfl, ?_⟩
      have := (HG.out wo HB.out).2.2
      rw [hp]
      exact this

end
end Go.Proofs.YtbdblfiebljhiaaDoor
