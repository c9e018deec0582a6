/- The contract of package text's Print. -/
import Derived.Test.YtganeciagepcpaaDoorTxPut
import Derived.Test.YtganeciagepcpaaDoorTxMath
import Derived.Test.YtganeciagepcpaaDoorMayG
import Derived.Test.YtganeciagepcpaaDoorHeldMix
namespace Go.Proofs.YtganeciagepcpaaDoor
open Go.RowKit

/-- The grammar's box and rules, read in whatever world keeps what was there before the builder. -/
def PrS (sz : Nat) (T N : Int) (ra : Option Addr) (rl rc : Nat) (wq : World) : Prop :=
  wq.cell? ⟨sz, 0, none⟩ = some (.int .i64 T) ∧ wq.cell? ⟨sz, 1, none⟩ = some (.int .i64 N) ∧ wq.cell? ⟨sz, 2, none⟩ = some (.slice ra rl rc)

theorem builder_new (w : World) : Lib.IsBuilderF 39 5 w.heap.size w.heap.size (Lib.byteCells []) (w.alloc (.cells #[.pointer none, .slice none 0 0] 39)) :=
  .inl ⟨Nat.le_refl _, .slice none 0 0, heap_alloc_new w _, World.ownsRowF_of (World.ownsRow_nil _ _ _ _), by simp [Value.ownBlock]⟩

theorem bu_below {T e B b : Nat} {bs : List Value} {w w' : World} (h : Lib.IsBuilderF T e B b bs w) (hb : Below w.heap.size w w') : Lib.IsBuilderF T e B b bs w' := by
  have one : ∀ p, Lib.BuilderAtF T e B b p bs w → Lib.BuilderAtF T e B b p bs w' := fun p h => by
    obtain ⟨h1, v, h2, h3, h4⟩ := h
    refine ⟨h1, v, (hb.block _ (Array.getElem?_eq_some_iff.1 h2).1).trans h2, ⟨h3.1, ?_⟩, h4⟩
    rcases h3.2 with h5 | ⟨g, cap, cur, fz, e1, e2, e3, e4⟩
    · exact .inl h5
    · exact .inr ⟨g, cap, cur, fz, e1, e2, (hb.block _ (Array.getElem?_eq_some_iff.1 e3).1).trans e3, e4⟩
  exact h.imp (one _) (one _)
theorem bu_lt {T e B b : Nat} {bs : List Value} {w : World} (h : Lib.IsBuilderF T e B b bs w) : b < w.heap.size := by
  rcases h with ⟨_, v, h, _⟩ | ⟨_, v, h, _⟩ <;> exact (Array.getElem?_eq_some_iff.1 h).1

section
variable {w : World} {ra : Option Addr} {rc : Nat} {R : List Ru}

set_option maxRecDepth 100000 in
set_option maxHeartbeats 6400000 in
theorem print_yes {T N : Nat} (hr : RulesAt w w.heap.size (.slice ra R.length rc) R) (hm : mayB T N R = true) :
    Calls Tryd.prog 5 #[.agg #[.int .i64 T, .int .i64 N, .slice ra R.length rc]] w fun e w' => e = .returned (.tuple #[.string ⟨(textB T N R).toArray⟩, .int .i64 0]) ∧ Below w.heap.size w w' := by
  obtain ⟨W1, hW1⟩ : ∃ W, w.alloc (.cells #[.int .i64 (T : Int), .int .i64 (N : Int), .slice ra R.length rc] 24) = W := ⟨_, rfl⟩
  have hB1 : Below w.heap.size w W1 := by rw [← hW1]; exact (Below.refl _ _).alloc (Nat.le_refl _) _
  have hx := heap_alloc_new w (.cells #[.int .i64 (T : Int), .int .i64 (N : Int), .slice ra R.length rc] 24)
  rw [hW1] at hx
  have g0 : W1.cell? ⟨w.heap.size, 0, none⟩ = some (.int .i64 (T : Int)) := cell_bk hx rfl
  have g1 : W1.cell? ⟨w.heap.size, 1, none⟩ = some (.int .i64 (N : Int)) := cell_bk hx rfl
  have g2 : W1.cell? ⟨w.heap.size, 2, none⟩ = some (.slice ra R.length rc) := cell_bk hx rfl
  have hr1 : RulesAt W1 W1.heap.size (.slice ra R.length rc) R := (hr.below hB1).mono hB1.size
  have may := mayG_any (w := W1) (T := T) (N := N) hr1
  rw [hm] at may
  have HLow : Hid (Low T N R) := low_of hm
  have HW1 : Hid (Below w.heap.size w W1 ∧ W1.heap[w.heap.size]? = some (.cells #[.int .i64 (T : Int), .int .i64 (N : Int), .slice ra R.length rc] 24 (0, 0)) ∧ RulesAt W1 W1.heap.size (.slice ra R.length rc) R) := ⟨hB1, hx, hr1⟩
  have hcf : ∀ args w, (callFunc 8 args).run Tryd.prog w = .ok (.enter 8 args) w := fun args w => by simp [callFunc, Tryd.func8, Tryd.f8 ]
  clear hr hm hB1 hx hr1
  go_enter Tryd.func5, Tryd.ntmps5
  go_upto_region 5 with (go_at_call 7; refine may.mono ?_; rintro e w2 ⟨rfl, hB2⟩; have HB2 : Hid (Below W1.heap.size W1 w2) := hB2; clear may hB2 g0 g1 g2 hW1)
  obtain ⟨b, hb⟩ : ∃ x, w2.heap.size = x := ⟨_, rfl⟩
  obtain ⟨W3, hW3⟩ : ∃ V, w2.alloc (.cells #[.pointer none, .slice none 0 0] 39) = V := ⟨_, rfl⟩
  have hI0 := builder_new w2
  rw [hW3, hb] at hI0
  have hB23 : Below b w2 W3 := by rw [← hW3, ← hb]; exact (Below.refl _ _).alloc (Nat.le_refl _) _
  have hz3 : W3.heap.size = b + 1 := by rw [← hW3, ← hb]; simp
  rw [hW3]
  rw [hb]
  have HG : Hid (∀ wq, Below b W3 wq → PrS w.heap.size T N ra R.length rc wq ∧ RulesAt wq b (.slice ra R.length rc) R ∧ Below w.heap.size w wq) := fun wq hq => by
    have h1 : Below b w2 wq := hB23.trans hq
    have hs : W1.heap.size ≤ b := by rw [← hb]; exact HB2.out.size
    have h2 : Below W1.heap.size W1 wq := HB2.out.trans (h1.mono hs)
    have hx := (h2.block _ (Array.getElem?_eq_some_iff.1 HW1.out.2.1).1).trans HW1.out.2.1
    exact ⟨⟨cell_bk hx rfl, cell_bk hx rfl, cell_bk hx rfl⟩, (HW1.out.2.2.below h2).mono hs, HW1.out.1.trans (h2.mono HW1.out.1.size)⟩
  have HI0 : Hid (Lib.IsBuilderF 39 5 b b (Lib.byteCells []) W3 ∧ W3.heap.size = b + 1) := ⟨hI0, hz3⟩
  clear hI0 hB23 hz3 hW3 hb
  obtain ⟨Wd, hWd⟩ : ∃ V, W3.drew = V := ⟨_, rfl⟩
  have hBd : Below b W3 Wd := by rw [← hWd]; exact (Below.refl _ _).drew
  have hId : Lib.IsBuilderF 39 5 b b (Lib.byteCells []) Wd := by rw [← hWd]; exact HI0.out.1
  have hzd : Wd.heap.size = b + 1 := by rw [← hWd]; exact HI0.out.2
  have S0 := (HG.out Wd hBd).1
  have HD : Hid (Below b W3 Wd ∧ Lib.IsBuilderF 39 5 b b (Lib.byteCells []) Wd ∧ Wd.heap.size = b + 1) := ⟨hBd, hId, hzd⟩
  clear hBd hId hzd
  refine wp_region_mix [0, 1, 2, 4, 5] 4 8 (PrS w.heap.size T N ra R.length rc) (by kernel_rfl) (by kernel_rfl) (by rw [hWd]; exact S0) ?_
  rw [hWd]
  clear hWd
  iterate 5
    refine StillI.con9 (v := ?_) rfl (by rfl) ?_ ?_
    rotate_left
    · intro w' hSw
      obtain ⟨z0, z1, z2⟩ := hSw
      go_simp
      try with_reducible rfl
    simp only [Act.put, List.setIfInBounds_toArray, List.set_cons_zero, List.set_cons_succ]
  rw [StillI]
  have it1 := itoa_small T HLow.out.t Wd
  refine TailC.one (i := 3) (by kernel_rfl) ⟨_, rfl, fun K hK => ?_⟩
  go_simp
  refine it1.mono ?_
  rintro e w4 ⟨rfl, h4⟩
  obtain rfl : Wd = w4 := h4.symm
  dsimp only
  refine hK.out _ _ (fun _ => S0) ?_
  clear hK it1
  have it2 := itoa_small N HLow.out.n Wd
  refine TailC.one (i := 6) (by kernel_rfl) ⟨_, rfl, fun K hK => ?_⟩
  go_simp
  refine it2.mono ?_
  rintro e w4 ⟨rfl, h4⟩
  obtain rfl : Wd = w4 := h4.symm
  dsimp only
  refine hK.out _ _ (fun _ => S0) ?_
  clear hK it2
  have hBs : Below b Wd (Wd.alloc (.cells (strV [[116, 101, 114, 109, 115, 32], Lib.decDigits T, [32, 110, 97, 109, 101, 115, 32], Lib.decDigits N, [10]]).toArray 9)) := (Below.refl _ _).alloc (by have := HD.out.2.2; omega) _
  have pu := put_all (w := Wd.alloc (.cells (strV [[116, 101, 114, 109, 115, 32], Lib.decDigits T, [32, 110, 97, 109, 101, 115, 32], Lib.decDigits N, [10]]).toArray 9)) (B := b) (b := b) (sb := Wd.heap.size) (S := [[116, 101, 114, 109, 115, 32], Lib.decDigits T, [32, 110, 97, 109, 101, 115, 32], Lib.decDigits N, [10]]) (acc := []) (HD.out.2.1.alloc _) (heap_alloc_new _ _) (by have := HD.out.2.2; omega) (by have := HD.out.2.2; simp; omega) (by have h1 := dec_len HLow.out.t; have h2 := dec_len HLow.out.n; simp; omega) (by simp)
  have hS1 := (HG.out _ (HD.out.1.trans hBs)).1
  simp only [strV, List.map_cons, List.map_nil] at hBs pu hS1
  refine TailC.one (i := 7) (by kernel_rfl) ⟨_, rfl, fun K hK => ?_⟩
  go_simp
  refine hK.out _ _ (fun _ => hS1) ?_
  clear hK
  refine TailC.last (i := 8) (by kernel_rfl) ⟨_, rfl, fun K hK => ?_⟩
  go_simp
  refine pu.mono ?_
  rintro e w5 ⟨rfl, hI5, hB5, -⟩
  dsimp only
  refine hK.out _ _ (fun h => absurd h (by omega)) (NoPanic.normal ?_)
  clear hK pu
  have HI5 : Hid (Lib.IsBuilderF 39 5 b b (Lib.byteCells (headB9 T N)) w5 ∧ Below b W3 w5) := by
    refine ⟨?_, HD.out.1.trans (hBs.trans hB5)⟩
    have e : [] ++ [[116, 101, 114, 109, 115, 32], Lib.decDigits T, [32, 110, 97, 109, 101, 115, 32], Lib.decDigits N, [10]].flatten = headB9 T N := by simp [headB9]
    rw [← e]
    exact hI5
  obtain ⟨z0, z1, z2⟩ := (HG.out w5 HI5.out.2).1
  clear hI5 hB5 hBs hS1 S0 HD HI0
  go_wp2_with fail
  clear z0 z1 z2
  go_loopw [26] (fun s26 wr => ∃ k : Nat, s26 = .int .i64 k ∧ k ≤ R.length ∧ Lib.IsBuilderF 39 5 b b (Lib.byteCells (headB9 T N ++ ((R.take k).map ruleB9).flatten)) wr ∧ Below b W3 wr ∧ b < wr.heap.size) (fun s _ => R.length - (intOf s).toNat)
  case atStart =>
    refine ⟨0, rfl, Nat.zero_le _, ?_, HI5.out.2, ?_⟩
    · rw [List.take_zero, List.map_nil, List.flatten_nil, List.append_nil]; exact HI5.out.1
    · exact bu_lt HI5.out.1
  case round =>
    clear HI5
    obtain ⟨k, rfl, hk, hI, hB, hlb⟩ := hrel
    have hR40 := HLow.out.r
    obtain ⟨wo, hwo⟩ : ∃ x, x = wr := ⟨_, rfl⟩
    subst hwo
    have HR : Hid (Lib.IsBuilderF 39 5 b b (Lib.byteCells (headB9 T N ++ ((R.take k).map ruleB9).flatten)) wo ∧ Below b W3 wo ∧ b < wo.heap.size) := ⟨hI, hB, hlb⟩
    clear hI hB hlb
    by_cases hlt : k < R.length
    · obtain ⟨b0, o0, rc0, qa, qc, hv, -, k1, k2', -, hsy⟩ := (HG.out wo HR.out.2.1).2.1.2 k hlt
      have k2 : wo.cell? ⟨b0, o0 + k * 2 + 1, none⟩ = some (.slice qa (R.getD k (0, [])).2.length qc) := k2'
      clear k2'
      injection hv with hv1 _ hv3
      subst hv1
      subst hv3
      have hstep := take_next ruleB9 hlt
      rw [← getD_at9 (d := (0, [])) hlt] at hstep
      have hpl := HLow.out.part k
      have hhl := head_len HLow.out
      have hll := HLow.out.left_len hlt
      have hsl := fun j => HLow.out.sympart hlt j
      have hsm := HLow.out.sym k hlt
      have hsn := HLow.out.len k hlt
      obtain ⟨m, hm, hm1⟩ := HLow.out.left k hlt
      obtain ⟨⟨L, l⟩, hx⟩ : ∃ x, R.getD k (0, []) = x := ⟨_, rfl⟩
      rw [hx] at k1 k2 hsy hstep hll hsl hsm hsn hm
      simp only at k1 k2 hsy hll hsl hsm hsn hm
      subst hm
      obtain ⟨acc, hacc⟩ : ∃ a, headB9 T N ++ ((R.take k).map ruleB9).flatten = a := ⟨_, rfl⟩
      have hal : acc.length ≤ 1700 := by rw [← hacc, List.length_append]; omega
      rw [hacc] at HR
      have HLen : Hid (acc.length ≤ 1700 ∧ (leftB9 (m : Int)).length ≤ 4) := ⟨hal, hll⟩
      have HSt : Hid (headB9 T N ++ ((R.take (k + 1)).map ruleB9).flatten = acc ++ ruleB9 ((m : Int), l)) := by
        show _ = _
        rw [hstep, ← List.append_assoc, hacc]
      obtain ⟨W8, hW8⟩ : ∃ V, wo.alloc (.cells #[.int .i64 (m : Int), .slice qa l.length qc] 49) = V := ⟨_, rfl⟩
      have hB8 : Below b wo W8 := by rw [← hW8]; exact (Below.refl _ _).alloc (Nat.le_of_lt HR.out.2.2) _
      have hI8 : Lib.IsBuilderF 39 5 b b (Lib.byteCells acc) W8 := by rw [← hW8]; exact HR.out.1.alloc _
      have hx8 := heap_alloc_new wo (.cells #[.int .i64 (m : Int), .slice qa l.length qc] 49)
      rw [hW8] at hx8
      obtain ⟨rb, hrb⟩ : ∃ x, wo.heap.size = x := ⟨_, rfl⟩
      have hz8 : W8.heap.size = rb + 1 := by rw [← hW8, ← hrb]; simp
      rw [hrb] at hx8
      have c0 : W8.cell? ⟨rb, 0, none⟩ = some (.int .i64 (m : Int)) := cell_bk hx8 rfl
      have hrbb : b < rb := by rw [← hrb]; exact HR.out.2.2
      have it1 := itoa_small m hm1 W8
      have pu := put_all (w := W8.alloc (.cells (strV [[110], Lib.decDigits m, [58]]).toArray 9)) (B := b) (b := b) (sb := W8.heap.size) (S := [[110], Lib.decDigits m, [58]]) (acc := acc) (hI8.alloc _) (heap_alloc_new _ _) (by omega) (by simp; omega) (by have h1 := dec_len hm1; simp; omega) (by simp)
      have hB9 : Below b W8 (W8.alloc (.cells (strV [[110], Lib.decDigits m, [58]]).toArray 9)) := (Below.refl _ _).alloc (by omega) _
      have hx9 : (W8.alloc (.cells (strV [[110], Lib.decDigits m, [58]]).toArray 9)).heap[rb]? = some (.cells #[.int .i64 (m : Int), .slice qa l.length qc] 49 (0, 0)) := (heap_alloc_old W8 _ (by omega)).trans hx8
      simp only [strV, List.map_cons, List.map_nil] at pu hB9 hx9
      have HR8 : Hid (Below b wo W8 ∧ Below b W8 (W8.alloc (.cells #[.string ⟨[110].toArray⟩, .string ⟨(Lib.decDigits m).toArray⟩, .string ⟨[58].toArray⟩] 9)) ∧ (W8.alloc (.cells #[.string ⟨[110].toArray⟩, .string ⟨(Lib.decDigits m).toArray⟩, .string ⟨[58].toArray⟩] 9)).heap[rb]? = some (.cells #[.int .i64 (m : Int), .slice qa l.length qc] 49 (0, 0)) ∧ b < rb) := ⟨hB8, hB9, hx9, hrbb⟩
      have HSy : Hid (∀ wq, Below b wo wq → ∀ j, j < l.length → ∃ b' o', qa = some ⟨b', o', none⟩ ∧ wq.cell? ⟨b', o' + j * 2, none⟩ = some (.bool (l.getD j (false, 0)).1) ∧ wq.cell? ⟨b', o' + j * 2 + 1, none⟩ = some (.int .i64 (l.getD j (false, 0)).2)) := fun wq hq j hj => by
        obtain ⟨b', o', h1, h2, h3, h4⟩ := hsy j hj
        exact ⟨b', o', h1, (hq.cell h2).trans h3, (hq.cell h2).trans h4⟩
      have HW8 : Hid (wo.alloc (.cells #[.int .i64 (m : Int), .slice qa l.length qc] 49) = W8 ∧ wo.heap.size = rb) := ⟨hW8, hrb⟩
      have i0 : (0 : Int) ≤ (k : Int) := Int.natCast_nonneg _
      have i1 : (k : Int) < (R.length : Int) := by omega
      clear hsy hstep hpl hhl hll hx hacc hB8 hI8 hx8 hz8 hrbb hB9 hx9 hW8 hrb
      go_upto_region 9 with fail
      rw [HW8.out.1]
      rw [HW8.out.2]
      go_wp2_with
        (first
         | (go_at_call 10; refine it1.mono ?_; rintro e w9 ⟨rfl, h9⟩; obtain rfl : W8 = w9 := h9.symm; clear it1)
         | (go_at_call 8; refine pu.mono ?_; rintro e w9 ⟨rfl, hI9, hB9, hO9⟩
            have hx9 := hO9 rb _ HR8.out.2.2.1 (fun e => by have := HR8.out.2.2.2; have := Option.some.inj e; omega) (fun _ _ e => by cases e)
            have c1 : w9.cell? ⟨rb, 1, none⟩ = some (.slice qa l.length qc) := cell_bk hx9 rfl
            have HI9 : Hid (Lib.IsBuilderF 39 5 b b (Lib.byteCells (acc ++ leftB9 (m : Int))) w9 ∧ Below b wo w9 ∧ b < w9.heap.size) := by
              refine ⟨?_, HR8.out.1.trans (HR8.out.2.1.trans hB9), ?_⟩
              · have e : acc ++ [[110], Lib.decDigits m, [58]].flatten = acc ++ leftB9 (m : Int) := by simp [leftB9]
                rw [← e]
                exact hI9
              · have := (Array.getElem?_eq_some_iff.1 hx9).1
                have := HR8.out.2.2.2
                omega
            clear pu hI9 hB9 hO9 hx9))
      clear c1 c0 k1 k2
      go_loopw [39] (fun s39 wq => ∃ j : Nat, s39 = .int .i64 j ∧ j ≤ l.length ∧ Lib.IsBuilderF 39 5 b b (Lib.byteCells (acc ++ leftB9 (m : Int) ++ ((l.take j).map symT9).flatten)) wq ∧ Below b wo wq ∧ b < wq.heap.size) (fun s _ => l.length - (intOf s).toNat)
      case atStart =>
        refine ⟨0, rfl, Nat.zero_le _, ?_, HI9.out.2⟩
        rw [List.take_zero, List.map_nil, List.flatten_nil, List.append_nil]
        exact HI9.out.1
      case round =>
        clear HI9 HR8 HW8
        obtain ⟨j, rfl, hj, hIq, hBq, hlq⟩ := hrel
        have HQ : Hid (Lib.IsBuilderF 39 5 b b (Lib.byteCells (acc ++ leftB9 (m : Int) ++ ((l.take j).map symT9).flatten)) wr ∧ Below b wo wr ∧ b < wr.heap.size) := ⟨hIq, hBq, hlq⟩
        clear hIq hBq hlq
        by_cases hjl : j < l.length
        · obtain ⟨b1, o1, hqa, d1, d2⟩ := HSy.out wr HQ.out.2.1 j hjl
          subst hqa
          obtain ⟨v, hv, hv1⟩ := hsm j hjl
          have hnx := take_next symT9 hjl
          rw [← getD_at9 (d := (false, 0)) hjl] at hnx
          have hle := hsl j
          have hle2 := hsl (j + 1)
          obtain ⟨⟨t, v'⟩, hx⟩ : ∃ x, l.getD j (false, 0) = x := ⟨_, rfl⟩
          rw [hx] at d1 d2 hv hnx
          simp only at d1 d2 hv
          subst hv
          obtain ⟨ac2, hac2⟩ : ∃ a, acc ++ leftB9 (m : Int) ++ ((l.take j).map symT9).flatten = a := ⟨_, rfl⟩
          have hal2 : ac2.length ≤ 2000 := by
            rw [← hac2, List.length_append, List.length_append]
            have := HLen.out
            omega
          have HNx : Hid (acc ++ leftB9 (m : Int) ++ ((l.take (j + 1)).map symT9).flatten = ac2 ++ symT9 (t, (v : Int))) := by
            show _ = _
            rw [hnx, ← List.append_assoc, hac2]
          rw [hac2] at HQ
          obtain ⟨Ws, hWs⟩ : ∃ V, wr.alloc (.cells #[.bool t, .int .i64 (v : Int)] 51) = V := ⟨_, rfl⟩
          have hBs : Below b wr Ws := by rw [← hWs]; exact (Below.refl _ _).alloc (Nat.le_of_lt HQ.out.2.2) _
          have hIs : Lib.IsBuilderF 39 5 b b (Lib.byteCells ac2) Ws := by rw [← hWs]; exact HQ.out.1.alloc _
          have hxs := heap_alloc_new wr (.cells #[.bool t, .int .i64 (v : Int)] 51)
          rw [hWs] at hxs
          obtain ⟨p9, hp9⟩ : ∃ x, wr.heap.size = x := ⟨_, rfl⟩
          have hzs : Ws.heap.size = p9 + 1 := by rw [← hWs, ← hp9]; simp
          rw [hp9] at hxs
          have hp9b : b < p9 := by rw [← hp9]; exact HQ.out.2.2
          have HWs : Hid (wr.alloc (.cells #[.bool t, .int .i64 (v : Int)] 51) = Ws ∧ wr.heap.size = p9) := ⟨hWs, hp9⟩
          have HS : Hid (Below b wr Ws ∧ Lib.IsBuilderF 39 5 b b (Lib.byteCells ac2) Ws ∧ Ws.heap[p9]? = some (.cells #[.bool t, .int .i64 (v : Int)] 51 (0, 0)) ∧ b < p9 ∧ Ws.heap.size = p9 + 1) := ⟨hBs, hIs, hxs, hp9b, hzs⟩
          have i2 : (0 : Int) ≤ (j : Int) := Int.natCast_nonneg _
          have i3 : (j : Int) < (l.length : Int) := by omega
          clear hnx hle hle2 hx hac2 hWs hBs hIs hxs hp9 hzs hp9b
          go_upto_region 13 with fail
          rw [HWs.out.1]
          rw [HWs.out.2]
          clear d1 d2
          obtain ⟨Wd2, hWd2⟩ : ∃ V, Ws.drew = V := ⟨_, rfl⟩
          have hBd2 : Below Ws.heap.size Ws Wd2 := by rw [← hWd2]; exact (Below.refl _ _).drew
          have hI2 : Lib.IsBuilderF 39 5 b b (Lib.byteCells ac2) Wd2 := by rw [← hWd2]; exact HS.out.2.1
          have hz2 : Wd2.heap.size = p9 + 1 := by rw [← hWd2]; exact HS.out.2.2.2.2
          have HSc : Hid (∀ wq, Below Wd2.heap.size Wd2 wq → wq.cell? ⟨p9, 0, none⟩ = some (.bool t) ∧ wq.cell? ⟨p9, 1, none⟩ = some (.int .i64 (v : Int))) := fun wq hq => by
            have h1 : Below Ws.heap.size Ws wq := hBd2.trans (hq.mono hBd2.size)
            have hx := (h1.block _ (Array.getElem?_eq_some_iff.1 HS.out.2.2.1).1).trans HS.out.2.2.1
            exact ⟨cell_bk hx rfl, cell_bk hx rfl⟩
          have S1 := HSc.out Wd2 (Below.refl _ _)
          have HD2 : Hid (Below b wr Wd2 ∧ Lib.IsBuilderF 39 5 b b (Lib.byteCells ac2) Wd2 ∧ Wd2.heap.size = p9 + 1) := ⟨HS.out.1.trans (hBd2.mono (by have := HS.out.2.2.2; omega)), hI2, hz2⟩
          have mk := mark_any (w := Wd2) (t := t) (v := (v : Int))
          clear hBd2 hI2 hz2
          refine wp_region_mix [0, 1, 3, 4] 4 7 (fun wq => wq.cell? ⟨p9, 0, none⟩ = some (.bool t) ∧ wq.cell? ⟨p9, 1, none⟩ = some (.int .i64 (v : Int))) (by kernel_rfl) (by kernel_rfl) (by rw [hWd2]; exact S1) ?_
          rw [hWd2]
          clear hWd2 S1
          iterate 4
            refine StillI.con9 (v := ?_) rfl (by rfl) ?_ ?_
            rotate_left
            · intro w' hSw
              obtain ⟨z0, z1⟩ := hSw
              go_simp
              try with_reducible rfl
            simp only [Act.put, List.setIfInBounds_toArray, List.set_cons_zero, List.set_cons_succ]
          rw [StillI]
          refine TailC.one (i := 2) (by kernel_rfl) ⟨_, rfl, fun K hK => ?_⟩
          go_simp
          refine mk.mono ?_
          rintro e w6 ⟨rfl, hB6⟩
          dsimp only
          refine hK.out _ _ (fun _ => HSc.out w6 hB6) ?_
          clear hK mk
          have it2 := itoa_small v hv1 w6
          refine TailC.one (i := 5) (by kernel_rfl) ⟨_, rfl, fun K hK => ?_⟩
          go_simp
          refine it2.mono ?_
          rintro e w7 ⟨rfl, h7⟩
          obtain rfl : w6 = w7 := h7.symm
          dsimp only
          refine hK.out _ _ (fun _ => HSc.out w6 hB6) ?_
          clear hK it2
          have hI6 : Lib.IsBuilderF 39 5 b b (Lib.byteCells ac2) w6 := bu_below HD2.out.2.1 hB6
          have hB6b : Below b Wd2 w6 := hB6.mono (by have := HD2.out.2.2; have := HS.out.2.2.2; omega)
          have hz6 : p9 + 1 ≤ w6.heap.size := by have := hB6.size; have := HD2.out.2.2; omega
          have pu2 := put_all (w := w6.alloc (.cells (strV [[32], [if t then 116 else 110], Lib.decDigits v]).toArray 9)) (B := b) (b := b) (sb := w6.heap.size) (S := [[32], [if t then 116 else 110], Lib.decDigits v]) (acc := ac2) (hI6.alloc _) (heap_alloc_new _ _) (by have := HS.out.2.2.2; omega) (by have := HS.out.2.2.2; simp; omega) (by have h1 := dec_len hv1; simp; omega) (by simp)
          have hBa : Below b w6 (w6.alloc (.cells (strV [[32], [if t then 116 else 110], Lib.decDigits v]).toArray 9)) := (Below.refl _ _).alloc (by have := HS.out.2.2.2; omega) _
          have hSa := HSc.out _ (hB6.alloc hB6.size (.cells (strV [[32], [if t then 116 else 110], Lib.decDigits v]).toArray 9))
          simp only [strV, List.map_cons, List.map_nil] at pu2 hBa hSa
          refine TailC.one (i := 6) (by kernel_rfl) ⟨_, rfl, fun K hK => ?_⟩
          go_simp
          refine hK.out _ _ (fun _ => hSa) ?_
          clear hK
          refine TailC.last (i := 7) (by kernel_rfl) ⟨_, rfl, fun K hK => ?_⟩
          go_simp
          refine pu2.mono ?_
          rintro e w8 ⟨rfl, hI8, hB8, -⟩
          dsimp only
          refine hK.out _ _ (fun h => absurd h (by omega)) (NoPanic.normal ?_)
          clear hK pu2
          have HI8 : Hid (Lib.IsBuilderF 39 5 b b (Lib.byteCells (ac2 ++ symT9 (t, (v : Int)))) w8 ∧ Below b wo w8) := by
            refine ⟨?_, HQ.out.2.1.trans (HD2.out.1.trans (hB6b.trans (hBa.trans hB8)))⟩
            have e : ac2 ++ [[32], [if t then 116 else 110], Lib.decDigits v].flatten = ac2 ++ symT9 (t, (v : Int)) := by simp [symT9]
            rw [← e]
            exact hI8
          clear hI6 hB6b hz6 hBa hSa hI8 hB8 hB6 HSc
          go_wp2_with fail
          go_roundw
          case rel =>
            refine ⟨j + 1, by go_num, by omega, ?_, HI8.out.2, bu_lt HI8.out.1⟩
            rw [HNx.out]
            exact HI8.out.1
          case measure => simp [intOf]; omega
        · have hjj : j = l.length := by omega
          have hI1 := HQ.out.1
          rw [hjj, List.take_length] at hI1
          obtain ⟨ac2, hac2⟩ : ∃ a, acc ++ leftB9 (m : Int) ++ (l.map symT9).flatten = a := ⟨_, rfl⟩
          have hal2 : ac2.length ≤ 2000 := by
            rw [← hac2, List.length_append, List.length_append]
            have h1 := HLen.out
            have h2 := hsl l.length
            rw [List.take_length] at h2
            omega
          rw [hac2] at hI1
          have HAc : Hid (acc ++ ruleB9 ((m : Int), l) = ac2 ++ [10]) := by
            show _ = _
            rw [← hac2]
            simp [ruleB9]
          have pu3 := put_all (w := wr.alloc (.cells (strV [[10]]).toArray 9)) (B := b) (b := b) (sb := wr.heap.size) (S := [[10]]) (acc := ac2) (hI1.alloc _) (heap_alloc_new _ _) (by have := HQ.out.2.2; omega) (by have := HQ.out.2.2; simp; omega) (by simp; omega) (by simp)
          have HBa : Hid (Below b wr (wr.alloc (.cells (strV [[10]]).toArray 9))) := (Below.refl _ _).alloc (Nat.le_of_lt HQ.out.2.2) _
          simp only [strV, List.map_cons, List.map_nil] at pu3 HBa
          clear hjj hac2 hI1
          go_wp2_with
            (go_at_call 8; refine pu3.mono ?_; rintro e w8 ⟨rfl, hI8, hB8, -⟩
             have HI8 : Hid (Lib.IsBuilderF 39 5 b b (Lib.byteCells (ac2 ++ [10])) w8 ∧ Below b W3 w8) := ⟨hI8, HR.out.2.1.trans (HQ.out.2.1.trans (HBa.out.trans hB8))⟩
             clear pu3 hI8 hB8)
          go_roundw
          case rel =>
            refine ⟨k + 1, by go_num, by omega, ?_, HI8.out.2, bu_lt HI8.out.1⟩
            rw [HSt.out, HAc.out]
            exact HI8.out.1
          case measure => simp [intOf]; omega
    · have hkk : k = R.length := by omega
      have hI1 := HR.out.1
      rw [hkk, List.take_length] at hI1
      have st := bu_string b b (textB T N R) wo hI1 (Nat.le_of_lt HR.out.2.2)
      obtain ⟨tx, htx⟩ : ∃ z, (⟨(textB T N R).toArray⟩ : ByteArray) = z := ⟨_, rfl⟩
      rw [htx] at st
      have HTx : Hid ((⟨(textB T N R).toArray⟩ : ByteArray) = tx) := htx
      clear hkk hI1 htx
      go_wp2_with
        (go_at_call 12; refine st.mono ?_; rintro e w8 ⟨rfl, -, hB8, -⟩
         have HB8 : Hid (Below b W3 w8) := HR.out.2.1.trans hB8
         clear st hB8)
      refine bodyPost_ret (v := .tuple #[.string tx, .int .i64 0]) (by simp [results, Tryd.results5, go_sem]) rfl ?_
      exact ⟨by rw [HTx.out], (HG.out w8 HB8.out).2.2⟩
end

end Go.Proofs.YtganeciagepcpaaDoor
