import Derived.Test.YtikjekfpgklbdaaHeldTailAndConcT
import Derived.Lib.AppendZeros
import Derived.Test.YtikjekfpgklbdaaMathAndOwns
/- The contracts of slices.Grow and slices.Concat, of api.Rule. -/
namespace Go.Proofs.Ytikjekfpgklbdaa
open Go.RowKit

theorem Try.infoCcR : (Try.prog.info? 44).map (fun i => (i.zero, i.size, i.bytes)) = some (some (.agg #[.int .i64 0, .slice none 0 0]), 2, 32) := by kernel_rfl

theorem append_ccR0 {w : World} {oa sa : Option Addr} {n d c : Nat} (hn : n ≤ d) (h0 : oa = none → n = 0 ∧ d = 0) : (Builtin.append_ #[ 22, 22 ] 22 #[.slice oa n d, .slice sa 0 c]).run Try.prog w = .ok (.slice oa n d) w := by
  cases oa with
  | none =>
    obtain ⟨rfl, rfl⟩ := h0 rfl
    cases sa <;> go_simp
  | some o => cases sa <;> go_simp

/-- append(x, l...), x being the call's own, or none. -/
theorem append_ccR {w : World} {B : Nat} {ov lv : Value} {n m : Nat} {xs ys : List Value} (ho : w.ownsRow B 44 2 ov n xs) (hl : RowAt w lv m ys) (hb : B ≤ w.heap.size) (hs : n + m ≤ 100000) :
    ∃ a d w', (Builtin.append_ #[ 22, 22 ] 22 #[ov, lv]).run Try.prog w = .ok (.slice a (n + m) d) w' ∧ w'.ownsRow B 44 2 (.slice a (n + m) d) (n + m) (xs ++ ys) ∧ w.grownBy w' ov.ownBlock ∧ ∀ g, (Value.slice a (n + m) d).ownBlock = some g → ov.ownBlock = some g ∨ g = w.heap.size := by
  obtain ⟨oa, od, hov⟩ := own_form ho
  obtain ⟨⟨la, lc, hlv, _⟩, hlen, hone, hcell⟩ := hl
  rcases Nat.eq_zero_or_pos m with h0 | h0
  · subst h0
    have he : ys = [] := List.eq_nil_of_length_eq_zero (by omega)
    subst he
    rw [hov, hlv]
    have hnd : n ≤ od ∧ (oa = none → n = 0 ∧ od = 0) := by
      obtain ⟨_, ⟨hx, hz⟩ | ⟨_, _, _, hx, _, _, h5, _⟩⟩ := ho
      · rw [hov] at hx
        injection hx with x1 x2 x3
        exact ⟨by omega, fun _ => ⟨by omega, by omega⟩⟩
      · rw [hov] at hx
        injection hx with x1 x2 x3
        exact ⟨by omega, fun e => by rw [e] at x1; cases x1⟩
    refine ⟨oa, od, w, append_ccR0 hnd.1 hnd.2, ?_, ⟨rfl, rfl, rfl, Nat.le_refl _, fun _ _ _ => rfl⟩, fun g hg => .inl hg⟩
    rw [hov] at ho
    simpa using ho
  · obtain ⟨ad, c, he, hnews⟩ := hcell h0
    obtain ⟨i1, hi1, hy0, hy1, hy2⟩ := info_parts Try.infoCcR
    obtain ⟨g', cap', w', hr, h2, h3, h4, _⟩ := run_append_lies (P := Try.prog) w 22 22 B 44 i1 _ 2 32 Try.underlying22 hi1 hy0 hy1 hy2 rfl (by omega) ov n xs ho ad m c ys hlen hnews hone h0 (by simp only [maxLen]; omega) (by omega) hb w.heap.size rfl
    rw [he]
    refine ⟨_, _, w', hr, h2, h3, fun q hq => ?_⟩
    simp only [Value.ownBlock, Option.some.injEq] at hq
    subst hq
    exact h4

theorem wpList_append_ccR {w : World} {ops : Array Oper} {rest : List Oper} {o : Oper} {a : Act} {Q : Exit → Act → World → Prop} (hgd : o.guard = none) (s x : Operand) (ho' : o.op = .call { callee := .builtin .append, args := #[s, x], argTypes := #[ 22, 22 ] }) (hty : o.type = 22)
    {B n m : Nat} {xs ys : List Value} {ov lv : Value} (hsv : a.eval s = ov) (hxv : a.eval x = lv) (ho : w.ownsRow B 44 2 ov n xs) (hl : RowAt w lv m ys) (hb : B ≤ w.heap.size) (hs : n + m ≤ 100000)
    (h : ∀ a' d' w', w'.ownsRow B 44 2 (.slice a' (n + m) d') (n + m) (xs ++ ys) → w.grownBy w' ov.ownBlock → (∀ g, (Value.slice a' (n + m) d').ownBlock = some g → ov.ownBlock = some g ∨ g = w.heap.size) → wpList Try.prog ops Q rest (a.put o.dst (.slice a' (n + m) d')) w') : wpList Try.prog ops Q (o :: rest) a w := by
  obtain ⟨a', d', w', hr, h1, h2, h3⟩ := append_ccR ho hl hb hs
  refine wpList_plain hgd fun K hK => ?_
  unfold Oper.wp execOp
  simp only [ho', hty, resolve, invoke, builtin, Sem.run_bind, Sem.run_pure, Result.andThen_ok, List.map_toArray, List.map_cons, List.map_nil, hsv, hxv, hr]
  exact hK _ _ (h a' d' w' h1 h2 h3)

theorem step_append_ccR {w : World} {ops : Array Oper} {o : Oper} {a : Act} {K : Act → World → Prop} {Q : Exit → Act → World → Prop} {E : Prop} (hgd : o.guard = none) (s x : Operand) (ho' : o.op = .call { callee := .builtin .append, args := #[s, x], argTypes := #[ 22, 22 ] }) (hty : o.type = 22)
    {B n m : Nat} {xs ys : List Value} {ov lv : Value} (hsv : a.eval s = ov) (hxv : a.eval x = lv) (ho : w.ownsRow B 44 2 ov n xs) (hl : RowAt w lv m ys) (hb : B ≤ w.heap.size) (hs : n + m ≤ 100000)
    (h : ∀ a' d' w', w'.ownsRow B 44 2 (.slice a' (n + m) d') (n + m) (xs ++ ys) → w.grownBy w' ov.ownBlock → (∀ g, (Value.slice a' (n + m) d').ownBlock = some g → ov.ownBlock = some g ∨ g = w.heap.size) → K (a.put o.dst (.slice a' (n + m) d')) w') : if Region.wanted o (yielded ops a.tmps) = true then Oper.wp Try.prog o a w K Q else E := by
  obtain ⟨a', d', w', hr, h1, h2, h3⟩ := append_ccR ho hl hb hs
  have hw : Region.wanted o (yielded ops a.tmps) = true := by simp [Region.wanted, hgd]
  rw [if_pos hw]
  unfold Oper.wp execOp
  simp only [ho', hty, resolve, invoke, builtin, Sem.run_bind, Sem.run_pure, Result.andThen_ok, List.map_toArray, List.map_cons, List.map_nil, hsv, hxv, hr]
  exact h a' d' w' h1 h2 h3

set_option maxRecDepth 100000 in
set_option maxHeartbeats 3200000 in
theorem grow_ccR {w : World} {n : Nat} (hn : n ≤ 100000) :
    Calls Try.prog 96 #[.slice none 0 0, .int .i64 n] w fun e w' => ∃ v, e = .returned v ∧ w'.ownsRow w.heap.size 44 2 v 0 [] ∧ Below w.heap.size w w' := by
  have i0 : (0 : Int) ≤ (n : Int) := Int.natCast_nonneg _
  rcases Nat.eq_zero_or_pos n with h0 | h0
  · subst h0
    go_enter Try.func96, Try.ntmps96
    go_wp2_with fail
    go_ret
    exact ⟨_, rfl, World.ownsRow_nil _ _ _ _, Below.refl _ _⟩
  · obtain ⟨i1, hi1, hy0, hy1, hy2⟩ := info_parts Try.infoCcR
    have hi : (0 : Int) < (n : Int) := by omega
    have hr := Lib.run_append_nil_zeros (P := Try.prog) w 22 3 22 44 i1 (.agg #[.int .i64 0, .slice none 0 0]) .i64 .i64 Try.underlying22 Try.underlying3 hi1 hy0 n h0 (by rw [hy1]; omega) (by omega) (by rw [hy2]; omega)
    have hge := grownCap_ge w n 0 44
    have hle := grownCap_le_maxLen w n 0 44 (by unfold maxLen; omega)
    obtain ⟨C, hC⟩ : ∃ C, grownCap w n 0 44 = C := ⟨_, rfl⟩
    rw [hC] at hr hge hle
    clear hC
    obtain ⟨cur, hcur⟩ : ∃ cur, Builtin.zeroCells (.agg #[.int .i64 0, .slice none 0 0] : Value).cells n ++ Builtin.zeroCells (.agg #[.int .i64 0, .slice none 0 0] : Value).cells (C - n) = cur := ⟨_, rfl⟩
    have hcs : cur.size = C * 2 := by
      rw [← hcur, Array.size_append, size_zeroCells, size_zeroCells]
      have : (.agg #[.int .i64 0, .slice none 0 0] : Value).cells.size = 2 := rfl
      rw [this]
      omega
    rw [hcur] at hr
    clear hcur
    have hup : ∀ w0 w, Sem.run Try.prog (Instr.sliceAt 22 (.slice (some ⟨w0, 0, none⟩) n C) none (some (.int .i64 0)) none) w = .ok (.slice (some ⟨w0, 0, none⟩) 0 C) w := fun w0 w => by go_simp
    go_enter Try.func96, Try.ntmps96
    go_wp2_with (at_builtin; refine Lib.wpList_append_run _ rfl _ _ _ _ rfl _ _ rfl rfl _ _ hr ?_)
    go_ret
    exact ⟨_, rfl, ⟨rfl, .inr ⟨w.heap.size, C, cur, rfl, Nat.le_refl _, heap_alloc_new _ _, Nat.zero_le _, hle, hcs, rfl⟩⟩, (Below.refl _ _).drew.alloc (Nat.le_refl _) _⟩

set_option maxRecDepth 100000 in
set_option maxHeartbeats 6400000 in
theorem concat_ccR {w : World} {pb : Nat} {PL : List Part} (hp : ∀ i (hi : i < PL.length), w.cell? ⟨pb, i, none⟩ = some PL[i].1) (hr : ∀ p ∈ PL, RowAt w p.1 p.2.1 p.2.2) (hs : totN PL ≤ 100000) (hl : PL.length ≤ 1000) :
    Calls Try.prog 95 #[.slice (some ⟨pb, 0, none⟩) PL.length PL.length] w fun e w' => ∃ a d, e = .returned (.slice a (totN PL) d) ∧ w'.ownsRow w.heap.size 44 2 (.slice a (totN PL) d) (totN PL) (totX PL) ∧ Below w.heap.size w w' := by
  have HP : Hid (∀ i (hi : i < PL.length), w.cell? ⟨pb, i, none⟩ = some PL[i].1) := hp
  have HR : Hid (∀ p ∈ PL, RowAt w p.1 p.2.1 p.2.2) := hr
  have HS : Hid (totN PL ≤ 100000) := hs
  clear hp hr
  go_enter Try.func95, Try.ntmps95
  go_wp2_with fail
  go_loop [3, 11] (fun s3 s11 => ∃ k : Nat, s3 = .int .i64 (totN (PL.take k)) ∧ s11 = .int .i64 k ∧ k ≤ PL.length) (fun _ s => PL.length - (intOf s).toNat)
  case atStart => exact ⟨0, rfl, rfl, Nat.zero_le _⟩
  case round =>
    obtain ⟨k, rfl, rfl, hk⟩ := hrel
    by_cases hlt : k < PL.length
    · have c1 := HP.out k hlt
      obtain ⟨⟨a, c, hv, _⟩, _⟩ := HR.out PL[k] (List.getElem_mem hlt)
      have ht := totN_take hlt
      have hle := totN_le PL (k + 1)
      obtain ⟨m, hm⟩ : ∃ m, PL[k].2.1 = m := ⟨_, rfl⟩
      rw [hm] at hv ht
      rw [hv] at c1
      obtain ⟨t, h0⟩ : ∃ t, totN (PL.take k) = t := ⟨_, rfl⟩
      rw [h0] at ht ⊢
      have HT : Hid (totN (PL.take (k + 1)) = t + m) := ht
      have i0 : (0 : Int) ≤ (k : Int) := Int.natCast_nonneg _
      have i1 : (k : Int) < (PL.length : Int) := by omega
      have i2 : IntKind.i64.wrap ((t : Int) + (m : Int)) = (t : Int) + (m : Int) := IntWalk.i64_in _ (by omega)
      have i3 : decide ((t : Int) + (m : Int) < 0) = false := decide_eq_false (by omega)
      clear hm hv ht h0 hle
      go_wp2_with fail
      go_round
      case rel => exact ⟨k + 1, by rw [HT.out]; push_cast; rfl, by go_num, by omega⟩
      case measure => simp [intOf]; omega
    · have hkk : k = PL.length := by omega
      subst hkk
      rw [List.take_length]
      obtain ⟨t, h0⟩ : ∃ t, totN PL = t := ⟨_, rfl⟩
      have gr := grow_ccR (w := w) (n := t) (by omega)
      rw [h0]
      have HT : Hid (totN PL = t) := h0
      clear h0 hs
      go_wp2_with (go_at_call 96; refine gr.mono ?_; rintro e w1 ⟨v, rfl, hown, hB⟩; clear gr)
      go_loopw [6, 27] (fun s6 s27 wr => ∃ (k : Nat) (ov : Value), ov = s6 ∧ s27 = .int .i64 k ∧ k ≤ PL.length ∧ wr.ownsRow w.heap.size 44 2 ov (totN (PL.take k)) (totX (PL.take k)) ∧ Below w.heap.size w wr) (fun _ s _ => PL.length - (intOf s).toNat)
      case atStart => exact ⟨0, _, rfl, rfl, Nat.zero_le _, hown, hB⟩
      case round =>
        obtain ⟨k, ov, rfl, rfl, hk, hO, hB1⟩ := hrel
        clear hown hB
        have HB : Hid (Below w.heap.size w wr) := hB1
        by_cases hlt : k < PL.length
        · have hrow := (HR.out PL[k] (List.getElem_mem hlt)).below (Nat.le_refl _) hB1
          have c1 := (hB1.cell (World.block_lt_of_cell? _ _ (HP.out k hlt))).trans (HP.out k hlt)
          have ht := totN_take hlt
          have hx := totX_take hlt
          have hle := totN_le PL (k + 1)
          rw [HT.out] at hle
          have hT := HS.out
          rw [HT.out] at hT
          obtain ⟨⟨pv, m, ys⟩, hm⟩ : ∃ p, PL[k] = p := ⟨_, rfl⟩
          rw [hm] at hrow c1 ht hx
          simp only at hrow c1 ht hx
          obtain ⟨a, c, hv, _⟩ := hrow.1
          subst hv
          obtain ⟨q, h0⟩ : ∃ q, totN (PL.take k) = q := ⟨_, rfl⟩
          obtain ⟨xs, h1⟩ : ∃ xs, totX (PL.take k) = xs := ⟨_, rfl⟩
          rw [h0, h1] at hO
          rw [h0] at ht
          rw [h1] at hx
          have HX : Hid (totN (PL.take (k + 1)) = q + m ∧ totX (PL.take (k + 1)) = xs ++ ys) := ⟨ht, hx⟩
          have hqm : q + m ≤ 100000 := by omega
          have hbs := hB1.size
          have i0 : (0 : Int) ≤ (k : Int) := Int.natCast_nonneg _
          have i1 : (k : Int) < (PL.length : Int) := by omega
          clear hm ht hx hle hT h0 h1 hB1
          go_wp2_with
            (at_builtin
             refine wpList_append_ccR rfl _ _ rfl rfl rfl rfl hO hrow hbs hqm ?_
             intro a' d' w' hown' hgrow hat)
          go_roundw
          case rel => exact ⟨k + 1, _, rfl, by go_num, by omega, by rw [HX.out.1, HX.out.2]; exact hown', HB.out.grown hgrow HB.out.size fun g hg => ((hO.lt g hg).1)⟩
          case measure => simp [intOf]; omega
        · have hkk : k = PL.length := by omega
          subst hkk
          rw [List.take_length, HT.out] at hO
          obtain ⟨a, c, hv⟩ := own_form hO
          subst hv
          go_wp2_with fail
          go_ret
          rw [HT.out]
          exact ⟨a, c, rfl, hO, HB.out⟩

end Go.Proofs.Ytikjekfpgklbdaa

/- The contracts of slices.Grow and slices.Concat, of api.Sym. -/
namespace Go.Proofs.Ytikjekfpgklbdaa
open Go.RowKit

theorem Try.infoCcY : (Try.prog.info? 52).map (fun i => (i.zero, i.size, i.bytes)) = some (some (.agg #[.bool false, .int .i64 0]), 2, 16) := by kernel_rfl

theorem append_ccY0 {w : World} {oa sa : Option Addr} {n d c : Nat} (hn : n ≤ d) (h0 : oa = none → n = 0 ∧ d = 0) : (Builtin.append_ #[ 41, 41 ] 41 #[.slice oa n d, .slice sa 0 c]).run Try.prog w = .ok (.slice oa n d) w := by
  cases oa with
  | none =>
    obtain ⟨rfl, rfl⟩ := h0 rfl
    cases sa <;> go_simp
  | some o => cases sa <;> go_simp

/-- append(x, l...), x being the call's own, or none. -/
theorem append_ccY {w : World} {B : Nat} {ov lv : Value} {n m : Nat} {xs ys : List Value} (ho : w.ownsRow B 52 2 ov n xs) (hl : RowAt w lv m ys) (hb : B ≤ w.heap.size) (hs : n + m ≤ 100000) :
    ∃ a d w', (Builtin.append_ #[ 41, 41 ] 41 #[ov, lv]).run Try.prog w = .ok (.slice a (n + m) d) w' ∧ w'.ownsRow B 52 2 (.slice a (n + m) d) (n + m) (xs ++ ys) ∧ w.grownBy w' ov.ownBlock ∧ ∀ g, (Value.slice a (n + m) d).ownBlock = some g → ov.ownBlock = some g ∨ g = w.heap.size := by
  obtain ⟨oa, od, hov⟩ := own_form ho
  obtain ⟨⟨la, lc, hlv, _⟩, hlen, hone, hcell⟩ := hl
  rcases Nat.eq_zero_or_pos m with h0 | h0
  · subst h0
    have he : ys = [] := List.eq_nil_of_length_eq_zero (by omega)
    subst he
    rw [hov, hlv]
    have hnd : n ≤ od ∧ (oa = none → n = 0 ∧ od = 0) := by
      obtain ⟨_, ⟨hx, hz⟩ | ⟨_, _, _, hx, _, _, h5, _⟩⟩ := ho
      · rw [hov] at hx
        injection hx with x1 x2 x3
        exact ⟨by omega, fun _ => ⟨by omega, by omega⟩⟩
      · rw [hov] at hx
        injection hx with x1 x2 x3
        exact ⟨by omega, fun e => by rw [e] at x1; cases x1⟩
    refine ⟨oa, od, w, append_ccY0 hnd.1 hnd.2, ?_, ⟨rfl, rfl, rfl, Nat.le_refl _, fun _ _ _ => rfl⟩, fun g hg => .inl hg⟩
    rw [hov] at ho
    simpa using ho
  · obtain ⟨ad, c, he, hnews⟩ := hcell h0
    obtain ⟨i1, hi1, hy0, hy1, hy2⟩ := info_parts Try.infoCcY
    obtain ⟨g', cap', w', hr, h2, h3, h4, _⟩ := run_append_lies (P := Try.prog) w 41 41 B 52 i1 _ 2 16 Try.underlying41 hi1 hy0 hy1 hy2 rfl (by omega) ov n xs ho ad m c ys hlen hnews hone h0 (by simp only [maxLen]; omega) (by omega) hb w.heap.size rfl
    rw [he]
    refine ⟨_, _, w', hr, h2, h3, fun q hq => ?_⟩
    simp only [Value.ownBlock, Option.some.injEq] at hq
    subst hq
    exact h4

theorem wpList_append_ccY {w : World} {ops : Array Oper} {rest : List Oper} {o : Oper} {a : Act} {Q : Exit → Act → World → Prop} (hgd : o.guard = none) (s x : Operand) (ho' : o.op = .call { callee := .builtin .append, args := #[s, x], argTypes := #[ 41, 41 ] }) (hty : o.type = 41)
    {B n m : Nat} {xs ys : List Value} {ov lv : Value} (hsv : a.eval s = ov) (hxv : a.eval x = lv) (ho : w.ownsRow B 52 2 ov n xs) (hl : RowAt w lv m ys) (hb : B ≤ w.heap.size) (hs : n + m ≤ 100000)
    (h : ∀ a' d' w', w'.ownsRow B 52 2 (.slice a' (n + m) d') (n + m) (xs ++ ys) → w.grownBy w' ov.ownBlock → (∀ g, (Value.slice a' (n + m) d').ownBlock = some g → ov.ownBlock = some g ∨ g = w.heap.size) → wpList Try.prog ops Q rest (a.put o.dst (.slice a' (n + m) d')) w') : wpList Try.prog ops Q (o :: rest) a w := by
  obtain ⟨a', d', w', hr, h1, h2, h3⟩ := append_ccY ho hl hb hs
  refine wpList_plain hgd fun K hK => ?_
  unfold Oper.wp execOp
  simp only [ho', hty, resolve, invoke, builtin, Sem.run_bind, Sem.run_pure, Result.andThen_ok, List.map_toArray, List.map_cons, List.map_nil, hsv, hxv, hr]
  exact hK _ _ (h a' d' w' h1 h2 h3)

theorem step_append_ccY {w : World} {ops : Array Oper} {o : Oper} {a : Act} {K : Act → World → Prop} {Q : Exit → Act → World → Prop} {E : Prop} (hgd : o.guard = none) (s x : Operand) (ho' : o.op = .call { callee := .builtin .append, args := #[s, x], argTypes := #[ 41, 41 ] }) (hty : o.type = 41)
    {B n m : Nat} {xs ys : List Value} {ov lv : Value} (hsv : a.eval s = ov) (hxv : a.eval x = lv) (ho : w.ownsRow B 52 2 ov n xs) (hl : RowAt w lv m ys) (hb : B ≤ w.heap.size) (hs : n + m ≤ 100000)
    (h : ∀ a' d' w', w'.ownsRow B 52 2 (.slice a' (n + m) d') (n + m) (xs ++ ys) → w.grownBy w' ov.ownBlock → (∀ g, (Value.slice a' (n + m) d').ownBlock = some g → ov.ownBlock = some g ∨ g = w.heap.size) → K (a.put o.dst (.slice a' (n + m) d')) w') : if Region.wanted o (yielded ops a.tmps) = true then Oper.wp Try.prog o a w K Q else E := by
  obtain ⟨a', d', w', hr, h1, h2, h3⟩ := append_ccY ho hl hb hs
  have hw : Region.wanted o (yielded ops a.tmps) = true := by simp [Region.wanted, hgd]
  rw [if_pos hw]
  unfold Oper.wp execOp
  simp only [ho', hty, resolve, invoke, builtin, Sem.run_bind, Sem.run_pure, Result.andThen_ok, List.map_toArray, List.map_cons, List.map_nil, hsv, hxv, hr]
  exact h a' d' w' h1 h2 h3

set_option maxRecDepth 100000 in
set_option maxHeartbeats 3200000 in
theorem grow_ccY {w : World} {n : Nat} (hn : n ≤ 100000) :
    Calls Try.prog 88 #[.slice none 0 0, .int .i64 n] w fun e w' => ∃ v, e = .returned v ∧ w'.ownsRow w.heap.size 52 2 v 0 [] ∧ Below w.heap.size w w' := by
  have i0 : (0 : Int) ≤ (n : Int) := Int.natCast_nonneg _
  rcases Nat.eq_zero_or_pos n with h0 | h0
  · subst h0
    go_enter Try.func88, Try.ntmps88
    go_wp2_with fail
    go_ret
    exact ⟨_, rfl, World.ownsRow_nil _ _ _ _, Below.refl _ _⟩
  · obtain ⟨i1, hi1, hy0, hy1, hy2⟩ := info_parts Try.infoCcY
    have hi : (0 : Int) < (n : Int) := by omega
    have hr := Lib.run_append_nil_zeros (P := Try.prog) w 41 3 41 52 i1 (.agg #[.bool false, .int .i64 0]) .i64 .i64 Try.underlying41 Try.underlying3 hi1 hy0 n h0 (by rw [hy1]; omega) (by omega) (by rw [hy2]; omega)
    have hge := grownCap_ge w n 0 52
    have hle := grownCap_le_maxLen w n 0 52 (by unfold maxLen; omega)
    obtain ⟨C, hC⟩ : ∃ C, grownCap w n 0 52 = C := ⟨_, rfl⟩
    rw [hC] at hr hge hle
    clear hC
    obtain ⟨cur, hcur⟩ : ∃ cur, Builtin.zeroCells (.agg #[.bool false, .int .i64 0] : Value).cells n ++ Builtin.zeroCells (.agg #[.bool false, .int .i64 0] : Value).cells (C - n) = cur := ⟨_, rfl⟩
    have hcs : cur.size = C * 2 := by
      rw [← hcur, Array.size_append, size_zeroCells, size_zeroCells]
      have : (.agg #[.bool false, .int .i64 0] : Value).cells.size = 2 := rfl
      rw [this]
      omega
    rw [hcur] at hr
    clear hcur
    have hup : ∀ w0 w, Sem.run Try.prog (Instr.sliceAt 41 (.slice (some ⟨w0, 0, none⟩) n C) none (some (.int .i64 0)) none) w = .ok (.slice (some ⟨w0, 0, none⟩) 0 C) w := fun w0 w => by go_simp
    go_enter Try.func88, Try.ntmps88
    go_wp2_with (at_builtin; refine Lib.wpList_append_run _ rfl _ _ _ _ rfl _ _ rfl rfl _ _ hr ?_)
    go_ret
    exact ⟨_, rfl, ⟨rfl, .inr ⟨w.heap.size, C, cur, rfl, Nat.le_refl _, heap_alloc_new _ _, Nat.zero_le _, hle, hcs, rfl⟩⟩, (Below.refl _ _).drew.alloc (Nat.le_refl _) _⟩

set_option maxRecDepth 100000 in
set_option maxHeartbeats 6400000 in
theorem concat_ccY {w : World} {pb : Nat} {PL : List Part} (hp : ∀ i (hi : i < PL.length), w.cell? ⟨pb, i, none⟩ = some PL[i].1) (hr : ∀ p ∈ PL, RowAt w p.1 p.2.1 p.2.2) (hs : totN PL ≤ 100000) (hl : PL.length ≤ 1000) :
    Calls Try.prog 85 #[.slice (some ⟨pb, 0, none⟩) PL.length PL.length] w fun e w' => ∃ a d, e = .returned (.slice a (totN PL) d) ∧ w'.ownsRow w.heap.size 52 2 (.slice a (totN PL) d) (totN PL) (totX PL) ∧ Below w.heap.size w w' := by
  have HP : Hid (∀ i (hi : i < PL.length), w.cell? ⟨pb, i, none⟩ = some PL[i].1) := hp
  have HR : Hid (∀ p ∈ PL, RowAt w p.1 p.2.1 p.2.2) := hr
  have HS : Hid (totN PL ≤ 100000) := hs
  clear hp hr
  go_enter Try.func85, Try.ntmps85
  go_wp2_with fail
  go_loop [3, 11] (fun s3 s11 => ∃ k : Nat, s3 = .int .i64 (totN (PL.take k)) ∧ s11 = .int .i64 k ∧ k ≤ PL.length) (fun _ s => PL.length - (intOf s).toNat)
  case atStart => exact ⟨0, rfl, rfl, Nat.zero_le _⟩
  case round =>
    obtain ⟨k, rfl, rfl, hk⟩ := hrel
    by_cases hlt : k < PL.length
    · have c1 := HP.out k hlt
      obtain ⟨⟨a, c, hv, _⟩, _⟩ := HR.out PL[k] (List.getElem_mem hlt)
      have ht := totN_take hlt
      have hle := totN_le PL (k + 1)
      obtain ⟨m, hm⟩ : ∃ m, PL[k].2.1 = m := ⟨_, rfl⟩
      rw [hm] at hv ht
      rw [hv] at c1
      obtain ⟨t, h0⟩ : ∃ t, totN (PL.take k) = t := ⟨_, rfl⟩
      rw [h0] at ht ⊢
      have HT : Hid (totN (PL.take (k + 1)) = t + m) := ht
      have i0 : (0 : Int) ≤ (k : Int) := Int.natCast_nonneg _
      have i1 : (k : Int) < (PL.length : Int) := by omega
      have i2 : IntKind.i64.wrap ((t : Int) + (m : Int)) = (t : Int) + (m : Int) := IntWalk.i64_in _ (by omega)
      have i3 : decide ((t : Int) + (m : Int) < 0) = false := decide_eq_false (by omega)
      clear hm hv ht h0 hle
      go_wp2_with fail
      go_round
      case rel => exact ⟨k + 1, by rw [HT.out]; push_cast; rfl, by go_num, by omega⟩
      case measure => simp [intOf]; omega
    · have hkk : k = PL.length := by omega
      subst hkk
      rw [List.take_length]
      obtain ⟨t, h0⟩ : ∃ t, totN PL = t := ⟨_, rfl⟩
      have gr := grow_ccY (w := w) (n := t) (by omega)
      rw [h0]
      have HT : Hid (totN PL = t) := h0
      clear h0 hs
      go_wp2_with (go_at_call 88; refine gr.mono ?_; rintro e w1 ⟨v, rfl, hown, hB⟩; clear gr)
      go_loopw [6, 27] (fun s6 s27 wr => ∃ (k : Nat) (ov : Value), ov = s6 ∧ s27 = .int .i64 k ∧ k ≤ PL.length ∧ wr.ownsRow w.heap.size 52 2 ov (totN (PL.take k)) (totX (PL.take k)) ∧ Below w.heap.size w wr) (fun _ s _ => PL.length - (intOf s).toNat)
      case atStart => exact ⟨0, _, rfl, rfl, Nat.zero_le _, hown, hB⟩
      case round =>
        obtain ⟨k, ov, rfl, rfl, hk, hO, hB1⟩ := hrel
        clear hown hB
        have HB : Hid (Below w.heap.size w wr) := hB1
        by_cases hlt : k < PL.length
        · have hrow := (HR.out PL[k] (List.getElem_mem hlt)).below (Nat.le_refl _) hB1
          have c1 := (hB1.cell (World.block_lt_of_cell? _ _ (HP.out k hlt))).trans (HP.out k hlt)
          have ht := totN_take hlt
          have hx := totX_take hlt
          have hle := totN_le PL (k + 1)
          rw [HT.out] at hle
          have hT := HS.out
          rw [HT.out] at hT
          obtain ⟨⟨pv, m, ys⟩, hm⟩ : ∃ p, PL[k] = p := ⟨_, rfl⟩
          rw [hm] at hrow c1 ht hx
          simp only at hrow c1 ht hx
          obtain ⟨a, c, hv, _⟩ := hrow.1
          subst hv
          obtain ⟨q, h0⟩ : ∃ q, totN (PL.take k) = q := ⟨_, rfl⟩
          obtain ⟨xs, h1⟩ : ∃ xs, totX (PL.take k) = xs := ⟨_, rfl⟩
          rw [h0, h1] at hO
          rw [h0] at ht
          rw [h1] at hx
          have HX : Hid (totN (PL.take (k + 1)) = q + m ∧ totX (PL.take (k + 1)) = xs ++ ys) := ⟨ht, hx⟩
          have hqm : q + m ≤ 100000 := by omega
          have hbs := hB1.size
          have i0 : (0 : Int) ≤ (k : Int) := Int.natCast_nonneg _
          have i1 : (k : Int) < (PL.length : Int) := by omega
          clear hm ht hx hle hT h0 h1 hB1
          go_wp2_with
            (at_builtin
             refine wpList_append_ccY rfl _ _ rfl rfl rfl rfl hO hrow hbs hqm ?_
             intro a' d' w' hown' hgrow hat)
          go_roundw
          case rel => exact ⟨k + 1, _, rfl, by go_num, by omega, by rw [HX.out.1, HX.out.2]; exact hown', HB.out.grown hgrow HB.out.size fun g hg => ((hO.lt g hg).1)⟩
          case measure => simp [intOf]; omega
        · have hkk : k = PL.length := by omega
          subst hkk
          rw [List.take_length, HT.out] at hO
          obtain ⟨a, c, hv⟩ := own_form hO
          subst hv
          go_wp2_with fail
          go_ret
          rw [HT.out]
          exact ⟨a, c, rfl, hO, HB.out⟩

end Go.Proofs.Ytikjekfpgklbdaa

/- Plain: what a name derives, as lists of tokens; what derivations yield is derived; how parts of tokens are put together. No program. -/
namespace Go.Proofs.Ytikjekfpgklbdaa

/-- Symbols become tokens, where names become what A says. -/
def SeqD (A : Int → List Int → Prop) : List Sy → List Int → Prop
  | [], Z => Z = []
  | (true, v) :: l, Z => ∃ Z', Z = v :: Z' ∧ SeqD A l Z'
  | (false, n) :: l, Z => ∃ Z1 Z2, Z = Z1 ++ Z2 ∧ A n Z1 ∧ SeqD A l Z2
def DerF (R : List Ru) (A : Int → List Int → Prop) (n : Int) (Z : List Int) : Prop := ∃ r ∈ R, r.1 = n ∧ SeqD A r.2 Z
theorem SeqD.mono {A B : Int → List Int → Prop} (h : ∀ n Z, A n Z → B n Z) : ∀ {l : List Sy} {Z : List Int}, SeqD A l Z → SeqD B l Z := by
  intro l
  induction l with
  | nil => intro Z hZ; exact hZ
  | cons s l ih =>
    intro Z hZ
    obtain ⟨b, n⟩ := s
    cases b with
    | true => obtain ⟨Z', h1, h2⟩ := hZ; exact ⟨Z', h1, ih h2⟩
    | false => obtain ⟨Z1, Z2, h1, h2, h3⟩ := hZ; exact ⟨Z1, Z2, h1, h _ _ h2, ih h3⟩

theorem DerF.mono {R : List Ru} {A B : Int → List Int → Prop} (h : ∀ n Z, A n Z → B n Z) {n : Int} {Z : List Int} (hZ : DerF R A n Z) : DerF R B n Z := by
  obtain ⟨r, h1, h2, h3⟩ := hZ
  exact ⟨r, h1, h2, h3.mono h⟩

/-! ### What a derivation yields is derived -/

section
variable {R : List Ru}

end

/-! ### Parts of the tokens -/

/-- The tokens from i to below j. -/
def part (tok : List Int) (i j : Nat) : List Int := (tok.drop i).take (j - i)

/-- A symbol leads from i to m, by what is known of names. -/
def Mv (K : Nat → Nat → Nat → Bool) (tok : List Int) (upto : Nat) (s : Sy) (i m : Nat) : Prop :=
  (s.1 = true ∧ i < upto ∧ m = i + 1 ∧ tok.getD i 0 = s.2) ∨ (s.1 = false ∧ i ≤ m ∧ m ≤ upto ∧ K i m s.2.toNat = true)
def Rch (K : Nat → Nat → Nat → Bool) (tok : List Int) (upto : Nat) : List Sy → Nat → Nat → Prop
  | [], i, x => i = x
  | s :: l, i, x => ∃ m, Mv K tok upto s i m ∧ Rch K tok upto l m x

section
variable {K : Nat → Nat → Nat → Bool} {tok : List Int} {upto : Nat}

theorem Mv.le {s : Sy} {i m : Nat} (h : Mv K tok upto s i m) : i ≤ m ∧ m ≤ upto := by
  rcases h with ⟨_, h1, h2, _⟩ | ⟨_, h1, h2, _⟩ <;> omega
theorem Rch.le {l : List Sy} {i x : Nat} (h : Rch K tok upto l i x) (hi : i ≤ upto) : i ≤ x ∧ x ≤ upto := by
  induction l generalizing i with
  | nil => have : i = x := h; omega
  | cons s l ih =>
    obtain ⟨m, h1, h2⟩ := h
    have := h1.le
    have := ih h2 this.2
    omega

end

end Go.Proofs.Ytikjekfpgklbdaa

/- Plain: derivations as lists of rules' numbers, with what they yield: just the lists that the reader of package gram takes. No program. -/
namespace Go.Proofs.Ytikjekfpgklbdaa

/-- Symbols become tokens, by lists of rules' numbers, where names do so as A says. -/
def SeqDD (A : Int → List Int → List Int → Prop) : List Sy → List Int → List Int → Prop
  | [], d, Z => d = [] ∧ Z = []
  | (true, v) :: l, d, Z => ∃ Z', Z = v :: Z' ∧ SeqDD A l d Z'
  | (false, n) :: l, d, Z => ∃ d1 d2 Z1 Z2, d = d1 ++ d2 ∧ Z = Z1 ++ Z2 ∧ A n d1 Z1 ∧ SeqDD A l d2 Z2
def DerDL (R : List Ru) : Nat → Int → List Int → List Int → Prop
  | 0, _, _, _ => False
  | k + 1, n, d, Z => ∃ q : Nat, q < R.length ∧ (R.getD q (0, [])).1 = n ∧ ∃ d', d = (q : Int) :: d' ∧ SeqDD (DerDL R k) (R.getD q (0, [])).2 d' Z
/-- d is a derivation of the name n (however long), and yields Z. -/
def DerD (R : List Ru) (n : Int) (d Z : List Int) : Prop := ∃ k, DerDL R k n d Z

theorem SeqDD.mono {A B : Int → List Int → List Int → Prop} (h : ∀ n d Z, A n d Z → B n d Z) : ∀ {l : List Sy} {d Z : List Int}, SeqDD A l d Z → SeqDD B l d Z := by
  intro l
  induction l with
  | nil => intro d Z hZ; exact hZ
  | cons s l ih =>
    intro d Z hZ
    obtain ⟨b, n⟩ := s
    cases b with
    | true => obtain ⟨Z', h1, h2⟩ := hZ; exact ⟨Z', h1, ih h2⟩
    | false => obtain ⟨d1, d2, Z1, Z2, h1, h2, h3, h4⟩ := hZ; exact ⟨d1, d2, Z1, Z2, h1, h2, h _ _ _ h3, ih h4⟩

theorem DerDL_succ {R : List Ru} : ∀ k n d Z, DerDL R k n d Z → DerDL R (k + 1) n d Z := by
  intro k
  induction k with
  | zero => intro n d Z h; exact h.elim
  | succ k ih =>
    rintro n d Z ⟨q, h1, h2, d', h3, h4⟩
    exact ⟨q, h1, h2, d', h3, h4.mono ih⟩
theorem DerDL_le {R : List Ru} {k m : Nat} (h : k ≤ m) : ∀ n d Z, DerDL R k n d Z → DerDL R m n d Z := by
  induction h with
  | refl => intro n d Z h; exact h
  | step _ ih => intro n d Z h; exact DerDL_succ _ _ _ _ (ih n d Z h)

theorem SeqDD_level {R : List Ru} : ∀ {l : List Sy} {d Z : List Int}, SeqDD (DerD R) l d Z → ∃ k, SeqDD (DerDL R k) l d Z := by
  intro l
  induction l with
  | nil => intro d Z h; exact ⟨0, h⟩
  | cons s l ih =>
    intro d Z h
    obtain ⟨b, n⟩ := s
    cases b with
    | true =>
      obtain ⟨Z', h1, h2⟩ := h
      obtain ⟨k, hk⟩ := ih h2
      exact ⟨k, Z', h1, hk⟩
    | false =>
      obtain ⟨d1, d2, Z1, Z2, h1, h2, ⟨m, h3⟩, h4⟩ := h
      obtain ⟨k, hk⟩ := ih h4
      exact ⟨max m k, d1, d2, Z1, Z2, h1, h2, DerDL_le (Nat.le_max_left _ _) _ _ _ h3, hk.mono (DerDL_le (Nat.le_max_right _ _))⟩

theorem DerD_step {R : List Ru} {q : Nat} (hq : q < R.length) {d Z : List Int} (h : SeqDD (DerD R) (R.getD q (0, [])).2 d Z) : DerD R (R.getD q (0, [])).1 ((q : Int) :: d) Z := by
  obtain ⟨k, hk⟩ := SeqDD_level h
  exact ⟨k + 1, q, hq, rfl, d, rfl, hk⟩

/-! ### A list with a yield is a yield -/

/-! ### What the reader takes -/

section
variable {R : List Ru} {D : List Int}

theorem syms_derD {f : Int → St → Option St} (hF : ∀ n st st', f n st = some st' → ∃ d Z, st'.pos = st.pos + d.length ∧ D.drop st.pos = d ++ D.drop st'.pos ∧ st'.Y = st.Y ++ Z ∧ DerD R n d Z) :
    ∀ (l : List Sy) (st st' : St), symsF f l st = some st' → ∃ d Z, st'.pos = st.pos + d.length ∧ D.drop st.pos = d ++ D.drop st'.pos ∧ st'.Y = st.Y ++ Z ∧ SeqDD (DerD R) l d Z := by
  intro l
  induction l with
  | nil =>
    intro st st' h
    simp only [symsF, Option.some.injEq] at h
    subst h
    exact ⟨[], [], by simp, by simp, by simp, rfl, rfl⟩
  | cons s l ih =>
    intro st st' h
    obtain ⟨b, v⟩ := s
    cases b with
    | true =>
      simp only [symsF] at h
      obtain ⟨d, Z, h1, h2, h3, h4⟩ := ih _ _ h
      exact ⟨d, v :: Z, h1, h2, by rw [h3]; simp, Z, rfl, h4⟩
    | false =>
      simp only [symsF] at h
      split at h
      · cases h
      · rename_i st1 h1
        obtain ⟨d1, Z1, a1, a2, a3, a4⟩ := hF _ _ _ h1
        obtain ⟨d2, Z2, b1, b2, b3, b4⟩ := ih _ _ h
        exact ⟨d1 ++ d2, Z1 ++ Z2, by rw [b1, a1]; simp; omega, by rw [a2, b2, List.append_assoc], by rw [b3, a3, List.append_assoc], d1, d2, Z1, Z2, rfl, rfl, a4, b4⟩

theorem name_derD : ∀ (k : Nat) (n : Int) (st st' : St), nameF R D k n st = some st' → ∃ d Z, st'.pos = st.pos + d.length ∧ D.drop st.pos = d ++ D.drop st'.pos ∧ st'.Y = st.Y ++ Z ∧ DerD R n d Z := by
  intro k
  induction k with
  | zero => intro n st st' h; cases h
  | succ k ih =>
    intro n st st' h
    rw [nameF] at h
    split at h
    · cases h
    · rename_i q hq
      obtain ⟨hdq, hqR, hL⟩ := nextF_some hq
      split at h
      · cases h
      · rename_i st1 h1
        simp only [Option.some.injEq] at h
        subst h
        obtain ⟨d, Z, a1, a2, a3, a4⟩ := syms_derD ih _ _ _ h1
        simp only at a1 a2 a3
        have hlt : st.pos < D.length := by
          rcases Nat.lt_or_ge st.pos D.length with h | h
          · exact h
          · rw [List.getElem?_eq_none h] at hdq; cases hdq
        have hge : D[st.pos] = (q : Int) := by
          rw [List.getElem?_eq_getElem hlt] at hdq
          exact Option.some.inj hdq
        refine ⟨(q : Int) :: d, Z, by simp only [List.length_cons]; omega, ?_, a3, by rw [← hL]; exact DerD_step hqR a4⟩
        simp only
        rw [List.drop_eq_getElem_cons hlt, hge, a2]
        rfl

/-- A list that is taken is a derivation. -/
theorem read_derD {st : St} (h : readF R D = some st) : DerD R 0 D st.Y ∧ D.length ≤ 400 := by
  unfold readF at h
  split at h
  · cases h
  · split at h
    · cases h
    · rename_i st1 h1
      split at h
      · cases h
      · simp only [Option.some.injEq] at h
        subst h
        obtain ⟨d, Z, a1, a2, a3, a4⟩ := name_derD _ _ _ _ h1
        simp only [Nat.zero_add, List.drop_zero, List.nil_append] at a1 a2 a3
        have : D.drop st1.pos = [] := List.drop_eq_nil_of_le (by omega)
        rw [this, List.append_nil] at a2
        rw [a2, a3]
        exact ⟨a4, by rw [← a2]; omega⟩

theorem syms_takes {f : Int → St → Option St} {A : Int → List Int → List Int → Prop} {m : Nat} (hF : ∀ n d Z, A n d Z → d.length ≤ m → ∀ st E, D.drop st.pos = d ++ E → ∃ st', f n st = some st' ∧ st'.pos = st.pos + d.length ∧ st'.Y = st.Y ++ Z) :
    ∀ (l : List Sy) (d Z : List Int), SeqDD A l d Z → d.length ≤ m → ∀ st E, D.drop st.pos = d ++ E → ∃ st', symsF f l st = some st' ∧ st'.pos = st.pos + d.length ∧ st'.Y = st.Y ++ Z := by
  intro l
  induction l with
  | nil =>
    rintro d Z ⟨rfl, rfl⟩ _ st E _
    exact ⟨st, rfl, by simp, by simp⟩
  | cons s l ih =>
    intro d Z h hm st E he
    obtain ⟨b, v⟩ := s
    cases b with
    | true =>
      obtain ⟨Z', rfl, h2⟩ := h
      obtain ⟨st', a1, a2, a3⟩ := ih d Z' h2 hm { st with Y := st.Y ++ [v] } E he
      exact ⟨st', a1, a2, by rw [a3]; simp⟩
    | false =>
      obtain ⟨d1, d2, Z1, Z2, rfl, rfl, h3, h4⟩ := h
      simp only [List.length_append] at hm
      obtain ⟨st1, a1, a2, a3⟩ := hF v d1 Z1 h3 (by omega) st (d2 ++ E) (by rw [he, List.append_assoc])
      have he1 : D.drop st1.pos = d2 ++ E := by
        rw [a2, ← List.drop_drop, he, List.append_assoc]
        simp
      obtain ⟨st', b1, b2, b3⟩ := ih d2 Z2 h4 (by omega) st1 E he1
      refine ⟨st', ?_, by rw [b2, a2]; simp; omega, by rw [b3, a3, List.append_assoc]⟩
      simp only [symsF, a1]
      exact b1

theorem name_takes : ∀ (k : Nat) (n : Int) (d Z : List Int), DerDL R k n d Z → ∀ m, d.length ≤ m → ∀ st E, D.drop st.pos = d ++ E → ∃ st', nameF R D m n st = some st' ∧ st'.pos = st.pos + d.length ∧ st'.Y = st.Y ++ Z := by
  intro k
  induction k with
  | zero => intro n d Z h; exact h.elim
  | succ k ih =>
    rintro n d Z ⟨q, hq, hL, d', rfl, hs⟩ m hm st E he
    simp only [List.length_cons] at hm
    obtain ⟨m, rfl⟩ : ∃ j, m = j + 1 := ⟨m - 1, by omega⟩
    have hlt : st.pos < D.length := by
      rcases Nat.lt_or_ge st.pos D.length with h | h
      · exact h
      · rw [List.drop_eq_nil_of_le h] at he; cases he
    rw [List.drop_eq_getElem_cons hlt] at he
    simp only [List.cons_append, List.cons.injEq] at he
    have hn : nextF R D n st.pos = some q := by
      unfold nextF
      rw [List.getElem?_eq_getElem hlt, he.1]
      simp only
      rw [if_pos ⟨by omega, by omega⟩]
      simp only [Int.toNat_natCast]
      rw [if_pos hL]
    obtain ⟨st', a1, a2, a3⟩ := syms_takes (f := nameF R D m) (A := DerDL R k) (m := m) (fun n d Z h hd st E he => ih n d Z h m hd st E he) _ d' Z hs (by omega) { pos := st.pos + 1, Y := st.Y, S := st.S ++ [((q : Int), st.Y.length, 0)] } E he.2
    refine ⟨{ st' with S := st'.S.set st.S.length ((q : Int), st.Y.length, st'.Y.length) }, ?_, by simp only [List.length_cons]; rw [a2]; simp only; omega, a3⟩
    rw [nameF]
    simp only [hn, a1]

/-- A derivation that is not too long is taken, and yields just so. -/
theorem derD_read {Z : List Int} (h : DerD R 0 D Z) (hl : D.length ≤ 400) : ∃ st, readF R D = some st ∧ st.Y = Z := by
  obtain ⟨k, hk⟩ := h
  obtain ⟨st', a1, a2, a3⟩ := name_takes (D := D) k 0 D Z hk D.length (Nat.le_refl _) { pos := 0, Y := [], S := [] } [] (by simp)
  refine ⟨st', ?_, by simpa using a3⟩
  unfold readF
  rw [if_neg (by omega)]
  simp only [a1]
  rw [if_neg (by simp only at a2; omega)]
end

end Go.Proofs.Ytikjekfpgklbdaa
