import Derived.Test.YtjdoiieiimdmfaaRowBAndConcR
import Derived.Lib.AppendZeros
import Derived.Test.YtjdoiieiimdmfaaMathAndMayFine
import Derived.Deep.DeepCutAuto
/- The contracts of slices.Grow and slices.Concat, of api.Sym. -/
namespace Go.Proofs.Ytjdoiieiimdmfaa
open Go.RowKit

theorem Try.infoCcY : (Try.prog.info? 43).map (fun i => (i.zero, i.size, i.bytes)) = some (some (.agg #[.bool false, .int .i64 0]), 2, 16) := by kernel_rfl

theorem append_ccY0 {w : World} {oa sa : Option Addr} {n d c : Nat} (hn : n ≤ d) (h0 : oa = none → n = 0 ∧ d = 0) : (Builtin.append_ #[ 39, 39 ] 39 #[.slice oa n d, .slice sa 0 c]).run Try.prog w = .ok (.slice oa n d) w := by
  cases oa with
  | none =>
    obtain ⟨rfl, rfl⟩ := h0 rfl
    cases sa <;> go_simp
  | some o => cases sa <;> go_simp

/-- append(x, l...), x being the call's own, or none. -/
theorem append_ccY {w : World} {B : Nat} {ov lv : Value} {n m : Nat} {xs ys : List Value} (ho : w.ownsRow B 43 2 ov n xs) (hl : RowAt w lv m ys) (hb : B ≤ w.heap.size) (hs : n + m ≤ 100000) :
    ∃ a d w', (Builtin.append_ #[ 39, 39 ] 39 #[ov, lv]).run Try.prog w = .ok (.slice a (n + m) d) w' ∧ w'.ownsRow B 43 2 (.slice a (n + m) d) (n + m) (xs ++ ys) ∧ w.grownBy w' ov.ownBlock ∧ ∀ g, (Value.slice a (n + m) d).ownBlock = some g → ov.ownBlock = some g ∨ g = w.heap.size := by
  obtain ⟨oa, od, hov⟩ := own_form ho
  obtain ⟨⟨la, lc, hlv, _⟩, hlen, hone, hcell⟩ := hl
  rcases Nat.eq_zero_or_pos m with h0 | h0
  · subst h0
    have he : ys = [] := List.eq_nil_of_length_eq_zero (by omega)
    subst he
    rw [hov, hlv]
    have hnd : n ≤ od ∧ (oa = none → n = 0 ∧ od = 0) := by
      obtain ⟨_, ⟨hx, hz⟩ | ⟨_, _, _, hx, _, _, h5, _⟩⟩ := ho
      · rw [hov] at hx
        injection hx with x1 x2 x3
        exact ⟨by omega, fun _ => ⟨by omega, by omega⟩⟩
      · rw [hov] at hx
        injection hx with x1 x2 x3
        exact ⟨by omega, fun e => by rw [e] at x1; cases x1⟩
    refine ⟨oa, od, w, append_ccY0 hnd.1 hnd.2, ?_, ⟨rfl, rfl, rfl, Nat.le_refl _, fun _ _ _ => rfl⟩, fun g hg => .inl hg⟩
    rw [hov] at ho
    simpa using ho
  · obtain ⟨ad, c, he, hnews⟩ := hcell h0
    obtain ⟨i1, hi1, hy0, hy1, hy2⟩ := info_parts Try.infoCcY
    obtain ⟨g', cap', w', hr, h2, h3, h4, _⟩ := run_append_lies (P := Try.prog) w 39 39 B 43 i1 _ 2 16 Try.underlying39 hi1 hy0 hy1 hy2 rfl (by omega) ov n xs ho ad m c ys hlen hnews hone h0 (by simp only [maxLen]; omega) (by omega) hb w.heap.size rfl
    rw [he]
    refine ⟨_, _, w', hr, h2, h3, fun q hq => ?_⟩
    simp only [Value.ownBlock, Option.some.injEq] at hq
    subst hq
    exact h4

theorem wpList_append_ccY {w : World} {ops : Array Oper} {rest : List Oper} {o : Oper} {a : Act} {Q : Exit → Act → World → Prop} (hgd : o.guard = none) (s x : Operand) (ho' : o.op = .call { callee := .builtin .append, args := #[s, x], argTypes := #[ 39, 39 ] }) (hty : o.type = 39)
    {B n m : Nat} {xs ys : List Value} {ov lv : Value} (hsv : a.eval s = ov) (hxv : a.eval x = lv) (ho : w.ownsRow B 43 2 ov n xs) (hl : RowAt w lv m ys) (hb : B ≤ w.heap.size) (hs : n + m ≤ 100000)
    (h : ∀ a' d' w', w'.ownsRow B 43 2 (.slice a' (n + m) d') (n + m) (xs ++ ys) → w.grownBy w' ov.ownBlock → (∀ g, (Value.slice a' (n + m) d').ownBlock = some g → ov.ownBlock = some g ∨ g = w.heap.size) → wpList Try.prog ops Q rest (a.put o.dst (.slice a' (n + m) d')) w') : wpList Try.prog ops Q (o :: rest) a w := by
  obtain ⟨a', d', w', hr, h1, h2, h3⟩ := append_ccY ho hl hb hs
  refine wpList_plain hgd fun K hK => ?_
  unfold Oper.wp execOp
  simp only [ho', hty, resolve, invoke, builtin, Sem.run_bind, Sem.run_pure, Result.andThen_ok, List.map_toArray, List.map_cons, List.map_nil, hsv, hxv, hr]
  exact hK _ _ (h a' d' w' h1 h2 h3)

theorem step_append_ccY {w : World} {ops : Array Oper} {o : Oper} {a : Act} {K : Act → World → Prop} {Q : Exit → Act → World → Prop} {E : Prop} (hgd : o.guard = none) (s x : Operand) (ho' : o.op = .call { callee := .builtin .append, args := #[s, x], argTypes := #[ 39, 39 ] }) (hty : o.type = 39)
    {B n m : Nat} {xs ys : List Value} {ov lv : Value} (hsv : a.eval s = ov) (hxv : a.eval x = lv) (ho : w.ownsRow B 43 2 ov n xs) (hl : RowAt w lv m ys) (hb : B ≤ w.heap.size) (hs : n + m ≤ 100000)
    (h : ∀ a' d' w', w'.ownsRow B 43 2 (.slice a' (n + m) d') (n + m) (xs ++ ys) → w.grownBy w' ov.ownBlock → (∀ g, (Value.slice a' (n + m) d').ownBlock = some g → ov.ownBlock = some g ∨ g = w.heap.size) → K (a.put o.dst (.slice a' (n + m) d')) w') : if Region.wanted o (yielded ops a.tmps) = true then Oper.wp Try.prog o a w K Q else E := by
  obtain ⟨a', d', w', hr, h1, h2, h3⟩ := append_ccY ho hl hb hs
  have hw : Region.wanted o (yielded ops a.tmps) = true := by simp [Region.wanted, hgd]
  rw [if_pos hw]
  unfold Oper.wp execOp
  simp only [ho', hty, resolve, invoke, builtin, Sem.run_bind, Sem.run_pure, Result.andThen_ok, List.map_toArray, List.map_cons, List.map_nil, hsv, hxv, hr]
  exact h a' d' w' h1 h2 h3

set_option maxRecDepth 100000 in
set_option maxHeartbeats 3200000 in
theorem grow_ccY {w : World} {n : Nat} (hn : n ≤ 100000) :
    Calls Try.prog 65 #[.slice none 0 0, .int .i64 n] w fun e w' => ∃ v, e = .returned v ∧ w'.ownsRow w.heap.size 43 2 v 0 [] ∧ Below w.heap.size w w' := by
  have i0 : (0 : Int) ≤ (n : Int) := Int.natCast_nonneg _
  rcases Nat.eq_zero_or_pos n with h0 | h0
  · subst h0
    go_enter Try.func65, Try.ntmps65
    go_wp2_with fail
    go_ret
    exact ⟨_, rfl, World.ownsRow_nil _ _ _ _, Below.refl _ _⟩
  · obtain ⟨i1, hi1, hy0, hy1, hy2⟩ := info_parts Try.infoCcY
    have hi : (0 : Int) < (n : Int) := by omega
    have hr := Lib.run_append_nil_zeros (P := Try.prog) w 39 3 39 43 i1 (.agg #[.bool false, .int .i64 0]) .i64 .i64 Try.underlying39 Try.underlying3 hi1 hy0 n h0 (by rw [hy1]; omega) (by omega) (by rw [hy2]; omega)
    have hge := grownCap_ge w n 0 43
    have hle := grownCap_le_maxLen w n 0 43 (by unfold maxLen; omega)
    obtain ⟨C, hC⟩ : ∃ C, grownCap w n 0 43 = C := ⟨_, rfl⟩
    rw [hC] at hr hge hle
    clear hC
    obtain ⟨cur, hcur⟩ : ∃ cur, Builtin.zeroCells (.agg #[.bool false, .int .i64 0] : Value).cells n ++ Builtin.zeroCells (.agg #[.bool false, .int .i64 0] : Value).cells (C - n) = cur := ⟨_, rfl⟩
    have hcs : cur.size = C * 2 := by
      rw [← hcur, Array.size_append, size_zeroCells, size_zeroCells]
      have : (.agg #[.bool false, .int .i64 0] : Value).cells.size = 2 := rfl
      rw [this]
      omega
    rw [hcur] at hr
    clear hcur
    have hup : ∀ w0 w, Sem.run Try.prog (Instr.sliceAt 39 (.slice (some ⟨w0, 0, none⟩) n C) none (some (.int .i64 0)) none) w = .ok (.slice (some ⟨w0, 0, none⟩) 0 C) w := fun w0 w => by go_simp
    go_enter Try.func65, Try.ntmps65
    go_wp2_with (at_builtin; refine Lib.wpList_append_run _ rfl _ _ _ _ rfl _ _ rfl rfl _ _ hr ?_)
    go_ret
    exact ⟨_, rfl, ⟨rfl, .inr ⟨w.heap.size, C, cur, rfl, Nat.le_refl _, heap_alloc_new _ _, Nat.zero_le _, hle, hcs, rfl⟩⟩, (Below.refl _ _).drew.alloc (Nat.le_refl _) _⟩

set_option maxRecDepth 100000 in
set_option maxHeartbeats 6400000 in
theorem concat_ccY {w : World} {pb : Nat} {PL : List Part} (hp : ∀ i (hi : i < PL.length), w.cell? ⟨pb, i, none⟩ = some PL[i].1) (hr : ∀ p ∈ PL, RowAt w p.1 p.2.1 p.2.2) (hs : totN PL ≤ 100000) (hl : PL.length ≤ 1000) :
    Calls Try.prog 63 #[.slice (some ⟨pb, 0, none⟩) PL.length PL.length] w fun e w' => ∃ a d, e = .returned (.slice a (totN PL) d) ∧ w'.ownsRow w.heap.size 43 2 (.slice a (totN PL) d) (totN PL) (totX PL) ∧ Below w.heap.size w w' := by
  have HP : Hid (∀ i (hi : i < PL.length), w.cell? ⟨pb, i, none⟩ = some PL[i].1) := hp
  have HR : Hid (∀ p ∈ PL, RowAt w p.1 p.2.1 p.2.2) := hr
  have HS : Hid (totN PL ≤ 100000) := hs
  clear hp hr
  go_enter Try.func63, Try.ntmps63
  go_wp2_with fail
  go_loop [3, 11] (fun s3 s11 => ∃ k : Nat, s3 = .int .i64 (totN (PL.take k)) ∧ s11 = .int .i64 k ∧ k ≤ PL.length) (fun _ s => PL.length - (intOf s).toNat)
  case atStart => exact ⟨0, rfl, rfl, Nat.zero_le _⟩
  case round =>
    obtain ⟨k, rfl, rfl, hk⟩ := hrel
    by_cases hlt : k < PL.length
    · have c1 := HP.out k hlt
      obtain ⟨⟨a, c, hv, _⟩, _⟩ := HR.out PL[k] (List.getElem_mem hlt)
      have ht := totN_take hlt
      have hle := totN_le PL (k + 1)
      obtain ⟨m, hm⟩ : ∃ m, PL[k].2.1 = m := ⟨_, rfl⟩
      rw [hm] at hv ht
      rw [hv] at c1
      obtain ⟨t, h0⟩ : ∃ t, totN (PL.take k) = t := ⟨_, rfl⟩
      rw [h0] at ht ⊢
      have HT : Hid (totN (PL.take (k + 1)) = t + m) := ht
      have i0 : (0 : Int) ≤ (k : Int) := Int.natCast_nonneg _
      have i1 : (k : Int) < (PL.length : Int) := by omega
      have i2 : IntKind.i64.wrap ((t : Int) + (m : Int)) = (t : Int) + (m : Int) := IntWalk.i64_in _ (by omega)
      have i3 : decide ((t : Int) + (m : Int) < 0) = false := decide_eq_false (by omega)
      clear hm hv ht h0 hle
      go_wp2_with fail
      go_round
      case rel => exact ⟨k + 1, by rw [HT.out]; push_cast; rfl, by go_num, by omega⟩
      case measure => simp [intOf]; omega
    · have hkk : k = PL.length := by omega
      subst hkk
      rw [List.take_length]
      obtain ⟨t, h0⟩ : ∃ t, totN PL = t := ⟨_, rfl⟩
      have gr := grow_ccY (w := w) (n := t) (by omega)
      rw [h0]
      have HT : Hid (totN PL = t) := h0
      clear h0 hs
      go_wp2_with (go_at_call 65; refine gr.mono ?_; rintro e w1 ⟨v, rfl, hown, hB⟩; clear gr)
      go_loopw [6, 27] (fun s6 s27 wr => ∃ (k : Nat) (ov : Value), ov = s6 ∧ s27 = .int .i64 k ∧ k ≤ PL.length ∧ wr.ownsRow w.heap.size 43 2 ov (totN (PL.take k)) (totX (PL.take k)) ∧ Below w.heap.size w wr) (fun _ s _ => PL.length - (intOf s).toNat)
      case atStart => exact ⟨0, _, rfl, rfl, Nat.zero_le _, hown, hB⟩
      case round =>
        obtain ⟨k, ov, rfl, rfl, hk, hO, hB1⟩ := hrel
        clear hown hB
        have HB : Hid (Below w.heap.size w wr) := hB1
        by_cases hlt : k < PL.length
        · have hrow := (HR.out PL[k] (List.getElem_mem hlt)).below (Nat.le_refl _) hB1
          have c1 := (hB1.cell (World.block_lt_of_cell? _ _ (HP.out k hlt))).trans (HP.out k hlt)
          have ht := totN_take hlt
          have hx := totX_take hlt
          have hle := totN_le PL (k + 1)
          rw [HT.out] at hle
          have hT := HS.out
          rw [HT.out] at hT
          obtain ⟨⟨pv, m, ys⟩, hm⟩ : ∃ p, PL[k] = p := ⟨_, rfl⟩
          rw [hm] at hrow c1 ht hx
          simp only at hrow c1 ht hx
          obtain ⟨a, c, hv, _⟩ := hrow.1
          subst hv
          obtain ⟨q, h0⟩ : ∃ q, totN (PL.take k) = q := ⟨_, rfl⟩
          obtain ⟨xs, h1⟩ : ∃ xs, totX (PL.take k) = xs := ⟨_, rfl⟩
          rw [h0, h1] at hO
          rw [h0] at ht
          rw [h1] at hx
          have HX : Hid (totN (PL.take (k + 1)) = q + m ∧ totX (PL.take (k + 1)) = xs ++ ys) := ⟨ht, hx⟩
          have hqm : q + m ≤ 100000 := by omega
          have hbs := hB1.size
          have i0 : (0 : Int) ≤ (k : Int) := Int.natCast_nonneg _
          have i1 : (k : Int) < (PL.length : Int) := by omega
          clear hm ht hx hle hT h0 h1 hB1
          go_wp2_with
            (at_builtin
             refine wpList_append_ccY rfl _ _ rfl rfl rfl rfl hO hrow hbs hqm ?_
             intro a' d' w' hown' hgrow hat)
          go_roundw
          case rel => exact ⟨k + 1, _, rfl, by go_num, by omega, by rw [HX.out.1, HX.out.2]; exact hown', HB.out.grown hgrow HB.out.size fun g hg => ((hO.lt g hg).1)⟩
          case measure => simp [intOf]; omega
        · have hkk : k = PL.length := by omega
          subst hkk
          rw [List.take_length, HT.out] at hO
          obtain ⟨a, c, hv⟩ := own_form hO
          subst hv
          go_wp2_with fail
          go_ret
          rw [HT.out]
          exact ⟨a, c, rfl, hO, HB.out⟩

end Go.Proofs.Ytjdoiieiimdmfaa

/- Plain: what a name derives, as lists of tokens; what derivations yield is derived; how parts of tokens are put together. No program. -/
namespace Go.Proofs.Ytjdoiieiimdmfaa

/-- Symbols become tokens, where names become what A says. -/
def SeqD (A : Int → List Int → Prop) : List Sy → List Int → Prop
  | [], Z => Z = []
  | (true, v) :: l, Z => ∃ Z', Z = v :: Z' ∧ SeqD A l Z'
  | (false, n) :: l, Z => ∃ Z1 Z2, Z = Z1 ++ Z2 ∧ A n Z1 ∧ SeqD A l Z2
def DerF (R : List Ru) (A : Int → List Int → Prop) (n : Int) (Z : List Int) : Prop := ∃ r ∈ R, r.1 = n ∧ SeqD A r.2 Z
def DerL (R : List Ru) : Nat → Int → List Int → Prop
  | 0, _, _ => False
  | k + 1, n, Z => DerF R (DerL R k) n Z
/-- There is a derivation of the name n, however long, that yields Z. -/
def Der (R : List Ru) (n : Int) (Z : List Int) : Prop := ∃ k, DerL R k n Z

theorem SeqD.mono {A B : Int → List Int → Prop} (h : ∀ n Z, A n Z → B n Z) : ∀ {l : List Sy} {Z : List Int}, SeqD A l Z → SeqD B l Z := by
  intro l
  induction l with
  | nil => intro Z hZ; exact hZ
  | cons s l ih =>
    intro Z hZ
    obtain ⟨b, n⟩ := s
    cases b with
    | true => obtain ⟨Z', h1, h2⟩ := hZ; exact ⟨Z', h1, ih h2⟩
    | false => obtain ⟨Z1, Z2, h1, h2, h3⟩ := hZ; exact ⟨Z1, Z2, h1, h _ _ h2, ih h3⟩

theorem DerF.mono {R : List Ru} {A B : Int → List Int → Prop} (h : ∀ n Z, A n Z → B n Z) {n : Int} {Z : List Int} (hZ : DerF R A n Z) : DerF R B n Z := by
  obtain ⟨r, h1, h2, h3⟩ := hZ
  exact ⟨r, h1, h2, h3.mono h⟩

theorem DerL_succ {R : List Ru} : ∀ k n Z, DerL R k n Z → DerL R (k + 1) n Z := by
  intro k
  induction k with
  | zero => intro n Z h; exact h.elim
  | succ k ih => intro n Z h; exact DerF.mono ih h
theorem DerL_le {R : List Ru} {k m : Nat} (h : k ≤ m) : ∀ n Z, DerL R k n Z → DerL R m n Z := by
  induction h with
  | refl => intro n Z h; exact h
  | step _ ih => intro n Z h; exact DerL_succ _ _ _ (ih n Z h)

theorem SeqD_level {R : List Ru} : ∀ {l : List Sy} {Z : List Int}, SeqD (Der R) l Z → ∃ k, SeqD (DerL R k) l Z := by
  intro l
  induction l with
  | nil => intro Z h; exact ⟨0, h⟩
  | cons s l ih =>
    intro Z h
    obtain ⟨b, n⟩ := s
    cases b with
    | true =>
      obtain ⟨Z', h1, h2⟩ := h
      obtain ⟨k, hk⟩ := ih h2
      exact ⟨k, Z', h1, hk⟩
    | false =>
      obtain ⟨Z1, Z2, h1, ⟨m, h2⟩, h3⟩ := h
      obtain ⟨k, hk⟩ := ih h3
      exact ⟨max m k, Z1, Z2, h1, DerL_le (Nat.le_max_left _ _) _ _ h2, hk.mono (DerL_le (Nat.le_max_right _ _))⟩

theorem Der_step {R : List Ru} {r : Ru} (hr : r ∈ R) {Z : List Int} (h : SeqD (Der R) r.2 Z) : Der R r.1 Z := by
  obtain ⟨k, hk⟩ := SeqD_level h
  exact ⟨k + 1, r, hr, rfl, hk⟩

/-! ### What a derivation yields is derived -/

section
variable {R : List Ru}

end

/-! ### Parts of the tokens -/

/-- The tokens from i to below j. -/
def part (tok : List Int) (i j : Nat) : List Int := (tok.drop i).take (j - i)

theorem part_self (tok : List Int) (i : Nat) : part tok i i = [] := by simp [part]
theorem part_all (tok : List Int) : part tok 0 tok.length = tok := by simp [part]
theorem part_len {tok : List Int} {i j : Nat} (h : i ≤ j) (hj : j ≤ tok.length) : (part tok i j).length = j - i := by
  simp [part]
  omega
theorem part_cons {tok : List Int} {i j : Nat} (h : i < j) (hj : j ≤ tok.length) : part tok i j = tok.getD i 0 :: part tok (i + 1) j := by
  have hi : i < tok.length := by omega
  unfold part
  rw [List.drop_eq_getElem_cons hi, show j - i = (j - (i + 1)) + 1 by omega, List.take_succ_cons]
  simp [List.getD, hi]
theorem part_append {tok : List Int} {i m j : Nat} (h1 : i ≤ m) (h2 : m ≤ j) : part tok i j = part tok i m ++ part tok m j := by
  unfold part
  have e : tok.drop m = (tok.drop i).drop (m - i) := by rw [List.drop_drop]; congr 1; omega
  rw [e, show j - i = (m - i) + (j - m) by omega, List.take_add]
/-- A part's beginning is a part. -/
theorem part_split {tok Z1 Z2 : List Int} {i j : Nat} (h : i ≤ j) (hj : j ≤ tok.length) (e : part tok i j = Z1 ++ Z2) : i + Z1.length ≤ j ∧ Z1 = part tok i (i + Z1.length) ∧ Z2 = part tok (i + Z1.length) j := by
  have hl := part_len h hj
  have hl2 : Z1.length + Z2.length = j - i := by rw [← hl, e]; simp
  have hle : i + Z1.length ≤ j := by omega
  have e2 := part_append (tok := tok) (i := i) (m := i + Z1.length) (j := j) (by omega) hle
  rw [e] at e2
  have hl3 : (part tok i (i + Z1.length)).length = Z1.length := by rw [part_len (by omega) (by omega)]; omega
  obtain ⟨a, b⟩ := List.append_inj e2 hl3.symm
  exact ⟨hle, a, b⟩

/-- A symbol leads from i to m, by what is known of names. -/
def Mv (K : Nat → Nat → Nat → Bool) (tok : List Int) (upto : Nat) (s : Sy) (i m : Nat) : Prop :=
  (s.1 = true ∧ i < upto ∧ m = i + 1 ∧ tok.getD i 0 = s.2) ∨ (s.1 = false ∧ i ≤ m ∧ m ≤ upto ∧ K i m s.2.toNat = true)
def Rch (K : Nat → Nat → Nat → Bool) (tok : List Int) (upto : Nat) : List Sy → Nat → Nat → Prop
  | [], i, x => i = x
  | s :: l, i, x => ∃ m, Mv K tok upto s i m ∧ Rch K tok upto l m x

section
variable {K : Nat → Nat → Nat → Bool} {tok : List Int} {upto : Nat}

theorem Mv.le {s : Sy} {i m : Nat} (h : Mv K tok upto s i m) : i ≤ m ∧ m ≤ upto := by
  rcases h with ⟨_, h1, h2, _⟩ | ⟨_, h1, h2, _⟩ <;> omega
theorem Rch.le {l : List Sy} {i x : Nat} (h : Rch K tok upto l i x) (hi : i ≤ upto) : i ≤ x ∧ x ≤ upto := by
  induction l generalizing i with
  | nil => have : i = x := h; omega
  | cons s l ih =>
    obtain ⟨m, h1, h2⟩ := h
    have := h1.le
    have := ih h2 this.2
    omega

theorem Rch_snoc {l : List Sy} {s : Sy} {i x : Nat} : Rch K tok upto (l ++ [s]) i x ↔ ∃ m, Rch K tok upto l i m ∧ Mv K tok upto s m x := by
  induction l generalizing i with
  | nil =>
    constructor
    · rintro ⟨m, h1, h2⟩
      have h2' : m = x := h2
      subst h2'
      exact ⟨i, rfl, h1⟩
    · rintro ⟨m, h1, h2⟩
      have h1' : i = m := h1
      subst h1'
      exact ⟨x, h2, rfl⟩
  | cons t l ih =>
    constructor
    · rintro ⟨m, h1, h2⟩
      obtain ⟨y, h3, h4⟩ := ih.1 h2
      exact ⟨y, ⟨m, h1, h3⟩, h4⟩
    · rintro ⟨y, ⟨m, h1, h3⟩, h4⟩
      exact ⟨m, h1, ih.2 ⟨y, h3, h4⟩⟩

/-- What is reached is derived. -/
theorem Rch_sound {R : List Ru} (hto : upto ≤ tok.length) (hK : ∀ i j, i ≤ j → j ≤ upto → ∀ n : Nat, K i j n = true → Der R n (part tok i j)) : ∀ {l : List Sy} {i x : Nat}, (∀ s ∈ l, s.1 = false → 0 ≤ s.2) → i ≤ upto → Rch K tok upto l i x → SeqD (Der R) l (part tok i x) := by
  intro l
  induction l with
  | nil => intro i x _ _ h; have h' : i = x := h; subst h'; exact part_self _ _
  | cons s l ih =>
    intro i x hin hi h
    obtain ⟨m, h1, h2⟩ := h
    have hm := h1.le
    have hx := h2.le hm.2
    have hl := ih (fun s hs => hin s (List.mem_cons_of_mem _ hs)) hm.2 h2
    obtain ⟨b, v⟩ := s
    rcases h1 with ⟨hb, h3, h4, h5⟩ | ⟨hb, h3, h4, h5⟩
    · simp only at hb h5
      subst hb
      subst h4
      exact ⟨part tok (i + 1) x, by rw [part_cons (by omega) (by omega), h5], hl⟩
    · simp only at hb h5
      subst hb
      have hv := hin (false, v) (by simp) rfl
      simp only at hv
      have := hK i m h3 h4 v.toNat h5
      have e : ((v.toNat : Nat) : Int) = v := by omega
      rw [e] at this
      exact ⟨part tok i m, part tok m x, part_append h3 hx.1, this, hl⟩

/-- What is derived of known names is reached. -/
theorem Rch_complete {A : Int → List Int → Prop} {a0 b0 : Nat} (hto : b0 ≤ upto) (hn : upto ≤ tok.length) (hK : ∀ i j, a0 ≤ i → i ≤ j → j ≤ b0 → ∀ n, A n (part tok i j) → K i j n.toNat = true) : ∀ {l : List Sy} {i x : Nat}, a0 ≤ i → i ≤ x → x ≤ b0 → SeqD A l (part tok i x) → Rch K tok upto l i x := by
  intro l
  induction l with
  | nil =>
    intro i x _ h1 h2 h
    have h' : part tok i x = [] := h
    have := part_len (tok := tok) h1 (by omega)
    rw [h'] at this
    simp only [List.length_nil] at this
    show i = x
    omega
  | cons s l ih =>
    intro i x h0 h1 h2 h
    obtain ⟨b, v⟩ := s
    cases b with
    | true =>
      obtain ⟨Z', h3, h4⟩ := h
      have hlt : i < x := by
        have := part_len (tok := tok) h1 (by omega)
        rw [h3] at this
        simp only [List.length_cons] at this
        omega
      rw [part_cons hlt (by omega)] at h3
      simp only [List.cons.injEq] at h3
      obtain ⟨h5, rfl⟩ := h3
      exact ⟨i + 1, .inl ⟨rfl, by omega, rfl, h5⟩, ih (by omega) (by omega) h2 h4⟩
    | false =>
      obtain ⟨Z1, Z2, h3, h4, h5⟩ := h
      obtain ⟨h6, h7, h8⟩ := part_split h1 (by omega) h3
      rw [h8] at h5
      rw [h7] at h4
      have := hK i (i + Z1.length) h0 (by omega) (by omega) v (by rw [h7] at h4 ⊢; simpa using h4)
      exact ⟨i + Z1.length, .inr ⟨rfl, by omega, by omega, this⟩, ih (by omega) h6 h2 h5⟩

/-- One part: where all shorter parts within it are known, and it is closed under the rules, it is known. -/
theorem cyk_complete {R : List Ru} {a b : Nat} (hab : a ≤ b) (hto : b = upto) (hn : upto ≤ tok.length) (hsub : ∀ i j, a ≤ i → i ≤ j → j ≤ b → ¬ (i = a ∧ j = b) → ∀ n, Der R n (part tok i j) → K i j n.toNat = true)
    (hcl : ∀ r ∈ R, Rch K tok upto r.2 a b → K a b r.1.toNat = true) : ∀ n, Der R n (part tok a b) → K a b n.toNat = true := by
  have main : ∀ k n, DerL R k n (part tok a b) → K a b n.toNat = true := by
    intro k
    induction k with
    | zero => intro n h; exact h.elim
    | succ k ih =>
      rintro n ⟨r, hr, rfl, hs⟩
      refine hcl r hr (Rch_complete (A := DerL R k) (a0 := a) (b0 := b) (by omega) hn (fun i j h1 h2 h3 m hm => ?_) (Nat.le_refl _) hab (Nat.le_refl _) hs)
      by_cases h : i = a ∧ j = b
      · obtain ⟨rfl, rfl⟩ := h
        exact ih m hm
      · exact hsub i j h1 h2 h3 h m ⟨k, hm⟩
  rintro n ⟨k, h⟩
  exact main k n h
end

end Go.Proofs.Ytjdoiieiimdmfaa

/- Plain: derivations as lists of rules' numbers, with what they yield: just the lists that the reader of package gram takes. No program. -/
namespace Go.Proofs.Ytjdoiieiimdmfaa

/-- Symbols become tokens, by lists of rules' numbers, where names do so as A says. -/
def SeqDD (A : Int → List Int → List Int → Prop) : List Sy → List Int → List Int → Prop
  | [], d, Z => d = [] ∧ Z = []
  | (true, v) :: l, d, Z => ∃ Z', Z = v :: Z' ∧ SeqDD A l d Z'
  | (false, n) :: l, d, Z => ∃ d1 d2 Z1 Z2, d = d1 ++ d2 ∧ Z = Z1 ++ Z2 ∧ A n d1 Z1 ∧ SeqDD A l d2 Z2
theorem SeqDD.mono {A B : Int → List Int → List Int → Prop} (h : ∀ n d Z, A n d Z → B n d Z) : ∀ {l : List Sy} {d Z : List Int}, SeqDD A l d Z → SeqDD B l d Z := by
  intro l
  induction l with
  | nil => intro d Z hZ; exact hZ
  | cons s l ih =>
    intro d Z hZ
    obtain ⟨b, n⟩ := s
    cases b with
    | true => obtain ⟨Z', h1, h2⟩ := hZ; exact ⟨Z', h1, ih h2⟩
    | false => obtain ⟨d1, d2, Z1, Z2, h1, h2, h3, h4⟩ := hZ; exact ⟨d1, d2, Z1, Z2, h1, h2, h _ _ _ h3, ih h4⟩

/-! ### A list with a yield is a yield -/

/-! ### What the reader takes -/

section
variable {R : List Ru} {D : List Int}

end

end Go.Proofs.Ytjdoiieiimdmfaa

/- Plain: derivations as trees, in rows. No program. -/
namespace Go.Proofs.Ytjdoiieiimdmfaa

/-- Trees in a row: the first one's rule, what stands for the names of its Right, the others. -/
inductive Fo where
  | no : Fo
  | nd : Nat → Fo → Fo → Fo

/-- The names among symbols. -/
def namesS : List Sy → List Int
  | [] => []
  | (true, _) :: l => namesS l
  | (false, n) :: l => n :: namesS l
section
variable {R : List Ru}

end

theorem names_app : ∀ (l m : List Sy), namesS (l ++ m) = namesS l ++ namesS m
  | [], m => rfl
  | (true, _) :: l, m => names_app l m
  | (false, n) :: l, m => by rw [List.cons_append, namesS, namesS, names_app l m, List.cons_append]
end Go.Proofs.Ytjdoiieiimdmfaa

/- HeldSeq, where of what follows more than one may be the next: each that may is shown. No program. -/
namespace Go.Proofs.Ytjdoiieiimdmfaa

section
variable {P : Program} {ops : Array Oper} {Q : Exit → Act → World → Prop} {md : Region.Mode} {S : World → Prop}

/-- One step of the operation i. -/
def StepI (P : Program) (ops : Array Oper) (Q : Exit → Act → World → Prop) (S : World → Prop) (n : Nat) (J : Act → World → Prop) (i : Nat) (a : Act) (w : World) : Prop :=
  ∃ o, ops.toList[i]? = some o ∧ ∀ K : Act → World → Prop, Shut (∀ a w, (i < n → S w) → J a w → K a w) → if Region.wanted o (yielded ops a.tmps) = true then Oper.wp P o a w K Q else K (a.put o.dst undef) w
/-- So many follow, in whatever order. -/
def TailA (P : Program) (md : Region.Mode) (ops : Array Oper) (Q : Exit → Act → World → Prop) (S : World → Prop) (n : Nat) : Nat → Array Bool → Act → World → Prop
  | 0, listed, a, w => Region.ready md ops listed = [] ∧ Q .normal a w
  | k + 1, listed, a, w => Region.ready md ops listed ≠ [] ∧ ∀ i ∈ Region.ready md ops listed, StepI P ops Q S n (TailA P md ops Q S n k (listed.setIfInBounds i true)) i a w

theorem TailA.one {n k i : Nat} {listed : Array Bool} {a : Act} {w : World} (hr : decide (Region.ready md ops listed = [i]) = true) (h : StepI P ops Q S n (TailA P md ops Q S n k (listed.setIfInBounds i true)) i a w) : TailA P md ops Q S n (k + 1) listed a w := by
  have hr' := of_decide_eq_true hr
  refine ⟨by rw [hr']; simp, fun j hj => ?_⟩
  rw [hr'] at hj
  have : j = i := by simpa using hj
  subst this
  exact h
theorem TailA.two {n k i i' : Nat} {listed : Array Bool} {a : Act} {w : World} (hr : decide (Region.ready md ops listed = [i, i']) = true) (h : StepI P ops Q S n (TailA P md ops Q S n k (listed.setIfInBounds i true)) i a w) (h' : StepI P ops Q S n (TailA P md ops Q S n k (listed.setIfInBounds i' true)) i' a w) : TailA P md ops Q S n (k + 1) listed a w := by
  have hr' := of_decide_eq_true hr
  refine ⟨by rw [hr']; simp, fun j hj => ?_⟩
  rw [hr'] at hj
  simp only [List.mem_cons, List.not_mem_nil, or_false] at hj
  rcases hj with rfl | rfl
  · exact h
  · exact h'
theorem TailA.end {n : Nat} {listed : Array Bool} {a : Act} {w : World} (hr : decide (Region.ready md ops listed = []) = true) (h : Q .normal a w) : TailA P md ops Q S n 0 listed a w := ⟨of_decide_eq_true hr, h⟩

theorem wpAnyG_of_tailA {n : Nat} : ∀ (k : Nat) (listed : Array Bool) (a : Act) (w : World), TailA P md ops Q S n k listed a w → wpAnyG P md ops Q S n k listed a w
  | 0, _, _, _, h => ⟨by simpa using h.1, h.2⟩
  | k + 1, listed, a, w, h => by
    refine ⟨fun h1 => absurd h1 h.1, fun i hi => ?_⟩
    obtain ⟨o, h0, h⟩ := h.2 i hi
    have h1 := h (fun a' w' => (i < n → S w') ∧ wpAnyG P md ops Q S n k (listed.setIfInBounds i true) a' w')
      (fun a' w' hS hT => ⟨hS, wpAnyG_of_tailA k _ a' w' hT⟩)
    have h0' : ops[i]? = some o := by simpa using h0
    unfold wpOp
    simp only [h0']
    split
    · rename_i hw
      rw [if_pos hw] at h1
      exact .inl h1
    · rename_i hw
      rw [if_neg hw] at h1
      exact h1

/-- What is listed when those that are taken first are. -/
def listAll : List Nat → Array Bool → Array Bool
  | [], listed => listed
  | i :: l, listed => listAll l (listed.setIfInBounds i true)
def lexA (md : Region.Mode) (ops : Array Oper) : List Nat → Array Bool → Bool
  | [], _ => true
  | k :: ks, listed => (Region.ready md ops listed).contains k && Region.free md ops listed k && lexA md ops ks (listed.setIfInBounds k true)

theorem wpAnyG_lexA {n m : Nat} (hsel : Region.noSelect ops = true) (hQ : ∀ c a d v w, Q (.panic c) (a.put d v) w → Q (.panic c) a w) (hs : Region.sinkB md ops n = true) (hc : Region.chainB md ops n = true) (hn : n < ops.size) {w : World} (hS : S w) :
    ∀ (l : List Nat) (listed : Array Bool) (a : Act), (∀ i ∈ l, i < n) → HeadInv md ops n listed → lexA md ops l listed = true → StillI P ops S (fun a' => TailA P md ops Q S n m (listAll l listed) a' w) l a →
    wpAnyG P md ops Q S n (l.length + m) listed a w
  | [], listed, a, _, _, _, h => by
    simp only [List.length_nil, Nat.zero_add]
    exact wpAnyG_of_tailA m listed a w h
  | k :: l, listed, a, hl, inv, hB, h => by
    simp only [lexA, Bool.and_eq_true] at hB
    obtain ⟨⟨hr, hf⟩, hB'⟩ := hB
    have hkn := hl k (by simp)
    have hr' : k ∈ Region.ready md ops listed := by simpa using hr
    obtain ⟨o, v, h0, hy, hK⟩ := h
    rw [show (k :: l).length + m = (l.length + m) + 1 by simp only [List.length_cons]; omega]
    exact wpAnyG_first h0 (Region.noSelect_spec hsel) (fun c a w => hQ c a _ _ w) hs hc hn hkn _ listed a w inv (Region.free_spec h0 hf) hr' hy hS
      (wpAnyG_lexA hsel hQ hs hc hn hS l _ _ (fun i hi => hl i (List.mem_cons_of_mem _ hi)) (inv.set hr' hkn) hB' hK)

def heldAnyB (ops : Array Oper) (hs : List Nat) (m n : Nat) : Bool :=
  Region.noSelect ops && decide (n < ops.size) && Region.sinkB .any ops n && Region.chainB .any ops n && (hs.all fun i => decide (i < n)) && decide (hs.length + m = ops.size) && lexA .any ops hs (Array.replicate ops.size false)

theorem wp_region_held_any {id : Nat} {a : Act} {w : World} (hs : List Nat) (m n : Nat) (S : World → Prop) (hm : P.follows .mixedOrders = true) (hB : heldAnyB ops hs m n = true) (hS : S w.drew)
    (h : StillI P ops S (fun a' => TailA P .any ops (NoPanic Q) S n m (listAll hs (Array.replicate ops.size false)) a' w.drew) hs a) : (Code.region id ops true).wp P Q a w := by
  simp only [heldAnyB, Bool.and_eq_true, decide_eq_true_eq, List.all_eq_true] at hB
  obtain ⟨⟨⟨⟨⟨⟨hsel, hn⟩, hsk⟩, hc⟩, hl⟩, hlen⟩, hlex⟩ := hB
  have inv0 : HeadInv .any ops n (Array.replicate ops.size false) :=
    ⟨by simp, fun j oj _ hl => (by rw [getD_replicate_false] at hl; cases hl), fun t _ ht => Go.getD_in (by simpa using ht) (getD_replicate_false _ _)⟩
  refine wp_region_noPanic (wp_region_any hm (wpAny_of_G (S := S) (n := n) _ _ _ _ ?_))
  have := wpAnyG_lexA (md := .any) (Q := NoPanic Q) (m := m) hsel (fun _ _ _ _ _ h => h) hsk hc hn hS hs _ a hl inv0 hlex h
  rw [hlen] at this
  exact this
end

end Go.Proofs.Ytjdoiieiimdmfaa

/- The contracts of package step's small functions: isBelow, more, with, copied, namesIn. -/
namespace Go.Proofs.Ytjdoiieiimdmfaa
open Go.RowKit

theorem own_setLow {w : World} {base : Nat} {e : TypeId} {size : Nat} {v : Value} {n : Nat} {xs : List Value} (h : w.ownsRow base e size v n xs) {a : Addr} (ha : a.block < base) (u : Value) : (w.setCell a u).ownsRow base e size v n xs := by
  obtain ⟨z1, z2 | ⟨g', c', cur, e', z2, z3, z4⟩⟩ := h
  · exact ⟨z1, .inl z2⟩
  · exact ⟨z1, .inr ⟨g', c', cur, e', z2, by rw [Below.heap_setCell _ _ _ _ (by omega)]; exact z3, z4⟩⟩

set_option maxRecDepth 100000 in
theorem st_isBelow {w : World} {n m : Int} : Calls Try.prog 21 #[.int .i64 n, .int .i64 m] w fun e w' => e = .returned (.bool (decide (0 ≤ n) && decide (n < m))) ∧ w' = w := by
  by_cases h0 : 0 ≤ n
  · by_cases h1 : n < m
    · have e1 : decide (n < m) = true := decide_eq_true h1
      have e0 : decide (0 ≤ n) = true := decide_eq_true h0
      rw [e0, e1]
      go_enter Try.func21, Try.ntmps21
      go_wp2_with fail
      go_ret
      exact ⟨rfl, rfl⟩
    · have e1 : decide (n < m) = false := decide_eq_false h1
      have e0 : decide (0 ≤ n) = true := decide_eq_true h0
      rw [e0, e1]
      clear h1
      go_enter Try.func21, Try.ntmps21
      go_wp2_with fail
      go_ret
      exact ⟨rfl, rfl⟩
  · have e0 : decide (0 ≤ n) = false := decide_eq_false h0
    rw [e0]
    clear h0
    go_enter Try.func21, Try.ntmps21
    go_wp2_with fail
    go_ret
    exact ⟨rfl, rfl⟩

section
variable {w : World} {T N : Int} {ra : Option Addr} {rn rc : Nat} {op a b c : Int}

set_option maxRecDepth 100000 in
theorem st_more : Calls Try.prog 64 #[.agg #[.int .i64 T, .int .i64 N, .slice ra rn rc, .int .i64 op, .int .i64 a, .int .i64 b, .int .i64 c]] w fun e w' => e = .returned (.agg #[.bool false, .int .i64 N]) ∧ Below w.heap.size w w' := by
  go_enter Try.func64, Try.ntmps64
  go_wp2_with fail
  refine bodyPost_ret (v := .agg #[.bool false, .int .i64 N]) (by simp [results, Try.results64, go_sem]) rfl ?_
  exact ⟨rfl, by first | exact ((Below.refl _ _).alloc (Nat.le_refl _) _).alloc (by simp) _ | exact (((Below.refl _ _).alloc (Nat.le_refl _) _).alloc (by simp) _).setCell (by simp) _⟩

set_option maxRecDepth 100000 in
theorem st_with {M : Int} {oa : Option Addr} {on oc : Nat} : Calls Try.prog 58 #[.agg #[.int .i64 T, .int .i64 N, .slice ra rn rc, .int .i64 op, .int .i64 a, .int .i64 b, .int .i64 c], .int .i64 M, .slice oa on oc] w fun e w' => e = .returned (.agg #[.int .i64 T, .int .i64 M, .slice oa on oc]) ∧ Below w.heap.size w w' := by
  go_enter Try.func58, Try.ntmps58
  go_wp2_with fail
  refine bodyPost_ret (v := .agg #[.int .i64 T, .int .i64 M, .slice oa on oc]) (by simp [results, Try.results58, go_sem]) rfl ?_
  exact ⟨rfl, by first | exact ((Below.refl _ _).alloc (Nat.le_refl _) _).alloc (by simp) _ | exact (((Below.refl _ _).alloc (Nat.le_refl _) _).alloc (by simp) _).setCell (by simp) _⟩
end

set_option maxRecDepth 100000 in
set_option maxHeartbeats 3200000 in
theorem st_copied {w : World} {L : Int} {lv : Value} {l : List Sy} (hl : SymsAt w lv l) (hs : l.length ≤ 1000) :
    Calls Try.prog 59 #[.agg #[.int .i64 L, lv]] w fun e w' => ∃ ga d, e = .returned (.agg #[.int .i64 L, .slice ga l.length d]) ∧ w'.ownsRow w.heap.size 43 2 (.slice ga l.length d) l.length (flatY l) ∧ Below w.heap.size w w' := by
  obtain ⟨la, lc, hlv, _⟩ := hl.1
  subst hlv
  obtain ⟨n, hn⟩ : ∃ n, l.length = n := ⟨_, rfl⟩
  rw [hn] at hl hs ⊢
  have HL : Hid (SymsAt w (.slice la n lc) l ∧ l.length = n) := ⟨hl, hn⟩
  clear hl hn
  go_enter Try.func59, Try.ntmps59
  go_upto_region 1 with fail
  obtain ⟨W1, hW1⟩ : ∃ W, (w.alloc (.cells #[.int .i64 L, .slice la n lc] 41)).alloc (.cells #[.int .i64 0, .slice none 0 0] 41) = W := ⟨_, rfl⟩
  obtain ⟨W2, hW2⟩ : ∃ W, W1.drew = W := ⟨_, rfl⟩
  have u1 : W2.cell? ⟨w.heap.size, 0, none⟩ = some (.int .i64 L) := by rw [← hW2, ← hW1]; simp [go_sem]
  have u2 : W2.cell? ⟨w.heap.size, 1, none⟩ = some (.slice la n lc) := by rw [← hW2, ← hW1]; simp [go_sem]
  have u3 : W2.cell? ⟨w.heap.size + 1, 0, none⟩ = some (.int .i64 0) := by rw [← hW2, ← hW1]; simp [go_sem]
  have u4 : W2.cell? ⟨w.heap.size + 1, 1, none⟩ = some (.slice none 0 0) := by rw [← hW2, ← hW1]; simp [go_sem]
  have uf : ∀ o, W2.frozen? ⟨w.heap.size + 1, o, none⟩ = false := fun o => by rw [← hW2, ← hW1]; simp [go_sem]
  have hB1 : Below w.heap.size w W2 := by rw [← hW2, ← hW1]; exact (((Below.refl _ _).alloc (Nat.le_refl _) _).alloc (by simp) _).drew
  have hs1 : W2.heap.size = w.heap.size + 2 := by rw [← hW2, ← hW1]; simp
  have HL1 : Hid (∀ wq, Below W2.heap.size W2 wq → RowAt wq (.slice la n lc) n (flatY l)) := fun wq hq => by
    have := HL.out.1.row
    rw [HL.out.2] at this
    exact this.below (B := w.heap.size) (Nat.le_refl _) (hB1.trans (hq.mono (by omega)))
  have HS : Hid (W2.heap.size = w.heap.size + 2) := hs1
  rw [hW1]
  clear hW1 hs1
  refine wp_region_held_any [0, 1, 3, 4] 4 7 (fun w' => w'.cell? ⟨w.heap.size, 0, none⟩ = some (.int .i64 L) ∧ w'.cell? ⟨w.heap.size, 1, none⟩ = some (.slice la n lc)) (by kernel_rfl) (by kernel_rfl) (by rw [hW2]; exact ⟨u1, u2⟩) ?_
  rw [hW2]
  clear hW2
  iterate 4
    refine StillI.con8 (v := ?_) rfl (by rfl) ?_ ?_
    rotate_left
    · intro w' hSw
      obtain ⟨z0, z1⟩ := hSw
      go_simp
      try with_reducible rfl
    simp only [Act.put, List.setIfInBounds_toArray, List.set_cons_zero, List.set_cons_succ]
  rw [StillI]
  have hB2 : Below W2.heap.size W2 (W2.alloc (.cells #[] 43)) := (Below.refl _ _).alloc (Nat.le_refl _) _
  have own0 : (W2.alloc (.cells #[] 43)).ownsRow W2.heap.size 43 2 (.slice (some ⟨W2.heap.size, 0, none⟩) 0 0) 0 [] := ⟨rfl, .inr ⟨W2.heap.size, 0, #[], rfl, Nat.le_refl _, heap_alloc_new _ _, Nat.le_refl _, by decide, rfl, rfl⟩⟩
  have hrow := HL1.out _ hB2
  refine TailA.one (i := 2) (by kernel_rfl) ⟨_, rfl, fun K hK => ?_⟩
  go_simp
  refine hK.out _ _ (fun _ => ⟨?_, ?_⟩) ?_
  · exact (hB2.cell (World.block_lt_of_cell? _ _ u1)).trans u1
  · exact (hB2.cell (World.block_lt_of_cell? _ _ u2)).trans u2
  clear hK
  refine TailA.one (i := 5) (by kernel_rfl) ⟨_, rfl, fun K hK => ?_⟩
  refine step_append_ccY rfl _ _ rfl rfl rfl rfl own0 hrow hB2.size (by omega) ?_
  intro a' d' w' hown hgrow hat
  have hB3 : Below W2.heap.size W2 w' := hB2.grown hgrow hB2.size fun k hk => (own0.lt k hk).1
  rw [Nat.zero_add] at hown ⊢
  rw [List.nil_append] at hown
  have v1 := (hB3.cell (World.block_lt_of_cell? _ _ u1)).trans u1
  have v2 := (hB3.cell (World.block_lt_of_cell? _ _ u2)).trans u2
  have v3 := (hB3.cell (World.block_lt_of_cell? _ _ u3)).trans u3
  have v4 := (hB3.cell (World.block_lt_of_cell? _ _ u4)).trans u4
  have vf : ∀ o, w'.frozen? ⟨w.heap.size + 1, o, none⟩ = false := fun o => (hB3.frozen (p := ⟨w.heap.size + 1, o, none⟩) (show w.heap.size + 1 < _ by rw [HS.out]; omega)).trans (uf o)
  have vf0 := vf 0
  have vf1 := vf 1
  refine hK.out _ _ (fun _ => ⟨v1, v2⟩) ?_
  clear hK own0 hrow hgrow hat u1 u2 u3 u4 uf hB2
  refine TailA.one (i := 6) (by kernel_rfl) ⟨_, rfl, fun K hK => ?_⟩
  go_simp
  refine hK.out _ _ (fun _ => ⟨v1, v2⟩) ?_
  clear hK
  refine TailA.one (i := 7) (by kernel_rfl) ⟨_, rfl, fun K hK => ?_⟩
  go_simp
  refine hK.out _ _ (fun h => absurd h (by omega)) ?_
  clear hK
  refine TailA.end (by kernel_rfl) (NoPanic.normal ?_)
  have q0 : ((w'.setCell ⟨w.heap.size + 1, 0, none⟩ (.int .i64 L)).setCell ⟨w.heap.size + 1, 1, none⟩ (.slice a' n d')).cell? ⟨w.heap.size + 1, 0, none⟩ = some (.int .i64 L) := by
    rw [cell_set_other (.inr (by simp))]; exact World.cell?_setCell_same _ _ _ v3
  have q1 : ((w'.setCell ⟨w.heap.size + 1, 0, none⟩ (.int .i64 L)).setCell ⟨w.heap.size + 1, 1, none⟩ (.slice a' n d')).cell? ⟨w.heap.size + 1, 1, none⟩ = some (.slice a' n d') := by
    exact World.cell?_setCell_same _ _ _ ((cell_set_other (.inr (by simp))).trans v4)
  go_wp2_with fail
  refine bodyPost_ret (v := .agg #[.int .i64 L, .slice a' n d']) (by simp [results, Try.results59, go_sem, q0, q1]) rfl ?_
  have hlo : w.heap.size + 1 < W2.heap.size := by rw [HS.out]; omega
  refine ⟨a', d', rfl, own_mono (own_setLow (own_setLow hown (a := ⟨w.heap.size + 1, 0, none⟩) hlo _) (a := ⟨w.heap.size + 1, 1, none⟩) hlo _) (by omega), ?_⟩
  exact ((hB1.trans (hB3.mono (by omega))).setCell (p := ⟨w.heap.size + 1, 0, none⟩) (by simp) _).setCell (p := ⟨w.heap.size + 1, 1, none⟩) (by simp) _

theorem names_take {l : List Sy} {k : Nat} (hk : k < l.length) : (namesS (l.take (k + 1))).length = (namesS (l.take k)).length + (if (l.getD k (false, 0)).1 then 0 else 1) := by
  have e : l.getD k (false, 0) = l[k] := by simp [List.getD, hk]
  rw [List.take_succ_eq_append_getElem hk, names_app, List.length_append, e]
  obtain ⟨t, n⟩ := l[k]
  cases t <;> rfl
theorem names_le (l : List Sy) : (namesS l).length ≤ l.length := by
  induction l with
  | nil => exact Nat.le_refl _
  | cons x l ih =>
    obtain ⟨t, n⟩ := x
    cases t
    · rw [namesS, List.length_cons, List.length_cons]; omega
    · rw [namesS, List.length_cons]; omega

set_option maxRecDepth 100000 in
set_option maxHeartbeats 3200000 in
theorem st_namesIn {w : World} {lv : Value} {l : List Sy} (hl : SymsAt w lv l) (hs : l.length ≤ 1000) :
    Calls Try.prog 22 #[lv] w fun e w' => e = .returned (.int .i64 (namesS l).length) ∧ Below w.heap.size w w' := by
  obtain ⟨la, lc, hlv, _⟩ := hl.1
  subst hlv
  have HL : Hid (SymsAt w (.slice la l.length lc) l) := hl
  clear hl
  go_enter Try.func22, Try.ntmps22
  go_wp2_with fail
  go_loopw [3, 8] (fun s3 s8 wr => ∃ k : Nat, s3 = .int .i64 (namesS (l.take k)).length ∧ s8 = .int .i64 k ∧ k ≤ l.length ∧ Below w.heap.size w wr) (fun _ s _ => l.length - (intOf s).toNat)
  case atStart => exact ⟨0, rfl, rfl, Nat.zero_le _, Below.refl _ _⟩
  case round =>
    obtain ⟨k, rfl, rfl, hk, hB⟩ := hrel
    have HB : Hid (Below w.heap.size w wr) := hB
    by_cases hlt : k < l.length
    · obtain ⟨b, o, c, hv, c1, c2⟩ := (HL.out.same (same_below hB)).2 k hlt
      cases hv
      have ht := names_take hlt
      have hle := names_le (l.take k)
      rw [List.length_take] at hle
      obtain ⟨⟨t, v⟩, hx⟩ : ∃ x, l.getD k (false, 0) = x := ⟨_, rfl⟩
      rw [hx] at c1 c2 ht
      simp only at c1 c2 ht
      obtain ⟨q, hq⟩ : ∃ q, (namesS (l.take k)).length = q := ⟨_, rfl⟩
      rw [hq] at ht hle ⊢
      have hq8 : q ≤ 1000 := by omega
      have HT : Hid ((namesS (l.take (k + 1))).length = q + (if t = true then 0 else 1)) := ht
      have i0 : (0 : Int) ≤ (k : Int) := Int.natCast_nonneg _
      have i1 : (k : Int) < (l.length : Int) := by omega
      have hsz := hB.size
      clear hx ht hq hle hB
      cases t with
      | true =>
        go_wp2_with fail
        go_roundw
        case rel => exact ⟨k + 1, by rw [HT.out]; rfl, by go_num, by omega, HB.out.alloc hsz _⟩
        case measure => simp [intOf]; omega
      | false =>
        go_wp2_with fail
        go_roundw
        case rel => exact ⟨k + 1, by rw [HT.out]; go_num, by go_num, by omega, HB.out.alloc hsz _⟩
        case measure => simp [intOf]; omega
    · have hkk : k = l.length := by omega
      subst hkk
      rw [List.take_length]
      clear hB
      go_wp2_with fail
      go_ret
      exact ⟨rfl, HB.out⟩

end Go.Proofs.Ytjdoiieiimdmfaa

/- The contracts of pollardingref8's left and May. -/
namespace Go.Proofs.Ytjdoiieiimdmfaa
open Go.RowKit

end Go.Proofs.Ytjdoiieiimdmfaa
