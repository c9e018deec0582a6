import Derived.Test.YtobegekmgoiopaaTkMemAndTkRules
import Derived.Laws.BitsAllLaws
import Derived.Deep.RegionHeld3
import Derived.RegionTactic
import Derived.Deep.RegionLaw
/- The contracts of package table's has, first, behind. -/
namespace Go.Proofs.Ytobegekmgoiopaa
open Go.RowKit

theorem mask_lt (L : List Bool) (n : Nat) : maskN L n < 2 ^ n := Nat.lt_pow_two_of_testBit _ fun i hi => by rw [mask_bit]; simp; omega
theorem and_bit (m n : Nat) : decide (((m &&& 2 ^ n : Nat) : Int) ≠ 0) = m.testBit n := by
  cases h : m.testBit n with
  | false =>
    have : m &&& 2 ^ n = 0 := Nat.eq_of_testBit_eq fun i => by
      rw [Nat.testBit_and, Nat.testBit_two_pow, Nat.zero_testBit]
      by_cases e : n = i
      · subst e; simp [h]
      · simp [e]
    simp [this]
  | true =>
    have : m &&& 2 ^ n ≠ 0 := fun e => by
      have h2 : (m &&& 2 ^ n).testBit n = true := by rw [Nat.testBit_and, Nat.testBit_two_pow, h]; simp
      rw [e] at h2
      simp at h2
    simpa using this

set_option maxRecDepth 100000 in
set_option maxHeartbeats 800000 in
theorem tk_has {w : World} {m n : Nat} (hm : m < 4294967296) (hn : n ≤ 8) :
    Calls Try.prog 70 #[.int .u32 m, .int .i64 n] w fun e w' => e = .returned (.bool (m.testBit n)) ∧ w' = w := by
  have one := tk_one (w := w) hn
  have hp : 2 ^ n < 4294967296 := Nat.lt_of_le_of_lt (Nat.pow_le_pow_right (by omega) hn) (by decide)
  rw [← and_bit]
  obtain ⟨p, hp'⟩ : ∃ p, 2 ^ n = p := ⟨_, rfl⟩
  rw [hp'] at one hp ⊢
  have hb := u32_and_nat m p hm hp
  clear hp'
  obtain ⟨q, hq⟩ : ∃ q, m &&& p = q := ⟨_, rfl⟩
  rw [hq] at hb ⊢
  clear hq
  by_cases h0 : q = 0
  · subst h0
    go_enter Try.func70, Try.ntmps70
    go_wp2_with (go_at_call 54; refine one.mono ?_; rintro e w1 ⟨rfl, rfl⟩)
    go_ret
    exact ⟨rfl, rfl⟩
  · have e1 : ((q : Int) != 0) = true := by simpa using h0
    have e2 : decide ((q : Int) ≠ 0) = true := by simpa using h0
    rw [e2]
    go_enter Try.func70, Try.ntmps70
    go_wp2_with (go_at_call 54; refine one.mono ?_; rintro e w1 ⟨rfl, rfl⟩)
    go_ret
    exact ⟨rfl, rfl⟩

/-- What the maker knows of names. -/
structure Knows (w : World) (ab T N : Nat) (nv fv : Value) (Nu : List Bool) (Fi : List (List Bool)) : Prop where
  c3 : w.cell? ⟨ab, 3, none⟩ = some nv
  c4 : w.cell? ⟨ab, 4, none⟩ = some fv
  nul : BoolsAt w nv Nu
  fir : MatAt w fv Fi
  nlen : Nu.length = N
  flen : Fi.length = N
  frow : ∀ n, n < N → (Fi.getD n []).length = T
  hT : T ≤ 8
theorem Knows.later {w w' : World} {ab T N : Nat} {nv fv : Value} {Nu : List Bool} {Fi : List (List Bool)} (h : Knows w ab T N nv fv Nu Fi) (hb : Below w.heap.size w w') : Knows w' ab T N nv fv Nu Fi :=
  ⟨(hb.cell (World.block_lt_of_cell? _ _ h.c3)).trans h.c3, (hb.cell (World.block_lt_of_cell? _ _ h.c4)).trans h.c4, h.nul.same (same_below hb), h.fir.same (same_below hb), h.nlen, h.flen, h.frow, h.hT⟩
theorem TkM.knows {w0 w : World} {d : TkA} {v : TkV} {G : Wy → Option Value} {ng : Nat} {st : LS} {R : List Ru} {Nu : List Bool} {Fi : List (List Bool)} (h : TkM w0 w d v G ng st) (E : TkE w0 d R Nu Fi) : Knows w d.ma d.T d.N d.nv d.fv Nu Fi :=
  ⟨(h.cell (i := 3) rfl (by omega)).1, (h.cell (i := 4) rfl (by omega)).1, E.nul.same (same_below h.since), E.fir.same (same_below h.since), E.nlen, E.flen, E.frow, E.hT⟩

set_option maxRecDepth 100000 in
set_option maxHeartbeats 3200000 in
theorem tk_first {w : World} {ab T N : Nat} {nv fv : Value} {Nu : List Bool} {Fi : List (List Bool)} {s : Sy} (hK : Knows w ab T N nv fv Nu Fi) (h1 : s.1 = true → 0 ≤ s.2 ∧ s.2 < (T : Int)) (h2 : s.1 = false → 0 ≤ s.2 ∧ s.2 < (N : Int)) :
    Calls Try.prog 78 #[.pointer (some ⟨ab, 0, none⟩), .agg #[.bool s.1, .int .i64 s.2]] w fun e w' => e = .returned (.int .u32 (firM Fi s)) ∧ firM Fi s < 512 ∧ Below w.heap.size w w' := by
  have hT := hK.hT
  obtain ⟨b, v⟩ := s
  simp only at h1 h2 ⊢
  cases b with
  | true =>
    obtain ⟨v0, v1⟩ := h1 rfl
    obtain ⟨n, rfl⟩ : ∃ n : Nat, v = n := ⟨v.toNat, by omega⟩
    have one := tk_one (w := w.alloc (.cells #[.bool true, .int .i64 n] 102)) (n := n) (by omega)
    have HF : Hid (firM Fi (true, (n : Int)) = 2 ^ n) := by show firM Fi (true, (n : Int)) = _; simp [firM]
    have HL : Hid (2 ^ n < 512) := by show 2 ^ n < 512; exact Nat.lt_of_le_of_lt (Nat.pow_le_pow_right (by omega) (show n ≤ 8 by omega)) (by decide)
    obtain ⟨p, hp⟩ : ∃ p, 2 ^ n = p := ⟨_, rfl⟩
    rw [hp] at one HF HL
    clear hK h1 h2 hp
    go_enter Try.func78, Try.ntmps78
    go_wp2_with (go_at_call 54; refine one.mono ?_; rintro e w1 ⟨rfl, rfl⟩)
    go_ret
    exact ⟨by rw [HF.out]; rfl, by rw [HF.out]; exact HL.out, (Below.refl _ _).alloc (Nat.le_refl _) _⟩
  | false =>
    obtain ⟨v0, v1⟩ := h2 rfl
    obtain ⟨n, rfl⟩ : ∃ n : Nat, v = n := ⟨v.toNat, by omega⟩
    have hnN : n < N := by omega
    have hK1 := hK.later ((Below.refl _ _).alloc (Nat.le_refl _) (.cells #[.bool false, .int .i64 n] 102))
    obtain ⟨g, o, c, rv, hfv, d0, hrow⟩ := hK1.fir.2 n (by rw [hK1.flen]; omega)
    obtain ⟨L, hL⟩ : ∃ L, Fi.getD n [] = L := ⟨_, rfl⟩
    have hLl : L.length = T := by rw [← hL]; exact hK.frow n hnN
    rw [hL] at hrow
    obtain ⟨ra, rc, hrv⟩ := hrow.1
    subst hrv
    subst hfv
    have c4 := hK1.c4
    have i0 : (0 : Int) ≤ (n : Int) := Int.natCast_nonneg _
    have i1 : (n : Int) < (Fi.length : Int) := by rw [hK.flen]; omega
    have HR : Hid (BoolsAt (w.alloc (.cells #[.bool false, .int .i64 n] 102)) (.slice ra L.length rc) L) := hrow
    have HF : Hid (firM Fi (false, (n : Int)) = maskN L L.length) := by show firM Fi (false, (n : Int)) = _; simp [firM, ← hL]
    have HT : Hid (L.length = T ∧ T ≤ 8) := ⟨hLl, hT⟩
    have hL8 : L.length ≤ 8 := by omega
    clear hK h1 h2 hK1 hrow hL hLl hT
    go_enter Try.func78, Try.ntmps78
    go_wp2_with fail
    go_big_quiet (fail)
    go_wp2_with fail
    clear c4 d0
    go_loopw [5, 23] (fun s5 s23 wr => ∃ k : Nat, s5 = .int .u32 (maskN L k) ∧ s23 = .int .i64 k ∧ k ≤ L.length ∧ wr = (w.alloc (.cells #[.bool false, .int .i64 n] 102)).drewN nq) (fun _ s _ => L.length - (intOf s).toNat)
    case atStart => exact ⟨0, rfl, rfl, Nat.zero_le _, rfl⟩
    case round =>
      obtain ⟨k, rfl, rfl, hk, rfl⟩ := hrel
      by_cases hlt : k < L.length
      · obtain ⟨g', o', c', hv', e0⟩ := HR.out.2 k hlt
        cases hv'
        have one := tk_one (w := (w.alloc (.cells #[.bool false, .int .i64 n] 102)).drewN nq) (n := k) (by omega)
        have hml := mask_lt L k
        have hpk : 2 ^ k ≤ 256 := Nat.le_trans (Nat.pow_le_pow_right (by omega) (show k ≤ 8 by omega)) (by decide)
        have k0 : (0 : Int) ≤ (k : Int) := Int.natCast_nonneg _
        have k1 : (k : Int) < (L.length : Int) := by omega
        obtain ⟨x, hx⟩ : ∃ x, L.getD k false = x := ⟨_, rfl⟩
        rw [hx] at e0
        have HM : Hid (maskN L (k + 1) = if x then maskN L k ||| 2 ^ k else maskN L k) := by show maskN L (k + 1) = _; rw [maskN, hx]
        obtain ⟨p, hp⟩ : ∃ p, 2 ^ k = p := ⟨_, rfl⟩
        obtain ⟨q, hq⟩ : ∃ q, maskN L k = q := ⟨_, rfl⟩
        rw [hp] at one hml hpk HM
        rw [hq] at hml HM ⊢
        have hor := u32_or_nat q p (by omega) (by omega)
        clear hx hp hq
        cases x with
        | true =>
          go_wp2_with (go_at_call 54; refine one.mono ?_; rintro e w1 ⟨rfl, rfl⟩)
          go_roundw
          case rel => exact ⟨k + 1, by rw [HM.out]; rfl, by go_num, by omega, trivial⟩
          case measure => simp [intOf]; omega
        | false =>
          go_wp2_with fail
          go_roundw
          case rel => exact ⟨k + 1, by rw [HM.out]; rfl, by go_num, by omega, trivial⟩
          case measure => simp [intOf]; omega
      · obtain rfl : k = L.length := by omega
        have HL : Hid (maskN L L.length < 512) := by
          show maskN L L.length < 512
          have := mask_lt L L.length
          have : 2 ^ L.length ≤ 256 := Nat.le_trans (Nat.pow_le_pow_right (by omega) (show L.length ≤ 8 by omega)) (by decide)
          omega
        go_wp2_with fail
        go_ret
        exact ⟨by rw [HF.out]; rfl, by rw [HF.out]; exact HL.out, below_drewN ((Below.refl _ _).alloc (Nat.le_refl _) _) _⟩

theorem or_lt {a b : Nat} (ha : a < 512) (hb : b < 512) : a ||| b < 512 := Nat.or_lt_two_pow (n := 9) ha hb
theorem behM_drop {Nu : List Bool} {Fi : List (List Bool)} {a k : Nat} {l : List Sy} {s : Sy} (h : l.drop k = s :: l.drop (k + 1)) :
    behM Nu Fi a (l.drop k) = if s.1 || !Nu.getD s.2.toNat false then (a ||| firM Fi s, false) else behM Nu Fi (a ||| firM Fi s) (l.drop (k + 1)) := by rw [h, behM]

theorem slice_from {la : Option Addr} {n lc b : Nat} (hb : b + 1 ≤ n) : ∃ A, (∀ w : World, Sem.run Try.prog (Instr.sliceAt 26 (.slice la n lc) (some (.int .i64 ((b : Int) + 1))) none none) w = .ok (.slice A (n - (b + 1)) (lc - (b + 1))) w) ∧ (lc ≠ b + 1 → A = la.map (·.add ((b + 1) * 2))) := by
  have h0 : (0 : Int) ≤ (b : Int) + 1 := by omega
  have h1 : (b : Int) + 1 ≤ (n : Int) := by omega
  refine ⟨if lc = b + 1 then la else la.map (·.add ((b + 1) * 2)), fun w => ?_, fun h => by rw [if_neg h]⟩
  go_simp

set_option maxRecDepth 100000 in
set_option maxHeartbeats 6400000 in
theorem tk_behind {w : World} {lim ab T N a b : Nat} {rv nv fv : Value} {R : List Ru} {Nu : List Bool} {Fi : List (List Bool)} (hA : AutoG w lim ab T N rv R) (hK : Knows w ab T N nv fv Nu Fi) (hr : a ≤ R.length) (hb : b < (rightF R a).length) (h8 : (rightF R a).length ≤ 8)
    (hsy : ∀ s ∈ rightF R a, (s.1 = true → 0 ≤ s.2 ∧ s.2 < (T : Int)) ∧ (s.1 = false → 0 ≤ s.2 ∧ s.2 < (N : Int))) :
    Calls Try.prog 67 #[.pointer (some ⟨ab, 0, none⟩), .agg #[.int .i64 a, .int .i64 b]] w fun e w' => e = .returned (.tuple #[.int .u32 (behindM R Nu Fi (a, b)).1, .bool (behindM R Nu Fi (a, b)).2]) ∧ (behindM R Nu Fi (a, b)).1 < 512 ∧ Below w.heap.size w w' := by
  obtain ⟨W1, hW1⟩ : ∃ W1, w.alloc (.cells #[.int .i64 a, .int .i64 b] 121) = W1 := ⟨_, rfl⟩
  have hB1 : Below w.heap.size w W1 := by rw [← hW1]; exact (Below.refl _ _).alloc (Nat.le_refl _) _
  have rg := tk_right ((hA.later hB1).later (Below.refl _ _).drew) hr
  have HK : Hid (Knows W1 ab T N nv fv Nu Fi) := hK.later hB1
  have b0 : W1.cell? ⟨w.heap.size, 0, none⟩ = some (.int .i64 a) := by rw [← hW1]; simp [go_sem]
  have b1 : W1.cell? ⟨w.heap.size, 1, none⟩ = some (.int .i64 b) := by rw [← hW1]; simp [go_sem]
  have hsz : w.heap.size < W1.heap.size := by rw [← hW1]; simp
  obtain ⟨Rt, hRt⟩ : ∃ x, rightF R a = x := ⟨_, rfl⟩
  have HM : Hid (behindM R Nu Fi (a, b) = behM Nu Fi 0 (Rt.drop (b + 1))) := by show behindM R Nu Fi (a, b) = _; rw [← hRt]; rfl
  rw [hRt] at rg hb h8 hsy
  have HS : Hid (∀ s ∈ Rt, (s.1 = true → 0 ≤ s.2 ∧ s.2 < (T : Int)) ∧ (s.1 = false → 0 ≤ s.2 ∧ s.2 < (N : Int))) := hsy
  obtain ⟨m, hm⟩ : ∃ m, Rt.drop (b + 1) = m := ⟨_, rfl⟩
  have hml : m.length = Rt.length - (b + 1) := by rw [← hm]; simp
  have HMI : Hid (∀ j, j < m.length → m.getD j (false, 0) = Rt.getD (b + 1 + j) (false, 0)) := fun j hj => by
    rw [← hm, List.getD, List.getD, List.getElem?_drop]
  rw [hm] at HM
  have HB1 : Hid (Below w.heap.size w W1) := hB1
  clear hA hK hRt hsy hm hr hB1
  go_enter Try.func67, Try.ntmps67
  go_wp2_with fail
  clear hW1
  have j0 : (0 : Int) ≤ (b : Int) + 1 := by omega
  have j1 : (b : Int) + 1 ≤ (Rt.length : Int) := by omega
  have hw : IntKind.i64.wrap ((b : Int) + 1) = (b : Int) + 1 := IntWalk.i64_in _ (by omega)
  go_cut [15, 16, 17] from 8 (fun s15 s16 s17 wx => ∃ la lc, s15 = .slice la m.length lc ∧ s16 = .int .i64 m.length ∧ s17 = .int .i64 0 ∧ SymsAt wx (.slice la m.length lc) m ∧ Below W1.heap.size W1 wx)
  case first =>
    go_region_held3 (fun w' => w'.cell? ⟨w.heap.size, 0, none⟩ = some (.int .i64 a) ∧ w'.cell? ⟨w.heap.size, 1, none⟩ = some (.int .i64 b)) (first | (refine ⟨?_, ?_⟩ <;> assumption) | go_keep)
      (first
       | (go_at_call 77; refine rg.mono ?_; rintro e w2 ⟨la, lc, rfl, hsy, hB2⟩
          have c0 := (hB2.cell (p := ⟨w.heap.size, 0, none⟩) hsz).trans b0
          have c1 := (hB2.cell (p := ⟨w.heap.size, 1, none⟩) hsz).trans b1
          obtain ⟨_, _, hx1, hx2⟩ := hsy.1
          cases hx1
          obtain ⟨A, hsl, hAe⟩ := slice_from (la := la) (lc := lc) (b := b) (n := Rt.length) hb
          have HX : Hid (SymsAt w2 (.slice la Rt.length lc) Rt ∧ Rt.length ≤ lc ∧ (lc ≠ b + 1 → A = la.map (·.add ((b + 1) * 2))) ∧ Below W1.heap.size W1 w2) := ⟨hsy, hx2, hAe, (Below.refl _ _).drew.trans hB2⟩
          clear hsy hAe hB2 hx2))
    go_wp2_with fail
    go_meet
    case rel =>
      obtain ⟨hsy, hx2, hAe, hB⟩ := HX.out
      refine ⟨A, lc - (b + 1), by rw [hml], by rw [hml], rfl, ⟨⟨_, _, rfl, by omega⟩, fun j hj => ?_⟩, hB⟩
      obtain ⟨g, o, c, hv, e1, e2⟩ := hsy.2 (b + 1 + j) (by omega)
      cases hv
      have hA' := hAe (by omega)
      subst hA'
      rw [HMI.out j hj]
      refine ⟨g, o + (b + 1) * 2, lc - (b + 1), rfl, ?_, ?_⟩
      · rw [show o + (b + 1) * 2 + j * 2 = o + (b + 1 + j) * 2 by omega]; exact e1
      · rw [show o + (b + 1) * 2 + j * 2 + 1 = o + (b + 1 + j) * 2 + 1 by omega]; exact e2
  case rest =>
    obtain ⟨la, lc, rfl, rfl, rfl, hsy, hBc⟩ := hcut
    have HSy : Hid (SymsAt wc (.slice la m.length lc) m) := hsy
    have HBc : Hid (Below w.heap.size w wc) := HB1.out.trans (hBc.mono (by omega))
    have HKc : Hid (Knows wc ab T N nv fv Nu Fi) := HK.out.later hBc
    have HMS : Hid (∀ s ∈ m, (s.1 = true → 0 ≤ s.2 ∧ s.2 < (T : Int)) ∧ (s.1 = false → 0 ≤ s.2 ∧ s.2 < (N : Int))) := fun s hs => by
      obtain ⟨j, hj, rfl⟩ := List.getElem_of_mem hs
      have h1 := HMI.out j hj
      have e : m.getD j (false, 0) = m[j] := by simp [List.getD, hj]
      rw [← e, h1]
      exact HS.out _ (by rw [List.getD, List.getElem?_eq_getElem (show b + 1 + j < Rt.length by omega)]; exact List.getElem_mem _)
    have hm8 : m.length ≤ 8 := by omega
    clear hsy hBc rg HK b0 b1 HS HMI j0 j1 hw hml
    go_wp2_with fail
    go_loopw [4, 17] (fun s4 s17 wr => ∃ k acc : Nat, s4 = .int .u32 acc ∧ s17 = .int .i64 k ∧ k ≤ m.length ∧ acc < 512 ∧ behM Nu Fi 0 m = behM Nu Fi acc (m.drop k) ∧ Below wc.heap.size wc wr) (fun _ s _ => m.length - (intOf s).toNat)
    case atStart => exact ⟨0, 0, rfl, rfl, Nat.zero_le _, by omega, rfl, Below.refl _ _⟩
    case round =>
      obtain ⟨k, acc, rfl, rfl, hk, hacc, hbe, hB⟩ := hrel
      have HBe : Hid (behM Nu Fi 0 m = behM Nu Fi acc (m.drop k)) := hbe
      have HB : Hid (Below wc.heap.size wc wr) := hB
      have HBw : Hid (Below w.heap.size w wr) := HBc.out.trans (hB.mono HBc.out.size)
      clear hbe
      by_cases hlt : k < m.length
      · obtain ⟨g, o, c, hv, k1, k2⟩ := (HSy.out.same (same_below hB)).2 k hlt
        cases hv
        have hmem : m.getD k (false, 0) ∈ m := by simp [List.getD, hlt]
        have hin := HMS.out _ hmem
        have hdrop : m.drop k = m.getD k (false, 0) :: m.drop (k + 1) := by rw [List.drop_eq_getElem_cons hlt]; simp [List.getD, hlt]
        obtain ⟨s, hs⟩ : ∃ s, m.getD k (false, 0) = s := ⟨_, rfl⟩
        rw [hs] at k1 k2 hin hdrop
        have HD := behM_drop (Nu := Nu) (Fi := Fi) (a := acc) hdrop
        have hKr := (HKc.out.later hB).later ((Below.refl _ _).alloc (Nat.le_refl _) (.cells #[.bool s.1, .int .i64 s.2] 102))
        have fir := tk_first hKr hin.1 hin.2
        have HKr : Hid (Knows (wr.alloc (.cells #[.bool s.1, .int .i64 s.2] 102)) ab T N nv fv Nu Fi) := hKr
        have HIn : Hid (s.1 = false → 0 ≤ s.2 ∧ s.2 < (N : Int)) := hin.2
        have i0 : (0 : Int) ≤ (k : Int) := Int.natCast_nonneg _
        have i1 : (k : Int) < (m.length : Int) := by omega
        obtain ⟨f, hf⟩ : ∃ f, firM Fi s = f := ⟨_, rfl⟩
        rw [hf] at fir HD
        rw [← HBe.out] at HD
        have HDD : Hid (behM Nu Fi 0 m = if s.1 || !Nu.getD s.2.toNat false then (acc ||| f, false) else behM Nu Fi (acc ||| f) (m.drop (k + 1))) := HD
        clear hB hmem hin hdrop hs hf hKr HD HBe
        obtain ⟨sb, sn⟩ := s
        simp only at k1 k2 fir HKr HDD HIn
        cases sb with
        | true =>
          go_wp2_with
            (go_at_call 78; refine fir.mono ?_; rintro e w2 ⟨rfl, hf5, hB2⟩
             have hor := u32_or_nat acc f (by omega) (by omega)
             have b0 : w2.cell? ⟨wr.heap.size, 0, none⟩ = some (.bool true) := (hB2.cell (by simp)).trans (by simp [go_sem])
             have hxl := or_lt hacc hf5
             have HB2 : Hid (Below wr.heap.size wr w2) := ((Below.refl _ _).alloc (Nat.le_refl _) _).trans (hB2.mono (by simp))
             obtain ⟨x, hx⟩ : ∃ x, acc ||| f = x := ⟨_, rfl⟩
             rw [hx] at hor HDD hxl
             clear hx hB2 fir)
          go_big_quiet (fail)
          go_wp2_with fail
          have e9 : behindM R Nu Fi (a, b) = (x, false) := by rw [HM.out, HDD.out]; simp
          rw [e9]
          refine bodyPost_ret (v := .tuple #[.int .u32 x, .bool false]) (by simp [results, Try.results67, go_sem]) rfl ⟨rfl, hxl, ?_⟩
          exact below_drewN (HBw.out.trans (HB2.out.mono HBw.out.size)) _
        | false =>
          obtain ⟨n0, n1⟩ := HIn.out rfl
          obtain ⟨n, rfl⟩ : ∃ n : Nat, sn = n := ⟨sn.toNat, by omega⟩
          obtain ⟨na, nc, hnv⟩ := HKr.out.nul.1
          subst hnv
          have hNl := HKr.out.nlen
          simp only [Int.toNat_natCast, Bool.false_or] at HDD
          have q1 : (n : Int) < (Nu.length : Int) := by omega
          obtain ⟨z, hz⟩ : ∃ z, Nu.getD n false = z := ⟨_, rfl⟩
          rw [hz] at HDD
          have HZ : Hid (Nu.getD n false = z) := hz
          clear hz hNl
          go_wp2_with
            (go_at_call 78; refine fir.mono ?_; rintro e w2 ⟨rfl, hf5, hB2⟩
             have hor := u32_or_nat acc f (by omega) (by omega)
             have b0 : w2.cell? ⟨wr.heap.size, 0, none⟩ = some (.bool false) := (hB2.cell (by simp)).trans (by simp [go_sem])
             have b1 : w2.cell? ⟨wr.heap.size, 1, none⟩ = some (.int .i64 n) := (hB2.cell (by simp)).trans (by simp [go_sem])
             have hK2 := HKr.out.later hB2
             have c3 := hK2.c3
             obtain ⟨g', o', c', hv', d0⟩ := hK2.nul.2 n (by omega)
             cases hv'
             rw [HZ.out] at d0
             have hxl := or_lt hacc hf5
             have HB2 : Hid (Below wr.heap.size wr w2) := ((Below.refl _ _).alloc (Nat.le_refl _) _).trans (hB2.mono (by simp))
             obtain ⟨x, hx⟩ : ∃ x, acc ||| f = x := ⟨_, rfl⟩
             rw [hx] at hor HDD hxl
             clear hx hB2 fir hK2)
          cases z with
          | true =>
            go_big_quiet (fail)
            go_wp2_with fail
            go_roundw
            case rel => exact ⟨k + 1, x, rfl, by go_num, by omega, hxl, by rw [HDD.out]; simp, below_drewN (HB.out.trans (HB2.out.mono HB.out.size)) _⟩
            case measure => simp [intOf]; omega
          | false =>
            go_big_quiet (fail)
            go_wp2_with fail
            have e9 : behindM R Nu Fi (a, b) = (x, false) := by rw [HM.out, HDD.out]; simp
            rw [e9]
            refine bodyPost_ret (v := .tuple #[.int .u32 x, .bool false]) (by simp [results, Try.results67, go_sem]) rfl ⟨rfl, hxl, ?_⟩
            exact below_drewN (HBw.out.trans (HB2.out.mono HBw.out.size)) _
      · have e9 : behindM R Nu Fi (a, b) = (acc, true) := by
          rw [HM.out, HBe.out, List.drop_eq_nil_of_le (by omega)]
          rfl
        clear hB
        go_wp2_with fail
        rw [e9]
        refine bodyPost_ret (v := .tuple #[.int .u32 acc, .bool true]) (by simp [results, Try.results67, go_sem]) rfl ⟨rfl, hacc, HBw.out⟩

end Go.Proofs.Ytobegekmgoiopaa

/- The contracts of package table's give, look. -/
namespace Go.Proofs.Ytobegekmgoiopaa
open Go.RowKit

/-- Numbers of a spot that a key may bear. -/
structure SmallS (s : Spo) : Prop where
  a : s.1 ≤ 1000
  b : s.2.1 ≤ 1000
  c : s.2.2 ≤ 1000

set_option maxRecDepth 100000 in
set_option maxHeartbeats 1600000 in
theorem give_old {w0 w : World} {d : TkA} {v : TkV} {G : Wy → Option Value} {ng : Nat} {st : LS} (h : TkM w0 w d v G ng st) {a b c m : Nat} (hs : SmallS (a, (b, c))) (hm : m < 512) (hl : st.lk (a, (b, c)) < 512) (hc : st.c ≤ 10000000) (he : st.lk (a, (b, c)) ||| m = st.lk (a, (b, c))) :
    Calls Try.prog 53 #[.pointer (some ⟨d.ma, 0, none⟩), .agg #[.int .i64 a, .int .i64 b, .int .i64 c], .int .u32 m] w fun r w' => r = .returned (.tuple #[]) ∧ TkM w0 w' d v G ng st ∧ TkG d v v w w' := by
  have h1 := h.alloc (.cells #[.int .i64 a, .int .i64 b, .int .i64 c] 128)
  have l1 := h1.drew.lookL (s := (a, (b, c))) hs.a hs.b hs.c hc
  have c8 := (h1.cell (i := 8) rfl (by omega)).1
  unfold soV at l1
  simp only at l1
  obtain ⟨q, hq⟩ : ∃ q, st.lk (a, (b, c)) = q := ⟨_, rfl⟩
  rw [hq] at l1 he hl
  have hor := u32_or_nat q m (by omega) (by omega)
  rw [he] at hor
  have HH : Hid (TkM w0 w d v G ng st) := h
  clear h h1 he hq
  go_enter Try.func53, Try.ntmps53
  go_wp2_with fail
  go_region
  all_goals
    go_wp2_with fail
    refine bodyPost_ret (v := .tuple #[]) (results_none Try.results53 _ _ _) rfl ?_
    have hb : Below w.heap.size w (w.alloc (.cells #[.int .i64 a, .int .i64 b, .int .i64 c] 128)).drew := ((Below.refl _ _).alloc (Nat.le_refl _) _).drew
    exact ⟨rfl, HH.out.below hb, TkG.ofBelow hb⟩

set_option maxRecDepth 100000 in
set_option maxHeartbeats 3200000 in
theorem give_new {w0 w : World} {d : TkA} {v : TkV} {G : Wy → Option Value} {ng : Nat} {st : LS} (h : TkM w0 w d v G ng st) {a b c m : Nat} (hs : SmallS (a, (b, c))) (hm : m < 512) (hl : st.lk (a, (b, c)) < 512) (hc : st.c ≤ 10000000) (hO : st.O.length ≤ 10000000) (he : st.lk (a, (b, c)) ||| m ≠ st.lk (a, (b, c))) :
    Calls Try.prog 53 #[.pointer (some ⟨d.ma, 0, none⟩), .agg #[.int .i64 a, .int .i64 b, .int .i64 c], .int .u32 m] w fun r w' => r = .returned (.tuple #[]) ∧ ∃ ov', TkM w0 w' d { v with ov := ov' } G ng ⟨fun s => if s = (a, (b, c)) then st.lk (a, (b, c)) ||| m else st.lk s, st.O ++ [(a, (b, c))], st.c + 1⟩ ∧ TkG d v { v with ov := ov' } w w' := by
  have h1 := h.alloc (.cells #[.int .i64 a, .int .i64 b, .int .i64 c] 128)
  have l1 := h1.drew.lookL (s := (a, (b, c))) hs.a hs.b hs.c hc
  have c8 := (h1.cell (i := 8) rfl (by omega)).1
  unfold soV at l1
  simp only at l1
  obtain ⟨q, hq⟩ : ∃ q, st.lk (a, (b, c)) = q := ⟨_, rfl⟩
  rw [hq] at l1 he hl ⊢
  obtain ⟨x, hx⟩ : ∃ x, q ||| m = x := ⟨_, rfl⟩
  have hor := u32_or_nat q m (by omega) (by omega)
  rw [hx] at hor he ⊢
  have e1 : ((x : Int) == (q : Int)) = false := by simp; omega
  have hx0 : x ≠ 0 := fun e => by
    rw [e] at hx
    have : q = 0 := by
      apply Nat.eq_of_testBit_eq
      intro i
      have h2 : (q ||| m).testBit i = false := by rw [hx]; simp
      rw [Nat.testBit_or] at h2
      simp only [Bool.or_eq_false_iff] at h2
      rw [h2.1]; simp
    exact he (by rw [e, this])
  obtain ⟨w3, u3, h3, g3, -⟩ := h1.drew.drew.putL (s := (a, (b, c))) hs.a hs.b hs.c hx0
  unfold soV at u3
  simp only at u3
  have hb : Below w.heap.size w (w.alloc (.cells #[.int .i64 a, .int .i64 b, .int .i64 c] 128)).drew.drew := (((Below.refl _ _).alloc (Nat.le_refl _) _).drew).drew
  have lb : ¬ TkK d v w.heap.size := fun hk => by have := (h.kc hk).2; omega
  have hbox : w3.heap[w.heap.size]? = some (.cells #[.int .i64 a, .int .i64 b, .int .i64 c] 128) := by
    rw [(g3.far (b := w.heap.size) (by simp) lb).1]
    exact heap_alloc_new _ _
  have hsz3 : w.heap.size + 1 ≤ w3.heap.size := by have := g3.kept.size; simpa using this
  have HG : Hid (TkG d v v w w3) := (TkG.ofBelow hb).trans g3
  have H3 : Hid (TkM w0 w3 d v G ng ⟨fun s => if s = (a, (b, c)) then x else st.lk s, st.O, st.c + 1⟩) := h3
  have b0 : w3.cell? ⟨w.heap.size, 0, none⟩ = some (.int .i64 a) := by simp [World.cell?, hbox]
  have b1 : w3.cell? ⟨w.heap.size, 1, none⟩ = some (.int .i64 b) := by simp [World.cell?, hbox]
  have b2 : w3.cell? ⟨w.heap.size, 2, none⟩ = some (.int .i64 c) := by simp [World.cell?, hbox]
  clear h h1 h3 g3 hb hbox hq hx he
  go_enter Try.func53, Try.ntmps53
  go_wp2_with fail
  go_region
  all_goals
    go_wp2_with fail
    clear l1
    go_region
    go_wp2_with fail
    clear u3 c8 hor e1
    have h4 := H3.out.alloc (.cells #[.int .i64 a, .int .i64 b, .int .i64 c] 128)
    obtain ⟨oa, oc, hov⟩ := h4.own.slice (i := .op) rfl
    have hov' : v.ov = .slice oa st.O.length oc := hov
    have e9 := (H3.out.cell (i := 9) rfl (by omega)).1
    have f9 := (h4.cell (i := 9) rfl (by omega)).1
    rw [hov'] at e9 f9
    have own4 : ((w3.alloc (.cells #[.int .i64 a, .int .i64 b, .int .i64 c] 128)).drew).ownsRow w0.heap.size 128 3 (.slice oa st.O.length oc) st.O.length (st.O.flatMap tkS) := by
      have := h4.own.own .op _ rfl
      simp only [hov'] at this
      exact this
    have hma : d.ma < w3.heap.size := H3.out.maLt
    have hne : some d.ma ≠ (Value.slice oa st.O.length oc).ownBlock := fun e1 => h4.own.apart .ma .op _ _ (by simp) rfl rfl d.ma rfl (by show v.ov.ownBlock = _; rw [hov']; exact e1.symm)
    have f9f := (h4.cell (i := 9) rfl (by omega)).2
    have hn1 : st.O.length + 1 ≤ maxLen := by unfold maxLen; omega
    have hn2 : (st.O.length + 1) * 24 ≤ 140737488355328 := by omega
    have hB3 : w0.heap.size ≤ w3.heap.size := H3.out.le
    have H4 : Hid (TkM w0 (w3.alloc (.cells #[.int .i64 a, .int .i64 b, .int .i64 c] 128)).drew d v G ng ⟨fun s => if s = (a, (b, c)) then x else st.lk s, st.O, st.c + 1⟩) := h4.drew
    have HV : Hid (v.ov = .slice oa st.O.length oc) := hov'
    obtain ⟨i0, hi0, hz0, hz1, hz2⟩ := info_parts Try.infoSpo
    clear h4 hov hov' H3
    go_region_law
      ((refine step_append_lies _ (by rfl) _ _ _ (by rfl) w0.heap.size 128 i0 _ 3 24 Try.underlying93 hi0 hz0 hz1 hz2 rfl (by omega) (.slice oa st.O.length oc) st.O.length (st.O.flatMap tkS) (by rfl) own4
          ⟨w3.heap.size, 0, none⟩ 1 1 [.int .i64 a, .int .i64 b, .int .i64 c] (by rfl) (by rfl) (World.news_of_block (cs := #[.int .i64 a, .int .i64 b, .int .i64 c]) (t := 128) (fr := (0, 0)) (heap_alloc_new w3 _)) (by simp [Value.oneCell'])
          (by omega) hn1 hn2 (by simp; omega) (w3.heap.size + 1) (by simp) ?_; intro g cap w5 hown5 hgrow hat hlt; have c9' := (hgrow.cell_far ⟨d.ma, 9, none⟩ (by simp; omega) hne).trans f9; have f9' := (hgrow.frozen_far ⟨d.ma, 9, none⟩ (by simp; omega) hne).trans f9f))
    all_goals
      go_wp2_with fail
      go_end0
      have hat' : ∀ g', (Value.slice (some ⟨g, 0, none⟩) (st.O.length + 1) cap).ownBlock = some g' → v.ov.ownBlock = some g' ∨ g' = ((w3.alloc (.cells #[.int .i64 a, .int .i64 b, .int .i64 c] 128)).drew).heap.size := fun g' hg' => by
        obtain rfl : g = g' := by simpa [Value.ownBlock] using hg'
        rw [HV.out]
        rcases hat with h5 | h5
        · exact .inl h5
        · exact .inr (by simpa using h5)
      have r := H4.out.opTurn (O' := st.O ++ [(a, (b, c))]) (ov' := .slice (some ⟨g, 0, none⟩) (st.O.length + 1) cap) (by rw [HV.out]; exact hgrow) (by simpa [List.flatMap_append, tkS] using hown5) hat'
      exact ⟨rfl, _, r.1, (HG.out.trans (TkG.ofBelow (((Below.refl _ _).alloc (Nat.le_refl _) _).drew))).trans r.2⟩

theorem tk_give {w0 w : World} {d : TkA} {v : TkV} {G : Wy → Option Value} {ng : Nat} {st : LS} (h : TkM w0 w d v G ng st) {a b c m : Nat} (hs : SmallS (a, (b, c))) (hm : m < 512) (hl : st.lk (a, (b, c)) < 512) (hc : st.c ≤ 10000000) (hO : st.O.length ≤ 10000000) :
    Calls Try.prog 53 #[.pointer (some ⟨d.ma, 0, none⟩), .agg #[.int .i64 a, .int .i64 b, .int .i64 c], .int .u32 m] w fun r w' => r = .returned (.tuple #[]) ∧ ∃ ov', TkM w0 w' d { v with ov := ov' } G ng (giveF ((a, (b, c)), m) st) ∧ TkG d v { v with ov := ov' } w w' := by
  unfold giveF
  split
  · rename_i he
    exact (give_old h hs hm hl hc he).mono fun r w' ⟨h1, h2, h3⟩ => ⟨h1, v.ov, h2, h3⟩
  · rename_i he
    exact give_new h hs hm hl hc hO he

end Go.Proofs.Ytobegekmgoiopaa
