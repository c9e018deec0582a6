/- The contract of package table's findLooks. -/
import Derived.Test.YtobegekmgoiopaaTkLk
namespace Go.Proofs.Ytobegekmgoiopaa
open Go.RowKit

theorem getD_get {α : Type} {L : List α} {j : Nat} {d : α} (h : j < L.length) : L.getD j d = L[j] := by simp [List.getD, h]

/-- The spots of the states below k. -/
def spK (OL : List (List It)) (k : Nat) : List Spo := (List.range k).flatMap fun k => (OL.getD k []).map fun i => (k, i)
theorem spK_succ (OL : List (List It)) (k : Nat) : spK OL (k + 1) = spK OL k ++ (OL.getD k []).map fun i => (k, i) := by
  unfold spK
  rw [List.range_succ, List.flatMap_append]
  simp
theorem spK_len {OL : List (List It)} {n : Nat} (h : ∀ k, k < OL.length → (OL.getD k []).length ≤ n) : ∀ k, k ≤ OL.length → (spK OL k).length ≤ k * n := by
  intro k
  induction k with
  | zero => intro _; simp [spK]
  | succ k ih =>
    intro hk
    rw [spK_succ, List.length_append, List.length_map, Nat.add_mul]
    have := ih (by omega)
    have := h k (by omega)
    omega
theorem bits_len (OL : List (List It)) (T : Nat) : (bitsL OL T).length = (spotsL OL).length * (T + 1) := by
  unfold bitsL
  have : ∀ L : List Spo, (L.flatMap fun s => (List.range (T + 1)).map fun t => (s, t)).length = L.length * (T + 1) := by
    intro L
    induction L with
    | nil => simp
    | cons a L ih => rw [List.flatMap_cons, List.length_append, ih]; simp [Nat.add_mul]; omega
  exact this _

theorem lk_of_bits {T : Nat} (hT : T ≤ 8) {n : Nat} (h : ∀ t, n.testBit t = true → t ≤ T) : n < 512 :=
  Nat.lt_pow_two_of_testBit (n := 9) _ fun i hi => by
    cases hb : n.testBit i with
    | false => rfl
    | true => have := h i hb; omega

section
variable {w0 w : World} {d : TkA} {v : TkV} {G : Wy → Option Value} {ng : Nat} {st : LS}
/-- A spot more is to be looked at. -/
theorem TkM.pushO (h : TkM w0 w d v G ng st) {s : Spo} {w' : World} {oa : Option Addr} {oc g cap : Nat} (hv : v.ov = .slice oa st.O.length oc) (hown : w'.ownsRow w0.heap.size 128 3 (.slice (some ⟨g, 0, none⟩) (st.O.length + 1) cap) (st.O.length + 1) (st.O.flatMap tkS ++ tkS s)) (hg : w.grownBy w' (Value.slice oa st.O.length oc).ownBlock)
    (hat : (Value.slice oa st.O.length oc).ownBlock = some g ∨ g = w.heap.size) :
    TkM w0 (w'.setCell ⟨d.ma, 9, none⟩ (.slice (some ⟨g, 0, none⟩) (st.O.length + 1) cap)) d { v with ov := .slice (some ⟨g, 0, none⟩) (st.O.length + 1) cap } G ng { st with O := st.O ++ [s] } ∧ TkG d v { v with ov := .slice (some ⟨g, 0, none⟩) (st.O.length + 1) cap } w (w'.setCell ⟨d.ma, 9, none⟩ (.slice (some ⟨g, 0, none⟩) (st.O.length + 1) cap)) :=
  h.opTurn (O' := st.O ++ [s]) (by rw [hv]; exact hg) (by simpa [List.flatMap_append] using hown) (fun g' hg' => by
    obtain rfl : g = g' := by simpa [Value.ownBlock] using hg'
    rw [hv]
    exact hat)
end

theorem tk_look {w0 w : World} {d : TkA} {v : TkV} {NL : List (List Int)} {Ls : List SetI} {R : List Ru} {Nu : List Bool} {Fi : List (List Bool)} {ng : Nat} {st : LS} {k a b : Nat} (E : TkE w0 d R Nu Fi) (h : TkM w0 w d v (goM d.T NL) ng st) (p : LkPre d.T d.N R v.OL NL Ls st k a b ng) :
    Calls Try.prog 55 #[.pointer (some ⟨d.ma, 0, none⟩), .agg #[.int .i64 k, .int .i64 a, .int .i64 b]] w fun r w' => r = .returned (.tuple #[]) ∧ ∃ ov', TkM w0 w' d { v with ov := ov' } (goM d.T NL) ng (lookF d.T R NL Nu Fi (k, (a, b)) st) ∧ TkG d v { v with ov := ov' } w w' := by
  cases hn : (rightF R a)[b]? with
  | none =>
    have e : lookF d.T R NL Nu Fi (k, (a, b)) st = st := by unfold lookF givesL; simp only; rw [hn]; rfl
    rw [e]
    exact (look_none E h p hn).mono fun r w' ⟨h1, h2, h3⟩ => ⟨h1, v.ov, h2, h3⟩
  | some s => exact look_some E h p hn

/-- What is so where all is found. -/
structure LkEnd (T N : Nat) (R : List Ru) (OL : List (List It)) (NL : List (List Int)) (Ls : List SetI) (Nu : List Bool) (Fi : List (List Bool)) (st : LS) : Prop where
  inv : LkI T R OL NL Ls Nu Fi st
  none : st.O = []
  zero : (st.lk (0, (R.length, 0))).testBit T = true
  c : st.c ≤ 10000000
  lk : ∀ s, st.lk s < 512

set_option maxRecDepth 100000 in
set_option maxHeartbeats 6400000 in
theorem tk_findLooks {w0 w : World} {d : TkA} {v : TkV} {NL : List (List Int)} {Ls : List SetI} {R : List Ru} {Nu : List Bool} {Fi : List (List Bool)} {ng : Nat} (E : TkE w0 d R Nu Fi) (h : TkM w0 w d v (goM d.T NL) ng ⟨fun _ => 0, [], 0⟩) (A : AutD d.T d.N R v.OL NL Ls) (few : v.OL.length ≤ 150) (hng : ng ≤ 10000000) :
    Calls Try.prog 32 #[.pointer (some ⟨d.ma, 0, none⟩)] w fun r w' => r = .returned (.tuple #[]) ∧ ∃ ov' st', TkM w0 w' d { v with ov := ov' } (goM d.T NL) ng st' ∧ LkEnd d.T d.N R v.OL NL Ls Nu Fi st' ∧ TkG d v { v with ov := ov' } w w' := by
  have hlen : ∀ k, k < v.OL.length → (v.OL.getD k []).length ≤ 369 := fun k hk => by
    have := ok_len E.right8 (A.sok.rep k hk).nod (A.sok.ok k hk)
    have := E.hR
    omega
  have HLen : Hid (∀ k, k < v.OL.length → (v.OL.getD k []).length ≤ 369) := hlen
  have hsp := spK_len hlen
  have HSp : Hid (∀ k, k ≤ v.OL.length → (spK v.OL k).length ≤ k * 369) := hsp
  have HE : Hid (TkE w0 d R Nu Fi) := E
  have HA : Hid (AutD d.T d.N R v.OL NL Ls) := A
  have HM : Hid (TkM w0 w d v (goM d.T NL) ng ⟨fun _ => 0, [], 0⟩) := h
  have c6 := (h.cell (i := 6) rfl (by omega)).1
  obtain ⟨sa, sc, hsv⟩ := h.states
  rw [hsv] at c6
  have HSV : Hid (v.sv = .slice sa v.OL.length sc) := hsv
  clear E A h hlen hsp hsv
  go_enter Try.func32, Try.ntmps32
  go_wp2_with fail
  clear c6
  go_loopw [13] (fun s13 wr => ∃ (k : Nat) (ov : Value), s13 = .int .i64 k ∧ k ≤ v.OL.length ∧ TkM w0 wr d { v with ov := ov } (goM d.T NL) ng ⟨fun _ => 0, spK v.OL k, 0⟩ ∧ TkG d v { v with ov := ov } w wr) (fun s _ => v.OL.length - (intOf s).toNat)
  case atStart => exact ⟨0, v.ov, rfl, Nat.zero_le _, HM.out, TkG.refl _ _ _⟩
  case round =>
    obtain ⟨k, ov, rfl, hk, hM, hG⟩ := hrel
    have HMr : Hid (TkM w0 wr d { v with ov := ov } (goM d.T NL) ng ⟨fun _ => 0, spK v.OL k, 0⟩) := hM
    have HGr : Hid (TkG d v { v with ov := ov } w wr) := hG
    by_cases hlt : k < v.OL.length
    · obtain ⟨g, c, hv, _, q0⟩ := hM.state (k := k) hlt
      rw [show ({ v with ov := ov } : TkV).sv = v.sv from rfl, HSV.out] at hv
      simp only at hv q0
      cases hv
      obtain ⟨⟨ia, ic, hiv⟩, _⟩ := hM.items (k := k) hlt
      simp only at hiv
      rw [hiv] at q0
      have HIV : Hid (v.IV k = .slice ia (v.OL.getD k []).length ic) := hiv
      have hl3 := HLen.out k hlt
      have hsk := HSp.out k hk
      obtain ⟨n, hn⟩ : ∃ n, (v.OL.getD k []).length = n := ⟨_, rfl⟩
      rw [hn] at q0 HIV hl3
      have HN : Hid ((v.OL.getD k []).length = n) := hn
      have i0 : (0 : Int) ≤ (k : Int) := Int.natCast_nonneg _
      have i1 : (k : Int) < (v.OL.length : Int) := by omega
      clear hM hG hiv hn
      go_wp2_with fail
      clear q0
      go_loopw [20] (fun s20 wq => ∃ (j : Nat) (ov : Value), s20 = .int .i64 j ∧ j ≤ n ∧ TkM w0 wq d { v with ov := ov } (goM d.T NL) ng ⟨fun _ => 0, spK v.OL k ++ ((v.OL.getD k []).take j).map (fun i => (k, i)), 0⟩ ∧ TkG d v { v with ov := ov } w wq) (fun s _ => n - (intOf s).toNat)
      case atStart => exact ⟨0, ov, rfl, Nat.zero_le _, by simpa using HMr.out, HGr.out⟩
      case round =>
        clear HMr HGr
        obtain ⟨j, ov, rfl, hj, hM, hG⟩ := hrel
        have HGr : Hid (TkG d v { v with ov := ov } w wr) := hG
        have HMr : Hid (TkM w0 wr d { v with ov := ov } (goM d.T NL) ng ⟨fun _ => 0, spK v.OL k ++ ((v.OL.getD k []).take j).map (fun i => (k, i)), 0⟩) := hM
        by_cases hjl : j < n
        · obtain ⟨g', o', c', hve, _, q0, q1⟩ := (hM.items (k := k) hlt).2 j (by rw [show ({ v with ov := ov } : TkV).OL = v.OL from rfl, HN.out]; exact hjl)
          simp only at hve q0 q1
          rw [HIV.out, HN.out] at hve
          cases hve
          rw [← Nat.add_assoc] at q1
          have hlO : (spK v.OL k ++ ((v.OL.getD k []).take j).map (fun i => (k, i))).length ≤ 100000 := by
            rw [List.length_append, List.length_map, List.length_take]
            have := few
            have : k * 369 ≤ 150 * 369 := Nat.mul_le_mul_right _ (by omega)
            omega
          obtain ⟨it, hit⟩ : ∃ it, (v.OL.getD k []).getD j (0, 0) = it := ⟨_, rfl⟩
          rw [hit] at q0 q1
          have HT : Hid (((v.OL.getD k []).take (j + 1)).map (fun i => (k, i)) = ((v.OL.getD k []).take j).map (fun i => (k, i)) ++ [(k, it)]) := by
            show ((v.OL.getD k []).take (j + 1)).map _ = _
            have hj2 : j < (v.OL.getD k []).length := by rw [HN.out]; exact hjl
            have e : (v.OL.getD k [])[j] = it := by rw [← hit]; exact (getD_get hj2).symm
            rw [List.take_succ_eq_append_getElem hj2, List.map_append, e]
            rfl
          obtain ⟨P, hP⟩ : ∃ P, spK v.OL k ++ ((v.OL.getD k []).take j).map (fun i => (k, i)) = P := ⟨_, rfl⟩
          have HP : Hid (spK v.OL k ++ ((v.OL.getD k []).take j).map (fun i => (k, i)) = P) := hP
          rw [hP] at hM hlO
          obtain ⟨a, b⟩ := it
          simp only at q0 q1
          have hM1 := hM.alloc (.cells #[.int .i64 a, .int .i64 b] 121)
          have hX1 := hM.box #[.int .i64 a, .int .i64 b] 121
          obtain ⟨W1, hW1⟩ : ∃ W1, wr.alloc (.cells #[.int .i64 a, .int .i64 b] 121) = W1 := ⟨_, rfl⟩
          rw [hW1] at hM1 hX1
          have x0 := hX1.cell (i := 0) rfl
          have x1 := hX1.cell (i := 1) rfl
          have i2 : (0 : Int) ≤ (j : Int) := Int.natCast_nonneg _
          have i3 : (j : Int) < (n : Int) := by omega
          obtain ⟨oa, oc, hov⟩ := hM1.own.slice (i := .op) rfl
          have hov' : ov = .slice oa P.length oc := hov
          subst hov'
          have h4 := hM1.alloc (.cells #[.int .i64 k, .int .i64 a, .int .i64 b] 128)
          have e9 := (hM1.cell (i := 9) rfl (by omega)).1
          have f9 := (h4.cell (i := 9) rfl (by omega)).1
          have own4 : ((W1.alloc (.cells #[.int .i64 k, .int .i64 a, .int .i64 b] 128)).drew).ownsRow w0.heap.size 128 3 (.slice oa P.length oc) P.length (P.flatMap tkS) := h4.own.own .op _ rfl
          have hma : d.ma < W1.heap.size := hM1.maLt
          have hne : some d.ma ≠ (Value.slice oa P.length oc).ownBlock := fun e1 => h4.own.apart .ma .op _ _ (by simp) rfl rfl d.ma rfl e1.symm
          have f9f := (h4.cell (i := 9) rfl (by omega)).2
          have hn1 : P.length + 1 ≤ maxLen := by unfold maxLen; omega
          have hn2 : (P.length + 1) * 24 ≤ 140737488355328 := by omega
          have hB3 : w0.heap.size ≤ W1.heap.size := hM1.le
          have H4 : Hid (TkM w0 (W1.alloc (.cells #[.int .i64 k, .int .i64 a, .int .i64 b] 128)).drew d { v with ov := .slice oa P.length oc } (goM d.T NL) ng ⟨fun _ => 0, P, 0⟩) := h4.drew
          have HG4 : Hid (TkG d v { v with ov := .slice oa P.length oc } w (W1.alloc (.cells #[.int .i64 k, .int .i64 a, .int .i64 b] 128)).drew) := by
            show TkG _ _ _ _ _
            rw [← hW1]
            exact ((HGr.out.alloc _).alloc _).drew
          have HS1 : Hid (W1.heap.size = wr.heap.size + 1) := by show W1.heap.size = _; rw [← hW1]; simp
          obtain ⟨i5, hi0, hz0, hz1, hz2⟩ := info_parts Try.infoSpo
          clear hM hG hM1 hX1 h4 hov hP hit
          go_wp2_with fail
          clear hW1
          go_region_law
            ((refine step_append_lies _ (by rfl) _ _ _ (by rfl) w0.heap.size 128 i5 _ 3 24 Try.underlying93 hi0 hz0 hz1 hz2 rfl (by omega) (.slice oa P.length oc) P.length (P.flatMap tkS) (by rfl) own4
                ⟨W1.heap.size, 0, none⟩ 1 1 [.int .i64 k, .int .i64 a, .int .i64 b] (by rfl) (by rfl) (World.news_of_block (cs := #[.int .i64 k, .int .i64 a, .int .i64 b]) (t := 128) (fr := (0, 0)) (heap_alloc_new W1 _)) (by simp [Value.oneCell'])
                (by omega) hn1 hn2 (by simp; omega) (W1.heap.size + 1) (by simp) ?_; intro g5 cap5 w5 hown5 hgrow hat hlt5; have c9' := (hgrow.cell_far ⟨d.ma, 9, none⟩ (by simp; omega) hne).trans f9; have f9' := (hgrow.frozen_far ⟨d.ma, 9, none⟩ (by simp; omega) hne).trans f9f))
          all_goals
            go_wp2_with fail
            go_roundw
            case rel =>
              have r := H4.out.pushO (s := (k, (a, b))) rfl hown5 hgrow (by simpa using hat)
              exact ⟨j + 1, _, by go_num, by omega, by rw [HT.out, ← List.append_assoc, HP.out]; exact r.1, HG4.out.trans r.2⟩
            case measure => simp [intOf]; omega
        · obtain rfl : j = n := by omega
          rw [← HN.out, List.take_length, ← spK_succ] at hM
          have HMe : Hid (TkM w0 wr d { v with ov := ov } (goM d.T NL) ng ⟨fun _ => 0, spK v.OL (k + 1), 0⟩) := hM
          clear hM hG
          go_wp2_with fail
          go_roundw
          case rel => exact ⟨k + 1, ov, by go_num, by omega, HMe.out, HGr.out⟩
          case measure => simp [intOf]; omega
    · obtain rfl : k = v.OL.length := by omega
      obtain ⟨st0, hst0⟩ : ∃ st0, (⟨fun _ => 0, spK v.OL v.OL.length, 0⟩ : LS) = st0 := ⟨_, rfl⟩
      rw [hst0] at hM
      have hT := HE.out.hT
      have hpow : 2 ^ d.T < 512 := Nat.lt_of_le_of_lt (Nat.pow_le_pow_right (by omega) hT) (by decide)
      have hlO : st0.O.length ≤ 100000 ∧ st0.c = 0 ∧ ∀ s, st0.lk s = 0 := by
        rw [← hst0]
        have := HSp.out v.OL.length (Nat.le_refl _)
        have : v.OL.length * 369 ≤ 150 * 369 := Nat.mul_le_mul_right _ few
        exact ⟨by simp only; omega, rfl, fun _ => rfl⟩
      have hI0 : LkI d.T R v.OL NL Ls Nu Fi st0 := by rw [← hst0]; exact lki_start v.OL
      have hphi0 : phiL v.OL d.T st0 ≤ 2000000 := by
        unfold phiL leftL
        have h1 := List.length_filter_le (fun q : Spo × Nat => !(st0.lk q.1).testBit q.2) (bitsL v.OL d.T)
        rw [bits_len] at h1
        have h2 : (spotsL v.OL).length = st0.O.length := by rw [← hst0]; rfl
        have h3 := hlO.1
        have h4 : (spotsL v.OL).length * (d.T + 1) ≤ 100000 * 9 := Nat.mul_le_mul (by omega) (by omega)
        have h5 := hlO.2.1
        have h6 := HSp.out v.OL.length (Nat.le_refl _)
        have h7 : v.OL.length * 369 ≤ 150 * 369 := Nat.mul_le_mul_right _ few
        have h8 : (spotsL v.OL).length ≤ 55350 := by rw [h2, ← hst0]; simp only; omega
        have h9 : (spotsL v.OL).length * (d.T + 1) ≤ 55350 * 9 := Nat.mul_le_mul h8 (by omega)
        omega
      have hA0 : AutoG wr.drew w0.heap.size d.ma d.T d.N d.rv R := hM.drew.auto HE.out
      have abv := tk_above hA0
      have one := tk_one (w := wr.drew) (n := d.T) hT
      obtain ⟨pw, hpw⟩ : ∃ pw, 2 ^ d.T = pw := ⟨_, rfl⟩
      rw [hpw] at one hpow
      have giv := tk_give hM.drew (a := 0) (b := R.length) (c := 0) (m := pw) ⟨Nat.zero_le _, by have := HE.out.hR; simp only; omega, Nat.zero_le _⟩ hpow (by rw [hlO.2.2]; omega) (by rw [hlO.2.1]; omega) (by omega)
      have a0 := hA0.t
      have ok1 : OkG d.T R Nu Fi NL Ls v.OL ((0, (R.length, 0)), pw) := ⟨HA.out.zero, fun t ht => by
        rw [← hpw, Nat.testBit_two_pow] at ht
        have : t = d.T := by simpa using (of_decide_eq_true ht).symm
        subst this
        exact ⟨Nat.le_refl _, LookP.start⟩⟩
      have HI1 : Hid (LkI d.T R v.OL NL Ls Nu Fi (giveF ((0, (R.length, 0)), pw) st0)) := hI0.give ok1
      have HZ1 : Hid (((giveF ((0, (R.length, 0)), pw) st0).lk (0, (R.length, 0))).testBit d.T = true) := by
        show ((giveF ((0, (R.length, 0)), pw) st0).lk (0, (R.length, 0))).testBit d.T = true
        have hb : pw.testBit d.T = true := by rw [← hpw, Nat.testBit_two_pow]; simp
        unfold giveF
        split
        · rename_i he
          exact or_bit he hb
        · simp [Nat.testBit_or, hb]
      have HP1 : Hid (phiL v.OL d.T (giveF ((0, (R.length, 0)), pw) st0) ≤ 2000000) := Nat.le_trans (give_left ⟨ok1.1, fun t ht => (ok1.2 t ht).1⟩) hphi0
      have hz : ((0 : Nat) : Int) = 0 := rfl
      rw [hz] at giv
      clear hM hG hst0 hA0 hI0 hphi0 ok1 hpw hlO hz
      go_wp2_with fail
      go_cut [] from 38 (fun wx => ∃ ov', TkM w0 wx d { v with ov := ov' } (goM d.T NL) ng (giveF ((0, (R.length, 0)), pw) st0) ∧ TkG d v { v with ov := ov' } w wx)
      case first =>
        go_region_held3 (fun wx => wx.cell? ⟨d.ma, 0, none⟩ = some (.int .i64 d.T)) (first | assumption | go_keep)
          (first
           | (go_at_call 50; refine abv.mono ?_; rintro e w5 ⟨rfl, rfl⟩)
           | (go_at_call 54; refine one.mono ?_; rintro e w5 ⟨rfl, rfl⟩)
           | (go_at_call 53; refine giv.mono ?_; rintro e w6 ⟨rfl, ov', hM6, hG6⟩
              have a06 := (hM6.cell (i := 0) rfl (by omega)).1
              have HM6 : Hid (TkM w0 w6 d { v with ov := ov' } (goM d.T NL) ng (giveF ((0, (R.length, 0)), pw) st0) ∧ TkG d v { v with ov := ov' } w w6) := ⟨hM6, HGr.out.drew.trans hG6⟩
              clear hM6 hG6))
        all_goals
          go_wp2_with fail
          go_meet
          case rel => exact ⟨ov', HM6.out.1, HM6.out.2⟩
      case rest =>
        obtain ⟨ov1, hM, hG⟩ := hcut
        obtain ⟨st1, hst1⟩ : ∃ st1, giveF ((0, (R.length, 0)), pw) st0 = st1 := ⟨_, rfl⟩
        rw [hst1] at hM HI1 HZ1 HP1
        have HM1 : Hid (TkM w0 wc d { v with ov := ov1 } (goM d.T NL) ng st1) := hM
        have HG1 : Hid (TkG d v { v with ov := ov1 } w wc) := hG
        clear hM hG hst1 abv one giv a0 HMr HGr
        go_wp2_with fail
        go_loopg [] (phiL v.OL d.T st1) (fun gk wq => ∃ ov st, gk = phiL v.OL d.T st ∧ TkM w0 wq d { v with ov := ov } (goM d.T NL) ng st ∧ LkI d.T R v.OL NL Ls Nu Fi st ∧ (st.lk (0, (R.length, 0))).testBit d.T = true ∧ phiL v.OL d.T st ≤ 2000000 ∧ TkG d v { v with ov := ov } w wq)
        case atStart => exact ⟨ov1, st1, rfl, HM1.out, HI1.out, HZ1.out, HP1.out, HG1.out⟩
        case round =>
          clear HM1 HG1 HI1 HZ1 HP1
          obtain ⟨ov, ⟨lk, OO, cc⟩, hgk, hM, hI, hZ, hP, hG⟩ := hrel
          have hfr := hM.cell (i := 9) rfl (by omega)
          have hlk : ∀ s, lk s < 512 := fun s => lk_of_bits hT fun t ht => (hI.snd s t ht).2.1
          have hcO : cc ≤ 2000000 ∧ OO.length ≤ 2000000 := by unfold phiL at hP; simp only at hP; omega
          have HGr : Hid (TkG d v { v with ov := ov } w wr) := hG
          have HGK : Hid (gk = phiL v.OL d.T ⟨lk, OO, cc⟩) := hgk
          rcases List.eq_nil_or_concat OO with hO | ⟨O, p, hO⟩
          · subst hO
            obtain ⟨oa, oc, hov⟩ := hM.own.slice (i := .op) rfl
            simp only [List.length_nil] at hov
            subst hov
            have c9 := hfr.1
            have HF : Hid (TkM w0 wr d { v with ov := .slice oa 0 oc } (goM d.T NL) ng ⟨lk, [], cc⟩ ∧ LkEnd d.T d.N R v.OL NL Ls Nu Fi ⟨lk, [], cc⟩) := ⟨hM, hI, rfl, hZ, by simp only; omega, hlk⟩
            clear hM hI hZ hP hG hgk hfr hlk
            go_wp2_with fail
            go_end0
            exact ⟨rfl, _, _, HF.out.1, HF.out.2, HGr.out⟩
          · rw [List.concat_eq_append] at hO
            subst hO
            obtain ⟨g, cap, hgv, _, hglt⟩ := hM.own.form (i := .op) rfl (by simp)
            simp only [List.length_append, List.length_cons, List.length_nil, Nat.zero_add] at hgv
            subst hgv
            have ho := hM.own.own .op _ rfl
            simp only at ho
            have hl1 : (O ++ [p]).length = O.length + 1 := by simp
            rw [hl1] at ho
            have q : ∀ i, i < 3 → wr.cell? ⟨g, O.length * 3 + i, none⟩ = (tkS p)[i]? := fun i hi => by
              rw [ho.cellAt (O.length * 3 + i) (by omega), tkS_get (by simp) hi]
              simp [List.getD]
            have hcap : O.length + 1 ≤ cap := by
              rcases ho.2 with ⟨e, _⟩ | ⟨g', cap', cur, e, _, _, h4, _⟩
              · cases e
              · injection e with _ _ e3
                omega
            obtain ⟨pm, pg⟩ := hM.pop (O := O) (p := p) rfl rfl
            obtain ⟨k, a, b⟩ := p
            have q0 := q 0 (by omega)
            have q1 := q 1 (by omega)
            have q2 := q 2 (by omega)
            simp only [tkS, Nat.add_zero] at q0 q1 q2
            have q0' : wr.cell? ⟨g, O.length * 3, none⟩ = some (.int .i64 k) := q0
            have q1' : wr.cell? ⟨g, O.length * 3 + 1, none⟩ = some (.int .i64 a) := q1
            have q2' : wr.cell? ⟨g, O.length * 3 + 2, none⟩ = some (.int .i64 b) := q2
            have pm1 := pm.alloc (.cells #[.int .i64 k, .int .i64 a, .int .i64 b] 128)
            have hOl : O.length ≤ 2000000 := by have := hcO.2; simp only [List.length_append, List.length_cons, List.length_nil] at this; omega
            have lkc := tk_look HE.out pm1 (k := k) (a := a) (b := b) ⟨HA.out, hI.opn _ (by simp), hlk, few, hng, by simp only; omega, by simp only; omega⟩
            have HN : Hid (LkI d.T R v.OL NL Ls Nu Fi (lookF d.T R NL Nu Fi (k, (a, b)) ⟨lk, O, cc⟩)) := hI.look HA.out (fun n => by
              by_cases hn : n < d.N
              · rw [HE.out.frow n hn]; exact Nat.le_refl _
              · rw [List.getD, List.getElem?_eq_none (by rw [HE.out.flen]; omega)]; simp)
            have HLf : Hid (phiL v.OL d.T (lookF d.T R NL Nu Fi (k, (a, b)) ⟨lk, O, cc⟩) < phiL v.OL d.T ⟨lk, O ++ [(k, (a, b))], cc⟩) := look_left HA.out (fun n => by
              by_cases hn : n < d.N
              · rw [HE.out.frow n hn]; exact Nat.le_refl _
              · rw [List.getD, List.getElem?_eq_none (by rw [HE.out.flen]; omega)]; simp) hI
            have HZn : Hid (((lookF d.T R NL Nu Fi (k, (a, b)) ⟨lk, O, cc⟩).lk (0, (R.length, 0))).testBit d.T = true) := gives_mono _ _ hZ
            have HPg : Hid (TkG d { v with ov := .slice (some ⟨g, 0, none⟩) (O.length + 1) cap } { v with ov := .slice (some ⟨g, 0, none⟩) O.length cap } wr ((wr.setCell ⟨d.ma, 9, none⟩ (.slice (some ⟨g, 0, none⟩) O.length cap)).alloc (.cells #[.int .i64 k, .int .i64 a, .int .i64 b] 128))) := pg.alloc _
            have HPP : Hid (phiL v.OL d.T ⟨lk, O ++ [(k, (a, b))], cc⟩ ≤ 2000000) := hP
            have c9 := hfr.1
            have f9 := hfr.2
            have hma : d.ma < wr.heap.size := hM.maLt
            have i0 : (0 : Int) ≤ (O.length : Int) := Int.natCast_nonneg _
            have i1 : (O.length : Int) < (O.length : Int) + 1 := by omega
            have i2 : (O.length : Int) ≤ (cap : Int) := by omega
            clear hM hI hZ hP hG hgk hfr hlk hl1 ho q q0 q1 q2 pm pg pm1 hcO hglt
            go_wp2_with (go_at_call 55; refine lkc.mono ?_; rintro r w1 ⟨rfl, ov', h3, h4⟩)
            go_roundg (phiL v.OL d.T (lookF d.T R NL Nu Fi (k, (a, b)) ⟨lk, O, cc⟩))
            case measure => rw [HGK.out]; exact HLf.out
            case rel => exact ⟨ov', _, rfl, h3, HN.out, HZn.out, Nat.le_trans (Nat.le_of_lt HLf.out) HPP.out, (HGr.out.trans HPg.out).trans h4⟩

end Go.Proofs.Ytobegekmgoiopaa
