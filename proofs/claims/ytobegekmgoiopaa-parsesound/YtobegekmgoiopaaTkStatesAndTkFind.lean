import Derived.Test.YtobegekmgoiopaaTkClosed
/- The contracts of package table's symbols, begin, stateOf (with slices.Equal, slices.IndexFunc). -/
namespace Go.Proofs.Ytobegekmgoiopaa
open Go.RowKit

/-! ### slices.Equal of items -/

set_option maxRecDepth 100000 in
set_option maxHeartbeats 3200000 in
theorem tk_equal {w : World} {av bv : Value} {A B : List It} {la lb : Nat} (hA : ItemsAt w la av A) (hB : ItemsAt w lb bv B) (hl : A.length ≤ 1000 ∧ B.length ≤ 1000) :
    Calls Try.prog 63 #[av, bv] w fun e w' => e = .returned (.bool (decide (A = B))) ∧ Below w.heap.size w w' := by
  obtain ⟨aa, ac, hav⟩ := hA.1
  obtain ⟨ba, bc, hbv⟩ := hB.1
  subst hav
  subst hbv
  by_cases hne : A.length = B.length
  · have e1 : ((A.length : Int) != (B.length : Int)) = false := by simp; omega
    have HA : Hid (ItemsAt w la (.slice aa A.length ac) A) := hA
    have HB : Hid (ItemsAt w lb (.slice ba B.length bc) B) := hB
    have HL : Hid (A.length = B.length) := hne
    clear hA hB hne
    go_enter Try.func63, Try.ntmps63
    go_wp2_with fail
    go_loopw [13] (fun s wr => ∃ k m : Nat, s = .int .i64 k ∧ k ≤ A.length ∧ wr = w.drewN m ∧ ∀ j, j < k → A.getD j (0, 0) = B.getD j (0, 0)) (fun s _ => A.length - (intOf s).toNat)
    case atStart => exact ⟨0, 0, rfl, Nat.zero_le _, rfl, fun j hj => absurd hj (Nat.not_lt_zero _)⟩
    case round =>
      obtain ⟨k, m, rfl, hk, rfl, hno⟩ := hrel
      have HNo : Hid (∀ j, j < k → A.getD j (0, 0) = B.getD j (0, 0)) := hno
      clear hno
      by_cases hlt : k < A.length
      · obtain ⟨b, o, c, hv, _, k3, k4⟩ := HA.out.2 k hlt
        cases hv
        obtain ⟨b', o', c', hv', _, k5, k6⟩ := HB.out.2 k (by rw [← HL.out]; exact hlt)
        cases hv'
        rw [← Nat.add_assoc] at k4 k6
        obtain ⟨⟨p, q⟩, hpq⟩ : ∃ z, A.getD k (0, 0) = z := ⟨_, rfl⟩
        obtain ⟨⟨x, y⟩, hxy⟩ : ∃ z, B.getD k (0, 0) = z := ⟨_, rfl⟩
        rw [hpq] at k3 k4
        rw [hxy] at k5 k6
        simp only at k3 k4 k5 k6
        have HPQ : Hid (A.getD k (0, 0) = (p, q) ∧ B.getD k (0, 0) = (x, y)) := ⟨hpq, hxy⟩
        have i0 : (0 : Int) ≤ (k : Int) := Int.natCast_nonneg _
        have i1 : (k : Int) < (A.length : Int) := by omega
        have i2 : (k : Int) < (B.length : Int) := by rw [← HL.out]; omega
        clear hpq hxy
        by_cases he : p = x ∧ q = y
        · obtain ⟨rfl, rfl⟩ := he
          have HNo2 : Hid (∀ j, j < k + 1 → A.getD j (0, 0) = B.getD j (0, 0)) := fun j hj => by
            rcases Nat.lt_succ_iff_lt_or_eq.1 hj with hj | rfl
            · exact HNo.out j hj
            · rw [HPQ.out.1, HPQ.out.2]
          go_wp2_with fail
          go_big_quiet (fail)
          go_wp2_with fail
          go_roundw
          case rel => exact ⟨k + 1, _, by go_num, by omega, rfl, HNo2.out⟩
          case measure => simp [intOf]; omega
        · have HD : Hid (decide (A = B) = false) := decide_eq_false fun e => by
            have h1 := HPQ.out.1
            rw [e, HPQ.out.2] at h1
            cases h1
            exact he ⟨rfl, rfl⟩
          by_cases hp : p = x
          · subst hp
            have hq : ¬ q = y := fun e => he ⟨rfl, e⟩
            have e1 : ((q : Int) == (y : Int)) = false := by simp; omega
            have e2 : ((p : Int) == (p : Int)) = true := by simp
            clear he
            go_wp2_with fail
            go_big_quiet (fail)
            go_wp2_with fail
            go_ret
            exact ⟨by rw [HD.out]; rfl, below_drewN (below_drewN (Below.refl _ _) _) _⟩
          · have e1 : ((p : Int) == (x : Int)) = false := by simp; omega
            clear he
            go_wp2_with fail
            go_big_quiet (fail)
            go_wp2_with fail
            go_ret
            exact ⟨by rw [HD.out]; rfl, below_drewN (below_drewN (Below.refl _ _) _) _⟩
      · have HD : Hid (decide (A = B) = true) := decide_eq_true (by
          refine List.ext_getElem HL.out fun j h1 h2 => ?_
          have := HNo.out j (by omega)
          rwa [getD_get h1, getD_get h2] at this)
        go_wp2_with fail
        go_ret
        exact ⟨by rw [HD.out]; rfl, below_drewN (Below.refl _ _) _⟩
  · have e1 : ((A.length : Int) != (B.length : Int)) = true := by simp; omega
    have HD : Hid (decide (A = B) = false) := decide_eq_false fun e => hne (by rw [e])
    clear hA hB hne
    go_enter Try.func63, Try.ntmps63
    go_wp2_with fail
    go_ret
    exact ⟨by rw [HD.out]; rfl, Below.refl _ _⟩

/-! ### slices.IndexFunc of lists of items -/

set_option maxRecDepth 100000 in
theorem tk_isIt {w : World} {ib : Nat} {av cv : Value} {A C : List It} {la lc : Nat} (hA : ItemsAt w la av A) (hC : ItemsAt w lc cv C) (hi : w.cell? ⟨ib, 0, none⟩ = some cv) (hl : A.length ≤ 1000 ∧ C.length ≤ 1000) :
    Calls Try.prog 62 #[av, .pointer (some ⟨ib, 0, none⟩)] w fun e w' => e = .returned (.bool (decide (A = C))) ∧ Below w.heap.size w w' := by
  have eq := tk_equal hA hC hl
  obtain ⟨ca, cc, hcv⟩ := hC.1
  obtain ⟨aa, ac, hav⟩ := hA.1
  subst hcv
  subst hav
  clear hA hC
  go_enter Try.func62, Try.ntmps62
  go_wp2_with (go_at_call 63; refine eq.mono ?_; rintro e w1 ⟨rfl, hB⟩)
  go_ret
  exact ⟨rfl, hB⟩

/-- The lists that lie at a slice of slices. -/
structure ListsAt (w : World) (sv : Value) (IV : Nat → Value) (OL : List (List It)) : Prop where
  slice : ∃ a c, sv = .slice a OL.length c
  cell : ∀ k, k < OL.length → ∃ g c, sv = .slice (some ⟨g, 0, none⟩) OL.length c ∧ w.cell? ⟨g, k, none⟩ = some (IV k)
  items : ∀ k, k < OL.length → ItemsAt w w.heap.size (IV k) (OL.getD k [])
theorem ListsAt.below {w w' : World} {sv : Value} {IV : Nat → Value} {OL : List (List It)} (h : ListsAt w sv IV OL) (hb : Below w.heap.size w w') : ListsAt w' sv IV OL :=
  ⟨h.slice, fun k hk => let ⟨g, c, h1, h2⟩ := h.cell k hk; ⟨g, c, h1, (hb.cell (World.block_lt_of_cell? _ _ h2)).trans h2⟩, fun k hk => ((h.items k hk).below hb).mono hb.size⟩
theorem TkM.lists {w0 w : World} {d : TkA} {v : TkV} {G : Wy → Option Value} {ng : Nat} {st : LS} (h : TkM w0 w d v G ng st) : ListsAt w v.sv v.IV v.OL :=
  ⟨h.states, fun _ hk => let ⟨g, c, h1, _, h2⟩ := h.state hk; ⟨g, c, h1, h2⟩, fun _ hk => h.items hk⟩

set_option maxRecDepth 100000 in
set_option maxHeartbeats 1600000 in
theorem tk_index {w : World} {sv cv : Value} {IV : Nat → Value} {OL : List (List It)} {C : List It} {ib : Nat} (hL : ListsAt w sv IV OL) (hC : ItemsAt w w.heap.size cv C) (hi : w.cell? ⟨ib, 0, none⟩ = some cv) (hl : OL.length ≤ 1000) (hO : ∀ k, k < OL.length → (OL.getD k []).length ≤ 1000) (hCl : C.length ≤ 1000) :
    Calls Try.prog 64 #[sv, .func (.func 62) #[] #[.pointer (some ⟨ib, 0, none⟩)]] w fun e w' => (∃ z : Int, e = .returned (.int .i64 z) ∧ ((z = -1 ∧ ∀ j, j < OL.length → OL.getD j [] ≠ C) ∨ ∃ n : Nat, z = n ∧ n < OL.length ∧ OL.getD n [] = C)) ∧ Below w.heap.size w w' := by
  obtain ⟨sa, sc, hsv⟩ := hL.slice
  subst hsv
  have HL : Hid (ListsAt w (.slice sa OL.length sc) IV OL) := hL
  have HC : Hid (ItemsAt w w.heap.size cv C) := hC
  have HO : Hid (∀ k, k < OL.length → (OL.getD k []).length ≤ 1000) := hO
  have HI : Hid (w.cell? ⟨ib, 0, none⟩ = some cv) := hi
  clear hL hC hO hi
  go_enter Try.func64, Try.ntmps64
  go_wp2_with fail
  go_loopw [8] (fun s wr => ∃ k : Nat, s = .int .i64 k ∧ k ≤ OL.length ∧ Below w.heap.size w wr ∧ ∀ j, j < k → OL.getD j [] ≠ C) (fun s _ => OL.length - (intOf s).toNat)
  case atStart => exact ⟨0, rfl, Nat.zero_le _, Below.refl _ _, fun j hj => absurd hj (Nat.not_lt_zero _)⟩
  case round =>
    obtain ⟨k, rfl, hk, hB, hno⟩ := hrel
    have HB : Hid (Below w.heap.size w wr) := hB
    have HNo : Hid (∀ j, j < k → OL.getD j [] ≠ C) := hno
    by_cases hlt : k < OL.length
    · have hLr := HL.out.below hB
      obtain ⟨g, c, hv, q0⟩ := hLr.cell k hlt
      cases hv
      have hit := hLr.items k hlt
      have isit := tk_isIt (ib := ib) hit (HC.out.below hB) ((hB.cell (World.block_lt_of_cell? _ _ HI.out)).trans HI.out) ⟨HO.out k hlt, hCl⟩
      obtain ⟨ia, ic, hiv⟩ := hit.1
      rw [hiv] at q0 isit
      have i0 : (0 : Int) ≤ (k : Int) := Int.natCast_nonneg _
      have i1 : (k : Int) < (OL.length : Int) := by omega
      obtain ⟨n, hn⟩ : ∃ n, (OL.getD k []).length = n := ⟨_, rfl⟩
      rw [hn] at q0 isit
      clear hB hno hLr hit hiv hn
      by_cases he : OL.getD k [] = C
      · rw [decide_eq_true he] at isit
        have HE : Hid (OL.getD k [] = C) := he
        clear he
        go_wp2_with (go_at_call 62; refine isit.mono ?_; rintro e w1 ⟨rfl, hB1⟩)
        go_ret
        exact ⟨⟨k, rfl, .inr ⟨k, rfl, hlt, HE.out⟩⟩, HB.out.trans (hB1.mono HB.out.size)⟩
      · rw [decide_eq_false he] at isit
        have HE : Hid (∀ j, j < k + 1 → OL.getD j [] ≠ C) := fun j hj => by
          rcases Nat.lt_succ_iff_lt_or_eq.1 hj with hj | rfl
          · exact HNo.out j hj
          · exact he
        clear he
        go_wp2_with (go_at_call 62; refine isit.mono ?_; rintro e w1 ⟨rfl, hB1⟩)
        go_roundw
        case rel => exact ⟨k + 1, by go_num, by omega, HB.out.trans (hB1.mono HB.out.size), HE.out⟩
        case measure => simp [intOf]; omega
    · clear hB hno
      go_wp2_with fail
      go_ret
      exact ⟨⟨-1, rfl, .inl ⟨rfl, fun j hj => HNo.out j (by omega)⟩⟩, HB.out⟩

/-! ### stateOf -/

/-- A list of items that can be closed. -/
structure Begin (R : List Ru) (l : List It) : Prop where
  nod : l.Nodup
  pos : 0 < l.length
  few : l.length ≤ 500
  ok : ∀ x ∈ l, OkIt R x
  zero : ∀ x ∈ l, x.2 = 0 → x.1 = R.length

set_option maxRecDepth 100000 in
set_option maxHeartbeats 6400000 in
theorem tk_stateOf {w0 w : World} {d : TkA} {v : TkV} {G : Wy → Option Value} {ng : Nat} {st : LS} {R : List Ru} {Nu : List Bool} {Fi : List (List Bool)} {bv : Value} {l : List It} (E : TkE w0 d R Nu Fi) (h : TkM w0 w d v G ng st) (hI : ItemsAt w w.heap.size bv l) (hl : Begin R l) (few : v.OL.length ≤ 150) (hO : ∀ k, k < v.OL.length → (v.OL.getD k []).length ≤ 1000) :
    Calls Try.prog 49 #[.pointer (some ⟨d.ma, 0, none⟩), bv] w fun e w' => ∃ (n : Nat) (v' : TkV) (C : List It), e = .returned (.int .i64 n) ∧ C.Pairwise ltI ∧ (∀ i, i ∈ C ↔ Cl R (· ∈ l) i) ∧ StTo v.OL C n v'.OL ∧ v'.ov = v.ov ∧ TkM w0 w' d v' G ng st ∧ TkG d v v' w w' := by
  have clo := tk_closed (h.auto E) hI hl.nod hl.pos hl.few hl.ok hl.zero E.hR (fun r hr s hs he => (E.sym r hr s hs).2 he) E.hN.2
  have HM : Hid (TkM w0 w d v G ng st) := h
  have HO : Hid (∀ k, k < v.OL.length → (v.OL.getD k []).length ≤ 1000) := hO
  have HE : Hid (TkE w0 d R Nu Fi) := E
  obtain ⟨ba, bc, hbv⟩ := hI.1
  subst hbv
  clear h hI hl hO E
  go_enter Try.func49, Try.ntmps49
  go_wp2_with
    (first
     | (go_at_call 61; refine clo.mono ?_; rintro e w1 ⟨g, cap, C, rfl, hrow, hCs, hCm, hCl, hB1⟩
        have HC : Hid (w1.ownsRow w.heap.size 121 2 (.slice (some ⟨g, 0, none⟩) C.length cap) C.length (C.flatMap tkI) ∧ C.Pairwise ltI ∧ (∀ i, i ∈ C ↔ Cl R (· ∈ l) i) ∧ Below w.heap.size w w1) := ⟨hrow, hCs, hCm, hB1⟩
        have hM1 := HM.out.below hB1
        have hM2 := hM1.alloc (.cells #[.slice (some ⟨g, 0, none⟩) C.length cap] 122)
        have hX2 := hM1.box #[.slice (some ⟨g, 0, none⟩) C.length cap] 122
        have hi2 := tk_items (hrow.alloc (.cells #[.slice (some ⟨g, 0, none⟩) C.length cap] 122)) rfl
        have idx := tk_index hM2.lists hi2 (hX2.cell (i := 0) rfl) (by omega) HO.out (by omega)
        have c6 := (hM2.cell (i := 6) rfl (by omega)).1
        obtain ⟨sa, sc, hsv⟩ := hM2.states
        rw [hsv] at c6 idx
        have HSV : Hid (v.sv = .slice sa v.OL.length sc) := hsv
        have HM2 : Hid (TkM w0 (w1.alloc (.cells #[.slice (some ⟨g, 0, none⟩) C.length cap] 122)) d v G ng st) := hM2
        have HX2 : Hid (TkL (w1.alloc (.cells #[.slice (some ⟨g, 0, none⟩) C.length cap] 122)) d v w1.heap.size #[.slice (some ⟨g, 0, none⟩) C.length cap] 122) := hX2
        clear hrow hCs hCm hB1 hM1 hM2 hX2 hi2 hsv clo)
     | (go_at_call 64; refine idx.mono ?_; rintro e w3 ⟨⟨z, rfl, hz⟩, hB3⟩
        have HM3 : Hid (TkM w0 w3 d v G ng st) := HM2.out.below hB3
        have HX3 : Hid (TkL w3 d v w1.heap.size #[.slice (some ⟨g, 0, none⟩) C.length cap] 122) := HX2.out.below hB3
        have HB3 : Hid (Below w.heap.size w w3) := (HC.out.2.2.2.alloc HC.out.2.2.2.size _).trans (hB3.mono (by have := HC.out.2.2.2.size; simp; omega))
        have HC3 : Hid (w3.ownsRow w.heap.size 121 2 (.slice (some ⟨g, 0, none⟩) C.length cap) C.length (C.flatMap tkI)) := own_below (HC.out.1.alloc _) hB3 (fun k hk => ((HC.out.1.alloc _).lt k hk).2)
        have HZ : Hid ((z = -1 ∧ ∀ j, j < v.OL.length → v.OL.getD j [] ≠ C) ∨ ∃ n : Nat, z = n ∧ n < v.OL.length ∧ v.OL.getD n [] = C) := hz
        clear hz hB3 idx c6 HM2 HX2))
  · rename_i hz0
    go_ret
    rcases HZ.out with ⟨e, _⟩ | ⟨n, e, h1, h2⟩
    · omega
    · exact ⟨n, v, C, by rw [e]; rfl, HC.out.2.1, HC.out.2.2.1, .inl ⟨h1, h2, rfl⟩, rfl, HM3.out, TkG.ofBelow HB3.out⟩
  · have hno : Hid (∀ j, j < v.OL.length → v.OL.getD j [] ≠ C) := by
      show ∀ j, j < v.OL.length → v.OL.getD j [] ≠ C
      rcases HZ.out with ⟨_, h⟩ | ⟨n, e, _⟩
      · exact h
      · omega
    obtain ⟨sb, hsb⟩ : ∃ sb, w1.heap.size = sb := ⟨_, rfl⟩
    rw [hsb] at HX3 ⊢
    have h4 := HM3.out.alloc (.cells #[.slice (some ⟨g, 0, none⟩) C.length cap] 122)
    have x0 := HX3.out.cell (i := 0) rfl
    have e6 := (HM3.out.cell (i := 6) rfl (by omega)).1
    have f6 := (h4.cell (i := 6) rfl (by omega)).1
    rw [HSV.out] at e6 f6
    have own4 : ((w3.alloc (.cells #[.slice (some ⟨g, 0, none⟩) C.length cap] 122)).drew).ownsRow w0.heap.size 122 1 (.slice sa v.OL.length sc) v.OL.length ((List.range v.OL.length).map v.IV) := by
      have := h4.own.own .st _ rfl
      simp only [HSV.out] at this
      exact this
    have hma : d.ma < w3.heap.size := HM3.out.maLt
    have hne : some d.ma ≠ (Value.slice sa v.OL.length sc).ownBlock := fun e1 => h4.own.apart .ma .st _ _ (by simp) rfl rfl d.ma rfl (by show v.sv.ownBlock = _; rw [HSV.out]; exact e1.symm)
    have f6f := (h4.cell (i := 6) rfl (by omega)).2
    have hn1 : v.OL.length + 1 ≤ maxLen := by unfold maxLen; omega
    have hn2 : (v.OL.length + 1) * 24 ≤ 140737488355328 := by omega
    have hB3 : w0.heap.size ≤ w3.heap.size := HM3.out.le
    have HB4 : Hid (Below w.heap.size w (w3.alloc (.cells #[.slice (some ⟨g, 0, none⟩) C.length cap] 122)).drew) := (HB3.out.alloc HB3.out.size _).drew
    have HC4 : Hid (((w3.alloc (.cells #[.slice (some ⟨g, 0, none⟩) C.length cap] 122)).drew).ownsRow w.heap.size 121 2 (.slice (some ⟨g, 0, none⟩) C.length cap) C.length (C.flatMap tkI)) := HC3.out.alloc _
    obtain ⟨i5, hi0, hz5, hz1, hz2⟩ := info_parts Try.infoIts
    clear h4 hsb HZ
    go_cut [] from 8 (fun wx => ∃ sv', v.OL.length + 1 ≤ 1000 ∧ TkM w0 wx d { v with sv := sv', IV := addIV v (.slice (some ⟨g, 0, none⟩) C.length cap), OL := v.OL ++ [C] } G ng st ∧ TkG d v { v with sv := sv', IV := addIV v (.slice (some ⟨g, 0, none⟩) C.length cap), OL := v.OL ++ [C] } w wx)
    case first =>
      go_region_law
        ((refine step_append_lies _ (by rfl) _ _ _ (by rfl) w0.heap.size 122 i5 _ 1 24 Try.underlying92 hi0 hz5 hz1 hz2 rfl (by omega) (.slice sa v.OL.length sc) v.OL.length ((List.range v.OL.length).map v.IV) (by rfl) own4
            ⟨w3.heap.size, 0, none⟩ 1 1 [.slice (some ⟨g, 0, none⟩) C.length cap] (by rfl) (by rfl) (World.news_of_block (cs := #[.slice (some ⟨g, 0, none⟩) C.length cap]) (t := 122) (fr := (0, 0)) (heap_alloc_new w3 _)) (by simp [Value.oneCell'])
            (by omega) hn1 hn2 (by simp; omega) (w3.heap.size + 1) (by simp) ?_; intro g5 cap5 w5 hown5 hgrow hat hlt5; have c6' := (hgrow.cell_far ⟨d.ma, 6, none⟩ (by simp; omega) hne).trans f6; have f6' := (hgrow.frozen_far ⟨d.ma, 6, none⟩ (by simp; omega) hne).trans f6f))
      all_goals
        go_wp2_with fail
        go_meet
        case rel =>
          have r := HM.out.pushState HB4.out HC4.out (by rw [HSV.out]; exact hgrow) hown5 (fun g' hg' => by
            obtain rfl : g5 = g' := by simpa [Value.ownBlock] using hg'
            rw [HSV.out]
            simpa using hat)
          exact ⟨_, by omega, r.1, r.2⟩
    case rest =>
      obtain ⟨sv', _, hM5, hG5⟩ := hcut
      have c6 := (hM5.cell (i := 6) rfl (by omega)).1
      obtain ⟨a5, k5, hsv5⟩ := hM5.states
      simp only [List.length_append, List.length_cons, List.length_nil, Nat.zero_add] at hsv5
      simp only at c6
      rw [hsv5] at c6
      have HF : Hid (TkM w0 wc d { v with sv := sv', IV := addIV v (.slice (some ⟨g, 0, none⟩) C.length cap), OL := v.OL ++ [C] } G ng st ∧ TkG d v { v with sv := sv', IV := addIV v (.slice (some ⟨g, 0, none⟩) C.length cap), OL := v.OL ++ [C] } w wc) := ⟨hM5, hG5⟩
      clear hM5 hG5 hsv5 own4 f6 e6 f6f hne hn1 hn2
      go_wp2_with fail
      go_ret
      exact ⟨v.OL.length, { v with sv := sv', IV := addIV v (.slice (some ⟨g, 0, none⟩) C.length cap), OL := v.OL ++ [C] }, C, by simp, HC.out.2.1, HC.out.2.2.1, .inr ⟨hno.out, rfl, rfl⟩, rfl, HF.out.1, HF.out.2⟩

end Go.Proofs.Ytobegekmgoiopaa

/- The contracts of package table's symbols, begin, findStates. -/
namespace Go.Proofs.Ytobegekmgoiopaa
open Go.RowKit

def tkY (s : Sy) : List Value := [.bool s.1, .int .i64 s.2]
theorem tkY_get {L : List Sy} {i k : Nat} (hi : i < L.length) (hk : k < 2) : (L.flatMap tkY)[i * 2 + k]? = (tkY (L.getD i (false, 0)))[k]? := by
  induction L generalizing i with
  | nil => simp at hi
  | cons a L ih =>
    rw [List.flatMap_cons]
    have hl : (tkY a).length = 2 := rfl
    cases i with
    | zero => rw [List.getElem?_append_left (by omega)]; simp
    | succ i =>
      rw [List.getElem?_append_right (by omega), hl, show (i + 1) * 2 + k - 2 = i * 2 + k by omega]
      rw [ih (by simpa using hi)]
      simp [List.getD]

/-- The symbols in order. -/
def symsL (T n : Nat) : List Sy := (List.range n).map (symN T)
theorem symsL_succ (T n : Nat) : symsL T (n + 1) = symsL T n ++ [symN T n] := by unfold symsL; rw [List.range_succ, List.map_append]; rfl
theorem symsL_len (T n : Nat) : (symsL T n).length = n := by simp [symsL]
theorem symsL_get {T n x : Nat} (h : x < n) : (symsL T n).getD x (false, 0) = symN T x := by simp [symsL, List.getD, h]

set_option maxRecDepth 100000 in
set_option maxHeartbeats 3200000 in
theorem tk_symbols {w : World} {lim ab T N : Nat} {rv : Value} {R : List Ru} (hA : AutoG w lim ab T N rv R) (hT : T ≤ 8) (hN : N ≤ 12) :
    Calls Try.prog 51 #[.pointer (some ⟨ab, 0, none⟩)] w fun e w' => ∃ ov, e = .returned ov ∧ w'.ownsRow w.heap.size 102 2 ov (T + N) ((symsL T (T + N)).flatMap tkY) ∧ Below w.heap.size w w' := by
  have HA : Hid (AutoG w lim ab T N rv R) := hA
  have a0 := hA.t
  obtain ⟨i5, hi0, hz0, hz1, hz2⟩ := info_parts Try.infoSy
  have HI : Hid (Try.prog.info? 102 = some i5 ∧ i5.zero = some (.agg #[.bool false, .int .i64 0]) ∧ i5.size = 2 ∧ i5.bytes = 16) := ⟨hi0, hz0, hz1, hz2⟩
  clear hA hi0 hz0 hz1 hz2
  go_enter Try.func51, Try.ntmps51
  go_wp2_with fail
  clear a0
  go_loopw [3, 11] (fun s3 s11 wr => ∃ (k : Nat) (ov : Value), ov = s3 ∧ s11 = .int .i64 k ∧ k ≤ T ∧ wr.ownsRow w.heap.size 102 2 ov k ((symsL T k).flatMap tkY) ∧ Below w.heap.size w wr) (fun _ s _ => T - (intOf s).toNat)
  case atStart => exact ⟨0, _, rfl, rfl, Nat.zero_le _, World.ownsRow_nil w w.heap.size 102 2, Below.refl _ _⟩
  case round =>
    obtain ⟨k, ov, rfl, rfl, hk, hO, hB⟩ := hrel
    have HB : Hid (Below w.heap.size w wr) := hB
    have HO : Hid (wr.ownsRow w.heap.size 102 2 ov k ((symsL T k).flatMap tkY)) := hO
    by_cases hlt : k < T
    · have own5 := hO.alloc (.cells #[.bool true, .int .i64 k] 102)
      have hnw5 := World.news_of_block (cs := #[.bool true, .int .i64 k]) (t := 102) (fr := (0, 0)) (heap_alloc_new wr (.cells #[.bool true, .int .i64 k] 102))
      have hs1 : w.heap.size ≤ wr.heap.size := hB.size
      have n1 : k + 1 ≤ maxLen := by unfold maxLen; omega
      have n2 : (k + 1) * 16 ≤ 140737488355328 := by omega
      obtain ⟨hi0, hz0, hz1, hz2⟩ := HI.out
      have HS : Hid (symsL T (k + 1) = symsL T k ++ [(true, (k : Int))]) := by show symsL T (k + 1) = _; rw [symsL_succ]; simp [symN, hlt]
      clear hB hO
      go_wp2_with
        (at_builtin
         (refine wpList_append_lies _ rfl _ _ _ rfl w.heap.size 102 i5 _ 2 16 Try.underlying26 hi0 hz0 hz1 hz2 rfl (by omega) ov k ((symsL T k).flatMap tkY) rfl own5 ⟨wr.heap.size, 0, none⟩ 1 1 [.bool true, .int .i64 k] rfl rfl hnw5 (by simp [Value.oneCell']) (by omega) n1 n2 (by simp; omega) (wr.heap.size + 1) (by simp) ?_)
         intro g6 cap6 w6 hown6 hgrow6 hat6 hlt6)
      go_roundw
      case rel =>
        have hB6 : Below w.heap.size w w6 := (HB.out.alloc (by omega) _).grown hgrow6 (by simp; omega) (fun j hj => (HO.out.lt j hj).1)
        refine ⟨k + 1, _, rfl, by go_num, by omega, ?_, hB6⟩
        rw [HS.out, List.flatMap_append]
        exact hown6
      case measure => simp [intOf]; omega
    · obtain rfl : k = T := by omega
      have a1 := (HA.out.later hB).n
      clear hB hO
      go_wp2_with fail
      clear a1
      go_loopw [3, 25] (fun s3 s25 wq => ∃ (j : Nat) (ov : Value), ov = s3 ∧ s25 = .int .i64 j ∧ j ≤ N ∧ wq.ownsRow w.heap.size 102 2 ov (k + j) ((symsL k (k + j)).flatMap tkY) ∧ Below w.heap.size w wq) (fun _ s _ => N - (intOf s).toNat)
      case atStart => exact ⟨0, ov, rfl, rfl, Nat.zero_le _, HO.out, HB.out⟩
      case round =>
        clear HB HO
        obtain ⟨j, ov, rfl, rfl, hj, hO, hB⟩ := hrel
        have HB : Hid (Below w.heap.size w wr) := hB
        have HO : Hid (wr.ownsRow w.heap.size 102 2 ov (k + j) ((symsL k (k + j)).flatMap tkY)) := hO
        by_cases hjl : j < N
        · have own5 := hO.alloc (.cells #[.bool false, .int .i64 j] 102)
          have hnw5 := World.news_of_block (cs := #[.bool false, .int .i64 j]) (t := 102) (fr := (0, 0)) (heap_alloc_new wr (.cells #[.bool false, .int .i64 j] 102))
          have hs1 : w.heap.size ≤ wr.heap.size := hB.size
          have n1 : k + j + 1 ≤ maxLen := by unfold maxLen; omega
          have n2 : (k + j + 1) * 16 ≤ 140737488355328 := by omega
          obtain ⟨hi0, hz0, hz1, hz2⟩ := HI.out
          have HS : Hid (symsL k (k + (j + 1)) = symsL k (k + j) ++ [(false, (j : Int))]) := by
            show symsL k (k + (j + 1)) = _
            rw [← Nat.add_assoc, symsL_succ]
            have : symN k (k + j) = (false, (j : Int)) := by simp [symN]
            rw [this]
          clear hB hO
          go_wp2_with
            (at_builtin
             (refine wpList_append_lies _ rfl _ _ _ rfl w.heap.size 102 i5 _ 2 16 Try.underlying26 hi0 hz0 hz1 hz2 rfl (by omega) ov (k + j) ((symsL k (k + j)).flatMap tkY) rfl own5 ⟨wr.heap.size, 0, none⟩ 1 1 [.bool false, .int .i64 j] rfl rfl hnw5 (by simp [Value.oneCell']) (by omega) n1 n2 (by simp; omega) (wr.heap.size + 1) (by simp) ?_)
             intro g6 cap6 w6 hown6 hgrow6 hat6 hlt6)
          go_roundw
          case rel =>
            have hB6 : Below w.heap.size w w6 := (HB.out.alloc (by omega) _).grown hgrow6 (by simp; omega) (fun j hj => (HO.out.lt j hj).1)
            refine ⟨j + 1, _, rfl, by go_num, by omega, ?_, hB6⟩
            rw [HS.out, List.flatMap_append]
            exact hown6
          case measure => simp [intOf]; omega
        · obtain rfl : j = N := by omega
          clear hB hO
          go_wp2_with fail
          go_ret
          exact ⟨ov, rfl, HO.out, HB.out⟩

set_option maxRecDepth 100000 in
set_option maxHeartbeats 6400000 in
theorem tk_begin {w0 w : World} {d : TkA} {v : TkV} {G : Wy → Option Value} {ng : Nat} {st : LS} {R : List Ru} {Nu : List Bool} {Fi : List (List Bool)} {Ls : List SetI} {k x : Nat} (E : TkE w0 d R Nu Fi) (h : TkM w0 w d v G ng st) (hS : SDk R v.OL Ls) (hk : k < v.OL.length) :
    Calls Try.prog 52 #[.pointer (some ⟨d.ma, 0, none⟩), .int .i64 k, .agg #[.bool (symN d.T x).1, .int .i64 (symN d.T x).2]] w fun e w' => ∃ ov, e = .returned ov ∧ w'.ownsRow w.heap.size 121 2 ov (kernL d.T R (v.OL.getD k []) x (v.OL.getD k []).length).length ((kernL d.T R (v.OL.getD k []) x (v.OL.getD k []).length).flatMap tkI) ∧ Below w.heap.size w w' := by
  have hlen : (v.OL.getD k []).length ≤ 369 := by
    have := ok_len E.right8 (hS.rep k hk).nod (hS.ok k hk)
    have := E.hR
    omega
  have HOk : Hid (∀ t ∈ v.OL.getD k [], OkIt R t) := hS.ok k hk
  have HE : Hid (TkE w0 d R Nu Fi) := E
  obtain ⟨g, c, hsv, _, q0⟩ := h.state hk
  have hit := h.items hk
  have c6 := (h.cell (i := 6) rfl (by omega)).1
  rw [hsv] at c6
  obtain ⟨ia, ic, hiv⟩ := hit.1
  rw [hiv] at q0 hit
  have c6' := (((Below.refl _ w).alloc (Nat.le_refl _) (.cells #[.bool (symN d.T x).1, .int .i64 (symN d.T x).2] 102)).cell (p := ⟨d.ma, 6, none⟩) h.maLt).trans c6
  have q0' := (((Below.refl _ w).alloc (Nat.le_refl _) (.cells #[.bool (symN d.T x).1, .int .i64 (symN d.T x).2] 102)).cell (p := ⟨g, k, none⟩) (World.block_lt_of_cell? _ _ q0)).trans q0
  obtain ⟨O, hO⟩ : ∃ O, v.OL.getD k [] = O := ⟨_, rfl⟩
  rw [hO] at q0' hit hlen HOk ⊢
  obtain ⟨y, hy⟩ : ∃ y, symN d.T x = y := ⟨_, rfl⟩
  have HNx : Hid (∀ a b, a ≤ R.length → (nextIs d.T R (a, b) x ↔ (rightF R a)[b]? = some y)) := fun a b ha => by rw [← hy]; exact nextIs_sym (N := d.N) (i := (a, b)) (E.sym a ha)
  rw [hy] at c6' q0' ⊢
  have HA : Hid (AutoG (w.alloc (.cells #[.bool y.1, .int .i64 y.2] 102)) w0.heap.size d.ma d.T d.N d.rv R) := (h.auto E).boxed _
  have HIt : Hid (ItemsAt (w.alloc (.cells #[.bool y.1, .int .i64 y.2] 102)) w.heap.size (.slice ia O.length ic) O) := hit.below ((Below.refl _ _).alloc (Nat.le_refl _) _)
  have i0 : (0 : Int) ≤ (k : Int) := Int.natCast_nonneg _
  have i1 : (k : Int) < (v.OL.length : Int) := by omega
  obtain ⟨yb, yv⟩ := y
  simp only at c6' q0' HA HIt ⊢
  clear E h hS hsv hit hiv c6 q0 hO hy
  obtain ⟨W1, hW1⟩ : ∃ W1, w.alloc (.cells #[.bool yb, .int .i64 yv] 102) = W1 := ⟨_, rfl⟩
  have y0 : W1.cell? ⟨w.heap.size, 0, none⟩ = some (.bool yb) := by rw [← hW1]; simp [go_sem]
  have y1 : W1.cell? ⟨w.heap.size, 1, none⟩ = some (.int .i64 yv) := by rw [← hW1]; simp [go_sem]
  have HB1 : Hid (Below w.heap.size w W1) := by show Below _ _ _; rw [← hW1]; exact (Below.refl _ _).alloc (Nat.le_refl _) _
  have hsz1 : w.heap.size < W1.heap.size := by rw [← hW1]; simp
  rw [hW1] at c6' q0' HA HIt
  obtain ⟨i5, hi0, hz0, hz1, hz2⟩ := info_parts Try.infoIt
  have HI5 : Hid (Try.prog.info? 121 = some i5 ∧ i5.zero = some (.agg #[.int .i64 0, .int .i64 0]) ∧ i5.size = 2 ∧ i5.bytes = 16) := ⟨hi0, hz0, hz1, hz2⟩
  clear hi0 hz0 hz1 hz2
  go_enter Try.func52, Try.ntmps52
  go_wp2_with fail
  clear hW1 c6' q0'
  go_loopw [7, 20] (fun s7 s20 wr => ∃ (j : Nat) (ov : Value), ov = s7 ∧ s20 = .int .i64 j ∧ j ≤ O.length ∧ wr.ownsRow W1.heap.size 121 2 ov (kernL d.T R O x j).length ((kernL d.T R O x j).flatMap tkI) ∧ Below W1.heap.size W1 wr) (fun _ s _ => O.length - (intOf s).toNat)
  case atStart => exact ⟨0, _, rfl, rfl, Nat.zero_le _, World.ownsRow_nil W1 W1.heap.size 121 2, Below.refl _ _⟩
  case round =>
    obtain ⟨j, ov, rfl, rfl, hj, hO, hB⟩ := hrel
    have HB : Hid (Below W1.heap.size W1 wr) := hB
    have HBw : Hid (Below w.heap.size w wr) := HB1.out.trans (hB.mono (by omega))
    have HO : Hid (wr.ownsRow W1.heap.size 121 2 ov (kernL d.T R O x j).length ((kernL d.T R O x j).flatMap tkI)) := hO
    by_cases hlt : j < O.length
    · obtain ⟨b', o', c', hve, _, q0, q1⟩ := (HIt.out.below (hB.mono (by omega))).2 j hlt
      cases hve
      rw [← Nat.add_assoc] at q1
      obtain ⟨⟨a, b⟩, hab⟩ : ∃ z, O.getD j (0, 0) = z := ⟨_, rfl⟩
      rw [hab] at q0 q1
      simp only at q0 q1
      have hmem : (a, b) ∈ O := by rw [← hab]; simp [List.getD, hlt]
      have ok := HOk.out _ hmem
      have ha : a ≤ R.length := ok.1
      have hbl : b ≤ (rightF R a).length := ok.2
      have hr8 := HE.out.right8 a ha
      have i2 : (0 : Int) ≤ (j : Int) := Int.natCast_nonneg _
      have i3 : (j : Int) < (O.length : Int) := by omega
      have hAr := (HA.out.later hB).boxed (.cells #[.int .i64 a, .int .i64 b] 121)
      have hkl := kernL_len (T := d.T) (R := R) (x := x) (O := O) (j := j)
      have HNx1 := HNx.out a b ha
      have z0 := (hB.cell (p := ⟨w.heap.size, 0, none⟩) hsz1).trans y0
      have z1 := (hB.cell (p := ⟨w.heap.size, 1, none⟩) hsz1).trans y1
      have hszr : w.heap.size < wr.heap.size := Nat.lt_of_lt_of_le hsz1 hB.size
      cases hnx : (rightF R a)[b]? with
      | none =>
        have nx := tk_next_none (a := a) (b := b) hAr ha (by have := List.getElem?_eq_none_iff.1 hnx; omega)
        have HK : Hid (kernL d.T R O x (j + 1) = kernL d.T R O x j) := kernL_no hlt hab (by rw [HNx1, hnx]; exact fun e => by cases e)
        clear hB hO hab hmem ok hAr HNx1 hnx
        go_wp2_with
          (go_at_call 65; refine nx.mono ?_; rintro e w2 ⟨rfl, hB2⟩
           have HB2 : Hid (Below wr.heap.size wr w2) := ((Below.refl _ _).alloc (Nat.le_refl _) _).trans (hB2.mono (by simp))
           clear hB2)
        go_roundw
        case rel =>
          have hb := HB2.out.alloc HB2.out.size (.cells #[.bool false, .int .i64 0] 102)
          exact ⟨j + 1, ov, rfl, by go_num, by omega, by rw [HK.out]; exact own_below HO.out hb (fun k hk => (HO.out.lt k hk).2), HB.out.trans (hb.mono HB.out.size)⟩
        case measure => simp [intOf]; omega
      | some s =>
        have nx := tk_next_some hAr ha hnx
        obtain ⟨sb, sv⟩ := s
        simp only at nx
        by_cases hse : (sb, sv) = (yb, yv)
        · cases hse
          have HK : Hid (kernL d.T R O x (j + 1) = kernL d.T R O x j ++ [(a, b + 1)]) := kernL_yes hlt hab (by rw [HNx1, hnx])
          have ron := fun W => tk_readOn (w := W) (a := a) (b := b) (by omega)
          obtain ⟨p, hp⟩ : ∃ p, (kernL d.T R O x j).length = p := ⟨_, rfl⟩
          rw [hp] at hkl HO
          have HP : Hid ((kernL d.T R O x j).length = p) := hp
          have n1 : p + 1 ≤ maxLen := by unfold maxLen; omega
          have n2 : (p + 1) * 16 ≤ 140737488355328 := by omega
          obtain ⟨hi0, hz0, hz1, hz2⟩ := HI5.out
          clear hB hO hab hmem ok hAr HNx1 hnx hp
          cases yb <;>
            (go_wp2_with
               (first
                | (go_at_call 65; refine nx.mono ?_; rintro e w2 ⟨rfl, hB2⟩
                   have x0 : w2.cell? ⟨wr.heap.size, 0, none⟩ = some (.int .i64 a) := (hB2.cell (by simp)).trans (by simp [go_sem])
                   have x1 : w2.cell? ⟨wr.heap.size, 1, none⟩ = some (.int .i64 b) := (hB2.cell (by simp)).trans (by simp [go_sem])
                   have HB2 : Hid (Below wr.heap.size wr w2) := ((Below.refl _ _).alloc (Nat.le_refl _) _).trans (hB2.mono (by simp))
                   have v0 := (HB2.out.cell (p := ⟨w.heap.size, 0, none⟩) hszr).trans z0
                   have v1 := (HB2.out.cell (p := ⟨w.heap.size, 1, none⟩) hszr).trans z1
                   have s2 : wr.heap.size < w2.heap.size := by have := hB2.size; simp at this; omega
                   have s3 : w.heap.size < w2.heap.size := by omega
                   clear hB2)
                | (go_at_call 66; refine (ron _).mono ?_; rintro e w4 ⟨rfl, hB4⟩
                   have HB4 : Hid (Below wr.heap.size wr w4) := (HB2.out.alloc HB2.out.size _).trans (hB4.mono (by have := HB2.out.size; simp; omega))
                   have hown4 : w4.ownsRow W1.heap.size 121 2 ov p ((kernL d.T R O x j).flatMap tkI) := own_below HO.out HB4.out (fun k hk => (HO.out.lt k hk).2)
                   have own5 := hown4.alloc (.cells #[.int .i64 a, .int .i64 ((b : Int) + 1)] 121)
                   have hnw5 := World.news_of_block (cs := #[.int .i64 a, .int .i64 ((b : Int) + 1)]) (t := 121) (fr := (0, 0)) (heap_alloc_new w4 (.cells #[.int .i64 a, .int .i64 ((b : Int) + 1)] 121))
                   have hs5 : W1.heap.size ≤ w4.heap.size := by have := HB4.out.size; have := HB.out.size; omega
                   clear hB4 hown4)
                | (at_builtin
                   (refine wpList_append_lies _ rfl _ _ _ rfl W1.heap.size 121 i5 _ 2 16 Try.underlying122 hi0 hz0 hz1 hz2 rfl (by omega) ov p ((kernL d.T R O x j).flatMap tkI) rfl own5 ⟨w4.heap.size, 0, none⟩ 1 1 [.int .i64 a, .int .i64 ((b : Int) + 1)] rfl rfl hnw5 (by simp [Value.oneCell']) (by omega) n1 n2 (by simp; omega) (w4.heap.size + 1) (by simp) ?_)
                   intro g6 cap6 w6 hown6 hgrow6 hat6 hlt6))
             go_roundw
             case rel =>
               have hB6 : Below W1.heap.size W1 w6 := ((HB.out.trans (HB4.out.mono HB.out.size)).alloc (by have := HB.out.size; have := HB4.out.size; omega) _).grown hgrow6 (by have := HB.out.size; have := HB4.out.size; simp; omega) (fun q hq => (HO.out.lt q hq).1)
               refine ⟨j + 1, _, rfl, by go_num, by omega, ?_, hB6⟩
               rw [HK.out, List.flatMap_append, List.length_append, HP.out]
               exact hown6
             case measure => simp [intOf]; omega)
        · have HK : Hid (kernL d.T R O x (j + 1) = kernL d.T R O x j) := kernL_no hlt hab (by rw [HNx1, hnx]; exact fun e => hse (by injection e))
          clear hB hO hab hmem ok hAr HNx1 hnx
          by_cases hbb : sb = yb
          · subst hbb
            have e1 : (sv == yv) = false := by simpa using fun e => hse (by rw [e])
            clear hse
            cases sb <;>
              (go_wp2_with
                 (go_at_call 65; refine nx.mono ?_; rintro e w2 ⟨rfl, hB2⟩
                  have HB2 : Hid (Below wr.heap.size wr w2) := ((Below.refl _ _).alloc (Nat.le_refl _) _).trans (hB2.mono (by simp))
                  have v0 := (HB2.out.cell (p := ⟨w.heap.size, 0, none⟩) hszr).trans z0
                  have v1 := (HB2.out.cell (p := ⟨w.heap.size, 1, none⟩) hszr).trans z1
                  have s3 : w.heap.size < w2.heap.size := by have := HB2.out.size; omega
                  clear hB2)
               go_roundw
               case rel =>
                 have hb := fun o => HB2.out.alloc HB2.out.size o
                 exact ⟨j + 1, ov, rfl, by go_num, by omega, by rw [HK.out]; exact own_below HO.out (hb _) (fun k hk => (HO.out.lt k hk).2), HB.out.trans ((hb _).mono HB.out.size)⟩
               case measure => simp [intOf]; omega)
          · clear hse
            cases sb <;> cases yb <;> first
              | exact absurd rfl hbb
              | (go_wp2_with
                   (go_at_call 65; refine nx.mono ?_; rintro e w2 ⟨rfl, hB2⟩
                    have HB2 : Hid (Below wr.heap.size wr w2) := ((Below.refl _ _).alloc (Nat.le_refl _) _).trans (hB2.mono (by simp))
                    have v0 := (HB2.out.cell (p := ⟨w.heap.size, 0, none⟩) hszr).trans z0
                    have v1 := (HB2.out.cell (p := ⟨w.heap.size, 1, none⟩) hszr).trans z1
                    have s3 : w.heap.size < w2.heap.size := by have := HB2.out.size; omega
                    clear hB2)
                 go_roundw
                 case rel =>
                   have hb := fun o => HB2.out.alloc HB2.out.size o
                   exact ⟨j + 1, ov, rfl, by go_num, by omega, by rw [HK.out]; exact own_below HO.out (hb _) (fun k hk => (HO.out.lt k hk).2), HB.out.trans ((hb _).mono HB.out.size)⟩
                 case measure => simp [intOf]; omega)
    · obtain rfl : j = O.length := by omega
      clear hB hO
      go_wp2_with fail
      go_ret
      exact ⟨ov, rfl, own_mono HO.out (by omega), HBw.out⟩

end Go.Proofs.Ytobegekmgoiopaa
