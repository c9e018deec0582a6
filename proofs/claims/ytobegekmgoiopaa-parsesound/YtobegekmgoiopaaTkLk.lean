/- The contract of package table's look. -/
import Derived.Test.YtobegekmgoiopaaTkBehAndTkGive
namespace Go.Proofs.Ytobegekmgoiopaa
open Go.RowKit

/-- A variable of the call's own, which is none of the maker's blocks. -/
structure TkL (w : World) (d : TkA) (v : TkV) (b : Nat) (cs : Array Value) (t : TypeId) : Prop where
  here : w.heap[b]? = some (.cells cs t)
  no : ¬ TkK d v b
  lt : b < w.heap.size

section
variable {d : TkA} {v v' : TkV} {w0 w w' : World} {G : Wy → Option Value} {ng : Nat} {st : LS} {b : Nat} {cs : Array Value} {t : TypeId}
theorem TkL.goes (h : TkL w d v b cs t) (g : TkG d v v' w w') : TkL w' d v' b cs t := let ⟨a, b, c⟩ := g.far h.lt h.no; ⟨a.trans h.here, b, c⟩
theorem TkL.below (h : TkL w d v b cs t) (hb : Below w.heap.size w w') : TkL w' d v b cs t := h.goes (TkG.ofBelow hb)
theorem TkL.drew (h : TkL w d v b cs t) : TkL w.drew d v b cs t := h.below (Below.refl _ _).drew
theorem TkL.alloc (h : TkL w d v b cs t) (o : Obj) : TkL (w.alloc o) d v b cs t := h.below ((Below.refl _ _).alloc (Nat.le_refl _) o)
theorem TkL.cell (h : TkL w d v b cs t) {i : Nat} {x : Value} (hx : cs[i]? = some x) : w.cell? ⟨b, i, none⟩ = some x := by simp [World.cell?, h.here, hx]
theorem TkM.box (h : TkM w0 w d v G ng st) (cs : Array Value) (t : TypeId) : TkL (w.alloc (.cells cs t)) d v w.heap.size cs t :=
  ⟨heap_alloc_new _ _, fun hk => by have := (h.kc hk).2; omega, by simp⟩

/-- A row that is none of the maker's stays. -/
theorem row_goes {base n size : Nat} {e : TypeId} {x : Value} {xs : List Value} (h : w.ownsRow base e size x n xs) (g : TkG d v v' w w') (hn : ∀ k, x.ownBlock = some k → ¬ TkK d v k) : w'.ownsRow base e size x n xs :=
  own_heap h fun k hk => (g.far (h.lt k hk).2 (hn k hk)).1
end

theorem give_lk {g : Spo × Nat} {st : LS} (hg : g.2 < 512) (h : ∀ s, st.lk s < 512) : ∀ s, (giveF g st).lk s < 512 := fun s => by
  unfold giveF
  split
  · exact h s
  · simp only
    split
    · exact or_lt (h _) hg
    · exact h s
theorem give_cO (g : Spo × Nat) (st : LS) : (giveF g st).c ≤ st.c + 1 ∧ (giveF g st).O.length ≤ st.O.length + 1 := by
  unfold giveF
  split
  · exact ⟨Nat.le_succ _, Nat.le_succ _⟩
  · simp
theorem gives_all : ∀ (L : List (Spo × Nat)) (st : LS), (∀ g ∈ L, g.2 < 512) → (∀ s, st.lk s < 512) → (∀ s, (givesF L st).lk s < 512) ∧ (givesF L st).c ≤ st.c + L.length ∧ (givesF L st).O.length ≤ st.O.length + L.length := by
  intro L
  induction L with
  | nil => intro st _ h; exact ⟨h, Nat.le_refl _, Nat.le_refl _⟩
  | cons g L ih =>
    intro st hg h
    obtain ⟨a, b, c⟩ := ih (giveF g st) (fun g' hg' => hg g' (List.mem_cons_of_mem _ hg')) (give_lk (hg g (by simp)) h)
    have := give_cO g st
    refine ⟨a, ?_, ?_⟩
    · simp only [List.length_cons]; exact Nat.le_trans b (by omega)
    · simp only [List.length_cons]; exact Nat.le_trans c (by omega)
theorem gives_take {L : List (Spo × Nat)} {st : LS} {j : Nat} (hj : j < L.length) : givesF (L.take (j + 1)) st = giveF L[j] (givesF (L.take j) st) := by
  unfold givesF
  rw [List.take_succ_eq_append_getElem hj, List.foldl_append]
  rfl

/-- What the look at an item of a state asks. -/
structure LkPre (T N : Nat) (R : List Ru) (OL : List (List It)) (NL : List (List Int)) (Ls : List SetI) (st : LS) (k a b : Nat) (ng : Nat) : Prop where
  aut : AutD T N R OL NL Ls
  inS : InS OL (k, (a, b))
  lk : ∀ s, st.lk s < 512
  few : OL.length ≤ 150
  ng : ng ≤ 10000000
  c : st.c + 100 ≤ 10000000
  O : st.O.length + 100 ≤ 10000000

set_option maxRecDepth 100000 in
set_option maxHeartbeats 1600000 in
theorem look_none {w0 w : World} {d : TkA} {v : TkV} {NL : List (List Int)} {Ls : List SetI} {R : List Ru} {Nu : List Bool} {Fi : List (List Bool)} {ng : Nat} {st : LS} {k a b : Nat} (E : TkE w0 d R Nu Fi) (h : TkM w0 w d v (goM d.T NL) ng st) (p : LkPre d.T d.N R v.OL NL Ls st k a b ng) (hn : (rightF R a)[b]? = none) :
    Calls Try.prog 55 #[.pointer (some ⟨d.ma, 0, none⟩), .agg #[.int .i64 k, .int .i64 a, .int .i64 b]] w fun r w' => r = .returned (.tuple #[]) ∧ TkM w0 w' d v (goM d.T NL) ng st ∧ TkG d v v w w' := by
  have ok := (p.aut.item p.inS).2
  have hb : b = (rightF R a).length := by have := List.getElem?_eq_none_iff.1 hn; have := ok.2; simp only at this; omega
  have h1 := h.alloc (.cells #[.int .i64 k, .int .i64 a, .int .i64 b] 128)
  have nx := tk_next_none (h1.auto E) ok.1 hb
  have HH : Hid (TkM w0 w d v (goM d.T NL) ng st) := h
  clear h h1 p E ok hb hn
  go_enter Try.func55, Try.ntmps55
  go_wp2_with
    (go_at_call 65; refine nx.mono ?_; rintro e w2 ⟨rfl, hB2⟩
     have HB : Hid (Below w.heap.size w w2) := ((Below.refl _ _).alloc (Nat.le_refl _) _).trans (hB2.mono (by simp))
     clear hB2)
  refine bodyPost_ret (v := .tuple #[]) (results_none Try.results55 _ _ _) rfl ?_
  have hb : Below w.heap.size w (w2.alloc (.cells #[.bool false, .int .i64 0] 102)) := HB.out.alloc HB.out.size _
  exact ⟨rfl, HH.out.below hb, TkG.ofBelow hb⟩

set_option maxRecDepth 100000 in
set_option maxHeartbeats 6400000 in
theorem look_some {w0 w : World} {d : TkA} {v : TkV} {NL : List (List Int)} {Ls : List SetI} {R : List Ru} {Nu : List Bool} {Fi : List (List Bool)} {ng : Nat} {st : LS} {k a b : Nat} {s : Sy} (E : TkE w0 d R Nu Fi) (h : TkM w0 w d v (goM d.T NL) ng st) (p : LkPre d.T d.N R v.OL NL Ls st k a b ng) (hn : (rightF R a)[b]? = some s) :
    Calls Try.prog 55 #[.pointer (some ⟨d.ma, 0, none⟩), .agg #[.int .i64 k, .int .i64 a, .int .i64 b]] w fun r w' => r = .returned (.tuple #[]) ∧ ∃ ov', TkM w0 w' d { v with ov := ov' } (goM d.T NL) ng (lookF d.T R NL Nu Fi (k, (a, b)) st) ∧ TkG d v { v with ov := ov' } w w' := by
  have ok := (p.aut.item p.inS).2
  have hr8 := E.right8 a ok.1
  have hR := E.hR
  have ha : a ≤ R.length := ok.1
  obtain ⟨hbl, _⟩ := List.getElem?_eq_some_iff.1 hn
  have hk : k < v.OL.length := p.inS.1
  have hfew := p.few
  obtain ⟨on1, on2⟩ := p.aut.on p.inS hn
  simp only at on1 on2
  have hsy := E.sym a ha s (List.mem_of_getElem? hn)
  obtain ⟨sn1, sn2⟩ := symN_num hsy.1 hsy.2
  have hgo := (p.aut.go k hk _ sn2).1
  -- what the map of ways says
  have hG : goM d.T NL (k, s) = some (.int .i64 (toN NL d.T k s)) := by
    have := goM_at (T := d.T) (NL := NL) (k := k) (x := (numF d.T s).toNat) (by rw [hgo]; exact sn2)
    rw [sn1, on1, if_pos (Int.natCast_nonneg _)] at this
    exact this
  obtain ⟨z, hz⟩ : ∃ z, toN NL d.T k s = z := ⟨_, rfl⟩
  rw [hz] at hG on2
  have hzlt : z < v.OL.length := on2.1
  have hT := E.hT
  have hN := E.hN.2
  have hs2 : 0 ≤ s.2 ∧ s.2 ≤ 12 := by
    cases hc : s.1 with
    | true => have := hsy.1 hc; omega
    | false => have := hsy.2 hc; omega
  have h1 := h.alloc (.cells #[.int .i64 k, .int .i64 a, .int .i64 b] 128)
  have nx := tk_next_some (h1.auto E) ha hn
  have HBox : Hid (TkL (w.alloc (.cells #[.int .i64 k, .int .i64 a, .int .i64 b] 128)) d v w.heap.size #[.int .i64 k, .int .i64 a, .int .i64 b] 128) := h.box _ _
  have H1 : Hid (TkM w0 (w.alloc (.cells #[.int .i64 k, .int .i64 a, .int .i64 b] 128)) d v (goM d.T NL) ng st) := h1
  have HGo : Hid (goM d.T NL (k, s) = some (.int .i64 z)) := hG
  obtain ⟨q, hq⟩ : ∃ q, st.lk (k, (a, b)) = q := ⟨_, rfl⟩
  have hq5 : q < 512 := by rw [← hq]; exact p.lk _
  -- what is given, in plain words
  have HLook : Hid (lookF d.T R NL Nu Fi (k, (a, b)) st = givesF (if s.1 then [] else (rulesL R s.2).map fun r => ((k, (r, 0)), nexM R Nu Fi (a, b) q)) (giveF ((z, (a, b + 1)), q) st)) := by
    show lookF d.T R NL Nu Fi (k, (a, b)) st = _
    unfold lookF givesL
    simp only
    rw [hn, hq]
    simp only
    rw [hz]
    rfl
  have HQ : Hid (st.lk (k, (a, b)) = q) := hq
  have HP : Hid (LkPre d.T d.N R v.OL NL Ls st k a b ng) := p
  have HE : Hid (TkE w0 d R Nu Fi) := E
  have HSy : Hid ((s.1 = true → 0 ≤ s.2 ∧ s.2 < (d.T : Int)) ∧ (s.1 = false → 0 ≤ s.2 ∧ s.2 < (d.N : Int))) := hsy
  clear h h1 p E ok hn on1 on2 sn1 sn2 hgo hG hz hq hsy
  obtain ⟨sb, sv⟩ := s
  simp only at nx HGo hs2 HSy HLook
  go_enter Try.func55, Try.ntmps55
  go_wp2_with
    (go_at_call 65; refine nx.mono ?_; rintro e w2 ⟨rfl, hB2⟩
     have HM2 : Hid (TkM w0 w2 d v (goM d.T NL) ng st) := H1.out.below hB2
     have HX2 : Hid (TkL w2 d v w.heap.size #[.int .i64 k, .int .i64 a, .int .i64 b] 128) := HBox.out.below hB2
     have HB2 : Hid (Below w.heap.size w w2) := ((Below.refl _ _).alloc (Nat.le_refl _) _).trans (hB2.mono (by simp))
     clear hB2 nx)
  obtain ⟨W3, hW3⟩ : ∃ W3, w2.alloc (.cells #[.bool sb, .int .i64 sv] 102) = W3 := ⟨_, rfl⟩
  have HM3 : Hid (TkM w0 W3 d v (goM d.T NL) ng st) := by show TkM _ _ _ _ _ _ _; rw [← hW3]; exact HM2.out.alloc _
  have HX3 : Hid (TkL W3 d v w.heap.size #[.int .i64 k, .int .i64 a, .int .i64 b] 128) := by show TkL _ _ _ _ _ _; rw [← hW3]; exact HX2.out.alloc _
  have HY3 : Hid (TkL W3 d v w2.heap.size #[.bool sb, .int .i64 sv] 102) := by show TkL _ _ _ _ _ _; rw [← hW3]; exact HM2.out.box _ _
  have HG3 : Hid (TkG d v v w W3) := by show TkG _ _ _ _ _; rw [← hW3]; exact TkG.ofBelow (HB2.out.alloc HB2.out.size _)
  rw [hW3]
  clear hW3 H1 HBox HM2 HX2 HB2
  obtain ⟨yb, hyb⟩ : ∃ yb, w2.heap.size = yb := ⟨_, rfl⟩
  rw [hyb] at HY3 ⊢
  clear hyb
  have l3 := HM3.out.drew.lookL (s := (k, (a, b))) (by simp only; omega) (by simp only; omega) (by simp only; omega) (by have := HP.out.c; omega)
  unfold soV at l3
  simp only [HQ.out] at l3
  have c8 := (HM3.out.cell (i := 8) rfl (by omega)).1
  have x0 := HX3.out.cell (i := 0) rfl
  have x1 := HX3.out.cell (i := 1) rfl
  have x2 := HX3.out.cell (i := 2) rfl
  go_cut [6] from 12 (fun s6 wx => s6 = .int .u32 q ∧ wx = W3.drew)
  case first =>
    go_region
    all_goals
      go_wp2_with fail
      go_meet
      case rel => exact ⟨rfl, rfl⟩
  case rest =>
    obtain ⟨rfl, hwc⟩ := hcut
    have HMc : Hid (TkM w0 wc d v (goM d.T NL) ng st) := by show TkM _ _ _ _ _ _ _; rw [hwc]; exact HM3.out.drew
    have HXc : Hid (TkL wc d v w.heap.size #[.int .i64 k, .int .i64 a, .int .i64 b] 128) := by show TkL _ _ _ _ _ _; rw [hwc]; exact HX3.out.drew
    have HYc : Hid (TkL wc d v yb #[.bool sb, .int .i64 sv] 102) := by show TkL _ _ _ _ _ _; rw [hwc]; exact HY3.out.drew
    have HGc : Hid (TkG d v v w wc) := by show TkG _ _ _ _ _; rw [hwc]; exact HG3.out.drew
    clear hwc l3 c8 x0 x1 x2 HM3 HX3 HY3 HG3
    -- what a world must hold while the next operations come, in whatever order
    have keep : ∀ {wx : World} {v' : TkV} {st' : LS}, TkM w0 wx d v' (goM d.T NL) ng st' → TkL wx d v' w.heap.size #[.int .i64 k, .int .i64 a, .int .i64 b] 128 → TkL wx d v' yb #[.bool sb, .int .i64 sv] 102 →
        wx.cell? ⟨d.ma, 7, none⟩ = some (.map (some d.mg)) ∧ wx.cell? ⟨w.heap.size, 0, none⟩ = some (.int .i64 k) ∧ wx.cell? ⟨w.heap.size, 1, none⟩ = some (.int .i64 a) ∧ wx.cell? ⟨w.heap.size, 2, none⟩ = some (.int .i64 b) ∧ wx.cell? ⟨yb, 0, none⟩ = some (.bool sb) ∧ wx.cell? ⟨yb, 1, none⟩ = some (.int .i64 sv) ∧
          Sem.run Try.prog (Instr.lookup 90 (.map (some d.mg)) (.agg #[.int .i64 k, .bool sb, .int .i64 sv]) false) wx = .ok (.int .i64 z) wx := fun {wx v' st'} hM hX hY => by
      refine ⟨(hM.cell (i := 7) rfl (by omega)).1, hX.cell rfl, hX.cell rfl, hX.cell rfl, hY.cell rfl, hY.cell rfl, ?_⟩
      have := hM.lookG (p := (k, (sb, sv))) (by simp only; omega) hs2.1 (by simp only; omega) HP.out.ng false
      unfold wyV at this
      simp only [HGo.out] at this
      exact this
    have HKeep : Hid (∀ {wx : World} {v' : TkV} {st' : LS}, TkM w0 wx d v' (goM d.T NL) ng st' → TkL wx d v' w.heap.size #[.int .i64 k, .int .i64 a, .int .i64 b] 128 → TkL wx d v' yb #[.bool sb, .int .i64 sv] 102 →
        wx.cell? ⟨d.ma, 7, none⟩ = some (.map (some d.mg)) ∧ wx.cell? ⟨w.heap.size, 0, none⟩ = some (.int .i64 k) ∧ wx.cell? ⟨w.heap.size, 1, none⟩ = some (.int .i64 a) ∧ wx.cell? ⟨w.heap.size, 2, none⟩ = some (.int .i64 b) ∧ wx.cell? ⟨yb, 0, none⟩ = some (.bool sb) ∧ wx.cell? ⟨yb, 1, none⟩ = some (.int .i64 sv) ∧
          Sem.run Try.prog (Instr.lookup 90 (.map (some d.mg)) (.agg #[.int .i64 k, .bool sb, .int .i64 sv]) false) wx = .ok (.int .i64 z) wx) := keep
    clear keep
    obtain ⟨k0, k1, k2, k3, k4, k5, k6⟩ := HKeep.out HMc.out.drew HXc.out.drew HYc.out.drew
    have hb8 : b ≤ 1000 := by omega
    have ron := fun W => tk_readOn (w := W) (a := a) (b := b) hb8
    go_wp2_with fail
    go_cut [] from 12 (fun wx => ∃ ov', TkM w0 wx d { v with ov := ov' } (goM d.T NL) ng (giveF ((z, (a, b + 1)), q) st) ∧ TkG d v { v with ov := ov' } wc wx)
    case first =>
      go_region_held3 (fun wx => wx.cell? ⟨d.ma, 7, none⟩ = some (.map (some d.mg)) ∧ wx.cell? ⟨w.heap.size, 0, none⟩ = some (.int .i64 k) ∧ wx.cell? ⟨w.heap.size, 1, none⟩ = some (.int .i64 a) ∧ wx.cell? ⟨w.heap.size, 2, none⟩ = some (.int .i64 b) ∧ wx.cell? ⟨yb, 0, none⟩ = some (.bool sb) ∧ wx.cell? ⟨yb, 1, none⟩ = some (.int .i64 sv) ∧
          Sem.run Try.prog (Instr.lookup 90 (.map (some d.mg)) (.agg #[.int .i64 k, .bool sb, .int .i64 sv]) false) wx = .ok (.int .i64 z) wx) (first | assumption | exact ⟨k0, k1, k2, k3, k4, k5, k6⟩ | go_keep)
        (first
         | (go_at_call 66; refine (ron _).mono ?_; rintro e w5 ⟨rfl, hB5⟩
            have HM5 : Hid (TkM w0 w5 d v (goM d.T NL) ng st) := HMc.out.drew.below hB5
            have HX5 : Hid (TkL w5 d v w.heap.size #[.int .i64 k, .int .i64 a, .int .i64 b] 128) := HXc.out.drew.below hB5
            have HY5 : Hid (TkL w5 d v yb #[.bool sb, .int .i64 sv] 102) := HYc.out.drew.below hB5
            have HG5 : Hid (TkG d v v wc w5) := (TkG.refl _ _ _).drew.trans (TkG.ofBelow hB5)
            have hS5 := HKeep.out HM5.out HX5.out HY5.out
            have giv := tk_give HM5.out (a := z) (b := a) (c := b + 1) (m := q) ⟨by simp only; omega, by simp only; omega, by simp only; omega⟩ hq5 (HP.out.lk _) (by have := HP.out.c; omega) (by have := HP.out.O; omega)
            rw [show ((b + 1 : Nat) : Int) = (b : Int) + 1 from rfl] at giv
            clear hB5)
         | (go_at_call 53; refine giv.mono ?_; rintro e w6 ⟨rfl, ov', hM6, hG6⟩
            have hS6 := HKeep.out hM6 (HX5.out.goes hG6) (HY5.out.goes hG6)
            have HM6 : Hid (TkM w0 w6 d { v with ov := ov' } (goM d.T NL) ng (giveF ((z, (a, b + 1)), q) st) ∧ TkG d v { v with ov := ov' } wc w6) := ⟨hM6, HG5.out.trans hG6⟩
            clear hM6 hG6))
      all_goals
        go_wp2_with fail
        go_meet
        case rel => exact ⟨ov', HM6.out.1, HM6.out.2⟩
    case rest =>
      obtain ⟨ov1, hM, hG⟩ := hcut
      have hXd := HXc.out.goes hG
      have hYd := HYc.out.goes hG
      obtain ⟨v1, hv1⟩ : ∃ v1, ({ v with ov := ov1 } : TkV) = v1 := ⟨_, rfl⟩
      obtain ⟨st1, hst1⟩ : ∃ st1, giveF ((z, (a, b + 1)), q) st = st1 := ⟨_, rfl⟩
      have HV1 : Hid (({ v with ov := ov1 } : TkV) = v1) := hv1
      have hlk1 : ∀ s, st1.lk s < 512 := by rw [← hst1]; exact give_lk hq5 HP.out.lk
      have hc1 : st1.c ≤ st.c + 1 ∧ st1.O.length ≤ st.O.length + 1 := by rw [← hst1]; exact give_cO _ _
      rw [hst1] at hM HLook
      rw [hv1] at hM hG hXd hYd
      have HMd : Hid (TkM w0 wc d v1 (goM d.T NL) ng st1) := hM
      have HXd : Hid (TkL wc d v1 w.heap.size #[.int .i64 k, .int .i64 a, .int .i64 b] 128) := hXd
      have HYd : Hid (TkL wc d v1 yb #[.bool sb, .int .i64 sv] 102) := hYd
      have HGd : Hid (TkG d v v1 w wc) := HGc.out.trans hG
      have HLK1 : Hid (∀ s, st1.lk s < 512) := hlk1
      have y0 := hYd.cell (i := 0) rfl
      have y1 := hYd.cell (i := 1) rfl
      have x0 := hXd.cell (i := 0) rfl
      have x1 := hXd.cell (i := 1) rfl
      have x2 := hXd.cell (i := 2) rfl
      have hcc : st1.c + 90 ≤ 10000000 ∧ st1.O.length + 90 ≤ 10000000 := by have := HP.out.c; have := HP.out.O; omega
      clear hM hG hXd hYd hv1 hst1 HMc HXc HYc HGc k0 k1 k2 k3 k4 k5 k6 ron HKeep hlk1 hc1
      cases sb with
      | true =>
        simp only [if_true] at HLook
        go_wp2_with fail
        refine bodyPost_ret (v := .tuple #[]) (results_none Try.results55 _ _ _) rfl ?_
        refine ⟨rfl, ov1, ?_, ?_⟩
        · rw [HLook.out, HV1.out]; exact HMd.out
        · rw [HV1.out]; exact HGd.out
      | false =>
        simp only [Bool.false_eq_true, if_false] at HLook
        have beh := tk_behind (HMd.out.auto HE.out) (HMd.out.knows HE.out) (a := a) (b := b) ha hbl hr8 (HE.out.sym a ha)
        obtain ⟨x, hx⟩ : ∃ x, nexM R Nu Fi (a, b) q = x := ⟨_, rfl⟩
        rw [hx] at HLook
        unfold nexM at hx
        obtain ⟨bm, hbm⟩ : ∃ bm, behindM R Nu Fi (a, b) = bm := ⟨_, rfl⟩
        rw [hbm] at beh hx
        obtain ⟨f, nl⟩ := bm
        simp only at beh hx
        obtain ⟨L, hL⟩ : ∃ L, ((rulesL R sv).map fun r => (((k, (r, 0)) : Spo), x)) = L := ⟨_, rfl⟩
        rw [hL] at HLook
        obtain ⟨RI, hRI⟩ : ∃ RI, ruleI R sv R.length = RI := ⟨_, rfl⟩
        have hLl : L.length = RI.length := by rw [← hL, ← hRI]; simp [ruleI, rulesL]
        have HLI : Hid (∀ j (hj : j < L.length), L[j] = ((k, (RI.getD j (0, 0))), x) ∧ (RI.getD j (0, 0)).1 < 1000 ∧ (RI.getD j (0, 0)).2 = 0) := fun j hj => by
          subst hL
          subst hRI
          have hj' : j < (rulesL R sv).length := by simpa using hj
          have e1 : (ruleI R sv R.length).getD j (0, 0) = ((rulesL R sv)[j], 0) := by
            unfold ruleI rulesL
            unfold rulesL at hj'
            rw [List.getD, List.getElem?_map, List.getElem?_eq_getElem hj']
            rfl
          rw [e1]
          have hmem : (rulesL R sv)[j] ∈ rulesL R sv := List.getElem_mem hj'
          have hlt : (rulesL R sv)[j] < R.length := List.mem_range.1 (List.mem_filter.1 (show (rulesL R sv)[j] ∈ (List.range R.length).filter _ from hmem)).1
          exact ⟨by simp, by simp only; omega, rfl⟩
        have hRIl : RI.length ≤ 40 := by rw [← hRI]; exact Nat.le_trans (ruleI_len _ _ _) hR
        have HRI : Hid (ruleI R sv R.length = RI) := hRI
        clear hL hRI hbm
        have HLen : Hid (L.length = RI.length) := hLl
        clear hLl
        cases nl <;>
          (simp only [if_true, Bool.false_eq_true, if_false] at hx
           go_wp2_with
             (first
              | (go_at_call 67; refine beh.mono ?_; rintro e w7 ⟨rfl, hf5, hB7⟩
                 have hor := u32_or_nat f q (by omega) (by omega)
                 have hx5 : x < 512 := by rw [← hx]; first | exact or_lt hf5 hq5 | exact hf5
                 try rw [hx] at hor
                 have HM7 : Hid (TkM w0 w7 d v1 (goM d.T NL) ng st1) := HMd.out.below hB7
                 have HX7 : Hid (TkL w7 d v1 w.heap.size #[.int .i64 k, .int .i64 a, .int .i64 b] 128) := HXd.out.below hB7
                 have HG7 : Hid (TkG d v v1 w w7) := HGd.out.trans (TkG.ofBelow hB7)
                 have y7 := (HYd.out.below hB7).cell (i := 1) rfl
                 have rul := tk_rulesOf (m := sv) (HM7.out.auto HE.out) hR
                 rw [HRI.out] at rul
                 clear hB7 beh)
              | (go_at_call 68; refine rul.mono ?_; rintro e w8 ⟨rv8, rfl, hrow, hB8, -⟩
                 obtain ⟨ra, rc, hrv⟩ := own_form hrow
                 subst hrv
                 have HM8 : Hid (TkM w0 w8 d v1 (goM d.T NL) ng st1) := HM7.out.below hB8
                 have HX8 : Hid (TkL w8 d v1 w.heap.size #[.int .i64 k, .int .i64 a, .int .i64 b] 128) := HX7.out.below hB8
                 have HG8 : Hid (TkG d v v1 w w8) := HG7.out.trans (TkG.ofBelow hB8)
                 have HR8 : Hid (w8.ownsRow w7.heap.size 121 2 (.slice ra RI.length rc) RI.length (RI.flatMap tkI)) := hrow
                 have HF8 : Hid (∀ g, (Value.slice ra RI.length rc).ownBlock = some g → ¬ TkK d v1 g) := fun g hg hk => by
                   have := (hrow.lt g hg).1
                   have := (HM7.out.kc hk).2
                   omega
                 clear hrow hB8 rul y7))
           have hx55 := hx5
           clear hx hx5
           go_loopw [60] (fun s60 wr => ∃ (j : Nat) (ov2 : Value), s60 = .int .i64 j ∧ j ≤ RI.length ∧ TkM w0 wr d { v1 with ov := ov2 } (goM d.T NL) ng (givesF (L.take j) st1) ∧ TkG d v1 { v1 with ov := ov2 } w8 wr) (fun s _ => RI.length - (intOf s).toNat)
           case atStart => exact ⟨0, v1.ov, rfl, Nat.zero_le _, HM8.out, TkG.refl _ _ _⟩
           case round =>
             obtain ⟨j, ov2, rfl, hj, hM, hG⟩ := hrel
             have HGr : Hid (TkG d v1 { v1 with ov := ov2 } w8 wr) := hG
             by_cases hlt : j < RI.length
             · have hrow := row_goes HR8.out hG HF8.out
               obtain ⟨g, o, c, hve, _, q0, q1⟩ := (tk_items hrow rfl).2 j hlt
               cases hve
               rw [← Nat.add_assoc] at q1
               have hjL : j < L.length := by rw [HLen.out]; exact hlt
               obtain ⟨e1, e2, e3⟩ := HLI.out j hjL
               have hst := gives_take (st := st1) hjL
               rw [e1] at hst
               obtain ⟨⟨r, y⟩, hry⟩ : ∃ x, RI.getD j (0, 0) = x := ⟨_, rfl⟩
               rw [hry] at q0 q1 hst e2 e3
               simp only at q0 q1 hst e2 e3
               subst e3
               have HST : Hid (givesF (L.take (j + 1)) st1 = giveF ((k, (r, 0)), x) (givesF (L.take j) st1)) := hst
               have hga := gives_all (L.take j) st1 (fun g' hg' => by
                 obtain ⟨i, hi, rfl⟩ := List.getElem_of_mem hg'
                 have hi' : i < L.length := by rw [List.length_take] at hi; omega
                 rw [List.getElem_take, (HLI.out i hi').1]
                 exact hx55) HLK1.out
               have hjl : (L.take j).length ≤ 40 := by rw [List.length_take]; omega
               have hX := HX8.out.goes hG
               have x0 := (hX.alloc (.cells #[.int .i64 r, .int .i64 0] 121)).cell (i := 0) rfl
               have giv := tk_give (hM.alloc (.cells #[.int .i64 r, .int .i64 0] 121)) (a := k) (b := r) (c := 0) (m := x) ⟨by simp only; omega, by simp only; omega, by simp only; omega⟩ hx55 (hga.1 _) (by have := hga.2.1; omega) (by have := hga.2.2; omega)
               have i0 : (0 : Int) ≤ (j : Int) := Int.natCast_nonneg _
               have i1 : (j : Int) < (RI.length : Int) := by omega
               clear hM hG hrow e1 hst hry hga hX hjl
               go_wp2_with (go_at_call 53; refine giv.mono ?_; rintro e w9 ⟨rfl, ov3, hM9, hG9⟩)
               go_roundw
               case rel => exact ⟨j + 1, ov3, by go_num, by omega, by rw [HST.out]; exact hM9, (HGr.out.alloc _).trans hG9⟩
               case measure => simp [intOf]; omega
             · obtain rfl : j = RI.length := by omega
               rw [← HLen.out, List.take_length] at hM
               have HMe : Hid (TkM w0 wr d { v1 with ov := ov2 } (goM d.T NL) ng (givesF L st1)) := hM
               clear hM hG
               go_wp2_with fail
               go_end0
               have hV := HV1.out
               refine ⟨rfl, ov2, ?_, ?_⟩
               · rw [HLook.out]
                 have := HMe.out
                 rw [← hV] at this
                 exact this
               · have := HG8.out.trans HGr.out
                 rw [← hV] at this
                 exact this)

end Go.Proofs.Ytobegekmgoiopaa
