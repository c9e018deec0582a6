import Derived.Test.YtikjekfpgklbdaaStOfIAndTrEach
import Derived.Test.YtikjekfpgklbdaaRows
import Derived.Test.YtikjekfpgklbdaaMathAndOwns
import Derived.WalkKit
import Derived.WalkSpells
import Derived.Deep.QuietTactic
import Derived.BigQuiet
import Derived.Deep.AppendLies
import Derived.Deep.Draws
import Derived.WalkSmall
/- The contract of package step's grown: the tree that a derivation tells. -/
namespace Go.Proofs.Ytikjekfpgklbdaa
open Go.RowKit

/-- x[1:] of numbers. -/
theorem li_from1 {la : Option Addr} {n sl lc : Nat} (hs : sl = n + 1) : ∃ A, (∀ w : World, Sem.run Try.prog (Instr.sliceAt 27 (.slice la sl lc) (some (.int .i64 1)) none none) w = .ok (.slice A n (lc - 1)) w) ∧ (lc ≠ 1 → A = la.map (·.add 1)) := by
  have h1 : (1 : Int) ≤ (sl : Int) := by omega
  have h2 : sl - 1 = n := by omega
  refine ⟨if lc = 1 then la else la.map (·.add 1), fun w => ?_, fun h => by rw [if_neg h]⟩
  go_simp
  intro h
  omega
theorem ListAt.tail1 {w : World} {lim : Nat} {la A : Option Addr} {lc : Nat} {x : Int} {D : List Int} (h : ListAt w lim (.slice la (D.length + 1) lc) (x :: D)) (hc : D.length + 1 ≤ lc) (hA : lc ≠ 1 → A = la.map (·.add 1)) : ListAt w lim (.slice A D.length (lc - 1)) D := by
  refine ⟨⟨_, _, rfl⟩, fun p hp => ?_⟩
  obtain ⟨b, o, dc, hv, hb, hcell⟩ := h.2 (p + 1) (by simpa using hp)
  simp only [List.length_cons] at hv
  cases hv
  have hA' := hA (by omega)
  simp only [Option.map_some, Addr.add_lit] at hA'
  subst hA'
  refine ⟨b, o + 1, lc - 1, rfl, hb, ?_⟩
  rw [show o + 1 + p = o + (p + 1) by omega, hcell]
  simp

theorem TrOwn.setLow {w : World} {B : Nat} {v : Value} {L : List Tr} (h : TrOwn w B (fun _ => False) v L) {a : Addr} (ha : a.block < B) (u : Value) : TrOwn (w.setCell a u) B (fun _ => False) v L :=
  ⟨own_setLow h.own ha u, fun x hx => (h.kids x hx).kept fun b hb _ => ⟨Below.heap_setCell _ _ _ _ (by rcases hb with hb | hb; exact hb.elim; have := hb.1; omega), hb⟩⟩

/-- What grown holds on its way: the tree's box, the trees that are grown, what is left of the list. -/
structure GrI (w : World) (lim : Nat) (R : List Ru) (q : Nat) (ks : Fo) (l : List Sy) (X : List Int) (k : Nat) (ts : Fo) (M : List Tr) (ov dv : Value) (wr : World) : Prop where
  all : appF (rowOf M) ts = ks
  ok : okF R ts (namesS (l.drop k))
  res : wr.heap[w.heap.size]? = some (.cells #[.int .i64 0, .slice none 0 0] 70 (0, 0))
  box : wr.heap[w.heap.size + 1]? = some (.cells #[.int .i64 (q : Int), ov] 70 (0, 0))
  own : TrOwn wr (w.heap.size + 2) (fun _ => False) ov M
  lis : ListAt wr lim dv (flatFo ts ++ X)
  lle : lim ≤ w.heap.size
  cap : ∃ da n dc, dv = .slice da n dc ∧ n ≤ dc
  below : Below w.heap.size w wr

section
variable {w wr w' : World} {lim : Nat} {R : List Ru} {q : Nat} {ks : Fo} {l : List Sy} {X : List Int} {k : Nat} {ts : Fo} {M : List Tr} {ov dv : Value}
theorem GrI.size (h : GrI w lim R q ks l X k ts M ov dv wr) : w.heap.size + 2 ≤ wr.heap.size := by
  have := (Array.getElem?_eq_some_iff.1 h.box).1
  omega
theorem GrI.next (h : GrI w lim R q ks l X k ts M ov dv wr) (hb : Below wr.heap.size wr w') : GrI w lim R q ks l X k ts M ov dv w' := by
  have hz := h.size
  exact ⟨h.all, h.ok, (hb.block _ (by omega)).trans h.res, (hb.block _ (by omega)).trans h.box, h.own.below hb, h.lis.below (hb.mono (by have := h.lle; omega)), h.lle, h.cap, h.below.trans (hb.mono (by omega))⟩
end

set_option maxRecDepth 100000 in
set_option maxHeartbeats 12800000 in
theorem st_grown {R : List Ru} {ra : Option Addr} {rc : Nat} (hl2 : ∀ q, q < R.length → (R.getD q (0, [])).2.length ≤ 1000) : ∀ (z : Nat) (w : World) (q : Nat) (ks : Fo) (X : List Int) (dv : Value) (lim : Nat), (flatFo ks).length < z → q < R.length → okF R ks (namesS (R.getD q (0, [])).2) → RulesAt w w.heap.size (.slice ra R.length rc) R → ListAt w lim dv ((q : Int) :: (flatFo ks ++ X)) → lim ≤ w.heap.size → (∃ da n dc, dv = .slice da n dc ∧ n ≤ dc) → (flatFo ks).length ≤ 50000 →
    Calls Try.prog 32 #[.slice ra R.length rc, dv] w fun e w' => ∃ kv dv', e = .returned (.tuple #[.agg #[.int .i64 (q : Int), kv], dv']) ∧ FoIn w' (fun b => w.heap.size ≤ b) kv ks ∧ ListAt w' lim dv' X ∧ (∃ da n dc, dv' = .slice da n dc ∧ n ≤ dc) ∧ Below w.heap.size w w' := by
  intro z
  induction z with
  | zero => intro w q ks X dv lim h; omega
  | succ z ih =>
    intro w q ks X dv lim hz hq hok hr hd hlim hdc hl
    have HIh : Hid (∀ (w : World) (q : Nat) (ks : Fo) (X : List Int) (dv : Value) (lim : Nat), (flatFo ks).length < z → q < R.length → okF R ks (namesS (R.getD q (0, [])).2) → RulesAt w w.heap.size (.slice ra R.length rc) R → ListAt w lim dv ((q : Int) :: (flatFo ks ++ X)) → lim ≤ w.heap.size → (∃ da n dc, dv = .slice da n dc ∧ n ≤ dc) → (flatFo ks).length ≤ 50000 →
      Calls Try.prog 32 #[.slice ra R.length rc, dv] w fun e w' => ∃ kv dv', e = .returned (.tuple #[.agg #[.int .i64 (q : Int), kv], dv']) ∧ FoIn w' (fun b => w.heap.size ≤ b) kv ks ∧ ListAt w' lim dv' X ∧ (∃ da n dc, dv' = .slice da n dc ∧ n ≤ dc) ∧ Below w.heap.size w w') := ih
    have HR : Hid (RulesAt w w.heap.size (.slice ra R.length rc) R) := hr
    have hl1000 := hl2 q hq
    obtain ⟨da, n0, dc, hdv, hndc⟩ := hdc
    have e2 : n0 = ((q : Int) :: (flatFo ks ++ X)).length := by
      obtain ⟨_, _, hdv2⟩ := hd.1
      rw [hdv] at hdv2
      injection hdv2
    obtain ⟨D, hD⟩ : ∃ D, flatFo ks ++ X = D := ⟨_, rfl⟩
    rw [hD, List.length_cons] at e2
    rw [hD] at hd
    subst hdv
    obtain ⟨b0, o0, rc0, qa, qc, hv, _, k1, k2, hsy⟩ := hr.syms hq
    cases hv
    obtain ⟨⟨L, l⟩, hx⟩ : ∃ x, R.getD q (0, []) = x := ⟨_, rfl⟩
    rw [hx] at k1 k2 hsy hok hl1000
    simp only at k1 k2 hsy hok hl1000
    obtain ⟨db, dob, dc', hdv', hdbl, dcell⟩ := hd.2 0 (by simp)
    have hdb : db < w.heap.size := by omega
    simp only [List.length_cons] at hdv'
    rw [← e2] at hdv'
    cases hdv'
    simp only [List.getD_cons_zero, Nat.add_zero] at dcell
    obtain ⟨A, hA, hA'⟩ := li_from1 (la := some ⟨db, dob, none⟩) (n := D.length) (sl := n0) (lc := dc) e2
    obtain ⟨W1, hW1⟩ : ∃ W, (w.alloc (.cells #[.int .i64 0, .slice none 0 0] 70)).alloc (.cells #[.int .i64 (q : Int), .slice none 0 0] 70) = W := ⟨_, rfl⟩
    have hB1 : Below w.heap.size w W1 := by rw [← hW1]; exact ((Below.refl _ _).alloc (Nat.le_refl _) _).alloc (by simp) _
    have hG : GrI w lim R q ks l X 0 ks [] (.slice none 0 0) (.slice A D.length (dc - 1)) W1 := by
      have hz1 : (w.alloc (.cells #[.int .i64 0, .slice none 0 0] 70)).heap.size = w.heap.size + 1 := by simp
      refine ⟨rfl, by simpa using hok, ?_, ?_, trOwn_nil _ _ _, ?_, hlim, ⟨_, _, _, rfl, by omega⟩, hB1⟩
      · rw [← hW1, ((Below.refl _ _).alloc (Nat.le_refl _) (.cells #[.int .i64 (q : Int), .slice none 0 0] 70)).block w.heap.size (by rw [hz1]; omega)]
        exact heap_alloc_new _ _
      · rw [← hW1, ← hz1]
        exact heap_alloc_new _ _
      · rw [hD]
        rw [e2] at hd hndc
        exact (hd.tail1 hndc hA').below (hB1.mono hlim)
    have HG : Hid (GrI w lim R q ks l X 0 ks [] (.slice none 0 0) (.slice A D.length (dc - 1)) W1) := hG
    have x0 : W1.cell? ⟨w.heap.size + 1, 0, none⟩ = some (.int .i64 (q : Int)) := cell_of_blk hG.box rfl
    have y2 := (hB1.cell (World.block_lt_of_cell? _ _ k2)).trans k2
    have HSy : Hid (∀ wq, Below w.heap.size w wq → SymsAt wq (.slice qa l.length qc) l) := fun wq hq => hsy.same (same_below hq)
    have HZ : Hid ((flatFo ks).length < z + 1 ∧ (flatFo ks).length ≤ 50000) := ⟨hz, hl⟩
    have HHl : Hid (∀ q, q < R.length → (R.getD q (0, [])).2.length ≤ 1000) := hl2
    have i0 : (0 : Int) ≤ (q : Int) := Int.natCast_nonneg _
    have i1 : (q : Int) < (R.length : Int) := by omega
    have j1 : (0 : Int) < (n0 : Int) := by omega
    have HW1 : Hid ((w.alloc (.cells #[.int .i64 0, .slice none 0 0] 70)).alloc (.cells #[.int .i64 (q : Int), .slice none 0 0] 70) = W1) := hW1
    clear e2 ih hr hx hsy hok hd hG hB1 hA' hz hl hD hW1
    go_enter Try.func32, Try.ntmps32
    go_upto_region 2 with fail
    rw [HW1.out]
    go_wp2_with fail
    clear x0 y2 k1 k2 dcell hA j1 HW1
    go_loopw [1, 23] (fun s1 s23 wr => ∃ (k : Nat) (ts : Fo) (M : List Tr) (ov dv : Value), dv = s1 ∧ s23 = .int .i64 k ∧ k ≤ l.length ∧ GrI w lim R q ks l X k ts M ov dv wr) (fun _ s _ => l.length - (intOf s).toNat)
    case atStart => exact ⟨0, ks, [], _, _, rfl, rfl, Nat.zero_le _, HG.out⟩
    case round =>
      obtain ⟨k, ts, M, ov, dv, rfl, rfl, hk, hG⟩ := hrel
      clear HG
      have HG : Hid (GrI w lim R q ks l X k ts M ov dv wr) := hG
      by_cases hlt : k < l.length
      · obtain ⟨b, o, c, hv, c1, c2⟩ := (HSy.out wr hG.below).2 k hlt
        cases hv
        obtain ⟨⟨t, v⟩, hx⟩ : ∃ x, l.getD k (false, 0) = x := ⟨_, rfl⟩
        rw [hx] at c1 c2
        simp only at c1 c2
        have hlk : l.drop k = (t, v) :: l.drop (k + 1) := by
          rw [List.drop_eq_getElem_cons hlt, ← hx]
          simp [List.getD, hlt]
        obtain ⟨da, dn, dc2, hdv, hdle⟩ := hG.cap
        subst hdv
        obtain ⟨W2, hW2⟩ : ∃ W, wr.alloc (.cells #[.bool t, .int .i64 v] 52) = W := ⟨_, rfl⟩
        have hB2 : Below wr.heap.size wr W2 := by rw [← hW2]; exact (Below.refl _ _).alloc (Nat.le_refl _) _
        have d0 : W2.cell? ⟨wr.heap.size, 0, none⟩ = some (.bool t) := by rw [← hW2]; exact cell_of_blk (heap_alloc_new _ _) rfl
        have HG2 : Hid (GrI w lim R q ks l X k ts M ov (.slice da dn dc2) W2) := hG.next hB2
        have HLk : Hid (l.drop k = (t, v) :: l.drop (k + 1)) := hlk
        have i2 : (0 : Int) ≤ (k : Int) := Int.natCast_nonneg _
        have i3 : (k : Int) < (l.length : Int) := by omega
        clear hG hx hlk hB2
        cases t with
        | true =>
          go_wp2_with fail
          go_roundw
          case rel =>
            have h := HG2.out
            refine ⟨k + 1, ts, M, ov, _, rfl, by go_num, by omega, h.all, ?_, h.res, h.box, h.own, h.lis, h.lle, h.cap, h.below⟩
            have := h.ok
            rw [HLk.out] at this
            exact this
          case measure => simp [intOf]; omega
        | false =>
          have hok2 := HG2.out.ok
          rw [HLk.out, namesS] at hok2
          obtain ⟨q1, ks1, ts1, hts, hq1, _, hok3, hok4⟩ := okF_cons hok2
          subst hts
          have hall := HG2.out.all
          have hfl : (flatFo ks).length = (flatFo (rowOf M)).length + (1 + (flatFo ks1).length + (flatFo ts1).length) := by
            rw [← hall, flat_app, List.length_append, flatFo, List.length_cons, List.length_append]
            omega
          have hMl : M.length ≤ 50000 := by
            have h1 := len_flatL M
            rw [← flat_rowOf] at h1
            have := HZ.out.2
            omega
          have hlis := HG2.out.lis
          rw [flatFo, List.cons_append, List.append_assoc] at hlis
          obtain ⟨W3, hW3⟩ : ∃ W, W2.alloc (.cells #[.int .i64 0, .slice none 0 0] 70) = W := ⟨_, rfl⟩
          have hB3 : Below W2.heap.size W2 W3 := by rw [← hW3]; exact (Below.refl _ _).alloc (Nat.le_refl _) _
          have hwb : W3.heap[W2.heap.size]? = some (.cells #[.int .i64 0, .slice none 0 0] 70 (0, 0)) := by rw [← hW3]; exact heap_alloc_new _ _
          have hz3 : W3.heap.size = W2.heap.size + 1 := by rw [← hW3]; simp
          have hG3 := HG2.out.next hB3
          have hr3 : RulesAt W3 W3.heap.size (.slice (some ⟨b0, o0, none⟩) R.length rc) R := (HR.out.below hG3.below).mono hG3.below.size
          have li := HIh.out W3 q1 ks1 (flatFo ts1 ++ X) (.slice da dn dc2) lim (by have := HZ.out.1; omega) hq1 hok3 hr3 (hlis.below (hB3.mono (by have := HG2.out.lle; have := HG2.out.size; omega))) (by have := HG2.out.lle; have := hG3.below.size; omega) ⟨_, _, _, rfl, hdle⟩ (by have := HZ.out.2; omega)
          obtain ⟨wb, hwbe⟩ : ∃ x, W2.heap.size = x := ⟨_, rfl⟩
          have hG2s := HG2.out.size
          have HW : Hid (W3.heap[wb]? = some (.cells #[.int .i64 0, .slice none 0 0] 70 (0, 0)) ∧ W3.heap.size = wb + 1 ∧ W2.heap.size = wb ∧ w.heap.size + 2 ≤ wb) := by
            refine ⟨by rw [← hwbe]; exact hwb, by rw [← hwbe]; exact hz3, hwbe, by omega⟩
          have HG3 : Hid (GrI w lim R q ks l X k (.nd q1 ks1 ts1) M ov (.slice da dn dc2) W3) := hG3
          have HOk : Hid (okF R ts1 (namesS (l.drop (k + 1))) ∧ M.length ≤ 50000) := ⟨hok4, hMl⟩
          have hovf := own_form HG2.out.own.own
          obtain ⟨oa, oc, hov⟩ := hovf
          subst hov
          have HB3 : Hid (Below W2.heap.size W2 W3) := hB3
          have hsz : w.heap.size + 1 < wb := by omega
          clear hok2 hok3 hok4 hall hfl hMl hlis hB3 hwb hz3 hG3 hr3 hG2s HG3
          go_wp2_with
            (first
             | (go_at_call 32; refine li.mono ?_; rintro e w4 ⟨kv1, dv1, rfl, hk1, hli1, hcap1, hB4⟩
                have hk1' := hk1
                obtain ⟨ka1, kc1, hkv1, _⟩ := hk1'
                obtain ⟨n1, hn1⟩ : ∃ n, lenF ks1 = n := ⟨_, rfl⟩
                rw [hn1] at hkv1
                subst hkv1
                have hwb4 := (hB4.block wb (by have := HW.out.2.1; omega)).trans HW.out.1
                have z0 : w4.cell? ⟨wb, 0, none⟩ = some (.int .i64 0) := cell_of_blk hwb4 rfl
                have z1 : w4.cell? ⟨wb, 1, none⟩ = some (.slice none 0 0) := cell_of_blk hwb4 rfl
                have zf0 : w4.frozen? ⟨wb, 0, none⟩ = false := frozen_of_blk hwb4
                have zf1 : w4.frozen? ⟨wb, 1, none⟩ = false := frozen_of_blk hwb4
                obtain ⟨W5, hW5⟩ : ∃ W, (w4.setCell ⟨wb, 0, none⟩ (.int .i64 (q1 : Int))).setCell ⟨wb, 1, none⟩ (.slice ka1 n1 kc1) = W := ⟨_, rfl⟩
                have hB25 : Below W2.heap.size W2 W5 := by
                  rw [← hW5]
                  exact ((HB3.out.trans (hB4.mono HB3.out.size)).setCell (p := ⟨wb, 0, none⟩) (by have := HW.out.2.2.1; simp only; omega) _).setCell (p := ⟨wb, 1, none⟩) (by have := HW.out.2.2.1; simp only; omega) _
                have hG5 := HG2.out.next hB25
                have t1 : W5.cell? ⟨w.heap.size + 1, 1, none⟩ = some (.slice oa M.length oc) := cell_of_blk hG5.box rfl
                have v0 : W5.cell? ⟨wb, 0, none⟩ = some (.int .i64 (q1 : Int)) := by rw [← hW5, cell_set_other (.inr (by simp))]; exact World.cell?_setCell_same _ _ _ z0
                have v1 : W5.cell? ⟨wb, 1, none⟩ = some (.slice ka1 n1 kc1) := by rw [← hW5]; exact World.cell?_setCell_same _ _ _ ((cell_set_other (.inr (by simp))).trans z1)
                have hk5 : FoIn W5 (fun b => W2.heap.size ≤ b) (.slice ka1 n1 kc1) ks1 := hk1.kept fun b hb _ => by
                  have h1 := HW.out.2.1
                  have h2 := HW.out.2.2.1
                  refine ⟨?_, by omega⟩
                  rw [← hW5, Below.heap_setCell _ _ _ _ (by simp only; omega), Below.heap_setCell _ _ _ _ (by simp only; omega)]
                have hli5 : ListAt W5 lim dv1 (flatFo ts1 ++ X) := by
                  have hll := HG2.out.lle
                  have h1 := HW.out.2.2.2
                  refine hli1.below ?_
                  rw [← hW5]
                  exact ((Below.refl _ _).setCell (p := ⟨wb, 0, none⟩) (by simp only; omega) _).setCell (p := ⟨wb, 1, none⟩) (by simp only; omega) _
                have hrow : RowAt (W5.alloc (.cells #[.int .i64 (q1 : Int), .slice ka1 n1 kc1] 70)) (.slice (some ⟨W5.heap.size, 0, none⟩) 1 1) 1 [.int .i64 (q1 : Int), .slice ka1 n1 kc1] := tree_row
                have hB6 : Below W5.heap.size W5 (W5.alloc (.cells #[.int .i64 (q1 : Int), .slice ka1 n1 kc1] 70)) := (Below.refl _ _).alloc (Nat.le_refl _) _
                have own6 := (hG5.next hB6).own.own
                have hb6 : w.heap.size + 2 ≤ (W5.alloc (.cells #[.int .i64 (q1 : Int), .slice ka1 n1 kc1] 70)).heap.size := (hG5.next hB6).size
                have hl6 : M.length + 1 ≤ 100000 := by have := HOk.out.2; omega
                have HG5 : Hid (GrI w lim R q ks l X k (.nd q1 ks1 ts1) M (.slice oa M.length oc) (.slice da dn dc2) W5 ∧ FoIn W5 (fun b => W2.heap.size ≤ b) (.slice ka1 n1 kc1) ks1 ∧ ListAt W5 lim dv1 (flatFo ts1 ++ X) ∧ Below W2.heap.size W2 W5) := ⟨hG5, hk5, hli5, hB25⟩
                clear li hk1 hli1 hB4 hwb4 hB25 hG5 hk5 hli5 hn1)
             | (at_builtin
                refine wpList_append_ccT rfl _ _ rfl rfl rfl rfl own6 hrow hb6 hl6 ?_
                intro a' d' w7 hown7 hgrow hat
                have hB7 : Below (w.heap.size + 2) W5 w7 := (hB6.mono (HG5.out.1.size)).grown hgrow hb6 fun j hj => (own6.lt j hj).1
                have hbx7 := (hB7.block (w.heap.size + 1) (by omega)).trans HG5.out.1.box
                have g1 : w7.cell? ⟨w.heap.size + 1, 1, none⟩ = some (.slice oa M.length oc) := cell_of_blk hbx7 rfl
                have gf : w7.frozen? ⟨w.heap.size + 1, 1, none⟩ = false := frozen_of_blk hbx7
                have HB7 : Hid (Below (w.heap.size + 2) W5 w7 ∧ w7.heap[w.heap.size + 1]? = some (.cells #[.int .i64 (q : Int), .slice oa M.length oc] 70 (0, 0))) := ⟨hB7, hbx7⟩
                clear hB7 hbx7))
          go_roundw
          case rel =>
            have hG5 := HG5.out.1
            have h1 := HW.out.2.2.1
            have h2 := HW.out.2.2.2
            have hB57 := HB7.out.1
            have hll := HG2.out.lle
            have hown : TrOwn w7 (w.heap.size + 2) (fun _ => False) (.slice a' (M.length + 1) d') (M ++ [(.slice ka1 n1 kc1, q1, ks1)]) := by
              refine HG2.out.own.push (w5 := W5.alloc (.cells #[.int .i64 (q1 : Int), .slice ka1 n1 kc1] 70)) (fun b hb => hb.elim) HG2.out.size (HG5.out.2.2.2.trans (hB6.mono HG5.out.2.2.2.size)) ?_ hgrow ?_ (fun g hg => (hat g hg).imp id fun e => by omega)
              · exact (HG5.out.2.1.kept fun b hb _ => ⟨rfl, .inr hb⟩).below hB6
              · rw [flatT_push]
                exact hown7
            refine ⟨k + 1, ts1, M ++ [(.slice ka1 n1 kc1, q1, ks1)], .slice a' (M.length + 1) d', _, rfl, by go_num, by omega, ?_, HOk.out.1, ?_, ?_, ?_, ?_, hll, hcap1, ?_⟩
            · rw [rowOf_app, app_assoc]
              exact HG2.out.all
            · rw [Below.heap_setCell _ _ _ _ (by simp only; omega), hB57.block _ (by omega)]
              exact hG5.res
            · have := heap_setCell_same w7 (w.heap.size + 1) 1 _ 70 (.slice a' (M.length + 1) d') HB7.out.2
              simpa using this
            · exact hown.setLow (by simp) _
            · exact HG5.out.2.2.1.below ((hB57.mono (by omega)).setCell (by simp only; omega) _)
            · exact (hG5.below.trans (hB57.mono (by omega))).setCell (by simp only; omega) _
          case measure => simp [intOf]; omega
      · have hkk : k = l.length := by omega
        have hok := hG.ok
        rw [hkk, List.drop_length, namesS] at hok
        have hts := okF_no hok
        subst hts
        obtain ⟨oa, oc, hov⟩ := own_form hG.own.own
        subst hov
        obtain ⟨da, dn, dc2, hdv, hdle⟩ := hG.cap
        subst hdv
        have t0 : wr.cell? ⟨w.heap.size + 1, 0, none⟩ = some (.int .i64 (q : Int)) := cell_of_blk hG.box rfl
        have t1 : wr.cell? ⟨w.heap.size + 1, 1, none⟩ = some (.slice oa M.length oc) := cell_of_blk hG.box rfl
        have r0 : wr.cell? ⟨w.heap.size, 0, none⟩ = some (.int .i64 0) := cell_of_blk hG.res rfl
        have r1 : wr.cell? ⟨w.heap.size, 1, none⟩ = some (.slice none 0 0) := cell_of_blk hG.res rfl
        have rf0 : wr.frozen? ⟨w.heap.size, 0, none⟩ = false := frozen_of_blk hG.res
        have rf1 : wr.frozen? ⟨w.heap.size, 1, none⟩ = false := frozen_of_blk hG.res
        clear hG hok hkk
        go_wp2_with fail
        have q0 : ((wr.setCell ⟨w.heap.size, 0, none⟩ (.int .i64 (q : Int))).setCell ⟨w.heap.size, 1, none⟩ (.slice oa M.length oc)).cell? ⟨w.heap.size, 0, none⟩ = some (.int .i64 (q : Int)) := by
          rw [cell_set_other (.inr (by simp))]; exact World.cell?_setCell_same _ _ _ r0
        have q1 : ((wr.setCell ⟨w.heap.size, 0, none⟩ (.int .i64 (q : Int))).setCell ⟨w.heap.size, 1, none⟩ (.slice oa M.length oc)).cell? ⟨w.heap.size, 1, none⟩ = some (.slice oa M.length oc) :=
          World.cell?_setCell_same _ _ _ ((cell_set_other (.inr (by simp))).trans r1)
        refine bodyPost_ret (v := .tuple #[.agg #[.int .i64 (q : Int), .slice oa M.length oc], .slice da dn dc2]) (by simp [results, Try.results32, go_sem, q0, q1]) rfl ?_
        have h := HG.out
        have hll := h.lle
        have hall := h.all
        have happ : ∀ t, appF t .no = t := fun t => by
          induction t with
          | no => rfl
          | nd q ks ts _ ih => rw [appF, ih]
        rw [happ] at hall
        refine ⟨_, _, rfl, ?_, ?_, ⟨_, _, _, rfl, hdle⟩, (h.below.setCell (by simp) _).setCell (by simp) _⟩
        · rw [← hall]
          refine h.own.trIn.fo.kept fun b hb _ => ?_
          have hb2 : w.heap.size + 2 ≤ b := hb.elim (fun h => h.elim) id
          refine ⟨?_, by omega⟩
          rw [Below.heap_setCell _ _ _ _ (by simp only; omega), Below.heap_setCell _ _ _ _ (by simp only; omega)]
        · have hlis := h.lis
          rw [flatFo, List.nil_append] at hlis
          exact hlis.below (((Below.refl _ _).setCell (by simp only; omega) _).setCell (by simp only; omega) _)

end Go.Proofs.Ytikjekfpgklbdaa

/- The contracts of isBelow, next and end. -/
namespace Go.Proofs.Ytikjekfpgklbdaa
open Go.RowKit

theorem below_any (n m : Int) (w : World) :
    Calls Try.prog 33 #[.int .i64 n, .int .i64 m] w fun e w' => e = .returned (.bool (decide (0 ≤ n ∧ n < m))) ∧ w' = w := by
  by_cases h0 : 0 ≤ n
  · go_enter Try.func33, Try.ntmps33
    go_wp2
    go_ret
    exact ⟨by simp [h0], rfl⟩
  · go_enter Try.func33, Try.ntmps33
    go_wp2
    go_ret
    exact ⟨by simp; omega, rfl⟩

/-- What the reader panics with. -/
def gaveUp : List PanicEntry := [{ v := .iface 9 (.string { data := #[110, 111, 32, 100, 101, 114, 105, 118, 97, 116, 105, 111, 110] }), recovered := false }]

theorem next_ok (rb b o c rl rc b2 o2 p q : Nat) (L : Nat) (n : Int) (w : World)
    (c2 : w.cell? ⟨rb, 2, none⟩ = some (.slice (some ⟨b2, o2, none⟩) rl rc))
    (c3 : w.cell? ⟨rb, 1 + 2, none⟩ = some (.slice (some ⟨b, o, none⟩) L c))
    (c4 : w.cell? ⟨rb, 4, none⟩ = some (.int .i64 p))
    (f4 : w.frozen? ⟨rb, 4, none⟩ = false)
    (hp : p < L) (hL : L ≤ maxLen) (hd : w.cell? ⟨b, o + p, none⟩ = some (.int .i64 q)) (hq : q < rl) (hl : w.cell? ⟨b2, o2 + q * 2, none⟩ = some (.int .i64 n)) :
    Calls Try.prog 55 #[.pointer (some ⟨rb, 0, none⟩), .int .i64 n] w fun e w' => e = .returned (.int .i64 q) ∧ ∃ m, w' = (w.drewN m).setCell ⟨rb, 4, none⟩ (.int .i64 (p + 1)) := by
  unfold maxLen at hL
  go_enter Try.func55, Try.ntmps55
  go_wp2_with fail
  go_quiet (fail)
  go_wp2_with fail
  go_quiet (fail)
  go_wp2_with (go_at_call 33; refine (below_any _ _ _).mono ?_; rintro e w' ⟨rfl, rfl⟩)
  go_ret
  exact ⟨rfl, _, rfl⟩

theorem next_end (rb L c p : Nat) (da : Option Addr) (n : Int) (w : World)
    (c3 : w.cell? ⟨rb, 1 + 2, none⟩ = some (.slice da L c)) (c4 : w.cell? ⟨rb, 4, none⟩ = some (.int .i64 p)) (hp : L ≤ p) :
    Calls Try.prog 55 #[.pointer (some ⟨rb, 0, none⟩), .int .i64 n] w fun e w' => e = .panicked gaveUp ∧ ∃ m, w' = w.drewN m := by
  go_enter Try.func55, Try.ntmps55
  go_wp2_with fail
  go_quiet (fail)
  go_wp2_with fail
  exact ⟨rfl, rfl, _, rfl⟩

theorem next_out (rb b o c rl rc p : Nat) (ra : Option Addr) (x : Int) (L : Nat) (n : Int) (w : World)
    (c2 : w.cell? ⟨rb, 2, none⟩ = some (.slice ra rl rc))
    (c3 : w.cell? ⟨rb, 1 + 2, none⟩ = some (.slice (some ⟨b, o, none⟩) L c))
    (c4 : w.cell? ⟨rb, 4, none⟩ = some (.int .i64 p))
    (hp : p < L) (hd : w.cell? ⟨b, o + p, none⟩ = some (.int .i64 x)) (hx : ¬ (0 ≤ x ∧ x < rl)) :
    Calls Try.prog 55 #[.pointer (some ⟨rb, 0, none⟩), .int .i64 n] w fun e w' => e = .panicked gaveUp ∧ ∃ m, w' = w.drewN m := by
  have hd' : decide (0 ≤ x ∧ x < (rl : Int)) = false := by simpa using hx
  clear hx
  go_enter Try.func55, Try.ntmps55
  go_wp2_with fail
  go_quiet (fail)
  go_wp2_with fail
  go_quiet (fail)
  go_wp2_with (go_at_call 33; refine (below_any _ _ _).mono ?_; rintro e w' ⟨rfl, rfl⟩)
  exact ⟨rfl, rfl, _, rfl⟩

theorem next_other (rb b o c rl rc b2 o2 p q : Nat) (L : Nat) (l n : Int) (w : World)
    (c2 : w.cell? ⟨rb, 2, none⟩ = some (.slice (some ⟨b2, o2, none⟩) rl rc))
    (c3 : w.cell? ⟨rb, 1 + 2, none⟩ = some (.slice (some ⟨b, o, none⟩) L c))
    (c4 : w.cell? ⟨rb, 4, none⟩ = some (.int .i64 p))
    (hp : p < L) (hd : w.cell? ⟨b, o + p, none⟩ = some (.int .i64 q)) (hq : q < rl) (hl : w.cell? ⟨b2, o2 + q * 2, none⟩ = some (.int .i64 l)) (hn : ¬ l = n) :
    Calls Try.prog 55 #[.pointer (some ⟨rb, 0, none⟩), .int .i64 n] w fun e w' => e = .panicked gaveUp ∧ ∃ m, w' = w.drewN m := by
  go_enter Try.func55, Try.ntmps55
  go_wp2_with fail
  go_quiet (fail)
  go_wp2_with fail
  go_quiet (fail)
  go_wp2_with (go_at_call 33; refine (below_any _ _ _).mono ?_; rintro e w' ⟨rfl, rfl⟩)
  exact ⟨rfl, rfl, _, rfl⟩

theorem end_ok (rb L c p : Nat) (da : Option Addr) (w : World)
    (c3 : w.cell? ⟨rb, 1 + 2, none⟩ = some (.slice da L c)) (c4 : w.cell? ⟨rb, 4, none⟩ = some (.int .i64 p)) (hp : ¬ p < L) :
    Calls Try.prog 53 #[.pointer (some ⟨rb, 0, none⟩)] w fun e w' => e = .returned (.tuple #[]) ∧ ∃ m, w' = w.drewN m := by
  go_enter Try.func53, Try.ntmps53
  go_wp2_with fail
  go_quiet (fail)
  go_wp2_with fail
  go_end0
  exact ⟨rfl, _, rfl⟩

theorem end_left (rb L c p : Nat) (da : Option Addr) (w : World)
    (c3 : w.cell? ⟨rb, 1 + 2, none⟩ = some (.slice da L c)) (c4 : w.cell? ⟨rb, 4, none⟩ = some (.int .i64 p)) (hp : p < L) :
    Calls Try.prog 53 #[.pointer (some ⟨rb, 0, none⟩)] w fun e w' => e = .panicked gaveUp ∧ ∃ m, w' = w.drewN m := by
  go_enter Try.func53, Try.ntmps53
  go_wp2_with fail
  go_quiet (fail)
  go_wp2_with fail
  exact ⟨rfl, rfl, _, rfl⟩

end Go.Proofs.Ytikjekfpgklbdaa

/- How a reader of the program's package gram lies in memory while it reads, and that each of its steps keeps it so. No walk. -/
namespace Go.Proofs.Ytikjekfpgklbdaa
open Go.RowKit

/-- A list of spans as cells. -/
def flatG (S : List Sp) : List Value := S.flatMap fun t => [.int .i64 t.1, .int .i64 t.2.1, .int .i64 t.2.2]

theorem flatG_append (S T : List Sp) : flatG (S ++ T) = flatG S ++ flatG T := by simp [flatG]

theorem flatG_get {S : List Sp} {i : Nat} {t : Sp} (h : S[i]? = some t) :
    (flatG S)[i * 3]? = some (.int .i64 t.1) ∧ (flatG S)[i * 3 + 1]? = some (.int .i64 t.2.1) ∧ (flatG S)[i * 3 + 2]? = some (.int .i64 t.2.2) := by
  induction S generalizing i with
  | nil => simp at h
  | cons a r ih =>
    cases i with
    | zero =>
      simp only [List.getElem?_cons_zero, Option.some.injEq] at h
      subst h
      simp [flatG]
    | succ i =>
      simp only [List.getElem?_cons_succ] at h
      obtain ⟨h1, h2, h3⟩ := ih h
      have e : flatG (a :: r) = [.int .i64 a.1, .int .i64 a.2.1, .int .i64 a.2.2] ++ flatG r := by simp [flatG]
      rw [e]
      refine ⟨?_, ?_, ?_⟩
      · rw [List.getElem?_append_right (by simp; omega), ← h1]; congr 1; simp; omega
      · rw [List.getElem?_append_right (by simp; omega), ← h2]; congr 1; simp; omega
      · rw [List.getElem?_append_right (by simp; omega), ← h3]; congr 1; simp; omega

theorem flatG_set {S : List Sp} {i : Nat} {t : Sp} (v : Nat) (h : S[i]? = some t) : (flatG S).set (i * 3 + 2) (.int .i64 v) = flatG (S.set i (t.1, t.2.1, v)) := by
  induction S generalizing i with
  | nil => simp at h
  | cons a r ih =>
    have e : ∀ a r, flatG (a :: r) = [.int .i64 a.1, .int .i64 a.2.1, .int .i64 a.2.2] ++ flatG r := fun a r => by simp [flatG]
    cases i with
    | zero =>
      simp only [List.getElem?_cons_zero, Option.some.injEq] at h
      subst h
      simp [flatG]
    | succ i =>
      simp only [List.getElem?_cons_succ] at h
      rw [List.set_cons_succ, e, e, List.set_append_right _ _ (by simp; omega), ← ih h]
      congr 2
      simp; omega

/-- A reader at block rb (its 'ok' at rb + 1), reading the rules rv and the list dv, has done st; nothing below B has turned since W. -/
structure Inv (W : World) (B rb : Nat) (tv nv rv dv : Value) (w : World) (st : St) (yv sv : Value) : Prop where
  below : Below B W w
  le : B ≤ rb
  lt : rb + 1 < w.heap.size
  c0 : w.cell? ⟨rb, 0, none⟩ = some tv
  c1 : w.cell? ⟨rb, 1, none⟩ = some nv
  c2 : w.cell? ⟨rb, 2, none⟩ = some rv
  c3 : w.cell? ⟨rb, 3, none⟩ = some dv
  c4 : w.cell? ⟨rb, 4, none⟩ = some (.int .i64 st.pos)
  c5 : w.cell? ⟨rb, 5, none⟩ = some yv
  c6 : w.cell? ⟨rb, 6, none⟩ = some sv
  fr : ∀ o, w.frozen? ⟨rb, o, none⟩ = false
  ok : w.cell? ⟨rb + 1, 0, none⟩ = some (.bool false)
  okf : w.frozen? ⟨rb + 1, 0, none⟩ = false
  ownY : w.ownsRow (rb + 2) 3 1 yv st.Y.length (st.Y.map (Value.int .i64))
  ownS : w.ownsRow (rb + 2) 57 3 sv st.S.length (flatG st.S)
  apart : ∀ g, yv.ownBlock = some g → sv.ownBlock = some g → False

/-- What is left to be known of it when it has given up. -/
structure Weak (W : World) (B rb : Nat) (w : World) : Prop where
  below : Below B W w
  le : B ≤ rb
  lt : rb + 1 < w.heap.size
  cs : ∀ o, o < 7 → ∃ v, w.cell? ⟨rb, o, none⟩ = some v
  fr : ∀ o, w.frozen? ⟨rb, o, none⟩ = false
  ok : w.cell? ⟨rb + 1, 0, none⟩ = some (.bool false)
  okf : w.frozen? ⟨rb + 1, 0, none⟩ = false

section
variable {W : World} {B rb : Nat} {tv nv rv dv : Value} {w : World} {st : St} {yv sv : Value}

theorem Inv.weak (h : Inv W B rb tv nv rv dv w st yv sv) : Weak W B rb w :=
  ⟨h.below, h.le, h.lt, fun o ho => by
    match o, ho with
    | 0, _ => exact ⟨_, h.c0⟩
    | 1, _ => exact ⟨_, h.c1⟩
    | 2, _ => exact ⟨_, h.c2⟩
    | 3, _ => exact ⟨_, h.c3⟩
    | 4, _ => exact ⟨_, h.c4⟩
    | 5, _ => exact ⟨_, h.c5⟩
    | 6, _ => exact ⟨_, h.c6⟩, h.fr, h.ok, h.okf⟩

theorem Weak.drewN (h : Weak W B rb w) (m : Nat) : Weak W B rb (w.drewN m) :=
  ⟨below_drewN h.below m, h.le, h.lt, h.cs, h.fr, h.ok, h.okf⟩

theorem Inv.drewN (h : Inv W B rb tv nv rv dv w st yv sv) (m : Nat) : Inv W B rb tv nv rv dv (w.drewN m) st yv sv :=
  ⟨below_drewN h.below m, h.le, h.lt, h.c0, h.c1, h.c2, h.c3, h.c4, h.c5, h.c6, h.fr, h.ok, h.okf, h.ownY, h.ownS, h.apart⟩

theorem Inv.drew (h : Inv W B rb tv nv rv dv w st yv sv) : Inv W B rb tv nv rv dv w.drew st yv sv := h.drewN 1

theorem Inv.ltY (h : Inv W B rb tv nv rv dv w st yv sv) {g : Nat} (hg : yv.ownBlock = some g) : rb + 2 ≤ g ∧ g < w.heap.size := h.ownY.lt g hg
theorem Inv.ltS (h : Inv W B rb tv nv rv dv w st yv sv) {g : Nat} (hg : sv.ownBlock = some g) : rb + 2 ≤ g ∧ g < w.heap.size := h.ownS.lt g hg

/-- A step that writes to no block of the reader's. -/
theorem Inv.grown (h : Inv W B rb tv nv rv dv w st yv sv) {w' : World} {row : Option Nat} (hg : w.grownBy w' row) (hr : ∀ k, row = some k → rb + 2 ≤ k)
    (hy : yv.ownBlock = none ∨ yv.ownBlock ≠ row) (hs : sv.ownBlock = none ∨ sv.ownBlock ≠ row) : Inv W B rb tv nv rv dv w' st yv sv := by
  have hle := h.le
  have hlt := h.lt
  have hsz := hg.size
  have far : ∀ b o, b ≤ rb + 1 → w'.cell? ⟨b, o, none⟩ = w.cell? ⟨b, o, none⟩ ∧ w'.frozen? ⟨b, o, none⟩ = w.frozen? ⟨b, o, none⟩ := fun b o hb =>
    have hne : some b ≠ row := fun e => by have := hr b e.symm; omega
    ⟨hg.cell_far _ (by simp only; omega) hne, hg.frozen_far _ (by simp only; omega) hne⟩
  refine ⟨h.below.grown hg (by omega) (fun k hk => by have := hr k hk; omega), h.le, by omega, ?_, ?_, ?_, ?_, ?_, ?_, ?_, fun o => ?_, ?_, ?_, h.ownY.kept hg hy, h.ownS.kept hg hs, h.apart⟩
  · rw [(far rb _ (by omega)).1, h.c0]
  · rw [(far rb _ (by omega)).1, h.c1]
  · rw [(far rb _ (by omega)).1, h.c2]
  · rw [(far rb _ (by omega)).1, h.c3]
  · rw [(far rb _ (by omega)).1, h.c4]
  · rw [(far rb _ (by omega)).1, h.c5]
  · rw [(far rb _ (by omega)).1, h.c6]
  · rw [(far rb _ (by omega)).2, h.fr]
  · rw [(far _ _ (by omega)).1, h.ok]
  · rw [(far _ _ (by omega)).2, h.okf]

theorem Inv.alloc (h : Inv W B rb tv nv rv dv w st yv sv) (o : Obj) : Inv W B rb tv nv rv dv (w.alloc o) st yv sv :=
  h.grown (World.grownBy_alloc w o none) (fun _ e => by cases e) (by cases yv.ownBlock <;> simp) (by cases sv.ownBlock <;> simp)

/-- A number of the reader's own is written. -/
theorem Inv.setPos (h : Inv W B rb tv nv rv dv w st yv sv) (p : Nat) : Inv W B rb tv nv rv dv (w.setCell ⟨rb, 4, none⟩ (.int .i64 p)) { st with pos := p } yv sv := by
  have hne : ∀ o, o ≠ 4 → (w.setCell ⟨rb, 4, none⟩ (.int .i64 p)).cell? ⟨rb, o, none⟩ = w.cell? ⟨rb, o, none⟩ := fun o ho => cell_set_other (.inr ho)
  refine ⟨h.below.setCell h.le _, h.le, by simpa using h.lt, ?_, ?_, ?_, ?_, ?_, ?_, ?_, fun o => ?_, ?_, ?_, ownsRow_setCell_below h.ownY (by simp only; omega) _, ownsRow_setCell_below h.ownS (by simp only; omega) _, h.apart⟩
  · rw [hne _ (by omega), h.c0]
  · rw [hne _ (by omega), h.c1]
  · rw [hne _ (by omega), h.c2]
  · rw [hne _ (by omega), h.c3]
  · exact World.cell?_setCell_same _ _ _ h.c4
  · rw [hne _ (by omega), h.c5]
  · rw [hne _ (by omega), h.c6]
  · rw [World.frozen?_setCell]; exact h.fr o
  · rw [cell_set_other (.inl (by simp only; omega)), h.ok]
  · rw [World.frozen?_setCell]; exact h.okf

theorem Inv.far (h : Inv W B rb tv nv rv dv w st yv sv) {w' : World} {row : Option Nat} (hg : w.grownBy w' row) (hr : ∀ k, row = some k → rb + 2 ≤ k) (b o : Nat) (hb : b ≤ rb + 1) :
    w'.cell? ⟨b, o, none⟩ = w.cell? ⟨b, o, none⟩ ∧ w'.frozen? ⟨b, o, none⟩ = w.frozen? ⟨b, o, none⟩ :=
  have hlt := h.lt
  have hne : some b ≠ row := fun e => by have := hr b e.symm; omega
  ⟨hg.cell_far _ (by simp only; omega) hne, hg.frozen_far _ (by simp only; omega) hne⟩

/-- A number is appended to the yield, and the new slice is laid into the reader. -/
theorem Inv.pushY (h : Inv W B rb tv nv rv dv w st yv sv) {w1 : World} {g cap : Nat} {x : Int} (hg : w.grownBy w1 yv.ownBlock)
    (hown : w1.ownsRow (rb + 2) 3 1 (.slice (some ⟨g, 0, none⟩) (st.Y.length + 1) cap) (st.Y.length + 1) (st.Y.map (Value.int .i64) ++ [.int .i64 x]))
    (hat : yv.ownBlock = some g ∨ g = w.heap.size) :
    Inv W B rb tv nv rv dv (w1.setCell ⟨rb, 5, none⟩ (.slice (some ⟨g, 0, none⟩) (st.Y.length + 1) cap)) { st with Y := st.Y ++ [x] } (.slice (some ⟨g, 0, none⟩) (st.Y.length + 1) cap) sv := by
  have hr : ∀ k, yv.ownBlock = some k → rb + 2 ≤ k := fun k hk => (h.ltY hk).1
  have far := h.far hg hr
  have hle := h.le
  have hlt := h.lt
  have hsz := hg.size
  have hne : ∀ o u, o ≠ 5 → (w1.setCell ⟨rb, 5, none⟩ u).cell? ⟨rb, o, none⟩ = w.cell? ⟨rb, o, none⟩ := fun o u ho => (cell_set_other (.inr ho)).trans (far rb o (by omega)).1
  have hsk : sv.ownBlock = none ∨ sv.ownBlock ≠ yv.ownBlock := by
    cases e : sv.ownBlock with
    | none => exact .inl rfl
    | some k => exact .inr fun e' => h.apart k e'.symm e
  refine ⟨(h.below.grown hg (by omega) (fun k hk => by have := hr k hk; omega)).setCell h.le _, h.le, by simp; omega, ?_, ?_, ?_, ?_, ?_, ?_, ?_, fun o => ?_, ?_, ?_, ?_, ownsRow_setCell_below (h.ownS.kept hg hsk) (by simp only; omega) _, fun k h1 h2 => ?_⟩
  · rw [hne _ _ (by omega), h.c0]
  · rw [hne _ _ (by omega), h.c1]
  · rw [hne _ _ (by omega), h.c2]
  · rw [hne _ _ (by omega), h.c3]
  · rw [hne _ _ (by omega), h.c4]
  · exact World.cell?_setCell_same _ _ _ ((far rb 5 (by omega)).1.trans h.c5)
  · rw [hne _ _ (by omega), h.c6]
  · rw [World.frozen?_setCell, (far rb o (by omega)).2]; exact h.fr o
  · rw [cell_set_other (.inl (by simp only; omega)), (far _ _ (by omega)).1, h.ok]
  · rw [World.frozen?_setCell, (far _ _ (by omega)).2]; exact h.okf
  · simpa using ownsRow_setCell_below hown (a := ⟨rb, 5, none⟩) (by simp only; omega) _
  · simp only [Value.ownBlock, Option.some.injEq] at h1
    subst h1
    rcases hat with hat | hat
    · exact h.apart _ hat h2
    · have := (h.ltS h2).2; omega

/-- A span is appended, and the new slice is laid into the reader. -/
theorem Inv.pushS (h : Inv W B rb tv nv rv dv w st yv sv) {w1 : World} {g cap : Nat} {t : Sp} (hg : w.grownBy w1 sv.ownBlock)
    (hown : w1.ownsRow (rb + 2) 57 3 (.slice (some ⟨g, 0, none⟩) (st.S.length + 1) cap) (st.S.length + 1) (flatG st.S ++ [.int .i64 t.1, .int .i64 t.2.1, .int .i64 t.2.2]))
    (hat : sv.ownBlock = some g ∨ g = w.heap.size) :
    Inv W B rb tv nv rv dv (w1.setCell ⟨rb, 6, none⟩ (.slice (some ⟨g, 0, none⟩) (st.S.length + 1) cap)) { st with S := st.S ++ [t] } yv (.slice (some ⟨g, 0, none⟩) (st.S.length + 1) cap) := by
  have hr : ∀ k, sv.ownBlock = some k → rb + 2 ≤ k := fun k hk => (h.ltS hk).1
  have far := h.far hg hr
  have hle := h.le
  have hlt := h.lt
  have hsz := hg.size
  have hne : ∀ o u, o ≠ 6 → (w1.setCell ⟨rb, 6, none⟩ u).cell? ⟨rb, o, none⟩ = w.cell? ⟨rb, o, none⟩ := fun o u ho => (cell_set_other (.inr ho)).trans (far rb o (by omega)).1
  have hyk : yv.ownBlock = none ∨ yv.ownBlock ≠ sv.ownBlock := by
    cases e : yv.ownBlock with
    | none => exact .inl rfl
    | some k => exact .inr fun e' => h.apart k e e'.symm
  refine ⟨(h.below.grown hg (by omega) (fun k hk => by have := hr k hk; omega)).setCell h.le _, h.le, by simp; omega, ?_, ?_, ?_, ?_, ?_, ?_, ?_, fun o => ?_, ?_, ?_, ownsRow_setCell_below (h.ownY.kept hg hyk) (by simp only; omega) _, ?_, fun k h1 h2 => ?_⟩
  · rw [hne _ _ (by omega), h.c0]
  · rw [hne _ _ (by omega), h.c1]
  · rw [hne _ _ (by omega), h.c2]
  · rw [hne _ _ (by omega), h.c3]
  · rw [hne _ _ (by omega), h.c4]
  · rw [hne _ _ (by omega), h.c5]
  · exact World.cell?_setCell_same _ _ _ ((far rb 6 (by omega)).1.trans h.c6)
  · rw [World.frozen?_setCell, (far rb o (by omega)).2]; exact h.fr o
  · rw [cell_set_other (.inl (by simp only; omega)), (far _ _ (by omega)).1, h.ok]
  · rw [World.frozen?_setCell, (far _ _ (by omega)).2]; exact h.okf
  · have := ownsRow_setCell_below hown (a := ⟨rb, 6, none⟩) (by simp only; omega) (.slice (some ⟨g, 0, none⟩) (st.S.length + 1) cap)
    rw [flatG_append]
    simpa [flatG] using this
  · simp only [Value.ownBlock, Option.some.injEq] at h2
    subst h2
    rcases hat with hat | hat
    · exact h.apart _ h1 hat
    · have := (h.ltY h1).2; omega

/-- Where a span ends is written. -/
theorem Inv.setTo {g n cap : Nat} (h : Inv W B rb tv nv rv dv w st yv (.slice (some ⟨g, 0, none⟩) n cap)) {i v : Nat} {t : Sp} (ht : st.S[i]? = some t) :
    Inv W B rb tv nv rv dv (w.setCell ⟨g, i * 3 + 2, none⟩ (.int .i64 v)) { st with S := st.S.set i (t.1, t.2.1, v) } yv (.slice (some ⟨g, 0, none⟩) n cap) := by
  have hn : n = st.S.length := by
    rcases h.ownS.2 with ⟨h', _⟩ | ⟨_, _, _, h', _⟩
    · cases h'
    · simp only [Value.slice.injEq] at h'; exact h'.2.1
  subst hn
  have hgr := (h.ltS (g := g) rfl).1
  obtain ⟨hown, hg⟩ := h.ownS.stored (i * 3 + 2) (.int .i64 v)
  have hr : ∀ k, (some g : Option Nat) = some k → rb + 2 ≤ k := fun k hk => by cases hk; exact hgr
  have far := h.far hg hr
  have hle := h.le
  have hlt := h.lt
  have hyk : yv.ownBlock = none ∨ yv.ownBlock ≠ some g := by
    cases e : yv.ownBlock with
    | none => exact .inl rfl
    | some k => exact .inr fun e' => h.apart k e e'.symm
  refine ⟨h.below.grown hg (by omega) (fun k hk => by have := hr k hk; omega), h.le, by simpa using h.lt, ?_, ?_, ?_, ?_, ?_, ?_, ?_, fun o => ?_, ?_, ?_, h.ownY.kept hg hyk, ?_, h.apart⟩
  · rw [(far rb _ (by omega)).1, h.c0]
  · rw [(far rb _ (by omega)).1, h.c1]
  · rw [(far rb _ (by omega)).1, h.c2]
  · rw [(far rb _ (by omega)).1, h.c3]
  · rw [(far rb _ (by omega)).1, h.c4]
  · rw [(far rb _ (by omega)).1, h.c5]
  · rw [(far rb _ (by omega)).1, h.c6]
  · rw [(far rb _ (by omega)).2, h.fr]
  · rw [(far _ _ (by omega)).1, h.ok]
  · rw [(far _ _ (by omega)).2, h.okf]
  · rw [flatG_set v ht] at hown
    simpa using hown
end

end Go.Proofs.Ytikjekfpgklbdaa
