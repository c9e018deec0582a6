/- The contract of the program's reach.Left. -/
import Derived.Test.YtlfjnljidehljaaReachBeg
import Derived.Test.YtlfjnljidehljaaSetsOf
namespace Go.Proofs.Ytlfjnljidehljaa
open Go.RowKit

theorem make_rows (n : Nat) (hn : n ≤ 1000000) (u : World) : (Instr.makeSlice 41 (.int .i64 n) (.int .i64 n)).run Try.prog u = .ok (.slice (some ⟨u.heap.size, 0, none⟩) n n) (u.alloc (.cells (madeCells #[.slice none 0 0] n) 25)) := by
  obtain ⟨i0, hi, hz0, hz1, hz2⟩ := info_parts Try.infoBools
  have h := run_make (P := Try.prog) u 41 25 i0 (.slice none 0 0) Try.underlying41 hi hz0 .i64 .i64 n n (by omega) (Int.le_refl _) (by rw [hz2]; omega) (by omega)
  simpa [hz1, Value.cells] using h

/-- Left's rows at first. -/
def left0 (N : Nat) (Nu : List Bool) : Vs
  | .a => Nu
  | .r _ => List.replicate N false
  | .gr => [true]
  | _ => []

/-- Where the row of the name m lies. -/
def vrow (b N : Nat) (m : Nat) : Value := .slice (some ⟨b + 3 + m, 0, none⟩) N N
def ndom (N n : Nat) : Iv → Option Nat
  | .gr => none
  | .a => some N
  | .b => none
  | .r m => if m < n then some N else none
def heads (b N n : Nat) : List Value := (List.range N).map fun m => if m < n then vrow b N m else .slice none 0 0

/-- While Left's rows are made. -/
structure LR (w2 : World) (B N : Nat) (nv : Value) (Nu : List Bool) (n : Nat) (wr : World) : Prop where
  below : Below w2.heap.size w2 wr
  size : wr.heap.size = w2.heap.size + 3 + n
  null : wr.cell? ⟨w2.heap.size, 0, none⟩ = some nv
  box : wr.cell? ⟨w2.heap.size + 2, 0, none⟩ = some (.slice (some ⟨w2.heap.size + 1, 0, none⟩) N N)
  head : wr.ownsRow (w2.heap.size + 1) 25 1 (.slice (some ⟨w2.heap.size + 1, 0, none⟩) N N) N (heads w2.heap.size N n)
  rows : Bt wr B (VTab (ndom N n) nv (.slice none 0 0) (vrow w2.heap.size N) 0) (left0 N Nu)

theorem lr_start {w2 : World} {B N : Nat} {nv fv gv : Value} {Nu : List Bool} (hN : N ≤ maxLen) (hn : w2.ownsRow B 4 1 nv N (Nu.map Value.bool)) :
    LR w2 B N nv Nu 0 (((w2.alloc (.cells #[nv, fv, gv] 43)).alloc (.cells (madeCells #[.slice none 0 0] N) 25)).alloc (.cells #[.slice (some ⟨w2.heap.size + 1, 0, none⟩) N N] 41)) := by
  refine ⟨(((Below.refl _ _).alloc (Nat.le_refl _) _).alloc (by simp) _).alloc (by simp; omega) _, by simp, ?_, ?_, ?_, ?_⟩
  · rw [World.cell?_alloc_past _ _ _ (by simp; omega), World.cell?_alloc_past _ _ _ (by simp)]; simp [go_sem]
  · have : w2.heap.size + 2 = ((w2.alloc (.cells #[nv, fv, gv] 43)).alloc (.cells (madeCells #[.slice none 0 0] N) 25)).heap.size := by simp
    rw [this]
    simp [go_sem]
  · have := World.ownsRow_lit (base := w2.heap.size + 1) (e := 25) (size := 1) (w2.alloc (.cells #[nv, fv, gv] 43)) (madeCells #[.slice none 0 0] N) N (by simp) hN (by simp [size_madeCells])
    rw [toList_madeCells_one] at this
    simp only [World.size_alloc] at this
    have e : heads w2.heap.size N 0 = List.replicate N (.slice none 0 0) := by
      unfold heads
      refine List.ext_getElem (by simp) fun i h1 h2 => ?_
      simp
    rw [e]
    exact this.alloc _
  · have h0 : Bt w2 B (VTab (ndom N 0) nv (.slice none 0 0) (vrow w2.heap.size N) 0) (left0 N Nu) := by
      refine ⟨fun i r hr => ?_, fun i j a b hij ha hb => ?_⟩
      · cases i <;> simp [Tab.P, VTab, ndom] at hr
        subst hr
        exact hn
      · cases i <;> simp [Tab.P, VTab, ndom] at ha
        cases j <;> simp [Tab.P, VTab, ndom] at hb
        exact absurd rfl hij
    exact Bt.alloc (Bt.alloc (Bt.alloc h0 _) _) _

theorem LR.next {w2 wr : World} {B N n : Nat} {nv : Value} {Nu : List Bool} (h : LR w2 B N nv Nu n wr) (hN : N ≤ maxLen) (hn : n < N) (hB : B ≤ w2.heap.size) (hnv : ∀ g, nv.ownBlock = some g → g < w2.heap.size) :
    LR w2 B N nv Nu (n + 1) ((wr.alloc (.cells (madeCells #[.bool false] N) 4)).setCell ⟨w2.heap.size + 1, n, none⟩ (.slice (some ⟨wr.heap.size, 0, none⟩) N N)).drew := by
  have hsz := h.size
  have hrow := row_made wr hN
  have h1 : Bt (wr.alloc (.cells (madeCells #[.bool false] N) 4)) B (VTab (ndom N (n + 1)) nv (.slice none 0 0) (vrow w2.heap.size N) 0) (left0 N Nu) := by
    refine bt_add (.r n) h.rows ((Below.refl _ _).alloc (Nat.le_refl _) _) (by simp [VTab, ndom]; rfl) ?_ (fun g hg => ?_) (fun j hj m hm => ?_)
    · have e : (VTab (ndom N (n + 1)) nv (.slice none 0 0) (vrow w2.heap.size N) 0).V (.r n) = .slice (some ⟨wr.heap.size, 0, none⟩) N N := by simp [VTab, vrow, hsz]
      rw [e]
      exact own_mono hrow (by omega)
    · simp only [VTab, vrow, Value.ownBlock, Option.some.injEq] at hg
      omega
    · cases j with
      | r q =>
        have hq : q ≠ n := fun e => hj (by rw [e])
        simp only [VTab, ndom] at hm ⊢
        split at hm
        · rename_i hlt
          rw [if_pos (by omega)]
          exact ⟨hm, by trivial, by trivial⟩
        · cases hm
      | _ => simp_all [VTab, ndom]
  have hgn : ∀ i r, (VTab (ndom N (n + 1)) nv (.slice none 0 0) (vrow w2.heap.size N) 0).P (left0 N Nu) i = some r → r.v.ownBlock ≠ some (w2.heap.size + 1) := fun i r hr => by
    cases i with
    | gr => simp [Tab.P, VTab, ndom] at hr
    | b => simp [Tab.P, VTab, ndom] at hr
    | a =>
      simp [Tab.P, VTab, ndom] at hr
      subst hr
      intro e
      have := hnv _ e
      omega
    | r q =>
      simp only [Tab.P, VTab, ndom] at hr
      split at hr
      · simp only [Option.map_some, Option.some.injEq] at hr
        subst hr
        simp only [vrow, Value.ownBlock, ne_eq, Option.some.injEq]
        omega
      · cases hr
  refine ⟨((h.below.alloc (by omega) _).setCell (by simp only; omega) _).drew, ?_, ?_, ?_, ?_, ?_⟩
  · show ((wr.alloc _).setCell _ _).heap.size = _
    simp
    omega
  · exact (cell_set_other (.inl (by simp only; omega))).trans ((World.cell?_alloc_past _ _ _ (by omega)).trans h.null)
  · exact (cell_set_other (.inl (by simp only; omega))).trans ((World.cell?_alloc_past _ _ _ (by omega)).trans h.box)
  · have := ((h.head.alloc (.cells (madeCells #[.bool false] N) 4)).stored n (.slice (some ⟨wr.heap.size, 0, none⟩) N N)).1
    have e : (heads w2.heap.size N n).set n (.slice (some ⟨wr.heap.size, 0, none⟩) N N) = heads w2.heap.size N (n + 1) := by
      unfold heads
      refine List.ext_getElem (by simp) fun i h1 h2 => ?_
      simp only [List.length_set, List.length_map, List.length_range] at h1
      by_cases hi : i = n
      · subst hi
        simp [vrow, hsz]
      · rw [List.getElem_set_ne (fun e => hi e.symm)]
        simp only [List.getElem_map, List.getElem_range]
        by_cases hlt : i < n
        · rw [if_pos hlt, if_pos (by omega)]
        · rw [if_neg hlt, if_neg (by omega)]
    rw [e] at this
    exact this
  · exact Bt.drew (Owns.setOther h1 hgn _)

theorem left_start {w2 wr : World} {B N : Nat} {nv : Value} {Nu : List Bool} (h : LR w2 B N nv Nu N wr) (hB : B ≤ wr.heap.size) : Bt (wr.alloc (.cells #[.bool true] 4)) B (VTab (ldom N) nv (.slice none 0 0) (vrow w2.heap.size N) wr.heap.size) (left0 N Nu) := by
  refine bt_add .gr h.rows ((Below.refl _ _).alloc (Nat.le_refl _) _) rfl (own_mark hB) (fun b hb => ?_) (fun j hj m hm => ?_)
  · simp only [VTab, Value.ownBlock, Option.some.injEq] at hb
    omega
  · cases j with
    | gr => exact absurd rfl hj
    | a => exact ⟨hm, rfl, rfl⟩
    | b => cases hm
    | r q => exact ⟨hm, rfl, rfl⟩

theorem left_notK {N na nc b gb x : Nat} (h1 : na ≠ x) (h2 : x < b + 3) (h3 : b + 3 ≤ gb) : ¬ (VTab (ldom N) (.slice (some ⟨na, 0, none⟩) N nc) (.slice none 0 0) (vrow b N) gb).K x := VTab.notK fun i n hd => by
  cases i <;> simp [ldom] at hd <;> simp [VTab, vrow, Value.ownBlock] <;> omega

theorem left_head {N : Nat} {R : List Ru} {Z : List Bool} (hl : Z.length = N) (hn : ∀ n : Nat, n < N → (Z.getD n false = true ↔ NullP N R n)) : HeadG .gr (ldom N) (ZL N R) (left0 N Z) R (beginsX N) (left0 N Z) := by
  refine ⟨fun i n hd => ?_, fun i n m hd hm hb => ?_, fun _ _ _ h => h, fun hz => by simp [bit, left0] at hz⟩
  · cases i with
    | gr => simp [ldom] at hd; subst hd; rfl
    | a => simp [ldom] at hd; subst hd; exact hl
    | b => simp [ldom] at hd
    | r q => simp [ldom] at hd; obtain ⟨_, rfl⟩ := hd; simp [left0]
  · cases i with
    | gr => trivial
    | a => simp [ldom] at hd; subst hd; exact (hn m hm).1 hb
    | b => simp [ldom] at hd
    | r q =>
      simp [ldom] at hd
      obtain ⟨_, rfl⟩ := hd
      simp [bit, left0, List.getD, hm] at hb

theorem left_null {T N : Nat} {R : List Ru} (hf : Fine T N R) {Z : List Bool} (hn : ∀ n : Nat, n < N → (Z.getD n false = true ↔ NullP N R n)) (n : Int) (h : NullP N R n) : hasB (left0 N Z .a) n := by
  have hN := hf.some
  obtain ⟨k, rfl⟩ : ∃ k, N = k + 1 := ⟨N - 1, by omega⟩
  have hb := (NullF_mono hf).bound _ n h
  refine ⟨hb.1, (hn n.toNat (by omega)).2 ?_⟩
  rw [toNat_of hb.1]
  exact h

def lixs (N : Nat) : List (Iv × Nat) := (List.range N).map (fun m => (.a, m)) ++ (List.range N).flatMap fun n => (List.range N).map fun m => (.r n, m)
theorem lixs_in (N : Nat) : ∀ i n m, i ≠ Iv.gr → ldom N i = some n → m < n → (i, m) ∈ lixs N := fun i n m hi hd hm => by
  cases i with
  | gr => exact absurd rfl hi
  | a => simp [ldom] at hd; subst hd; simp [lixs, hm]
  | b => simp [ldom] at hd
  | r q => simp [ldom] at hd; obtain ⟨h1, rfl⟩ := hd; simp [lixs, hm, h1]
theorem lixs_no (N : Nat) : ∀ p ∈ lixs N, p.1 ≠ Iv.gr := fun p hp => by
  simp only [lixs, List.mem_append, List.mem_map, List.mem_flatMap] at hp
  rcases hp with ⟨_, _, rfl⟩ | ⟨_, _, _, _, rfl⟩ <;> simp

/-- Left's answer, while it is made. -/
def leftL (Y : Vs) (N n : Nat) : List Bool := loopN n (fun m O => O.set m (bit Y (.r m) m)) (List.replicate N false)

set_option maxRecDepth 100000 in
set_option maxHeartbeats 1600000 in
theorem devLeft_not {w : World} {T N : Int} {rv : Value} {R : List Ru} (hr : RulesAt w w.heap.size rv R) (hm : mayB T N R = false) :
    Calls Try.prog 6 #[.agg #[.int .i64 T, .int .i64 N, rv]] w fun e w' => e = .returned (.tuple #[.slice none 0 0, .int .i64 2]) ∧ Below w.heap.size w w' := by
  obtain ⟨ra, rc, hrv⟩ := hr.1
  subst hrv
  have mk := setsOf_not (T := T) (N := N) (hr.boxed (.cells #[.int .i64 T, .int .i64 N, .slice ra R.length rc] 24)) hm
  have HB0 : Hid (Below w.heap.size w (w.alloc (.cells #[.int .i64 T, .int .i64 N, .slice ra R.length rc] 24))) := (Below.refl _ _).alloc (Nat.le_refl _) _
  clear hr hm
  go_enter Try.func6, Try.ntmps6
  go_wp2_with
    (go_at_call 18; refine mk.mono ?_; rintro e w2 ⟨rfl, hB2⟩
     have HX : Hid (Below w.heap.size w w2) := HB0.out.trans (hB2.mono (by simp))
     clear hB2)
  refine bodyPost_ret (v := .tuple #[.slice none 0 0, .int .i64 2]) (by simp [results, Try.results6, go_sem]) rfl ⟨rfl, HX.out.alloc HX.out.size _⟩

set_option maxRecDepth 100000 in
set_option maxHeartbeats 3200000 in
theorem devLeft_may {w : World} {T N : Nat} {rv : Value} {R : List Ru} (hr : RulesAt w w.heap.size rv R) (hm : mayB T N R = true) :
    Calls Try.prog 6 #[.agg #[.int .i64 T, .int .i64 N, rv]] w fun e w' => ∃ g Y, e = .returned (.tuple #[.slice (some ⟨g, 0, none⟩) N N, .int .i64 0]) ∧ Below w.heap.size w w' ∧ RowB w' (w.heap.size + 1) g N (leftL Y N N) ∧ ∀ n m : Nat, n < N → (bit Y (.r n) m = true ↔ WayP N R n m) := by
  have hf := may_Fine hm
  obtain ⟨hT, hN1, hN, hRl, hfine⟩ := may_fine hm
  obtain ⟨ra, rc, hrv⟩ := hr.1
  subst hrv
  have sets := setsOf_may (T := T) (N := N) (hr.boxed (.cells #[.int .i64 T, .int .i64 N, .slice ra R.length rc] 24)) hm
  simp only [World.size_alloc] at sets
  have HR : Hid (RulesAt w w.heap.size (.slice ra R.length rc) R) := hr
  have HF : Hid (Fine T N R) := hf
  have HQ : Hid (∀ q, q < R.length → (R.getD q (0, [])).2.length ≤ 8) := fun q hq => (hfine q hq).2.2.1
  have mkN := make_bools N (by omega)
  have mkR := make_rows N (by omega)
  have hN0 : 0 < N := by omega
  clear hr hm hf hfine
  go_enter Try.func6, Try.ntmps6
  go_wp2_with
    (go_at_call 18; refine sets.mono ?_; rintro e w2 ⟨nv, fv, gv, vf, vg, rfl, hB2, gb, B, Z, hBB, hA, hg, hBt, hF, hG⟩
     have l1 := (least_of_still HF.out hA.shp hA.snd (hA.held hg) hA.fin).1
     have hnul : w2.ownsRow B 4 1 nv N ((Z .null).map Value.bool) := Bt.own (c := STab T N nv vf vg gb) (i := .null) (n := N) hBt rfl
     obtain ⟨na, nc, hnv, hnB, hnl⟩ := hnul.form hN0
     obtain ⟨fa, fc, hfv⟩ := hF.1
     obtain ⟨ga, gc, hgv⟩ := hG.1
     subst hnv
     subst hfv
     subst hgv
     have b1 : w2.cell? ⟨w.heap.size, 1, none⟩ = some (.int .i64 N) := (hB2.cell (by simp)).trans (by simp [go_sem])
     have b2 : w2.cell? ⟨w.heap.size, 2, none⟩ = some (.slice ra R.length rc) := (hB2.cell (by simp)).trans (by simp [go_sem])
     have hs2 : w.heap.size + 1 ≤ w2.heap.size := by have := hB2.size; simpa using this
     have HX : Hid (Below w.heap.size w w2) := ((Below.refl _ _).alloc (Nat.le_refl _) _).trans (hB2.mono (by simp))
     have m1 : (w2.alloc (.cells #[.slice (some ⟨na, 0, none⟩) N nc, .slice fa N fc, .slice ga N gc] 43)).cell? ⟨w.heap.size, 1, none⟩ = some (.int .i64 N) := by rw [World.cell?_alloc_past _ _ _ (by omega)]; exact b1
     have HNul : Hid (w2.ownsRow B 4 1 (.slice (some ⟨na, 0, none⟩) N nc) N ((Z .null).map Value.bool)) := hnul
     have HNP : Hid (∀ n : Nat, n < N → (bit Z .null n = true ↔ NullP N R n)) := l1
     have HZl : Hid ((Z .null).length = N) := hA.shp .null N rfl
     clear hB2 sets hA hg hBt hF hG l1 hnul)
  have hW := lr_start (fv := .slice fa N fc) (gv := .slice ga N gc) (N := N) (by unfold maxLen; omega) HNul.out
  generalize ((w2.alloc (.cells #[.slice (some ⟨na, 0, none⟩) N nc, .slice fa N fc, .slice ga N gc] 43)).alloc (.cells (madeCells #[.slice none 0 0] N) 25)).alloc (.cells #[.slice (some ⟨w2.heap.size + 1, 0, none⟩) N N] 41) = W0 at hW ⊢
  have HW : Hid (LR w2 B N (.slice (some ⟨na, 0, none⟩) N nc) (Z .null) 0 W0) := hW
  have HB12 : Hid (w2.cell? ⟨w.heap.size, 1, none⟩ = some (.int .i64 N) ∧ w2.cell? ⟨w.heap.size, 2, none⟩ = some (.slice ra R.length rc)) := ⟨b1, b2⟩
  clear hW m1 b1 b2 mkR
  go_loopw [23] (fun s wr => ∃ n : Nat, s = .int .i64 n ∧ n ≤ N ∧ LR w2 B N (.slice (some ⟨na, 0, none⟩) N nc) (Z .null) n wr) (fun s _ => N - (intOf s).toNat)
  case atStart => exact ⟨0, rfl, Nat.zero_le _, HW.out⟩
  case round =>
    clear HW
    obtain ⟨n, rfl, hnN, hLR⟩ := hrel
    have c1 := (hLR.below.cell (p := ⟨w.heap.size, 1, none⟩) (by simp only; omega)).trans HB12.out.1
    have c2 : wr.cell? ⟨w2.heap.size + 1 + 1, 0, none⟩ = _ := hLR.box
    have hsz := hLR.size
    have HLR : Hid (LR w2 B N (.slice (some ⟨na, 0, none⟩) N nc) (Z .null) n wr) := hLR
    by_cases hlt : n < N
    · have c3 := hLR.head.cellAt n (by omega)
      have c4 := hLR.head.frozenAt n
      have e3 : (heads w2.heap.size N n)[n]? = some (.slice none 0 0) := by simp [heads, hlt]
      rw [e3] at c3
      have c3' : (wr.alloc (.cells (madeCells #[.bool false] N) 4)).cell? ⟨w2.heap.size + 1, n, none⟩ = some (.slice none 0 0) := (World.cell?_alloc_past _ _ _ (by omega)).trans c3
      have c4' : (wr.alloc (.cells (madeCells #[.bool false] N) 4)).frozen? ⟨w2.heap.size + 1, n, none⟩ = false := (hLR.head.alloc (.cells (madeCells #[.bool false] N) 4)).frozenAt n
      have j0 : (0 : Int) ≤ (n : Int) := Int.natCast_nonneg _
      have j1 : (n : Int) < (N : Int) := by omega
      have c2' : (wr.alloc (.cells (madeCells #[.bool false] N) 4)).cell? ⟨w2.heap.size + 1 + 1, 0, none⟩ = some (.slice (some ⟨w2.heap.size + 1, 0, none⟩) N N) := (World.cell?_alloc_past _ _ _ (by omega)).trans c2
      clear hLR e3 c3 c4
      go_wp2_with fail
      go_region
      all_goals
        go_wp2_with fail
        go_roundw
      case rel => exact ⟨n + 1, by go_num, by omega, by have := HLR.out.next (by unfold maxLen; omega) hlt (by omega) (fun g hg => by cases hg; omega); rw [hsz] at this; exact this⟩
      case measure => simp [intOf]; omega
    · obtain rfl : n = N := by omega
      have c5 := (hLR.below.cell (p := ⟨w.heap.size, 2, none⟩) (by simp only; omega)).trans HB12.out.2
      clear hLR
      go_wp2_with
        (go_at_call 13
         have hBt := left_start HLR.out (by omega)
         have hBA : Below w2.heap.size w2 (wr.alloc (.cells #[.bool true] 4)) := HLR.out.below.alloc (by omega) _
         have hRu : RulesAt (wr.alloc (.cells #[.bool true] 4)) B (.slice ra R.length rc) R := ((HR.out.below HX.out).below (hBA.mono (by omega))).mono (by omega)
         have hsK := left_notK (N := n) (nc := nc) (na := na) (b := w2.heap.size) (gb := wr.heap.size) (x := w2.heap.size + 2) (by omega) (by omega) (by omega)
         have hxK := left_notK (N := n) (nc := nc) (na := na) (b := w2.heap.size) (gb := wr.heap.size) (x := w2.heap.size) (by omega) (by omega) (by omega)
         have hhK := left_notK (N := n) (nc := nc) (na := na) (b := w2.heap.size) (gb := wr.heap.size) (x := w2.heap.size + 1) (by omega) (by omega) (by omega)
         have hsv : (wr.alloc (.cells #[.bool true] 4)).cell? ⟨w2.heap.size + 2, 0, none⟩ = some (.slice (some ⟨w2.heap.size + 1, 0, none⟩) n n) := (World.cell?_alloc_past _ _ _ (by omega)).trans HLR.out.box
         have hxv : (wr.alloc (.cells #[.bool true] 4)).cell? ⟨w2.heap.size, 0, none⟩ = some (.slice (some ⟨na, 0, none⟩) n nc) := (World.cell?_alloc_past _ _ _ (by omega)).trans HLR.out.null
         have hHd : Heads (wr.alloc (.cells #[.bool true] 4)) (VTab (ldom n) (.slice (some ⟨na, 0, none⟩) n nc) (.slice none 0 0) (vrow w2.heap.size n) wr.heap.size).K n (.slice (some ⟨w2.heap.size + 1, 0, none⟩) n n) (vrow w2.heap.size n) :=
           ⟨⟨_, _, rfl⟩, fun m hm => ⟨_, _, rfl, hhK, (World.cell?_alloc_past _ _ _ (by omega)).trans (by rw [HLR.out.head.cellAt m (by omega)]; simp [heads, hm])⟩⟩
         refine (until_gen (c := VTab (ldom n) (.slice (some ⟨na, 0, none⟩) n nc) (.slice none 0 0) (vrow w2.heap.size n) wr.heap.size) (gr := Iv.gr) (B := B) (X := left0 n (Z .null)) (R := R) (f := beginsX n) (Head := HeadG .gr (ldom n) (ZL n R) (left0 n (Z .null)) R (beginsX n)) (togo := togoG .gr (lixs n))
           hBt (by omega) (vmark rfl) hRu (by omega) (fun k hk w3 Y qa qc hK hBtY hRA hqc => ?_) (fun args w => by simp [callFunc, Try.func19, Try.f19 ]) (left_head HZl.out HNP.out)
           (HeadG.next rfl (lixs_in n) (lixs_no n) (fun _ => trivial) (fun q hq Y hY => begins_up HF.out (mem_getD hq) hY) (fun q hq Y hY hs => begins_snd HF.out (mem_getD hq) hY hs))).mono ?_
         · have e : ∀ a b c d : Value, #[a, b] ++ #[c, d] = #[a, b, c, d] := fun a b c d => by simp
           rw [e]
           have hs := hK.size
           simp only [World.size_alloc] at hs
           exact left1_any hBtY (by omega) (by omega) (hK.cell hsK hsv) hsK (hK.cell hxK hxv) hxK (hHd.kept hK) HF.out (mem_getD hk) (HQ.out k hk) hRA
         rintro e w3 ⟨rfl, Y, hH, hg, hB3, hK3⟩
         have n0 : w3.cell? ⟨w2.heap.size + 1 + 1, 0, none⟩ = _ := hK3.cell hsK hsv
         have hB23 : Below B w2 w3 := (hBA.mono (by omega)).trans (hK3.below (fun b hb => Bt.ge hB3 hb) (by simp; omega))
         have n1 := (hB23.cell (p := ⟨w.heap.size, 1, none⟩) (by simp only; omega)).trans HB12.out.1
         have HB3 : Hid (Bt w3 B (VTab (ldom n) (.slice (some ⟨na, 0, none⟩) n nc) (.slice none 0 0) (vrow w2.heap.size n) wr.heap.size) Y) := hB3
         have HL : Hid (∀ i m : Nat, i < n → (bit Y (.r i) m = true ↔ WayP n R i m)) := begins_least HF.out (fun i hi => left_null HF.out HNP.out i hi) hH hg
         have HB : Hid (Below w.heap.size w w3) := HX.out.trans (hB23.mono (by omega))
         have HH : Hid (∀ m, m < n → w3.cell? ⟨w2.heap.size + 1, m, none⟩ = some (vrow w2.heap.size n m)) := fun m hm => by
           obtain ⟨_, _, e1, _, e2⟩ := (hHd.kept hK3).2 m hm
           cases e1
           exact e2
         have hs3 : w2.heap.size + 3 + n + 1 ≤ w3.heap.size := by have := hK3.size; simp at this; omega
         clear hBt hBA hRu hsK hxK hhK hsv hxv hHd hH hg hB3 hK3 hB23)
      have HS0 : Hid (RowB (w3.alloc (.cells (madeCells #[.bool false] n) 4)) w3.heap.size w3.heap.size n (List.replicate n false)) := row_made w3 (by unfold maxLen; omega)
      have HN0 : Hid (w3.cell? ⟨w2.heap.size + 1 + 1, 0, none⟩ = some (.slice (some ⟨w2.heap.size + 1, 0, none⟩) n n)) := n0
      clear n0 n1 mkN c1 c2 c5
      go_loopw [42] (fun s wq => ∃ k : Nat, s = .int .i64 k ∧ k ≤ n ∧ Below w3.heap.size w3 wq ∧ RowB wq w3.heap.size w3.heap.size n (leftL Y n k)) (fun s _ => n - (intOf s).toNat)
      case atStart => exact ⟨0, rfl, Nat.zero_le _, (Below.refl _ _).alloc (Nat.le_refl _) _, HS0.out⟩
      case round =>
        clear HS0
        obtain ⟨k, rfl, hk, hBq, hrow⟩ := hrel
        have HBq : Hid (Below w3.heap.size w3 wr) := hBq
        have HRow : Hid (RowB wr w3.heap.size w3.heap.size n (leftL Y n k)) := hrow
        by_cases hlt : k < n
        · have d0 := (hBq.cell (p := ⟨w2.heap.size + 1 + 1, 0, none⟩) (by simp only; omega)).trans HN0.out
          have d1 : wr.cell? ⟨w2.heap.size + 1, k, none⟩ = some (.slice (some ⟨w2.heap.size + 3 + k, 0, none⟩) n n) := (hBq.cell (p := ⟨w2.heap.size + 1, k, none⟩) (by simp only; omega)).trans (HH.out k hlt)
          have d2 := (Bt.cell (i := Iv.r k) (n := n) (m := k) HB3.out (by simp [VTab, ldom, hlt]) rfl hlt).1
          have d3 := (hBq.cell (p := ⟨w2.heap.size + 3 + k, k, none⟩) (by simp only; omega)).trans d2
          obtain ⟨d4, d5⟩ := hrow.cell (m := k) hlt
          have j0 : (0 : Int) ≤ (k : Int) := Int.natCast_nonneg _
          have j1 : (k : Int) < (n : Int) := by omega
          have HS : Hid (leftL Y n (k + 1) = (leftL Y n k).set k (bit Y (.r k) k)) := rfl
          obtain ⟨x, hx⟩ : ∃ x, bit Y (.r k) k = x := ⟨_, rfl⟩
          rw [hx] at d3 HS
          clear hx d2 hBq hrow
          go_wp2_with fail
          go_roundw
          case rel => exact ⟨k + 1, by go_num, by omega, HBq.out.setCell (by simp) _, by rw [HS.out]; exact HRow.out.set k x⟩
          case measure => simp [intOf]; omega
        · obtain rfl : k = n := by omega
          clear hBq hrow
          go_wp2_with fail
          refine bodyPost_ret (v := .tuple #[.slice (some ⟨w3.heap.size, 0, none⟩) k k, .int .i64 0]) (by simp [results, Try.results6, go_sem]) rfl ⟨w3.heap.size, Y, rfl, HB.out.trans (HBq.out.mono (by omega)), HRow.out.mono (by omega), HL.out⟩

end Go.Proofs.Ytlfjnljidehljaa
