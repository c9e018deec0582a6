import Derived.Test.YtobegekmgoiopaaSetsMathAndSetsStill
import Derived.Test.YtobegekmgoiopaaRowBAndSets2Math
/- From the sets as they are made to what untilStill wants. No walk. -/
namespace Go.Proofs.Ytobegekmgoiopaa
open Go.RowKit

def ixOf : Iy → Option Ix
  | .null => some .null
  | .gr => none
  | .f n => some (.f n)
  | .g n => some (.g n)
def tabs (Nu : List Bool) (Fi Fo : List (List Bool)) : Xs
  | .null => Nu
  | .gr => [true]
  | .f n => Fi.getD n []
  | .g n => Fo.getD n []

section
variable {w : World} {B sb T N : Nat} {nv fv gv : Value} {vf vg : Nat → Value} {Nu : List Bool} {Fi Fo : List (List Bool)}

theorem ix_row (gb : Nat) (i : Iy) (x : Ix) (hx : ixOf i = some x) : (STab T N nv vf vg gb).P (tabs Nu Fi Fo) i = Pset sb T N N N nv fv gv vf vg Nu Fi Fo x := by
  cases i with
  | gr => cases hx
  | null => cases hx; rfl
  | f n => cases hx; simp only [Tab.P, STab, sdom, Pset, tabs]; split <;> rfl
  | g n => cases hx; simp only [Tab.P, STab, sdom, Pset, tabs]; split <;> rfl

theorem bt_of_pset (h : Owns w B (Pset sb T N N N nv fv gv vf vg Nu Fi Fo)) (hB : B ≤ w.heap.size) : Bt (w.alloc (.cells #[.bool true] 4)) B (STab T N nv vf vg w.heap.size) (tabs Nu Fi Fo) := by
  have row : ∀ i x r, ixOf i = some x → (STab T N nv vf vg w.heap.size).P (tabs Nu Fi Fo) i = some r → Pset sb T N N N nv fv gv vf vg Nu Fi Fo x = some r := fun i x r hx hr => (ix_row (sb := sb) (fv := fv) (gv := gv) w.heap.size i x hx).symm.trans hr
  have gr : ∀ r, (STab T N nv vf vg w.heap.size).P (tabs Nu Fi Fo) .gr = some r → r = ⟨.slice (some ⟨w.heap.size, 0, none⟩) 1 1, 4, 1, 1, [.bool true]⟩ := fun r hr => by cases hr; rfl
  have isgr : ∀ i, ixOf i = none → i = .gr := fun i hi => by cases i <;> first | rfl | cases hi
  refine ⟨fun i r hr => ?_, fun i j a b hij ha hb g h1 h2 => ?_⟩
  · cases hx : ixOf i with
    | some x => exact (h.own x r (row i x r hx hr)).alloc _
    | none =>
      obtain rfl := isgr i hx
      obtain rfl := gr r hr
      have := World.ownsRow_lit (base := B) (e := 4) (size := 1) w #[.bool true] 1 hB (by unfold maxLen; omega) rfl
      simpa using this
  · cases hx : ixOf i with
    | some x =>
      have l1 := (h.lt (row i x a hx ha) h1).2
      cases hy : ixOf j with
      | some y =>
        refine h.apart x y a b (fun e => hij ?_) (row i x a hx ha) (row j y b hy hb) g h1 h2
        subst e
        cases i <;> cases j <;> simp [ixOf] at hx hy <;> subst hx <;> simp_all
      | none =>
        obtain rfl := isgr j hy
        obtain rfl := gr b hb
        simp only [Value.ownBlock, Option.some.injEq] at h2
        omega
    | none =>
      obtain rfl := isgr i hx
      obtain rfl := gr a ha
      simp only [Value.ownBlock, Option.some.injEq] at h1
      cases hy : ixOf j with
      | some y =>
        have l1 := (h.lt (row j y b hy hb) h2).2
        omega
      | none => exact hij (isgr j hy).symm

theorem notK_of (h : Owns w B (Pset sb T N N N nv fv gv vf vg Nu Fi Fo)) {x : Ix} {r : Row} (hx : Pset sb T N N N nv fv gv vf vg Nu Fi Fo x = some r) (hn : ∀ i, ixOf i ≠ some x) {g : Nat} (hg : r.v.ownBlock = some g) : ¬ (STab T N nv vf vg w.heap.size).K g := by
  rintro ⟨i, n, hd, hb⟩
  cases hi : ixOf i with
  | some y =>
    have hP : (STab T N nv vf vg w.heap.size).P (tabs Nu Fi Fo) i = some ⟨(STab T N nv vf vg w.heap.size).V i, 4, 1, n, (tabs Nu Fi Fo i).map Value.bool⟩ := Tab.P_some hd
    rw [ix_row (sb := sb) (fv := fv) (gv := gv) _ i y hi] at hP
    exact h.apart y x _ _ (fun e => hn i (e ▸ hi)) hP hx g hb hg
  | none =>
    cases i <;> simp [ixOf] at hi
    have := (h.lt hx hg).2
    simp only [STab, Value.ownBlock, Option.some.injEq] at hb
    omega

theorem heads_f (h : Owns w B (Pset sb T N N N nv fv gv vf vg Nu Fi Fo)) (o : Obj) : Heads (w.alloc o) (STab T N nv vf vg w.heap.size).K N fv vf := by
  have hh : w.ownsRow B 83 1 fv N ((List.range N).map vf) := h.own .fh _ rfl
  refine ⟨own_form hh, fun n hn => ?_⟩
  obtain ⟨g, cap, hv, _, hlt⟩ := hh.form (by omega)
  refine ⟨g, cap, hv, notK_of h (x := .fh) rfl (fun i => by cases i <;> simp [ixOf]) (by simp only; rw [hv]; rfl), ?_⟩
  rw [World.cell?_alloc_past _ _ _ hlt]
  rw [hv] at hh
  rw [hh.cellAt n (by omega)]
  simp [hn]
theorem heads_g (h : Owns w B (Pset sb T N N N nv fv gv vf vg Nu Fi Fo)) (o : Obj) : Heads (w.alloc o) (STab T N nv vf vg w.heap.size).K N gv vg := by
  have hh : w.ownsRow B 83 1 gv N ((List.range N).map vg) := h.own .gh _ rfl
  refine ⟨own_form hh, fun n hn => ?_⟩
  obtain ⟨g, cap, hv, _, hlt⟩ := hh.form (by omega)
  refine ⟨g, cap, hv, notK_of h (x := .gh) rfl (fun i => by cases i <;> simp [ixOf]) (by simp only; rw [hv]; rfl), ?_⟩
  rw [World.cell?_alloc_past _ _ _ hlt]
  rw [hv] at hh
  rw [hh.cellAt n (by omega)]
  simp [hn]

theorem bit_none {i : Iy} {m : Nat} (hi : i ≠ .gr) : bit (tabs (List.replicate N false) (List.replicate N (List.replicate T false)) (List.replicate N (List.replicate (T + 1) false))) i m = false := by
  have rep : ∀ (n k : Nat), (List.replicate n false).getD k false = false := fun n k => by
    by_cases h : k < n
    · simp [List.getD, h]
    · simp [List.getD, List.getElem?_eq_none (show (List.replicate n false).length ≤ k by simp; omega)]
  have rep2 : ∀ (n q k j : Nat), ((List.replicate n (List.replicate q false)).getD k []).getD j false = false := fun n q k j => by
    by_cases h : k < n
    · have : (List.replicate n (List.replicate q false)).getD k [] = List.replicate q false := by simp [List.getD, h]
      rw [this]; exact rep _ _
    · have : (List.replicate n (List.replicate q false)).getD k [] = [] := by simp [List.getD, List.getElem?_eq_none (show (List.replicate n (List.replicate q false)).length ≤ k by simp; omega)]
      rw [this]; simp
  cases i with
  | gr => exact absurd rfl hi
  | null => exact rep _ _
  | f n => exact rep2 _ _ _ _
  | g n => exact rep2 _ _ _ _

theorem tabs_set2 : tabs Nu Fi (set2 Fo 0 T) = if 0 < Fo.length then setX (tabs Nu Fi Fo) (.g 0) T true else tabs Nu Fi Fo := by
  funext i
  cases i with
  | g n =>
    simp only [tabs]
    rw [set2_get]
    by_cases h : 0 < Fo.length
    · rw [if_pos h]
      by_cases hn : n = 0
      · subst hn; rw [if_pos ⟨rfl, h⟩]; simp [setX, tabs]
      · rw [if_neg (fun e => hn e.1)]; simp [setX, tabs, hn]
    · rw [if_neg h, if_neg (fun e => h e.2)]; rfl
  | _ => split <;> simp [tabs, setX]

theorem head_start {R : List Ru} (hf : Fine T N R) : AtHead T N R (tabs (List.replicate N false) (List.replicate N (List.replicate T false)) (set2 (List.replicate N (List.replicate (T + 1) false)) 0 T)) := by
  have h1 := hf.some
  have e := tabs_set2 (T := T) (Nu := List.replicate N false) (Fi := List.replicate N (List.replicate T false)) (Fo := List.replicate N (List.replicate (T + 1) false))
  rw [if_pos (by simp; omega)] at e
  rw [e]
  have hlen : (tabs (List.replicate N false) (List.replicate N (List.replicate T false)) (List.replicate N (List.replicate (T + 1) false)) (.g 0)).length = T + 1 := by simp [tabs, List.getD, show 0 < N by omega]
  have hb : ∀ i m, bit (setX (tabs (List.replicate N false) (List.replicate N (List.replicate T false)) (List.replicate N (List.replicate (T + 1) false))) (.g 0) T true) i m = if i = .g 0 ∧ m = T then true else bit (tabs (List.replicate N false) (List.replicate N (List.replicate T false)) (List.replicate N (List.replicate (T + 1) false))) i m := fun i m => bit_set (by omega)
  refine ⟨fun i n hd => ?_, fun i n m hd hm hbt => ?_, fun hz => ?_, by rw [hb]; simp⟩
  · rw [len_set]
    cases i with
    | null => cases hd; simp [tabs]
    | gr => cases hd; rfl
    | f q => simp only [sdom] at hd; split at hd <;> cases hd; rename_i hq; simp [tabs, List.getD, hq]
    | g q => simp only [sdom] at hd; split at hd <;> cases hd; rename_i hq; simp [tabs, List.getD, hq]
  · rw [hb] at hbt
    by_cases c : i = .g 0 ∧ m = T
    · obtain ⟨rfl, rfl⟩ := c
      exact Lv_closed (FollowF_mono hf _ _ _) _ (.inl ⟨rfl, rfl⟩)
    · rw [if_neg c] at hbt
      by_cases hg : i = .gr
      · subst hg; trivial
      · rw [bit_none hg] at hbt; cases hbt
  · rw [hb, if_neg (by simp)] at hz
    simp [bit, tabs] at hz
end

/-- Of a grammar that may be. -/
theorem fine_of {T N : Nat} {R : List Ru} (h : mayB T N R = true) : Fine T N R ∧ ∀ q, q < R.length → RuleIn T N (R.getD q (0, [])) ∧ (R.getD q (0, [])).2.length ≤ 8 := by
  obtain ⟨_, h1, _, _, h5⟩ := may_fine h
  have mem : ∀ r ∈ R, 0 ≤ r.1 ∧ r.1 < (N : Int) ∧ ∀ s ∈ r.2, 0 ≤ s.2 ∧ s.2 < if s.1 then (T : Int) else (N : Int) := fun r hr => by
    obtain ⟨q, hq, rfl⟩ := List.getElem_of_mem hr
    have e : R.getD q (0, []) = R[q] := by simp [List.getD, hq]
    have := h5 q hq
    rw [e] at this
    exact ⟨this.1, this.2.1, this.2.2.2⟩
  refine ⟨⟨fun r hr => ⟨(mem r hr).1, (mem r hr).2.1⟩, fun r hr s hs hb => ?_, fun r hr s hs hb => ?_, h1⟩, fun q hq => ⟨⟨⟨(h5 q hq).1, (h5 q hq).2.1⟩, (h5 q hq).2.2.2⟩, (h5 q hq).2.2.1⟩⟩
  · have := (mem r hr).2.2 s hs; rw [hb] at this; simpa using this
  · have := (mem r hr).2.2 s hs; rw [hb] at this; simpa using this

end Go.Proofs.Ytobegekmgoiopaa

/- The contract of the program's sets.none. -/
namespace Go.Proofs.Ytobegekmgoiopaa
open Go.RowKit

set_option maxRecDepth 100000 in
set_option maxHeartbeats 3200000 in
theorem none_any {w : World} {T N : Nat} {ra : Option Addr} {rl rc : Nat} (hT : T ≤ 8) (hN : N ≤ 12) :
    Calls Try.prog 44 #[.agg #[.int .i64 T, .int .i64 N, .slice ra rl rc]] w fun e w' => ∃ nv fv gv vf vg sb, e = .returned (.agg #[nv, fv, gv]) ∧ Below w.heap.size w w' ∧
      Owns w' (w.heap.size + 2) (Pset sb T N N N nv fv gv vf vg (List.replicate N false) (List.replicate N (List.replicate T false)) (List.replicate N (List.replicate (T + 1) false))) := by
  have mkN := make_bools N (by omega)
  have mkT := make_bools T (by omega)
  have mkT1 := make_bools (T + 1) (by omega)
  go_enter Try.func44, Try.ntmps44
  go_wp2_with fail
  have HS := start_sr w T N (by unfold maxLen; omega) (.cells #[.int .i64 T, .int .i64 N, .slice ra rl rc] 24) (.cells #[.slice none 0 0, .slice none 0 0, .slice none 0 0] 86)
  have boxes : ∀ wr, Below (w.heap.size + 2) ((w.alloc (.cells #[.int .i64 T, .int .i64 N, .slice ra rl rc] 24)).alloc (.cells #[.slice none 0 0, .slice none 0 0, .slice none 0 0] 86)) wr → Below w.heap.size w wr ∧ wr.cell? ⟨w.heap.size, 0, none⟩ = some (.int .i64 T) ∧ wr.cell? ⟨w.heap.size, 1, none⟩ = some (.int .i64 N) ∧ wr.cell? ⟨w.heap.size, 2, none⟩ = some (.slice ra rl rc) := fun wr hB =>
    ⟨(((Below.refl _ _).alloc (Nat.le_refl _) _).alloc (by simp) _).trans (hB.mono (by omega)), (hB.cell (by simp)).trans (by simp [go_sem]), (hB.cell (by simp)).trans (by simp [go_sem]), (hB.cell (by simp)).trans (by simp [go_sem])⟩
  have HBX : Hid (∀ wr, Below (w.heap.size + 2) ((w.alloc (.cells #[.int .i64 T, .int .i64 N, .slice ra rl rc] 24)).alloc (.cells #[.slice none 0 0, .slice none 0 0, .slice none 0 0] 86)) wr → Below w.heap.size w wr ∧ wr.cell? ⟨w.heap.size, 0, none⟩ = some (.int .i64 T) ∧ wr.cell? ⟨w.heap.size, 1, none⟩ = some (.int .i64 N) ∧ wr.cell? ⟨w.heap.size, 2, none⟩ = some (.slice ra rl rc)) := boxes
  clear boxes mkN
  go_loopw [10] (fun i wr => ∃ m : Nat, i = .int .i64 m ∧ m ≤ N ∧ SR ((w.alloc (.cells #[.int .i64 T, .int .i64 N, .slice ra rl rc] 24)).alloc (.cells #[.slice none 0 0, .slice none 0 0, .slice none 0 0] 86)) (w.heap.size + 2) (w.heap.size + 1 + 1 + 1) T N m m (List.replicate N false) (List.replicate m (List.replicate T false)) (List.replicate m (List.replicate (T + 1) false)) wr)
    (fun i _ => N - (intOf i).toNat)
  case atStart => exact ⟨0, rfl, Nat.zero_le _, HS⟩
  case round =>
    clear HS
    obtain ⟨m, rfl, hmN, hB, hle, hFi, hFo, nv, fv, gv, vf, vg, hO⟩ := hrel
    have HB : Hid (Below (w.heap.size + 2) ((w.alloc (.cells #[.int .i64 T, .int .i64 N, .slice ra rl rc] 24)).alloc (.cells #[.slice none 0 0, .slice none 0 0, .slice none 0 0] 86)) wr) := hB
    have HO : Hid (Owns wr (w.heap.size + 2) (Pset (w.heap.size + 1 + 1 + 1) T N m m nv fv gv vf vg (List.replicate N false) (List.replicate m (List.replicate T false)) (List.replicate m (List.replicate (T + 1) false)))) := hO
    obtain ⟨_, b0, b1, _⟩ := HBX.out wr hB
    have hsb : w.heap.size + 1 + 1 + 1 < wr.heap.size := World.block_lt_of_cell? wr _ hO.fields.1
    clear hB hO
    by_cases hlt : m < N
    · obtain ⟨fa, fc, rfl⟩ : ∃ a c, fv = .slice a m c := own_form (HO.out.own .fh _ rfl)
      obtain ⟨ga, gc, rfl⟩ : ∃ a c, gv = .slice a m c := own_form (HO.out.own .gh _ rfl)
      go_upto_region 5 with fail
      go_cut [] from 11 to 29 (fun wx => SR ((w.alloc (.cells #[.int .i64 T, .int .i64 N, .slice ra rl rc] 24)).alloc (.cells #[.slice none 0 0, .slice none 0 0, .slice none 0 0] 86)) (w.heap.size + 2) (w.heap.size + 1 + 1 + 1) T N (m + 1) m (List.replicate N false) (List.replicate (m + 1) (List.replicate T false)) (List.replicate m (List.replicate (T + 1) false)) wx)
      case first =>
        obtain ⟨i0, hi0, hz0, hz1, hz2⟩ := info_parts Try.infoBools
        obtain ⟨s0, s1, s2, sf⟩ := HO.out.fields
        obtain ⟨t0, t1, t2, tf⟩ := (HO.out.alloc (.cells (madeCells #[.bool false] T) 4)).fields
        have hO2 := (HO.out.alloc (.cells (madeCells #[.bool false] T) 4)).alloc (.cells #[.slice (some ⟨wr.heap.size, 0, none⟩) T T] 83)
        obtain ⟨q0, q1, q2, qf⟩ := hO2.fields
        have ownF : ((wr.alloc (.cells (madeCells #[.bool false] T) 4)).alloc (.cells #[.slice (some ⟨wr.heap.size, 0, none⟩) T T] 83)).drew.ownsRow (w.heap.size + 2) 83 1 (.slice fa m fc) m ((List.range m).map vf) := hO2.own .fh _ rfl
        have c0 : (wr.alloc (.cells (madeCells #[.bool false] T) 4)).cell? ⟨w.heap.size, 0, none⟩ = some (.int .i64 T) := by rw [World.cell?_alloc_past _ _ _ (by omega)]; exact b0
        have agF : (Value.slice fa m fc).ownBlock ≠ some (w.heap.size + 1 + 1 + 1) := fun e => HO.out.apart .fh .st _ _ (by simp) rfl rfl _ e rfl
        have hnb : ((wr.alloc (.cells (madeCells #[.bool false] T) 4)).alloc (.cells #[.slice (some ⟨wr.heap.size, 0, none⟩) T T] 83)).drew.heap[wr.heap.size + 1]? = some (.cells #[.slice (some ⟨wr.heap.size, 0, none⟩) T T] 83 (0, 0)) := by
          show ((wr.alloc (.cells (madeCells #[.bool false] T) 4)).alloc (.cells #[.slice (some ⟨wr.heap.size, 0, none⟩) T T] 83)).heap[wr.heap.size + 1]? = _
          simpa using heap_alloc_new (wr.alloc (.cells (madeCells #[.bool false] T) 4)) (.cells #[.slice (some ⟨wr.heap.size, 0, none⟩) T T] 83)
        have HNB : Hid (((wr.alloc (.cells (madeCells #[.bool false] T) 4)).alloc (.cells #[.slice (some ⟨wr.heap.size, 0, none⟩) T T] 83)).drew.heap[wr.heap.size + 1]? = some (.cells #[.slice (some ⟨wr.heap.size, 0, none⟩) T T] 83 (0, 0))) := hnb
        clear hnb hO2 s0 s2 t0 t2 q0 q2 mkT1
        go_region_law
          ((refine step_append_lies _ (by rfl) _ _ _ (by rfl) (w.heap.size + 2) 83 i0 _ 1 24 Try.underlying84 hi0 hz0 hz1 hz2 rfl (by omega) (.slice fa m fc) m ((List.range m).map vf) (by rfl) ownF
              ⟨wr.heap.size + 1, 0, none⟩ 1 1 [.slice (some ⟨wr.heap.size, 0, none⟩) T T] (by rfl) (by rfl) (World.news_of_block (cs := #[.slice (some ⟨wr.heap.size, 0, none⟩) T T]) (t := 83) (fr := (0, 0)) HNB.out) (by simp [Value.oneCell'])
              (by omega) (by unfold maxLen; omega) (by omega) (by simp; omega) (wr.heap.size + 2) (by simp) ?_; intro g1 cap1 w1 hown1 hgrow1 hat1 hlt1
            have d1 := (hgrow1.cell_far ⟨w.heap.size + 1 + 1 + 1, 1, none⟩ (by simp; omega) (Ne.symm agF)).trans q1; have d2 := (hgrow1.frozen_far ⟨w.heap.size + 1 + 1 + 1, 1, none⟩ (by simp; omega) (Ne.symm agF)).trans (qf 1)))
        all_goals
          go_wp2_with fail
          go_meet
          case rel =>
            obtain ⟨x1, x2⟩ := below_push (sb := w.heap.size + 1 + 1 + 1) (j := 1) (v := .slice (some ⟨g1, 0, none⟩) (m + 1) cap1) HB.out hle hgrow1 (fun k hk => (ownF.lt k hk).1) (by omega)
            refine ⟨x1, x2, by simp, by simp, _, _, _, _, _, by
              have := HO.out.pushFirst (by simp) hle (by unfold maxLen; omega) hgrow1 hown1 (by simpa using hat1)
              rw [List.replicate_succ']
              exact this⟩
      case rest =>
        clear HB HO b0 b1 hle hFi hFo hsb
        obtain ⟨hB, hle, hFi, hFo, nv, fv, gv, vf, vg, hO⟩ := hcut
        have HB : Hid (Below (w.heap.size + 2) ((w.alloc (.cells #[.int .i64 T, .int .i64 N, .slice ra rl rc] 24)).alloc (.cells #[.slice none 0 0, .slice none 0 0, .slice none 0 0] 86)) wc) := hB
        have HO : Hid (Owns wc (w.heap.size + 2) (Pset (w.heap.size + 1 + 1 + 1) T N (m + 1) m nv fv gv vf vg (List.replicate N false) (List.replicate (m + 1) (List.replicate T false)) (List.replicate m (List.replicate (T + 1) false)))) := hO
        obtain ⟨_, b0, b1, _⟩ := HBX.out wc hB
        have hsb : w.heap.size + 1 + 1 + 1 < wc.heap.size := World.block_lt_of_cell? wc _ hO.fields.1
        clear hB hO
        obtain ⟨ga, gc, rfl⟩ : ∃ a c, gv = .slice a m c := own_form (HO.out.own .gh _ rfl)
        obtain ⟨i0, hi0, hz0, hz1, hz2⟩ := info_parts Try.infoBools
        obtain ⟨s0, s1, s2, sf⟩ := HO.out.fields
        obtain ⟨t0, t1, t2, tf⟩ := (HO.out.alloc (.cells (madeCells #[.bool false] (T + 1)) 4)).fields
        have hO2 := (HO.out.alloc (.cells (madeCells #[.bool false] (T + 1)) 4)).alloc (.cells #[.slice (some ⟨wc.heap.size, 0, none⟩) (T + 1) (T + 1)] 83)
        obtain ⟨q0, q1, q2, qf⟩ := hO2.fields
        have ownF : ((wc.alloc (.cells (madeCells #[.bool false] (T + 1)) 4)).alloc (.cells #[.slice (some ⟨wc.heap.size, 0, none⟩) (T + 1) (T + 1)] 83)).drew.ownsRow (w.heap.size + 2) 83 1 (.slice ga m gc) m ((List.range m).map vg) := hO2.own .gh _ rfl
        have c0 : (wc.alloc (.cells (madeCells #[.bool false] (T + 1)) 4)).cell? ⟨w.heap.size, 0, none⟩ = some (.int .i64 T) := by rw [World.cell?_alloc_past _ _ _ (by omega)]; exact b0
        have agF : (Value.slice ga m gc).ownBlock ≠ some (w.heap.size + 1 + 1 + 1) := fun e => HO.out.apart .gh .st _ _ (by simp) rfl rfl _ e rfl
        have hnb : ((wc.alloc (.cells (madeCells #[.bool false] (T + 1)) 4)).alloc (.cells #[.slice (some ⟨wc.heap.size, 0, none⟩) (T + 1) (T + 1)] 83)).drew.heap[wc.heap.size + 1]? = some (.cells #[.slice (some ⟨wc.heap.size, 0, none⟩) (T + 1) (T + 1)] 83 (0, 0)) := by
          show ((wc.alloc (.cells (madeCells #[.bool false] (T + 1)) 4)).alloc (.cells #[.slice (some ⟨wc.heap.size, 0, none⟩) (T + 1) (T + 1)] 83)).heap[wc.heap.size + 1]? = _
          simpa using heap_alloc_new (wc.alloc (.cells (madeCells #[.bool false] (T + 1)) 4)) (.cells #[.slice (some ⟨wc.heap.size, 0, none⟩) (T + 1) (T + 1)] 83)
        have HNB : Hid (((wc.alloc (.cells (madeCells #[.bool false] (T + 1)) 4)).alloc (.cells #[.slice (some ⟨wc.heap.size, 0, none⟩) (T + 1) (T + 1)] 83)).drew.heap[wc.heap.size + 1]? = some (.cells #[.slice (some ⟨wc.heap.size, 0, none⟩) (T + 1) (T + 1)] 83 (0, 0))) := hnb
        have mkT1' : ∀ u : World, (Instr.makeSlice 83 (.int .i64 ((T : Int) + 1)) (.int .i64 ((T : Int) + 1))).run Try.prog u = .ok (.slice (some ⟨u.heap.size, 0, none⟩) (T + 1) (T + 1)) (u.alloc (.cells (madeCells #[.bool false] (T + 1)) 4)) := fun u => by simpa using mkT1 u
        have hw : IntKind.i64.wrap ((T : Int) + 1) = (T : Int) + 1 := IntWalk.i64_in _ (by omega)
        clear hnb hO2 s0 s1 t0 t1 q0 q1 mkT mkT1
        go_wp2_with fail
        go_region_law
          ((refine step_append_lies _ (by rfl) _ _ _ (by rfl) (w.heap.size + 2) 83 i0 _ 1 24 Try.underlying84 hi0 hz0 hz1 hz2 rfl (by omega) (.slice ga m gc) m ((List.range m).map vg) (by rfl) ownF
              ⟨wc.heap.size + 1, 0, none⟩ 1 1 [.slice (some ⟨wc.heap.size, 0, none⟩) (T + 1) (T + 1)] (by rfl) (by rfl) (World.news_of_block (cs := #[.slice (some ⟨wc.heap.size, 0, none⟩) (T + 1) (T + 1)]) (t := 83) (fr := (0, 0)) HNB.out) (by simp [Value.oneCell'])
              (by omega) (by unfold maxLen; omega) (by omega) (by simp; omega) (wc.heap.size + 2) (by simp) ?_; intro g1 cap1 w1 hown1 hgrow1 hat1 hlt1
            have d1 := (hgrow1.cell_far ⟨w.heap.size + 1 + 1 + 1, 2, none⟩ (by simp; omega) (Ne.symm agF)).trans q2; have d2 := (hgrow1.frozen_far ⟨w.heap.size + 1 + 1 + 1, 2, none⟩ (by simp; omega) (Ne.symm agF)).trans (qf 2)))
        all_goals
          go_wp2_with fail
          go_roundw
          case rel =>
            obtain ⟨x1, x2⟩ := below_push (sb := w.heap.size + 1 + 1 + 1) (j := 2) (v := .slice (some ⟨g1, 0, none⟩) (m + 1) cap1) HB.out hle hgrow1 (fun k hk => (ownF.lt k hk).1) (by omega)
            refine ⟨m + 1, by go_num, by omega, x1, x2, by simp, by simp, _, _, _, _, _, by
              have := HO.out.pushFollow (by simp) hle (by unfold maxLen; omega) hgrow1 hown1 (by simpa using hat1)
              rw [List.replicate_succ' (n := m) (a := List.replicate (T + 1) false)]
              exact this⟩
          case measure => simp [intOf]; omega
    · have hmN' : m = N := by omega
      have HS1 : Hid (SR ((w.alloc (.cells #[.int .i64 T, .int .i64 N, .slice ra rl rc] 24)).alloc (.cells #[.slice none 0 0, .slice none 0 0, .slice none 0 0] 86)) (w.heap.size + 2) (w.heap.size + 1 + 1 + 1) T N N N (List.replicate N false) (List.replicate N (List.replicate T false)) (List.replicate N (List.replicate (T + 1) false)) wr) := by
        subst hmN'
        exact ⟨HB.out, hle, hFi, hFo, nv, fv, gv, vf, vg, HO.out⟩
      clear mkT mkT1 HB HO hle hFi hFo hsb hmN hmN' b0
      obtain ⟨hB, hle, hFl, hFol, nv, fv, gv, vf, vg, hO⟩ := HS1.out
      have HB : Hid (Below (w.heap.size + 2) ((w.alloc (.cells #[.int .i64 T, .int .i64 N, .slice ra rl rc] 24)).alloc (.cells #[.slice none 0 0, .slice none 0 0, .slice none 0 0] 86)) wr) := hB
      have HO : Hid (Owns wr (w.heap.size + 2) (Pset (w.heap.size + 1 + 1 + 1) T N N N nv fv gv vf vg (List.replicate N false) (List.replicate N (List.replicate T false)) (List.replicate N (List.replicate (T + 1) false)))) := hO
      obtain ⟨s0, s1, s2, sf⟩ := hO.fields
      obtain ⟨na, nc, rfl⟩ : ∃ a c, nv = .slice a N c := own_form (hO.own .null _ rfl)
      obtain ⟨fa, fc, rfl⟩ : ∃ a c, fv = .slice a N c := own_form (hO.own .fh _ rfl)
      obtain ⟨ga, gc, rfl⟩ : ∃ a c, gv = .slice a N c := own_form (hO.own .gh _ rfl)
      have r0 : wr.cell? ⟨w.heap.size + 1, 0, none⟩ = some (.slice none 0 0) := (hB.cell (by simp)).trans (by simp [go_sem])
      have r1 : wr.cell? ⟨w.heap.size + 1, 1, none⟩ = some (.slice none 0 0) := (hB.cell (by simp)).trans (by simp [go_sem])
      have r2 : wr.cell? ⟨w.heap.size + 1, 2, none⟩ = some (.slice none 0 0) := (hB.cell (by simp)).trans (by simp [go_sem])
      have rf : ∀ o, wr.frozen? ⟨w.heap.size + 1, o, none⟩ = false := fun o => (hB.frozen (by simp)).trans (by simp [go_sem])
      have HX : Hid (Below w.heap.size w wr) := (HBX.out wr hB).1
      clear hB hO hFl hFol HS1
      go_wp2_with fail
      refine bodyPost_ret (v := .agg #[.slice na N nc, .slice fa N fc, .slice ga N gc]) (by simp [results, Try.results44, go_sem, r0, r1, r2]) rfl ⟨_, _, _, vf, vg, w.heap.size + 1 + 1 + 1, rfl, ?_, ?_⟩
      · exact ((HX.out.setCell (by simp) _).setCell (by simp) _).setCell (by simp) _
      · exact ((HO.out.setBelow (by simp) _).setBelow (by simp) _).setBelow (by simp) _

end Go.Proofs.Ytobegekmgoiopaa

/- The contract of the program's sets.Of. -/
namespace Go.Proofs.Ytobegekmgoiopaa
open Go.RowKit

/-- The sets are made, and nothing is in them but the end behind the name 0. -/
structure Ready (w : World) (B T N sx : Nat) (rv nv fv gv : Value) (vf vg : Nat → Value) (R : List Ru) (wx : World) : Prop where
  below : Below w.heap.size w wx
  size : B ≤ wx.heap.size
  base : w.heap.size + 2 ≤ B
  res : ∀ o, o < 3 → wx.cell? ⟨w.heap.size + 1, o, none⟩ = some (.slice none 0 0)
  fro : ∀ o, wx.frozen? ⟨w.heap.size + 1, o, none⟩ = false
  fB : ∀ g c, fv = .slice (some ⟨g, 0, none⟩) N c → B ≤ g
  gB : ∀ g c, gv = .slice (some ⟨g, 0, none⟩) N c → B ≤ g
  st : ∃ X, AtHead T N R X ∧ Bt (wx.alloc (.cells #[.bool true] 4)) B (STab T N nv vf vg wx.heap.size) X ∧ Env (wx.alloc (.cells #[.bool true] 4)) B T N (STab T N nv vf vg wx.heap.size).K w.heap.size sx rv nv fv gv vf vg R

theorem ready_start {w w2 w3 : World} {T N sb g0 c0 : Nat} {rv nv fv gv : Value} {vf vg : Nat → Value} {R : List Ru} (hf : Fine T N R) (hr : RulesAt w w.heap.size rv R)
    (hB2 : Below (w.heap.size + 2) ((w.alloc (.cells #[.int .i64 T, .int .i64 N, rv] 24)).alloc (.cells #[.slice none 0 0, .slice none 0 0, .slice none 0 0] 86)) w2)
    (hB3 : Below w2.heap.size w2 w3)
    (hO : Owns w3 (w2.heap.size + 2) (Pset sb T N N N nv fv gv vf vg (List.replicate N false) (List.replicate N (List.replicate T false)) (List.replicate N (List.replicate (T + 1) false))))
    (hv : vg 0 = .slice (some ⟨g0, 0, none⟩) (T + 1) c0) :
    Ready w (w2.heap.size + 2) T N w3.heap.size rv nv fv gv vf vg R ((w3.setCell ⟨g0, T, none⟩ (.bool true)).alloc (.cells #[nv, fv, gv] 86)).drew := by
  have h1N := hf.some
  have hs2 : w.heap.size + 2 ≤ w2.heap.size := by have := hB2.size; simp at this; omega
  have hsb := World.block_lt_of_cell? w3 _ hO.fields.1
  have hst := (hO.own .st _ rfl).lt sb rfl
  have hO1 := hO.setFollow (by simp) (n := 0) (by omega) hv T
  have hg0 := (hO.own (.g 0) _ (by simp [Pset, show 0 < N by omega]; rfl)).lt g0 (by simp only; rw [hv]; rfl)
  have hBw : Below w.heap.size w w2 := (((Below.refl _ _).alloc (Nat.le_refl _) _).alloc (by simp) _).trans (hB2.mono (by omega))
  have hB4 : Below w2.heap.size w2 ((w3.setCell ⟨g0, T, none⟩ (.bool true)).alloc (.cells #[nv, fv, gv] 86)).drew := ((hB3.setCell (by simp only; omega) _).alloc (by have := hB3.size; simp; omega) _).drew
  have hB5 : Below (w.heap.size + 2) ((w.alloc (.cells #[.int .i64 T, .int .i64 N, rv] 24)).alloc (.cells #[.slice none 0 0, .slice none 0 0, .slice none 0 0] 86)) ((w3.setCell ⟨g0, T, none⟩ (.bool true)).alloc (.cells #[nv, fv, gv] 86)).drew := hB2.trans (hB4.mono hs2)
  have hsz : ((w3.setCell ⟨g0, T, none⟩ (.bool true)).alloc (.cells #[nv, fv, gv] 86)).drew.heap.size = w3.heap.size + 1 := by
    show ((w3.setCell ⟨g0, T, none⟩ (.bool true)).alloc (.cells #[nv, fv, gv] 86)).heap.size = _
    simp
  have hle : w2.heap.size + 2 ≤ ((w3.setCell ⟨g0, T, none⟩ (.bool true)).alloc (.cells #[nv, fv, gv] 86)).drew.heap.size := by rw [hsz]; omega
  have hO2 : Owns ((w3.setCell ⟨g0, T, none⟩ (.bool true)).alloc (.cells #[nv, fv, gv] 86)).drew (w2.heap.size + 2) _ := (hO1.alloc (.cells #[nv, fv, gv] 86)).drew
  obtain ⟨wx, hwx⟩ : ∃ wx, ((w3.setCell ⟨g0, T, none⟩ (.bool true)).alloc (.cells #[nv, fv, gv] 86)).drew = wx := ⟨_, rfl⟩
  have hbox : ∀ o v, (#[nv, fv, gv] : Array Value)[o]? = some v → wx.cell? ⟨w3.heap.size, o, none⟩ = some v := fun o v hv => by
    rw [← hwx]
    show ((w3.setCell ⟨g0, T, none⟩ (.bool true)).alloc (.cells #[nv, fv, gv] 86)).cell? _ = _
    have := World.cell?_alloc_new (w3.setCell ⟨g0, T, none⟩ (.bool true)) #[nv, fv, gv] 86 o
    simp only [World.size_setCell] at this
    rw [this]
    exact hv
  rw [hwx] at hB4 hB5 hsz hle hO2 ⊢
  have hBt := bt_of_pset hO2 hle
  have geK : ∀ b, (STab T N nv vf vg wx.heap.size).K b → w2.heap.size + 2 ≤ b := fun b hb => Bt.ge hBt hb
  have hBwx : Below w.heap.size w wx := hBw.trans (hB4.mono (by omega))
  refine ⟨hBwx, hle, by omega, fun o ho => (hB5.cell (by simp)).trans ?_, fun o => (hB5.frozen (by simp)).trans (by simp [go_sem]), fun g c hfv => ?_, fun g c hgv => ?_, tabs _ _ _, head_start hf, hBt, ?_⟩
  · rcases o with _ | _ | _ | o
    · simp [go_sem]
    · simp [go_sem]
    · simp [go_sem]
    · omega
  · exact ((hO.own .fh _ rfl).lt g (by simp only; rw [hfv]; rfl)).1
  · exact ((hO.own .gh _ rfl).lt g (by simp only; rw [hgv]; rfl)).1
  · have past : ∀ b o, b < wx.heap.size → (wx.alloc (.cells #[.bool true] 4)).cell? ⟨b, o, none⟩ = wx.cell? ⟨b, o, none⟩ := fun b o hb => World.cell?_alloc_past _ _ _ hb
    refine ⟨?_, ?_, ?_, ?_, fun hK => ?_, fun hK => ?_, ?_, heads_f hO2 _, heads_g hO2 _⟩
    · rw [past _ _ (by omega)]; exact (hB5.cell (by simp)).trans (by simp [go_sem])
    · rw [past _ _ (by omega)]; exact hbox 0 nv rfl
    · rw [past _ _ (by omega)]; exact hbox 1 fv rfl
    · rw [past _ _ (by omega)]; exact hbox 2 gv rfl
    · have := geK _ hK; omega
    · obtain ⟨i, n, hd, hb⟩ := hK
      cases hx : ixOf i with
      | some x =>
        have hP : (STab T N nv vf vg wx.heap.size).P (tabs (List.replicate N false) (List.replicate N (List.replicate T false)) (List.replicate N (List.replicate (T + 1) false))) i = some ⟨(STab T N nv vf vg wx.heap.size).V i, 4, 1, n, _⟩ := Tab.P_some hd
        rw [ix_row (sb := sb) (fv := fv) (gv := gv) _ i x hx] at hP
        have := (hO.lt hP hb).2
        omega
      | none =>
        cases i <;> simp [ixOf] at hx
        simp only [STab, Value.ownBlock, Option.some.injEq] at hb
        omega
    · exact ((hr.below hBwx).below ((Below.refl _ _).alloc (by omega) _)).mono (by omega)

theorem Heads.setOther {w : World} {K : Nat → Prop} {N B : Nat} {fv : Value} {vs : Nat → Value} (h : Heads w K N fv vs) (hB : ∀ g c, fv = .slice (some ⟨g, 0, none⟩) N c → B ≤ g) {a : Addr} (ha : a.block < B) (u : Value) : Heads (w.setCell a u) K N fv vs :=
  ⟨h.1, fun n hn => by
    obtain ⟨g, c, h1, h2, h3⟩ := h.2 n hn
    have := hB g c h1
    exact ⟨g, c, h1, h2, (cell_set_other (.inl (by simp only; omega))).trans h3⟩⟩

set_option maxRecDepth 100000 in
set_option maxHeartbeats 3200000 in
theorem setsOf_may {w : World} {T N : Nat} {rv : Value} {R : List Ru} (hr : RulesAt w w.heap.size rv R) (hm : mayB T N R = true) :
    Calls Try.prog 30 #[.agg #[.int .i64 T, .int .i64 N, rv]] w fun e w' => ∃ nv fv gv vf vg, e = .returned (.tuple #[.agg #[nv, fv, gv], .int .i64 0]) ∧ Below w.heap.size w w' ∧
      ∃ gb B Y, w.heap.size ≤ B ∧ AtHead T N R Y ∧ bit Y .gr 0 = false ∧ Bt w' B (STab T N nv vf vg gb) Y ∧ Heads w' (STab T N nv vf vg gb).K N fv vf ∧ Heads w' (STab T N nv vf vg gb).K N gv vg := by
  obtain ⟨hT, hN1, hN, hRl, _⟩ := may_fine hm
  obtain ⟨hfi, hRq⟩ := fine_of hm
  obtain ⟨ra, rc, hrv⟩ := hr.1
  subst hrv
  have may := mayG_any (T := T) (N := N) ((hr.boxed (.cells #[.int .i64 T, .int .i64 N, .slice ra R.length rc] 24)).boxed (.cells #[.slice none 0 0, .slice none 0 0, .slice none 0 0] 86))
  rw [hm] at may
  have HR : Hid (RulesAt w w.heap.size (.slice ra R.length rc) R) := hr
  have HF : Hid (Fine T N R) := hfi
  have HQ : Hid (∀ q, q < R.length → RuleIn T N (R.getD q (0, [])) ∧ (R.getD q (0, [])).2.length ≤ 8) := hRq
  clear hr hm hfi hRq
  go_enter Try.func30, Try.ntmps30
  go_wp2_with
    (first
     | (go_at_call 10; refine may.mono ?_; rintro e w2 ⟨rfl, hB2⟩
        have b0 : w2.cell? ⟨w.heap.size, 0, none⟩ = some (.int .i64 T) := (hB2.cell (by simp; omega)).trans (by simp [go_sem])
        have b1 : w2.cell? ⟨w.heap.size, 1, none⟩ = some (.int .i64 N) := (hB2.cell (by simp; omega)).trans (by simp [go_sem])
        have b2 : w2.cell? ⟨w.heap.size, 2, none⟩ = some (.slice ra R.length rc) := (hB2.cell (by simp; omega)).trans (by simp [go_sem])
        have hs2 : w.heap.size + 2 ≤ w2.heap.size := by have := hB2.size; simp at this; omega
        have HB2 : Hid (Below (w.heap.size + 2) ((w.alloc (.cells #[.int .i64 T, .int .i64 N, .slice ra R.length rc] 24)).alloc (.cells #[.slice none 0 0, .slice none 0 0, .slice none 0 0] 86)) w2) := hB2.mono (by simp)
        clear hB2)
     | (go_at_call 44; refine (none_any hT hN).mono ?_; rintro e w3 ⟨nv, fv, gv, vf, vg, sb, rfl, hB3, hO3⟩
        obtain ⟨na, nc, rfl⟩ : ∃ a c, nv = .slice a N c := own_form (hO3.own .null _ rfl)
        obtain ⟨fa, fc, rfl⟩ : ∃ a c, fv = .slice a N c := own_form (hO3.own .fh _ rfl)
        have HB3 : Hid (Below w2.heap.size w2 w3) := hB3
        have HO3 : Hid (Owns w3 (w2.heap.size + 2) (Pset sb T N N N (.slice na N nc) (.slice fa N fc) gv vf vg (List.replicate N false) (List.replicate N (List.replicate T false)) (List.replicate N (List.replicate (T + 1) false)))) := hO3
        obtain ⟨gg, gc, hgv, _, hggl⟩ := hO3.form (i := .gh) rfl (by simp only; omega)
        simp only at hgv
        subst hgv
        obtain ⟨g0, c0, hg0, _, hg0l⟩ := hO3.form (i := .g 0) (r := ⟨vg 0, 4, 1, T + 1, ((List.replicate N (List.replicate (T + 1) false)).getD 0 []).map Value.bool⟩) (by simp [Pset, show 0 < N by omega]) (by simp only; omega)
        simp only at hg0
        have k0 := (hO3.own .gh _ rfl).cellAt 0 (by simp only; omega)
        have k1 := hO3.own (.g 0) _ (by simp [Pset, show 0 < N by omega]; rfl)
        simp only [hg0] at k1
        have k2 := k1.cellAt T (by omega)
        have k3 := k1.frozenAt T
        have d0 := (hB3.cell (p := ⟨w.heap.size, 0, none⟩) (by simp only; omega)).trans b0
        have hs3 := hB3.size
        have HG0 : Hid (vg 0 = .slice (some ⟨g0, 0, none⟩) (T + 1) c0) := hg0
        have HK0 : Hid (w3.cell? ⟨gg, 0, none⟩ = some (vg 0)) := by
          show w3.cell? ⟨gg, 0, none⟩ = some (vg 0)
          rw [k0]; simp [show 0 < N by omega]
        have HK2 : Hid (∃ x, w3.cell? ⟨g0, T, none⟩ = some (.bool x)) := by
          show ∃ x, w3.cell? ⟨g0, T, none⟩ = some (.bool x)
          rw [k2]
          exact ⟨false, by simp⟩
        clear hB3 hO3 k1 k0 k2))
  have j0 : (0 : Int) ≤ (T : Int) := Int.natCast_nonneg _
  have j1 : (T : Int) < (T : Int) + 1 := by omega
  have j2 : 0 < N := by omega
  have hg0 := HG0.out
  have k0 := HK0.out
  obtain ⟨x, k2⟩ := HK2.out
  have m0 : (w3.alloc (.cells #[.slice na N nc, .slice fa N fc, .slice (some ⟨gg, 0, none⟩) N gc] 86)).cell? ⟨gg, 0, none⟩ = some (vg 0) := by rw [World.cell?_alloc_past _ _ _ hggl]; exact k0
  have m1 : (w3.alloc (.cells #[.slice na N nc, .slice fa N fc, .slice (some ⟨gg, 0, none⟩) N gc] 86)).cell? ⟨w.heap.size, 0, none⟩ = some (.int .i64 T) := by rw [World.cell?_alloc_past _ _ _ (by omega)]; exact d0
  have m2 : (w3.alloc (.cells #[.slice na N nc, .slice fa N fc, .slice (some ⟨gg, 0, none⟩) N gc] 86)).cell? ⟨g0, T, none⟩ = some (.bool x) := by rw [World.cell?_alloc_past _ _ _ hg0l]; exact k2
  clear b0 b1 b2 d0 k0
  go_cut [] from 11 to 22 (fun wx => Ready w (w2.heap.size + 2) T N w3.heap.size (.slice ra R.length rc) (.slice na N nc) (.slice fa N fc) (.slice (some ⟨gg, 0, none⟩) N gc) vf vg R wx)
  case first =>
    refine wp_region_tail 7 (by kernel_rfl) (by kernel_rfl) ?_
    simp only [List.take_succ_cons, List.take_zero, List.drop_succ_cons, List.drop_zero]
    repeat still_step
    refine wpStill_nil ?_
    go_wp2_with fail
    go_meet
    case rel => exact ready_start HF.out HR.out HB2.out HB3.out HO3.out HG0.out
  case rest =>
    obtain ⟨X, hA, hBt, hE⟩ := hcut.st
    have until' := untilStill_any hBt hcut.size hE HF.out HQ.out hT hRl hA
    have HC : Hid (Ready w (w2.heap.size + 2) T N w3.heap.size (.slice ra R.length rc) (.slice na N nc) (.slice fa N fc) (.slice (some ⟨gg, 0, none⟩) N gc) vf vg R wc) := hcut
    have HBt : Hid (Bt (wc.alloc (.cells #[.bool true] 4)) (w2.heap.size + 2) (STab T N (.slice na N nc) vf vg wc.heap.size) X) := hBt
    have HE : Hid (Env (wc.alloc (.cells #[.bool true] 4)) (w2.heap.size + 2) T N (STab T N (.slice na N nc) vf vg wc.heap.size).K w.heap.size w3.heap.size (.slice ra R.length rc) (.slice na N nc) (.slice fa N fc) (.slice (some ⟨gg, 0, none⟩) N gc) vf vg R) := hE
    have z2 : wc.cell? ⟨w.heap.size, 2, none⟩ = some (.slice ra R.length rc) := (World.cell?_alloc_past _ _ _ (by have := hcut.size; have := hcut.base; omega)).symm.trans hE.g2
    clear hcut hBt hE hA m0 m1 m2 k2 k3 hg0
    go_wp2_with
      (go_at_call 45; refine until'.mono ?_; rintro e w5 ⟨rfl, Y, hAY, hgY, hB5, hK5⟩
       have n0 := hK5.cell HE.out.sK HE.out.s0
       have n1 := hK5.cell HE.out.sK HE.out.s1
       have n2 := hK5.cell HE.out.sK HE.out.s2
       have hrK : ¬ (STab T N (.slice na N nc) vf vg wc.heap.size).K (w.heap.size + 1) := fun hK => by have := Bt.ge HBt.out hK; omega
       have hrl : w.heap.size + 1 < wc.heap.size := by have := HC.out.size; omega
       have r0 := hK5.cell (p := ⟨w.heap.size + 1, 0, none⟩) hrK ((World.cell?_alloc_past _ _ _ hrl).trans (HC.out.res 0 (by omega)))
       have r1 := hK5.cell (p := ⟨w.heap.size + 1, 1, none⟩) hrK ((World.cell?_alloc_past _ _ _ hrl).trans (HC.out.res 1 (by omega)))
       have r2 := hK5.cell (p := ⟨w.heap.size + 1, 2, none⟩) hrK ((World.cell?_alloc_past _ _ _ hrl).trans (HC.out.res 2 (by omega)))
       have hal : Below wc.heap.size wc (wc.alloc (.cells #[.bool true] 4)) := (Below.refl _ _).alloc (Nat.le_refl _) _
       have rf : ∀ o, w5.frozen? ⟨w.heap.size + 1, o, none⟩ = false := fun o => (hK5.frozen hrK (by simp; omega)).trans ((hal.frozen hrl).trans (HC.out.fro o))
       have HX : Hid (Below w.heap.size w w5) := (HC.out.below.trans (hal.mono (by omega))).trans (hK5.below (fun b hb => by have := Bt.ge HBt.out hb; omega) (by simp; omega))
       have HY : Hid (AtHead T N R Y ∧ bit Y .gr 0 = false ∧ Bt w5 (w2.heap.size + 2) (STab T N (.slice na N nc) vf vg wc.heap.size) Y ∧ Heads w5 (STab T N (.slice na N nc) vf vg wc.heap.size).K N (.slice fa N fc) vf ∧ Heads w5 (STab T N (.slice na N nc) vf vg wc.heap.size).K N (.slice (some ⟨gg, 0, none⟩) N gc) vg) := ⟨hAY, hgY, hB5, HE.out.hF.kept hK5, HE.out.hG.kept hK5⟩
       clear hAY hgY hB5 hK5 until' hal z2)
    refine bodyPost_ret (v := .tuple #[.agg #[.slice na N nc, .slice fa N fc, .slice (some ⟨gg, 0, none⟩) N gc], .int .i64 0]) (by simp [results, Try.results30, go_sem, r0, r1, r2]) rfl ⟨_, _, _, vf, vg, rfl, ?_, wc.heap.size, w2.heap.size + 2, Y, by omega, HY.out.1, HY.out.2.1, ?_, ?_, ?_⟩
    · exact ((HX.out.setCell (by simp) _).setCell (by simp) _).setCell (by simp) _
    · exact ((Owns.setBelow HY.out.2.2.1 (by simp; omega) _).setBelow (by simp; omega) _).setBelow (by simp; omega) _
    · exact ((HY.out.2.2.2.1.setOther (B := w2.heap.size + 2) HC.out.fB (by simp; omega) _).setOther HC.out.fB (by simp; omega) _).setOther HC.out.fB (by simp; omega) _
    · exact ((HY.out.2.2.2.2.setOther (B := w2.heap.size + 2) HC.out.gB (by simp; omega) _).setOther HC.out.gB (by simp; omega) _).setOther HC.out.gB (by simp; omega) _

end Go.Proofs.Ytobegekmgoiopaa

/- The program's sets are the reference's: the same tables, plain. No walk. -/
namespace Go.Proofs.Ytobegekmgoiopaa
open Go.RowKit

theorem bools_ext {X Y : List Bool} (hl : X.length = Y.length) (h : ∀ i, i < X.length → (X.getD i false = true ↔ Y.getD i false = true)) : X = Y := by
  refine List.ext_getElem hl fun i h1 h2 => ?_
  have := h i h1
  simp [List.getD, h1, h2] at this
  exact this

theorem rows_ext {X Y : List (List Bool)} (hl : X.length = Y.length) (h : ∀ i, i < X.length → X.getD i [] = Y.getD i []) : X = Y := by
  refine List.ext_getElem hl fun i h1 h2 => ?_
  have := h i h1
  simpa [List.getD, h1, h2] using this

section
variable {w : World} {B T N gb : Nat} {nv fv gv : Value} {vf vg : Nat → Value} {R : List Ru} {Y : Xs}

theorem bt_bools {c : Tab Iy} {i : Iy} {n : Nat} (h : Bt w B c Y) (hd : c.dom i = some n) : BoolsAt w (c.V i) (Y i) := own_bools (h.own hd)

theorem dev_bools (h : Bt w B (STab T N nv vf vg gb) Y) : BoolsAt w nv (Y .null) := bt_bools (c := STab T N nv vf vg gb) (i := .null) (n := N) h rfl
theorem dev_first (h : Bt w B (STab T N nv vf vg gb) Y) (hF : Heads w (STab T N nv vf vg gb).K N fv vf) : MatAt w fv ((List.range N).map fun n => Y (.f n)) := by
  refine ⟨by simpa using hF.1, fun i hi => ?_⟩
  simp only [List.length_map, List.length_range] at hi
  obtain ⟨g, c, h1, _, h3⟩ := hF.2 i hi
  refine ⟨g, 0, c, vf i, by simpa using h1, by rw [Nat.zero_add]; exact h3, ?_⟩
  have e : ((List.range N).map fun n => Y (.f n)).getD i [] = Y (.f i) := by simp [List.getD, hi]
  rw [e]
  exact bt_bools (c := STab T N nv vf vg gb) (i := .f i) (n := T) h (by simp [STab, sdom, hi])
theorem dev_is_ref (hf : Fine T N R) (hA : AtHead T N R Y) (hg : bit Y .gr 0 = false) :
    Y .null = nullA R N ∧ ((List.range N).map fun n => Y (.f n)) = firstA R (nullA R N) T N ∧ ((List.range N).map fun n => Y (.g n)) = followA R (nullA R N) (firstA R (nullA R N) T N) T N := by
  obtain ⟨l1, l2, l3⟩ := least_of_still hf hA.shp hA.snd (hA.held hg) hA.fin
  obtain ⟨n1, n2⟩ := nullA_iff hf
  obtain ⟨f1, f2⟩ := firstA_iff hf n2
  obtain ⟨g1, g2⟩ := followA_iff hf n2 f2
  have sN := hA.shp .null N rfl
  have sF : ∀ n, n < N → (Y (.f n)).length = T := fun n hn => hA.shp (.f n) T (by simp [sdom, hn])
  have sG : ∀ n, n < N → (Y (.g n)).length = T + 1 := fun n hn => hA.shp (.g n) (T + 1) (by simp [sdom, hn])
  refine ⟨bools_ext (by omega) fun i hi => ?_, rows_ext (by simp [f1.1]) fun i hi => ?_, rows_ext (by simp [g1.1]) fun i hi => ?_⟩
  · have h1 := l1 i (by omega)
    have h2 := n2 (i : Int)
    unfold hasN at h2
    simp only [Int.toNat_natCast] at h2
    exact h1.trans (h2.symm.trans ⟨fun h => h.2, fun h => ⟨Int.natCast_nonneg _, h⟩⟩)
  · simp only [List.length_map, List.length_range] at hi
    have e : ((List.range N).map fun n => Y (.f n)).getD i [] = Y (.f i) := by simp [List.getD, hi]
    rw [e]
    refine bools_ext (by rw [sF i hi, f1.2 i hi]) fun t ht => ?_
    rw [sF i hi] at ht
    have h1 := l2 i t hi ht
    have h2 := f2 t ht (i : Int)
    unfold has2 at h2
    simp only [Int.toNat_natCast] at h2
    exact h1.trans (h2.symm.trans ⟨fun h => h.2, fun h => ⟨Int.natCast_nonneg _, h⟩⟩)
  · simp only [List.length_map, List.length_range] at hi
    have e : ((List.range N).map fun n => Y (.g n)).getD i [] = Y (.g i) := by simp [List.getD, hi]
    rw [e]
    refine bools_ext (by rw [sG i hi, g1.2 i hi]) fun t ht => ?_
    rw [sG i hi] at ht
    have h1 := l3 i t hi ht
    have h2 := g2 t ht (i : Int)
    unfold has2 at h2
    simp only [Int.toNat_natCast] at h2
    exact h1.trans (h2.symm.trans ⟨fun h => h.2, fun h => ⟨Int.natCast_nonneg _, h⟩⟩)
end

end Go.Proofs.Ytobegekmgoiopaa
