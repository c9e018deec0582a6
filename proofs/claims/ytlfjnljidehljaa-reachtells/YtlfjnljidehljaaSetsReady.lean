/- From the sets as they are made to what untilStill wants. No walk. -/
import Derived.Test.YtlfjnljidehljaaSetsStill
import Derived.Test.YtlfjnljidehljaaSetsRows
namespace Go.Proofs.Ytlfjnljidehljaa
open Go.RowKit

def ixOf : Iy → Option Ix
  | .null => some .null
  | .gr => none
  | .f n => some (.f n)
  | .g n => some (.g n)
def tabs (Nu : List Bool) (Fi Fo : List (List Bool)) : Xs
  | .null => Nu
  | .gr => [true]
  | .f n => Fi.getD n []
  | .g n => Fo.getD n []

section
variable {w : World} {B sb T N : Nat} {nv fv gv : Value} {vf vg : Nat → Value} {Nu : List Bool} {Fi Fo : List (List Bool)}

theorem ix_row (gb : Nat) (i : Iy) (x : Ix) (hx : ixOf i = some x) : (STab T N nv vf vg gb).P (tabs Nu Fi Fo) i = Pset sb T N N N nv fv gv vf vg Nu Fi Fo x := by
  cases i with
  | gr => cases hx
  | null => cases hx; rfl
  | f n => cases hx; simp only [Tab.P, STab, sdom, Pset, tabs]; split <;> rfl
  | g n => cases hx; simp only [Tab.P, STab, sdom, Pset, tabs]; split <;> rfl

theorem bt_of_pset (h : Owns w B (Pset sb T N N N nv fv gv vf vg Nu Fi Fo)) (hB : B ≤ w.heap.size) : Bt (w.alloc (.cells #[.bool true] 4)) B (STab T N nv vf vg w.heap.size) (tabs Nu Fi Fo) := by
  have row : ∀ i x r, ixOf i = some x → (STab T N nv vf vg w.heap.size).P (tabs Nu Fi Fo) i = some r → Pset sb T N N N nv fv gv vf vg Nu Fi Fo x = some r := fun i x r hx hr => (ix_row (sb := sb) (fv := fv) (gv := gv) w.heap.size i x hx).symm.trans hr
  have gr : ∀ r, (STab T N nv vf vg w.heap.size).P (tabs Nu Fi Fo) .gr = some r → r = ⟨.slice (some ⟨w.heap.size, 0, none⟩) 1 1, 4, 1, 1, [.bool true]⟩ := fun r hr => by cases hr; rfl
  have isgr : ∀ i, ixOf i = none → i = .gr := fun i hi => by cases i <;> first | rfl | cases hi
  refine ⟨fun i r hr => ?_, fun i j a b hij ha hb g h1 h2 => ?_⟩
  · cases hx : ixOf i with
    | some x => exact (h.own x r (row i x r hx hr)).alloc _
    | none =>
      obtain rfl := isgr i hx
      obtain rfl := gr r hr
      have := World.ownsRow_lit (base := B) (e := 4) (size := 1) w #[.bool true] 1 hB (by unfold maxLen; omega) rfl
      simpa using this
  · cases hx : ixOf i with
    | some x =>
      have l1 := (h.lt (row i x a hx ha) h1).2
      cases hy : ixOf j with
      | some y =>
        refine h.apart x y a b (fun e => hij ?_) (row i x a hx ha) (row j y b hy hb) g h1 h2
        subst e
        cases i <;> cases j <;> simp [ixOf] at hx hy <;> subst hx <;> simp_all
      | none =>
        obtain rfl := isgr j hy
        obtain rfl := gr b hb
        simp only [Value.ownBlock, Option.some.injEq] at h2
        omega
    | none =>
      obtain rfl := isgr i hx
      obtain rfl := gr a ha
      simp only [Value.ownBlock, Option.some.injEq] at h1
      cases hy : ixOf j with
      | some y =>
        have l1 := (h.lt (row j y b hy hb) h2).2
        omega
      | none => exact hij (isgr j hy).symm

theorem notK_of (h : Owns w B (Pset sb T N N N nv fv gv vf vg Nu Fi Fo)) {x : Ix} {r : Row} (hx : Pset sb T N N N nv fv gv vf vg Nu Fi Fo x = some r) (hn : ∀ i, ixOf i ≠ some x) {g : Nat} (hg : r.v.ownBlock = some g) : ¬ (STab T N nv vf vg w.heap.size).K g := by
  rintro ⟨i, n, hd, hb⟩
  cases hi : ixOf i with
  | some y =>
    have hP : (STab T N nv vf vg w.heap.size).P (tabs Nu Fi Fo) i = some ⟨(STab T N nv vf vg w.heap.size).V i, 4, 1, n, (tabs Nu Fi Fo i).map Value.bool⟩ := Tab.P_some hd
    rw [ix_row (sb := sb) (fv := fv) (gv := gv) _ i y hi] at hP
    exact h.apart y x _ _ (fun e => hn i (e ▸ hi)) hP hx g hb hg
  | none =>
    cases i <;> simp [ixOf] at hi
    have := (h.lt hx hg).2
    simp only [STab, Value.ownBlock, Option.some.injEq] at hb
    omega

theorem heads_f (h : Owns w B (Pset sb T N N N nv fv gv vf vg Nu Fi Fo)) (o : Obj) : Heads (w.alloc o) (STab T N nv vf vg w.heap.size).K N fv vf := by
  have hh : w.ownsRow B 25 1 fv N ((List.range N).map vf) := h.own .fh _ rfl
  refine ⟨own_form hh, fun n hn => ?_⟩
  obtain ⟨g, cap, hv, _, hlt⟩ := hh.form (by omega)
  refine ⟨g, cap, hv, notK_of h (x := .fh) rfl (fun i => by cases i <;> simp [ixOf]) (by simp only; rw [hv]; rfl), ?_⟩
  rw [World.cell?_alloc_past _ _ _ hlt]
  rw [hv] at hh
  rw [hh.cellAt n (by omega)]
  simp [hn]
theorem heads_g (h : Owns w B (Pset sb T N N N nv fv gv vf vg Nu Fi Fo)) (o : Obj) : Heads (w.alloc o) (STab T N nv vf vg w.heap.size).K N gv vg := by
  have hh : w.ownsRow B 25 1 gv N ((List.range N).map vg) := h.own .gh _ rfl
  refine ⟨own_form hh, fun n hn => ?_⟩
  obtain ⟨g, cap, hv, _, hlt⟩ := hh.form (by omega)
  refine ⟨g, cap, hv, notK_of h (x := .gh) rfl (fun i => by cases i <;> simp [ixOf]) (by simp only; rw [hv]; rfl), ?_⟩
  rw [World.cell?_alloc_past _ _ _ hlt]
  rw [hv] at hh
  rw [hh.cellAt n (by omega)]
  simp [hn]

theorem bit_none {i : Iy} {m : Nat} (hi : i ≠ .gr) : bit (tabs (List.replicate N false) (List.replicate N (List.replicate T false)) (List.replicate N (List.replicate (T + 1) false))) i m = false := by
  have rep : ∀ (n k : Nat), (List.replicate n false).getD k false = false := fun n k => by
    by_cases h : k < n
    · simp [List.getD, h]
    · simp [List.getD, List.getElem?_eq_none (show (List.replicate n false).length ≤ k by simp; omega)]
  have rep2 : ∀ (n q k j : Nat), ((List.replicate n (List.replicate q false)).getD k []).getD j false = false := fun n q k j => by
    by_cases h : k < n
    · have : (List.replicate n (List.replicate q false)).getD k [] = List.replicate q false := by simp [List.getD, h]
      rw [this]; exact rep _ _
    · have : (List.replicate n (List.replicate q false)).getD k [] = [] := by simp [List.getD, List.getElem?_eq_none (show (List.replicate n (List.replicate q false)).length ≤ k by simp; omega)]
      rw [this]; simp
  cases i with
  | gr => exact absurd rfl hi
  | null => exact rep _ _
  | f n => exact rep2 _ _ _ _
  | g n => exact rep2 _ _ _ _

theorem tabs_set2 : tabs Nu Fi (set2 Fo 0 T) = if 0 < Fo.length then setX (tabs Nu Fi Fo) (.g 0) T true else tabs Nu Fi Fo := by
  funext i
  cases i with
  | g n =>
    simp only [tabs]
    rw [set2_get]
    by_cases h : 0 < Fo.length
    · rw [if_pos h]
      by_cases hn : n = 0
      · subst hn; rw [if_pos ⟨rfl, h⟩]; simp [setX, tabs]
      · rw [if_neg (fun e => hn e.1)]; simp [setX, tabs, hn]
    · rw [if_neg h, if_neg (fun e => h e.2)]; rfl
  | _ => split <;> simp [tabs, setX]

theorem head_start {R : List Ru} (hf : Fine T N R) : AtHead T N R (tabs (List.replicate N false) (List.replicate N (List.replicate T false)) (set2 (List.replicate N (List.replicate (T + 1) false)) 0 T)) := by
  have h1 := hf.some
  have e := tabs_set2 (T := T) (Nu := List.replicate N false) (Fi := List.replicate N (List.replicate T false)) (Fo := List.replicate N (List.replicate (T + 1) false))
  rw [if_pos (by simp; omega)] at e
  rw [e]
  have hlen : (tabs (List.replicate N false) (List.replicate N (List.replicate T false)) (List.replicate N (List.replicate (T + 1) false)) (.g 0)).length = T + 1 := by simp [tabs, List.getD, show 0 < N by omega]
  have hb : ∀ i m, bit (setX (tabs (List.replicate N false) (List.replicate N (List.replicate T false)) (List.replicate N (List.replicate (T + 1) false))) (.g 0) T true) i m = if i = .g 0 ∧ m = T then true else bit (tabs (List.replicate N false) (List.replicate N (List.replicate T false)) (List.replicate N (List.replicate (T + 1) false))) i m := fun i m => bit_set (by omega)
  refine ⟨fun i n hd => ?_, fun i n m hd hm hbt => ?_, fun hz => ?_, by rw [hb]; simp⟩
  · rw [len_set]
    cases i with
    | null => cases hd; simp [tabs]
    | gr => cases hd; rfl
    | f q => simp only [sdom] at hd; split at hd <;> cases hd; rename_i hq; simp [tabs, List.getD, hq]
    | g q => simp only [sdom] at hd; split at hd <;> cases hd; rename_i hq; simp [tabs, List.getD, hq]
  · rw [hb] at hbt
    by_cases c : i = .g 0 ∧ m = T
    · obtain ⟨rfl, rfl⟩ := c
      exact Lv_closed (FollowF_mono hf _ _ _) _ (.inl ⟨rfl, rfl⟩)
    · rw [if_neg c] at hbt
      by_cases hg : i = .gr
      · subst hg; trivial
      · rw [bit_none hg] at hbt; cases hbt
  · rw [hb, if_neg (by simp)] at hz
    simp [bit, tabs] at hz
end

/-- Of a grammar that may be. -/
theorem fine_of {T N : Nat} {R : List Ru} (h : mayB T N R = true) : Fine T N R ∧ ∀ q, q < R.length → RuleIn T N (R.getD q (0, [])) ∧ (R.getD q (0, [])).2.length ≤ 8 := by
  obtain ⟨_, h1, _, _, h5⟩ := may_fine h
  have mem : ∀ r ∈ R, 0 ≤ r.1 ∧ r.1 < (N : Int) ∧ ∀ s ∈ r.2, 0 ≤ s.2 ∧ s.2 < if s.1 then (T : Int) else (N : Int) := fun r hr => by
    obtain ⟨q, hq, rfl⟩ := List.getElem_of_mem hr
    have e : R.getD q (0, []) = R[q] := by simp [List.getD, hq]
    have := h5 q hq
    rw [e] at this
    exact ⟨this.1, this.2.1, this.2.2.2⟩
  refine ⟨⟨fun r hr => ⟨(mem r hr).1, (mem r hr).2.1⟩, fun r hr s hs hb => ?_, fun r hr s hs hb => ?_, h1⟩, fun q hq => ⟨⟨⟨(h5 q hq).1, (h5 q hq).2.1⟩, (h5 q hq).2.2.2⟩, (h5 q hq).2.2.1⟩⟩
  · have := (mem r hr).2.2 s hs; rw [hb] at this; simpa using this
  · have := (mem r hr).2.2 s hs; rw [hb] at this; simpa using this

end Go.Proofs.Ytlfjnljidehljaa
