import Derived.Test.YtjdoiieiimdmfaaConcYAndMay8
import Derived.Test.YtjdoiieiimdmfaaRowBAndConcR
/- What pollardingref8.one holds while it makes rules. No walk. -/
namespace Go.Proofs.Ytjdoiieiimdmfaa
open Go.RowKit

def ruV (x : Value × Ru) : List Value := [.int .i64 x.2.1, x.1]
def flatR (RL : List (Value × Ru)) : List Value := RL.flatMap ruV
theorem flatR_len (RL : List (Value × Ru)) : (flatR RL).length = RL.length * 2 := by
  unfold flatR
  induction RL with
  | nil => rfl
  | cons a L ih => rw [List.flatMap_cons, List.length_append, ih]; simp [ruV]; omega
theorem flatR_get {RL : List (Value × Ru)} {i j : Nat} (hi : i < RL.length) (hj : j < 2) : (flatR RL)[i * 2 + j]? = (ruV (RL.getD i (.slice none 0 0, (0, []))))[j]? := by
  unfold flatR
  induction RL generalizing i with
  | nil => simp at hi
  | cons a L ih =>
    rw [List.flatMap_cons]
    cases i with
    | zero => rw [List.getElem?_append_left (by simp [ruV]; omega)]; simp
    | succ i =>
      rw [List.getElem?_append_right (by simp [ruV]; omega)]
      simp only [ruV, List.length_cons, List.length_nil]
      rw [show (i + 1) * 2 + j - (0 + 1 + 1) = i * 2 + j by omega]
      have := ih (i := i) (by simpa using hi)
      simpa [List.getD, ruV] using this
theorem flatR_append (A C : List (Value × Ru)) : flatR (A ++ C) = flatR A ++ flatR C := by simp [flatR]

/-- Rules that a call has made: in a row of its own, their symbols elsewhere. -/
structure RlIn (w : World) (B : Nat) (lv : Value) (RL : List (Value × Ru)) : Prop where
  own : w.ownsRow B 41 2 lv RL.length (flatR RL)
  sym : ∀ x ∈ RL, SyHas w (fun b => B ≤ b ∧ lv.ownBlock ≠ some b) x.1 x.2.2

section
variable {w w' : World} {B : Nat} {lv : Value} {RL : List (Value × Ru)}
theorem RlIn.below (h : RlIn w B lv RL) (hb : Below w.heap.size w w') : RlIn w' B lv RL := ⟨own_below h.own hb fun g hg => (h.own.lt g hg).2, fun x hx => (h.sym x hx).below hb⟩
theorem RlIn.mono {B' : Nat} (h : RlIn w B lv RL) (hB : B' ≤ B) : RlIn w B' lv RL := ⟨own_mono h.own hB, fun x hx => (h.sym x hx).kept (Nat.le_refl _) fun b hA _ => ⟨rfl, by have := hA.1; omega, hA.2⟩⟩
theorem rlIn_nil (w : World) (B : Nat) : RlIn w B (.slice none 0 0) [] := ⟨World.ownsRow_nil _ _ _ _, fun x hx => by cases hx⟩
theorem flatR_one (h : ∀ x ∈ RL, ∃ a n c, x.1 = .slice a n c) : ∀ u ∈ flatR RL, u.oneCell' = true := fun u hu => by
  unfold flatR at hu
  obtain ⟨x, hx, hu⟩ := List.mem_flatMap.1 hu
  obtain ⟨a, n, c, e⟩ := h x hx
  simp only [ruV, List.mem_cons, List.not_mem_nil, or_false] at hu
  rcases hu with rfl | rfl
  · rfl
  · rw [e]; rfl
theorem RlIn.slices (h : RlIn w B lv RL) : ∀ x ∈ RL, ∃ a n c, x.1 = .slice a n c := fun x hx => let ⟨a, c, e, _⟩ := (h.sym x hx).1; ⟨a, _, c, e⟩

/-- They can be read. -/
theorem RlIn.rules (h : RlIn w B lv RL) : RulesAt w w.heap.size lv (RL.map fun x => x.2) := by
  obtain ⟨a, c, hv⟩ := own_form h.own
  refine ⟨⟨a, c, by rw [hv, List.length_map]⟩, fun q hq => ?_⟩
  have hq' : q < RL.length := by simpa using hq
  obtain ⟨g, cap, hg, _, hlt⟩ := h.own.form (by omega)
  have ho := h.own
  rw [hg] at ho
  have e : (RL.map fun x => x.2).getD q (0, []) = (RL.getD q (.slice none 0 0, (0, []))).2 := by simp [List.getD, hq']
  have hx : RL.getD q (.slice none 0 0, (0, [])) ∈ RL := by simp [List.getD, hq']
  obtain ⟨⟨qa, qc, hqv, hqc⟩, hsy⟩ := h.sym _ hx
  have c0 := (ho.cellAt (q * 2) (by omega)).trans (flatR_get (j := 0) hq' (by omega))
  have c1 := (ho.cellAt (q * 2 + 1) (by omega)).trans (flatR_get (j := 1) hq' (by omega))
  simp only [ruV, List.getElem?_cons_zero, List.getElem?_cons_succ] at c0 c1
  rw [hqv] at c1
  refine ⟨g, 0, cap, qa, qc, by rw [hg, List.length_map], hlt, by rw [e, Nat.zero_add]; exact c0, by rw [e, Nat.zero_add]; exact c1, by rw [e]; exact hqc, fun j hj => ?_⟩
  rw [e] at hj ⊢
  obtain ⟨b, o, c', h1, _, h3, h4, h5⟩ := hsy j hj
  rw [hqv] at h1
  cases h1
  exact ⟨b, o, rfl, h3, h4, by rw [← Nat.add_assoc]; exact h5⟩
end

/-- What one holds: the grammar's box, the step's, the rule's, the rule's symbols. -/
structure O8 (w : World) (T N : Nat) (ra : Option Addr) (rc : Nat) (R : List Ru) (s : Stp) (rb g d : Nat) (L : Int) (l : List Sy) (wq : World) : Prop where
  g0 : wq.cell? ⟨w.heap.size, 0, none⟩ = some (.int .i64 T)
  g1 : wq.cell? ⟨w.heap.size, 1, none⟩ = some (.int .i64 N)
  g2 : wq.cell? ⟨w.heap.size, 2, none⟩ = some (.slice ra R.length rc)
  s0 : wq.cell? ⟨w.heap.size + 1, 0, none⟩ = some (.int .i64 s.op)
  s1 : wq.cell? ⟨w.heap.size + 1, 1, none⟩ = some (.int .i64 s.a)
  s2 : wq.cell? ⟨w.heap.size + 1, 2, none⟩ = some (.int .i64 s.b)
  s3 : wq.cell? ⟨w.heap.size + 1, 3, none⟩ = some (.int .i64 s.c)
  r0 : wq.cell? ⟨rb, 0, none⟩ = some (.int .i64 L)
  r1 : wq.cell? ⟨rb, 1, none⟩ = some (.slice (some ⟨g, 0, none⟩) l.length d)
  rf : ∀ o, wq.frozen? ⟨rb, o, none⟩ = false
  own : wq.ownsRow (w.heap.size + 2) 43 2 (.slice (some ⟨g, 0, none⟩) l.length d) l.length (flatY l)
  ne : g ≠ rb
  rlo : w.heap.size + 2 ≤ rb
  rules : RulesAt wq w.heap.size (.slice ra R.length rc) R
  below : Below w.heap.size w wq

section
variable {w wq w' : World} {T N : Nat} {ra : Option Addr} {rc : Nat} {R : List Ru} {s : Stp} {rb g d : Nat} {L : Int} {l : List Sy}
theorem O8.lt (h : O8 w T N ra rc R s rb g d L l wq) : rb < wq.heap.size := World.block_lt_of_cell? _ _ h.r0
theorem O8.glt (h : O8 w T N ra rc R s rb g d L l wq) : w.heap.size + 2 ≤ g ∧ g < wq.heap.size := h.own.lt g rfl
theorem O8.later (h : O8 w T N ra rc R s rb g d L l wq) (hb : Below wq.heap.size wq w') : O8 w T N ra rc R s rb g d L l w' := by
  have hlt := h.lt
  have hlo := h.rlo
  exact ⟨(hb.cell (by simp only; omega)).trans h.g0, (hb.cell (by simp only; omega)).trans h.g1, (hb.cell (by simp only; omega)).trans h.g2, (hb.cell (by simp only; omega)).trans h.s0, (hb.cell (by simp only; omega)).trans h.s1, (hb.cell (by simp only; omega)).trans h.s2, (hb.cell (by simp only; omega)).trans h.s3,
    (hb.cell (by simp only; omega)).trans h.r0, (hb.cell (by simp only; omega)).trans h.r1, fun o => (hb.frozen (by simp only; omega)).trans (h.rf o), own_below h.own hb fun g hg => (h.own.lt g hg).2, h.ne, h.rlo, h.rules.below (hb.mono (by omega)), h.below.trans (hb.mono (by omega))⟩
theorem O8.syms (h : O8 w T N ra rc R s rb g d L l wq) : SymsAt wq (.slice (some ⟨g, 0, none⟩) l.length d) l := (own_syIn h.own).syms
/-- The rule's Left turns. -/
theorem O8.setL (h : O8 w T N ra rc R s rb g d L l wq) (L' : Int) : O8 w T N ra rc R s rb g d L' l (wq.setCell ⟨rb, 0, none⟩ (.int .i64 L')) := by
  have hlo := h.rlo
  refine ⟨?_, ?_, ?_, ?_, ?_, ?_, ?_, World.cell?_setCell_same _ _ _ h.r0, ?_, fun o => (World.frozen?_setCell _ _ _ _).trans (h.rf o), ?_, h.ne, h.rlo, h.rules.below ((Below.refl _ _).setCell (by simp only; omega) _), h.below.setCell (by simp only; omega) _⟩
  · rw [cell_set_other (.inl (by simp only; omega))]; exact h.g0
  · rw [cell_set_other (.inl (by simp only; omega))]; exact h.g1
  · rw [cell_set_other (.inl (by simp only; omega))]; exact h.g2
  · rw [cell_set_other (.inl (by simp only; omega))]; exact h.s0
  · rw [cell_set_other (.inl (by simp only; omega))]; exact h.s1
  · rw [cell_set_other (.inl (by simp only; omega))]; exact h.s2
  · rw [cell_set_other (.inl (by simp only; omega))]; exact h.s3
  · rw [cell_set_other (.inr (by simp))]; exact h.r1
  · obtain ⟨h1, ⟨hx, _⟩ | ⟨g', c', cur, e, h2, h3, h4⟩⟩ := h.own
    · cases hx
    · refine ⟨h1, .inr ⟨g', c', cur, e, h2, ?_, h4⟩⟩
      injection e with e1
      injection e1 with e1
      injection e1 with e1
      subst e1
      rw [Below.heap_setCell _ _ _ _ (fun e => h.ne (by simpa using e))]
      exact h3
/-- The one rule is answered. -/
theorem O8.out (h : O8 w T N ra rc R s rb g d L l wq) : RlIn (wq.alloc (.cells #[.int .i64 L, .slice (some ⟨g, 0, none⟩) l.length d] 41)) w.heap.size (.slice (some ⟨wq.heap.size, 0, none⟩) 1 1) [(.slice (some ⟨g, 0, none⟩) l.length d, (L, l))] ∧ Below w.heap.size w (wq.alloc (.cells #[.int .i64 L, .slice (some ⟨g, 0, none⟩) l.length d] 41)) := by
  have hB := h.below.alloc h.below.size (.cells #[.int .i64 L, .slice (some ⟨g, 0, none⟩) l.length d] 41)
  refine ⟨⟨?_, fun x hx => ?_⟩, hB⟩
  · have := World.ownsRow_lit (base := w.heap.size) (e := 41) (size := 2) wq #[.int .i64 L, .slice (some ⟨g, 0, none⟩) l.length d] 1 h.below.size (by unfold maxLen; omega) rfl
    exact this
  · simp only [List.mem_singleton] at hx
    subst hx
    have := (own_syIn h.own).below ((Below.refl _ _).alloc (Nat.le_refl _) (.cells #[.int .i64 L, .slice (some ⟨g, 0, none⟩) l.length d] 41))
    refine this.kept (Nat.le_refl _) fun b hA _ => ⟨rfl, by have := hA.2; omega, fun e => ?_⟩
    simp only [Value.ownBlock, Option.some.injEq] at hA e
    have := h.glt
    omega
/-- The rule's Right turns: symbols that are new. -/
theorem O8.setR (h : O8 w T N ra rc R s rb g d L l wq) {w5 : World} {L' : Int} {l' : List Sy} {g3 d3 : Nat} {u : Value} (hs : wq.heap.size ≤ w5.heap.size) (hb : ∀ k, k < wq.heap.size → k ≠ rb → w5.heap[k]? = wq.heap[k]?) (hB : Below w.heap.size w w5) (h0 : w5.cell? ⟨rb, 0, none⟩ = some (.int .i64 L')) (h1 : w5.cell? ⟨rb, 1, none⟩ = some u) (hf : ∀ o, w5.frozen? ⟨rb, o, none⟩ = false)
    {B : Nat} (ho : w5.ownsRow B 43 2 (.slice (some ⟨g3, 0, none⟩) l'.length d3) l'.length (flatY l')) (hg : wq.heap.size ≤ g3) : O8 w T N ra rc R s rb g3 d3 L' l' (w5.setCell ⟨rb, 1, none⟩ (.slice (some ⟨g3, 0, none⟩) l'.length d3)) := by
  have hlo := h.rlo
  have hlt := h.lt
  have keep : ∀ b o v, b < w.heap.size + 2 → wq.cell? ⟨b, o, none⟩ = some v → (w5.setCell ⟨rb, 1, none⟩ (.slice (some ⟨g3, 0, none⟩) l'.length d3)).cell? ⟨b, o, none⟩ = some v := fun b o v hbl hv => by
    rw [cell_set_other (.inl (by simp only; omega)), World.cell?_of_block (w := wq) (a := ⟨b, o, none⟩) (hb b (by omega) (by omega))]
    exact hv
  refine ⟨keep _ _ _ (by omega) h.g0, keep _ _ _ (by omega) h.g1, keep _ _ _ (by omega) h.g2, keep _ _ _ (by omega) h.s0, keep _ _ _ (by omega) h.s1, keep _ _ _ (by omega) h.s2, keep _ _ _ (by omega) h.s3, ?_, World.cell?_setCell_same _ _ _ h1, fun o => (World.frozen?_setCell _ _ _ _).trans (hf o), ?_, by omega, h.rlo, ?_, hB.setCell (by simp only; omega) _⟩
  · rw [cell_set_other (.inr (by simp))]; exact h0
  · obtain ⟨z1, ⟨hx, _⟩ | ⟨g', c', cur, e, z2, z3, z4⟩⟩ := ho
    · cases hx
    · refine ⟨z1, .inr ⟨g', c', cur, e, ?_, ?_, z4⟩⟩
      · injection e with e1
        injection e1 with e1
        injection e1 with e1
        omega
      · injection e with e1
        injection e1 with e1
        injection e1 with e1
        subst e1
        rw [Below.heap_setCell _ _ _ _ (by simp only; omega)]
        exact z3
  · have hB2 : Below w.heap.size wq (w5.setCell ⟨rb, 1, none⟩ (.slice (some ⟨g3, 0, none⟩) l'.length d3)) := by
      have h8 := hB.setCell (p := ⟨rb, 1, none⟩) (by simp only; omega) (.slice (some ⟨g3, 0, none⟩) l'.length d3)
      exact ⟨h8.os.trans h.below.os.symm, h8.tape.trans h.below.tape.symm, h8.output.trans h.below.output.symm, by simpa using hs, fun k hk => (h8.block k hk).trans (h.below.block k hk).symm⟩
    exact h.rules.below hB2
end

end Go.Proofs.Ytjdoiieiimdmfaa

/- Rules in memory of their own, each one's symbols in a block of theirs; the contract of package step's copies. -/
namespace Go.Proofs.Ytjdoiieiimdmfaa
open Go.RowKit

/-- The rows: that of the rules, and the symbols of each. -/
def rlP (lv : Value) (RL : List (Value × Ru)) : Option Nat → Option Row
  | none => some ⟨lv, 41, 2, RL.length, flatR RL⟩
  | some k => (RL[k]?).map fun x => ⟨x.1, 43, 2, x.2.2.length, flatY x.2.2⟩

section
variable {w w5 w6 : World} {B : Nat} {lv nv v : Value} {RL : List (Value × Ru)} {L : Int} {l : List Sy}

theorem rlP_some {k : Nat} {a : Row} (h : rlP lv RL (some k) = some a) : ∃ hk : k < RL.length, a = ⟨RL[k].1, 43, 2, RL[k].2.2.length, flatY RL[k].2.2⟩ := by
  change (RL[k]?).map (fun x => (⟨x.1, 43, 2, x.2.2.length, flatY x.2.2⟩ : Row)) = some a at h
  by_cases hk : k < RL.length
  · rw [List.getElem?_eq_getElem hk] at h
    simp only [Option.map_some, Option.some.injEq] at h
    exact ⟨hk, h.symm⟩
  · rw [List.getElem?_eq_none (by omega)] at h
    simp at h
theorem rlP_at {k : Nat} (hk : k < RL.length) : rlP lv RL (some k) = some ⟨RL[k].1, 43, 2, RL[k].2.2.length, flatY RL[k].2.2⟩ := by
  change (RL[k]?).map (fun x => (⟨x.1, 43, 2, x.2.2.length, flatY x.2.2⟩ : Row)) = _
  rw [List.getElem?_eq_getElem hk]
  rfl
theorem rl_nil (w : World) (B : Nat) : Owns w B (rlP (.slice none 0 0) []) := by
  refine ⟨fun i r hr => ?_, fun i j a b hij ha hb g h1 h2 => ?_⟩
  · cases i with
    | none => cases hr; exact World.ownsRow_nil _ _ _ _
    | some k => obtain ⟨hk, _⟩ := rlP_some hr; simp at hk
  · cases i with
    | none => cases ha; cases h1
    | some k => obtain ⟨hk, _⟩ := rlP_some ha; simp at hk
theorem Owns.rlOwn (h : Owns w B (rlP lv RL)) : w.ownsRow B 41 2 lv RL.length (flatR RL) := h.own none _ rfl
theorem Owns.rlSym (h : Owns w B (rlP lv RL)) {k : Nat} (hk : k < RL.length) : w.ownsRow B 43 2 RL[k].1 RL[k].2.2.length (flatY RL[k].2.2) := h.own (some k) _ (rlP_at hk)
/-- One rule more. -/
theorem Owns.rlPush (h : Owns w B (rlP lv RL)) (hB : B ≤ w.heap.size) (hb : Below w.heap.size w w5) (ho : w5.ownsRow w.heap.size 43 2 v l.length (flatY l)) (hg : w5.grownBy w6 lv.ownBlock) (hn : w6.ownsRow B 41 2 nv (RL.length + 1) (flatR (RL ++ [(v, (L, l))]))) (hat : ∀ g, nv.ownBlock = some g → lv.ownBlock = some g ∨ w5.heap.size ≤ g) : Owns w6 B (rlP nv (RL ++ [(v, (L, l))])) := by
  have hs5 := hb.size
  have hlv : ∀ g, lv.ownBlock = some g → g < w.heap.size := fun g hg => (h.rlOwn.lt g hg).2
  have old : ∀ k (hk : k < RL.length), w6.ownsRow B 43 2 RL[k].1 RL[k].2.2.length (flatY RL[k].2.2) := fun k hk => by
    refine (own_below (h.rlSym hk) hb fun g hg => (((h.rlSym hk).lt g hg).2)).kept hg ?_
    cases e : RL[k].1.ownBlock with
    | none => exact .inl rfl
    | some g => exact .inr fun e' => h.apart (some k) none _ _ (by simp) (rlP_at hk) rfl g e e'.symm
  have new : w6.ownsRow w.heap.size 43 2 v l.length (flatY l) := by
    refine ho.kept hg ?_
    cases e : v.ownBlock with
    | none => exact .inl rfl
    | some g => exact .inr fun e' => by have := hlv g e'.symm; have := (ho.lt g e).1; omega
  have cases' : ∀ {k : Nat} {a : Row}, rlP nv (RL ++ [(v, (L, l))]) (some k) = some a → (∃ hk : k < RL.length, a = ⟨RL[k].1, 43, 2, RL[k].2.2.length, flatY RL[k].2.2⟩) ∨ (k = RL.length ∧ a = ⟨v, 43, 2, l.length, flatY l⟩) := fun {k a} hr => by
    obtain ⟨hk, e⟩ := rlP_some hr
    rcases Nat.lt_or_ge k RL.length with hlt | hge
    · refine .inl ⟨hlt, ?_⟩
      simp only [List.getElem_append_left hlt] at e
      exact e
    · have : k = RL.length := by simp at hk; omega
      subst this
      refine .inr ⟨rfl, ?_⟩
      simpa using e
  have noneSome : ∀ {k : Nat} {a : Row}, rlP nv (RL ++ [(v, (L, l))]) (some k) = some a → ∀ g, a.v.ownBlock = some g → nv.ownBlock = some g → False := fun {k a} ha g h1 h2 => by
    rcases cases' ha with ⟨hk, rfl⟩ | ⟨_, rfl⟩
    · have hlt := ((h.rlSym hk).lt g h1).2
      rcases hat g h2 with e | e
      · exact h.apart (some k) none _ _ (by simp) (rlP_at hk) rfl g h1 e
      · omega
    · have hl1 := (ho.lt g h1)
      rcases hat g h2 with e | e
      · have := hlv g e; omega
      · omega
  refine ⟨fun i r hr => ?_, fun i j a b hij ha hb' g h1 h2 => ?_⟩
  · cases i with
    | none =>
      cases hr
      simp only [List.length_append, List.length_singleton]
      exact hn
    | some k =>
      rcases cases' hr with ⟨hk, rfl⟩ | ⟨_, rfl⟩
      · exact old k hk
      · exact own_mono new hB
  · cases i with
    | none =>
      cases j with
      | none => exact hij rfl
      | some k => cases ha; exact noneSome hb' g h2 h1
    | some k =>
      cases j with
      | none => cases hb'; exact noneSome ha g h1 h2
      | some k' =>
        rcases cases' ha with ⟨hk, rfl⟩ | ⟨e1, rfl⟩
        · rcases cases' hb' with ⟨hk', rfl⟩ | ⟨_, rfl⟩
          · exact h.apart (some k) (some k') _ _ hij (rlP_at hk) (rlP_at hk') g h1 h2
          · have := ((h.rlSym hk).lt g h1).2
            have := (ho.lt g h2).1
            omega
        · rcases cases' hb' with ⟨hk', rfl⟩ | ⟨e2, rfl⟩
          · have := ((h.rlSym hk').lt g h2).2
            have := (ho.lt g h1).1
            omega
          · exact hij (by rw [e1, e2])
/-- They are rules that a call has made. -/
theorem Owns.rlIn (h : Owns w B (rlP lv RL)) : RlIn w B lv RL := by
  refine ⟨h.rlOwn, fun x hx => ?_⟩
  obtain ⟨k, hk, rfl⟩ := List.getElem_of_mem hx
  refine (own_syIn (h.rlSym hk)).kept (Nat.le_refl _) fun b hA _ => ⟨rfl, hA.2, fun e => ?_⟩
  exact h.apart (some k) none _ _ (by simp) (rlP_at hk) rfl b hA.1 e
end

theorem flatR_push (RL : List (Value × Ru)) (v : Value) (L : Int) (l : List Sy) : flatR (RL ++ [(v, (L, l))]) = flatR RL ++ [.int .i64 L, v] := by rw [flatR_append]; rfl
/-- A new rule, as a row of one. -/
theorem rule_row {w : World} {L : Int} {va : Option Addr} {n d : Nat} : RowAt (w.alloc (.cells #[.int .i64 L, .slice va n d] 41)) (.slice (some ⟨w.heap.size, 0, none⟩) 1 1) 1 [.int .i64 L, .slice va n d] :=
  ⟨⟨_, _, rfl, Nat.le_refl _⟩, rfl, by simp [Value.oneCell'], fun _ => ⟨_, _, rfl, World.news_of_block (cs := #[.int .i64 L, .slice va n d]) (t := 41) (fr := (0, 0)) (heap_alloc_new w _)⟩⟩

set_option maxRecDepth 100000 in
set_option maxHeartbeats 6400000 in
theorem st_copies {w : World} {T N : Int} {ra : Option Addr} {rc : Nat} {op a b c : Int} {R : List Ru} (hr : RulesAt w w.heap.size (.slice ra R.length rc) R) (hl : R.length ≤ 1000) (hl2 : ∀ q, q < R.length → (R.getD q (0, [])).2.length ≤ 1000) :
    Calls Try.prog 56 #[.agg #[.int .i64 T, .int .i64 N, .slice ra R.length rc, .int .i64 op, .int .i64 a, .int .i64 b, .int .i64 c]] w fun e w' => ∃ lv RL, e = .returned lv ∧ Owns w' w.heap.size (rlP lv RL) ∧ (RL.map fun x => x.2) = R ∧ Below w.heap.size w w' := by
  have HR : Hid (RulesAt w w.heap.size (.slice ra R.length rc) R) := hr
  have H2 : Hid (∀ q, q < R.length → (R.getD q (0, [])).2.length ≤ 1000) := hl2
  clear hr hl2
  have hB1 : Below w.heap.size w (w.alloc (.cells #[.int .i64 T, .int .i64 N, .slice ra R.length rc, .int .i64 op, .int .i64 a, .int .i64 b, .int .i64 c] 51)) := (Below.refl _ _).alloc (Nat.le_refl _) _
  have HB1 : Hid (Below w.heap.size w (w.alloc (.cells #[.int .i64 T, .int .i64 N, .slice ra R.length rc, .int .i64 op, .int .i64 a, .int .i64 b, .int .i64 c] 51))) := hB1
  clear hB1
  go_enter Try.func56, Try.ntmps56
  go_wp2_with fail
  go_loopw [3, 10] (fun s3 s10 wr => ∃ (k : Nat) (lv : Value) (RL : List (Value × Ru)), lv = s3 ∧ s10 = .int .i64 k ∧ k ≤ R.length ∧ RL.length = k ∧ (RL.map fun x => x.2) = R.take k ∧ Owns wr w.heap.size (rlP lv RL) ∧ Below w.heap.size w wr) (fun _ s _ => R.length - (intOf s).toNat)
  case atStart => exact ⟨0, _, [], rfl, rfl, Nat.zero_le _, rfl, rfl, rl_nil _ _, HB1.out⟩
  case round =>
    obtain ⟨k, lv, RL, rfl, rfl, hk, hlen, hmap, hO, hB⟩ := hrel
    have HB : Hid (Below w.heap.size w wr) := hB
    have HO : Hid (Owns wr w.heap.size (rlP lv RL)) := hO
    have HM : Hid ((RL.map fun x => x.2) = R.take k ∧ RL.length = k) := ⟨hmap, hlen⟩
    by_cases hlt : k < R.length
    · obtain ⟨b0, o0, rc0, qa, qc, hv, _, k1, k2, hsy⟩ := (HR.out.below hB).syms hlt
      cases hv
      have hn8 := H2.out k hlt
      obtain ⟨⟨L, l⟩, hx⟩ : ∃ x, R.getD k (0, []) = x := ⟨_, rfl⟩
      rw [hx] at k1 k2 hsy hn8
      simp only at k1 k2 hsy hn8
      obtain ⟨n, hn⟩ : ∃ n, l.length = n := ⟨_, rfl⟩
      rw [hn] at k2 hsy hn8
      have HX : Hid (R.take (k + 1) = R.take k ++ [(L, l)] ∧ l.length = n) := by
        refine ⟨?_, hn⟩
        rw [List.take_succ_eq_append_getElem hlt]
        congr 2
        rw [← hx]
        simp [List.getD, hlt]
      obtain ⟨W1, hW1⟩ : ∃ W, wr.alloc (.cells #[.int .i64 L, .slice qa n qc] 41) = W := ⟨_, rfl⟩
      have hB2 : Below wr.heap.size wr W1 := by rw [← hW1]; exact (Below.refl _ _).alloc (Nat.le_refl _) _
      have HB2 : Hid (Below wr.heap.size wr W1) := hB2
      have d0 : W1.cell? ⟨wr.heap.size, 0, none⟩ = some (.int .i64 L) := by rw [← hW1]; simp [go_sem]
      have d1 : W1.cell? ⟨wr.heap.size, 1, none⟩ = some (.slice qa n qc) := by rw [← hW1]; simp [go_sem]
      have cop := st_copied (w := W1) (L := L) (lv := .slice qa n qc) (l := l) (hsy.same (same_below hB2)) (by omega)
      rw [hn] at cop
      have i0 : (0 : Int) ≤ (k : Int) := Int.natCast_nonneg _
      have i1 : (k : Int) < (R.length : Int) := by omega
      clear hB hO hmap hx hn hsy hB2 hlen
      go_wp2_with
        (first
         | (go_at_call 59; refine cop.mono ?_; rintro e w3 ⟨ga, d, rfl, hown, hB3⟩
            have hrow : RowAt (w3.alloc (.cells #[.int .i64 L, .slice ga n d] 41)) (.slice (some ⟨w3.heap.size, 0, none⟩) 1 1) 1 [.int .i64 L, .slice ga n d] := rule_row
            have hB4 : Below wr.heap.size wr (w3.alloc (.cells #[.int .i64 L, .slice ga n d] 41)) := (HB2.out.trans (hB3.mono HB2.out.size)).alloc (Nat.le_trans HB2.out.size hB3.size) _
            have own4 := own_below HO.out.rlOwn hB4 fun g hg => (HO.out.rlOwn.lt g hg).2
            have hb4 : w.heap.size ≤ (w3.alloc (.cells #[.int .i64 L, .slice ga n d] 41)).heap.size := Nat.le_trans HB.out.size hB4.size
            have hlen4 : RL.length + 1 ≤ 100000 := by rw [HM.out.2]; omega
            clear cop)
         | (at_builtin
            refine wpList_append_ccR rfl _ _ rfl rfl rfl rfl own4 hrow hb4 hlen4 ?_
            intro a' d' w6 hown6 hgrow hat))
      go_roundw
      case rel =>
        refine ⟨k + 1, _, RL ++ [(.slice ga n d, (L, l))], rfl, by go_num, by omega, by rw [List.length_append, HM.out.2]; rfl, by rw [List.map_append, HM.out.1, HX.out.1]; rfl, ?_, ?_⟩
        · refine HO.out.rlPush (w5 := w3.alloc (.cells #[.int .i64 L, .slice ga n d] 41)) HB.out.size hB4 ?_ hgrow ?_ (fun g hg => (hat g hg).imp id fun e => by omega)
          · rw [HX.out.2]
            exact own_mono (hown.alloc _) HB2.out.size
          · rw [flatR_push]
            exact hown6
        · exact (HB.out.trans (hB4.mono HB.out.size)).grown hgrow hb4 fun g hg => (own4.lt g hg).1
      case measure => simp [intOf]; omega
    · have hkk : k = R.length := by omega
      clear hB hO hmap hlen
      go_wp2_with fail
      go_ret
      exact ⟨_, RL, rfl, HO.out, by rw [HM.out.1, hkk, List.take_length], HB.out⟩

end Go.Proofs.Ytjdoiieiimdmfaa

/- The contract of package step's (prune).outcome. -/
namespace Go.Proofs.Ytjdoiieiimdmfaa
open Go.RowKit

section
variable {w : World} {b : Nat} {u0 u1 u2 v0 v1 v2 : Value}
theorem box3_0 (h0 : w.cell? ⟨b, 0, none⟩ = some u0) : (((w.setCell ⟨b, 0, none⟩ v0).setCell ⟨b, 1, none⟩ v1).setCell ⟨b, 2, none⟩ v2).cell? ⟨b, 0, none⟩ = some v0 := by
  rw [cell_set_other (.inr (by simp)), cell_set_other (.inr (by simp))]; exact World.cell?_setCell_same _ _ _ h0
theorem box3_1 (h1 : w.cell? ⟨b, 1, none⟩ = some u1) : (((w.setCell ⟨b, 0, none⟩ v0).setCell ⟨b, 1, none⟩ v1).setCell ⟨b, 2, none⟩ v2).cell? ⟨b, 1, none⟩ = some v1 := by
  rw [cell_set_other (.inr (by simp))]; exact World.cell?_setCell_same _ _ _ ((cell_set_other (.inr (by simp))).trans h1)
theorem box3_2 (h2 : w.cell? ⟨b, 2, none⟩ = some u2) : (((w.setCell ⟨b, 0, none⟩ v0).setCell ⟨b, 1, none⟩ v1).setCell ⟨b, 2, none⟩ v2).cell? ⟨b, 2, none⟩ = some v2 :=
  World.cell?_setCell_same _ _ _ ((cell_set_other (.inr (by simp))).trans ((cell_set_other (.inr (by simp))).trans h2))
theorem RlIn.setLow {B : Nat} {lv : Value} {RL : List (Value × Ru)} (h : RlIn w B lv RL) {a : Addr} (ha : a.block < B) (u : Value) : RlIn (w.setCell a u) B lv RL :=
  ⟨own_setLow h.own ha u, fun x hx => (h.sym x hx).kept (by simp) fun b hA _ => ⟨Below.heap_setCell _ _ _ _ (by have := hA.1; omega), hA⟩⟩
end

set_option maxRecDepth 100000 in
set_option maxHeartbeats 6400000 in
theorem st_outP {w : World} {T N : Int} {ra : Option Addr} {rc : Nat} {op a b c : Int} {R : List Ru} {sv : Value} {IX : List Int} (hr : RulesAt w w.heap.size (.slice ra R.length rc) R) (hl2 : ∀ q, q < R.length → (R.getD q (0, [])).2.length ≤ 1000) (hS : ListAt w w.heap.size sv IX) (hIX : ∀ k, k < IX.length → 0 ≤ IX.getD k 0 ∧ IX.getD k 0 < (R.length : Int)) (hl : IX.length ≤ 1000) :
    Calls Try.prog 76 #[.agg #[.int .i64 T, .int .i64 N, .slice ra R.length rc, .int .i64 op, .int .i64 a, .int .i64 b, .int .i64 c, sv]] w fun e w' => ∃ lv RL, e = .returned (.agg #[.int .i64 T, .int .i64 N, lv]) ∧ RlIn w' w.heap.size lv RL ∧ (RL.map fun x => x.2) = IX.map (fun i => R.getD i.toNat (0, [])) ∧ Below w.heap.size w w' := by
  obtain ⟨sa, sc, hsv⟩ := hS.1
  subst hsv
  have HR : Hid (RulesAt w w.heap.size (.slice ra R.length rc) R) := hr
  have H2 : Hid (∀ q, q < R.length → (R.getD q (0, [])).2.length ≤ 1000) := hl2
  have HS : Hid (ListAt w w.heap.size (.slice sa IX.length sc) IX) := hS
  have HI : Hid (∀ k, k < IX.length → 0 ≤ IX.getD k 0 ∧ IX.getD k 0 < (R.length : Int)) := hIX
  clear hr hl2 hS hIX
  obtain ⟨W0, hW0⟩ : ∃ W, (w.alloc (.cells #[.int .i64 T, .int .i64 N, .slice ra R.length rc, .int .i64 op, .int .i64 a, .int .i64 b, .int .i64 c, .slice sa IX.length sc] 70)).alloc (.cells #[.int .i64 0, .int .i64 0, .slice none 0 0] 24) = W := ⟨_, rfl⟩
  have HB0 : Hid (Below w.heap.size w W0 ∧ W0.heap.size = w.heap.size + 2) := by
    refine ⟨?_, ?_⟩
    · rw [← hW0]; exact ((Below.refl _ _).alloc (Nat.le_refl _) _).alloc (by simp) _
    · rw [← hW0]; simp
  have HC : Hid (∀ wq, Below W0.heap.size W0 wq → wq.cell? ⟨w.heap.size, 0, none⟩ = some (.int .i64 T) ∧ wq.cell? ⟨w.heap.size, 1, none⟩ = some (.int .i64 N) ∧ wq.cell? ⟨w.heap.size, 2, none⟩ = some (.slice ra R.length rc) ∧ wq.cell? ⟨w.heap.size, 3, none⟩ = some (.int .i64 op) ∧ wq.cell? ⟨w.heap.size, 4, none⟩ = some (.int .i64 a) ∧ wq.cell? ⟨w.heap.size, 5, none⟩ = some (.int .i64 b) ∧ wq.cell? ⟨w.heap.size, 6, none⟩ = some (.int .i64 c) ∧ wq.cell? ⟨w.heap.size, 7, none⟩ = some (.slice sa IX.length sc) ∧
      wq.cell? ⟨w.heap.size + 1, 0, none⟩ = some (.int .i64 0) ∧ wq.cell? ⟨w.heap.size + 1, 1, none⟩ = some (.int .i64 0) ∧ wq.cell? ⟨w.heap.size + 1, 2, none⟩ = some (.slice none 0 0) ∧ (∀ o, wq.frozen? ⟨w.heap.size + 1, o, none⟩ = false) ∧ RulesAt wq w.heap.size (.slice ra R.length rc) R ∧ ListAt wq w.heap.size (.slice sa IX.length sc) IX ∧ Below w.heap.size w wq) := fun wq hq => by
    have hz := HB0.out.2
    have hB : Below w.heap.size w wq := HB0.out.1.trans (hq.mono (by omega))
    have cell : ∀ b o u, b < W0.heap.size → W0.cell? ⟨b, o, none⟩ = some u → wq.cell? ⟨b, o, none⟩ = some u := fun b o u hb hu => (hq.cell hb).trans hu
    refine ⟨cell _ _ _ (by omega) ?_, cell _ _ _ (by omega) ?_, cell _ _ _ (by omega) ?_, cell _ _ _ (by omega) ?_, cell _ _ _ (by omega) ?_, cell _ _ _ (by omega) ?_, cell _ _ _ (by omega) ?_, cell _ _ _ (by omega) ?_, cell _ _ _ (by omega) ?_, cell _ _ _ (by omega) ?_, cell _ _ _ (by omega) ?_, fun o => (hq.frozen (by simp only; omega)).trans ?_, HR.out.below hB, HS.out.below hB, hB⟩ <;> (rw [← hW0]; simp [go_sem])
  have x7 := (HC.out W0 (Below.refl _ _)).2.2.2.2.2.2.2.1
  go_enter Try.func76, Try.ntmps76
  go_wp2_with fail
  clear hW0 x7
  go_loopw [3, 9] (fun s3 s9 wr => ∃ (k : Nat) (lv : Value) (RL : List (Value × Ru)), lv = s3 ∧ s9 = .int .i64 k ∧ k ≤ IX.length ∧ RL.length = k ∧ (RL.map fun x => x.2) = (IX.take k).map (fun i => R.getD i.toNat (0, [])) ∧ Owns wr W0.heap.size (rlP lv RL) ∧ Below W0.heap.size W0 wr) (fun _ s _ => IX.length - (intOf s).toNat)
  case atStart => exact ⟨0, _, [], rfl, rfl, Nat.zero_le _, rfl, rfl, rl_nil _ _, Below.refl _ _⟩
  case round =>
    obtain ⟨k, lv, RL, rfl, rfl, hk, hlen, hmap, hO, hB⟩ := hrel
    have HB : Hid (Below W0.heap.size W0 wr) := hB
    have HO : Hid (Owns wr W0.heap.size (rlP lv RL)) := hO
    have HM : Hid ((RL.map fun x => x.2) = (IX.take k).map (fun i => R.getD i.toNat (0, [])) ∧ RL.length = k) := ⟨hmap, hlen⟩
    have hC := HC.out wr hB
    by_cases hlt : k < IX.length
    · obtain ⟨sb, so, _, hv, _, s1⟩ := hC.2.2.2.2.2.2.2.2.2.2.2.2.2.1.2 k hlt
      cases hv
      obtain ⟨hi0, hi1⟩ := HI.out k hlt
      obtain ⟨i, hi⟩ : ∃ i, IX.getD k 0 = i := ⟨_, rfl⟩
      rw [hi] at hi0 hi1 s1
      obtain ⟨q, rfl⟩ : ∃ q : Nat, i = q := ⟨i.toNat, by omega⟩
      have hq : q < R.length := by omega
      obtain ⟨b0, o0, rc0, qa, qc, hv, _, k1, k2, hsy⟩ := hC.2.2.2.2.2.2.2.2.2.2.2.2.1.syms hq
      cases hv
      have hn8 := H2.out q hq
      obtain ⟨⟨L, l⟩, hx⟩ : ∃ x, R.getD q (0, []) = x := ⟨_, rfl⟩
      rw [hx] at k1 k2 hsy hn8
      simp only at k1 k2 hsy hn8
      obtain ⟨n, hn⟩ : ∃ n, l.length = n := ⟨_, rfl⟩
      rw [hn] at k2 hsy hn8
      have HX : Hid ((IX.take (k + 1)).map (fun i => R.getD i.toNat (0, [])) = (IX.take k).map (fun i => R.getD i.toNat (0, [])) ++ [(L, l)] ∧ l.length = n) := by
        refine ⟨?_, hn⟩
        rw [List.take_succ_eq_append_getElem hlt, List.map_append]
        have e : IX[k] = (q : Int) := by rw [← hi]; simp [List.getD, hlt]
        rw [e, List.map_cons, List.map_nil, Int.toNat_natCast, hx]
      have x2 := hC.2.2.1
      have cop := st_copied (w := wr) (L := L) (lv := .slice qa n qc) (l := l) hsy (by omega)
      rw [hn] at cop
      have i0 : (0 : Int) ≤ (k : Int) := Int.natCast_nonneg _
      have i1 : (k : Int) < (IX.length : Int) := by omega
      clear hB hO hmap hx hn hsy hlen hC hi
      go_wp2_with
        (first
         | (go_at_call 59; refine cop.mono ?_; rintro e w3 ⟨ga, d, rfl, hown, hB3⟩
            have hrow : RowAt (w3.alloc (.cells #[.int .i64 L, .slice ga n d] 41)) (.slice (some ⟨w3.heap.size, 0, none⟩) 1 1) 1 [.int .i64 L, .slice ga n d] := rule_row
            have hB4 : Below wr.heap.size wr (w3.alloc (.cells #[.int .i64 L, .slice ga n d] 41)) := hB3.alloc hB3.size _
            have own4 := own_below HO.out.rlOwn hB4 fun g hg => (HO.out.rlOwn.lt g hg).2
            have hb4 : W0.heap.size ≤ (w3.alloc (.cells #[.int .i64 L, .slice ga n d] 41)).heap.size := Nat.le_trans HB.out.size hB4.size
            have hlen4 : RL.length + 1 ≤ 100000 := by rw [HM.out.2]; omega
            clear cop)
         | (at_builtin
            refine wpList_append_ccR rfl _ _ rfl rfl rfl rfl own4 hrow hb4 hlen4 ?_
            intro a' d' w6 hown6 hgrow hat))
      go_roundw
      case rel =>
        refine ⟨k + 1, _, RL ++ [(.slice ga n d, (L, l))], rfl, by go_num, by omega, by rw [List.length_append, HM.out.2]; rfl, by rw [List.map_append, HM.out.1, HX.out.1]; rfl, ?_, ?_⟩
        · refine HO.out.rlPush (w5 := w3.alloc (.cells #[.int .i64 L, .slice ga n d] 41)) HB.out.size hB4 ?_ hgrow ?_ (fun g hg => (hat g hg).imp id fun e => by omega)
          · rw [HX.out.2]
            exact hown.alloc _
          · rw [flatR_push]
            exact hown6
        · exact (HB.out.trans (hB4.mono HB.out.size)).grown hgrow hb4 fun g hg => (own4.lt g hg).1
      case measure => simp [intOf]; omega
    · have hkk : k = IX.length := by omega
      obtain ⟨la, lc, hlv⟩ := own_form hO.rlOwn
      subst hlv
      obtain ⟨x0, x1, x2, x3, x4, x5, x6, x7, _, _, _, _⟩ := hC
      have wi := st_with (w := wr) (T := T) (N := N) (ra := ra) (rn := R.length) (rc := rc) (op := op) (a := a) (b := b) (c := c) (M := N) (oa := la) (on := RL.length) (oc := lc)
      clear hB hO hmap hlen
      go_wp2_with
        (go_at_call 58; refine wi.mono ?_; rintro e w3 ⟨rfl, hB3⟩
         have HB3 : Hid (Below W0.heap.size W0 w3) := HB.out.trans (hB3.mono HB.out.size)
         have HR3 : Hid (RlIn w3 W0.heap.size (.slice la RL.length lc) RL) := HO.out.rlIn.below hB3
         have y0 := (HC.out w3 HB3.out).2.2.2.2.2.2.2.2.1
         have y1 := (HC.out w3 HB3.out).2.2.2.2.2.2.2.2.2.1
         have y2 := (HC.out w3 HB3.out).2.2.2.2.2.2.2.2.2.2.1
         have yf0 := (HC.out w3 HB3.out).2.2.2.2.2.2.2.2.2.2.2.1 0
         have yf1 := (HC.out w3 HB3.out).2.2.2.2.2.2.2.2.2.2.2.1 1
         have yf2 := (HC.out w3 HB3.out).2.2.2.2.2.2.2.2.2.2.2.1 2
         clear wi hB3)
      have q0 := box3_0 (v0 := .int .i64 T) (v1 := .int .i64 N) (v2 := .slice la RL.length lc) y0
      have q1 := box3_1 (v0 := .int .i64 T) (v1 := .int .i64 N) (v2 := .slice la RL.length lc) y1
      have q2 := box3_2 (v0 := .int .i64 T) (v1 := .int .i64 N) (v2 := .slice la RL.length lc) y2
      refine bodyPost_ret (v := .agg #[.int .i64 T, .int .i64 N, .slice la RL.length lc]) (by simp [results, Try.results76, go_sem, q0, q1, q2]) rfl ?_
      have hz := HB0.out.2
      refine ⟨_, RL, rfl, (((HR3.out.setLow (by simp only; omega) _).setLow (by simp only; omega) _).setLow (by simp only; omega) _).mono (by omega), by rw [HM.out.1, hkk, List.take_length], ?_⟩
      exact (((HC.out w3 HB3.out).2.2.2.2.2.2.2.2.2.2.2.2.2.2.setCell (by simp only; omega) _).setCell (by simp only; omega) _).setCell (by simp only; omega) _

end Go.Proofs.Ytjdoiieiimdmfaa

/- HeldAny, where what only reads may be taken first also among what follows. No program. -/
namespace Go.Proofs.Ytjdoiieiimdmfaa

section
variable {P : Program} {ops : Array Oper} {Q : Exit → Act → World → Prop} {S : World → Prop}

def headMixB (ops : Array Oper) (n : Nat) : Bool := Region.noSelect ops && decide (n < ops.size) && Region.sinkB .any ops n && Region.chainB .any ops n

/-- So many follow, in whatever order. -/
def TailC (P : Program) (ops : Array Oper) (Q : Exit → Act → World → Prop) (S : World → Prop) (n k : Nat) (listed : Array Bool) (a : Act) (w : World) : Prop :=
  headMixB ops n = true → HeadInv .any ops n listed → wpAnyG P .any ops (NoPanic Q) S n k listed a w

theorem tailC_step {n k : Nat} {listed : Array Bool} {a : Act} {w : World} (hb : headMixB ops n = true) (inv : HeadInv .any ops n listed) (h0 : Region.ready .any ops listed ≠ []) (h : ∀ i ∈ Region.ready .any ops listed, i < n ∧ StepI P ops (NoPanic Q) S n (TailC P ops Q S n k (listed.setIfInBounds i true)) i a w) : wpAnyG P .any ops (NoPanic Q) S n (k + 1) listed a w := by
  refine ⟨fun h1 => absurd h1 h0, fun i hi => ?_⟩
  obtain ⟨hin, o, ho, h⟩ := h i hi
  have h1 := h (fun a' w' => (i < n → S w') ∧ wpAnyG P .any ops (NoPanic Q) S n k (listed.setIfInBounds i true) a' w')
    (fun a' w' hS hT => ⟨hS, hT hb (inv.set hi hin)⟩)
  have h0' : ops[i]? = some o := by simpa using ho
  unfold wpOp
  simp only [h0']
  split
  · rename_i hw
    rw [if_pos hw] at h1
    exact .inl h1
  · rename_i hw
    rw [if_neg hw] at h1
    exact h1

theorem TailC.one {n k i : Nat} {listed : Array Bool} {a : Act} {w : World} (hr : (decide (Region.ready .any ops listed = [i]) && decide (i < n)) = true) (h : StepI P ops (NoPanic Q) S n (TailC P ops Q S n k (listed.setIfInBounds i true)) i a w) : TailC P ops Q S n (k + 1) listed a w := fun hb inv => by
  simp only [Bool.and_eq_true, decide_eq_true_eq] at hr
  refine tailC_step hb inv (by rw [hr.1]; simp) fun j hj => ?_
  rw [hr.1] at hj
  have : j = i := by simpa using hj
  subst this
  exact ⟨hr.2, h⟩
theorem TailC.two {n k i i' : Nat} {listed : Array Bool} {a : Act} {w : World} (hr : (decide (Region.ready .any ops listed = [i, i']) && decide (i < n) && decide (i' < n)) = true) (h : StepI P ops (NoPanic Q) S n (TailC P ops Q S n k (listed.setIfInBounds i true)) i a w) (h' : StepI P ops (NoPanic Q) S n (TailC P ops Q S n k (listed.setIfInBounds i' true)) i' a w) : TailC P ops Q S n (k + 1) listed a w := fun hb inv => by
  simp only [Bool.and_eq_true, decide_eq_true_eq] at hr
  refine tailC_step hb inv (by rw [hr.1.1]; simp) fun j hj => ?_
  rw [hr.1.1] at hj
  simp only [List.mem_cons, List.not_mem_nil, or_false] at hj
  rcases hj with rfl | rfl
  · exact ⟨hr.1.2, h⟩
  · exact ⟨hr.2, h'⟩
/-- One that only reads is taken first. -/
theorem TailC.read {n k i : Nat} {o : Oper} {listed : Array Bool} {a : Act} {w : World} {v : Value} (ho : ops.toList[i]? = some o) (hr : ((Region.ready .any ops listed).contains i && Region.free .any ops listed i && decide (i < n)) = true) (hw : Region.wanted o (yielded ops a.tmps) = true) (hy : ∀ w, S w → (execOp a.eval o).run P w = .ok (.value v) w) (hS : S w) (h : TailC P ops Q S n k (listed.setIfInBounds i true) (a.put o.dst v) w) : TailC P ops Q S n (k + 1) listed a w := fun hb inv => by
  have hb' := hb
  simp only [headMixB, Bool.and_eq_true, decide_eq_true_eq] at hb'
  obtain ⟨⟨⟨hsel, hn⟩, hsk⟩, hc⟩ := hb'
  simp only [Bool.and_eq_true, decide_eq_true_eq] at hr
  have hi : ops[i]? = some o := by simpa using ho
  have hmem : i ∈ Region.ready .any ops listed := by simpa using hr.1.1
  obtain ⟨o', v', h0, hy', hK⟩ := (StillI.cons (K := fun a' => a' = a.put o.dst v) (l := []) hi hw hy rfl : StillI P ops S (fun a' => a' = a.put o.dst v) [i] a)
  rw [hi] at h0
  cases h0
  have hK' : a.put o.dst v' = a.put o.dst v := hK
  refine wpAnyG_first hi (Region.noSelect_spec hsel) (fun _ _ _ h => h) hsk hc hn hr.2 k listed a w inv (Region.free_spec hi hr.1.2) hmem hy' hS ?_
  rw [hK']
  exact h hb (inv.set hmem hr.2)
/-- The last one. -/
theorem TailC.last {n i : Nat} {listed : Array Bool} {a : Act} {w : World} (hr : (decide (Region.ready .any ops listed = [i]) && decide (Region.ready .any ops (listed.setIfInBounds i true) = [])) = true) (h : ∃ o, ops.toList[i]? = some o ∧ ∀ K : Act → World → Prop, Shut (∀ a w, (i < n → S w) → NoPanic Q .normal a w → K a w) → if Region.wanted o (yielded ops a.tmps) = true then Oper.wp P o a w K (NoPanic Q) else K (a.put o.dst undef) w) : TailC P ops Q S n 1 listed a w := fun _ _ => by
  simp only [Bool.and_eq_true, decide_eq_true_eq] at hr
  refine ⟨fun h1 => absurd h1 (by rw [hr.1]; simp), fun j hj => ?_⟩
  rw [hr.1] at hj
  have : j = i := by simpa using hj
  subst this
  obtain ⟨o, ho, h⟩ := h
  have h1 := h (fun a' w' => (j < n → S w') ∧ wpAnyG P .any ops (NoPanic Q) S n 0 (listed.setIfInBounds j true) a' w') (fun a' w' hS hT => ⟨hS, hr.2, hT⟩)
  have h0' : ops[j]? = some o := by simpa using ho
  unfold wpOp
  simp only [h0']
  split
  · rename_i hw
    rw [if_pos hw] at h1
    exact .inl h1
  · rename_i hw
    rw [if_neg hw] at h1
    exact h1

theorem wpAnyG_lexC {n m : Nat} (hb : headMixB ops n = true) {w : World} (hS : S w) :
    ∀ (l : List Nat) (listed : Array Bool) (a : Act), (∀ i ∈ l, i < n) → HeadInv .any ops n listed → lexA .any ops l listed = true → StillI P ops S (fun a' => TailC P ops Q S n m (listAll l listed) a' w) l a →
    wpAnyG P .any ops (NoPanic Q) S n (l.length + m) listed a w
  | [], listed, a, _, inv, _, h => by
    simp only [List.length_nil, Nat.zero_add]
    exact h hb inv
  | k :: l, listed, a, hl, inv, hB, h => by
    have hb' := hb
    simp only [headMixB, Bool.and_eq_true, decide_eq_true_eq] at hb'
    obtain ⟨⟨⟨hsel, hn⟩, hsk⟩, hc⟩ := hb'
    simp only [lexA, Bool.and_eq_true] at hB
    obtain ⟨⟨hr, hf⟩, hB'⟩ := hB
    have hkn := hl k (by simp)
    have hr' : k ∈ Region.ready .any ops listed := by simpa using hr
    obtain ⟨o, v, h0, hy, hK⟩ := h
    rw [show (k :: l).length + m = (l.length + m) + 1 by simp only [List.length_cons]; omega]
    exact wpAnyG_first h0 (Region.noSelect_spec hsel) (fun _ _ _ h => h) hsk hc hn hkn _ listed a w inv (Region.free_spec h0 hf) hr' hy hS
      (wpAnyG_lexC hb hS l _ _ (fun i hi => hl i (List.mem_cons_of_mem _ hi)) (inv.set hr' hkn) hB' hK)

theorem wp_region_mix {id : Nat} {a : Act} {w : World} (hs : List Nat) (m n : Nat) (S : World → Prop) (hm : P.follows .mixedOrders = true) (hB : heldAnyB ops hs m n = true) (hS : S w.drew)
    (h : StillI P ops S (fun a' => TailC P ops Q S n m (listAll hs (Array.replicate ops.size false)) a' w.drew) hs a) : (Code.region id ops true).wp P Q a w := by
  simp only [heldAnyB, Bool.and_eq_true, decide_eq_true_eq, List.all_eq_true] at hB
  obtain ⟨⟨⟨⟨⟨⟨hsel, hn⟩, hsk⟩, hc⟩, hl⟩, hlen⟩, hlex⟩ := hB
  have inv0 : HeadInv .any ops n (Array.replicate ops.size false) :=
    ⟨by simp, fun j oj _ hl => (by rw [getD_replicate_false] at hl; cases hl), fun t _ ht => Go.getD_in (by simpa using ht) (getD_replicate_false _ _)⟩
  refine wp_region_noPanic (wp_region_any hm (wpAny_of_G (S := S) (n := n) _ _ _ _ ?_))
  have hb : headMixB ops n = true := by simp only [headMixB, Bool.and_eq_true, decide_eq_true_eq]; exact ⟨⟨⟨hsel, hn⟩, hsk⟩, hc⟩
  have := wpAnyG_lexC (Q := Q) (m := m) hb hS hs _ a hl inv0 hlex h
  rw [hlen] at this
  exact this
end

end Go.Proofs.Ytjdoiieiimdmfaa
