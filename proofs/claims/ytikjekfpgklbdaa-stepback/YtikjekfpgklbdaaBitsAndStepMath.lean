import Derived.Test.YtikjekfpgklbdaaMathAndOwns
import Derived.StillTailTactics
import Derived.Deep.RegionLaw
import Derived.Deep.RegionWith
import Derived.Deep.Cut
import Derived.Deep.CutRange
import Derived.Deep.DrawnRows
/- Tables of truths that a call owns, and what a call that may write them alone keeps. No program. -/
namespace Go.Proofs.Ytikjekfpgklbdaa
open Go.RowKit

/-- A region that draws its order, whose operations only read but those behind the first n, which can but follow: one walk. -/
theorem wp_region_tail {P : Program} {id : Nat} {Q : Exit → Act → World → Prop} {a : Act} {w : World} {l : List Oper} (n : Nat) (hm : P.follows .mixedOrders = true) (hB : Region.lexTailB .any l.toArray n = true)
    (h : wpStill P l.toArray w.drew (fun a' => wpList P l.toArray Q (l.drop n) a' w.drew) (l.take n) a) : (Code.region id l.toArray true).wp P Q a w := wp_region_still_tail n hm hB h

/-- All blocks that were there but those of K are as they were. -/
structure Kept (K : Nat → Prop) (w w' : World) : Prop where
  os : w'.os = w.os
  tape : w'.tape = w.tape
  output : w'.output = w.output
  size : w.heap.size ≤ w'.heap.size
  block : ∀ k, k < w.heap.size → ¬ K k → w'.heap[k]? = w.heap[k]?

section
variable {K : Nat → Prop} {a w w' : World}

theorem Kept.refl (K : Nat → Prop) (w : World) : Kept K w w := ⟨rfl, rfl, rfl, Nat.le_refl _, fun _ _ _ => rfl⟩
theorem Kept.trans {b c : World} (h : Kept K a b) (k : Kept K b c) : Kept K a c :=
  ⟨k.os.trans h.os, k.tape.trans h.tape, k.output.trans h.output, Nat.le_trans h.size k.size, fun i hi hK => (k.block i (Nat.lt_of_lt_of_le hi h.size) hK).trans (h.block i hi hK)⟩
theorem Kept.drew (h : Kept K a w) : Kept K a w.drew := ⟨h.os, h.tape, h.output, h.size, h.block⟩
theorem Kept.drewN (h : Kept K a w) (n : Nat) : Kept K a (w.drewN n) := ⟨h.os, h.tape, h.output, h.size, h.block⟩
theorem Kept.ofBelow (h : Below w.heap.size w w') : Kept K w w' := ⟨h.os, h.tape, h.output, h.size, fun k hk _ => h.block k hk⟩
theorem Kept.alloc (h : Kept K a w) (o : Obj) : Kept K a (w.alloc o) := h.trans (Kept.ofBelow ((Below.refl _ _).alloc (Nat.le_refl _) o))
theorem Kept.setCell (h : Kept K a w) {p : Addr} (hp : K p.block) (u : Value) : Kept K a (w.setCell p u) :=
  h.trans ⟨rfl, rfl, rfl, by simp [World.setCell], fun k _ hK => Below.heap_setCell _ _ _ _ (fun e => hK (e ▸ hp))⟩
theorem Kept.below (h : Kept K a w) {B : Nat} (hB : ∀ b, K b → B ≤ b) (hs : B ≤ a.heap.size) : Below B a w :=
  ⟨h.os, h.tape, h.output, h.size, fun k hk => h.block k (by omega) (fun e => by have := hB k e; omega)⟩
theorem Kept.cell (h : Kept K w w') {p : Addr} {v : Value} (hp : ¬ K p.block) (hc : w.cell? p = some v) : w'.cell? p = some v :=
  (World.cell?_of_block (w := w) (h.block p.block (World.block_lt_of_cell? w _ hc) hp)).trans hc
theorem Kept.frozen (h : Kept K w w') {p : Addr} (hp : ¬ K p.block) (hs : p.block < w.heap.size) : w'.frozen? p = w.frozen? p :=
  World.frozen?_of_block (w := w) (h.block p.block hs hp)
end

/-- n rounds, each told its number. -/
def loopN {α : Type} (n : Nat) (f : Nat → α → α) (x : α) : α :=
  match n with
  | 0 => x
  | k + 1 => f k (loopN k f x)

theorem loopN_inv {α : Type} (P : Nat → α → Prop) {n : Nat} {f : Nat → α → α} {x : α} (h0 : P 0 x) (hs : ∀ i, i < n → ∀ y, P i y → P (i + 1) (f i y)) : P n (loopN n f x) := by
  induction n with
  | zero => exact h0
  | succ n ih => exact hs n (Nat.lt_succ_self n) _ (ih fun i hi => hs i (Nat.lt_succ_of_lt hi))

/-- Where rows of truths lie, and how long they are. -/
structure Tab (ι : Type) where
  V : ι → Value
  dom : ι → Option Nat

section
variable {ι : Type}

def Tab.P (c : Tab ι) (X : ι → List Bool) (i : ι) : Option Row := (c.dom i).map fun n => ⟨c.V i, 4, 1, n, (X i).map Value.bool⟩
def Tab.K (c : Tab ι) (b : Nat) : Prop := ∃ i n, c.dom i = some n ∧ (c.V i).ownBlock = some b
def bit (X : ι → List Bool) (i : ι) (m : Nat) : Bool := (X i).getD m false
def setX [DecidableEq ι] (X : ι → List Bool) (i : ι) (m : Nat) (v : Bool) : ι → List Bool := fun j => if j = i then (X i).set m v else X j

/-- The truths X lie in the rows of c, owned from block B on. -/
def Bt (w : World) (B : Nat) (c : Tab ι) (X : ι → List Bool) : Prop := Owns w B (c.P X)

variable {w : World} {B : Nat} {c : Tab ι} {X : ι → List Bool} {i : ι} {n : Nat}

theorem Tab.P_some (hd : c.dom i = some n) : c.P X i = some ⟨c.V i, 4, 1, n, (X i).map Value.bool⟩ := by simp [Tab.P, hd]
theorem Bt.own (h : Bt w B c X) (hd : c.dom i = some n) : w.ownsRow B 4 1 (c.V i) n ((X i).map Value.bool) := Owns.own h i _ (Tab.P_some hd)
theorem Bt.len (h : Bt w B c X) (hd : c.dom i = some n) : (X i).length = n := by simpa using (h.own hd).1
theorem Bt.slice (h : Bt w B c X) (hd : c.dom i = some n) : ∃ a cap, c.V i = .slice a n cap := own_form (h.own hd)
theorem Bt.form (h : Bt w B c X) (hd : c.dom i = some n) (hn : 0 < n) : ∃ g cap, c.V i = .slice (some ⟨g, 0, none⟩) n cap ∧ B ≤ g ∧ g < w.heap.size := (h.own hd).form hn
theorem Bt.cell (h : Bt w B c X) (hd : c.dom i = some n) {g cap m : Nat} (hv : c.V i = .slice (some ⟨g, 0, none⟩) n cap) (hm : m < n) :
    w.cell? ⟨g, m, none⟩ = some (.bool (bit X i m)) ∧ w.frozen? ⟨g, m, none⟩ = false := by
  have hl := h.len hd
  have ho := h.own hd
  rw [hv] at ho
  refine ⟨?_, ho.frozenAt m⟩
  rw [ho.cellAt m (by omega)]
  simp [bit, List.getD, show m < (X i).length by omega]
theorem Bt.alloc (h : Bt w B c X) (o : Obj) : Bt (w.alloc o) B c X := Owns.alloc h o
theorem Bt.drew (h : Bt w B c X) : Bt w.drew B c X := Owns.drew h
theorem Bt.drewN (h : Bt w B c X) (n : Nat) : Bt (w.drewN n) B c X := Owns.drewN h n
theorem Bt.below (h : Bt w B c X) {w' : World} (hb : Below w.heap.size w w') : Bt w' B c X := Owns.below h hb (Nat.le_refl _)
theorem Bt.ge (h : Bt w B c X) {b : Nat} (hK : c.K b) : B ≤ b := by
  obtain ⟨i, n, hd, hb⟩ := hK
  exact ((h.own hd).lt b hb).1
theorem Bt.lt (h : Bt w B c X) {b : Nat} (hK : c.K b) : b < w.heap.size := by
  obtain ⟨i, n, hd, hb⟩ := hK
  exact ((h.own hd).lt b hb).2
theorem Bt.notK (h : Bt w B c X) {b : Nat} (hb : w.heap.size ≤ b) : ¬ c.K b := fun hK => by have := h.lt hK; omega
theorem Tab.inK (hd : c.dom i = some n) {g cap : Nat} (hv : c.V i = .slice (some ⟨g, 0, none⟩) n cap) : c.K g := ⟨i, n, hd, by rw [hv]; rfl⟩
theorem Bt.apart (h : Bt w B c X) {j : ι} {k : Nat} (hij : i ≠ j) (hd : c.dom i = some n) (hd' : c.dom j = some k) {g g' cap cap' : Nat} (hv : c.V i = .slice (some ⟨g, 0, none⟩) n cap) (hv' : c.V j = .slice (some ⟨g', 0, none⟩) k cap') : g ≠ g' := fun e =>
  Owns.apart h i j _ _ hij (Tab.P_some hd) (Tab.P_some hd') g (by rw [hv]; rfl) (by rw [hv', e]; rfl)

variable [DecidableEq ι]

theorem Bt.set (h : Bt w B c X) (hd : c.dom i = some n) {g cap : Nat} (hv : c.V i = .slice (some ⟨g, 0, none⟩) n cap) (m : Nat) (v : Bool) : Bt (w.setCell ⟨g, m, none⟩ (.bool v)) B c (setX X i m v) := by
  have := Owns.store h (i := i) (g := g) (n := n) (cap := cap) (e := 4) (size := 1) (xs := (X i).map Value.bool) (by rw [Tab.P_some hd, hv]) m (.bool v)
  have e : upd (c.P X) i ⟨.slice (some ⟨g, 0, none⟩) n cap, 4, 1, n, ((X i).map Value.bool).set m (.bool v)⟩ = c.P (setX X i m v) := by
    funext j
    by_cases hj : j = i
    · subst hj
      simp [upd, Tab.P, hd, setX, hv, List.map_set]
    · simp [upd, Tab.P, setX, hj]
  show Owns _ _ _
  rwa [e] at this

omit [DecidableEq ι] in
theorem bit_lt {m : Nat} (h : bit X i m = true) : m < (X i).length := by
  unfold bit at h
  by_cases hm : m < (X i).length
  · exact hm
  · simp [List.getD, List.getElem?_eq_none (show (X i).length ≤ m by omega)] at h

theorem bit_set {j : ι} {m q : Nat} {v : Bool} (hm : m < (X i).length) : bit (setX X i m v) j q = if j = i ∧ q = m then v else bit X j q := by
  unfold bit setX
  by_cases hj : j = i
  · subst hj
    simp only [if_true, true_and]
    by_cases hq : q = m
    · subst hq; simp [List.getD, hm]
    · rw [if_neg hq]; simp [List.getD, List.getElem?_set_ne (fun h => hq h.symm)]
  · simp [hj]

theorem len_set {j : ι} {m : Nat} {v : Bool} : (setX X i m v j).length = (X j).length := by
  unfold setX
  by_cases hj : j = i
  · subst hj; simp
  · simp [hj]
end

end Go.Proofs.Ytikjekfpgklbdaa

/- What may be, as bounds. No walk. -/
namespace Go.Proofs.Ytikjekfpgklbdaa
open Go.RowKit

/-- What may be, as bounds. -/
theorem may_fine {T N : Nat} {R : List Ru} (h : mayB T N R = true) : T ≤ 8 ∧ 1 ≤ N ∧ N ≤ 12 ∧ R.length ≤ 40 ∧
    ∀ i, i < R.length → 0 ≤ (R.getD i (0, [])).1 ∧ (R.getD i (0, [])).1 < (N : Int) ∧ (R.getD i (0, [])).2.length ≤ 8 ∧
      ∀ s ∈ (R.getD i (0, [])).2, 0 ≤ s.2 ∧ s.2 < if s.1 then (T : Int) else (N : Int) := by
  simp only [mayB, headB, Bool.and_eq_true, decide_eq_true_eq] at h
  obtain ⟨⟨h1, h2, h3, h4, h5⟩, h6⟩ := h
  refine ⟨by omega, by omega, by omega, h5, fun i hi => ?_⟩
  have h7 := List.all_eq_true.1 h6 (R.getD i (0, [])) (by simp [List.getD, hi])
  simp only [ruleB, Bool.and_eq_true, decide_eq_true_eq] at h7
  refine ⟨h7.1.1, h7.1.2.1, h7.1.2.2, fun s hs => ?_⟩
  have h8 := List.all_eq_true.1 h7.2 s hs
  simpa [symB] using h8

end Go.Proofs.Ytikjekfpgklbdaa

/- A row of truths that a call has made; tables of such rows. No walk. -/
namespace Go.Proofs.Ytikjekfpgklbdaa
open Go.RowKit

theorem Try.infoBool : (Try.prog.info? 4).map (fun i => (i.zero, i.size, i.bytes)) = some (some (.bool false), 1, 1) := by kernel_rfl

theorem make_bools (n : Nat) (hn : n ≤ 1000000) (u : World) : (Instr.makeSlice 61 (.int .i64 n) (.int .i64 n)).run Try.prog u = .ok (.slice (some ⟨u.heap.size, 0, none⟩) n n) (u.alloc (.cells (madeCells #[.bool false] n) 4)) := by
  obtain ⟨i0, hi, hz0, hz1, hz2⟩ := info_parts Try.infoBool
  have h := run_make (P := Try.prog) u 61 4 i0 (.bool false) Try.underlying61 hi hz0 .i64 .i64 n n (by omega) (Int.le_refl _) (by rw [hz2]; omega) (by omega)
  simpa [hz1, Value.cells] using h

/-- A row of N truths of the call's own, at block g. -/
def RowB (w : World) (B g N : Nat) (X : List Bool) : Prop := w.ownsRow B 4 1 (.slice (some ⟨g, 0, none⟩) N N) N (X.map Value.bool)

section
variable {w : World} {B g N : Nat} {X : List Bool}
theorem RowB.len (h : RowB w B g N X) : X.length = N := by
  have : (X.map Value.bool).length = N * 1 := h.1
  simpa using this
theorem RowB.cell (h : RowB w B g N X) {m : Nat} (hm : m < N) : w.cell? ⟨g, m, none⟩ = some (.bool (X.getD m false)) ∧ w.frozen? ⟨g, m, none⟩ = false := by
  have hl := h.len
  refine ⟨?_, World.ownsRow.frozenAt h m⟩
  rw [World.ownsRow.cellAt h m (by omega)]
  simp [List.getD, show m < X.length by omega]
theorem RowB.set (h : RowB w B g N X) (m : Nat) (v : Bool) : RowB (w.setCell ⟨g, m, none⟩ (.bool v)) B g N (X.set m v) := by
  have := (World.ownsRow.stored h m (.bool v)).1
  unfold RowB
  rwa [List.map_set]
theorem RowB.ge (h : RowB w B g N X) : N ≠ 0 → B ≤ g := fun hN => by
  obtain ⟨g', c, e, h1, _⟩ := World.ownsRow.form h (by omega)
  cases e
  exact h1
end

theorem row_made (w : World) {N : Nat} (hN : N ≤ maxLen) : RowB (w.alloc (.cells (madeCells #[.bool false] N) 4)) w.heap.size w.heap.size N (List.replicate N false) := by
  have := World.ownsRow_lit (base := w.heap.size) (e := 4) (size := 1) w (madeCells #[.bool false] N) N (Nat.le_refl _) hN (by simp [size_madeCells])
  rw [toList_madeCells_one] at this
  unfold RowB
  simpa using this

theorem RowB.below {w w' : World} {B g N : Nat} {X : List Bool} (h : RowB w B g N X) (hb : Below w.heap.size w w') : RowB w' B g N X := own_below h hb fun k hk => (World.ownsRow.lt h k hk).2
theorem RowB.mono {w : World} {B B' g N : Nat} {X : List Bool} (h : RowB w B g N X) (hB : B' ≤ B) : RowB w B' g N X := own_mono h hB

theorem row_made_set (w : World) {N : Nat} (hN : N ≤ maxLen) (m : Nat) (x : Bool) : RowB (w.alloc (.cells ((madeCells #[.bool false] N).setIfInBounds m (.bool x)) 4)) w.heap.size w.heap.size N ((List.replicate N false).set m x) := by
  have := World.ownsRow_lit (base := w.heap.size) (e := 4) (size := 1) w ((madeCells #[.bool false] N).setIfInBounds m (.bool x)) N (Nat.le_refl _) hN (by simp [size_madeCells])
  rw [Array.toList_setIfInBounds, toList_madeCells_one] at this
  unfold RowB
  rw [List.map_set]
  simpa using this

section
variable {ι : Type} {w w' : World} {B : Nat} {c c' : Tab ι} {X X' : ι → List Bool}

theorem bt_none (w : World) (B : Nat) {c : Tab ι} {X : ι → List Bool} (h : ∀ i, c.dom i = none) : Bt w B c X :=
  ⟨fun i r hr => by simp [Tab.P, h i] at hr, fun i j a b _ ha => by simp [Tab.P, h i] at ha⟩

/-- A new row, behind all others. -/
theorem bt_add (i : ι) {n : Nat} (h : Bt w B c X) (hb : Below w.heap.size w w') (hd : c'.dom i = some n) (hrow : w'.ownsRow B 4 1 (c'.V i) n ((X' i).map Value.bool)) (hnew : ∀ g, (c'.V i).ownBlock = some g → w.heap.size ≤ g)
    (he : ∀ j, j ≠ i → ∀ m, c'.dom j = some m → c.dom j = some m ∧ c'.V j = c.V j ∧ X' j = X j) : Bt w' B c' X' := by
  have old : ∀ j r, j ≠ i → c'.P X' j = some r → c.P X j = some r := fun j r hj hr => by
    cases hm : c'.dom j with
    | none => simp [Tab.P, hm] at hr
    | some m =>
      obtain ⟨h1, h2, h3⟩ := he j hj m hm
      simp only [Tab.P, hm, h1, Option.map_some, h2, h3] at hr ⊢
      exact hr
  have new : ∀ r, c'.P X' i = some r → r = ⟨c'.V i, 4, 1, n, (X' i).map Value.bool⟩ := fun r hr => by
    rw [Tab.P_some hd] at hr
    exact (Option.some.inj hr).symm
  have hO := Owns.below h hb (Nat.le_refl _)
  refine ⟨fun j r hr => ?_, fun j k a b hjk ha hb' g h1 h2 => ?_⟩
  · by_cases hj : j = i
    · subst hj
      rw [new r hr]
      exact hrow
    · exact hO.own j r (old j r hj hr)
  · by_cases hj : j = i
    · subst hj
      have hk : k ≠ j := fun e => hjk e.symm
      rw [new a ha] at h1
      have := hnew g h1
      have := (Owns.lt h (old k b hk hb') h2).2
      omega
    · by_cases hk : k = i
      · subst hk
        rw [new b hb'] at h2
        have := hnew g h2
        have := (Owns.lt h (old j a hj ha) h1).2
        omega
      · exact Owns.apart h j k a b hjk (old j a hj ha) (old k b hk hb') g h1 h2
end

end Go.Proofs.Ytikjekfpgklbdaa

/- The contracts of pollardingref3.all and pollardingref3.Makes. -/
namespace Go.Proofs.Ytikjekfpgklbdaa
open Go.RowKit

set_option maxRecDepth 100000 in
set_option maxHeartbeats 1600000 in
theorem all3_any {w : World} {v lv : Value} {X : List Bool} {l : List Sy} (hX : BoolsAt w v X) (hl : SymsAt w lv l) (hin : ∀ s ∈ l, s.1 = false → 0 ≤ s.2 ∧ s.2 < (X.length : Int)) (h8 : l.length ≤ 1000) :
    Calls Try.prog 24 #[lv, v] w fun e w' => e = .returned (.bool (allB X l)) ∧ w' = w := by
  obtain ⟨va, vc, hv⟩ := hX.1
  obtain ⟨la, lc, hlv, _⟩ := hl.1
  have HX : Hid (BoolsAt w v X) := hX
  have HL : Hid (SymsAt w lv l) := hl
  have HI : Hid (∀ s ∈ l, s.1 = false → 0 ≤ s.2 ∧ s.2 < (X.length : Int)) := hin
  clear hX hl hin
  subst hv
  subst hlv
  go_enter Try.func24, Try.ntmps24
  go_wp2_with fail
  go_loopw [5] (fun k wr => ∃ i : Nat, k = .int .i64 i ∧ i ≤ l.length ∧ allB X (l.take i) = true ∧ wr = w) (fun k _ => l.length - (intOf k).toNat)
  case atStart => exact ⟨0, rfl, Nat.zero_le _, rfl, rfl⟩
  case round =>
    obtain ⟨i, rfl, hi, hn, rfl⟩ := hrel
    have HN : Hid (allB X (l.take i) = true) := hn
    clear hn
    by_cases hlt : i < l.length
    · obtain ⟨b, o, c, hv, k1, k2⟩ := HL.out.2 i hlt
      simp only [Value.slice.injEq, true_and] at hv
      obtain ⟨rfl, rfl⟩ := hv
      have hmem : l.getD i (false, 0) ∈ l := by simp [List.getD, hlt]
      have hr := HI.out _ hmem
      obtain ⟨⟨t, v⟩, hs⟩ : ∃ x, l.getD i (false, 0) = x := ⟨_, rfl⟩
      have HT := allB_take X l i hlt
      have HB := allB_bad X l i hlt
      rw [hs] at k1 k2 hr HT HB
      rw [HN.out, Bool.true_and] at HT
      have HT' : Hid (allB X (l.take (i + 1)) = (t || X.getD v.toNat false)) := HT
      have HB' : Hid ((t || X.getD v.toNat false) = false → allB X l = false) := HB
      have j0 : (0 : Int) ≤ (i : Int) := Int.natCast_nonneg _
      have j1 : (i : Int) < (l.length : Int) := by omega
      clear hs hmem HT HB
      cases t with
      | true =>
        go_wp2_with fail
        go_roundw
        case rel => exact ⟨i + 1, by go_num, by omega, by rw [HT'.out]; rfl, trivial⟩
        case measure => simp [intOf]; omega
      | false =>
        have hr' : 0 ≤ v ∧ v < (X.length : Int) := hr rfl
        clear hr
        obtain ⟨y, rfl⟩ : ∃ y : Nat, v = y := ⟨v.toNat, by omega⟩
        obtain ⟨g, o2, c', hv, k3⟩ := HX.out.2 y (by omega)
        simp only [Value.slice.injEq, true_and] at hv
        obtain ⟨rfl, rfl⟩ := hv
        have j2 : (0 : Int) ≤ (y : Int) := Int.natCast_nonneg _
        have j3 : (y : Int) < (X.length : Int) := by omega
        obtain ⟨z, hz⟩ : ∃ z, X.getD y false = z := ⟨_, rfl⟩
        rw [hz] at k3
        simp only [Int.toNat_natCast, hz] at HT' HB'
        clear hz hr'
        cases z with
        | true =>
          go_wp2_with fail
          go_roundw
          case rel => exact ⟨i + 1, by go_num, by omega, by rw [HT'.out]; rfl, trivial⟩
          case measure => simp [intOf]; omega
        | false =>
          go_wp2_with fail
          go_ret
          exact ⟨by rw [HB'.out (by simp)]; rfl, rfl⟩
    · go_wp2_with fail
      go_ret
      exact ⟨by rw [← HN.out, List.take_of_length_le (by omega)]; rfl, rfl⟩

theorem RowB.bools {w : World} {B g N : Nat} {X : List Bool} (h : RowB w B g N X) : BoolsAt w (.slice (some ⟨g, 0, none⟩) N N) X := by
  have hl := h.len
  refine ⟨⟨_, _, by rw [hl]⟩, fun i hi => ⟨g, 0, N, by rw [hl], ?_⟩⟩
  rw [Nat.zero_add]
  exact (h.cell (by omega)).1

def makesS (R : List Ru) (i : Nat) (X : List Bool) : List Bool := if allB X (R.getD i (0, [])).2 then X.set (R.getD i (0, [])).1.toNat true else X
def makesA (R : List Ru) (N : Nat) : List Bool := loopN N (fun _ => loopN R.length (makesS R)) (List.replicate N false)

set_option maxRecDepth 100000 in
set_option maxHeartbeats 3200000 in
theorem makes3_any {w : World} {T N : Nat} {rv : Value} {R : List Ru} (hr : RulesAt w w.heap.size rv R) (hm : mayB T N R = true) :
    Calls Try.prog 18 #[.agg #[.int .i64 T, .int .i64 N, rv]] w fun e w' => e = .returned (.slice (some ⟨w.heap.size + 1, 0, none⟩) N N) ∧ Below w.heap.size w w' ∧ RowB w' (w.heap.size + 1) (w.heap.size + 1) N (makesA R N) := by
  obtain ⟨hT, hN1, hN, hRl, hfine⟩ := may_fine hm
  have HM : Hid (∀ i, i < R.length → 0 ≤ (R.getD i (0, [])).1 ∧ (R.getD i (0, [])).1 < (N : Int) ∧ (R.getD i (0, [])).2.length ≤ 8 ∧
      ∀ s ∈ (R.getD i (0, [])).2, 0 ≤ s.2 ∧ s.2 < if s.1 then (T : Int) else (N : Int)) := hfine
  have HR : Hid (RulesAt w w.heap.size rv R) := hr
  obtain ⟨ra, rc, rfl⟩ := hr.1
  clear hr hm hfine
  have mkN := make_bools N (by omega)
  have hrow := row_made (w.alloc (.cells #[.int .i64 T, .int .i64 N, .slice ra R.length rc] 24)) (N := N) (by unfold maxLen; omega)
  simp only [World.size_alloc] at hrow
  have HRow : Hid (RowB ((w.alloc (.cells #[.int .i64 T, .int .i64 N, .slice ra R.length rc] 24)).alloc (.cells (madeCells #[.bool false] N) 4)) (w.heap.size + 1) (w.heap.size + 1) N (List.replicate N false)) := hrow
  clear hrow
  go_enter Try.func18, Try.ntmps18
  go_wp2_with fail
  clear mkN
  have boxes : ∀ wr, Below (w.heap.size + 1) (w.alloc (.cells #[.int .i64 T, .int .i64 N, .slice ra R.length rc] 24)) wr → Below w.heap.size w wr ∧ wr.cell? ⟨w.heap.size, 1, none⟩ = some (.int .i64 N) ∧ wr.cell? ⟨w.heap.size, 2, none⟩ = some (.slice ra R.length rc) := fun wr hB =>
    ⟨((Below.refl _ _).alloc (Nat.le_refl _) _).trans (hB.mono (by omega)), (hB.cell (by simp)).trans (by simp [go_sem]), (hB.cell (by simp)).trans (by simp [go_sem])⟩
  have HBX : Hid (∀ wr, Below (w.heap.size + 1) (w.alloc (.cells #[.int .i64 T, .int .i64 N, .slice ra R.length rc] 24)) wr → Below w.heap.size w wr ∧ wr.cell? ⟨w.heap.size, 1, none⟩ = some (.int .i64 N) ∧ wr.cell? ⟨w.heap.size, 2, none⟩ = some (.slice ra R.length rc)) := boxes
  clear boxes
  go_loopw [4] (fun i wr => ∃ m : Nat, i = .int .i64 m ∧ m ≤ N ∧ Below (w.heap.size + 1) (w.alloc (.cells #[.int .i64 T, .int .i64 N, .slice ra R.length rc] 24)) wr ∧ RowB wr (w.heap.size + 1) (w.heap.size + 1) N (loopN m (fun _ => loopN R.length (makesS R)) (List.replicate N false)))
    (fun i _ => N - (intOf i).toNat)
  case atStart => exact ⟨0, rfl, Nat.zero_le _, (Below.refl _ _).alloc (by simp) _, HRow.out⟩
  case round =>
    obtain ⟨m, rfl, hmN, hB, hrow⟩ := hrel
    obtain ⟨X0, hX0⟩ : ∃ X, loopN m (fun _ => loopN R.length (makesS R)) (List.replicate N false) = X := ⟨_, rfl⟩
    rw [hX0] at hrow
    have HX0 : Hid (loopN m (fun _ => loopN R.length (makesS R)) (List.replicate N false) = X0) := hX0
    have HB : Hid (Below (w.heap.size + 1) (w.alloc (.cells #[.int .i64 T, .int .i64 N, .slice ra R.length rc] 24)) wr) := hB
    have HW : Hid (RowB wr (w.heap.size + 1) (w.heap.size + 1) N X0) := hrow
    obtain ⟨_, b1, b2⟩ := HBX.out wr hB
    clear hX0 hB hrow
    by_cases hlt : m < N
    · go_wp2_with fail
      clear b1 b2
      go_loopw [5] (fun i wq => ∃ j : Nat, i = .int .i64 j ∧ j ≤ R.length ∧ Below (w.heap.size + 1) (w.alloc (.cells #[.int .i64 T, .int .i64 N, .slice ra R.length rc] 24)) wq ∧ RowB wq (w.heap.size + 1) (w.heap.size + 1) N (loopN j (makesS R) X0))
        (fun i _ => R.length - (intOf i).toNat)
      case atStart => exact ⟨0, rfl, Nat.zero_le _, HB.out, HW.out⟩
      case round =>
        clear HB HW
        obtain ⟨j, rfl, hj, hB, hrow⟩ := hrel
        obtain ⟨X1, hX1⟩ : ∃ X, loopN j (makesS R) X0 = X := ⟨_, rfl⟩
        rw [hX1] at hrow
        have HX1 : Hid (loopN j (makesS R) X0 = X1) := hX1
        have HB : Hid (Below (w.heap.size + 1) (w.alloc (.cells #[.int .i64 T, .int .i64 N, .slice ra R.length rc] 24)) wr) := hB
        have HW : Hid (RowB wr (w.heap.size + 1) (w.heap.size + 1) N X1) := hrow
        obtain ⟨hBw, b1, b2⟩ := HBX.out wr hB
        have HBw : Hid (Below w.heap.size w wr) := hBw
        have hsz : w.heap.size + 1 ≤ wr.heap.size := by have := hB.size; simpa using this
        have HL1 : Hid (X1.length = N) := hrow.len
        clear hX1 hB hrow hBw
        by_cases hjl : j < R.length
        · obtain ⟨b, o, rc', qa, qc, hv, hb, k1, k2, hsy⟩ := (HR.out.below HBw.out).syms hjl
          cases hv
          obtain ⟨f1, f2, f3, f4⟩ := HM.out j hjl
          have hstep : loopN (j + 1) (makesS R) X0 = if allB X1 (R.getD j (0, [])).2 then X1.set (R.getD j (0, [])).1.toNat true else X1 := by rw [loopN, HX1.out, makesS]
          have hall := all3_any (w := wr) HW.out.bools hsy (fun s hs hf => by
            have := f4 s hs
            rw [hf] at this
            rw [HL1.out]
            simpa using this) (by omega)
          obtain ⟨⟨L, Rt⟩, hre⟩ : ∃ x, R.getD j (0, []) = x := ⟨_, rfl⟩
          rw [hre] at k1 k2 f1 f2 f3 hstep hall
          simp only at k1 k2 f1 f2 f3 hstep hall
          obtain ⟨l, rfl⟩ : ∃ l : Nat, L = l := ⟨L.toNat, by omega⟩
          have j0 : (0 : Int) ≤ (j : Int) := Int.natCast_nonneg _
          have j1 : (j : Int) < (R.length : Int) := by omega
          have j2 : (0 : Int) ≤ (l : Int) := Int.natCast_nonneg _
          have j3 : (l : Int) < (N : Int) := by omega
          obtain ⟨c1, c2⟩ := HW.out.cell (m := l) (by omega)
          have HSY : Hid (SymsAt wr (.slice qa (R.getD j (0, [])).2.length qc) (R.getD j (0, [])).2) := hsy
          clear hre f4 f1 f2 hsy
          cases hz : allB X1 Rt with
          | true =>
            rw [hz] at hall hstep
            have HS : Hid (loopN (j + 1) (makesS R) X0 = X1.set l true) := by show loopN (j + 1) (makesS R) X0 = _; rw [hstep]; simp
            clear hz hstep
            go_wp2_with (go_at_call 24; refine hall.mono ?_; rintro e w2 ⟨rfl, rfl⟩)
            go_roundw
            case rel => exact ⟨j + 1, by go_num, by omega, HB.out.setCell (by simp) _, by rw [HS.out]; exact HW.out.set l true⟩
            case measure => simp [intOf]; omega
          | false =>
            rw [hz] at hall hstep
            have HS : Hid (loopN (j + 1) (makesS R) X0 = X1) := by show loopN (j + 1) (makesS R) X0 = _; rw [hstep]; simp
            clear hz hstep
            go_wp2_with (go_at_call 24; refine hall.mono ?_; rintro e w2 ⟨rfl, rfl⟩)
            go_roundw
            case rel => exact ⟨j + 1, by go_num, by omega, HB.out, by rw [HS.out]; exact HW.out⟩
            case measure => simp [intOf]; omega
        · have HD : Hid (loopN (m + 1) (fun _ => loopN R.length (makesS R)) (List.replicate N false) = X1) := by
            show loopN (m + 1) (fun _ => loopN R.length (makesS R)) (List.replicate N false) = X1
            rw [loopN, HX0.out, ← HX1.out, show j = R.length by omega]
          go_wp2_with fail
          go_roundw
          case rel => exact ⟨m + 1, by go_num, by omega, HB.out, by rw [HD.out]; exact HW.out⟩
          case measure => simp [intOf]; omega
    · have HD : Hid (makesA R N = X0) := by
        show makesA R N = X0
        unfold makesA
        rw [← HX0.out, show m = N by omega]
      have HX : Hid (Below w.heap.size w wr) := (HBX.out wr HB.out).1
      go_wp2_with fail
      go_ret
      exact ⟨rfl, HX.out, by rw [HD.out]; exact HW.out⟩

end Go.Proofs.Ytikjekfpgklbdaa

/- The contract of pollardingref3.Comes. -/
namespace Go.Proofs.Ytikjekfpgklbdaa
open Go.RowKit

def nameS (l : List Sy) (k : Nat) (Y : List Bool) : List Bool := if (l.getD k (false, 0)).1 then Y else Y.set (l.getD k (false, 0)).2.toNat true
def comesR (R : List Ru) (Mk : List Bool) (i : Nat) (X : List Bool) : List Bool :=
  if X.getD (R.getD i (0, [])).1.toNat false && allB Mk (R.getD i (0, [])).2 then loopN (R.getD i (0, [])).2.length (nameS (R.getD i (0, [])).2) X else X
def comesA (R : List Ru) (N : Nat) : List Bool := loopN N (fun _ => loopN R.length (comesR R (makesA R N))) ((List.replicate N false).set 0 ((makesA R N).getD 0 false))

/-- Nothing that was there behind Makes has turned; the row is X. -/
def CR (w1 : World) (N : Nat) (X : List Bool) (wr : World) : Prop := Below w1.heap.size w1 wr ∧ RowB wr w1.heap.size w1.heap.size N X

set_option maxRecDepth 100000 in
set_option maxHeartbeats 6400000 in
theorem comes3_any {w : World} {T N : Nat} {rv : Value} {R : List Ru} (hr : RulesAt w w.heap.size rv R) (hm : mayB T N R = true) :
    Calls Try.prog 19 #[.agg #[.int .i64 T, .int .i64 N, rv]] w fun e w' => ∃ g, e = .returned (.slice (some ⟨g, 0, none⟩) N N) ∧ Below w.heap.size w w' ∧ RowB w' w.heap.size g N (comesA R N) := by
  obtain ⟨hT, hN1, hN, hRl, hfine⟩ := may_fine hm
  have HM : Hid (∀ i, i < R.length → 0 ≤ (R.getD i (0, [])).1 ∧ (R.getD i (0, [])).1 < (N : Int) ∧ (R.getD i (0, [])).2.length ≤ 8 ∧
      ∀ s ∈ (R.getD i (0, [])).2, 0 ≤ s.2 ∧ s.2 < if s.1 then (T : Int) else (N : Int)) := hfine
  have HR : Hid (RulesAt w w.heap.size rv R) := hr
  obtain ⟨ra, rc, rfl⟩ := hr.1
  have makes := makes3_any (T := T) (N := N) (hr.boxed (.cells #[.int .i64 T, .int .i64 N, .slice ra R.length rc] 24)) hm
  simp only [World.size_alloc] at makes
  clear hr hm hfine
  have mkN := make_bools N (by omega)
  have hN0 : 0 < N := by omega
  go_enter Try.func19, Try.ntmps19
  go_wp2_with
    (go_at_call 18; refine makes.mono ?_; rintro e w1 ⟨rfl, hB1, hrow1⟩
     have b1 : w1.cell? ⟨w.heap.size, 1, none⟩ = some (.int .i64 N) := (hB1.cell (by simp)).trans (by simp [go_sem])
     have b2 : w1.cell? ⟨w.heap.size, 2, none⟩ = some (.slice ra R.length rc) := (hB1.cell (by simp)).trans (by simp [go_sem])
     have hs1 : w.heap.size + 1 ≤ w1.heap.size := by have := hB1.size; simpa using this
     obtain ⟨c0, _⟩ := hrow1.cell (m := 0) hN0
     have c0l := World.block_lt_of_cell? w1 _ c0
     simp only at c0l
     obtain ⟨x0, hx0⟩ : ∃ x, (makesA R N).getD 0 false = x := ⟨_, rfl⟩
     rw [hx0] at c0
     have HX00 : Hid ((makesA R N).getD 0 false = x0) := hx0
     have d0 : (w1.alloc (.cells (madeCells #[.bool false] N) 4)).cell? ⟨w.heap.size + 1 + 1, 0, none⟩ = some (.bool x0) := by rw [World.cell?_alloc_past _ _ _ c0l]; exact c0
     have hrow2 := row_made w1 (N := N) (by unfold maxLen; omega)
     obtain ⟨e0, e1⟩ := hrow2.cell (m := 0) hN0
     have HBW : Hid (Below w.heap.size w w1) := ((Below.refl _ _).alloc (Nat.le_refl _) _).trans (hB1.mono (by omega))
     have HRow1 : Hid (RowB w1 (w.heap.size + 1 + 1) (w.heap.size + 1 + 1) N (makesA R N)) := hrow1
     have HRow2 : Hid (RowB (w1.alloc (.cells (madeCells #[.bool false] N) 4)) w1.heap.size w1.heap.size N (List.replicate N false)) := hrow2
     clear hB1 hrow1 hrow2 c0 makes hx0)
  clear mkN d0 e0 e1
  have HS : Hid (RowB (w1.alloc (.cells ((madeCells #[.bool false] N).setIfInBounds 0 (.bool x0)) 4)) w1.heap.size w1.heap.size N ((List.replicate N false).set 0 x0)) := row_made_set w1 (by unfold maxLen; omega) 0 x0
  clear HRow2
  have HBX : Hid (∀ wr, Below w1.heap.size w1 wr → Below w.heap.size w wr ∧ wr.cell? ⟨w.heap.size, 1, none⟩ = some (.int .i64 N) ∧ wr.cell? ⟨w.heap.size, 2, none⟩ = some (.slice ra R.length rc) ∧ RowB wr (w.heap.size + 1 + 1) (w.heap.size + 1 + 1) N (makesA R N)) := fun wr hB =>
    ⟨HBW.out.trans (hB.mono (by omega)), (hB.cell (by simp only; omega)).trans b1, (hB.cell (by simp only; omega)).trans b2, HRow1.out.below hB⟩
  clear b1 b2
  go_loopw [5] (fun i wr => ∃ m : Nat, i = .int .i64 m ∧ m ≤ N ∧ CR w1 N (loopN m (fun _ => loopN R.length (comesR R (makesA R N))) ((List.replicate N false).set 0 x0)) wr) (fun i _ => N - (intOf i).toNat)
  case atStart => exact ⟨0, rfl, Nat.zero_le _, (Below.refl _ _).alloc (Nat.le_refl _) _, HS.out⟩
  case round =>
    clear HS
    obtain ⟨m, rfl, hmN, hC⟩ := hrel
    obtain ⟨X0, hX0⟩ : ∃ X, loopN m (fun _ => loopN R.length (comesR R (makesA R N))) ((List.replicate N false).set 0 x0) = X := ⟨_, rfl⟩
    rw [hX0] at hC
    have HX0 : Hid (loopN m (fun _ => loopN R.length (comesR R (makesA R N))) ((List.replicate N false).set 0 x0) = X0) := hX0
    have HC : Hid (CR w1 N X0 wr) := hC
    obtain ⟨_, b1, _, _⟩ := HBX.out wr hC.1
    clear hX0 hC
    by_cases hlt : m < N
    · go_wp2_with fail
      clear b1
      go_loopw [6] (fun i wq => ∃ j : Nat, i = .int .i64 j ∧ j ≤ R.length ∧ CR w1 N (loopN j (comesR R (makesA R N)) X0) wq) (fun i _ => R.length - (intOf i).toNat)
      case atStart => exact ⟨0, rfl, Nat.zero_le _, HC.out⟩
      case round =>
        clear HC
        obtain ⟨j, rfl, hj, hC⟩ := hrel
        obtain ⟨X1, hX1⟩ : ∃ X, loopN j (comesR R (makesA R N)) X0 = X := ⟨_, rfl⟩
        rw [hX1] at hC
        have HX1 : Hid (loopN j (comesR R (makesA R N)) X0 = X1) := hX1
        have HC : Hid (CR w1 N X1 wr) := hC
        obtain ⟨hBw, b1, b2, hmk⟩ := HBX.out wr hC.1
        have hsz : w1.heap.size < wr.heap.size := by
          have h1 := World.block_lt_of_cell? wr _ (hC.2.cell (m := 0) hN0).1
          exact h1
        have HBw : Hid (Below w.heap.size w wr) := hBw
        have HMk : Hid (RowB wr (w.heap.size + 1 + 1) (w.heap.size + 1 + 1) N (makesA R N)) := hmk
        clear hX1 hC hBw hmk
        by_cases hjl : j < R.length
        · obtain ⟨b, o, rc', qa, qc, hv, hb, y1, y2, hsy⟩ := HR.out.syms hjl
          cases hv
          have k1 := (HBw.out.cell (p := ⟨b, o + j * 2, none⟩) hb).trans y1
          have k2 := (HBw.out.cell (p := ⟨b, o + j * 2 + 1, none⟩) hb).trans y2
          clear y1 y2
          obtain ⟨f1, f2, f3, f4⟩ := HM.out j hjl
          have hstep : loopN (j + 1) (comesR R (makesA R N)) X0 = comesR R (makesA R N) j X1 := by rw [loopN, HX1.out]
          have hstep2 : comesR R (makesA R N) j X1 = if X1.getD (R.getD j (0, [])).1.toNat false && allB (makesA R N) (R.getD j (0, [])).2 then loopN (R.getD j (0, [])).2.length (nameS (R.getD j (0, [])).2) X1 else X1 := rfl
          rw [hstep2] at hstep
          clear hstep2
          obtain ⟨⟨L, Rt⟩, hre⟩ : ∃ x, R.getD j (0, []) = x := ⟨_, rfl⟩
          rw [hre] at k1 k2 f1 f2 f3 f4 hstep hsy
          simp only at k1 k2 f1 f2 f3 f4 hstep hsy
          obtain ⟨l, rfl⟩ : ∃ l : Nat, L = l := ⟨L.toNat, by omega⟩
          have j0 : (0 : Int) ≤ (j : Int) := Int.natCast_nonneg _
          have j1 : (j : Int) < (R.length : Int) := by omega
          have j2 : (0 : Int) ≤ (l : Int) := Int.natCast_nonneg _
          have j3 : (l : Int) < (N : Int) := by omega
          have hA : Below wr.heap.size wr (wr.alloc (.cells #[.int .i64 l, .slice qa Rt.length qc] 44)) := (Below.refl _ _).alloc (Nat.le_refl _) _
          have hRA : RowB (wr.alloc (.cells #[.int .i64 l, .slice qa Rt.length qc] 44)) w1.heap.size w1.heap.size N X1 := HC.out.2.below hA
          obtain ⟨c1, _⟩ := hRA.cell (m := l) (by omega)
          have hall := all3_any (w := wr.alloc (.cells #[.int .i64 l, .slice qa Rt.length qc] 44)) (HMk.out.below hA).bools (hsy.same (same_below (HBw.out.alloc HBw.out.size _))) (fun s hs hf => by
            have := f4 s hs
            rw [hf] at this
            rw [HMk.out.len]
            simpa using this) (by omega)
          have HCA : Hid (CR w1 N X1 (wr.alloc (.cells #[.int .i64 l, .slice qa Rt.length qc] 44))) := ⟨HC.out.1.alloc (by omega) _, hRA⟩
          have HSY : Hid (SymsAt w (.slice qa Rt.length qc) Rt) := hsy
          have HF4 : Hid (∀ s ∈ Rt, 0 ≤ s.2 ∧ s.2 < if s.1 then (T : Int) else (N : Int)) := f4
          clear hre f4 f1 f2 hsy hA hRA
          obtain ⟨xl, hxl⟩ : ∃ x, X1.getD l false = x := ⟨_, rfl⟩
          rw [hxl] at c1
          rw [Int.toNat_natCast, hxl] at hstep
          clear hxl
          cases xl with
          | false =>
            have HSt : Hid (loopN (j + 1) (comesR R (makesA R N)) X0 = X1) := by show loopN (j + 1) _ X0 = _; rw [hstep]; simp
            clear hstep hall
            go_wp2_with fail
            go_roundw
            case rel => exact ⟨j + 1, by go_num, by omega, by rw [HSt.out]; exact HCA.out⟩
            case measure => simp [intOf]; omega
          | true =>
            cases hz : allB (makesA R N) Rt with
            | false =>
              rw [hz] at hall hstep
              have HSt : Hid (loopN (j + 1) (comesR R (makesA R N)) X0 = X1) := by show loopN (j + 1) _ X0 = _; rw [hstep]; simp
              clear hz hstep
              go_wp2_with (go_at_call 24; refine hall.mono ?_; rintro e w2 ⟨rfl, rfl⟩)
              go_roundw
              case rel => exact ⟨j + 1, by go_num, by omega, by rw [HSt.out]; exact HCA.out⟩
              case measure => simp [intOf]; omega
            | true =>
              rw [hz] at hall hstep
              have HSt : Hid (loopN (j + 1) (comesR R (makesA R N)) X0 = loopN Rt.length (nameS Rt) X1) := by show loopN (j + 1) _ X0 = _; rw [hstep]; simp
              clear hz hstep
              go_wp2_with (go_at_call 24; refine hall.mono ?_; rintro e w2 ⟨rfl, rfl⟩)
              clear c1 b1 b2 hall
              go_loopw [8] (fun i wq => ∃ k : Nat, i = .int .i64 k ∧ k ≤ Rt.length ∧ CR w1 N (loopN k (nameS Rt) X1) wq ∧ wr.heap.size < wq.heap.size ∧ wq.cell? ⟨wr.heap.size, 1, none⟩ = some (.slice qa Rt.length qc)) (fun i _ => Rt.length - (intOf i).toNat)
              case atStart => exact ⟨0, rfl, Nat.zero_le _, HCA.out, by simp, by simp [go_sem]⟩
              case round =>
                clear HCA HC HBw HMk
                obtain ⟨k, rfl, hk, hC, hsq, q1⟩ := hrel
                obtain ⟨X2, hX2⟩ : ∃ X, loopN k (nameS Rt) X1 = X := ⟨_, rfl⟩
                rw [hX2] at hC
                have HX2 : Hid (loopN k (nameS Rt) X1 = X2) := hX2
                have HC : Hid (CR w1 N X2 wr) := hC
                have HBw : Hid (Below w.heap.size w wr) := (HBX.out wr hC.1).1
                clear hX2 hC
                by_cases hkl : k < Rt.length
                · obtain ⟨b', o', c', hv, z1, z2⟩ := HSY.out.2 k hkl
                  cases hv
                  have hmem : Rt.getD k (false, 0) ∈ Rt := by simp [List.getD, hkl]
                  have hin := HF4.out _ hmem
                  have hstep : loopN (k + 1) (nameS Rt) X1 = if (Rt.getD k (false, 0)).1 then X2 else X2.set (Rt.getD k (false, 0)).2.toNat true := by rw [loopN, HX2.out, nameS]
                  obtain ⟨⟨t, v⟩, hsk⟩ : ∃ x, Rt.getD k (false, 0) = x := ⟨_, rfl⟩
                  rw [hsk] at z1 z2 hin hstep
                  simp only at hin hstep
                  obtain ⟨y, rfl⟩ : ∃ y : Nat, v = y := ⟨v.toNat, by omega⟩
                  have z1' := (HBw.out.cell (p := ⟨b', o' + k * 2, none⟩) (World.block_lt_of_cell? w _ z1)).trans z1
                  have z2' := (HBw.out.cell (p := ⟨b', o' + k * 2 + 1, none⟩) (World.block_lt_of_cell? w _ z2)).trans z2
                  have i0 : (0 : Int) ≤ (k : Int) := Int.natCast_nonneg _
                  have i1 : (k : Int) < (Rt.length : Int) := by omega
                  clear hmem hsk z1 z2
                  cases t with
                  | true =>
                    have HSk : Hid (loopN (k + 1) (nameS Rt) X1 = X2) := by show loopN (k + 1) _ X1 = _; rw [hstep]; simp
                    clear hstep hin
                    go_wp2_with fail
                    go_roundw
                    case rel => exact ⟨k + 1, by go_num, by omega, by rw [HSk.out]; exact HC.out, hsq, q1⟩
                    case measure => simp [intOf]; omega
                  | false =>
                    have hyN : y < N := by simp at hin; omega
                    have HSk : Hid (loopN (k + 1) (nameS Rt) X1 = X2.set y true) := by show loopN (k + 1) _ X1 = _; rw [hstep]; simp
                    obtain ⟨c1, c2⟩ := HC.out.2.cell (m := y) hyN
                    have i2 : (0 : Int) ≤ (y : Int) := Int.natCast_nonneg _
                    have i3 : (y : Int) < (N : Int) := by omega
                    have q2 : (wr.setCell ⟨w1.heap.size, y, none⟩ (.bool true)).cell? _ = _ := (cell_set_other (.inl (by simp only; omega))).trans q1
                    clear hstep hin
                    go_wp2_with fail
                    go_roundw
                    case rel => exact ⟨k + 1, by go_num, by omega, by rw [HSk.out]; exact ⟨HC.out.1.setCell (by simp) _, HC.out.2.set y true⟩, by simpa using hsq, q2⟩
                    case measure => simp [intOf]; omega
                · have HSj : Hid (loopN (j + 1) (comesR R (makesA R N)) X0 = X2) := by
                    show loopN (j + 1) _ X0 = X2
                    rw [HSt.out, ← HX2.out, show k = Rt.length by omega]
                  go_wp2_with fail
                  go_roundw
                  case rel => exact ⟨j + 1, by go_num, by omega, by rw [HSj.out]; exact HC.out⟩
                  case measure => simp [intOf]; omega
        · have HD : Hid (loopN (m + 1) (fun _ => loopN R.length (comesR R (makesA R N))) ((List.replicate N false).set 0 x0) = X1) := by
            show loopN (m + 1) (fun _ => loopN R.length (comesR R (makesA R N))) ((List.replicate N false).set 0 x0) = X1
            rw [loopN, HX0.out, ← HX1.out, show j = R.length by omega]
          go_wp2_with fail
          go_roundw
          case rel => exact ⟨m + 1, by go_num, by omega, by rw [HD.out]; exact HC.out⟩
          case measure => simp [intOf]; omega
    · have HD : Hid (comesA R N = X0) := by
        show comesA R N = X0
        unfold comesA
        rw [HX00.out, ← HX0.out, show m = N by omega]
      have HX : Hid (Below w.heap.size w wr) := (HBX.out wr HC.out.1).1
      go_wp2_with fail
      go_ret
      exact ⟨w1.heap.size, rfl, HX.out, by rw [HD.out]; exact HC.out.2.mono (by omega)⟩

end Go.Proofs.Ytikjekfpgklbdaa

/- Plain: what comes of a step (H1). No program. -/
namespace Go.Proofs.Ytikjekfpgklbdaa

/-- A step: its kind, and its numbers. -/
structure Stp where
  op : Int
  a : Int
  b : Int
  c : Int

/-- A rule begins with its own name. -/
def ownR (r : Ru) : Bool := decide (0 < r.2.length) && !(r.2.getD 0 (false, 0)).1 && decide ((r.2.getD 0 (false, 0)).2 = r.1)
/-- A's rule, one that begins with A. -/
def ownA (a : Int) (r : Ru) : Bool := decide (r.1 = a) && ownR r
/-- SLeft may be done of a name. -/
def leftB (R : List Ru) (a : Int) : Bool := R.any (ownA a) && R.all fun r => !(ownA a r && decide (r.2.length = 1))

/-- H1: a step is one of these. -/
def stepB (N : Int) (R : List Ru) (s : Stp) : Bool :=
  let r := R.getD s.a.toNat (0, [])
  let rule := decide (0 ≤ s.a) && decide (s.a < (R.length : Int))
  if s.op = 1 then decide (1 ≤ s.a) && decide (s.a < N) && decide (1 ≤ s.b) && decide (s.b < N) && decide (s.c = 0)
  else if s.op = 2 then rule && decide (0 ≤ s.b) && decide (s.b < s.c) && decide (s.c ≤ (r.2.length : Int))
  else if s.op = 3 then rule && decide (0 ≤ s.b) && decide (s.b < (r.2.length : Int)) && decide (s.c = 0) && !(r.2.getD s.b.toNat (false, 0)).1 && !decide ((r.2.getD s.b.toNat (false, 0)).2 = r.1)
  else if s.op = 4 then decide (s.b = 0) && decide (s.c = 0) && leftB R s.a
  else if s.op = 5 then decide (s.a = 0) && decide (s.b = 0) && decide (s.c = 0)
  else false

def swapN (a b n : Int) : Int := if n = a then b else if n = b then a else n
def swapS (a b : Int) (x : Sy) : Sy := if x.1 then x else (false, swapN a b x.2)
/-- SPrune: a rule stays. -/
def needB (N : Nat) (R : List Ru) (r : Ru) : Bool := (makesA R N).getD r.1.toNat false && (comesA R N).getD r.1.toNat false && allB (makesA R N) r.2
/-- SInline: the rule that another one makes of r. -/
def inlR (b : Nat) (r x : Ru) : Ru := (r.1, r.2.take b ++ x.2 ++ r.2.drop (b + 1))

/-- What comes in the place of the rule k. -/
def oneR (N : Nat) (R : List Ru) (s : Stp) (k : Nat) : List Ru :=
  let r := R.getD k (0, [])
  if s.op = 1 then [(swapN s.a s.b r.1, r.2.map (swapS s.a s.b))]
  else if s.op = 2 then [if (k : Int) = s.a then (r.1, r.2.take s.b.toNat ++ (false, (N : Int)) :: r.2.drop s.c.toNat) else r]
  else if s.op = 3 then (if (k : Int) = s.a then (R.filter fun x => decide (x.1 = (r.2.getD s.b.toNat (false, 0)).2)).map (inlR s.b.toNat r) else [r])
  else if s.op = 4 then [if r.1 = s.a then (if ownR r then ((N : Int), r.2.drop 1 ++ [(false, (N : Int))]) else (r.1, r.2 ++ [(false, (N : Int))])) else r]
  else if s.op = 5 then (if needB N R r then [r] else [])
  else [r]
/-- The rule more, the last one. -/
def lastR (N : Nat) (R : List Ru) (s : Stp) : List Ru :=
  if s.op = 2 then [((N : Int), ((R.getD s.a.toNat (0, [])).2.take s.c.toNat).drop s.b.toNat)] else if s.op = 4 then [((N : Int), [])] else []
def doR (N : Nat) (R : List Ru) (s : Stp) : List Ru := (List.range R.length).flatMap (oneR N R s) ++ lastR N R s
def doN (N : Nat) (s : Stp) : Nat := if s.op = 2 then N + 1 else if s.op = 4 then N + 1 else N

end Go.Proofs.Ytikjekfpgklbdaa
