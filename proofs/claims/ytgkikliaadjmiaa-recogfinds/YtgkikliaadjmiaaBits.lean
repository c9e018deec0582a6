/- Tables of truths that a call owns, and what a call that may write them alone keeps. No program. -/
import Derived.Test.YtgkikliaadjmiaaOwns
import Derived.StillTailTactics
namespace Go.Proofs.Ytgkikliaadjmiaa
open Go.RowKit

/-- A region that draws its order, whose operations only read but those behind the first n, which can but follow: one walk. -/
theorem wp_region_tail {P : Program} {id : Nat} {Q : Exit → Act → World → Prop} {a : Act} {w : World} {l : List Oper} (n : Nat) (hm : P.follows .mixedOrders = true) (hB : Region.lexTailB .any l.toArray n = true)
    (h : wpStill P l.toArray w.drew (fun a' => wpList P l.toArray Q (l.drop n) a' w.drew) (l.take n) a) : (Code.region id l.toArray true).wp P Q a w := wp_region_still_tail n hm hB h

/-- All blocks that were there but those of K are as they were. -/
structure Kept (K : Nat → Prop) (w w' : World) : Prop where
  os : w'.os = w.os
  tape : w'.tape = w.tape
  output : w'.output = w.output
  size : w.heap.size ≤ w'.heap.size
  block : ∀ k, k < w.heap.size → ¬ K k → w'.heap[k]? = w.heap[k]?

section
variable {K : Nat → Prop} {a w w' : World}

theorem Kept.refl (K : Nat → Prop) (w : World) : Kept K w w := ⟨rfl, rfl, rfl, Nat.le_refl _, fun _ _ _ => rfl⟩
theorem Kept.trans {b c : World} (h : Kept K a b) (k : Kept K b c) : Kept K a c :=
  ⟨k.os.trans h.os, k.tape.trans h.tape, k.output.trans h.output, Nat.le_trans h.size k.size, fun i hi hK => (k.block i (Nat.lt_of_lt_of_le hi h.size) hK).trans (h.block i hi hK)⟩
theorem Kept.drew (h : Kept K a w) : Kept K a w.drew := ⟨h.os, h.tape, h.output, h.size, h.block⟩
theorem Kept.drewN (h : Kept K a w) (n : Nat) : Kept K a (w.drewN n) := ⟨h.os, h.tape, h.output, h.size, h.block⟩
theorem Kept.ofBelow (h : Below w.heap.size w w') : Kept K w w' := ⟨h.os, h.tape, h.output, h.size, fun k hk _ => h.block k hk⟩
theorem Kept.alloc (h : Kept K a w) (o : Obj) : Kept K a (w.alloc o) := h.trans (Kept.ofBelow ((Below.refl _ _).alloc (Nat.le_refl _) o))
theorem Kept.setCell (h : Kept K a w) {p : Addr} (hp : K p.block) (u : Value) : Kept K a (w.setCell p u) :=
  h.trans ⟨rfl, rfl, rfl, by simp [World.setCell], fun k _ hK => Below.heap_setCell _ _ _ _ (fun e => hK (e ▸ hp))⟩
theorem Kept.below (h : Kept K a w) {B : Nat} (hB : ∀ b, K b → B ≤ b) (hs : B ≤ a.heap.size) : Below B a w :=
  ⟨h.os, h.tape, h.output, h.size, fun k hk => h.block k (by omega) (fun e => by have := hB k e; omega)⟩
theorem Kept.cell (h : Kept K w w') {p : Addr} {v : Value} (hp : ¬ K p.block) (hc : w.cell? p = some v) : w'.cell? p = some v :=
  (World.cell?_of_block (w := w) (h.block p.block (World.block_lt_of_cell? w _ hc) hp)).trans hc
end

/-- Where rows of truths lie, and how long they are. -/
structure Tab (ι : Type) where
  V : ι → Value
  dom : ι → Option Nat

section
variable {ι : Type}

def Tab.P (c : Tab ι) (X : ι → List Bool) (i : ι) : Option Row := (c.dom i).map fun n => ⟨c.V i, 4, 1, n, (X i).map Value.bool⟩
def Tab.K (c : Tab ι) (b : Nat) : Prop := ∃ i n, c.dom i = some n ∧ (c.V i).ownBlock = some b
def bit (X : ι → List Bool) (i : ι) (m : Nat) : Bool := (X i).getD m false
def setX [DecidableEq ι] (X : ι → List Bool) (i : ι) (m : Nat) (v : Bool) : ι → List Bool := fun j => if j = i then (X i).set m v else X j

/-- The truths X lie in the rows of c, owned from block B on. -/
def Bt (w : World) (B : Nat) (c : Tab ι) (X : ι → List Bool) : Prop := Owns w B (c.P X)

variable {w : World} {B : Nat} {c : Tab ι} {X : ι → List Bool} {i : ι} {n : Nat}

theorem Tab.P_some (hd : c.dom i = some n) : c.P X i = some ⟨c.V i, 4, 1, n, (X i).map Value.bool⟩ := by simp [Tab.P, hd]
theorem Bt.own (h : Bt w B c X) (hd : c.dom i = some n) : w.ownsRow B 4 1 (c.V i) n ((X i).map Value.bool) := Owns.own h i _ (Tab.P_some hd)
theorem Bt.len (h : Bt w B c X) (hd : c.dom i = some n) : (X i).length = n := by simpa using (h.own hd).1
theorem Bt.slice (h : Bt w B c X) (hd : c.dom i = some n) : ∃ a cap, c.V i = .slice a n cap := own_form (h.own hd)
theorem Bt.form (h : Bt w B c X) (hd : c.dom i = some n) (hn : 0 < n) : ∃ g cap, c.V i = .slice (some ⟨g, 0, none⟩) n cap ∧ B ≤ g ∧ g < w.heap.size := (h.own hd).form hn
theorem Bt.cell (h : Bt w B c X) (hd : c.dom i = some n) {g cap m : Nat} (hv : c.V i = .slice (some ⟨g, 0, none⟩) n cap) (hm : m < n) :
    w.cell? ⟨g, m, none⟩ = some (.bool (bit X i m)) ∧ w.frozen? ⟨g, m, none⟩ = false := by
  have hl := h.len hd
  have ho := h.own hd
  rw [hv] at ho
  refine ⟨?_, ho.frozenAt m⟩
  rw [ho.cellAt m (by omega)]
  simp [bit, List.getD, show m < (X i).length by omega]
theorem Bt.alloc (h : Bt w B c X) (o : Obj) : Bt (w.alloc o) B c X := Owns.alloc h o
theorem Bt.drew (h : Bt w B c X) : Bt w.drew B c X := Owns.drew h
theorem Bt.drewN (h : Bt w B c X) (n : Nat) : Bt (w.drewN n) B c X := Owns.drewN h n
theorem Bt.below (h : Bt w B c X) {w' : World} (hb : Below w.heap.size w w') : Bt w' B c X := Owns.below h hb (Nat.le_refl _)
theorem Bt.ge (h : Bt w B c X) {b : Nat} (hK : c.K b) : B ≤ b := by
  obtain ⟨i, n, hd, hb⟩ := hK
  exact ((h.own hd).lt b hb).1
theorem Bt.lt (h : Bt w B c X) {b : Nat} (hK : c.K b) : b < w.heap.size := by
  obtain ⟨i, n, hd, hb⟩ := hK
  exact ((h.own hd).lt b hb).2
theorem Bt.apart (h : Bt w B c X) {j : ι} {k : Nat} (hij : i ≠ j) (hd : c.dom i = some n) (hd' : c.dom j = some k) {g g' cap cap' : Nat} (hv : c.V i = .slice (some ⟨g, 0, none⟩) n cap) (hv' : c.V j = .slice (some ⟨g', 0, none⟩) k cap') : g ≠ g' := fun e =>
  Owns.apart h i j _ _ hij (Tab.P_some hd) (Tab.P_some hd') g (by rw [hv]; rfl) (by rw [hv', e]; rfl)

variable [DecidableEq ι]

theorem Bt.set (h : Bt w B c X) (hd : c.dom i = some n) {g cap : Nat} (hv : c.V i = .slice (some ⟨g, 0, none⟩) n cap) (m : Nat) (v : Bool) : Bt (w.setCell ⟨g, m, none⟩ (.bool v)) B c (setX X i m v) := by
  have := Owns.store h (i := i) (g := g) (n := n) (cap := cap) (e := 4) (size := 1) (xs := (X i).map Value.bool) (by rw [Tab.P_some hd, hv]) m (.bool v)
  have e : upd (c.P X) i ⟨.slice (some ⟨g, 0, none⟩) n cap, 4, 1, n, ((X i).map Value.bool).set m (.bool v)⟩ = c.P (setX X i m v) := by
    funext j
    by_cases hj : j = i
    · subst hj
      simp [upd, Tab.P, hd, setX, hv, List.map_set]
    · simp [upd, Tab.P, setX, hj]
  show Owns _ _ _
  rwa [e] at this

end

end Go.Proofs.Ytgkikliaadjmiaa
