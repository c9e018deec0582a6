import Derived.Test.YtobegekmgoiopaaTkCellsAndHeldSeq
import Derived.Test.YtobegekmgoiopaaTkFl
/- The contract of package table's table. -/
namespace Go.Proofs.Ytobegekmgoiopaa
open Go.RowKit

def joinP {ι κ : Type} (kf : ι → Option κ) (P : ι → Option Row) (Q : κ → Option Row) (i : ι) : Option Row := match kf i with | some j => Q j | none => P i
/-- Rows that were made since then, beside those that were there. -/
theorem Owns.join {ι κ : Type} {w w' : World} {B : Nat} {P : ι → Option Row} {Q : κ → Option Row} (h : Owns w B P) (hb : Below w.heap.size w w') (hQ : Owns w' w.heap.size Q) (hB : B ≤ w.heap.size) (kf : ι → Option κ) (inj : ∀ i i' j, kf i = some j → kf i' = some j → i = i') :
    Owns w' B (joinP kf P Q) := by
  have hP := h.below hb (Nat.le_refl _)
  refine ⟨fun i r hr => ?_, fun i i' a b hne ha hb' g h1 h2 => ?_⟩
  · cases hk : kf i with
    | some j => simp only [joinP, hk] at hr; exact own_mono (hQ.own j r hr) hB
    | none => simp only [joinP, hk] at hr; exact hP.own i r hr
  · cases hk : kf i with
    | some j =>
      simp only [joinP, hk] at ha
      cases hk' : kf i' with
      | some j' =>
        simp only [joinP, hk'] at hb'
        exact hQ.apart j j' a b (fun e => hne (inj i i' j hk (by rw [e]; exact hk'))) ha hb' g h1 h2
      | none =>
        simp only [joinP, hk'] at hb'
        have := (hQ.lt ha h1).1
        have := (h.lt hb' h2).2
        omega
    | none =>
      simp only [joinP, hk] at ha
      cases hk' : kf i' with
      | some j' =>
        simp only [joinP, hk'] at hb'
        have := (hQ.lt hb' h2).1
        have := (h.lt ha h1).2
        omega
      | none =>
        simp only [joinP, hk'] at hb'
        exact h.apart i i' a b hne ha hb' g h1 h2

inductive Tz where
  | cs
  | gs
  | cell (k : Nat) (i : CxI)
  | gr (k : Nat)
  deriving DecidableEq

/-- Where a table lies while it is made. -/
structure TzV where
  cv : Value
  gv : Value
  cg : Nat → Nat
  vr : Nat → Nat → Value
  gg : Nat → Nat

/-- K1, K2: how long the two great rows are; Kc, Kg: how many rows there are. -/
def PZ (M N : Nat) (f : Nat → Nat → Ce) (g : Nat → List Int) (t : TzV) (K1 Kc K2 Kg : Nat) : Tz → Option Row
  | .cs => some ⟨t.cv, 98, 1, K1, (List.range K1).map fun k => .slice (some ⟨t.cg k, 0, none⟩) M M⟩
  | .gs => some ⟨t.gv, 25, 1, K2, (List.range K2).map fun k => .slice (some ⟨t.gg k, 0, none⟩) N N⟩
  | .cell k i => if k < Kc then Pcl (t.cg k) (t.vr k) (f k) M i else none
  | .gr k => if k < Kg then some ⟨.slice (some ⟨t.gg k, 0, none⟩) N N, 3, 1, N, (g k).map (Value.int .i64)⟩ else none

section
variable {w w' : World} {B M N : Nat} {f : Nat → Nat → Ce} {g : Nat → List Int} {t : TzV} {K1 Kc K2 Kg : Nat}

def TzV.addC (t : TzV) (k : Nat) (cg : Nat) (vr : Nat → Value) : TzV := { t with cg := updF t.cg k cg, vr := updF t.vr k vr }
def TzV.addG (t : TzV) (k : Nat) (gg : Nat) : TzV := { t with gg := updF t.gg k gg }

theorem range_upd {K : Nat} {h : Nat → Nat} {x : Nat} {F : Nat → Value} : ((List.range K).map fun k => F (updF h K x k)) = (List.range K).map fun k => F (h k) := List.map_congr_left fun k hk => by
  have := List.mem_range.1 hk
  simp [updF, show k ≠ K by omega]

def kfC (K : Nat) : Tz → Option CxI
  | .cell k i => if k = K then some i else none
  | _ => none
def kfG (K : Nat) : Tz → Option Unit
  | .gr k => if k = K then some () else none
  | _ => none

/-- A state's cells are made. -/
theorem pz_cells (h : Owns w B (PZ M N f g t K1 K1 K2 Kg)) (hb : Below w.heap.size w w') (hB : B ≤ w.heap.size) {cg : Nat} {vr : Nat → Value} (hQ : Owns w' w.heap.size (Pcl cg vr (f K1) M)) : Owns w' B (PZ M N f g (t.addC K1 cg vr) K1 (K1 + 1) K2 Kg) := by
  have := h.join hb hQ hB (kfC K1) (fun i i' j h1 h2 => by
    cases i <;> cases i' <;> simp [kfC] at h1 h2
    rename_i k1 i1 k2 i2
    obtain ⟨rfl, rfl⟩ := h1
    obtain ⟨rfl, rfl⟩ := h2
    rfl)
  have e : joinP (kfC K1) (PZ M N f g t K1 K1 K2 Kg) (Pcl cg vr (f K1) M) = PZ M N f g (t.addC K1 cg vr) K1 (K1 + 1) K2 Kg := by
    funext i
    cases i with
    | cs => simp only [joinP, kfC, PZ, TzV.addC]; rw [range_upd (F := fun x => .slice (some ⟨x, 0, none⟩) M M)]
    | gs => rfl
    | gr k => rfl
    | cell k i =>
      simp only [joinP, kfC, PZ, TzV.addC]
      by_cases hk : k = K1
      · subst hk; simp [updF]
      · rw [if_neg hk]
        simp only [updF, if_neg hk]
        by_cases h2 : k < K1
        · rw [if_pos h2, if_pos (by omega)]
        · rw [if_neg h2, if_neg (by omega)]
  rwa [e] at this

/-- Where names go on is made. -/
theorem pz_gotos (h : Owns w B (PZ M N f g t K1 Kc K2 K2)) (hb : Below w.heap.size w w') (hB : B ≤ w.heap.size) {gg : Nat} (hQ : RowI w' w.heap.size gg N (g K2)) : Owns w' B (PZ M N f g (t.addG K2 gg) K1 Kc K2 (K2 + 1)) := by
  have hQ' : Owns w' w.heap.size (fun _ : Unit => some ⟨.slice (some ⟨gg, 0, none⟩) N N, 3, 1, N, (g K2).map (Value.int .i64)⟩) :=
    ⟨fun i r hr => by simp only [Option.some.injEq] at hr; subst hr; exact hQ, fun i j a b hij => absurd rfl hij⟩
  have := h.join hb hQ' hB (kfG K2) (fun i i' j h1 h2 => by
    cases i <;> cases i' <;> simp [kfG] at h1 h2
    rw [h1, h2])
  have e : joinP (kfG K2) (PZ M N f g t K1 Kc K2 K2) (fun _ : Unit => some ⟨.slice (some ⟨gg, 0, none⟩) N N, 3, 1, N, (g K2).map (Value.int .i64)⟩) = PZ M N f g (t.addG K2 gg) K1 Kc K2 (K2 + 1) := by
    funext i
    cases i with
    | cs => rfl
    | gs => simp only [joinP, kfG, PZ, TzV.addG]; rw [range_upd (F := fun x => .slice (some ⟨x, 0, none⟩) N N)]
    | cell k i => rfl
    | gr k =>
      simp only [joinP, kfG, PZ, TzV.addG]
      by_cases hk : k = K2
      · subst hk; simp [updF]
      · rw [if_neg hk]
        simp only [updF, if_neg hk]
        by_cases h2 : k < K2
        · rw [if_pos h2, if_pos (by omega)]
        · rw [if_neg h2, if_neg (by omega)]
  rwa [e] at this

theorem pz_csTurn (h : Owns w B (PZ M N f g t K1 Kc K2 Kg)) {nv : Value} (hg : w.grownBy w' t.cv.ownBlock) (ho : w'.ownsRow B 98 1 nv (K1 + 1) (((List.range K1).map fun k => .slice (some ⟨t.cg k, 0, none⟩) M M) ++ [.slice (some ⟨t.cg K1, 0, none⟩) M M])) (hat : ∀ g, nv.ownBlock = some g → t.cv.ownBlock = some g ∨ g = w.heap.size) : Owns w' B (PZ M N f g { t with cv := nv } (K1 + 1) Kc K2 Kg) := by
  have h1 := h.turn (i := .cs) (r' := ⟨nv, 98, 1, K1 + 1, ((List.range K1).map fun k => .slice (some ⟨t.cg k, 0, none⟩) M M) ++ [.slice (some ⟨t.cg K1, 0, none⟩) M M]⟩) rfl hg ho hat
  have e : upd (PZ M N f g t K1 Kc K2 Kg) .cs ⟨nv, 98, 1, K1 + 1, ((List.range K1).map fun k => .slice (some ⟨t.cg k, 0, none⟩) M M) ++ [.slice (some ⟨t.cg K1, 0, none⟩) M M]⟩ = PZ M N f g { t with cv := nv } (K1 + 1) Kc K2 Kg := by
    funext i
    cases i with
    | cs => simp only [upd, PZ, if_true]; rw [List.range_succ, List.map_append]; rfl
    | _ => simp [upd, PZ]
  rwa [e] at h1
theorem pz_gsTurn (h : Owns w B (PZ M N f g t K1 Kc K2 Kg)) {nv : Value} (hg : w.grownBy w' t.gv.ownBlock) (ho : w'.ownsRow B 25 1 nv (K2 + 1) (((List.range K2).map fun k => .slice (some ⟨t.gg k, 0, none⟩) N N) ++ [.slice (some ⟨t.gg K2, 0, none⟩) N N])) (hat : ∀ g, nv.ownBlock = some g → t.gv.ownBlock = some g ∨ g = w.heap.size) : Owns w' B (PZ M N f g { t with gv := nv } K1 Kc (K2 + 1) Kg) := by
  have h1 := h.turn (i := .gs) (r' := ⟨nv, 25, 1, K2 + 1, ((List.range K2).map fun k => .slice (some ⟨t.gg k, 0, none⟩) N N) ++ [.slice (some ⟨t.gg K2, 0, none⟩) N N]⟩) rfl hg ho hat
  have e : upd (PZ M N f g t K1 Kc K2 Kg) .gs ⟨nv, 25, 1, K2 + 1, ((List.range K2).map fun k => .slice (some ⟨t.gg k, 0, none⟩) N N) ++ [.slice (some ⟨t.gg K2, 0, none⟩) N N]⟩ = PZ M N f g { t with gv := nv } K1 Kc (K2 + 1) Kg := by
    funext i
    cases i with
    | gs => simp only [upd, PZ, if_true]; rw [List.range_succ, List.map_append]; rfl
    | _ => simp [upd, PZ]
  rwa [e] at h1

theorem pz_start (w : World) (B : Nat) {t : TzV} (h1 : t.cv = .slice none 0 0) (h2 : t.gv = .slice none 0 0) : Owns w B (PZ M N f g t 0 0 0 0) := by
  refine ⟨fun i r hr => ?_, fun i j a b hij ha hb x h3 h4 => ?_⟩
  · cases i with
    | cs => simp only [PZ, Option.some.injEq] at hr; subst hr; rw [h1]; exact World.ownsRow_nil _ _ _ _
    | gs => simp only [PZ, Option.some.injEq] at hr; subst hr; rw [h2]; exact World.ownsRow_nil _ _ _ _
    | cell k i => simp [PZ] at hr
    | gr k => simp [PZ] at hr
  · cases i with
    | cs => simp only [PZ, Option.some.injEq] at ha; subst ha; rw [h1] at h3; cases h3
    | gs => simp only [PZ, Option.some.injEq] at ha; subst ha; rw [h2] at h3; cases h3
    | cell k i => simp [PZ] at ha
    | gr k => simp [PZ] at ha

/-- What is whole can be read. -/
theorem pz_tab {K : Nat} (h : Owns w B (PZ M N f g t K K K K)) : TabAt w t.cv t.gv ((List.range K).map fun k => (List.range M).map (f k)) ((List.range K).map g) := by
  refine ⟨?_, ?_⟩
  · have hh : w.ownsRow B 98 1 t.cv K ((List.range K).map fun k => .slice (some ⟨t.cg k, 0, none⟩) M M) := h.own .cs _ rfl
    obtain ⟨a, c, hv⟩ := own_form hh
    refine ⟨⟨a, c, by simpa using hv⟩, fun i hi => ?_⟩
    have hi' : i < K := by simpa using hi
    obtain ⟨g1, cap, hv2, _, _⟩ := hh.form (by omega)
    rw [hv2] at hh
    have e1 : ((List.range K).map fun k => (List.range M).map (f k)).getD i [] = (List.range M).map (f i) := by simp [List.getD, hi']
    refine ⟨g1, 0, cap, .slice (some ⟨t.cg i, 0, none⟩) M M, by simpa using hv2, by rw [Nat.zero_add, hh.cellAt i (by omega)]; simp [hi'], ?_⟩
    rw [e1]
    refine ⟨⟨some ⟨t.cg i, 0, none⟩, M, by simp⟩, fun n hn => ?_⟩
    have hn' : n < M := by simpa using hn
    have hP : Owns w B (Pcl (t.cg i) (t.vr i) (f i) M) := ⟨fun j r hr => h.own (.cell i j) r (by simp [PZ, hi', hr]), fun j j' a b hne ha hb => h.apart (.cell i j) (.cell i j') a b (fun e => hne (by cases e; rfl)) (by simp [PZ, hi', ha]) (by simp [PZ, hi', hb])⟩
    obtain ⟨c0, c1, c2, _, _, _⟩ := pcl_cell hP hn'
    have e2 : ((List.range M).map (f i)).getD n (0, [], false) = f i n := by simp [List.getD, hn']
    rw [e2]
    exact ⟨t.cg i, 0, M, t.vr i n, by simp, by rw [Nat.zero_add]; exact c0, by rw [Nat.zero_add]; exact c1, own_list (pcl_rules hP hn'), by rw [Nat.zero_add]; exact c2⟩
  · have hh : w.ownsRow B 25 1 t.gv K ((List.range K).map fun k => .slice (some ⟨t.gg k, 0, none⟩) N N) := h.own .gs _ rfl
    obtain ⟨a, c, hv⟩ := own_form hh
    refine ⟨⟨a, c, by simpa using hv⟩, fun i hi => ?_⟩
    have hi' : i < K := by simpa using hi
    obtain ⟨g1, cap, hv2, _, _⟩ := hh.form (by omega)
    rw [hv2] at hh
    have e1 : ((List.range K).map g).getD i [] = g i := by simp [List.getD, hi']
    refine ⟨g1, 0, cap, .slice (some ⟨t.gg i, 0, none⟩) N N, by simpa using hv2, by rw [Nat.zero_add, hh.cellAt i (by omega)]; simp [hi'], ?_⟩
    rw [e1]
    exact own_list (n := N) (h.own (.gr i) ⟨.slice (some ⟨t.gg i, 0, none⟩) N N, 3, 1, N, (g i).map (Value.int .i64)⟩ (by simp [PZ, hi']))
end

/-- The table's variable, and the result's. -/
structure TbM (w wr : World) (t : TzV) : Prop where
  c0 : wr.cell? ⟨w.heap.size + 1, 0, none⟩ = some t.cv
  c1 : wr.cell? ⟨w.heap.size + 1, 1, none⟩ = some t.gv
  cf : ∀ o, wr.frozen? ⟨w.heap.size + 1, o, none⟩ = false
  r0 : wr.cell? ⟨w.heap.size, 0, none⟩ = some (.slice none 0 0)
  r1 : wr.cell? ⟨w.heap.size, 1, none⟩ = some (.slice none 0 0)
  rf : ∀ o, wr.frozen? ⟨w.heap.size, o, none⟩ = false
  sz : w.heap.size + 2 ≤ wr.heap.size
theorem TbM.below {w wr w' : World} {t : TzV} (h : TbM w wr t) {B : Nat} (hb : Below B wr w') (hB : w.heap.size + 2 ≤ B) : TbM w w' t :=
  ⟨(hb.cell (by simp only; omega)).trans h.c0, (hb.cell (by simp only; omega)).trans h.c1, fun o => (hb.frozen (by simp only; omega)).trans (h.cf o), (hb.cell (by simp only; omega)).trans h.r0, (hb.cell (by simp only; omega)).trans h.r1, fun o => (hb.frozen (by simp only; omega)).trans (h.rf o), Nat.le_trans h.sz hb.size⟩
theorem TbM.set0 {w wr : World} {t : TzV} (h : TbM w wr t) (x : Value) : TbM w (wr.setCell ⟨w.heap.size + 1, 0, none⟩ x) { t with cv := x } :=
  ⟨World.cell?_setCell_same _ _ _ h.c0, (World.cell?_setCell_other _ _ _ _ (by simp)).trans h.c1, fun o => (World.frozen?_setCell _ _ _ _).trans (h.cf o), (World.cell?_setCell_other _ _ _ _ (by simp)).trans h.r0, (World.cell?_setCell_other _ _ _ _ (by simp)).trans h.r1, fun o => (World.frozen?_setCell _ _ _ _).trans (h.rf o), by have := h.sz; simpa using this⟩
theorem TbM.set1 {w wr : World} {t : TzV} (h : TbM w wr t) (x : Value) : TbM w (wr.setCell ⟨w.heap.size + 1, 1, none⟩ x) { t with gv := x } :=
  ⟨(World.cell?_setCell_other _ _ _ _ (by simp)).trans h.c0, World.cell?_setCell_same _ _ _ h.c1, fun o => (World.frozen?_setCell _ _ _ _).trans (h.cf o), (World.cell?_setCell_other _ _ _ _ (by simp)).trans h.r0, (World.cell?_setCell_other _ _ _ _ (by simp)).trans h.r1, fun o => (World.frozen?_setCell _ _ _ _).trans (h.rf o), by have := h.sz; simpa using this⟩

theorem StillI.consL {P : Program} {ops : Array Oper} {S : World → Prop} {K : Act → Prop} {i : Nat} {o : Oper} {l : List Nat} {a : Act} {v : Value} (ho : ops.toList[i]? = some o) (hw : Region.wanted o (yielded ops a.tmps) = true) (hy : ∀ w, S w → (execOp a.eval o).run P w = .ok (.value v) w) (h : StillI P ops S K l (a.put o.dst v)) : StillI P ops S K (i :: l) a :=
  StillI.cons (by simpa using ho) hw hy h
theorem TailI.consL {P : Program} {ops : Array Oper} {Q : Exit → Act → World → Prop} {S : World → Prop} {n k : Nat} {o : Oper} {l : List Nat} {a : Act} {w : World} (ho : ops.toList[k]? = some o) (h : ∀ K : Act → World → Prop, Shut (∀ a w, (k < n → S w) → TailI P ops Q S n l a w → K a w) → if Region.wanted o (yielded ops a.tmps) = true then Oper.wp P o a w K Q else K (a.put o.dst undef) w) : TailI P ops Q S n (k :: l) a w :=
  TailI.cons (by simpa using ho) h

theorem Try.infoCeS : (Try.prog.info? 98).map (fun i => (i.zero, i.size, i.bytes)) = some (some (.slice none 0 0), 1, 24) := by kernel_rfl
theorem Try.infoIntS : (Try.prog.info? 25).map (fun i => (i.zero, i.size, i.bytes)) = some (some (.slice none 0 0), 1, 24) := by kernel_rfl

set_option maxRecDepth 100000 in
set_option maxHeartbeats 6400000 in
theorem tk_table {w0 w : World} {d : TkA} {v : TkV} {G : Wy → Option Value} {ng : Nat} {st : LS} {R : List Ru} {Nu : List Bool} {Fi : List (List Bool)} {Ls : List SetI} {ZT ZN : Nat → Nat → Int} (E : TkE w0 d R Nu Fi) (h : TkM w0 w d v G ng st) (hS : SDk R v.OL Ls) (few : v.OL.length ≤ 150) (hng : ng ≤ 10000000) (hc : st.c ≤ 10000000) (hlk : ∀ s, st.lk s < 512)
    (hZ : ∀ k, k < v.OL.length → ∀ n, n ≤ d.T → Says G (k, (true, (n : Int))) (ZT k n)) (hZN : ∀ k, k < v.OL.length → ∀ n, n < d.N → Says G (k, (false, (n : Int))) (ZN k n)) :
    Calls Try.prog 33 #[.pointer (some ⟨d.ma, 0, none⟩)] w fun e w' => ∃ cv gv, e = .returned (.agg #[cv, gv]) ∧ (∀ w'' : World, (∀ b, w.heap.size ≤ b → b < w'.heap.size → w''.heap[b]? = w'.heap[b]?) → TabAt w'' cv gv ((List.range v.OL.length).map fun k => (List.range (d.T + 1)).map fun n => cellG R st.lk k n (v.OL.getD k []) (ZT k n, [], false)) ((List.range v.OL.length).map fun k => (List.range d.N).map (ZN k))) ∧ Below w.heap.size w w' := by
  obtain ⟨M, hM9⟩ : ∃ M, d.T + 1 = M := ⟨_, rfl⟩
  obtain ⟨f, hf⟩ : ∃ f : Nat → Nat → Ce, f = fun k n => cellG R st.lk k n (v.OL.getD k []) (ZT k n, [], false) := ⟨_, rfl⟩
  obtain ⟨g, hg⟩ : ∃ g : Nat → List Int, g = fun k => (List.range d.N).map (ZN k) := ⟨_, rfl⟩
  have HPost : Hid (∀ (w' : World) (cv gv : Value), TabAt w' cv gv ((List.range v.OL.length).map fun k => (List.range M).map (f k)) ((List.range v.OL.length).map g) → TabAt w' cv gv ((List.range v.OL.length).map fun k => (List.range (d.T + 1)).map fun n => cellG R st.lk k n (v.OL.getD k []) (ZT k n, [], false)) ((List.range v.OL.length).map fun k => (List.range d.N).map (ZN k))) := fun w' cv gv ht => by rw [hM9, ← hg]; rw [hf] at ht; exact ht
  -- the two calls, in whatever world
  have HCells : Hid (∀ (wx : World) (k : Nat), TkM w0 wx d v G ng st → k < v.OL.length → Calls Try.prog 56 #[.pointer (some ⟨d.ma, 0, none⟩), .int .i64 k] wx fun e w' => ∃ cg vr, e = .returned (.slice (some ⟨cg, 0, none⟩) M M) ∧ Owns w' wx.heap.size (Pcl cg vr (f k) M) ∧ Below wx.heap.size wx w') := fun wx k hx hk => by
    have := tk_cells E hx hS hk few hng hc hlk (hZ k hk)
    rw [hM9] at this
    rw [hf]
    exact this
  have HGotos : Hid (∀ (wx : World) (k : Nat), TkM w0 wx d v G ng st → k < v.OL.length → Calls Try.prog 57 #[.pointer (some ⟨d.ma, 0, none⟩), .int .i64 k] wx fun e w' => ∃ gg, e = .returned (.slice (some ⟨gg, 0, none⟩) d.N d.N) ∧ RowI w' wx.heap.size gg d.N (g k) ∧ Below wx.heap.size wx w') := fun wx k hx hk => by
    have := tk_gotos hx E.hN.2 E.hN.1 (by omega) hng (hZN k hk)
    rw [hg]
    exact this
  have HM : Hid (TkM w0 w d v G ng st) := h
  have hM2 := (h.alloc (.cells #[.slice none 0 0, .slice none 0 0] 41)).alloc (.cells #[.slice none 0 0, .slice none 0 0] 41)
  have c6 := (hM2.cell (i := 6) rfl (by omega)).1
  obtain ⟨sa, sc, hsv⟩ := h.states
  rw [hsv] at c6
  have HB0 : Hid (Below w.heap.size w ((w.alloc (.cells #[.slice none 0 0, .slice none 0 0] 41)).alloc (.cells #[.slice none 0 0, .slice none 0 0] 41))) := ((Below.refl _ _).alloc (Nat.le_refl _) _).alloc (by simp) _
  have HT0 : Hid (TbM w ((w.alloc (.cells #[.slice none 0 0, .slice none 0 0] 41)).alloc (.cells #[.slice none 0 0, .slice none 0 0] 41)) ⟨.slice none 0 0, .slice none 0 0, fun _ => 0, fun _ _ => .slice none 0 0, fun _ => 0⟩) := by
    refine ⟨?_, ?_, fun o => ?_, ?_, ?_, fun o => ?_, ?_⟩ <;> simp [go_sem]
  obtain ⟨K, hK⟩ : ∃ K, v.OL.length = K := ⟨_, rfl⟩
  rw [hK] at c6 HPost HCells HGotos few
  have hKo := hK
  clear E h hS hZ hZN hlk hM2 hsv hM9 hf hg hK
  go_enter Try.func33, Try.ntmps33
  go_wp2_with fail
  clear c6
  generalize (w.alloc (.cells #[.slice none 0 0, .slice none 0 0] 41)).alloc (.cells #[.slice none 0 0, .slice none 0 0] 41) = W0 at HB0 HT0 ⊢
  go_loopw [10] (fun s10 wr => ∃ (k : Nat) (t : TzV), s10 = .int .i64 k ∧ k ≤ K ∧ Owns wr (w.heap.size + 2) (PZ M d.N f g t k k k k) ∧ TbM w wr t ∧ Below w.heap.size w wr) (fun s _ => K - (intOf s).toNat)
  case atStart => exact ⟨0, _, rfl, Nat.zero_le _, pz_start _ _ rfl rfl, HT0.out, HB0.out⟩
  case round =>
    clear HT0 HB0
    obtain ⟨k, t, rfl, hk, hO, hT, hB⟩ := hrel
    have HO : Hid (Owns wr (w.heap.size + 2) (PZ M d.N f g t k k k k)) := hO
    have HT : Hid (TbM w wr t) := hT
    have HB : Hid (Below w.heap.size w wr) := hB
    by_cases hlt : k < K
    · have cel := HCells.out wr.drew k (HM.out.below hB).drew hlt
      have c0 := hT.c0
      obtain ⟨ca, cc, hcv⟩ := hO.slice (i := .cs) rfl
      simp only at hcv
      rw [hcv] at c0
      have HCV : Hid (t.cv = .slice ca k cc) := hcv
      obtain ⟨i5, hi0, hz0, hz1, hz2⟩ := info_parts Try.infoCeS
      have hn1 : k + 1 ≤ maxLen := by unfold maxLen; omega
      have hn2 : (k + 1) * 24 ≤ 140737488355328 := by omega
      clear hO hT hB hcv
      go_wp2_with fail
      refine wp_region_held_seq [0, 1, 2, 3] [4, 5, 6, 7, 8] 8 (fun w' => w'.cell? ⟨w.heap.size + 1, 0, none⟩ = some (.slice ca k cc)) (by kernel_rfl) (by kernel_rfl) c0 ?_
      iterate 4
        refine StillI.consL (v := ?_) rfl (by rfl) ?_ ?_
        rotate_left
        · intro w' hSw
          go_simp
          try with_reducible rfl
        simp only [Act.put, List.setIfInBounds_toArray, List.set_cons_zero, List.set_cons_succ]
      rw [StillI]
      refine TailI.consL rfl (fun K hK => ?_)
      go_simp
      refine cel.mono ?_
      rintro e w5 ⟨cg, vr, rfl, hO5, hB5⟩
      dsimp only
      have hT5 := HT.out.below ((Below.refl _ _).drew.trans hB5) HT.out.sz
      have hP5 := pz_cells HO.out.drew (show Below wr.drew.heap.size wr.drew w5 from hB5) HT.out.sz hO5
      have hB5' : Below w.heap.size w w5 := HB.out.trans ((show Below wr.heap.size wr w5 from (Below.refl _ _).drew.trans hB5).mono (by have := HT.out.sz; omega))
      have c5 := hT5.c0
      rw [HCV.out] at c5
      refine hK.out _ _ (fun _ => c5) ?_
      clear hK cel hO5 hB5 HO HT HB c0
      obtain ⟨W6, hW6⟩ : ∃ W, W = w5.alloc (.cells #[.slice (some ⟨cg, 0, none⟩) M M] 98) := ⟨_, rfl⟩
      have hP6 := hP5.alloc (.cells #[.slice (some ⟨cg, 0, none⟩) M M] 98)
      have hb6 : Below w5.heap.size w5 (w5.alloc (.cells #[.slice (some ⟨cg, 0, none⟩) M M] 98)) := (Below.refl _ _).alloc (Nat.le_refl _) _
      have hT6 := hT5.below hb6 hT5.sz
      have c6 := hT6.c0
      have f6 := hT6.cf 0
      have hsz5 := hT5.sz
      rw [HCV.out] at c6
      have own4 : (w5.alloc (.cells #[.slice (some ⟨cg, 0, none⟩) M M] 98)).ownsRow (w.heap.size + 2) 98 1 (.slice ca k cc) k ((List.range k).map fun j => .slice (some ⟨updF t.cg k cg j, 0, none⟩) M M) := by
        have := hP6.own .cs _ rfl
        simp only [TzV.addC, HCV.out] at this
        exact this
      have hne : some (w.heap.size + 1) ≠ (Value.slice ca k cc).ownBlock := fun e1 => by have := (own4.lt _ e1.symm).1; omega
      have hnw5 := World.news_of_block (cs := #[.slice (some ⟨cg, 0, none⟩) M M]) (t := 98) (fr := (0, 0)) (heap_alloc_new w5 (.cells #[.slice (some ⟨cg, 0, none⟩) M M] 98))
      have hs6 : (w5.alloc (.cells #[.slice (some ⟨cg, 0, none⟩) M M] 98)).heap.size = w5.heap.size + 1 := by simp
      have hB6 : Below w.heap.size w (w5.alloc (.cells #[.slice (some ⟨cg, 0, none⟩) M M] 98)) := hB5'.alloc (by omega) _
      refine TailI.consL rfl (fun K hK => ?_)
      go_simp
      rw [← hW6] at hP6 hb6 hT6 c6 f6 own4 hnw5 hs6 hB6 ⊢
      refine hK.out _ _ (fun _ => c6) ?_
      clear hK hP5 hT5 hB5' c5
      refine TailI.consL rfl (fun K hK => ?_)
      refine step_append_lies _ rfl _ _ _ rfl (w.heap.size + 2) 98 i5 _ 1 24 Try.underlying38 hi0 hz0 hz1 hz2 rfl (by omega) (.slice ca k cc) k ((List.range k).map fun j => .slice (some ⟨updF t.cg k cg j, 0, none⟩) M M) rfl own4 ⟨w5.heap.size, 0, none⟩ 1 1 [.slice (some ⟨cg, 0, none⟩) M M] rfl rfl hnw5 (by simp [Value.oneCell']) (by omega) hn1 hn2 (by omega) (w5.heap.size + 1) hs6 ?_
      intro g7 cap7 w7 hown7 hgrow7 hat7 hlt7
      have c7 := (hgrow7.cell_far ⟨w.heap.size + 1, 0, none⟩ (by simp; omega) hne).trans c6
      have f7 := (hgrow7.frozen_far ⟨w.heap.size + 1, 0, none⟩ (by simp; omega) hne).trans f6
      have hO7 : Owns w7 (w.heap.size + 2) (PZ M d.N f g { (t.addC k cg vr) with cv := .slice (some ⟨g7, 0, none⟩) (k + 1) cap7 } (k + 1) (k + 1) k k) := by
        refine pz_csTurn hP6 ?_ ?_ ?_
        · simp only [TzV.addC, HCV.out]; exact hgrow7
        · simp only [TzV.addC]
          have e : (updF t.cg k cg k) = cg := by simp [updF]
          rw [e]
          exact hown7
        · intro g' hg'
          simp only [TzV.addC, HCV.out]
          simp only [Value.ownBlock, Option.some.injEq] at hg'
          subst hg'
          rcases hat7 with h | h
          · exact .inl h
          · exact .inr (by omega)
      have HO8 : Hid (Owns (w7.setCell ⟨w.heap.size + 1, 0, none⟩ (.slice (some ⟨g7, 0, none⟩) (k + 1) cap7)) (w.heap.size + 2) (PZ M d.N f g { (t.addC k cg vr) with cv := .slice (some ⟨g7, 0, none⟩) (k + 1) cap7 } (k + 1) (k + 1) k k)) := hO7.setBelow (a := ⟨w.heap.size + 1, 0, none⟩) (by simp) _
      have hT7 : TbM w w7 t := by
        have hne' : ∀ q, q ≤ w.heap.size + 1 → some q ≠ (Value.slice ca k cc).ownBlock := fun q hq e1 => by have := (own4.lt _ e1.symm).1; omega
        refine ⟨?_, ?_, fun o => ?_, ?_, ?_, fun o => ?_, ?_⟩
        · exact (hgrow7.cell_far _ (by simp; omega) (hne' _ (by simp))).trans hT6.c0
        · exact (hgrow7.cell_far _ (by simp; omega) (hne' _ (by simp))).trans hT6.c1
        · exact (hgrow7.frozen_far _ (by simp; omega) (hne' _ (by simp))).trans (hT6.cf o)
        · exact (hgrow7.cell_far _ (by simp; omega) (hne' _ (by simp))).trans hT6.r0
        · exact (hgrow7.cell_far _ (by simp; omega) (hne' _ (by simp))).trans hT6.r1
        · exact (hgrow7.frozen_far _ (by simp; omega) (hne' _ (by simp))).trans (hT6.rf o)
        · exact Nat.le_trans hT6.sz hgrow7.size
      have HT8 : Hid (TbM w (w7.setCell ⟨w.heap.size + 1, 0, none⟩ (.slice (some ⟨g7, 0, none⟩) (k + 1) cap7)) { t with cv := .slice (some ⟨g7, 0, none⟩) (k + 1) cap7 }) := hT7.set0 _
      have HB8 : Hid (Below w.heap.size w (w7.setCell ⟨w.heap.size + 1, 0, none⟩ (.slice (some ⟨g7, 0, none⟩) (k + 1) cap7))) := (hB6.grown hgrow7 (by omega) (fun b hb => by have := (own4.lt _ hb).1; omega)).setCell (by simp) _
      refine hK.out _ _ (fun _ => c7) ?_
      clear hK hown7 hgrow7 hat7 hlt7 hT7 hO7 hP6 hb6 hT6 c6 f6 own4 hnw5 hs6 hB6 hne hi0 hz0 hz1 hz2 hn1 hn2 hW6
      refine TailI.consL rfl (fun K hK => ?_)
      go_simp
      refine hK.out _ _ (fun _ => c7) ?_
      clear hK
      refine TailI.consL rfl (fun K hK => ?_)
      go_simp
      refine hK.out _ _ (fun h => absurd h (by omega)) ?_
      clear hK
      rw [TailI]
      refine NoPanic.normal ?_
      generalize (w7.setCell ⟨w.heap.size + 1, 0, none⟩ (.slice (some ⟨g7, 0, none⟩) (k + 1) cap7)) = W8 at HO8 HT8 HB8 ⊢
      clear c7 f7
      obtain ⟨t8, ht8⟩ : ∃ t8 : TzV, t8 = { (t.addC k cg vr) with cv := .slice (some ⟨g7, 0, none⟩) (k + 1) cap7 } := ⟨_, rfl⟩
      have HT : Hid (TbM w W8 t8) := by rw [ht8]; exact ⟨HT8.out.c0, HT8.out.c1, HT8.out.cf, HT8.out.r0, HT8.out.r1, HT8.out.rf, HT8.out.sz⟩
      rw [← ht8] at HO8
      have HO : Hid (Owns W8 (w.heap.size + 2) (PZ M d.N f g t8 (k + 1) (k + 1) k k)) := HO8.out
      have HB : Hid (Below w.heap.size w W8) := HB8.out
      have gel := HGotos.out W8.drew k (HM.out.below HB.out).drew hlt
      have c0 := HT.out.c1
      obtain ⟨ga, gc, hgv⟩ := HO.out.slice (i := .gs) rfl
      simp only at hgv
      rw [hgv] at c0
      have HGV : Hid (t8.gv = .slice ga k gc) := hgv
      obtain ⟨i5, hi0, hz0, hz1, hz2⟩ := info_parts Try.infoIntS
      have hn1 : k + 1 ≤ maxLen := by unfold maxLen; omega
      have hn2 : (k + 1) * 24 ≤ 140737488355328 := by omega
      clear hgv HO8 HT8 HB8 ht8 HCV
      go_wp2_with fail
      refine wp_region_held_seq [0, 1, 2, 3] [4, 5, 6, 7, 8] 8 (fun w' => w'.cell? ⟨w.heap.size + 1, 1, none⟩ = some (.slice ga k gc)) (by kernel_rfl) (by kernel_rfl) c0 ?_
      iterate 4
        refine StillI.consL (v := ?_) rfl (by rfl) ?_ ?_
        rotate_left
        · intro w' hSw
          go_simp
          try with_reducible rfl
        simp only [Act.put, List.setIfInBounds_toArray, List.set_cons_zero, List.set_cons_succ]
      rw [StillI]
      refine TailI.consL rfl (fun K hK => ?_)
      go_simp
      refine gel.mono ?_
      rintro e w5 ⟨gg, rfl, hO5, hB5⟩
      dsimp only
      have hT5 := HT.out.below ((Below.refl _ _).drew.trans hB5) HT.out.sz
      have hP5 := pz_gotos HO.out.drew (show Below W8.drew.heap.size W8.drew w5 from hB5) HT.out.sz hO5
      have hB5' : Below w.heap.size w w5 := HB.out.trans ((show Below W8.heap.size W8 w5 from (Below.refl _ _).drew.trans hB5).mono (by have := HT.out.sz; omega))
      have c5 := hT5.c1
      rw [HGV.out] at c5
      refine hK.out _ _ (fun _ => c5) ?_
      clear hK hO5 hB5 HO HT HB c0
      obtain ⟨W6, hW6⟩ : ∃ W, W = w5.alloc (.cells #[.slice (some ⟨gg, 0, none⟩) d.N d.N] 25) := ⟨_, rfl⟩
      have hP6 := hP5.alloc (.cells #[.slice (some ⟨gg, 0, none⟩) d.N d.N] 25)
      have hb6 : Below w5.heap.size w5 (w5.alloc (.cells #[.slice (some ⟨gg, 0, none⟩) d.N d.N] 25)) := (Below.refl _ _).alloc (Nat.le_refl _) _
      have hT6 := hT5.below hb6 hT5.sz
      have c6 := hT6.c1
      have f6 := hT6.cf 1
      have hsz5 := hT5.sz
      rw [HGV.out] at c6
      have own4 : (w5.alloc (.cells #[.slice (some ⟨gg, 0, none⟩) d.N d.N] 25)).ownsRow (w.heap.size + 2) 25 1 (.slice ga k gc) k ((List.range k).map fun j => .slice (some ⟨updF t8.gg k gg j, 0, none⟩) d.N d.N) := by
        have := hP6.own .gs _ rfl
        simp only [TzV.addG, HGV.out] at this
        exact this
      have hne : some (w.heap.size + 1) ≠ (Value.slice ga k gc).ownBlock := fun e1 => by have := (own4.lt _ e1.symm).1; omega
      have hnw5 := World.news_of_block (cs := #[.slice (some ⟨gg, 0, none⟩) d.N d.N]) (t := 25) (fr := (0, 0)) (heap_alloc_new w5 (.cells #[.slice (some ⟨gg, 0, none⟩) d.N d.N] 25))
      have hs6 : (w5.alloc (.cells #[.slice (some ⟨gg, 0, none⟩) d.N d.N] 25)).heap.size = w5.heap.size + 1 := by simp
      have hB6 : Below w.heap.size w (w5.alloc (.cells #[.slice (some ⟨gg, 0, none⟩) d.N d.N] 25)) := hB5'.alloc (by omega) _
      refine TailI.consL rfl (fun K hK => ?_)
      go_simp
      rw [← hW6] at hP6 hb6 hT6 c6 f6 own4 hnw5 hs6 hB6 ⊢
      refine hK.out _ _ (fun _ => c6) ?_
      clear hK hP5 hT5 hB5' c5
      refine TailI.consL rfl (fun K hK => ?_)
      refine step_append_lies _ rfl _ _ _ rfl (w.heap.size + 2) 25 i5 _ 1 24 Try.underlying39 hi0 hz0 hz1 hz2 rfl (by omega) (.slice ga k gc) k ((List.range k).map fun j => .slice (some ⟨updF t8.gg k gg j, 0, none⟩) d.N d.N) rfl own4 ⟨w5.heap.size, 0, none⟩ 1 1 [.slice (some ⟨gg, 0, none⟩) d.N d.N] rfl rfl hnw5 (by simp [Value.oneCell']) (by omega) hn1 hn2 (by omega) (w5.heap.size + 1) hs6 ?_
      intro g7 cap7 w7 hown7 hgrow7 hat7 hlt7
      have c7 := (hgrow7.cell_far ⟨w.heap.size + 1, 1, none⟩ (by simp; omega) hne).trans c6
      have f7 := (hgrow7.frozen_far ⟨w.heap.size + 1, 1, none⟩ (by simp; omega) hne).trans f6
      have hO7 : Owns w7 (w.heap.size + 2) (PZ M d.N f g { (t8.addG k gg) with gv := .slice (some ⟨g7, 0, none⟩) (k + 1) cap7 } (k + 1) (k + 1) (k + 1) (k + 1)) := by
        refine pz_gsTurn hP6 ?_ ?_ ?_
        · simp only [TzV.addG, HGV.out]; exact hgrow7
        · simp only [TzV.addG]
          have e : (updF t8.gg k gg k) = gg := by simp [updF]
          rw [e]
          exact hown7
        · intro g' hg'
          simp only [TzV.addG, HGV.out]
          simp only [Value.ownBlock, Option.some.injEq] at hg'
          subst hg'
          rcases hat7 with h | h
          · exact .inl h
          · exact .inr (by omega)
      have HO9 : Hid (Owns (w7.setCell ⟨w.heap.size + 1, 1, none⟩ (.slice (some ⟨g7, 0, none⟩) (k + 1) cap7)) (w.heap.size + 2) (PZ M d.N f g { (t8.addG k gg) with gv := .slice (some ⟨g7, 0, none⟩) (k + 1) cap7 } (k + 1) (k + 1) (k + 1) (k + 1))) := hO7.setBelow (a := ⟨w.heap.size + 1, 1, none⟩) (by simp) _
      have hT7 : TbM w w7 t8 := by
        have hne' : ∀ q, q ≤ w.heap.size + 1 → some q ≠ (Value.slice ga k gc).ownBlock := fun q hq e1 => by have := (own4.lt _ e1.symm).1; omega
        refine ⟨?_, ?_, fun o => ?_, ?_, ?_, fun o => ?_, ?_⟩
        · exact (hgrow7.cell_far _ (by simp; omega) (hne' _ (by simp))).trans hT6.c0
        · exact (hgrow7.cell_far _ (by simp; omega) (hne' _ (by simp))).trans hT6.c1
        · exact (hgrow7.frozen_far _ (by simp; omega) (hne' _ (by simp))).trans (hT6.cf o)
        · exact (hgrow7.cell_far _ (by simp; omega) (hne' _ (by simp))).trans hT6.r0
        · exact (hgrow7.cell_far _ (by simp; omega) (hne' _ (by simp))).trans hT6.r1
        · exact (hgrow7.frozen_far _ (by simp; omega) (hne' _ (by simp))).trans (hT6.rf o)
        · exact Nat.le_trans hT6.sz hgrow7.size
      have HT9 : Hid (TbM w (w7.setCell ⟨w.heap.size + 1, 1, none⟩ (.slice (some ⟨g7, 0, none⟩) (k + 1) cap7)) { t8 with gv := .slice (some ⟨g7, 0, none⟩) (k + 1) cap7 }) := hT7.set1 _
      have HB9 : Hid (Below w.heap.size w (w7.setCell ⟨w.heap.size + 1, 1, none⟩ (.slice (some ⟨g7, 0, none⟩) (k + 1) cap7))) := (hB6.grown hgrow7 (by omega) (fun b hb => by have := (own4.lt _ hb).1; omega)).setCell (by simp) _
      refine hK.out _ _ (fun _ => c7) ?_
      clear hK hown7 hgrow7 hat7 hlt7 hT7 hO7 hP6 hb6 hT6 c6 f6 own4 hnw5 hs6 hB6 hne hi0 hz0 hz1 hz2 hn1 hn2 hW6
      refine TailI.consL rfl (fun K hK => ?_)
      go_simp
      refine hK.out _ _ (fun _ => c7) ?_
      clear hK
      refine TailI.consL rfl (fun K hK => ?_)
      go_simp
      refine hK.out _ _ (fun h => absurd h (by omega)) ?_
      clear hK
      rw [TailI]
      refine NoPanic.normal ?_
      generalize (w7.setCell ⟨w.heap.size + 1, 1, none⟩ (.slice (some ⟨g7, 0, none⟩) (k + 1) cap7)) = W9 at HO9 HT9 HB9 ⊢
      clear c7 f7
      clear gel
      go_wp2_with fail
      go_roundw
      case rel => exact ⟨k + 1, _, by go_num, by omega, HO9.out, ⟨HT9.out.c0, HT9.out.c1, HT9.out.cf, HT9.out.r0, HT9.out.r1, HT9.out.rf, HT9.out.sz⟩, HB9.out⟩
      case measure => simp [intOf]; omega
    · obtain rfl : K = k := by omega
      obtain ⟨ca, cc, hcv⟩ := hO.slice (i := .cs) rfl
      obtain ⟨ga, gc, hgv⟩ := hO.slice (i := .gs) rfl
      simp only at hcv hgv
      have c0 := hT.c0
      have c1 := hT.c1
      rw [hcv] at c0
      rw [hgv] at c1
      have x0 := hT.r0
      have x1 := hT.r1
      have xf0 := hT.rf 0
      have xf1 := hT.rf 1
      have hcutk : decide ((K : Int) < (K : Int)) = false := by simp
      have HV : Hid (t.cv = .slice ca K cc ∧ t.gv = .slice ga K gc) := ⟨hcv, hgv⟩
      clear hO hT hB hcv hgv HCells HGotos HM
      go_wp2_with fail
      have hP := (HO.out.setBelow (a := ⟨w.heap.size, 0, none⟩) (by simp) (.slice ca K cc)).setBelow (a := ⟨w.heap.size, 1, none⟩) (by simp) (.slice ga K gc)
      refine bodyPost_ret (v := .agg #[.slice ca K cc, .slice ga K gc]) (by simp [results, Try.results33, go_sem, x0, x1]) rfl ⟨.slice ca K cc, .slice ga K gc, rfl, ?_, (HB.out.setCell (by simp) _).setCell (by simp) _⟩
      rw [hKo]
      intro w'' hw''
      have hT' := pz_tab (hP.heap (w' := w'') fun i r q hr hq => hw'' q (by have := (hP.lt hr hq).1; omega) (hP.lt hr hq).2)
      rw [HV.out.1, HV.out.2] at hT'
      exact HPost.out _ _ _ hT'

end Go.Proofs.Ytobegekmgoiopaa

/- Plain: package table's table is the table in plain words. No program. -/
namespace Go.Proofs.Ytobegekmgoiopaa
open Classical

section
variable {T N : Nat} {R : List Ru} {OL : List (List It)} {NL : List (List Int)} {Ls : List SetI} {st : LS}

theorem cellG_fold {k n : Nat} : ∀ (L : List It) (z : Int) (a : List Int) (b : Bool), cellG R st.lk k n L (z, a, b) =
    (z, a ++ ((L.filter fun it => doneB R st.lk k n it && decide (it.1 ≠ R.length)).map fun it => (it.1 : Int)), b || L.any fun it => doneB R st.lk k n it && decide (it.1 = R.length)) := by
  intro L
  induction L with
  | nil => intro z a b; simp [cellG]
  | cons it L ih =>
    intro z a b
    show cellG R st.lk k n L (if doneB R st.lk k n it then putC R it.1 (z, a, b) else (z, a, b)) = _
    by_cases hd : doneB R st.lk k n it = true
    · rw [if_pos hd]
      unfold putC
      by_cases he : it.1 = R.length
      · rw [if_pos he]
        simp only
        rw [ih]
        simp [hd, he]
      · rw [if_neg he]
        simp only
        rw [ih]
        simp [hd, he]
    · have hd' : doneB R st.lk k n it = false := by simpa using hd
      rw [if_neg hd, ih]
      simp [hd']

theorem cell_plain (A : AutD T N R OL NL Ls) (hF : ∀ n, ((firstA R (nullA R N) T N).getD n []).length ≤ T) (H : LkEnd T N R OL NL Ls (nullA R N) (firstA R (nullA R N) T N) st) {k n : Nat} (hk : k < OL.length) {z : Int} (hz : z = if n < T then (NL.getD k []).getD n 0 else -1) :
    cellG R st.lk k n (OL.getD k []) (z, [], false) = cellP T N R NL Ls k n := by
  have hin : ∀ r, DoneP T N R NL Ls k n r ↔ (r, (rightF R r).length) ∈ OL.getD k [] ∧ doneB R st.lk k n (r, (rightF R r).length) = true := fun r => by
    unfold DoneP doneB
    rw [(A.sok.rep k hk).mem, ← looks_are A hF H.inv H.none H.zero, show (decide ((r, (rightF R r).length).2 = (rightF R (r, (rightF R r).length).1).length)) = true from decide_eq_true rfl, Bool.true_and]
  have hdone : ∀ it, doneB R st.lk k n it = true → it = (it.1, (rightF R it.1).length) := fun it h => by
    unfold doneB at h
    simp only [Bool.and_eq_true, decide_eq_true_eq] at h
    rw [← h.1]
  rw [cellG_fold, hz]
  unfold cellP
  refine Prod.ext rfl (Prod.ext ?_ ?_)
  · simp only [List.nil_append]
    rw [show ∀ L : List It, (L.map fun it => (it.1 : Int)) = (L.map fun it => it.1).map fun n : Nat => (n : Int) from fun L => by rw [List.map_map]; rfl]
    refine congrArg (List.map fun n : Nat => (n : Int)) ?_
    refine sorted_unique (lt := (· < ·)) (fun _ _ _ => Nat.lt_trans) Nat.lt_irrefl ?_ ?_ fun x => ?_
    · rw [List.pairwise_map]
      refine List.Pairwise.imp_of_mem ?_ ((A.sok.srt k hk).filter _)
      intro a b ha hb hab
      simp only [List.mem_filter, Bool.and_eq_true] at ha hb
      have h1 := hdone a ha.2.1
      have h2 := hdone b hb.2.1
      rcases hab with h | ⟨h, h'⟩
      · exact h
      · rw [h1, h2] at h'
        simp only [h] at h'
        exact absurd h' (Nat.lt_irrefl _)
    · exact (List.pairwise_lt_range).filter _
    · simp only [List.mem_map, List.mem_filter, Bool.and_eq_true, decide_eq_true_eq, List.mem_range]
      constructor
      · rintro ⟨it, ⟨h1, h2, h3⟩, rfl⟩
        have := (A.sok.ok k hk it h1).1
        have e := hdone it h2
        refine ⟨by omega, (hin _).2 ?_⟩
        rw [← e]
        exact ⟨h1, h2⟩
      · rintro ⟨h1, h2⟩
        have h3 := (hin x).1 h2
        exact ⟨_, ⟨h3.1, h3.2, by simp only; omega⟩, rfl⟩
  · simp only [Bool.false_or]
    rw [Bool.eq_iff_iff]
    simp only [List.any_eq_true, Bool.and_eq_true, decide_eq_true_eq]
    constructor
    · rintro ⟨it, h1, h2, h3⟩
      have e := hdone it h2
      rw [← h3]
      refine (hin _).2 ?_
      rw [← e]
      exact ⟨h1, h2⟩
    · intro h
      have h3 := (hin R.length).1 h
      exact ⟨_, h3.1, h3.2, rfl⟩

/-- Where a state goes on with the end: nowhere. -/
theorem says_at (A : AutD T N R OL NL Ls) {k x : Nat} (hk : k < OL.length) (hx : x < T + N) : Says (goM T NL) (k, symN T x) ((NL.getD k []).getD x 0) := by
  obtain ⟨hl, hg⟩ := A.go k hk x hx
  unfold Says
  rw [goM_at (by rw [hl]; exact hx)]
  by_cases hex : ∃ i, Ls.getD k noS i ∧ nextIs T R i x
  · obtain ⟨n, e, _, _⟩ := hg.some hex
    rw [e, if_pos (Int.natCast_nonneg _)]
    exact .inl rfl
  · have e := hg.none hex
    rw [e, if_neg (by omega)]
    exact .inr ⟨rfl, rfl⟩
theorem says_term (A : AutD T N R OL NL Ls) {k n : Nat} (hk : k < OL.length) (hn : n ≤ T) : Says (goM T NL) (k, (true, (n : Int))) (if n < T then (NL.getD k []).getD n 0 else -1) := by
  by_cases h : n < T
  · rw [if_pos h]
    have := says_at A hk (x := n) (by omega)
    unfold symN at this
    rw [if_pos h] at this
    exact this
  · rw [if_neg h]
    refine .inr ⟨goM_end fun x e => ?_, rfl⟩
    unfold symN at e
    split at e
    · simp only [Prod.mk.injEq, true_and] at e
      omega
    · simp at e
theorem says_name (A : AutD T N R OL NL Ls) {k n : Nat} (hk : k < OL.length) (hn : n < N) : Says (goM T NL) (k, (false, (n : Int))) ((NL.getD k []).getD (T + n) 0) := by
  have := says_at A hk (x := T + n) (by omega)
  unfold symN at this
  rw [if_neg (by omega)] at this
  rw [show T + n - T = n by omega] at this
  exact this

theorem tab_plain {K : Nat} (hN : 0 < N) (A : AutD T N R OL (allN T N R K).1 (allN T N R K).2) (hK : OL.length = K) (hF : ∀ n, ((firstA R (nullA R N) T N).getD n []).length ≤ T) (H : LkEnd T N R OL (allN T N R K).1 (allN T N R K).2 (nullA R N) (firstA R (nullA R N) T N) st) :
    ((List.range OL.length).map fun k => (List.range (T + 1)).map fun n => cellG R st.lk k n (OL.getD k []) ((if n < T then ((allN T N R K).1.getD k []).getD n 0 else -1), [], false)) = tabC T N R K ∧
    ((List.range OL.length).map fun k => (List.range N).map fun n => ((allN T N R K).1.getD k []).getD (T + n) 0) = tabG T N R K := by
  constructor
  · unfold tabC rowP
    rw [hK]
    refine List.map_congr_left fun k hk => List.map_congr_left fun n _ => ?_
    exact cell_plain A hF H (by rw [hK]; exact List.mem_range.1 hk) rfl
  · unfold tabG
    rw [hK]
    refine List.map_congr_left fun k hk => ?_
    have hk' := List.mem_range.1 hk
    obtain ⟨hl, _⟩ := A.go k (by omega) T (by omega)
    obtain ⟨row, hrow⟩ : ∃ row, (allN T N R K).1.getD k [] = row := ⟨_, rfl⟩
    rw [hrow] at hl ⊢
    refine List.ext_getElem (by simp [hl]) fun i h1 h2 => ?_
    have hi : i < N := by simpa using h1
    have hi2 : T + i < row.length := by omega
    simp [List.getD, hi2]

/-- The automaton is whole, where all has been gone through. -/
theorem autD_of {K : Nat} (hs : SDk R OL (allN T N R K).2) (hK : OL.length = K) (h0 : InS OL (0, (R.length, 0))) (hsy : ∀ r, r ≤ R.length → ∀ s ∈ rightF R r, (s.1 = true → 0 ≤ s.2 ∧ s.2 < (T : Int)) ∧ (s.1 = false → 0 ≤ s.2 ∧ s.2 < (N : Int))) : AutD T N R OL (allN T N R K).1 (allN T N R K).2 ∧ Whole T N R K := by
  have hW : Whole T N R K := by
    unfold Whole
    rw [← hs.len]
    exact hK
  refine ⟨⟨hs, fun k hk x hx => ?_, fun k hk => ?_, hsy, h0⟩, hW⟩
  · exact all_go (whole_reach hW) k (by omega) x hx
  · have hl : k < (allN T N R K).2.length := by rw [← hs.len]; exact hk
    refine all_closed (T := T) (N := N) K _ ?_
    simp [List.getD, hl]
end

end Go.Proofs.Ytobegekmgoiopaa
