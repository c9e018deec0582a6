import Derived.Test.YtkkcmcckdaobmaaSpreadMathAndLooksMath
import Derived.Test.YtkkcmcckdaobmaaSpread6
import Derived.Test.YtkkcmcckdaobmaaSets2MathAndTabMath
import Derived.Test.YtkkcmcckdaobmaaTkLookAndRowI
/- How lookaheads lie in memory (pollardingref6.looks). No walk. -/
namespace Go.Proofs.Ytkkcmcckdaobmaa
open Go.RowKit

/-- The great row, a state's row, an item's row, the row that is being made. -/
inductive Lx
  | sp | ro (k : Nat) | bt (k j : Nat) | cur
  deriving DecidableEq

/-- Of m states all is there; of the state m so many rows. -/
def PL (T : Nat) (OL : List (List It)) (lv : Value) (vl : Nat → Value) (vb : Nat → Nat → Value) (m jc : Nat) (cv : Option Value) : Lx → Option Row
  | .sp => some ⟨lv, 63, 1, m, (List.range m).map vl⟩
  | .ro k => if k < m then some ⟨vl k, 62, 1, (OL.getD k []).length, (List.range (OL.getD k []).length).map (vb k)⟩ else none
  | .bt k j => if (k < m ∧ j < (OL.getD k []).length) ∨ (k = m ∧ j < jc) then some ⟨vb k j, 4, 1, T + 1, (List.replicate (T + 1) false).map Value.bool⟩ else none
  | .cur => cv.map fun v => ⟨v, 62, 1, jc, (List.range jc).map (vb m)⟩

/-- Cell 8 of the automaton's block alone has turned, of what was there. -/
structure IC (w : World) (ab : Nat) (lv : Value) (wr : World) : Prop where
  kept : Kept (fun b => b = ab) w wr
  keep : ∀ o, o ≠ 8 → wr.cell? ⟨ab, o, none⟩ = w.cell? ⟨ab, o, none⟩
  fro : ∀ o, wr.frozen? ⟨ab, o, none⟩ = false
  c8 : wr.cell? ⟨ab, 8, none⟩ = some lv

section
variable {w wr : World} {ab lim T N : Nat} {rv sv nv lv : Value} {R : List Ru} {vi vr : Nat → Value} {OL : List (List It)} {NL : List (List Int)}

theorem IC.grow (h : IC w ab lv wr) (hab : ab < w.heap.size) {w' : World} {row : Option Nat} (hg : wr.grownBy w' row) (hr : ∀ b, row = some b → w.heap.size ≤ b) : IC w ab lv w' := by
  have hs := h.kept.size
  have hb : w'.heap[ab]? = wr.heap[ab]? := hg.block ab (by omega) (fun e => by have := hr ab e.symm; omega)
  have hc : ∀ o, w'.cell? ⟨ab, o, none⟩ = wr.cell? ⟨ab, o, none⟩ := fun o => World.cell?_of_block hb
  exact ⟨⟨hg.os.trans h.kept.os, hg.tape.trans h.kept.tape, hg.output.trans h.kept.output, Nat.le_trans hs hg.size, fun k hk hK => (hg.block k (by omega) (fun e => by have := hr k e.symm; omega)).trans (h.kept.block k hk hK)⟩,
    fun o ho => (hc o).trans (h.keep o ho), fun o => (World.frozen?_of_block hb).trans (h.fro o), (hc 8).trans h.c8⟩
theorem IC.later (h : IC w ab lv wr) (hab : ab < w.heap.size) {w' : World} (hb : Below wr.heap.size wr w') : IC w ab lv w' :=
  h.grow hab (row := none) ⟨hb.os, hb.tape, hb.output, hb.size, fun k hk _ => hb.block k hk⟩ (fun _ e => nomatch e)
theorem IC.set8 (h : IC w ab lv wr) (u : Value) : IC w ab u (wr.setCell ⟨ab, 8, none⟩ u) :=
  ⟨h.kept.setCell rfl u, fun o ho => (cell_set_other (.inr ho)).trans (h.keep o ho), fun o => by rw [World.frozen?_setCell]; exact h.fro o, World.cell?_setCell_same (h := h.c8) ..⟩

theorem IC.auto (h : IC w ab lv wr) (hA : AutoG w lim ab T N rv R) (hl : lim ≤ ab) : AutoG wr lim ab T N rv R := by
  have hs := h.kept.size
  have hlt := hA.lt
  have hB : Below lim w wr := ⟨h.kept.os, h.kept.tape, h.kept.output, hs, fun k hk => h.kept.block k (by omega) (by omega)⟩
  exact ⟨(h.keep 0 (by omega)).trans hA.t, (h.keep 1 (by omega)).trans hA.n, (h.keep 2 (by omega)).trans hA.r, hA.rules.below hB, Nat.le_trans hA.le hs, by omega⟩

theorem IC.owns {ι : Type} {P : ι → Option Row} (h : IC w ab lv wr) (ho : Owns w (ab + 1) P) : Owns wr (ab + 1) P := by
  refine ⟨fun i r hi => ?_, ho.apart⟩
  have hr := ho.own i r hi
  refine ⟨hr.1, ?_⟩
  rcases hr.2 with h2 | ⟨g, cap, cur, hv, hg, hh, rest⟩
  · exact .inl h2
  · have hgl := (ho.lt hi (by rw [hv]; rfl : r.v.ownBlock = some g)).2
    exact .inr ⟨g, cap, cur, hv, hg, (h.kept.block g hgl (by omega)).trans hh, rest⟩
end

theorem owns_nothingL (w : World) (base : Nat) : Owns (ι := Lx) w base (fun _ => none) := ⟨fun _ _ h => (nomatch h), fun _ _ _ _ _ h => (nomatch h)⟩

section
variable {w : World} {base T m jc : Nat} {OL : List (List It)} {lv : Value} {vl : Nat → Value} {vb : Nat → Nat → Value}

/-- Nothing yet of the next state. -/
theorem PL_nil (h : Owns w base (PL T OL lv vl vb m 0 none)) : Owns w base (PL T OL lv vl vb m 0 (some (.slice none 0 0))) := by
  have := h.newer (i := Lx.cur) (r := ⟨.slice none 0 0, 62, 1, 0, []⟩) ⟨rfl, rfl, rfl, Nat.le_refl _, fun _ _ _ => rfl⟩ (World.ownsRow_nil w base 62 1) (fun g hg => by simp [Value.ownBlock] at hg)
  have e : upd (PL T OL lv vl vb m 0 none) Lx.cur ⟨.slice none 0 0, 62, 1, 0, []⟩ = PL T OL lv vl vb m 0 (some (.slice none 0 0)) := by
    funext i
    cases i <;> simp [upd, PL]
  rwa [e] at this

/-- A new row of truths, and the row that holds it has grown. -/
theorem PL_row {w' : World} {cv cv' v : Value} (h : Owns w base (PL T OL lv vl vb m jc (some cv))) {w1 : World} (hg1 : w.grownBy w1 none) (hv : w1.ownsRow base 4 1 v (T + 1) ((List.replicate (T + 1) false).map Value.bool)) (hvb : ∀ g, v.ownBlock = some g → w.heap.size ≤ g)
    (hg : w1.grownBy w' cv.ownBlock) (hown : w'.ownsRow base 62 1 cv' (jc + 1) ((List.range jc).map (vb m) ++ [v])) (hat : ∀ g, cv'.ownBlock = some g → cv.ownBlock = some g ∨ g = w1.heap.size) :
    Owns w' base (PL T OL lv vl (fun k j => if k = m ∧ j = jc then v else vb k j) m (jc + 1) (some cv')) := by
  have h1 := h.newer (i := Lx.bt m jc) (r := ⟨v, 4, 1, T + 1, (List.replicate (T + 1) false).map Value.bool⟩) hg1 hv hvb
  have h2 := h1.turn (i := Lx.cur) (r := ⟨cv, 62, 1, jc, (List.range jc).map (vb m)⟩) (r' := ⟨cv', 62, 1, jc + 1, (List.range jc).map (vb m) ++ [v]⟩) (by rw [upd_other _ (by simp)]; rfl) hg hown hat
  have e : upd (upd (PL T OL lv vl vb m jc (some cv)) (Lx.bt m jc) ⟨v, 4, 1, T + 1, (List.replicate (T + 1) false).map Value.bool⟩) Lx.cur ⟨cv', 62, 1, jc + 1, (List.range jc).map (vb m) ++ [v]⟩ = PL T OL lv vl (fun k j => if k = m ∧ j = jc then v else vb k j) m (jc + 1) (some cv') := by
    funext i
    cases i with
    | sp => simp [upd, PL]
    | cur =>
      simp only [upd, if_true, PL, Option.map_some]
      have := range_snoc (vb m) jc v
      simp only [true_and]
      rw [this]
    | ro k =>
      simp only [upd, PL, reduceCtorEq, if_false]
      split
      · rename_i hk
        congr 2
        refine List.map_congr_left fun j _ => ?_
        rw [if_neg (fun e => by have := e.1; omega)]
      · rfl
    | bt k j =>
      simp only [upd, PL, reduceCtorEq, if_false, Lx.bt.injEq]
      by_cases hkj : k = m ∧ j = jc
      · rw [if_pos hkj, if_pos hkj, if_pos (.inr ⟨hkj.1, by omega⟩)]
      · rw [if_neg hkj, if_neg hkj]
        by_cases hc : (k < m ∧ j < (OL.getD k []).length) ∨ (k = m ∧ j < jc)
        · rw [if_pos hc, if_pos (hc.imp id fun h => ⟨h.1, by omega⟩)]
        · rw [if_neg hc, if_neg]
          rintro (h | ⟨h, h'⟩)
          · exact hc (.inl h)
          · exact hc (.inr ⟨h, by
              rcases Nat.lt_succ_iff_lt_or_eq.1 h' with h' | h'
              · exact h'
              · exact absurd ⟨h, h'⟩ hkj⟩)
  rwa [e] at h2

/-- A state more is whole. -/
theorem PL_state {w' : World} {lv' cv : Value} (hjc : jc = (OL.getD m []).length) (h : Owns w base (PL T OL lv vl vb m jc (some cv))) (hg : w.grownBy w' lv.ownBlock) (hown : w'.ownsRow base 63 1 lv' (m + 1) ((List.range m).map vl ++ [cv])) (hat : ∀ g, lv'.ownBlock = some g → lv.ownBlock = some g ∨ g = w.heap.size) :
    Owns w' base (PL T OL lv' (fun k => if k = m then cv else vl k) vb (m + 1) 0 none) := by
  subst hjc
  have h1 := h.turn (i := Lx.sp) (r' := ⟨lv', 63, 1, m + 1, (List.range m).map vl ++ [cv]⟩) rfl hg hown hat
  have sub : ∀ i r, PL T OL lv' (fun k => if k = m then cv else vl k) vb (m + 1) 0 none i = some r →
      ∃ j, (j = i ∨ (i = .ro m ∧ j = .cur)) ∧ upd (PL T OL lv vl vb m (OL.getD m []).length (some cv)) .sp ⟨lv', 63, 1, m + 1, (List.range m).map vl ++ [cv]⟩ j = some r := fun i r hi => by
    cases i with
    | sp =>
      refine ⟨.sp, .inl rfl, ?_⟩
      rw [upd_same, ← hi]
      simp only [PL, range_snoc]
    | cur => cases hi
    | ro k =>
      simp only [PL] at hi
      split at hi
      · rename_i hk
        by_cases hkm : k = m
        · subst hkm
          refine ⟨.cur, .inr ⟨rfl, rfl⟩, ?_⟩
          rw [upd_other _ (by simp), ← hi, if_pos rfl]
          rfl
        · refine ⟨.ro k, .inl rfl, ?_⟩
          rw [upd_other _ (by simp), ← hi, if_neg hkm]
          exact if_pos (by omega)
      · cases hi
    | bt k j =>
      refine ⟨.bt k j, .inl rfl, ?_⟩
      rw [upd_other _ (by simp), ← hi]
      simp only [PL]
      by_cases hc : (k < m + 1 ∧ j < (OL.getD k []).length) ∨ (k = m + 1 ∧ j < 0)
      · rw [if_pos hc, if_pos]
        rcases hc with ⟨h1, h2⟩ | ⟨_, h2⟩
        · rcases Nat.lt_succ_iff_lt_or_eq.1 h1 with h1 | h1
          · exact .inl ⟨h1, h2⟩
          · exact .inr ⟨h1, by rw [← h1]; exact h2⟩
        · exact absurd h2 (Nat.not_lt_zero _)
      · rw [if_neg hc, if_neg]
        rintro (⟨h1, h2⟩ | ⟨h1, h2⟩)
        · exact hc (.inl ⟨by omega, h2⟩)
        · exact hc (.inl ⟨by omega, by rw [h1]; exact h2⟩)
  refine ⟨fun i r hi => ?_, fun i j a b hij ha hb g ga gb => ?_⟩
  · obtain ⟨i', _, e⟩ := sub i r hi
    exact h1.own i' r e
  · obtain ⟨i', ei, ha'⟩ := sub i a ha
    obtain ⟨j', ej, hb'⟩ := sub j b hb
    refine h1.apart i' j' a b ?_ ha' hb' g ga gb
    intro e
    rcases ei with rfl | ⟨rfl, rfl⟩
    · rcases ej with rfl | ⟨rfl, rfl⟩
      · exact hij e
      · subst e; cases ha
    · rcases ej with rfl | ⟨rfl, rfl⟩
      · subst e; cases hb
      · exact hij rfl

theorem PL_start (w : World) (base : Nat) : Owns w base (PL T OL (.slice none 0 0) vl vb 0 0 none) := by
  have := (owns_nothingL w base).newer (i := Lx.sp) (r := ⟨.slice none 0 0, 63, 1, 0, []⟩) ⟨rfl, rfl, rfl, Nat.le_refl _, fun _ _ _ => rfl⟩ (World.ownsRow_nil w base 63 1) (fun g hg => by simp [Value.ownBlock] at hg)
  have e : upd (fun _ => none) Lx.sp ⟨.slice none 0 0, 63, 1, 0, []⟩ = PL T OL (.slice none 0 0) vl vb 0 0 none := by
    funext i
    cases i <;> simp [upd, PL]
  rwa [e] at this
end

/-! ### All that can be read, once it is made -/

/-- Where the rows of truths lie. -/
def cL (T : Nat) (OL : List (List It)) (vb : Nat → Nat → Value) : Tab (Nat × Nat) := ⟨fun p => vb p.1 p.2, fun p => if p.1 < OL.length ∧ p.2 < (OL.getD p.1 []).length then some (T + 1) else none⟩
def adrV : Value → Option Addr
  | .slice a _ _ => a
  | _ => none
def capV : Value → Nat
  | .slice _ _ c => c
  | _ => 0
def blkV : Value → Nat
  | .slice (some a) _ _ => a.block
  | _ => 0
def adsOf (sv nv lv : Value) (vi vr vl : Nat → Value) : Ads := ⟨blkV sv, capV sv, blkV nv, capV nv, blkV lv, capV lv, fun i => adrV (vi i), fun i => capV (vi i), fun i => blkV (vr i), fun i => capV (vr i), fun i => blkV (vl i), fun i => capV (vl i)⟩

section
variable {w w' : World} {base ab lim T N : Nat} {OL : List (List It)} {NL : List (List Int)} {rv sv nv lv nuv fiv : Value} {vi vr vl : Nat → Value} {vb : Nat → Nat → Value} {R : List Ru} {Nu : List Bool} {Fi : List (List Bool)}

theorem PL_bt (h : Owns w base (PL T OL lv vl vb OL.length 0 none)) : Bt w base (cL T OL vb) (fun _ => List.replicate (T + 1) false) := by
  have sub : ∀ (p : Nat × Nat) r, (cL T OL vb).P (fun _ => List.replicate (T + 1) false) p = some r → PL T OL lv vl vb OL.length 0 none (.bt p.1 p.2) = some r := fun p r hp => by
    simp only [Tab.P, cL] at hp
    split at hp
    · rename_i hc
      rw [← hp]
      simp only [PL, Option.map_some]
      rw [if_pos (.inl hc)]
    · cases hp
  exact ⟨fun p r hp => Owns.own h _ r (sub p r hp), fun p q a b hpq ha hb => Owns.apart h _ _ a b (fun e => hpq (by cases p; cases q; cases e; rfl)) (sub p a ha) (sub q b hb)⟩

theorem cL_K (h : Owns w base (PL T OL lv vl vb OL.length 0 none)) {g : Nat} (hK : (cL T OL vb).K g) : base ≤ g ∧ ∃ k j, PL T OL lv vl vb OL.length 0 none (.bt k j) = some ⟨vb k j, 4, 1, T + 1, (List.replicate (T + 1) false).map Value.bool⟩ ∧ (vb k j).ownBlock = some g := by
  refine ⟨(PL_bt h).ge hK, ?_⟩
  obtain ⟨⟨k, j⟩, n, hd, hb⟩ := hK
  simp only [cL] at hd
  split at hd
  · rename_i hc
    exact ⟨k, j, by simp only [PL]; rw [if_pos (.inl hc)], hb⟩
  · cases hd

/-- A row that no truth lies in stays. -/
theorem own_keptK {K : Nat → Prop} {e : TypeId} {size n : Nat} {v : Value} {xs : List Value} (h : w.ownsRow base e size v n xs) (hk : Kept K w w') (hv : ∀ g, v.ownBlock = some g → ¬ K g) : w'.ownsRow base e size v n xs := by
  have hl := fun g hg => (h.lt g hg).2
  refine ⟨h.1, ?_⟩
  rcases h.2 with h2 | ⟨g, cap, cur, rfl, h2, h3, h4⟩
  · exact .inl h2
  · exact .inr ⟨g, cap, cur, rfl, h2, (hk.block g (hl g rfl) (hv g rfl)).trans h3, h4⟩

/-- The automaton, and its lookaheads' rows, in whatever world in which truths alone have turned. -/
theorem autoF_stable {Ls : List SetI} (hA : AutoG w lim ab T N rv R) (hlim : lim ≤ ab) (hab : ab < base) (hbase : base ≤ w.heap.size) (c6 : w.cell? ⟨ab, 6, none⟩ = some sv) (c7 : w.cell? ⟨ab, 7, none⟩ = some nv) (c8 : w.cell? ⟨ab, 8, none⟩ = some lv) (c3 : w.cell? ⟨ab, 3, none⟩ = some nuv) (c4 : w.cell? ⟨ab, 4, none⟩ = some fiv)
    (hP : Owns w (ab + 1) (Pb sv nv vi vr OL NL none none)) (hPl : ∀ i r g, Pb sv nv vi vr OL NL none none i = some r → r.v.ownBlock = some g → g < base) (hL : Owns w base (PL T OL lv vl vb OL.length 0 none))
    (hS : ∀ w', (∀ b o, b < ab → w'.cell? ⟨b, o, none⟩ = w.cell? ⟨b, o, none⟩) → BoolsAt w' nuv Nu ∧ MatAt w' fiv Fi) (hok : SOk R OL Ls) (hO : 0 < OL.length) (hNL : NL.length = OL.length) (hNl : ∀ k, k < OL.length → (NL.getD k []).length = T + N) (hTN : 0 < T + N) (hk : Kept (cL T OL vb).K w w') :
    AutoF ab lim T N rv R nuv fiv Nu Fi OL NL (cL T OL vb).V (adsOf sv nv lv vi vr vl) w' := by
  have nK : ∀ b, b < base → ¬ (cL T OL vb).K b := fun b hb hK => by have := (cL_K hL hK).1; omega
  have hcell : ∀ b o v, b < base → w.cell? ⟨b, o, none⟩ = some v → w'.cell? ⟨b, o, none⟩ = some v := fun b o v hb hc => hk.cell (p := ⟨b, o, none⟩) (nK b hb) hc
  have hsz := hk.size
  have hP' : Owns w' (ab + 1) (Pb sv nv vi vr OL NL none none) := ⟨fun i r hi => own_keptK (hP.own i r hi) hk (fun g hg => nK g (hPl i r g hi hg)), hP.apart⟩
  have hsp := hL.own .sp _ rfl
  have hro : ∀ k, k < OL.length → w.ownsRow base 62 1 (vl k) (OL.getD k []).length ((List.range (OL.getD k []).length).map (vb k)) := fun k hk => hL.own (.ro k) ⟨vl k, 62, 1, (OL.getD k []).length, (List.range (OL.getD k []).length).map (vb k)⟩ (by simp only [PL]; rw [if_pos hk])
  have hsp' : w'.ownsRow base 63 1 lv OL.length ((List.range OL.length).map vl) := own_keptK hsp hk (fun g hg hK => by
    obtain ⟨_, k, j, h1, h2⟩ := cL_K hL hK
    exact hL.apart .sp (.bt k j) _ _ (by simp) rfl h1 g hg h2)
  have hro' : ∀ k, k < OL.length → w'.ownsRow base 62 1 (vl k) (OL.getD k []).length ((List.range (OL.getD k []).length).map (vb k)) := fun q hq => own_keptK (hro q hq) hk (fun g hg hK => by
    obtain ⟨_, k, j, h1, h2⟩ := cL_K hL hK
    exact hL.apart (.ro q) (.bt k j) ⟨vl q, 62, 1, (OL.getD q []).length, (List.range (OL.getD q []).length).map (vb q)⟩ _ (by simp) (by simp only [PL]; rw [if_pos hq]) h1 g hg h2)
  have hab' : ∀ o v, w.cell? ⟨ab, o, none⟩ = some v → w'.cell? ⟨ab, o, none⟩ = some v := fun o v hc => hcell ab o v hab hc
  have hBl : Below lim w w' := ⟨hk.os, hk.tape, hk.output, hsz, fun b hb => hk.block b (by omega) (nK b (by omega))⟩
  obtain ⟨sg, scap, rfl, _, _⟩ := hP'.stForm hO
  have hnx : w'.ownsRow (ab + 1) 25 1 nv NL.length ((List.range NL.length).map vr) := hP'.own .nx _ rfl
  obtain ⟨ng, ncap, rfl, _, _⟩ := hnx.form (by omega)
  obtain ⟨lg, lcap, rfl, _, _⟩ := hsp'.form hO
  obtain ⟨hs1, hs2⟩ := hS w' (fun b o hb => by
    cases hc : w.cell? ⟨b, o, none⟩ with
    | some v => exact hcell b o v (by omega) hc
    | none =>
      rw [← hc]
      by_cases hbl : b < w.heap.size
      · exact World.cell?_of_block (w := w) (hk.block b hbl (nK b (by omega)))
      · omega)
  refine ⟨⟨hab' 0 _ hA.t, hab' 1 _ hA.n, hab' 2 _ hA.r, hA.rules.below hBl, Nat.le_trans hA.le hsz, by omega⟩, hab' 3 _ c3, hab' 4 _ c4, hs1, hs2, hab' 6 _ c6, fun i hi => ?_, ?_, fun i hi => ?_, hab' 8 _ c8, fun i hi => ?_, fun i hi => ?_⟩
  · have hI := hP'.itemsOf hi
    obtain ⟨a, c, hv⟩ := hI.1
    have hc := hP'.stCell hi
    simp only [adsOf]
    rw [hv] at hI hc ⊢
    exact ⟨hc, hI⟩
  · have := hab' 7 _ c7
    rw [hNL] at this
    exact this
  · have hr : w'.ownsRow (ab + 1) 3 1 (vr i) (NL.getD i []).length ((NL.getD i []).map (Value.int .i64)) := hP'.own (.rw i) ⟨vr i, 3, 1, (NL.getD i []).length, (NL.getD i []).map (Value.int .i64)⟩ (by simp only [Pb]; rw [if_pos (by omega)])
    rw [hNl i hi] at hr
    obtain ⟨g, cap, hv, _, _⟩ := hr.form hTN
    have hc := hnx.cellAt i (by omega)
    simp only [adsOf]
    rw [hv] at hr ⊢
    refine ⟨?_, fun x hx => ?_⟩
    · show w'.cell? ⟨ng, i, none⟩ = _
      rw [hc]
      simp [show i < NL.length by omega, hv, blkV, capV]
    · show w'.cell? ⟨g, x, none⟩ = _
      rw [hr.cellAt x (by omega)]
      have := hNl i hi
      generalize NL.getD i [] = q at this ⊢
      simp [List.getD, show x < q.length by omega]
  · have hne : 0 < (OL.getD i []).length := List.length_pos_iff.2 (hok.ne i hi)
    obtain ⟨g, cap, hv, _, _⟩ := (hro' i hi).form hne
    have hc := hsp'.cellAt i (by omega)
    have hr := hro' i hi
    simp only [adsOf]
    rw [hv] at hr ⊢
    refine ⟨?_, fun j hj => ?_⟩
    · show w'.cell? ⟨lg, i, none⟩ = _
      rw [hc]
      simp [hi, hv, blkV, capV]
    · show w'.cell? ⟨g, j, none⟩ = _
      rw [hr.cellAt j (by omega), List.getElem?_map, List.getElem?_range hj]
      rfl
  · have hr : w'.ownsRow (ab + 1) 3 1 (vr i) (NL.getD i []).length ((NL.getD i []).map (Value.int .i64)) := hP'.own (.rw i) ⟨vr i, 3, 1, (NL.getD i []).length, (NL.getD i []).map (Value.int .i64)⟩ (by simp only [Pb]; rw [if_pos (by omega)])
    rw [hNl i hi] at hr
    rcases hr.2 with h0 | ⟨g, cap, cur, hv, _, _, hle, _⟩
    · obtain ⟨g, cap, hv', _, _⟩ := hr.form hTN
      rw [hv'] at h0
      simp at h0
    · simp only [adsOf]
      rw [hv]
      exact hle
end

end Go.Proofs.Ytkkcmcckdaobmaa

/- The contract of pollardingref6.cell. -/
namespace Go.Proofs.Ytkkcmcckdaobmaa
open Go.RowKit

/-- A rule is read whole in the state k, and has t as lookahead. -/
def doneF (OL : List (List It)) (R : List Ru) (X : LkX) (k t n : Nat) : Bool := decide ((n, (rightF R n).length) ∈ OL.getD k []) && bit X (k, atN OL k (n, (rightF R n).length)) t
def rulesF (OL : List (List It)) (R : List Ru) (X : LkX) (k t q : Nat) : List Int := ((List.range q).filter (doneF OL R X k t)).map fun n => ((n : Nat) : Int)
def cellF (OL : List (List It)) (NL : List (List Int)) (R : List Ru) (T : Nat) (X : LkX) (k t : Nat) : Ce := (if t < T then (NL.getD k []).getD t 0 else -1, rulesF OL R X k t R.length, doneF OL R X k t R.length)

theorem rulesF_step {OL : List (List It)} {R : List Ru} {X : LkX} {k t q : Nat} : rulesF OL R X k t (q + 1) = rulesF OL R X k t q ++ if doneF OL R X k t q then [(q : Int)] else [] := by
  unfold rulesF
  rw [List.range_succ, List.filter_append, List.map_append]
  congr 1
  cases h : doneF OL R X k t q <;> simp [h]
theorem rulesF_len {OL : List (List It)} {R : List Ru} {X : LkX} {k t q : Nat} : (rulesF OL R X k t q).length ≤ q := by
  unfold rulesF
  rw [List.length_map]
  have := List.length_filter_le (doneF OL R X k t) (List.range q)
  simpa using this

/-- While a cell is made, in the block w.heap.size + 1; what is answered lies in the block w.heap.size. -/
structure CS (w : World) (sh : Int) (L : List Int) (en : Bool) (rv : Value) (wr : World) : Prop where
  below : Below w.heap.size w wr
  size : w.heap.size + 2 ≤ wr.heap.size
  b0 : wr.cell? ⟨w.heap.size + 1, 0, none⟩ = some (.int .i64 sh)
  b1 : wr.cell? ⟨w.heap.size + 1, 1, none⟩ = some rv
  b2 : wr.cell? ⟨w.heap.size + 1, 2, none⟩ = some (.bool en)
  fr : ∀ o, wr.frozen? ⟨w.heap.size + 1, o, none⟩ = false
  a0 : ∃ v, wr.cell? ⟨w.heap.size, 0, none⟩ = some v
  a1 : ∃ v, wr.cell? ⟨w.heap.size, 1, none⟩ = some v
  a2 : ∃ v, wr.cell? ⟨w.heap.size, 2, none⟩ = some v
  af : ∀ o, wr.frozen? ⟨w.heap.size, o, none⟩ = false
  own : wr.ownsRow (w.heap.size + 2) 3 1 rv L.length (L.map (Value.int .i64))

section
variable {w wr : World} {sh : Int} {L : List Int} {en : Bool} {rv : Value}
theorem CS.grow (h : CS w sh L en rv wr) {w' : World} {row : Option Nat} (hg : wr.grownBy w' row) (hr : ∀ b, row = some b → w.heap.size + 2 ≤ b) {L' : List Int} {rv' : Value} (ho : w'.ownsRow (w.heap.size + 2) 3 1 rv' L'.length (L'.map (Value.int .i64))) (hb1 : w'.cell? ⟨w.heap.size + 1, 1, none⟩ = some rv') : CS w sh L' en rv' w' := by
  have hs := h.size
  have hb : ∀ k, k < w.heap.size + 2 → w'.heap[k]? = wr.heap[k]? := fun k hk => hg.block k (by omega) (fun e => by have := hr k e.symm; omega)
  have hc : ∀ k o, k < w.heap.size + 2 → w'.cell? ⟨k, o, none⟩ = wr.cell? ⟨k, o, none⟩ := fun k o hk => World.cell?_of_block (hb k hk)
  have hf : ∀ k o, k < w.heap.size + 2 → w'.frozen? ⟨k, o, none⟩ = wr.frozen? ⟨k, o, none⟩ := fun k o hk => World.frozen?_of_block (hb k hk)
  exact ⟨h.below.trans ⟨hg.os, hg.tape, hg.output, hg.size, fun k hk => hb k (by omega)⟩, Nat.le_trans hs hg.size, (hc _ 0 (by omega)).trans h.b0, hb1, (hc _ 2 (by omega)).trans h.b2, fun o => (hf _ o (by omega)).trans (h.fr o),
    by rw [hc _ 0 (by omega)]; exact h.a0, by rw [hc _ 1 (by omega)]; exact h.a1, by rw [hc _ 2 (by omega)]; exact h.a2, fun o => (hf _ o (by omega)).trans (h.af o), ho⟩
theorem CS.later (h : CS w sh L en rv wr) {w' : World} (hb : Below wr.heap.size wr w') : CS w sh L en rv w' :=
  h.grow (row := none) ⟨hb.os, hb.tape, hb.output, hb.size, fun k hk _ => hb.block k hk⟩ (fun _ e => nomatch e) (own_below h.own hb (fun g hg => (h.own.lt g hg).2)) ((hb.cell (p := ⟨w.heap.size + 1, 1, none⟩) (by have := h.size; simp; omega)).trans h.b1)
theorem CS.setEnd (h : CS w sh L en rv wr) (v : Bool) : CS w sh L v rv (wr.setCell ⟨w.heap.size + 1, 2, none⟩ (.bool v)) := by
  have hB : Below (w.heap.size + 1) wr (wr.setCell ⟨w.heap.size + 1, 2, none⟩ (.bool v)) := Below.setCell (Below.refl _ _) (by simp) _
  have hc : ∀ k o, k ≠ w.heap.size + 1 ∨ o ≠ 2 → (wr.setCell ⟨w.heap.size + 1, 2, none⟩ (.bool v)).cell? ⟨k, o, none⟩ = wr.cell? ⟨k, o, none⟩ := fun k o ho => cell_set_other ho
  refine ⟨h.below.trans (hB.mono (by omega)), by simpa using h.size, (hc _ 0 (.inr (by omega))).trans h.b0, (hc _ 1 (.inr (by omega))).trans h.b1, World.cell?_setCell_same (h := h.b2) .., fun o => by rw [World.frozen?_setCell]; exact h.fr o,
    by rw [hc _ 0 (.inl (by omega))]; exact h.a0, by rw [hc _ 1 (.inl (by omega))]; exact h.a1, by rw [hc _ 2 (.inl (by omega))]; exact h.a2, fun o => by rw [World.frozen?_setCell]; exact h.af o, ?_⟩
  refine ⟨h.own.1, ?_⟩
  rcases h.own.2 with h2 | ⟨g, cap, cur, rfl, h2, h3, h4⟩
  · exact .inl h2
  · exact .inr ⟨g, cap, cur, rfl, h2, by rw [Below.heap_setCell _ _ _ _ (show g ≠ w.heap.size + 1 by omega)]; exact h3, h4⟩
theorem CS.setRules (h : CS w sh L en rv wr) {w' : World} (hg : wr.grownBy w' rv.ownBlock) {L' : List Int} {rv' : Value} (ho : w'.ownsRow (w.heap.size + 2) 3 1 rv' L'.length (L'.map (Value.int .i64))) : CS w sh L' en rv' (w'.setCell ⟨w.heap.size + 1, 1, none⟩ rv') := by
  have hs := h.size
  have hr : ∀ b, rv.ownBlock = some b → w.heap.size + 2 ≤ b := fun b hb => (h.own.lt b hb).1
  have hb : ∀ k, k < w.heap.size + 2 → w'.heap[k]? = wr.heap[k]? := fun k hk => hg.block k (by omega) (fun e => by have := hr k e.symm; omega)
  have hc : ∀ k o, k < w.heap.size + 2 → (k ≠ w.heap.size + 1 ∨ o ≠ 1) → (w'.setCell ⟨w.heap.size + 1, 1, none⟩ rv').cell? ⟨k, o, none⟩ = wr.cell? ⟨k, o, none⟩ := fun k o hk ho => (cell_set_other ho).trans (World.cell?_of_block (hb k hk))
  have hf : ∀ k o, k < w.heap.size + 2 → (w'.setCell ⟨w.heap.size + 1, 1, none⟩ rv').frozen? ⟨k, o, none⟩ = wr.frozen? ⟨k, o, none⟩ := fun k o hk => by rw [World.frozen?_setCell]; exact World.frozen?_of_block (hb k hk)
  have h1 : w'.cell? ⟨w.heap.size + 1, 1, none⟩ = some rv := (World.cell?_of_block (hb (w.heap.size + 1) (by omega))).trans h.b1
  have hB : Below w.heap.size wr (w'.setCell ⟨w.heap.size + 1, 1, none⟩ rv') := Below.setCell ⟨hg.os, hg.tape, hg.output, hg.size, fun k hk => hb k (by omega)⟩ (by simp) _
  refine ⟨h.below.trans hB, by have := hg.size; simp; omega, (hc _ 0 (by omega) (.inr (by omega))).trans h.b0, World.cell?_setCell_same (h := h1) .., (hc _ 2 (by omega) (.inr (by omega))).trans h.b2, fun o => (hf _ o (by omega)).trans (h.fr o),
    by rw [hc _ 0 (by omega) (.inl (by omega))]; exact h.a0, by rw [hc _ 1 (by omega) (.inl (by omega))]; exact h.a1, by rw [hc _ 2 (by omega) (.inl (by omega))]; exact h.a2, fun o => (hf _ o (by omega)).trans (h.af o), ?_⟩
  refine ⟨ho.1, ?_⟩
  rcases ho.2 with h2 | ⟨g, cap, cur, rfl, h2, h3, h4⟩
  · exact .inl h2
  · exact .inr ⟨g, cap, cur, rfl, h2, by rw [Below.heap_setCell _ _ _ _ (show g ≠ w.heap.size + 1 by omega)]; exact h3, h4⟩
end

theorem own_setOther {w : World} {base : Nat} {e : TypeId} {size n : Nat} {v : Value} {xs : List Value} (h : w.ownsRow base e size v n xs) {p : Addr} (hp : p.block < base) (u : Value) : (w.setCell p u).ownsRow base e size v n xs := by
  refine ⟨h.1, ?_⟩
  rcases h.2 with h2 | ⟨g, cap, cur, rfl, h2, h3, h4⟩
  · exact .inl h2
  · exact .inr ⟨g, cap, cur, rfl, h2, by rw [Below.heap_setCell _ _ _ _ (show g ≠ p.block by omega)]; exact h3, h4⟩

theorem cs_start (w : World) (sh : Int) : CS w sh [] false (.slice none 0 0) ((w.alloc (.cells #[.int .i64 0, .slice none 0 0, .bool false] 74)).alloc (.cells #[.int .i64 sh, .slice none 0 0, .bool false] 74)) := by
  refine ⟨((Below.refl _ _).alloc (Nat.le_refl _) _).alloc (by simp) _, by simp, by simp [go_sem], by simp [go_sem], by simp [go_sem], fun o => by simp [go_sem], ⟨.int .i64 0, by simp [go_sem]⟩, ⟨.slice none 0 0, by simp [go_sem]⟩, ⟨.bool false, by simp [go_sem]⟩, fun o => by simp [go_sem], World.ownsRow_nil _ _ _ _⟩

set_option maxRecDepth 100000 in
set_option maxHeartbeats 12800000 in
theorem cell6_any {w : World} {ab lim T N B k t : Nat} {rv nuv fiv : Value} {R : List Ru} {Nu : List Bool} {Fi : List (List Bool)} {OL : List (List It)} {NL : List (List Int)} {Ls : List SetI} {c : Tab (Nat × Nat)} {D : Ads} {X : LkX}
    (hF : ∀ w', Kept c.K w w' → AutoF ab lim T N rv R nuv fiv Nu Fi OL NL c.V D w') (hBt : Bt w B c X) (hok : AutoOk T N R OL NL Ls c.dom) (hR : R.length ≤ 40) (h8 : ∀ r, r ≤ R.length → (rightF R r).length ≤ 8) (hk : k < OL.length) (ht : t ≤ T) :
    Calls Try.prog 15 #[.pointer (some ⟨ab, 0, none⟩), .int .i64 k, .int .i64 t] w fun e w' => ∃ rv', e = .returned (.agg #[.int .i64 (cellF OL NL R T X k t).1, rv', .bool (cellF OL NL R T X k t).2.2]) ∧ Below w.heap.size w w' ∧
      w'.ownsRow w.heap.size 3 1 rv' (cellF OL NL R T X k t).2.1.length ((cellF OL NL R T X k t).2.1.map (Value.int .i64)) := by
  have HF : Hid (∀ w', Kept c.K w w' → AutoF ab lim T N rv R nuv fiv Nu Fi OL NL c.V D w') := hF
  have HBt : Hid (Bt w B c X) := hBt
  have HOk : Hid (AutoOk T N R OL NL Ls c.dom) := hok
  have H8 : Hid (∀ r, r ≤ R.length → (rightF R r).length ≤ 8) := h8
  have hOk369 : (OL.getD k []).length ≤ 369 := by
    have := ok_len h8 (hok.sok.rep k hk).nod (hok.sok.ok k hk)
    omega
  have k0 : (0 : Int) ≤ (k : Int) := Int.natCast_nonneg _
  have k1 : (k : Int) < (OL.length : Int) := by omega
  have t0 : (0 : Int) ≤ (t : Int) := Int.natCast_nonneg _
  have t1 : (t : Int) < (T : Int) + 1 := by omega
  obtain ⟨n0, hn0⟩ : ∃ n0, (OL.getD k []).length = n0 := ⟨_, rfl⟩
  have HN0 : Hid ((OL.getD k []).length = n0) := hn0
  rw [hn0] at hOk369
  obtain ⟨W2, hW2⟩ : ∃ W2, W2 = (w.alloc (.cells #[.int .i64 0, .slice none 0 0, .bool false] 74)).alloc (.cells #[.int .i64 (-1), .slice none 0 0, .bool false] 74) := ⟨_, rfl⟩
  have hB2 : Below w.heap.size w W2 := by rw [hW2]; exact ((Below.refl _ _).alloc (Nat.le_refl _) _).alloc (by simp) _
  have hF2 := hF W2 (Kept.ofBelow hB2)
  have a0 := hF2.auto.t
  have c7 := hF2.c7
  obtain ⟨n1, n2⟩ := hF2.nx k hk
  clear hF hBt hok h8 hn0 hF2
  go_enter Try.func15, Try.ntmps15
  go_upto_region 2 with fail
  rw [hW2] at a0 c7 n1 n2
  clear hW2 hB2
  obtain ⟨sh, hsh⟩ : ∃ sh, (cellF OL NL R T X k t).1 = sh := ⟨_, rfl⟩
  have HSh : Hid ((cellF OL NL R T X k t).1 = sh) := hsh
  go_upto_if 17 with fail
  go_cut [] from 18 to 28 (fun wx => CS w sh [] false (.slice none 0 0) wx)
  case first =>
    by_cases htT : t < T
    · have e1 : (t : Int) < (T : Int) := by omega
      have e2 : (t : Int) < (T : Int) + (N : Int) := by omega
      have n3 := n2 t (by omega)
      have hz : (NL.getD k []).getD t 0 = sh := by rw [← hsh]; simp [cellF, htT]
      rw [hz] at n3
      go_wp2_with fail
      go_meet
      case rel => exact cs_start w sh
    · have e1 : decide ((t : Int) < (T : Int)) = false := decide_eq_false (by omega)
      have hz : sh = -1 := by rw [← hsh]; simp [cellF, htT]
      go_wp2_with fail
      go_meet
      case rel => rw [hz]; exact cs_start w (-1)
  case rest =>
    have HS : Hid (CS w sh [] false (.slice none 0 0) wc) := hcut
    clear hcut a0 c7 n1 n2 hsh
    go_wp2_with fail
    go_loopw [8] (fun s8 wq => ∃ (n : Nat) (rl : Value), s8 = .int .i64 n ∧ n ≤ R.length + 1 ∧ CS w sh (rulesF OL R X k t (min n R.length)) (decide (R.length < n) && doneF OL R X k t R.length) rl wq) (fun s _ => R.length + 1 - (intOf s).toNat)
    case atStart => exact ⟨0, _, rfl, Nat.zero_le _, by simpa [rulesF] using HS.out⟩
    case round =>
      clear HS
      obtain ⟨n, rl, rfl, hn, hS⟩ := hrel
      have HS : Hid (CS w sh (rulesF OL R X k t (min n R.length)) (decide (R.length < n) && doneF OL R X k t R.length) rl wr) := hS
      have HKr : Hid (Kept c.K w wr) := Kept.ofBelow hS.below
      have hFr := HF.out wr (Kept.ofBelow hS.below)
      have a2 := hFr.auto.r
      obtain ⟨ra, rc, hrv⟩ := hFr.auto.rules.1
      subst hrv
      by_cases hnlt : n ≤ R.length
      · have e1 : (n : Int) ≤ (R.length : Int) := by omega
        have c6 := hFr.c6
        obtain ⟨x1, x2⟩ := hFr.st k hk
        rw [HN0.out] at x1
        have right := right6_any (w := wr.drew) ⟨hFr.auto.t, hFr.auto.n, hFr.auto.r, hFr.auto.rules, hFr.auto.le, hFr.auto.lt⟩ hnlt
        have h8' := H8.out n hnlt
        obtain ⟨m, hm⟩ : ∃ m, (rightF R n).length = m := ⟨_, rfl⟩
        have HM : Hid ((rightF R n).length = m) := hm
        rw [hm] at right h8'
        obtain ⟨y, hy⟩ : ∃ y, hasF (OL.getD k []) (n, m) = y := ⟨_, rfl⟩
        have HY : Hid (hasF (OL.getD k []) (n, m) = y) := hy
        have en0 : (decide (R.length < n) && doneF OL R X k t R.length) = false := by simp; omega
        rw [en0] at HS
        have hmin : min n R.length = n := by omega
        rw [hmin] at HS
        clear hS hFr x2 hm en0 hmin hy
        go_wp2_with fail
        refine wp_region_held_tail 10 14 (fun w' => w'.cell? ⟨ab, 6, none⟩ = some (.slice (some ⟨D.sg, 0, none⟩) OL.length D.scap) ∧ w'.cell? ⟨D.sg, k, none⟩ = some (.slice (D.ia k) n0 (D.ic k))) (by kernel_rfl) (by kernel_rfl) ⟨c6, x1⟩ ?_
        simp only [List.take_succ_cons, List.take_zero, List.drop_succ_cons, List.drop_zero]
        iterate 10
          refine StillS.cons (v := ?_) (by rfl) ?_ ?_
          rotate_left
          · intro w' hSw
            obtain ⟨s0', s1'⟩ := hSw
            go_simp
            try with_reducible rfl
          simp only [Act.put, List.setIfInBounds_toArray, List.set_cons_zero, List.set_cons_succ]
        rw [StillS, TailS]
        intro K hK
        go_simp
        go_wp2_with
          (go_at_call 28; refine right.mono ?_; rintro e w2 ⟨la, lc', rfl, _, _, hB2⟩
           have hB2' : Below wr.heap.size wr w2 := (Below.refl _ _).drew.trans hB2
           have hF2 := HF.out w2 (HKr.out.trans (Kept.ofBelow hB2'))
           have y6 := hF2.c6
           obtain ⟨y1, y2⟩ := hF2.st k hk
           have has := has6_any (i := (n, m)) y2 (by rw [HN0.out]; omega)
           rw [HY.out] at has
           rw [HN0.out] at y1 has
           simp only at has
           have HB2 : Hid (Below wr.heap.size wr w2) := hB2'
           clear hB2 hB2' hF2 y2 right)
        refine hK.out _ _ (fun _ => ⟨y6, y1⟩) ?_
        clear hK
        rw [TailS]
        intro K hK
        go_simp
        refine hK.out _ _ (fun _ => ⟨y6, y1⟩) ?_
        clear hK
        rw [TailS]
        intro K hK
        go_simp
        refine hK.out _ _ (fun _ => ⟨y6, y1⟩) ?_
        clear hK
        rw [TailS]
        intro K hK
        go_simp
        go_wp2_with
          (go_at_call 32; refine has.mono ?_; rintro e w3 ⟨rfl, hB3⟩
           have hF3 := HF.out w3 ((HKr.out.trans (Kept.ofBelow HB2.out)).trans (Kept.ofBelow hB3))
           have z6 := hF3.c6
           obtain ⟨z1, _⟩ := hF3.st k hk
           rw [HN0.out] at z1
           have c83 := hF3.c8
           obtain ⟨l1, l2⟩ := hF3.lk k hk
           have a23 := hF3.auto.r
           have HL2 : Hid (∀ j, j < (OL.getD k []).length → w3.cell? ⟨D.kg k, j, none⟩ = some (c.V (k, j))) := l2
           rw [HN0.out] at l1
           have HS3 : Hid (CS w sh (rulesF OL R X k t n) false rl w3) := (HS.out.later HB2.out).later hB3
           have HBt3 : Hid (Bt w3 B c X) := HBt.out.below (HS3.out.below)
           clear hB3 hF3 l2 has)
        refine hK.out _ _ (fun _ => ⟨z6, z1⟩) ?_
        clear hK
        rw [TailS]
        intro K hK
        go_simp
        refine hK.out _ _ (fun h => absurd h (by omega)) ?_
        clear hK
        rw [TailS]
        refine NoPanic.normal ?_
        clear c6 x1 y6 y1 z6 z1 a2
        have hcont : doneF OL R X k t n = false → CS w sh (rulesF OL R X k t (min (n + 1) R.length)) (decide (R.length < n + 1) && doneF OL R X k t R.length) rl w3 := fun hd => by
          have := HS3.out
          by_cases hnR : n = R.length
          · rw [show min (n + 1) R.length = n by omega]
            rw [hnR] at hd this ⊢
            rw [hd, Bool.and_false]
            exact this
          · rw [show min (n + 1) R.length = n + 1 by omega, rulesF_step, hd, show decide (R.length < n + 1) = false from decide_eq_false (by omega)]
            simpa using this
        have HCont : Hid (doneF OL R X k t n = false → CS w sh (rulesF OL R X k t (min (n + 1) R.length)) (decide (R.length < n + 1) && doneF OL R X k t R.length) rl w3) := hcont
        clear hcont
        by_cases hmem : (n, m) ∈ OL.getD k []
        · obtain ⟨f1, _, f3⟩ := hasF_get hmem
          obtain ⟨f, hf⟩ : ∃ f, (hasF (OL.getD k []) (n, m)).toNat = f := ⟨_, rfl⟩
          rw [hf] at f1 f3
          have hyf : y = (f : Int) := by rw [← HY.out]; exact f3
          subst hyf
          have f0 : (0 : Int) ≤ (f : Int) := Int.natCast_nonneg _
          have fneg : decide ((f : Int) < 0) = false := decide_eq_false (by omega)
          have l3 := HL2.out f f1
          have hdomf : c.dom (k, f) = some (T + 1) := by rw [HOk.out.dom, if_pos ⟨hk, f1⟩]
          obtain ⟨g3, cap3, hv3, _, _⟩ := HBt3.out.form hdomf (by omega)
          rw [hv3] at l3
          obtain ⟨l4, _⟩ := HBt3.out.cell hdomf hv3 (m := t) (by omega)
          have hdone : doneF OL R X k t n = bit X (k, f) t := by
            unfold doneF atN
            rw [HM.out, hf, decide_eq_true hmem, Bool.true_and]
          rw [HN0.out] at f1
          have f2 : (f : Int) < (n0 : Int) := by omega
          obtain ⟨b, hb⟩ : ∃ b, bit X (k, f) t = b := ⟨_, rfl⟩
          rw [hb] at l4 hdone
          have HD : Hid (doneF OL R X k t n = b) := hdone
          clear hf f3 hdone hb hv3 hmem
          cases b with
          | false =>
            have HN1 := HCont.out HD.out
            go_wp2_with fail
            go_roundw
            case rel => exact ⟨n + 1, rl, by go_num, by omega, HN1⟩
            case measure => simp [intOf]; omega
          | true =>
            by_cases hnR : n = R.length
            · subst hnR
              have e3 : ((R.length : Int) == (R.length : Int)) = true := by simp
              have b2 := HS3.out.b2
              have bf := HS3.out.fr 2
              have HN1 : Hid (CS w sh (rulesF OL R X k t (min (R.length + 1) R.length)) (decide (R.length < R.length + 1) && doneF OL R X k t R.length) rl (w3.setCell ⟨w.heap.size + 1, 2, none⟩ (.bool true))) := by
                have := HS3.out.setEnd true
                rw [show min (R.length + 1) R.length = R.length by omega, HD.out, show decide (R.length < R.length + 1) = true from decide_eq_true (by omega)]
                exact this
              go_wp2_with fail
              go_roundw
              case rel => exact ⟨R.length + 1, rl, by go_num, by omega, HN1.out⟩
              case measure => simp [intOf]
            · have e3 : ((n : Int) == (R.length : Int)) = false := by simp; omega
              have b1 := HS3.out.b1
              have hLl := rulesF_len (OL := OL) (R := R) (X := X) (k := k) (t := t) (q := n)
              obtain ⟨L, hL⟩ : ∃ L, rulesF OL R X k t n = L := ⟨_, rfl⟩
              have HLn : Hid (rulesF OL R X k t (min (n + 1) R.length) = L ++ [(n : Int)] ∧ (decide (R.length < n + 1) && doneF OL R X k t R.length) = false) := by
                refine ⟨?_, by simp; omega⟩
                rw [show min (n + 1) R.length = n + 1 by omega, rulesF_step, HD.out, hL]
                rfl
              rw [hL] at HS3 hLl
              have HSa : Hid (CS w sh L false rl (w3.alloc (.cells #[.int .i64 n] 3))) := HS3.out.later ((Below.refl _ _).alloc (Nat.le_refl _) _)
              have own5 := HSa.out.own
              have hnw5 := World.news_of_block (cs := #[.int .i64 n]) (t := 3) (fr := (0, 0)) (heap_alloc_new w3 (.cells #[.int .i64 n] 3))
              obtain ⟨i5, hi5, hz8, hz9, hz10⟩ := info_parts Try.infoInt
              have m1 : L.length + 1 ≤ maxLen := by unfold maxLen; omega
              have m2 : (L.length + 1) * 8 ≤ 140737488355328 := by omega
              have hsz := HS3.out.size
              clear hL HCont HD
              go_wp2_with
                (at_builtin
                 refine wpList_append_lies _ rfl _ _ _ rfl (w.heap.size + 2) 3 i5 _ 1 8 Try.underlying25 hi5 hz8 hz9 hz10 rfl (by omega) rl L.length (L.map (Value.int .i64)) rfl own5
                   ⟨w3.heap.size, 0, none⟩ 1 1 [.int .i64 n] rfl rfl hnw5 (by simp [Value.oneCell']) (by omega) m1 m2 (by simp; omega) (w3.heap.size + 1) (by simp) ?_
                 intro g6 cap6 w6 hown6 hgrow6 hat6 hlt6
                 have hb6 : w6.heap[w.heap.size + 1]? = (w3.alloc (.cells #[.int .i64 n] 3)).heap[w.heap.size + 1]? := hgrow6.block _ (by simp; omega) (fun e => by have := (HSa.out.own.lt _ e.symm).1; omega)
                 have b16 : w6.cell? ⟨w.heap.size + 1, 1, none⟩ = some rl := (World.cell?_of_block hb6).trans HSa.out.b1
                 have f16 : w6.frozen? ⟨w.heap.size + 1, 1, none⟩ = false := (World.frozen?_of_block hb6).trans (HSa.out.fr 1)
                 clear hb6)
              have HS6 : Hid (CS w sh (L ++ [(n : Int)]) false (.slice (some ⟨g6, 0, none⟩) (L.length + 1) cap6) (w6.setCell ⟨w.heap.size + 1, 1, none⟩ (.slice (some ⟨g6, 0, none⟩) (L.length + 1) cap6))) := HSa.out.setRules hgrow6 (by simpa using hown6)
              clear hown6 hgrow6 hat6 hlt6 own5 hnw5 hi5 hz8 hz9 hz10 m1 m2
              go_roundw
              case rel => exact ⟨n + 1, _, by go_num, by omega, by rw [HLn.out.1, HLn.out.2]; exact HS6.out⟩
              case measure => simp [intOf]; omega
        · have hy : y = -1 := by
            rcases hasF_range (OL.getD k []) (n, m) with h | h
            · rw [← HY.out]; exact h
            · exact absurd (hasF_mem.1 h) hmem
          subst hy
          have HN1 := HCont.out (by unfold doneF; rw [HM.out, decide_eq_false hmem, Bool.false_and])
          clear hmem
          go_wp2_with fail
          go_roundw
          case rel => exact ⟨n + 1, rl, by go_num, by omega, HN1⟩
          case measure => simp [intOf]; omega
      · obtain rfl : n = R.length + 1 := by omega
        have e1 : decide ((R.length : Int) + 1 ≤ (R.length : Int)) = false := decide_eq_false (by omega)
        have e2 : decide (((R.length + 1 : Nat) : Int) ≤ (R.length : Int)) = false := decide_eq_false (by omega)
        have hfin : CS w sh (cellF OL NL R T X k t).2.1 (cellF OL NL R T X k t).2.2 rl wr := by
          have := HS.out
          rw [show min (R.length + 1) R.length = R.length by omega, show decide (R.length < R.length + 1) = true from decide_eq_true (by omega), Bool.true_and] at this
          exact this
        obtain ⟨la, lc, hrl⟩ := own_form hfin.own
        subst hrl
        obtain ⟨nr, hnr⟩ : ∃ nr, (cellF OL NL R T X k t).2.1.length = nr := ⟨_, rfl⟩
        have HNr : Hid ((cellF OL NL R T X k t).2.1.length = nr) := hnr
        obtain ⟨v0, a0⟩ := hfin.a0
        obtain ⟨v1, a1⟩ := hfin.a1
        obtain ⟨v2, a2'⟩ := hfin.a2
        have g0 := hfin.af 0
        have g1 := hfin.af 1
        have g2 := hfin.af 2
        have b0 := hfin.b0
        have b1 := hfin.b1
        have b2 := hfin.b2
        have HFin : Hid (CS w sh (cellF OL NL R T X k t).2.1 (cellF OL NL R T X k t).2.2 (.slice la (cellF OL NL R T X k t).2.1.length lc) wr) := hfin
        rw [hnr] at b1
        obtain ⟨en, hen⟩ : ∃ en, (cellF OL NL R T X k t).2.2 = en := ⟨_, rfl⟩
        rw [hen] at b2
        have HEn : Hid ((cellF OL NL R T X k t).2.2 = en) := hen
        clear hS hFr hfin hen hnr HS
        go_wp2_with fail
        refine bodyPost_ret (v := .agg #[.int .i64 sh, .slice la nr lc, .bool en]) (by simp [results, Try.results15, go_sem, a0, a1, a2']) rfl ⟨.slice la nr lc, by rw [HSh.out, HEn.out], ?_, ?_⟩
        · exact ((HFin.out.below.setCell (by simp) _).setCell (by simp) _).setCell (by simp) _
        · have h := HFin.out.own
          have h' := own_mono (own_setOther (own_setOther (own_setOther h (p := ⟨w.heap.size, 0, none⟩) (by simp) (.int .i64 sh)) (p := ⟨w.heap.size, 1, none⟩) (by simp) (.slice la nr lc)) (p := ⟨w.heap.size, 2, none⟩) (by simp) (.bool en)) (base' := w.heap.size) (by omega)
          have hn := HNr.out
          rw [hn] at h' ⊢
          exact h'

end Go.Proofs.Ytkkcmcckdaobmaa
