/- How lookaheads lie in memory (pollardingref6.looks). No walk. -/
import Derived.Test.YtchpfdnifbdfpaaSpreadMathAndLooksMath
import Derived.Test.YtchpfdnifbdfpaaSpread6
namespace Go.Proofs.Ytchpfdnifbdfpaa
open Go.RowKit

/-- The great row, a state's row, an item's row, the row that is being made. -/
inductive Lx
  | sp | ro (k : Nat) | bt (k j : Nat) | cur
  deriving DecidableEq

/-- Of m states all is there; of the state m so many rows. -/
def PL (T : Nat) (OL : List (List It)) (lv : Value) (vl : Nat → Value) (vb : Nat → Nat → Value) (m jc : Nat) (cv : Option Value) : Lx → Option Row
  | .sp => some ⟨lv, 38, 1, m, (List.range m).map vl⟩
  | .ro k => if k < m then some ⟨vl k, 37, 1, (OL.getD k []).length, (List.range (OL.getD k []).length).map (vb k)⟩ else none
  | .bt k j => if (k < m ∧ j < (OL.getD k []).length) ∨ (k = m ∧ j < jc) then some ⟨vb k j, 4, 1, T + 1, (List.replicate (T + 1) false).map Value.bool⟩ else none
  | .cur => cv.map fun v => ⟨v, 37, 1, jc, (List.range jc).map (vb m)⟩

/-- Cell 8 of the automaton's block alone has turned, of what was there. -/
structure IC (w : World) (ab : Nat) (lv : Value) (wr : World) : Prop where
  kept : Kept (fun b => b = ab) w wr
  keep : ∀ o, o ≠ 8 → wr.cell? ⟨ab, o, none⟩ = w.cell? ⟨ab, o, none⟩
  fro : ∀ o, wr.frozen? ⟨ab, o, none⟩ = false
  c8 : wr.cell? ⟨ab, 8, none⟩ = some lv

section
variable {w wr : World} {ab lim T N : Nat} {rv sv nv lv : Value} {R : List Ru} {vi vr : Nat → Value} {OL : List (List It)} {NL : List (List Int)}

theorem IC.grow (h : IC w ab lv wr) (hab : ab < w.heap.size) {w' : World} {row : Option Nat} (hg : wr.grownBy w' row) (hr : ∀ b, row = some b → w.heap.size ≤ b) : IC w ab lv w' := by
  have hs := h.kept.size
  have hb : w'.heap[ab]? = wr.heap[ab]? := hg.block ab (by omega) (fun e => by have := hr ab e.symm; omega)
  have hc : ∀ o, w'.cell? ⟨ab, o, none⟩ = wr.cell? ⟨ab, o, none⟩ := fun o => World.cell?_of_block hb
  exact ⟨⟨hg.os.trans h.kept.os, hg.tape.trans h.kept.tape, hg.output.trans h.kept.output, Nat.le_trans hs hg.size, fun k hk hK => (hg.block k (by omega) (fun e => by have := hr k e.symm; omega)).trans (h.kept.block k hk hK)⟩,
    fun o ho => (hc o).trans (h.keep o ho), fun o => (World.frozen?_of_block hb).trans (h.fro o), (hc 8).trans h.c8⟩
theorem IC.later (h : IC w ab lv wr) (hab : ab < w.heap.size) {w' : World} (hb : Below wr.heap.size wr w') : IC w ab lv w' :=
  h.grow hab (row := none) ⟨hb.os, hb.tape, hb.output, hb.size, fun k hk _ => hb.block k hk⟩ (fun _ e => nomatch e)
theorem IC.set8 (h : IC w ab lv wr) (u : Value) : IC w ab u (wr.setCell ⟨ab, 8, none⟩ u) :=
  ⟨h.kept.setCell rfl u, fun o ho => (cell_set_other (.inr ho)).trans (h.keep o ho), fun o => by rw [World.frozen?_setCell]; exact h.fro o, World.cell?_setCell_same (h := h.c8) ..⟩

theorem IC.auto (h : IC w ab lv wr) (hA : AutoG w lim ab T N rv R) (hl : lim ≤ ab) : AutoG wr lim ab T N rv R := by
  have hs := h.kept.size
  have hlt := hA.lt
  have hB : Below lim w wr := ⟨h.kept.os, h.kept.tape, h.kept.output, hs, fun k hk => h.kept.block k (by omega) (by omega)⟩
  exact ⟨(h.keep 0 (by omega)).trans hA.t, (h.keep 1 (by omega)).trans hA.n, (h.keep 2 (by omega)).trans hA.r, hA.rules.below hB, Nat.le_trans hA.le hs, by omega⟩

theorem IC.owns {ι : Type} {P : ι → Option Row} (h : IC w ab lv wr) (ho : Owns w (ab + 1) P) : Owns wr (ab + 1) P := by
  refine ⟨fun i r hi => ?_, ho.apart⟩
  have hr := ho.own i r hi
  refine ⟨hr.1, ?_⟩
  rcases hr.2 with h2 | ⟨g, cap, cur, hv, hg, hh, rest⟩
  · exact .inl h2
  · have hgl := (ho.lt hi (by rw [hv]; rfl : r.v.ownBlock = some g)).2
    exact .inr ⟨g, cap, cur, hv, hg, (h.kept.block g hgl (by omega)).trans hh, rest⟩
end

theorem owns_nothingL (w : World) (base : Nat) : Owns (ι := Lx) w base (fun _ => none) := ⟨fun _ _ h => (nomatch h), fun _ _ _ _ _ h => (nomatch h)⟩

section
variable {w : World} {base T m jc : Nat} {OL : List (List It)} {lv : Value} {vl : Nat → Value} {vb : Nat → Nat → Value}

/-- Nothing yet of the next state. -/
theorem PL_nil (h : Owns w base (PL T OL lv vl vb m 0 none)) : Owns w base (PL T OL lv vl vb m 0 (some (.slice none 0 0))) := by
  have := h.newer (i := Lx.cur) (r := ⟨.slice none 0 0, 37, 1, 0, []⟩) ⟨rfl, rfl, rfl, Nat.le_refl _, fun _ _ _ => rfl⟩ (World.ownsRow_nil w base 37 1) (fun g hg => by simp [Value.ownBlock] at hg)
  have e : upd (PL T OL lv vl vb m 0 none) Lx.cur ⟨.slice none 0 0, 37, 1, 0, []⟩ = PL T OL lv vl vb m 0 (some (.slice none 0 0)) := by
    funext i
    cases i <;> simp [upd, PL]
  rwa [e] at this

/-- A new row of truths, and the row that holds it has grown. -/
theorem PL_row {w' : World} {cv cv' v : Value} (h : Owns w base (PL T OL lv vl vb m jc (some cv))) {w1 : World} (hg1 : w.grownBy w1 none) (hv : w1.ownsRow base 4 1 v (T + 1) ((List.replicate (T + 1) false).map Value.bool)) (hvb : ∀ g, v.ownBlock = some g → w.heap.size ≤ g)
    (hg : w1.grownBy w' cv.ownBlock) (hown : w'.ownsRow base 37 1 cv' (jc + 1) ((List.range jc).map (vb m) ++ [v])) (hat : ∀ g, cv'.ownBlock = some g → cv.ownBlock = some g ∨ g = w1.heap.size) :
    Owns w' base (PL T OL lv vl (fun k j => if k = m ∧ j = jc then v else vb k j) m (jc + 1) (some cv')) := by
  have h1 := h.newer (i := Lx.bt m jc) (r := ⟨v, 4, 1, T + 1, (List.replicate (T + 1) false).map Value.bool⟩) hg1 hv hvb
  have h2 := h1.turn (i := Lx.cur) (r := ⟨cv, 37, 1, jc, (List.range jc).map (vb m)⟩) (r' := ⟨cv', 37, 1, jc + 1, (List.range jc).map (vb m) ++ [v]⟩) (by rw [upd_other _ (by simp)]; rfl) hg hown hat
  have e : upd (upd (PL T OL lv vl vb m jc (some cv)) (Lx.bt m jc) ⟨v, 4, 1, T + 1, (List.replicate (T + 1) false).map Value.bool⟩) Lx.cur ⟨cv', 37, 1, jc + 1, (List.range jc).map (vb m) ++ [v]⟩ = PL T OL lv vl (fun k j => if k = m ∧ j = jc then v else vb k j) m (jc + 1) (some cv') := by
    funext i
    cases i with
    | sp => simp [upd, PL]
    | cur =>
      simp only [upd, if_true, PL, Option.map_some]
      have := range_snoc (vb m) jc v
      simp only [true_and]
      rw [this]
    | ro k =>
      simp only [upd, PL, reduceCtorEq, if_false]
      split
      · rename_i hk
        congr 2
        refine List.map_congr_left fun j _ => ?_
        rw [if_neg (fun e => by have := e.1; omega)]
      · rfl
    | bt k j =>
      simp only [upd, PL, reduceCtorEq, if_false, Lx.bt.injEq]
      by_cases hkj : k = m ∧ j = jc
      · rw [if_pos hkj, if_pos hkj, if_pos (.inr ⟨hkj.1, by omega⟩)]
      · rw [if_neg hkj, if_neg hkj]
        by_cases hc : (k < m ∧ j < (OL.getD k []).length) ∨ (k = m ∧ j < jc)
        · rw [if_pos hc, if_pos (hc.imp id fun h => ⟨h.1, by omega⟩)]
        · rw [if_neg hc, if_neg]
          rintro (h | ⟨h, h'⟩)
          · exact hc (.inl h)
          · exact hc (.inr ⟨h, by
              rcases Nat.lt_succ_iff_lt_or_eq.1 h' with h' | h'
              · exact h'
              · exact absurd ⟨h, h'⟩ hkj⟩)
  rwa [e] at h2

/-- A state more is whole. -/
theorem PL_state {w' : World} {lv' cv : Value} (hjc : jc = (OL.getD m []).length) (h : Owns w base (PL T OL lv vl vb m jc (some cv))) (hg : w.grownBy w' lv.ownBlock) (hown : w'.ownsRow base 38 1 lv' (m + 1) ((List.range m).map vl ++ [cv])) (hat : ∀ g, lv'.ownBlock = some g → lv.ownBlock = some g ∨ g = w.heap.size) :
    Owns w' base (PL T OL lv' (fun k => if k = m then cv else vl k) vb (m + 1) 0 none) := by
  subst hjc
  have h1 := h.turn (i := Lx.sp) (r' := ⟨lv', 38, 1, m + 1, (List.range m).map vl ++ [cv]⟩) rfl hg hown hat
  have sub : ∀ i r, PL T OL lv' (fun k => if k = m then cv else vl k) vb (m + 1) 0 none i = some r →
      ∃ j, (j = i ∨ (i = .ro m ∧ j = .cur)) ∧ upd (PL T OL lv vl vb m (OL.getD m []).length (some cv)) .sp ⟨lv', 38, 1, m + 1, (List.range m).map vl ++ [cv]⟩ j = some r := fun i r hi => by
    cases i with
    | sp =>
      refine ⟨.sp, .inl rfl, ?_⟩
      rw [upd_same, ← hi]
      simp only [PL, range_snoc]
    | cur => cases hi
    | ro k =>
      simp only [PL] at hi
      split at hi
      · rename_i hk
        by_cases hkm : k = m
        · subst hkm
          refine ⟨.cur, .inr ⟨rfl, rfl⟩, ?_⟩
          rw [upd_other _ (by simp), ← hi, if_pos rfl]
          rfl
        · refine ⟨.ro k, .inl rfl, ?_⟩
          rw [upd_other _ (by simp), ← hi, if_neg hkm]
          exact if_pos (by omega)
      · cases hi
    | bt k j =>
      refine ⟨.bt k j, .inl rfl, ?_⟩
      rw [upd_other _ (by simp), ← hi]
      simp only [PL]
      by_cases hc : (k < m + 1 ∧ j < (OL.getD k []).length) ∨ (k = m + 1 ∧ j < 0)
      · rw [if_pos hc, if_pos]
        rcases hc with ⟨h1, h2⟩ | ⟨_, h2⟩
        · rcases Nat.lt_succ_iff_lt_or_eq.1 h1 with h1 | h1
          · exact .inl ⟨h1, h2⟩
          · exact .inr ⟨h1, by rw [← h1]; exact h2⟩
        · exact absurd h2 (Nat.not_lt_zero _)
      · rw [if_neg hc, if_neg]
        rintro (⟨h1, h2⟩ | ⟨h1, h2⟩)
        · exact hc (.inl ⟨by omega, h2⟩)
        · exact hc (.inl ⟨by omega, by rw [h1]; exact h2⟩)
  refine ⟨fun i r hi => ?_, fun i j a b hij ha hb g ga gb => ?_⟩
  · obtain ⟨i', _, e⟩ := sub i r hi
    exact h1.own i' r e
  · obtain ⟨i', ei, ha'⟩ := sub i a ha
    obtain ⟨j', ej, hb'⟩ := sub j b hb
    refine h1.apart i' j' a b ?_ ha' hb' g ga gb
    intro e
    rcases ei with rfl | ⟨rfl, rfl⟩
    · rcases ej with rfl | ⟨rfl, rfl⟩
      · exact hij e
      · subst e; cases ha
    · rcases ej with rfl | ⟨rfl, rfl⟩
      · subst e; cases hb
      · exact hij rfl

theorem PL_start (w : World) (base : Nat) : Owns w base (PL T OL (.slice none 0 0) vl vb 0 0 none) := by
  have := (owns_nothingL w base).newer (i := Lx.sp) (r := ⟨.slice none 0 0, 38, 1, 0, []⟩) ⟨rfl, rfl, rfl, Nat.le_refl _, fun _ _ _ => rfl⟩ (World.ownsRow_nil w base 38 1) (fun g hg => by simp [Value.ownBlock] at hg)
  have e : upd (fun _ => none) Lx.sp ⟨.slice none 0 0, 38, 1, 0, []⟩ = PL T OL (.slice none 0 0) vl vb 0 0 none := by
    funext i
    cases i <;> simp [upd, PL]
  rwa [e] at this
end

/-! ### All that can be read, once it is made -/

/-- Where the rows of truths lie. -/
def cL (T : Nat) (OL : List (List It)) (vb : Nat → Nat → Value) : Tab (Nat × Nat) := ⟨fun p => vb p.1 p.2, fun p => if p.1 < OL.length ∧ p.2 < (OL.getD p.1 []).length then some (T + 1) else none⟩
def adrV : Value → Option Addr
  | .slice a _ _ => a
  | _ => none
def capV : Value → Nat
  | .slice _ _ c => c
  | _ => 0
def blkV : Value → Nat
  | .slice (some a) _ _ => a.block
  | _ => 0
def adsOf (sv nv lv : Value) (vi vr vl : Nat → Value) : Ads := ⟨blkV sv, capV sv, blkV nv, capV nv, blkV lv, capV lv, fun i => adrV (vi i), fun i => capV (vi i), fun i => blkV (vr i), fun i => capV (vr i), fun i => blkV (vl i), fun i => capV (vl i)⟩

section
variable {w w' : World} {base ab lim T N : Nat} {OL : List (List It)} {NL : List (List Int)} {rv sv nv lv nuv fiv : Value} {vi vr vl : Nat → Value} {vb : Nat → Nat → Value} {R : List Ru} {Nu : List Bool} {Fi : List (List Bool)}

theorem PL_bt (h : Owns w base (PL T OL lv vl vb OL.length 0 none)) : Bt w base (cL T OL vb) (fun _ => List.replicate (T + 1) false) := by
  have sub : ∀ (p : Nat × Nat) r, (cL T OL vb).P (fun _ => List.replicate (T + 1) false) p = some r → PL T OL lv vl vb OL.length 0 none (.bt p.1 p.2) = some r := fun p r hp => by
    simp only [Tab.P, cL] at hp
    split at hp
    · rename_i hc
      rw [← hp]
      simp only [PL, Option.map_some]
      rw [if_pos (.inl hc)]
    · cases hp
  exact ⟨fun p r hp => Owns.own h _ r (sub p r hp), fun p q a b hpq ha hb => Owns.apart h _ _ a b (fun e => hpq (by cases p; cases q; cases e; rfl)) (sub p a ha) (sub q b hb)⟩

theorem cL_K (h : Owns w base (PL T OL lv vl vb OL.length 0 none)) {g : Nat} (hK : (cL T OL vb).K g) : base ≤ g ∧ ∃ k j, PL T OL lv vl vb OL.length 0 none (.bt k j) = some ⟨vb k j, 4, 1, T + 1, (List.replicate (T + 1) false).map Value.bool⟩ ∧ (vb k j).ownBlock = some g := by
  refine ⟨(PL_bt h).ge hK, ?_⟩
  obtain ⟨⟨k, j⟩, n, hd, hb⟩ := hK
  simp only [cL] at hd
  split at hd
  · rename_i hc
    exact ⟨k, j, by simp only [PL]; rw [if_pos (.inl hc)], hb⟩
  · cases hd

/-- A row that no truth lies in stays. -/
theorem own_keptK {K : Nat → Prop} {e : TypeId} {size n : Nat} {v : Value} {xs : List Value} (h : w.ownsRow base e size v n xs) (hk : Kept K w w') (hv : ∀ g, v.ownBlock = some g → ¬ K g) : w'.ownsRow base e size v n xs := by
  have hl := fun g hg => (h.lt g hg).2
  refine ⟨h.1, ?_⟩
  rcases h.2 with h2 | ⟨g, cap, cur, rfl, h2, h3, h4⟩
  · exact .inl h2
  · exact .inr ⟨g, cap, cur, rfl, h2, (hk.block g (hl g rfl) (hv g rfl)).trans h3, h4⟩

/-- The automaton, and its lookaheads' rows, in whatever world in which truths alone have turned. -/
theorem autoF_stable {Ls : List SetI} (hA : AutoG w lim ab T N rv R) (hlim : lim ≤ ab) (hab : ab < base) (hbase : base ≤ w.heap.size) (c6 : w.cell? ⟨ab, 6, none⟩ = some sv) (c7 : w.cell? ⟨ab, 7, none⟩ = some nv) (c8 : w.cell? ⟨ab, 8, none⟩ = some lv) (c3 : w.cell? ⟨ab, 3, none⟩ = some nuv) (c4 : w.cell? ⟨ab, 4, none⟩ = some fiv)
    (hP : Owns w (ab + 1) (Pb sv nv vi vr OL NL none none)) (hPl : ∀ i r g, Pb sv nv vi vr OL NL none none i = some r → r.v.ownBlock = some g → g < base) (hL : Owns w base (PL T OL lv vl vb OL.length 0 none))
    (hS : ∀ w', (∀ b o, b < ab → w'.cell? ⟨b, o, none⟩ = w.cell? ⟨b, o, none⟩) → BoolsAt w' nuv Nu ∧ MatAt w' fiv Fi) (hok : SOk R OL Ls) (hO : 0 < OL.length) (hNL : NL.length = OL.length) (hNl : ∀ k, k < OL.length → (NL.getD k []).length = T + N) (hTN : 0 < T + N) (hk : Kept (cL T OL vb).K w w') :
    AutoF ab lim T N rv R nuv fiv Nu Fi OL NL (cL T OL vb).V (adsOf sv nv lv vi vr vl) w' := by
  have nK : ∀ b, b < base → ¬ (cL T OL vb).K b := fun b hb hK => by have := (cL_K hL hK).1; omega
  have hcell : ∀ b o v, b < base → w.cell? ⟨b, o, none⟩ = some v → w'.cell? ⟨b, o, none⟩ = some v := fun b o v hb hc => hk.cell (p := ⟨b, o, none⟩) (nK b hb) hc
  have hsz := hk.size
  have hP' : Owns w' (ab + 1) (Pb sv nv vi vr OL NL none none) := ⟨fun i r hi => own_keptK (hP.own i r hi) hk (fun g hg => nK g (hPl i r g hi hg)), hP.apart⟩
  have hsp := hL.own .sp _ rfl
  have hro : ∀ k, k < OL.length → w.ownsRow base 37 1 (vl k) (OL.getD k []).length ((List.range (OL.getD k []).length).map (vb k)) := fun k hk => hL.own (.ro k) ⟨vl k, 37, 1, (OL.getD k []).length, (List.range (OL.getD k []).length).map (vb k)⟩ (by simp only [PL]; rw [if_pos hk])
  have hsp' : w'.ownsRow base 38 1 lv OL.length ((List.range OL.length).map vl) := own_keptK hsp hk (fun g hg hK => by
    obtain ⟨_, k, j, h1, h2⟩ := cL_K hL hK
    exact hL.apart .sp (.bt k j) _ _ (by simp) rfl h1 g hg h2)
  have hro' : ∀ k, k < OL.length → w'.ownsRow base 37 1 (vl k) (OL.getD k []).length ((List.range (OL.getD k []).length).map (vb k)) := fun q hq => own_keptK (hro q hq) hk (fun g hg hK => by
    obtain ⟨_, k, j, h1, h2⟩ := cL_K hL hK
    exact hL.apart (.ro q) (.bt k j) ⟨vl q, 37, 1, (OL.getD q []).length, (List.range (OL.getD q []).length).map (vb q)⟩ _ (by simp) (by simp only [PL]; rw [if_pos hq]) h1 g hg h2)
  have hab' : ∀ o v, w.cell? ⟨ab, o, none⟩ = some v → w'.cell? ⟨ab, o, none⟩ = some v := fun o v hc => hcell ab o v hab hc
  have hBl : Below lim w w' := ⟨hk.os, hk.tape, hk.output, hsz, fun b hb => hk.block b (by omega) (nK b (by omega))⟩
  obtain ⟨sg, scap, rfl, _, _⟩ := hP'.stForm hO
  have hnx : w'.ownsRow (ab + 1) 58 1 nv NL.length ((List.range NL.length).map vr) := hP'.own .nx _ rfl
  obtain ⟨ng, ncap, rfl, _, _⟩ := hnx.form (by omega)
  obtain ⟨lg, lcap, rfl, _, _⟩ := hsp'.form hO
  obtain ⟨hs1, hs2⟩ := hS w' (fun b o hb => by
    cases hc : w.cell? ⟨b, o, none⟩ with
    | some v => exact hcell b o v (by omega) hc
    | none =>
      rw [← hc]
      by_cases hbl : b < w.heap.size
      · exact World.cell?_of_block (w := w) (hk.block b hbl (nK b (by omega)))
      · omega)
  refine ⟨⟨hab' 0 _ hA.t, hab' 1 _ hA.n, hab' 2 _ hA.r, hA.rules.below hBl, Nat.le_trans hA.le hsz, by omega⟩, hab' 3 _ c3, hab' 4 _ c4, hs1, hs2, hab' 6 _ c6, fun i hi => ?_, ?_, fun i hi => ?_, hab' 8 _ c8, fun i hi => ?_, fun i hi => ?_⟩
  · have hI := hP'.itemsOf hi
    obtain ⟨a, c, hv⟩ := hI.1
    have hc := hP'.stCell hi
    simp only [adsOf]
    rw [hv] at hI hc ⊢
    exact ⟨hc, hI⟩
  · have := hab' 7 _ c7
    rw [hNL] at this
    exact this
  · have hr : w'.ownsRow (ab + 1) 3 1 (vr i) (NL.getD i []).length ((NL.getD i []).map (Value.int .i64)) := hP'.own (.rw i) ⟨vr i, 3, 1, (NL.getD i []).length, (NL.getD i []).map (Value.int .i64)⟩ (by simp only [Pb]; rw [if_pos (by omega)])
    rw [hNl i hi] at hr
    obtain ⟨g, cap, hv, _, _⟩ := hr.form hTN
    have hc := hnx.cellAt i (by omega)
    simp only [adsOf]
    rw [hv] at hr ⊢
    refine ⟨?_, fun x hx => ?_⟩
    · show w'.cell? ⟨ng, i, none⟩ = _
      rw [hc]
      simp [show i < NL.length by omega, hv, blkV, capV]
    · show w'.cell? ⟨g, x, none⟩ = _
      rw [hr.cellAt x (by omega)]
      have := hNl i hi
      generalize NL.getD i [] = q at this ⊢
      simp [List.getD, show x < q.length by omega]
  · have hne : 0 < (OL.getD i []).length := List.length_pos_iff.2 (hok.ne i hi)
    obtain ⟨g, cap, hv, _, _⟩ := (hro' i hi).form hne
    have hc := hsp'.cellAt i (by omega)
    have hr := hro' i hi
    simp only [adsOf]
    rw [hv] at hr ⊢
    refine ⟨?_, fun j hj => ?_⟩
    · show w'.cell? ⟨lg, i, none⟩ = _
      rw [hc]
      simp [hi, hv, blkV, capV]
    · show w'.cell? ⟨g, j, none⟩ = _
      rw [hr.cellAt j (by omega), List.getElem?_map, List.getElem?_range hj]
      rfl
  · have hr : w'.ownsRow (ab + 1) 3 1 (vr i) (NL.getD i []).length ((NL.getD i []).map (Value.int .i64)) := hP'.own (.rw i) ⟨vr i, 3, 1, (NL.getD i []).length, (NL.getD i []).map (Value.int .i64)⟩ (by simp only [Pb]; rw [if_pos (by omega)])
    rw [hNl i hi] at hr
    rcases hr.2 with h0 | ⟨g, cap, cur, hv, _, _, hle, _⟩
    · obtain ⟨g, cap, hv', _, _⟩ := hr.form hTN
      rw [hv'] at h0
      simp at h0
    · simp only [adsOf]
      rw [hv]
      exact hle
end

end Go.Proofs.Ytchpfdnifbdfpaa
