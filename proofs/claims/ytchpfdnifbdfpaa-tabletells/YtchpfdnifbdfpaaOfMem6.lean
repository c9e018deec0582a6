/- How a table lies in memory while it is made (pollardingref6.Of). No walk. -/
import Derived.Test.YtchpfdnifbdfpaaCell6
namespace Go.Proofs.Ytchpfdnifbdfpaa
open Go.RowKit

/-- The two great rows; a state's cells, where it goes on by names; a cell's rules; the row that is being made. -/
inductive Tx
  | cs | gs | cr (k : Nat) | gr (k : Nat) | rl (k n : Nat) | cur
  deriving DecidableEq

/-- The cells of a row: three places each; f: where their rules lie. -/
def flatC (f : Nat → Value) (L : List Ce) : List Value := (List.range L.length).flatMap fun n => [.int .i64 (L.getD n (0, [], false)).1, f n, .bool (L.getD n (0, [], false)).2.2]

theorem flatC_get {f : Nat → Value} {L : List Ce} {k : Nat} (hk : k < L.length) : (flatC f L)[k * 3]? = some (.int .i64 (L.getD k (0, [], false)).1) ∧ (flatC f L)[k * 3 + 1]? = some (f k) ∧ (flatC f L)[k * 3 + 2]? = some (.bool (L.getD k (0, [], false)).2.2) := by
  unfold flatC
  have len : ∀ m, ((List.range m).flatMap fun n => [Value.int .i64 (L.getD n (0, [], false)).1, f n, Value.bool (L.getD n (0, [], false)).2.2]).length = m * 3 := by
    intro m
    induction m with
    | zero => rfl
    | succ m ih => rw [List.range_succ, List.flatMap_append, List.length_append, ih]; simp; omega
  have main : ∀ m, k < m → ∀ o, o < 3 → ((List.range m).flatMap fun n => [Value.int .i64 (L.getD n (0, [], false)).1, f n, Value.bool (L.getD n (0, [], false)).2.2])[k * 3 + o]? = [Value.int .i64 (L.getD k (0, [], false)).1, f k, Value.bool (L.getD k (0, [], false)).2.2][o]? := by
    intro m
    induction m with
    | zero => intro h; omega
    | succ m ih =>
      intro h o ho
      rw [List.range_succ, List.flatMap_append]
      rcases Nat.lt_succ_iff_lt_or_eq.1 h with h | rfl
      · rw [List.getElem?_append_left (by rw [len]; omega)]
        exact ih h o ho
      · rw [List.getElem?_append_right (by rw [len]; omega), len]
        simp
  refine ⟨?_, ?_, ?_⟩
  · have := main _ hk 0 (by omega); simpa using this
  · have := main _ hk 1 (by omega); simpa using this
  · have := main _ hk 2 (by omega); simpa using this

theorem flatC_snoc {f : Nat → Value} {L : List Ce} {c : Ce} {v : Value} : flatC (fun n => if n = L.length then v else f n) (L ++ [c]) = flatC f L ++ [.int .i64 c.1, v, .bool c.2.2] := by
  unfold flatC
  rw [List.length_append, List.length_cons, List.length_nil, List.range_succ, List.flatMap_append]
  congr 1
  · simp only [List.flatMap_def]
    congr 1
    refine List.map_congr_left fun n hn => ?_
    have hn' := List.mem_range.1 hn
    rw [if_neg (by omega)]
    have : (L ++ [c]).getD n (0, [], false) = L.getD n (0, [], false) := by simp [List.getD, List.getElem?_append_left hn']
    rw [this]
  · simp [List.getD]

theorem own_list {w : World} {base n : Nat} {v : Value} {X : List Int} (h : w.ownsRow base 3 1 v n (X.map (Value.int .i64))) : ListAt w w.heap.size v X := by
  have hl : X.length = n := by simpa using h.1
  obtain ⟨a, c, hv⟩ := own_form h
  refine ⟨⟨a, c, by rw [hv, hl]⟩, fun i hi => ?_⟩
  obtain ⟨g, cap, rfl, _, _⟩ := h.form (by omega)
  refine ⟨g, 0, cap, by rw [hl], (h.lt g rfl).2, ?_⟩
  rw [Nat.zero_add, h.cellAt i (by omega)]
  simp [List.getD, hi]

/-- C, G: what is there; L: the row that is being made (of the state C.length), v: its value. -/
def PT (cv gv : Value) (vc vg : Nat → Value) (vr : Nat → Nat → Value) (C : List (List Ce)) (G : List (List Int)) (cur : Option (Value × List Ce)) : Tx → Option Row
  | .cs => some ⟨cv, 57, 1, C.length, (List.range C.length).map vc⟩
  | .gs => some ⟨gv, 58, 1, G.length, (List.range G.length).map vg⟩
  | .cr k => if k < C.length then some ⟨vc k, 60, 3, (C.getD k []).length, flatC (vr k) (C.getD k [])⟩ else none
  | .gr k => if k < G.length then some ⟨vg k, 3, 1, (G.getD k []).length, (G.getD k []).map (Value.int .i64)⟩ else none
  | .rl k n => if k < C.length then (if n < (C.getD k []).length then some ⟨vr k n, 3, 1, ((C.getD k []).getD n (0, [], false)).2.1.length, ((C.getD k []).getD n (0, [], false)).2.1.map (Value.int .i64)⟩ else none)
    else if k = C.length then (match cur with | none => none | some p => if n < p.2.length then some ⟨vr k n, 3, 1, (p.2.getD n (0, [], false)).2.1.length, (p.2.getD n (0, [], false)).2.1.map (Value.int .i64)⟩ else none) else none
  | .cur => cur.map fun p => ⟨p.1, 60, 3, p.2.length, flatC (vr C.length) p.2⟩

section
variable {w : World} {base : Nat} {cv gv : Value} {vc vg : Nat → Value} {vr : Nat → Nat → Value} {C : List (List Ce)} {G : List (List Int)}

/-- What is whole can be read. -/
theorem PT_tab (h : Owns w base (PT cv gv vc vg vr C G none)) : TabAt w cv gv C G := by
  refine ⟨?_, ?_⟩
  · have hh : w.ownsRow base 57 1 cv C.length ((List.range C.length).map vc) := h.own .cs _ rfl
    obtain ⟨a, c, hv⟩ := own_form hh
    refine ⟨⟨a, c, hv⟩, fun i hi => ?_⟩
    obtain ⟨g, cap, rfl, _, _⟩ := hh.form (by omega)
    refine ⟨g, 0, cap, vc i, rfl, by rw [Nat.zero_add, hh.cellAt i (by omega)]; simp [hi], ?_⟩
    have hr : w.ownsRow base 60 3 (vc i) (C.getD i []).length (flatC (vr i) (C.getD i [])) := h.own (.cr i) ⟨vc i, 60, 3, (C.getD i []).length, flatC (vr i) (C.getD i [])⟩ (if_pos hi)
    obtain ⟨a', c', hv'⟩ := own_form hr
    refine ⟨⟨a', c', hv'⟩, fun k hk => ?_⟩
    obtain ⟨g', cap', hv'', _, _⟩ := hr.form (by omega)
    rw [hv''] at hr
    obtain ⟨e1, e2, e3⟩ := flatC_get (f := vr i) hk
    have hrl : w.ownsRow base 3 1 (vr i k) ((C.getD i []).getD k (0, [], false)).2.1.length (((C.getD i []).getD k (0, [], false)).2.1.map (Value.int .i64)) := h.own (.rl i k) ⟨vr i k, 3, 1, ((C.getD i []).getD k (0, [], false)).2.1.length, ((C.getD i []).getD k (0, [], false)).2.1.map (Value.int .i64)⟩ (by simp only [PT]; rw [if_pos hi, if_pos hk])
    refine ⟨g', 0, cap', vr i k, hv'', by rw [Nat.zero_add, hr.cellAt _ (by omega)]; exact e1, by rw [Nat.zero_add, hr.cellAt _ (by omega)]; exact e2, ?_, by rw [Nat.zero_add, hr.cellAt _ (by omega)]; exact e3⟩
    exact own_list hrl
  · have hh : w.ownsRow base 58 1 gv G.length ((List.range G.length).map vg) := h.own .gs _ rfl
    obtain ⟨a, c, hv⟩ := own_form hh
    refine ⟨⟨a, c, hv⟩, fun i hi => ?_⟩
    obtain ⟨g, cap, rfl, _, _⟩ := hh.form (by omega)
    have hr : w.ownsRow base 3 1 (vg i) (G.getD i []).length ((G.getD i []).map (Value.int .i64)) := h.own (.gr i) ⟨vg i, 3, 1, (G.getD i []).length, (G.getD i []).map (Value.int .i64)⟩ (if_pos hi)
    exact ⟨g, 0, cap, vg i, rfl, by rw [Nat.zero_add, hh.cellAt i (by omega)]; simp [hi], own_list hr⟩

theorem PT_start (w : World) (base : Nat) : Owns w base (PT (.slice none 0 0) (.slice none 0 0) vc vg vr [] [] none) := by
  have h0 : Owns (ι := Tx) w base (fun _ => none) := ⟨fun _ _ h => (nomatch h), fun _ _ _ _ _ h => (nomatch h)⟩
  have h1 := h0.newer (i := Tx.cs) (r := ⟨.slice none 0 0, 57, 1, 0, []⟩) ⟨rfl, rfl, rfl, Nat.le_refl _, fun _ _ _ => rfl⟩ (World.ownsRow_nil w base 57 1) (fun g hg => by simp [Value.ownBlock] at hg)
  have h2 := h1.newer (i := Tx.gs) (r := ⟨.slice none 0 0, 58, 1, 0, []⟩) ⟨rfl, rfl, rfl, Nat.le_refl _, fun _ _ _ => rfl⟩ (World.ownsRow_nil w base 58 1) (fun g hg => by simp [Value.ownBlock] at hg)
  have e : upd (upd (fun _ => none) Tx.cs ⟨.slice none 0 0, 57, 1, 0, []⟩) Tx.gs ⟨.slice none 0 0, 58, 1, 0, []⟩ = PT (.slice none 0 0) (.slice none 0 0) vc vg vr [] [] none := by
    funext i
    cases i <;> simp [upd, PT]
  rwa [e] at h2

theorem PT_nil (h : Owns w base (PT cv gv vc vg vr C G none)) : Owns w base (PT cv gv vc vg vr C G (some (.slice none 0 0, []))) := by
  have h1 := h.newer (i := Tx.cur) (r := ⟨.slice none 0 0, 60, 3, 0, []⟩) ⟨rfl, rfl, rfl, Nat.le_refl _, fun _ _ _ => rfl⟩ (World.ownsRow_nil w base 60 3) (fun g hg => by simp [Value.ownBlock] at hg)
  have e : upd (PT cv gv vc vg vr C G none) Tx.cur ⟨.slice none 0 0, 60, 3, 0, []⟩ = PT cv gv vc vg vr C G (some (.slice none 0 0, [])) := by
    funext i
    cases i with
    | rl k n => simp [upd, PT]
    | cur => simp [upd, PT, flatC]
    | cs => simp [upd, PT]
    | gs => simp [upd, PT]
    | cr k => simp [upd, PT]
    | gr k => simp [upd, PT]
  rwa [e] at h1

/-- One cell more in the row that is being made. -/
theorem PT_cell {w1 w' : World} {v v' rl : Value} {L : List Ce} {c : Ce} (h : Owns w base (PT cv gv vc vg vr C G (some (v, L)))) (hg1 : w.grownBy w1 none) (hr : w1.ownsRow base 3 1 rl c.2.1.length (c.2.1.map (Value.int .i64))) (hrb : ∀ g, rl.ownBlock = some g → w.heap.size ≤ g)
    (hg : w1.grownBy w' v.ownBlock) (hown : w'.ownsRow base 60 3 v' (L.length + 1) (flatC (vr C.length) L ++ [.int .i64 c.1, rl, .bool c.2.2])) (hat : ∀ g, v'.ownBlock = some g → v.ownBlock = some g ∨ g = w1.heap.size) :
    Owns w' base (PT cv gv vc vg (fun k n => if k = C.length ∧ n = L.length then rl else vr k n) C G (some (v', L ++ [c]))) := by
  have h1 := h.newer (i := Tx.rl C.length L.length) (r := ⟨rl, 3, 1, c.2.1.length, c.2.1.map (Value.int .i64)⟩) hg1 hr hrb
  have h2 := h1.turn (i := Tx.cur) (r := ⟨v, 60, 3, L.length, flatC (vr C.length) L⟩) (r' := ⟨v', 60, 3, L.length + 1, flatC (vr C.length) L ++ [.int .i64 c.1, rl, .bool c.2.2]⟩) (by rw [upd_other _ (by simp)]; rfl) hg hown hat
  have e : upd (upd (PT cv gv vc vg vr C G (some (v, L))) (Tx.rl C.length L.length) ⟨rl, 3, 1, c.2.1.length, c.2.1.map (Value.int .i64)⟩) Tx.cur ⟨v', 60, 3, L.length + 1, flatC (vr C.length) L ++ [.int .i64 c.1, rl, .bool c.2.2]⟩ = PT cv gv vc vg (fun k n => if k = C.length ∧ n = L.length then rl else vr k n) C G (some (v', L ++ [c])) := by
    funext i
    cases i with
    | cs => simp [upd, PT]
    | gs => simp [upd, PT]
    | gr k => simp [upd, PT]
    | cur =>
      simp only [upd, if_true, PT, Option.map_some, true_and]
      rw [flatC_snoc]
      simp
    | cr k =>
      simp only [upd, PT, reduceCtorEq, if_false]
      split
      · rename_i hk
        have : (fun n => if k = C.length ∧ n = L.length then rl else vr k n) = vr k := by
          funext n
          rw [if_neg (fun e => by have := e.1; omega)]
        rw [this]
      · rfl
    | rl k n =>
      simp only [upd, PT, reduceCtorEq, if_false, Tx.rl.injEq]
      by_cases hkn : k = C.length ∧ n = L.length
      · obtain ⟨rfl, rfl⟩ := hkn
        simp only [and_self, if_true, Nat.lt_irrefl, if_false, List.length_append, List.length_cons, List.length_nil]
        rw [if_pos (by omega)]
        simp [List.getD]
      · rw [if_neg hkn, if_neg hkn]
        by_cases hk : k < C.length
        · rw [if_pos hk, if_pos hk]
        · rw [if_neg hk, if_neg hk]
          by_cases hk' : k = C.length
          · rw [if_pos hk', if_pos hk']
            have hnL : n ≠ L.length := fun e => hkn ⟨hk', e⟩
            by_cases hn : n < L.length
            · rw [if_pos hn, if_pos (by simp; omega)]
              have : (L ++ [c]).getD n (0, [], false) = L.getD n (0, [], false) := by simp [List.getD, List.getElem?_append_left hn]
              rw [this]
            · rw [if_neg hn, if_neg (by simp; omega)]
          · rw [if_neg hk', if_neg hk']
  rwa [e] at h2

/-- The row is whole. -/
theorem PT_row {w' : World} {v cv' : Value} {L : List Ce} (h : Owns w base (PT cv gv vc vg vr C G (some (v, L)))) (hg : w.grownBy w' cv.ownBlock) (hown : w'.ownsRow base 57 1 cv' (C.length + 1) ((List.range C.length).map vc ++ [v])) (hat : ∀ g, cv'.ownBlock = some g → cv.ownBlock = some g ∨ g = w.heap.size) :
    Owns w' base (PT cv' gv (fun k => if k = C.length then v else vc k) vg vr (C ++ [L]) G none) := by
  have h1 := h.turn (i := Tx.cs) (r' := ⟨cv', 57, 1, C.length + 1, (List.range C.length).map vc ++ [v]⟩) rfl hg hown hat
  have gl : ∀ k, k < C.length → (C ++ [L]).getD k [] = C.getD k [] := fun k hk => by simp [List.getD, List.getElem?_append_left hk]
  have gm : (C ++ [L]).getD C.length [] = L := by simp [List.getD]
  have sub : ∀ i r, PT cv' gv (fun k => if k = C.length then v else vc k) vg vr (C ++ [L]) G none i = some r →
      ∃ j, (j = i ∨ (i = .cr C.length ∧ j = .cur)) ∧ upd (PT cv gv vc vg vr C G (some (v, L))) .cs ⟨cv', 57, 1, C.length + 1, (List.range C.length).map vc ++ [v]⟩ j = some r := fun i r hi => by
    cases i with
    | cs =>
      refine ⟨.cs, .inl rfl, ?_⟩
      rw [upd_same, ← hi]
      simp only [PT, List.length_append, List.length_cons, List.length_nil, Nat.zero_add, range_snoc]
    | gs => exact ⟨.gs, .inl rfl, by rw [upd_other _ (by simp)]; exact hi⟩
    | gr k => exact ⟨.gr k, .inl rfl, by rw [upd_other _ (by simp)]; exact hi⟩
    | cur => cases hi
    | cr k =>
      simp only [PT, List.length_append, List.length_cons, List.length_nil, Nat.zero_add] at hi
      split at hi
      · rename_i hk
        by_cases hkl : k = C.length
        · subst hkl
          refine ⟨.cur, .inr ⟨rfl, rfl⟩, ?_⟩
          rw [upd_other _ (by simp), ← hi, if_pos rfl, gm]
          rfl
        · have hk' : k < C.length := by omega
          refine ⟨.cr k, .inl rfl, ?_⟩
          rw [upd_other _ (by simp), ← hi, if_neg hkl, gl k hk']
          exact if_pos hk'
      · cases hi
    | rl k n =>
      refine ⟨.rl k n, .inl rfl, ?_⟩
      rw [upd_other _ (by simp), ← hi]
      simp only [PT, List.length_append, List.length_cons, List.length_nil, Nat.zero_add]
      by_cases hk : k < C.length
      · rw [if_pos hk, if_pos (show k < C.length + 1 by omega), gl k hk]
      · by_cases hk' : k = C.length
        · subst hk'
          rw [if_neg hk, if_pos rfl, if_pos (show C.length < C.length + 1 by omega), gm]
        · rw [if_neg hk, if_neg hk', if_neg (show ¬ k < C.length + 1 by omega)]
          split <;> rfl
  refine ⟨fun i r hi => ?_, fun i j a b hij ha hb g ga gb => ?_⟩
  · obtain ⟨i', _, e⟩ := sub i r hi
    exact h1.own i' r e
  · obtain ⟨i', ei, ha'⟩ := sub i a ha
    obtain ⟨j', ej, hb'⟩ := sub j b hb
    refine h1.apart i' j' a b ?_ ha' hb' g ga gb
    intro e
    rcases ei with rfl | ⟨rfl, rfl⟩
    · rcases ej with rfl | ⟨rfl, rfl⟩
      · exact hij e
      · subst e; cases ha
    · rcases ej with rfl | ⟨rfl, rfl⟩
      · subst e; cases hb
      · exact hij rfl

/-- A row more of where names go on. -/
theorem PT_goto {w1 w' : World} {v gv' : Value} {Y : List Int} (h : Owns w base (PT cv gv vc vg vr C G none)) (hg1 : w.grownBy w1 none) (hr : w1.ownsRow base 3 1 v Y.length (Y.map (Value.int .i64))) (hrb : ∀ g, v.ownBlock = some g → w.heap.size ≤ g)
    (hg : w1.grownBy w' gv.ownBlock) (hown : w'.ownsRow base 58 1 gv' (G.length + 1) ((List.range G.length).map vg ++ [v])) (hat : ∀ g, gv'.ownBlock = some g → gv.ownBlock = some g ∨ g = w1.heap.size) :
    Owns w' base (PT cv gv' vc (fun k => if k = G.length then v else vg k) vr C (G ++ [Y]) none) := by
  have h1 := h.newer (i := Tx.gr G.length) (r := ⟨v, 3, 1, Y.length, Y.map (Value.int .i64)⟩) hg1 hr hrb
  have h2 := h1.turn (i := Tx.gs) (r := ⟨gv, 58, 1, G.length, (List.range G.length).map vg⟩) (r' := ⟨gv', 58, 1, G.length + 1, (List.range G.length).map vg ++ [v]⟩) (by rw [upd_other _ (by simp)]; rfl) hg hown hat
  have e : upd (upd (PT cv gv vc vg vr C G none) (Tx.gr G.length) ⟨v, 3, 1, Y.length, Y.map (Value.int .i64)⟩) Tx.gs ⟨gv', 58, 1, G.length + 1, (List.range G.length).map vg ++ [v]⟩ = PT cv gv' vc (fun k => if k = G.length then v else vg k) vr C (G ++ [Y]) none := by
    funext i
    cases i with
    | cs => simp [upd, PT]
    | cur => simp [upd, PT]
    | cr k => simp [upd, PT]
    | rl k n => simp [upd, PT]
    | gs => simp only [upd, if_true, PT, List.length_append, List.length_cons, List.length_nil, Nat.zero_add, range_snoc]
    | gr k =>
      simp only [upd, PT, reduceCtorEq, if_false, Tx.gr.injEq, List.length_append, List.length_cons, List.length_nil, Nat.zero_add]
      by_cases hk : k = G.length
      · subst hk
        rw [if_pos rfl, if_pos (by omega), if_pos rfl]
        simp [List.getD]
      · rw [if_neg hk]
        by_cases hk' : k < G.length
        · have : (G ++ [Y]).getD k [] = G.getD k [] := by simp [List.getD, List.getElem?_append_left hk']
          rw [if_pos hk', if_pos (by omega), if_neg hk, this]
        · rw [if_neg hk', if_neg (by omega)]
  rwa [e] at h2
end

end Go.Proofs.Ytchpfdnifbdfpaa
