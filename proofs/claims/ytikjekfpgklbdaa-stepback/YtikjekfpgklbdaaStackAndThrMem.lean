import Derived.Test.YtikjekfpgklbdaaMathAndOwns
import Derived.OwnWalk
/- Plain: a derivation read by a stack of what is still to come is read as by recursion. No program, no memory. -/
namespace Go.Proofs.Ytikjekfpgklbdaa

/-- What is still to come: a symbol, or the end of the rule of a span. -/
inductive Jt where
  | sym (s : Sy)
  | close (k : Nat)

/-- Where a span ends is written. -/
def St.shut (st : St) (k : Nat) : St := { st with S := st.S.set k ((st.S.getD k (0, 0, 0)).1, (st.S.getD k (0, 0, 0)).2.1, st.Y.length) }

/-- What comes of all that is still to come, the next one first. -/
def fin (R : List Ru) (D : List Int) : List Jt → St → Option St
  | [], st => some st
  | .close k :: K, st => fin R D K (st.shut k)
  | .sym (true, v) :: K, st => fin R D K { st with Y := st.Y ++ [v] }
  | .sym (false, n) :: K, st =>
    match nameF R D (D.length - st.pos) n st with
    | none => none
    | some st' => fin R D K st'

theorem symsF_congr {f g : Int → St → Option St} (p : St → Prop) (hp : ∀ st n st', p st → f n st = some st' → p st') (hY : ∀ st Y, p st → p { st with Y := Y }) (h : ∀ n st, p st → f n st = g n st) :
    ∀ (l : List Sy) (st : St), p st → symsF f l st = symsF g l st := by
  intro l
  induction l with
  | nil => intro st _; rfl
  | cons s r ih =>
    intro st hst
    obtain ⟨b, v⟩ := s
    cases b with
    | true => simp only [symsF]; exact ih _ (hY _ _ hst)
    | false =>
      simp only [symsF]
      rw [← h v st hst]
      cases hf : f v st with
      | none => rfl
      | some st' => exact ih _ (hp _ _ _ hst hf)

theorem nameF_pos {R : List Ru} {D : List Int} {k : Nat} {n : Int} {st st' : St} (h : nameF R D k n st = some st') : st.pos < st'.pos :=
  (nameF_grew (M := ((R.map fun r => r.2.length).foldr max 0)) (fun q => by
    by_cases hq : q < R.length
    · have : R.getD q (0, []) ∈ R := by simp [List.getD, hq]
      generalize R.getD q (0, []) = r at this
      clear hq h
      induction R with
      | nil => cases this
      | cons a t ih =>
        simp only [List.map_cons, List.foldr_cons]
        cases this with
        | head => exact Nat.le_max_left _ _
        | tail _ hm => exact Nat.le_trans (ih hm) (Nat.le_max_right _ _)
    · simp [List.getD, List.getElem?_eq_none (by omega : R.length ≤ q)]) k n st st' h).2.1

theorem nameF_past {R : List Ru} {D : List Int} {n : Int} {st : St} (h : D.length ≤ st.pos) : ∀ k, nameF R D k n st = none := by
  intro k
  cases k with
  | zero => rfl
  | succ k =>
    have hn : nextF R D n st.pos = none := by simp [nextF, List.getElem?_eq_none h]
    simp [nameF, hn]

/-- More fuel tells no more. -/
theorem nameF_fuel {R : List Ru} {D : List Int} : ∀ (k k' : Nat) (n : Int) (st : St), D.length - st.pos ≤ k → D.length - st.pos ≤ k' → nameF R D k n st = nameF R D k' n st := by
  intro k
  induction k with
  | zero =>
    intro k' n st h _
    rw [nameF_past (by omega), nameF_past (by omega)]
  | succ k ih =>
    intro k' n st h h'
    cases k' with
    | zero => rw [nameF_past (by omega), nameF_past (by omega)]
    | succ k' =>
      simp only [nameF]
      cases hq : nextF R D n st.pos with
      | none => rfl
      | some q =>
        simp only
        rw [symsF_congr (f := nameF R D k) (g := nameF R D k') (fun x => D.length - x.pos ≤ k ∧ D.length - x.pos ≤ k') ?_ ?_ ?_ _ _ ?_]
        · intro x n' x' hx hf
          have := nameF_pos hf
          omega
        · intro x Y hx; exact hx
        · intro n' x hx
          exact ih k' n' x hx.1 hx.2
        · simp only; omega

theorem fin_syms {R : List Ru} {D : List Int} (k : Nat) : ∀ (l : List Sy) (K : List Jt) (st : St), D.length - st.pos ≤ k →
    fin R D (l.map Jt.sym ++ K) st = match symsF (nameF R D k) l st with
      | none => none
      | some st' => fin R D K st' := by
  intro l
  induction l with
  | nil => intro K st _; simp [symsF]
  | cons s r ih =>
    intro K st h
    obtain ⟨b, v⟩ := s
    cases b with
    | true =>
      simp only [List.map_cons, List.cons_append, fin, symsF]
      exact ih K _ h
    | false =>
      simp only [List.map_cons, List.cons_append, fin, symsF]
      rw [nameF_fuel (D.length - st.pos) k v st (Nat.le_refl _) h]
      cases hf : nameF R D k v st with
      | none => rfl
      | some st' =>
        have := nameF_pos hf
        exact ih K st' (by omega)

theorem maxR (R : List Ru) : ∀ q, (R.getD q (0, [])).2.length ≤ ((R.map fun r => r.2.length).foldr max 0) := fun q => by
  by_cases hq : q < R.length
  · have : R.getD q (0, []) ∈ R := by simp [List.getD, hq]
    generalize R.getD q (0, []) = r at this
    clear hq
    induction R with
    | nil => cases this
    | cons a t ih =>
      simp only [List.map_cons, List.foldr_cons]
      cases this with
      | head => exact Nat.le_max_left _ _
      | tail _ hm => exact Nat.le_trans (ih hm) (Nat.le_max_right _ _)
  · simp [List.getD, List.getElem?_eq_none (by omega : R.length ≤ q)]

/-- One rule is opened. -/
theorem fin_open {R : List Ru} {D : List Int} {n : Int} {q : Nat} {K : List Jt} {st : St} (hq : nextF R D n st.pos = some q) (hS : st.S.length = st.pos) :
    fin R D (.sym (false, n) :: K) st = fin R D ((R.getD q (0, [])).2.map Jt.sym ++ .close st.pos :: K) { pos := st.pos + 1, Y := st.Y, S := st.S ++ [((q : Int), st.Y.length, 0)] } := by
  have hlt : st.pos < D.length := by
    obtain ⟨h1, _, _⟩ := nextF_some hq
    rcases Nat.lt_or_ge st.pos D.length with h | h
    · exact h
    · rw [List.getElem?_eq_none h] at h1; cases h1
  obtain ⟨k, hk⟩ : ∃ k, D.length - st.pos = k + 1 := ⟨D.length - st.pos - 1, by omega⟩
  rw [fin, hk, fin_syms k _ _ _ (by simp only; omega)]
  cases hs : symsF (nameF R D k) (R.getD q (0, [])).2 { pos := st.pos + 1, Y := st.Y, S := st.S ++ [((q : Int), st.Y.length, 0)] } with
  | none => rw [nameF_none hq rfl hs]
  | some st' =>
    rw [nameF_some hq rfl hs]
    simp only [fin]
    have g := symsF_grew (M := ((R.map fun r => r.2.length).foldr max 0)) (D := D) (f := nameF R D k) (fun n st st' h => ?_) _ _ _ hs
    · obtain ⟨T, hT, _, _⟩ := g.seg
      simp only [List.append_assoc, List.singleton_append] at hT
      have hp : st'.S[st.S.length]? = some ((q : Int), st.Y.length, 0) := by rw [hT]; simp
      have : st'.shut st.pos = { st' with S := st'.S.set st.S.length ((q : Int), st.Y.length, st'.Y.length) } := by
        unfold St.shut
        rw [← hS]
        simp [List.getD, hp]
      rw [this]
    · exact (nameF_grew (maxR R) k n st st' h).1

theorem fin_stuck {R : List Ru} {D : List Int} {n : Int} {K : List Jt} {st : St} (hq : nextF R D n st.pos = none) : fin R D (.sym (false, n) :: K) st = none := by
  rw [fin]
  cases h : D.length - st.pos with
  | zero => rfl
  | succ k => simp [nameF, hq]

/-- What the stack tells of the whole is what readF tells. -/
theorem readF_fin {R : List Ru} {D : List Int} (hD : D.length ≤ 400) : readF R D = match fin R D [.sym (false, 0)] { pos := 0, Y := [], S := [] } with
    | none => none
    | some st => if st.pos < D.length then none else some st := by
  unfold readF
  rw [if_neg (by omega), fin, Nat.sub_zero]
  cases nameF R D D.length 0 { pos := 0, Y := [], S := [] } <;> rfl

end Go.Proofs.Ytikjekfpgklbdaa

/- How pollardingref1.Through lies in memory while it goes through a list: its tokens, its spans, and what is still to come. No walk. -/
namespace Go.Proofs.Ytikjekfpgklbdaa
open Go.RowKit

/-- A list of spans as cells. -/
def flat (S : List Sp) : List Value := S.flatMap fun t => [.int .i64 t.1, .int .i64 t.2.1, .int .i64 t.2.2]

theorem flat_append (S T : List Sp) : flat (S ++ T) = flat S ++ flat T := by simp [flat]

theorem flat_get {S : List Sp} {i : Nat} {t : Sp} (h : S[i]? = some t) :
    (flat S)[i * 3]? = some (.int .i64 t.1) ∧ (flat S)[i * 3 + 1]? = some (.int .i64 t.2.1) ∧ (flat S)[i * 3 + 2]? = some (.int .i64 t.2.2) := by
  induction S generalizing i with
  | nil => simp at h
  | cons a r ih =>
    cases i with
    | zero =>
      simp only [List.getElem?_cons_zero, Option.some.injEq] at h
      subst h
      simp [flat]
    | succ i =>
      simp only [List.getElem?_cons_succ] at h
      obtain ⟨h1, h2, h3⟩ := ih h
      have e : flat (a :: r) = [.int .i64 a.1, .int .i64 a.2.1, .int .i64 a.2.2] ++ flat r := by simp [flat]
      rw [e]
      refine ⟨?_, ?_, ?_⟩
      · rw [List.getElem?_append_right (by simp; omega), ← h1]; congr 1; simp; omega
      · rw [List.getElem?_append_right (by simp; omega), ← h2]; congr 1; simp; omega
      · rw [List.getElem?_append_right (by simp; omega), ← h3]; congr 1; simp; omega

theorem flat_set {S : List Sp} {i : Nat} {t : Sp} (v : Nat) (h : S[i]? = some t) : (flat S).set (i * 3 + 2) (.int .i64 v) = flat (S.set i (t.1, t.2.1, v)) := by
  induction S generalizing i with
  | nil => simp at h
  | cons a r ih =>
    have e : ∀ a r, flat (a :: r) = [.int .i64 a.1, .int .i64 a.2.1, .int .i64 a.2.2] ++ flat r := fun a r => by simp [flat]
    cases i with
    | zero =>
      simp only [List.getElem?_cons_zero, Option.some.injEq] at h
      subst h
      simp [flat]
    | succ i =>
      simp only [List.getElem?_cons_succ] at h
      rw [List.set_cons_succ, e, e, List.set_append_right _ _ (by simp; omega), ← ih h]
      congr 2
      simp; omega

/-- What is still to come, as cells. -/
def ic : Jt → List Value
  | .sym s => [.bool s.1, .int .i64 s.2, .bool false, .int .i64 0]
  | .close k => [.bool false, .int .i64 0, .bool true, .int .i64 k]

def flatO (M : List Jt) : List Value := M.flatMap ic

theorem ic_length (x : Jt) : (ic x).length = 4 := by cases x <;> rfl

theorem flatO_length (M : List Jt) : (flatO M).length = M.length * 4 := by
  unfold flatO
  induction M with
  | nil => rfl
  | cons a r ih => simp only [List.flatMap_cons, List.length_append, List.length_cons, ic_length, ih]; omega

theorem flatO_append (M K : List Jt) : flatO (M ++ K) = flatO M ++ flatO K := by simp [flatO]

theorem flatO_top (M : List Jt) (x : Jt) (i : Nat) (h : i < 4) : (flatO (M ++ [x]))[M.length * 4 + i]? = (ic x)[i]? := by
  rw [flatO_append, List.getElem?_append_right (by rw [flatO_length]; omega), flatO_length]
  simp [flatO]

/-- Tokens tv, spans sv, what is to come ov: each owns its own row; nothing below B has turned since W. -/
structure TI (W : World) (B : Nat) (w : World) (st : St) (M : List Jt) (tv sv ov : Value) : Prop where
  below : Below B W w
  le : B ≤ w.heap.size
  ownT : w.ownsRow B 3 1 tv st.Y.length (st.Y.map (Value.int .i64))
  ownS : w.ownsRow B 57 3 sv st.S.length (flat st.S)
  ownO : w.ownsRow B 54 4 ov M.length (flatO M)
  ts : ∀ g, tv.ownBlock = some g → sv.ownBlock = some g → False
  ta : ∀ g, tv.ownBlock = some g → ov.ownBlock = some g → False
  sa : ∀ g, sv.ownBlock = some g → ov.ownBlock = some g → False

theorem not_row {a b : Value} (h : ∀ g, a.ownBlock = some g → b.ownBlock = some g → False) : a.ownBlock = none ∨ a.ownBlock ≠ b.ownBlock := by
  cases e : a.ownBlock with
  | none => exact .inl rfl
  | some k => exact .inr fun e' => h k e e'.symm

section
variable {W : World} {B : Nat} {w : World} {st : St} {M : List Jt} {tv sv ov : Value}

theorem TI.drewN (h : TI W B w st M tv sv ov) (m : Nat) : TI W B (w.drewN m) st M tv sv ov :=
  ⟨below_drewN h.below m, h.le, h.ownT, h.ownS, h.ownO, h.ts, h.ta, h.sa⟩

theorem TI.pos (h : TI W B w st M tv sv ov) (p : Nat) : TI W B w { st with pos := p } M tv sv ov :=
  ⟨h.below, h.le, h.ownT, h.ownS, h.ownO, h.ts, h.ta, h.sa⟩

theorem TI.alloc (h : TI W B w st M tv sv ov) (o : Obj) : TI W B (w.alloc o) st M tv sv ov :=
  ⟨h.below.alloc h.le o, by simp; have := h.le; omega, h.ownT.alloc o, h.ownS.alloc o, h.ownO.alloc o, h.ts, h.ta, h.sa⟩

theorem TI.pushT (h : TI W B w st M tv sv ov) {w1 : World} {g cap : Nat} {x : Int} (hg : w.grownBy w1 tv.ownBlock)
    (hown : w1.ownsRow B 3 1 (.slice (some ⟨g, 0, none⟩) (st.Y.length + 1) cap) (st.Y.length + 1) (st.Y.map (Value.int .i64) ++ [.int .i64 x])) (hat : tv.ownBlock = some g ∨ g = w.heap.size) :
    TI W B w1 { st with Y := st.Y ++ [x] } M (.slice (some ⟨g, 0, none⟩) (st.Y.length + 1) cap) sv ov := by
  have hle := h.le
  have hsz := hg.size
  refine ⟨h.below.grown hg h.le (fun k hk => (h.ownT.lt k hk).1), by omega, by simpa using hown, h.ownS.kept hg (not_row fun g a b => h.ts g b a), h.ownO.kept hg (not_row fun g a b => h.ta g b a), fun k h1 h2 => ?_, fun k h1 h2 => ?_, h.sa⟩
  · simp only [Value.ownBlock, Option.some.injEq] at h1
    subst h1
    rcases hat with hat | hat
    · exact h.ts _ hat h2
    · have := (h.ownS.lt _ h2).2; omega
  · simp only [Value.ownBlock, Option.some.injEq] at h1
    subst h1
    rcases hat with hat | hat
    · exact h.ta _ hat h2
    · have := (h.ownO.lt _ h2).2; omega

theorem TI.pushS (h : TI W B w st M tv sv ov) {w1 : World} {g cap : Nat} {t : Sp} (hg : w.grownBy w1 sv.ownBlock)
    (hown : w1.ownsRow B 57 3 (.slice (some ⟨g, 0, none⟩) (st.S.length + 1) cap) (st.S.length + 1) (flat st.S ++ [.int .i64 t.1, .int .i64 t.2.1, .int .i64 t.2.2])) (hat : sv.ownBlock = some g ∨ g = w.heap.size) :
    TI W B w1 { st with S := st.S ++ [t] } M tv (.slice (some ⟨g, 0, none⟩) (st.S.length + 1) cap) ov := by
  have hle := h.le
  have hsz := hg.size
  refine ⟨h.below.grown hg h.le (fun k hk => (h.ownS.lt k hk).1), by omega, h.ownT.kept hg (not_row h.ts), by rw [flat_append]; simpa [flat] using hown, h.ownO.kept hg (not_row fun g a b => h.sa g b a), fun k h1 h2 => ?_, h.ta, fun k h1 h2 => ?_⟩
  · simp only [Value.ownBlock, Option.some.injEq] at h2
    subst h2
    rcases hat with hat | hat
    · exact h.ts _ h1 hat
    · have := (h.ownT.lt _ h1).2; omega
  · simp only [Value.ownBlock, Option.some.injEq] at h1
    subst h1
    rcases hat with hat | hat
    · exact h.sa _ hat h2
    · have := (h.ownO.lt _ h2).2; omega

theorem TI.pushO (h : TI W B w st M tv sv ov) {w1 : World} {g cap : Nat} {x : Jt} (hg : w.grownBy w1 ov.ownBlock)
    (hown : w1.ownsRow B 54 4 (.slice (some ⟨g, 0, none⟩) (M.length + 1) cap) (M.length + 1) (flatO M ++ ic x)) (hat : ov.ownBlock = some g ∨ g = w.heap.size) :
    TI W B w1 st (M ++ [x]) tv sv (.slice (some ⟨g, 0, none⟩) (M.length + 1) cap) := by
  have hle := h.le
  have hsz := hg.size
  refine ⟨h.below.grown hg h.le (fun k hk => (h.ownO.lt k hk).1), by omega, h.ownT.kept hg (not_row h.ta), h.ownS.kept hg (not_row h.sa), by rw [flatO_append]; simpa [flatO] using hown, h.ts, fun k h1 h2 => ?_, fun k h1 h2 => ?_⟩
  · simp only [Value.ownBlock, Option.some.injEq] at h2
    subst h2
    rcases hat with hat | hat
    · exact h.ta _ h1 hat
    · have := (h.ownT.lt _ h1).2; omega
  · simp only [Value.ownBlock, Option.some.injEq] at h2
    subst h2
    rcases hat with hat | hat
    · exact h.sa _ h1 hat
    · have := (h.ownS.lt _ h1).2; omega

theorem TI.popO {og n cap : Nat} {x : Jt} (h : TI W B w st (M ++ [x]) tv sv (.slice (some ⟨og, 0, none⟩) n cap)) : TI W B w st M tv sv (.slice (some ⟨og, 0, none⟩) M.length cap) := by
  refine ⟨h.below, h.le, h.ownT, h.ownS, ?_, h.ts, h.ta, h.sa⟩
  have hO := h.ownO
  have hn : n = M.length + 1 := by
    rcases hO.2 with ⟨h', _⟩ | ⟨_, _, _, h', _⟩
    · cases h'
    · simp only [Value.slice.injEq] at h'; simpa using h'.2.1
  subst hn
  rw [flatO_append] at hO
  exact ownsRow_pop (flatO_length M) (by simpa using hO)

theorem TI.setTo {sg n cap : Nat} (h : TI W B w st M tv (.slice (some ⟨sg, 0, none⟩) n cap) ov) {k : Nat} (hk : k < st.S.length) :
    TI W B (w.setCell ⟨sg, k * 3 + 2, none⟩ (.int .i64 st.Y.length)) (st.shut k) M tv (.slice (some ⟨sg, 0, none⟩) n cap) ov := by
  have hn : n = st.S.length := by
    rcases h.ownS.2 with ⟨h', _⟩ | ⟨_, _, _, h', _⟩
    · cases h'
    · simp only [Value.slice.injEq] at h'; exact h'.2.1
  subst hn
  obtain ⟨hown, hg⟩ := h.ownS.stored (k * 3 + 2) (.int .i64 st.Y.length)
  have hgr := h.ownS.lt sg rfl
  obtain ⟨t, ht⟩ : ∃ t, st.S[k]? = some t := ⟨st.S[k], by simp [hk]⟩
  refine ⟨h.below.grown hg h.le (fun j hj => by cases hj; exact hgr.1), by simpa using h.le, h.ownT.kept hg ?_, ?_, h.ownO.kept hg ?_, h.ts, h.ta, h.sa⟩
  · exact not_row (b := .slice (some ⟨sg, 0, none⟩) st.S.length cap) h.ts
  · rw [flat_set _ ht] at hown
    simpa [St.shut, List.getD, ht] using hown
  · exact not_row (b := .slice (some ⟨sg, 0, none⟩) st.S.length cap) fun g a b => h.sa g b a
end

end Go.Proofs.Ytikjekfpgklbdaa
