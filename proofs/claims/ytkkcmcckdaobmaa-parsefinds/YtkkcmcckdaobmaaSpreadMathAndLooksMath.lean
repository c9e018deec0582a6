import Derived.Test.YtkkcmcckdaobmaaBuildMathAndBehind6
import Derived.Test.YtkkcmcckdaobmaaMathAndNull2
/- Plain: lookaheads that are spread, step by step, till nothing grows (F2). -/
namespace Go.Proofs.Ytkkcmcckdaobmaa

abbrev LkX := Nat × Nat → List Bool
abbrev LkS := LkX × Bool

/-- Nothing is lost; the mark tells whether something was won. -/
structure UpL (dom : Nat × Nat → Option Nat) (X Y : LkX) (g : Bool) : Prop where
  shp : ∀ p n, dom p = some n → (Y p).length = n
  up : ∀ p m, bit X p m = true → bit Y p m = true
  still : g = false → Y = X
  grew : g = true → ∃ p m n, dom p = some n ∧ m < n ∧ bit X p m = false ∧ bit Y p m = true
def SndL (dom : Nat × Nat → Option Nat) (Z : Nat × Nat → Nat → Prop) (X : LkX) : Prop := ∀ p n m, dom p = some n → m < n → bit X p m = true → Z p m

def putL (p : Nat × Nat) (t : Nat) (s : LkS) : LkS := if bit s.1 p t then s else (setX s.1 p t true, true)
/-- A step that tells whether it has won something, behind others. -/
def acc (F : Nat → LkX → LkS) (i : Nat) (s : LkS) : LkS := ((F i s.1).1, s.2 || (F i s.1).2)

section
variable {dom : Nat × Nat → Option Nat} {Z : Nat × Nat → Nat → Prop} {X Y W : LkX} {g h : Bool}

theorem UpL.refl (hs : ∀ p n, dom p = some n → (X p).length = n) : UpL dom X X false := ⟨hs, fun _ _ h => h, fun _ => rfl, fun h => (nomatch h)⟩
theorem UpL.trans (a : UpL dom X Y g) (b : UpL dom Y W h) : UpL dom X W (g || h) := by
  refine ⟨b.shp, fun p m hm => b.up p m (a.up p m hm), fun e => ?_, fun e => ?_⟩
  · rw [Bool.or_eq_false_iff] at e
    rw [b.still e.2, a.still e.1]
  · cases g with
    | true =>
      obtain ⟨p, m, n, h1, h2, h3, h4⟩ := a.grew rfl
      exact ⟨p, m, n, h1, h2, h3, b.up p m h4⟩
    | false =>
      obtain ⟨p, m, n, h1, h2, h3, h4⟩ := b.grew (by simpa using e)
      rw [a.still rfl] at h3
      exact ⟨p, m, n, h1, h2, h3, h4⟩

theorem putL_up {s : LkS} {p : Nat × Nat} {t n : Nat} (hu : UpL dom X s.1 s.2) (hd : dom p = some n) (ht : t < n) : UpL dom X (putL p t s).1 (putL p t s).2 ∧ bit (putL p t s).1 p t = true := by
  unfold putL
  cases hb : bit s.1 p t with
  | true => exact ⟨by simpa using hu, by simpa using hb⟩
  | false =>
    simp only [Bool.false_eq_true, if_false]
    have hl := hu.shp p n hd
    have hbs : ∀ q m, bit (setX s.1 p t true) q m = if q = p ∧ m = t then true else bit s.1 q m := fun q m => bit_set (by omega)
    refine ⟨⟨fun q k hq => by rw [len_set]; exact hu.shp q k hq, fun q m hm => ?_, fun e => (nomatch e), fun _ => ⟨p, t, n, hd, ht, ?_, by rw [hbs]; simp⟩⟩, by rw [hbs]; simp⟩
    · rw [hbs]
      split
      · rfl
      · exact hu.up q m hm
    · cases hx : bit X p t with
      | false => rfl
      | true => rw [hu.up p t hx] at hb; cases hb

theorem putL_snd {s : LkS} {p : Nat × Nat} {t n : Nat} (hu : UpL dom X s.1 s.2) (hd : dom p = some n) (ht : t < n) (hs : SndL dom Z s.1) (hz : Z p t) : SndL dom Z (putL p t s).1 := by
  unfold putL
  cases hb : bit s.1 p t with
  | true => simpa using hs
  | false =>
    simp only [Bool.false_eq_true, if_false]
    have hl := hu.shp p n hd
    intro q k m hq hm hbq
    rw [bit_set (by omega)] at hbq
    by_cases c : q = p ∧ m = t
    · rw [c.1, c.2]; exact hz
    · rw [if_neg c] at hbq; exact hs q k m hq hm hbq

theorem putL_mono {s : LkS} {p q : Nat × Nat} {t m n : Nat} (hl : dom p = some n) (ht : t < n) (hu : UpL dom X s.1 s.2) (hb : bit s.1 q m = true) : bit (putL p t s).1 q m = true := by
  unfold putL
  cases hc : bit s.1 p t with
  | true => simpa using hb
  | false =>
    simp only [Bool.false_eq_true, if_false]
    rw [bit_set (by have := hu.shp p n hl; omega)]
    split
    · rfl
    · exact hb

/-- Steps one after another: what is so of each is so of all; where nothing was won, each step, by itself, has won nothing. -/
theorem acc_up {F : Nat → LkX → LkS} {n : Nat} (hF : ∀ i, i < n → ∀ Y, (∀ p k, dom p = some k → (Y p).length = k) → UpL dom Y (F i Y).1 (F i Y).2) (hX : ∀ p k, dom p = some k → (X p).length = k) :
    UpL dom X (loopN n (acc F) (X, false)).1 (loopN n (acc F) (X, false)).2 ∧ ((loopN n (acc F) (X, false)).2 = false → ∀ i, i < n → (F i X).2 = false) := by
  induction n with
  | zero => exact ⟨UpL.refl hX, fun _ i hi => absurd hi (Nat.not_lt_zero _)⟩
  | succ n ih =>
    obtain ⟨h1, h2⟩ := ih fun i hi => hF i (by omega)
    have h3 := hF n (by omega) _ h1.shp
    refine ⟨h1.trans h3, fun e i hi => ?_⟩
    have e' : ((loopN n (acc F) (X, false)).2 || (F n (loopN n (acc F) (X, false)).1).2) = false := e
    rw [Bool.or_eq_false_iff] at e'
    rcases Nat.lt_succ_iff_lt_or_eq.1 hi with hi | rfl
    · exact h2 e'.1 i hi
    · have := h1.still e'.1
      rw [this] at e'
      exact e'.2

theorem acc_snd {F : Nat → LkX → LkS} {n : Nat} (hF : ∀ i, i < n → ∀ Y, (∀ p k, dom p = some k → (Y p).length = k) → UpL dom Y (F i Y).1 (F i Y).2) (hG : ∀ i, i < n → ∀ Y, (∀ p k, dom p = some k → (Y p).length = k) → SndL dom Z Y → SndL dom Z (F i Y).1)
    (hX : ∀ p k, dom p = some k → (X p).length = k) (hs : SndL dom Z X) : SndL dom Z (loopN n (acc F) (X, false)).1 := by
  induction n with
  | zero => exact hs
  | succ n ih =>
    have h1 := (acc_up (F := F) (n := n) (fun i hi => hF i (by omega)) hX).1
    exact hG n (by omega) _ h1.shp (ih (fun i hi => hF i (by omega)) (fun i hi => hG i (by omega)))

theorem acc_from {F : Nat → LkX → LkS} {n : Nat} (X : LkX) (g : Bool) : loopN n (acc F) (X, g) = ((loopN n (acc F) (X, false)).1, g || (loopN n (acc F) (X, false)).2) := by
  induction n with
  | zero => simp [loopN]
  | succ n ih =>
    have e : ∀ s, loopN (n + 1) (acc F) s = acc F n (loopN n (acc F) s) := fun _ => rfl
    rw [e, e, ih]
    simp [acc, Bool.or_assoc]
end

/-! ### One step -/

section
variable (OL : List (List It)) (NL : List (List Int)) (R : List Ru) (T : Nat) (Nu : List Bool) (Fi : List (List Bool))

/-- The state that an item is read on in; where it stands there. -/
def toN (k : Nat) (s : Sy) : Nat := ((NL.getD k []).getD (numF T s).toNat 0).toNat
def atN (n : Nat) (i : It) : Nat := (hasF (OL.getD n []) i).toNat
def itemN (k j : Nat) : It := (OL.getD k []).getD j (0, 0)
/-- The rules below q that close. -/
def closeN (k t : Nat) (m : Int) (q : Nat) (s : LkS) : LkS := loopN q (fun n s => if (R.getD n (0, [])).1 = m then putL (k, atN OL k (n, 0)) t s else s) s
/-- What is read on. -/
def onN (k j t : Nat) (s : Sy) (X : LkX) : LkS := if bit X (k, j) t then putL (toN NL T k s, atN OL (toN NL T k s) ((itemN OL k j).1, (itemN OL k j).2 + 1)) t (X, false) else (X, false)
def sprN (k j t : Nat) (X : LkX) : LkS :=
  match (rightF R (itemN OL k j).1)[(itemN OL k j).2]? with
  | none => (X, false)
  | some (true, v) => onN OL NL T k j t (true, v) X
  | some (false, m) =>
    if (behF Nu Fi T t ((rightF R (itemN OL k j).1).drop ((itemN OL k j).2 + 1))).1 || ((behF Nu Fi T t ((rightF R (itemN OL k j).1).drop ((itemN OL k j).2 + 1))).2 && bit X (k, j) t)
    then closeN OL R k t m R.length (onN OL NL T k j t (false, m) X) else onN OL NL T k j t (false, m) X
end

/-- What the steps lean on: the states, where they go on, how long the rows are. -/
structure AutoOk (T N : Nat) (R : List Ru) (OL : List (List It)) (NL : List (List Int)) (Ls : List SetI) (dom : Nat × Nat → Option Nat) : Prop where
  sok : SOk R OL Ls
  len : NL.length = OL.length
  go : ∀ k, k < OL.length → ∀ x, x < T + N → (NL.getD k []).length = T + N ∧ GoOk T R Ls k x ((NL.getD k []).getD x 0)
  cl : ∀ k, k < OL.length → ClosedS R (Ls.getD k noS)
  dom : ∀ k j, dom (k, j) = if k < OL.length ∧ j < (OL.getD k []).length then some (T + 1) else none
  num : ∀ r, r ≤ R.length → ∀ s ∈ rightF R r, 0 ≤ numF T s ∧ numF T s < (T : Int) + N

section
variable {T N : Nat} {R : List Ru} {OL : List (List It)} {NL : List (List Int)} {Ls : List SetI} {dom : Nat × Nat → Option Nat} {Nu : List Bool} {Fi : List (List Bool)} {k j t : Nat} {X : LkX}

theorem hasF_get {L : List It} {i : It} (h : i ∈ L) : (hasF L i).toNat < L.length ∧ L.getD (hasF L i).toNat (0, 0) = i ∧ hasF L i = ((hasF L i).toNat : Int) := by
  have h0 := hasF_mem.2 h
  refine ⟨?_, ?_, by omega⟩ <;>
  · unfold hasF at h0 ⊢
    cases hf : L.findIdx? (fun x => decide (x = i)) with
    | none => rw [hf] at h0; simp at h0
    | some q =>
      rw [List.findIdx?_eq_some_iff_getElem] at hf
      obtain ⟨h1, h2, _⟩ := hf
      simp only [Int.toNat_natCast]
      first
      | exact h1
      | (have e : L[q] = i := by simpa using h2
         simp [List.getD, h1, e])

theorem AutoOk.domOf (h : AutoOk T N R OL NL Ls dom) {i : It} (hk : k < OL.length) (hi : i ∈ OL.getD k []) : dom (k, atN OL k i) = some (T + 1) := by
  rw [h.dom, if_pos ⟨hk, (hasF_get hi).1⟩]
theorem AutoOk.item (h : AutoOk T N R OL NL Ls dom) (hk : k < OL.length) (hj : j < (OL.getD k []).length) : itemN OL k j ∈ OL.getD k [] ∧ Ls.getD k noS (itemN OL k j) ∧ OkIt R (itemN OL k j) := by
  have hm : itemN OL k j ∈ OL.getD k [] := getD_in hj
  exact ⟨hm, ((h.sok.rep k hk).mem _).1 hm, h.sok.ok k hk _ hm⟩
/-- Reading on: there is a state, and the item is in it. -/
theorem AutoOk.on (h : AutoOk T N R OL NL Ls dom) (hk : k < OL.length) (hj : j < (OL.getD k []).length) {s : Sy} (hs : (rightF R (itemN OL k j).1)[(itemN OL k j).2]? = some s) :
    (NL.getD k []).getD (numF T s).toNat 0 = ((toN NL T k s : Nat) : Int) ∧ toN NL T k s < OL.length ∧ ((itemN OL k j).1, (itemN OL k j).2 + 1) ∈ OL.getD (toN NL T k s) [] ∧ (numF T s).toNat < T + N ∧ ((numF T s).toNat : Int) = numF T s := by
  obtain ⟨h1, h2, h3⟩ := h.item hk hj
  have hn := h.num _ h3.1 s (List.mem_of_getElem? hs)
  have hx : (numF T s).toNat < T + N := by omega
  have hcast : ((numF T s).toNat : Int) = numF T s := by omega
  obtain ⟨hl, hg⟩ := h.go k hk _ hx
  obtain ⟨n, e1, e2, e3⟩ := hg.some ⟨_, h2, s, hs, hcast.symm⟩
  have et : toN NL T k s = n := by unfold toN; rw [e1]; simp
  rw [et, e1]
  have hn' : n < OL.length := by rw [h.sok.len]; exact e2
  refine ⟨rfl, hn', ((h.sok.rep n hn').mem _).2 ?_, hx, hcast⟩
  rw [e3]
  exact goto_item h2 hs hcast.symm
/-- Closing: the rule is in the state. -/
theorem AutoOk.close (h : AutoOk T N R OL NL Ls dom) (hk : k < OL.length) (hj : j < (OL.getD k []).length) {m : Int} (hs : (rightF R (itemN OL k j).1)[(itemN OL k j).2]? = some (false, m)) {n : Nat} (hn : n < R.length) (hL : (R.getD n (0, [])).1 = m) : (n, 0) ∈ OL.getD k [] :=
  ((h.sok.rep k hk).mem _).2 (closed_step (h.cl k hk) (h.item hk hj).2.1 hs hn hL)

theorem onN_up (h : AutoOk T N R OL NL Ls dom) (hk : k < OL.length) (hj : j < (OL.getD k []).length) (ht : t ≤ T) {s : Sy} (hs : (rightF R (itemN OL k j).1)[(itemN OL k j).2]? = some s) (hX : ∀ p n, dom p = some n → (X p).length = n) :
    UpL dom X (onN OL NL T k j t s X).1 (onN OL NL T k j t s X).2 ∧ (bit X (k, j) t = true → bit (onN OL NL T k j t s X).1 (toN NL T k s, atN OL (toN NL T k s) ((itemN OL k j).1, (itemN OL k j).2 + 1)) t = true) := by
  obtain ⟨_, h2, h3, _⟩ := h.on hk hj hs
  unfold onN
  cases hb : bit X (k, j) t with
  | true =>
    obtain ⟨p1, p2⟩ := putL_up (s := (X, false)) (t := t) (UpL.refl hX) (h.domOf h2 h3) (by omega)
    exact ⟨by simpa using p1, fun _ => by simpa using p2⟩
  | false => exact ⟨by simpa using UpL.refl hX, fun e => (nomatch e)⟩

theorem closeN_up (h : AutoOk T N R OL NL Ls dom) (hk : k < OL.length) (hj : j < (OL.getD k []).length) (ht : t ≤ T) {m : Int} (hs : (rightF R (itemN OL k j).1)[(itemN OL k j).2]? = some (false, m)) {s : LkS} (hu : UpL dom X s.1 s.2) (q : Nat) (hq : q ≤ R.length) :
    UpL dom X (closeN OL R k t m q s).1 (closeN OL R k t m q s).2 ∧ (∀ p y, bit s.1 p y = true → bit (closeN OL R k t m q s).1 p y = true) ∧ ∀ n, n < q → (R.getD n (0, [])).1 = m → bit (closeN OL R k t m q s).1 (k, atN OL k (n, 0)) t = true := by
  induction q with
  | zero => exact ⟨hu, fun _ _ hb => hb, fun n hn => absurd hn (Nat.not_lt_zero _)⟩
  | succ q ih =>
    obtain ⟨h1, h2, h3⟩ := ih (by omega)
    have e : closeN OL R k t m (q + 1) s = if (R.getD q (0, [])).1 = m then putL (k, atN OL k (q, 0)) t (closeN OL R k t m q s) else closeN OL R k t m q s := rfl
    rw [e]
    by_cases hL : (R.getD q (0, [])).1 = m
    · rw [if_pos hL]
      have hd := h.domOf hk (h.close hk hj hs (by omega) hL)
      obtain ⟨p1, p2⟩ := putL_up (t := t) h1 hd (by omega)
      refine ⟨p1, fun p y hb => putL_mono hd (by omega) h1 (h2 p y hb), fun n hn hLn => ?_⟩
      rcases Nat.lt_succ_iff_lt_or_eq.1 hn with hn | rfl
      · exact putL_mono hd (by omega) h1 (h3 n hn hLn)
      · exact p2
    · rw [if_neg hL]
      refine ⟨h1, h2, fun n hn hLn => ?_⟩
      rcases Nat.lt_succ_iff_lt_or_eq.1 hn with hn | rfl
      · exact h3 n hn hLn
      · exact absurd hLn hL

theorem sprN_up (h : AutoOk T N R OL NL Ls dom) (hk : k < OL.length) (hj : j < (OL.getD k []).length) (ht : t ≤ T) (hX : ∀ p n, dom p = some n → (X p).length = n) :
    UpL dom X (sprN OL NL R T Nu Fi k j t X).1 (sprN OL NL R T Nu Fi k j t X).2 := by
  unfold sprN
  split
  · exact UpL.refl hX
  · rename_i hs; exact (onN_up h hk hj ht hs hX).1
  · rename_i m hs
    have h1 := (onN_up h hk hj ht hs hX).1
    split
    · exact (closeN_up h hk hj ht hs h1 _ (Nat.le_refl _)).1
    · exact h1

/-- Where a step wins nothing, what it asks for is there. -/
theorem sprN_must (h : AutoOk T N R OL NL Ls dom) (hk : k < OL.length) (hj : j < (OL.getD k []).length) (ht : t ≤ T) (hX : ∀ p n, dom p = some n → (X p).length = n) (hz : (sprN OL NL R T Nu Fi k j t X).2 = false) {s : Sy} (hs : (rightF R (itemN OL k j).1)[(itemN OL k j).2]? = some s) :
    (bit X (k, j) t = true → bit X (toN NL T k s, atN OL (toN NL T k s) ((itemN OL k j).1, (itemN OL k j).2 + 1)) t = true) ∧
    ∀ n, n < R.length → s = (false, (R.getD n (0, [])).1) → ((behF Nu Fi T t ((rightF R (itemN OL k j).1).drop ((itemN OL k j).2 + 1))).1 = true ∨ ((behF Nu Fi T t ((rightF R (itemN OL k j).1).drop ((itemN OL k j).2 + 1))).2 = true ∧ bit X (k, j) t = true)) → bit X (k, atN OL k (n, 0)) t = true := by
  have hst := (sprN_up (Nu := Nu) (Fi := Fi) h hk hj ht hX).still hz
  obtain ⟨ou, om⟩ := onN_up h hk hj ht hs hX
  have main : (bit X (k, j) t = true → bit (sprN OL NL R T Nu Fi k j t X).1 (toN NL T k s, atN OL (toN NL T k s) ((itemN OL k j).1, (itemN OL k j).2 + 1)) t = true) ∧
    ∀ n, n < R.length → s = (false, (R.getD n (0, [])).1) → ((behF Nu Fi T t ((rightF R (itemN OL k j).1).drop ((itemN OL k j).2 + 1))).1 = true ∨ ((behF Nu Fi T t ((rightF R (itemN OL k j).1).drop ((itemN OL k j).2 + 1))).2 = true ∧ bit X (k, j) t = true)) → bit (sprN OL NL R T Nu Fi k j t X).1 (k, atN OL k (n, 0)) t = true := by
    unfold sprN
    rw [hs]
    obtain ⟨b, v⟩ := s
    cases b with
    | true =>
      simp only
      exact ⟨om, fun n _ e => (by cases e)⟩
    | false =>
      simp only
      obtain ⟨c1, c2, c3⟩ := closeN_up h hk hj ht hs ou R.length (Nat.le_refl _)
      split
      · exact ⟨fun hb => c2 _ _ (om hb), fun n hn e _ => c3 n hn (by cases e; rfl)⟩
      · rename_i hc
        refine ⟨om, fun n hn e hcond => absurd ?_ hc⟩
        rcases hcond with h1 | ⟨h1, h2⟩
        · rw [h1]; rfl
        · rw [h1, h2]; simp
  rw [hst] at main
  exact main

theorem sprN_snd {Z : Nat × Nat → Nat → Prop} (h : AutoOk T N R OL NL Ls dom) (hk : k < OL.length) (hj : j < (OL.getD k []).length) (ht : t ≤ T) (hX : ∀ p n, dom p = some n → (X p).length = n) (hs : SndL dom Z X)
    (hon : ∀ s, (rightF R (itemN OL k j).1)[(itemN OL k j).2]? = some s → Z (k, j) t → Z (toN NL T k s, atN OL (toN NL T k s) ((itemN OL k j).1, (itemN OL k j).2 + 1)) t)
    (hcl : ∀ n, n < R.length → (rightF R (itemN OL k j).1)[(itemN OL k j).2]? = some (false, (R.getD n (0, [])).1) → ((behF Nu Fi T t ((rightF R (itemN OL k j).1).drop ((itemN OL k j).2 + 1))).1 = true ∨ ((behF Nu Fi T t ((rightF R (itemN OL k j).1).drop ((itemN OL k j).2 + 1))).2 = true ∧ Z (k, j) t)) → Z (k, atN OL k (n, 0)) t) :
    SndL dom Z (sprN OL NL R T Nu Fi k j t X).1 := by
  have hdj : dom (k, j) = some (T + 1) := by rw [h.dom, if_pos ⟨hk, hj⟩]
  have on : ∀ s, (rightF R (itemN OL k j).1)[(itemN OL k j).2]? = some s → SndL dom Z (onN OL NL T k j t s X).1 := fun s hs' => by
    obtain ⟨_, h2, h3, _⟩ := h.on hk hj hs'
    unfold onN
    cases hb : bit X (k, j) t with
    | true =>
      have := putL_snd (s := (X, false)) (t := t) (UpL.refl hX) (h.domOf h2 h3) (by omega) hs (hon s hs' (hs (k, j) _ t hdj (by omega) hb))
      simpa using this
    | false => simpa using hs
  unfold sprN
  split
  · exact hs
  · rename_i hs'; exact on _ hs'
  · rename_i m hs'
    split
    · rename_i hc
      have hz : ∀ n, n < R.length → (R.getD n (0, [])).1 = m → Z (k, atN OL k (n, 0)) t := fun n hn hL => by
        refine hcl n hn (by rw [hL]; exact hs') ?_
        rw [Bool.or_eq_true, Bool.and_eq_true] at hc
        rcases hc with h1 | ⟨h1, h2⟩
        · exact .inl h1
        · exact .inr ⟨h1, hs (k, j) _ t hdj (by omega) h2⟩
      have : ∀ q, q ≤ R.length → SndL dom Z (closeN OL R k t m q (onN OL NL T k j t (false, m) X)).1 := by
        intro q
        induction q with
        | zero => intro _; exact on _ hs'
        | succ q ih =>
          intro hq
          have e : closeN OL R k t m (q + 1) (onN OL NL T k j t (false, m) X) = if (R.getD q (0, [])).1 = m then putL (k, atN OL k (q, 0)) t (closeN OL R k t m q (onN OL NL T k j t (false, m) X)) else closeN OL R k t m q (onN OL NL T k j t (false, m) X) := rfl
          rw [e]
          by_cases hL : (R.getD q (0, [])).1 = m
          · rw [if_pos hL]
            exact putL_snd (closeN_up h hk hj ht hs' (onN_up h hk hj ht hs' hX).1 q (by omega)).1 (h.domOf hk (h.close hk hj hs' (by omega) hL)) (by omega) (ih (by omega)) (hz q (by omega) hL)
          · rw [if_neg hL]; exact ih (by omega)
      exact this _ (Nat.le_refl _)
    · exact on _ hs'
end

end Go.Proofs.Ytkkcmcckdaobmaa

/- Plain: the least set that an operator holds, by rounds. No program, no memory. -/
namespace Go.Proofs.Ytkkcmcckdaobmaa
open Classical

/-- What so many rounds of an operator make. -/
def Lv (F : (Int → Prop) → Int → Prop) : Nat → Int → Prop
  | 0, _ => False
  | k + 1, n => F (Lv F k) n

/-- An operator that grows, on the numbers from 0 to below N. -/
structure Mono (N : Nat) (F : (Int → Prop) → Int → Prop) : Prop where
  mono : ∀ A B : Int → Prop, (∀ n, A n → B n) → ∀ n, F A n → F B n
  bound : ∀ A n, F A n → 0 ≤ n ∧ n < (N : Int)

theorem Lv_succ {N : Nat} {F : (Int → Prop) → Int → Prop} (h : Mono N F) : ∀ k n, Lv F k n → Lv F (k + 1) n := by
  intro k
  induction k with
  | zero => intro n hn; exact hn.elim
  | succ k ih => intro n hn; exact h.mono _ _ ih n hn

theorem Lv_le {N : Nat} {F : (Int → Prop) → Int → Prop} (h : Mono N F) {k m : Nat} (hkm : k ≤ m) : ∀ n, Lv F k n → Lv F m n := by
  induction hkm with
  | refl => intro n hn; exact hn
  | step _ ih => intro n hn; exact Lv_succ h _ n (ih n hn)

noncomputable def cnt (N : Nat) (A : Int → Prop) : Nat := ((List.range N).filter fun i => decide (A (i : Nat))).length

theorem cnt_le (N : Nat) (A : Int → Prop) : cnt N A ≤ N := by
  have := List.length_filter_le (fun i : Nat => decide (A i)) (List.range N)
  simpa [cnt] using this

theorem filter_lt {α : Type} (p q : α → Bool) (h : ∀ x, p x = true → q x = true) : ∀ (l : List α),
    (l.filter p).length ≤ (l.filter q).length ∧ ((∃ x ∈ l, q x = true ∧ p x = false) → (l.filter p).length < (l.filter q).length) := by
  intro l
  induction l with
  | nil => simp
  | cons a r ih =>
    obtain ⟨ih1, ih2⟩ := ih
    cases hp : p a with
    | true =>
      have hq := h a hp
      simp only [List.filter_cons, hp, hq, if_true, List.length_cons]
      refine ⟨by omega, ?_⟩
      rintro ⟨x, hx, h1, h2⟩
      have : x ∈ r := by
        rcases List.mem_cons.1 hx with rfl | hx
        · rw [hp] at h2; cases h2
        · exact hx
      have := ih2 ⟨x, this, h1, h2⟩
      omega
    | false =>
      cases hq : q a with
      | true =>
        simp only [List.filter_cons, hp, hq, if_true, List.length_cons, Bool.false_eq_true, if_false]
        exact ⟨by omega, fun _ => by omega⟩
      | false =>
        simp only [List.filter_cons, hp, hq, Bool.false_eq_true, if_false]
        refine ⟨ih1, ?_⟩
        rintro ⟨x, hx, h1, h2⟩
        have : x ∈ r := by
          rcases List.mem_cons.1 hx with rfl | hx
          · rw [hq] at h1; cases h1
          · exact hx
        exact ih2 ⟨x, this, h1, h2⟩

theorem cnt_lt {N : Nat} {A B : Int → Prop} (h : ∀ n, A n → B n) {n : Int} (h0 : 0 ≤ n) (h1 : n < (N : Int)) (hb : B n) (ha : ¬ A n) : cnt N A < cnt N B := by
  obtain ⟨k, rfl⟩ : ∃ k : Nat, n = k := ⟨n.toNat, by omega⟩
  refine (filter_lt (fun i : Nat => decide (A i)) (fun i : Nat => decide (B i)) (fun x hx => ?_) (List.range N)).2 ⟨k, List.mem_range.2 (by omega), ?_, ?_⟩
  · simp only [decide_eq_true_eq] at hx ⊢; exact h _ hx
  · simpa using hb
  · simpa using ha

/-- N rounds are enough. -/
theorem Lv_stop {N : Nat} {F : (Int → Prop) → Int → Prop} (h : Mono N F) : ∀ m n, Lv F m n → Lv F N n := by
  have ex : ∃ k, k ≤ N ∧ ∀ n, Lv F (k + 1) n → Lv F k n := by
    refine byContradiction fun hno => ?_
    have grow : ∀ k, k ≤ N + 1 → k ≤ cnt N (Lv F k) := by
      intro k
      induction k with
      | zero => intro _; exact Nat.zero_le _
      | succ k ih =>
        intro hk
        have h1 := ih (by omega)
        have h2 : ∃ n, Lv F (k + 1) n ∧ ¬ Lv F k n := by
          refine byContradiction fun hn => hno ⟨k, by omega, fun n hn' => byContradiction fun hc => hn ⟨n, hn', hc⟩⟩
        obtain ⟨n, h3, h4⟩ := h2
        have hb := h.bound _ n h3
        have := cnt_lt (Lv_succ h k) hb.1 hb.2 h3 h4
        omega
    have h1 := grow (N + 1) (Nat.le_refl _)
    have h2 := cnt_le N (Lv F (N + 1))
    omega
  obtain ⟨k, hk, hstop⟩ := ex
  have all : ∀ m n, Lv F m n → Lv F k n := by
    intro m
    induction m with
    | zero => intro n hn; exact hn.elim
    | succ m ih => intro n hn; exact hstop n (h.mono _ _ ih n hn)
  exact fun m n hn => Lv_le h hk n (all m n hn)

/-- What N rounds make is held. -/
theorem Lv_closed {N : Nat} {F : (Int → Prop) → Int → Prop} (h : Mono N F) : ∀ n, F (Lv F N) n → Lv F N n := fun n hn => Lv_stop h (N + 1) n hn

/-- .. and in whatever is held. -/
theorem Lv_least {F : (Int → Prop) → Int → Prop} (mono : ∀ A B : Int → Prop, (∀ n, A n → B n) → ∀ n, F A n → F B n) {A : Int → Prop} (hA : ∀ n, F A n → A n) : ∀ k n, Lv F k n → A n := by
  intro k
  induction k with
  | zero => intro n hn; exact hn.elim
  | succ k ih => intro n hn; exact hA n (mono _ _ ih n hn)

/-! ### Sets of grammars -/

/-- All symbols are names of A. -/
def AllN (A : Int → Prop) (l : List Sy) : Prop := ∀ s ∈ l, s.1 = false ∧ A s.2
def NullF (R : List Ru) (A : Int → Prop) (n : Int) : Prop := ∃ r ∈ R, r.1 = n ∧ AllN A r.2
/-- Symbols may begin with the term t, where names of A may, and those of Nu be nothing. -/
def Beg (Nu A : Int → Prop) (t : Int) (l : List Sy) : Prop := ∃ i s, l[i]? = some s ∧ ((s.1 = true ∧ s.2 = t) ∨ (s.1 = false ∧ A s.2)) ∧ AllN Nu (l.take i)
def FirstF (R : List Ru) (Nu : Int → Prop) (t : Int) (A : Int → Prop) (n : Int) : Prop := ∃ r ∈ R, r.1 = n ∧ Beg Nu A t r.2
def FollowF (R : List Ru) (Nu : Int → Prop) (Fi : Int → Int → Prop) (T t : Int) (A : Int → Prop) (n : Int) : Prop :=
  (n = 0 ∧ t = T) ∨ ∃ r ∈ R, ∃ k, r.2[k]? = some (false, n) ∧ ((t < T ∧ Beg Nu (Fi t) t (r.2.drop (k + 1))) ∨ (AllN Nu (r.2.drop (k + 1)) ∧ A r.1))

theorem AllN.mono {A B : Int → Prop} (h : ∀ n, A n → B n) {l : List Sy} (hl : AllN A l) : AllN B l := fun s hs => ⟨(hl s hs).1, h _ (hl s hs).2⟩
theorem Beg.mono {Nu A B : Int → Prop} {t : Int} (h : ∀ n, A n → B n) {l : List Sy} (hl : Beg Nu A t l) : Beg Nu B t l := by
  obtain ⟨i, s, h1, h2, h3⟩ := hl
  refine ⟨i, s, h1, ?_, h3⟩
  rcases h2 with h2 | ⟨h2, h4⟩
  · exact .inl h2
  · exact .inr ⟨h2, h _ h4⟩

theorem NullF_up (R : List Ru) (A B : Int → Prop) (h : ∀ n, A n → B n) (n : Int) (hn : NullF R A n) : NullF R B n := by
  obtain ⟨r, h1, h2, h3⟩ := hn
  exact ⟨r, h1, h2, h3.mono h⟩
theorem FirstF_up (R : List Ru) (Nu : Int → Prop) (t : Int) (A B : Int → Prop) (h : ∀ n, A n → B n) (n : Int) (hn : FirstF R Nu t A n) : FirstF R Nu t B n := by
  obtain ⟨r, h1, h2, h3⟩ := hn
  exact ⟨r, h1, h2, h3.mono h⟩
theorem FollowF_up (R : List Ru) (Nu : Int → Prop) (Fi : Int → Int → Prop) (T t : Int) (A B : Int → Prop) (h : ∀ n, A n → B n) (n : Int) (hn : FollowF R Nu Fi T t A n) : FollowF R Nu Fi T t B n := by
  rcases hn with hn | ⟨r, h1, k, h2, h3⟩
  · exact .inl hn
  · refine .inr ⟨r, h1, k, h2, ?_⟩
    rcases h3 with h3 | ⟨h3, h4⟩
    · exact .inl h3
    · exact .inr ⟨h3, h _ h4⟩

/-- What A1 says of a rule's names. -/
structure Fine (T N : Nat) (R : List Ru) : Prop where
  left : ∀ r ∈ R, 0 ≤ r.1 ∧ r.1 < (N : Int)
  name : ∀ r ∈ R, ∀ s ∈ r.2, s.1 = false → 0 ≤ s.2 ∧ s.2 < (N : Int)
  term : ∀ r ∈ R, ∀ s ∈ r.2, s.1 = true → 0 ≤ s.2 ∧ s.2 < (T : Int)
  some : 1 ≤ N

section
variable {T N : Nat} {R : List Ru} (h : Fine T N R)
include h

theorem NullF_mono : Mono N (NullF R) := ⟨fun A B => NullF_up R A B, fun A n hn => by obtain ⟨r, h1, rfl, _⟩ := hn; exact h.left r h1⟩
theorem FirstF_mono (Nu : Int → Prop) (t : Int) : Mono N (FirstF R Nu t) := ⟨fun A B => FirstF_up R Nu t A B, fun A n hn => by obtain ⟨r, h1, rfl, _⟩ := hn; exact h.left r h1⟩
theorem FollowF_mono (Nu : Int → Prop) (Fi : Int → Int → Prop) (t : Int) : Mono N (FollowF R Nu Fi T t) := ⟨fun A B => FollowF_up R Nu Fi T t A B, fun A n hn => by
  rcases hn with ⟨rfl, _⟩ | ⟨r, h1, k, h2, _⟩
  · have := h.some; omega
  · exact h.name r h1 _ (List.mem_of_getElem? h2) rfl⟩
end

/-- B1: Null, First, Follow. -/
def NullP (N : Nat) (R : List Ru) : Int → Prop := Lv (NullF R) N
def FirstP (N : Nat) (R : List Ru) (t : Int) : Int → Prop := Lv (FirstF R (NullP N R) t) N
def FollowP (T N : Nat) (R : List Ru) (t : Int) : Int → Prop := Lv (FollowF R (NullP N R) (FirstP N R) T t) N

end Go.Proofs.Ytkkcmcckdaobmaa

/- Plain: where nothing grows any more, lookaheads are the least sets (F2). -/
namespace Go.Proofs.Ytkkcmcckdaobmaa

def nulF (Nu : List Bool) (l : List Sy) : Bool := l.all fun s => !s.1 && Nu.getD s.2.toNat false
def begF (Nu : List Bool) (Fi : List (List Bool)) (T : Nat) (l : List Sy) (t : Nat) : Bool := (behF Nu Fi T t l).1

theorem beh_nul {Nu : List Bool} {Fi : List (List Bool)} {T t : Nat} : ∀ {l : List Sy}, ((behF Nu Fi T t l).2 = true → nulF Nu l = true) ∧ (nulF Nu l = true → (behF Nu Fi T t l).1 = true ∨ (behF Nu Fi T t l).2 = true) := by
  intro l
  induction l with
  | nil => exact ⟨fun _ => rfl, fun _ => .inr rfl⟩
  | cons s l ih =>
    obtain ⟨b, v⟩ := s
    cases b with
    | true => exact ⟨fun h => (nomatch h), fun h => by simp [nulF] at h⟩
    | false =>
      simp only [behF]
      split
      · exact ⟨fun h => (nomatch h), fun _ => .inl rfl⟩
      · split
        · rename_i hn
          have e : nulF Nu ((false, v) :: l) = nulF Nu l := by
            show (((false, v) :: l).all fun s => !s.1 && Nu.getD s.2.toNat false) = _
            rw [List.all_cons]
            simp only [Bool.not_false, Bool.true_and]
            rw [hn]
            rfl
          rw [e]
          exact ih
        · rename_i hn
          refine ⟨fun h => (nomatch h), fun h => absurd ?_ hn⟩
          have h' : (((false, v) :: l).all fun s => !s.1 && Nu.getD s.2.toNat false) = true := h
          rw [List.all_cons, Bool.and_eq_true] at h'
          simpa using h'.1

section
variable {T N : Nat} {R : List Ru} {OL : List (List It)} {NL : List (List Int)} {Ls : List SetI} {dom : Nat × Nat → Option Nat} {Nu : List Bool} {Fi : List (List Bool)} {X : LkX}

theorem at_item {L : List It} (hn : L.Nodup) {j : Nat} (hj : j < L.length) : (hasF L (L.getD j (0, 0))).toNat = j := by
  have := hasF_some (L := L) (i := L.getD j (0, 0)) hj rfl (fun q hq e => by
    have hql : q < L.length := by omega
    have e1 : L.getD q (0, 0) = L[q] := by simp [List.getD, hql]
    have e2 : L.getD j (0, 0) = L[j] := by simp [List.getD, hj]
    rw [e1, e2] at e
    exact (List.pairwise_iff_getElem.1 hn) q j hql hj hq e)
  rw [this]
  simp

abbrev LookQ (T : Nat) (R : List Ru) (Nu : List Bool) (Fi : List (List Bool)) (NL : List (List Int)) (Ls : List SetI) := LookP T R (begF Nu Fi T) (nulF Nu) NL Ls
def ZL (T : Nat) (R : List Ru) (Nu : List Bool) (Fi : List (List Bool)) (NL : List (List Int)) (Ls : List SetI) (OL : List (List It)) (p : Nat × Nat) (t : Nat) : Prop := LookQ T R Nu Fi NL Ls p.1 (itemN OL p.1 p.2) t

theorem item_at {k : Nat} {i : It} (hi : i ∈ OL.getD k []) : itemN OL k (atN OL k i) = i ∧ atN OL k i < (OL.getD k []).length := ⟨(hasF_get hi).2.1, (hasF_get hi).1⟩

/-- A step does nothing without a reason. -/
theorem spr_sound (h : AutoOk T N R OL NL Ls dom) {k j t : Nat} (hk : k < OL.length) (hj : j < (OL.getD k []).length) (ht : t ≤ T) (hX : ∀ p n, dom p = some n → (X p).length = n) (hs : SndL dom (ZL T R Nu Fi NL Ls OL) X) : SndL dom (ZL T R Nu Fi NL Ls OL) (sprN OL NL R T Nu Fi k j t X).1 := by
  refine sprN_snd h hk hj ht hX hs (fun s hs' hz => ?_) (fun n hn hs' hc => ?_)
  · obtain ⟨h1, h2, h3, _⟩ := h.on hk hj hs'
    unfold ZL
    simp only
    rw [(item_at h3).1]
    exact LookP.on (i := itemN OL k j) hz hs' h1
  · have hm := h.close hk hj hs' hn rfl
    unfold ZL
    simp only
    rw [(item_at hm).1]
    rcases hc with h1 | ⟨h1, h2⟩
    · exact LookP.begins (i := itemN OL k j) (by rw [← h.sok.len]; exact hk) (h.item hk hj).2.1 hs' hn rfl ht h1
    · exact LookP.nothing (i := itemN OL k j) h2 hs' hn rfl (beh_nul.1 h1)

/-- Where no step wins anything, all that has a reason is there. -/
theorem looks_all (h : AutoOk T N R OL NL Ls dom) (hO : 0 < OL.length) (hX : ∀ p n, dom p = some n → (X p).length = n) (h0 : bit X (0, 0) T = true) (hz : ∀ k, k < OL.length → ∀ j, j < (OL.getD k []).length → ∀ t, t ≤ T → (sprN OL NL R T Nu Fi k j t X).2 = false) {k : Nat} {i : It} {t : Nat} (hl : LookQ T R Nu Fi NL Ls k i t) :
    k < OL.length ∧ i ∈ OL.getD k [] ∧ t ≤ T ∧ bit X (k, atN OL k i) t = true := by
  induction hl with
  | start =>
    have hne : 0 < (OL.getD 0 []).length := List.length_pos_iff.2 (h.sok.ne 0 hO)
    have hh := h.sok.head hO
    refine ⟨hO, by rw [← hh]; exact getD_in hne, Nat.le_refl _, ?_⟩
    have : atN OL 0 (R.length, 0) = 0 := by unfold atN; rw [← hh]; exact at_item (h.sok.rep 0 hO).nod hne
    rw [this]
    exact h0
  | on _ h1 h2 ih =>
    rename_i k i t s n _
    obtain ⟨a1, a2, a3, a4⟩ := ih
    obtain ⟨e1, e2⟩ := item_at a2
    have hs : (rightF R (itemN OL k (atN OL k i)).1)[(itemN OL k (atN OL k i)).2]? = some s := by rw [e1]; exact h1
    obtain ⟨o1, o2, o3, _⟩ := h.on a1 e2 hs
    have et : toN NL T k s = n := by
      rw [h2] at o1
      omega
    have := (sprN_must h a1 e2 a3 hX (hz k a1 _ e2 t a3) hs).1 a4
    rw [e1, et] at this
    rw [e1, et] at o3
    rw [et] at o2
    exact ⟨o2, o3, a3, this⟩
  | begins hk hi h1 h2 h3 ht h4 =>
    rename_i k i t m n
    have a1 : k < OL.length := by rw [h.sok.len]; exact hk
    have a2 : i ∈ OL.getD k [] := ((h.sok.rep k a1).mem i).2 hi
    obtain ⟨e1, e2⟩ := item_at a2
    have hs : (rightF R (itemN OL k (atN OL k i)).1)[(itemN OL k (atN OL k i)).2]? = some (false, m) := by rw [e1]; exact h1
    refine ⟨a1, h.close a1 e2 hs h2 h3, ht, (sprN_must h a1 e2 ht hX (hz k a1 _ e2 t ht) hs).2 n h2 (by rw [h3]) (.inl (by rw [e1]; exact h4))⟩
  | nothing _ h1 h2 h3 h4 ih =>
    rename_i k i t m n _
    obtain ⟨a1, a2, a3, a4⟩ := ih
    obtain ⟨e1, e2⟩ := item_at a2
    have hs : (rightF R (itemN OL k (atN OL k i)).1)[(itemN OL k (atN OL k i)).2]? = some (false, m) := by rw [e1]; exact h1
    refine ⟨a1, h.close a1 e2 hs h2 h3, a3, (sprN_must h a1 e2 a3 hX (hz k a1 _ e2 t a3) hs).2 n h2 (by rw [h3]) ?_⟩
    rw [e1]
    rcases beh_nul.2 h4 with hb | hb
    · exact .inl hb
    · exact .inr ⟨hb, a4⟩

theorem looks_iff (h : AutoOk T N R OL NL Ls dom) (hO : 0 < OL.length) (hX : ∀ p n, dom p = some n → (X p).length = n) (hs : SndL dom (ZL T R Nu Fi NL Ls OL) X) (h0 : bit X (0, 0) T = true) (hz : ∀ k, k < OL.length → ∀ j, j < (OL.getD k []).length → ∀ t, t ≤ T → (sprN OL NL R T Nu Fi k j t X).2 = false)
    {k j t : Nat} (hk : k < OL.length) (hj : j < (OL.getD k []).length) (ht : t ≤ T) : bit X (k, j) t = true ↔ LookQ T R Nu Fi NL Ls k (itemN OL k j) t := by
  constructor
  · intro hb
    exact hs (k, j) (T + 1) t (by rw [h.dom, if_pos ⟨hk, hj⟩]) (by omega) hb
  · intro hl
    have := (looks_all h hO hX h0 hz hl).2.2.2
    have e : atN OL k (itemN OL k j) = j := at_item (h.sok.rep k hk).nod hj
    rwa [e] at this
end

/-! ### The rounds -/

section
variable (OL : List (List It)) (NL : List (List Int)) (R : List Ru) (T : Nat) (Nu : List Bool) (Fi : List (List Bool))
def passT (k j : Nat) (X : LkX) : LkS := loopN (T + 1) (acc (sprN OL NL R T Nu Fi k j)) (X, false)
def passJ (k : Nat) (X : LkX) : LkS := loopN (OL.getD k []).length (acc (passT OL NL R T Nu Fi k)) (X, false)
def passK (X : LkX) : LkS := loopN OL.length (acc (passJ OL NL R T Nu Fi)) (X, false)
end

section
variable {T N : Nat} {R : List Ru} {OL : List (List It)} {NL : List (List Int)} {Ls : List SetI} {dom : Nat × Nat → Option Nat} {Nu : List Bool} {Fi : List (List Bool)} {X : LkX}

theorem passT_up (h : AutoOk T N R OL NL Ls dom) {k j : Nat} (hk : k < OL.length) (hj : j < (OL.getD k []).length) (hX : ∀ p n, dom p = some n → (X p).length = n) :
    UpL dom X (passT OL NL R T Nu Fi k j X).1 (passT OL NL R T Nu Fi k j X).2 ∧ ((passT OL NL R T Nu Fi k j X).2 = false → ∀ t, t ≤ T → (sprN OL NL R T Nu Fi k j t X).2 = false) ∧ (SndL dom (ZL T R Nu Fi NL Ls OL) X → SndL dom (ZL T R Nu Fi NL Ls OL) (passT OL NL R T Nu Fi k j X).1) := by
  have hF : ∀ t, t < T + 1 → ∀ Y, (∀ p n, dom p = some n → (Y p).length = n) → UpL dom Y (sprN OL NL R T Nu Fi k j t Y).1 (sprN OL NL R T Nu Fi k j t Y).2 := fun t ht Y hY => sprN_up h hk hj (by omega) hY
  obtain ⟨h1, h2⟩ := acc_up hF hX
  exact ⟨h1, fun e t ht => h2 e t (by omega), fun hs => acc_snd hF (fun t ht Y hY hYs => spr_sound h hk hj (by omega) hY hYs) hX hs⟩
theorem passJ_up (h : AutoOk T N R OL NL Ls dom) {k : Nat} (hk : k < OL.length) (hX : ∀ p n, dom p = some n → (X p).length = n) :
    UpL dom X (passJ OL NL R T Nu Fi k X).1 (passJ OL NL R T Nu Fi k X).2 ∧ ((passJ OL NL R T Nu Fi k X).2 = false → ∀ j, j < (OL.getD k []).length → ∀ t, t ≤ T → (sprN OL NL R T Nu Fi k j t X).2 = false) ∧ (SndL dom (ZL T R Nu Fi NL Ls OL) X → SndL dom (ZL T R Nu Fi NL Ls OL) (passJ OL NL R T Nu Fi k X).1) := by
  have hF : ∀ j, j < (OL.getD k []).length → ∀ Y, (∀ p n, dom p = some n → (Y p).length = n) → UpL dom Y (passT OL NL R T Nu Fi k j Y).1 (passT OL NL R T Nu Fi k j Y).2 := fun j hj Y hY => (passT_up h hk hj hY).1
  obtain ⟨h1, h2⟩ := acc_up hF hX
  exact ⟨h1, fun e j hj t ht => (passT_up h hk hj hX).2.1 (h2 e j hj) t ht, fun hs => acc_snd hF (fun j hj Y hY hYs => (passT_up h hk hj hY).2.2 hYs) hX hs⟩
theorem passK_up (h : AutoOk T N R OL NL Ls dom) (hX : ∀ p n, dom p = some n → (X p).length = n) :
    UpL dom X (passK OL NL R T Nu Fi X).1 (passK OL NL R T Nu Fi X).2 ∧ ((passK OL NL R T Nu Fi X).2 = false → ∀ k, k < OL.length → ∀ j, j < (OL.getD k []).length → ∀ t, t ≤ T → (sprN OL NL R T Nu Fi k j t X).2 = false) ∧ (SndL dom (ZL T R Nu Fi NL Ls OL) X → SndL dom (ZL T R Nu Fi NL Ls OL) (passK OL NL R T Nu Fi X).1) := by
  have hF : ∀ k, k < OL.length → ∀ Y, (∀ p n, dom p = some n → (Y p).length = n) → UpL dom Y (passJ OL NL R T Nu Fi k Y).1 (passJ OL NL R T Nu Fi k Y).2 := fun k hk Y hY => (passJ_up h hk hY).1
  obtain ⟨h1, h2⟩ := acc_up hF hX
  exact ⟨h1, fun e k hk j hj t ht => (passJ_up h hk hX).2.1 (h2 e k hk) j hj t ht, fun hs => acc_snd hF (fun k hk Y hY hYs => (passJ_up h hk hY).2.2 hYs) hX hs⟩

/-- All that may yet be won. -/
def allLx (OL : List (List It)) (T : Nat) : List ((Nat × Nat) × Nat) := (List.range OL.length).flatMap fun k => (List.range (OL.getD k []).length).flatMap fun j => (List.range (T + 1)).map fun t => ((k, j), t)
def togoL (OL : List (List It)) (T : Nat) (X : LkX) : Nat := ((allLx OL T).filter fun p => !bit X p.1 p.2).length

theorem togo_lt (h : AutoOk T N R OL NL Ls dom) {Y : LkX} (hu : UpL dom X Y true) : togoL OL T Y < togoL OL T X := by
  obtain ⟨p, m, n, h1, h2, h3, h4⟩ := hu.grew rfl
  unfold togoL
  refine (filter_lt _ _ (fun q hq => ?_) (allLx OL T)).2 ⟨(p, m), ?_, by simp [h3], by simp [h4]⟩
  · cases hb : bit X q.1 q.2 with
    | false => rfl
    | true => simp [hu.up _ _ hb] at hq
  · obtain ⟨k, j⟩ := p
    rw [h.dom] at h1
    split at h1
    · rename_i hc
      simp only [Option.some.injEq] at h1
      unfold allLx
      simp only [List.mem_flatMap, List.mem_range, List.mem_map]
      exact ⟨k, hc.1, j, hc.2, m, by omega, rfl⟩
    · cases h1
end

end Go.Proofs.Ytkkcmcckdaobmaa
