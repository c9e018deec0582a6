import Derived.Test.YtobegekmgoiopaaBuildMathAndMayFine
import Derived.Test.YtobegekmgoiopaaSetsGrowAndSetsBehind
/- Plain: what the program's rounds over all rules come to are the least sets. No memory. -/
namespace Go.Proofs.Ytobegekmgoiopaa

def ruleX (T : Nat) (r : Ru) (X : Xs) : Xs := behindX T r.1.toNat r.2 (aheadX T r.1.toNat r.2 X)
def roundX (T : Nat) (R : List Ru) (n : Nat) (X : Xs) : Xs := loopN n (fun q => ruleX T (R.getD q (0, []))) X

/-- Rows of the right lengths. -/
def Shp (T N : Nat) (X : Xs) : Prop := ∀ i n, sdom T N i = some n → (X i).length = n

/-- No row has lost anything; where the mark is not set nothing has turned. -/
structure Up (T N : Nat) (X Y : Xs) : Prop where
  shp : Shp T N Y
  up : ∀ i m, bit X i m = true → bit Y i m = true
  still : bit Y .gr 0 = false → Y = X
  grew : bit X .gr 0 = false → bit Y .gr 0 = true → ∃ i m n, i ≠ .gr ∧ sdom T N i = some n ∧ m < n ∧ bit X i m = false ∧ bit Y i m = true

section
variable {T N : Nat}

theorem Up.refl {X : Xs} (h : Shp T N X) : Up T N X X := ⟨h, fun _ _ h => h, fun _ => rfl, fun h1 h2 => by rw [h1] at h2; cases h2⟩
theorem Up.trans {X Y Z : Xs} (h : Up T N X Y) (k : Up T N Y Z) : Up T N X Z :=
  ⟨k.shp, fun i m hm => k.up i m (h.up i m hm), fun hz => by
    have e := k.still hz
    rw [e] at hz ⊢
    exact h.still hz, fun h1 h2 => by
    cases hy : bit Y .gr 0 with
    | true =>
      obtain ⟨i, m, n, a1, a2, a3, a4, a5⟩ := h.grew h1 hy
      exact ⟨i, m, n, a1, a2, a3, a4, k.up i m a5⟩
    | false =>
      obtain ⟨i, m, n, a1, a2, a3, a4, a5⟩ := k.grew hy h2
      rw [h.still hy] at a4
      exact ⟨i, m, n, a1, a2, a3, a4, a5⟩⟩

theorem put_up {X : Xs} {i : Iy} {n m : Nat} (h : Shp T N X) (hd : sdom T N i = some n) (hm : m < n) (hi : i ≠ .gr) : Up T N X (putX X i m) ∧ bit (putX X i m) i m = true := by
  have hl := h i n hd
  have hg := h .gr 1 rfl
  cases hb : bit X i m with
  | true =>
    have e : putX X i m = X := by simp [putX, hb]
    rw [e]
    exact ⟨Up.refl h, hb⟩
  | false =>
    have e : putX X i m = setX (setX X i m true) .gr 0 true := by simp [putX, hb]
    rw [e]
    have hg' : 0 < (setX X i m true .gr).length := by rw [len_set]; omega
    refine ⟨⟨fun j k hj => ?_, fun j q hq => ?_, fun hz => ?_, fun _ _ => ?_⟩, ?_⟩
    · rw [len_set, len_set]; exact h j k hj
    · rw [bit_set hg', bit_set (by omega)]
      split
      · rfl
      · split
        · rfl
        · exact hq
    · rw [bit_set hg'] at hz
      simp at hz
    · refine ⟨i, m, n, hi, hd, hm, hb, ?_⟩
      rw [bit_set hg', bit_set (by omega)]
      simp
    · rw [bit_set hg', bit_set (by omega)]
      simp

theorem putAll_up {X : Xs} {i j : Iy} {n nj : Nat} (h : Shp T N X) (hd : sdom T N i = some n) (hle : nj ≤ n) (hi : i ≠ .gr) :
    Up T N X (putAllX i j nj X) ∧ ∀ m, m < nj → bit X j m = true → bit (putAllX i j nj X) i m = true := by
  induction nj with
  | zero => exact ⟨Up.refl h, fun m hm => absurd hm (Nat.not_lt_zero _)⟩
  | succ k ih =>
    obtain ⟨h1, h2⟩ := ih (by omega)
    have e : putAllX i j (k + 1) X = if bit (putAllX i j k X) j k then putX (putAllX i j k X) i k else putAllX i j k X := rfl
    rw [e]
    cases hb : bit (putAllX i j k X) j k with
    | true =>
      obtain ⟨p1, p2⟩ := put_up (m := k) h1.shp hd (by omega) hi
      simp only [if_true]
      refine ⟨h1.trans p1, fun m hm hx => ?_⟩
      rcases Nat.lt_succ_iff_lt_or_eq.1 hm with hm | rfl
      · exact p1.up _ _ (h2 m hm hx)
      · exact p2
    | false =>
      simp only [Bool.false_eq_true, if_false]
      refine ⟨h1, fun m hm hx => ?_⟩
      rcases Nat.lt_succ_iff_lt_or_eq.1 hm with hm | rfl
      · exact h2 m hm hx
      · rw [h1.up _ _ hx] at hb; cases hb

/-- What a table says of a name. -/
def nullP' (X : Xs) (n : Int) : Prop := 0 ≤ n ∧ bit X .null n.toNat = true
def firstP' (X : Xs) (t : Nat) (n : Int) : Prop := 0 ≤ n ∧ bit X (.f n.toNat) t = true
def followP' (X : Xs) (t : Nat) (n : Int) : Prop := 0 ≤ n ∧ bit X (.g n.toNat) t = true

def InR (T N : Nat) (l : List Sy) : Prop := ∀ s ∈ l, 0 ≤ s.2 ∧ s.2 < if s.1 then (T : Int) else (N : Int)

theorem InR.tail {s : Sy} {l : List Sy} (h : InR T N (s :: l)) : InR T N l := fun x hx => h x (List.mem_cons_of_mem _ hx)
theorem InR.drop {l : List Sy} (h : InR T N l) (k : Nat) : InR T N (l.drop k) := fun x hx => h x (List.mem_of_mem_drop hx)

theorem Beg_cons {Nu A : Int → Prop} {t : Int} {s : Sy} {l : List Sy} (h : Beg Nu A t (s :: l)) : ((s.1 = true ∧ s.2 = t) ∨ (s.1 = false ∧ A s.2)) ∨ (s.1 = false ∧ Nu s.2 ∧ Beg Nu A t l) := by
  obtain ⟨i, x, h1, h2, h3⟩ := h
  cases i with
  | zero =>
    simp at h1
    subst h1
    exact .inl h2
  | succ i =>
    right
    simp at h1 h3
    have hs := h3 s (by simp)
    exact ⟨hs.1, hs.2, i, x, h1, h2, fun y hy => h3 y (by simp [hy])⟩

/-- putFirst: it only grows; where the mark is not set all that the symbols may begin with is there. -/
theorem pf_up {i : Iy} {n : Nat} (hd : sdom T N i = some n) (hTn : T ≤ n) (hi : i ≠ .gr) : ∀ (l : List Sy), InR T N l → ∀ X, Shp T N X →
    Up T N X (pfX T i l X).1 ∧ (bit (pfX T i l X).1 .gr 0 = false → (∀ t, t < T → Beg (nullP' X) (firstP' X t) t l → bit X i t = true) ∧ (AllN (nullP' X) l → (pfX T i l X).2 = true)) := by
  intro l
  induction l with
  | nil =>
    intro _ X h
    refine ⟨Up.refl h, fun _ => ⟨fun t _ hb => ?_, fun _ => rfl⟩⟩
    obtain ⟨q, s, h1, _⟩ := hb
    simp at h1
  | cons s l ih =>
    intro hin X h
    have hs := hin s (by simp)
    obtain ⟨b, v⟩ := s
    cases b with
    | true =>
      simp only [if_true] at hs
      obtain ⟨p1, p2⟩ := put_up (m := v.toNat) h hd (by omega) hi
      have e : pfX T i ((true, v) :: l) X = (putX X i v.toNat, false) := by simp [pfX]
      rw [e]
      refine ⟨p1, fun hz => ⟨fun t ht hb => ?_, fun ha => ?_⟩⟩
      · rw [p1.still hz] at p2
        rcases Beg_cons hb with (⟨_, h2⟩ | ⟨h1, _⟩) | ⟨h1, _⟩
        · simp only at h2
          subst h2
          simpa using p2
        · cases h1
        · cases h1
      · have := (ha (true, v) (by simp)).1
        cases this
    | false =>
      simp only [Bool.false_eq_true, if_false] at hs
      obtain ⟨a1, a2⟩ := putAll_up (j := .f v.toNat) (nj := T) h hd hTn hi
      cases hb : bit (putAllX i (.f v.toNat) T X) .null v.toNat with
      | true =>
        have e : pfX T i ((false, v) :: l) X = pfX T i l (putAllX i (.f v.toNat) T X) := by simp [pfX, hb]
        rw [e]
        obtain ⟨u1, u2⟩ := ih hin.tail _ a1.shp
        refine ⟨a1.trans u1, fun hz => ?_⟩
        have e1 := u1.still hz
        have e2 : bit (putAllX i (.f v.toNat) T X) .gr 0 = false := by rw [← e1]; exact hz
        have e3 := a1.still e2
        obtain ⟨c1, c2⟩ := u2 hz
        rw [e3] at c1 c2 a2 ⊢
        refine ⟨fun t ht hbg => ?_, fun ha => c2 fun y hy => ha y (by simp [hy])⟩
        rcases Beg_cons hbg with (⟨h1, _⟩ | ⟨_, h2⟩) | ⟨_, _, h3⟩
        · cases h1
        · exact a2 t ht h2.2
        · exact c1 t ht h3
      | false =>
        have e : pfX T i ((false, v) :: l) X = (putAllX i (.f v.toNat) T X, false) := by simp [pfX, hb]
        rw [e]
        refine ⟨a1, fun hz => ?_⟩
        have e3 := a1.still hz
        rw [e3] at hb a2
        refine ⟨fun t ht hbg => ?_, fun ha => ?_⟩
        · rcases Beg_cons hbg with (⟨h1, _⟩ | ⟨_, h2⟩) | ⟨_, h2, _⟩
          · cases h1
          · exact a2 t ht h2.2
          · have := h2.2; simp only at this; rw [hb] at this; cases this
        · have := (ha (false, v) (by simp)).2.2; simp only at this; rw [hb] at this; cases this

/-! ### Nothing without a reason -/

/-- What each row may have. -/
def Zb (T N : Nat) (R : List Ru) : Iy → Nat → Prop
  | .null, n => NullP N R n
  | .f n, t => FirstP N R t n
  | .g n, t => FollowP T N R t n
  | .gr, _ => True
def Snd (T N : Nat) (R : List Ru) (X : Xs) : Prop := ∀ i n m, sdom T N i = some n → m < n → bit X i m = true → Zb T N R i m

variable {R : List Ru}

theorem put_snd {X : Xs} {i : Iy} {n m : Nat} (h : Shp T N X) (hd : sdom T N i = some n) (hm : m < n) (hs : Snd T N R X) (hz : Zb T N R i m) : Snd T N R (putX X i m) := by
  have hl := h i n hd
  have hg := h .gr 1 rfl
  cases hb : bit X i m with
  | true =>
    have e : putX X i m = X := by simp [putX, hb]
    rw [e]; exact hs
  | false =>
    have e : putX X i m = setX (setX X i m true) .gr 0 true := by simp [putX, hb]
    rw [e]
    have hg' : 0 < (setX X i m true .gr).length := by rw [len_set]; omega
    intro j k q hj hq hbq
    rw [bit_set hg', bit_set (by omega)] at hbq
    by_cases c1 : j = .gr ∧ q = 0
    · rw [c1.1]; trivial
    · rw [if_neg c1] at hbq
      by_cases c2 : j = i ∧ q = m
      · rw [c2.1, c2.2]; exact hz
      · rw [if_neg c2] at hbq
        exact hs j k q hj hq hbq

theorem putAll_snd {X : Xs} {i j : Iy} {n nj kj : Nat} (h : Shp T N X) (hd : sdom T N i = some n) (hle : nj ≤ n) (hi : i ≠ .gr) (hdj : sdom T N j = some kj) (hlj : nj ≤ kj) (hs : Snd T N R X) (hz : ∀ m, m < nj → Zb T N R j m → Zb T N R i m) : Snd T N R (putAllX i j nj X) := by
  induction nj with
  | zero => exact hs
  | succ k ih =>
    have h1 := (putAll_up (j := j) (nj := k) h hd (by omega) hi).1
    have h2 := ih (by omega) (by omega) (fun m hm => hz m (by omega))
    have e : putAllX i j (k + 1) X = if bit (putAllX i j k X) j k then putX (putAllX i j k X) i k else putAllX i j k X := rfl
    rw [e]
    cases hb : bit (putAllX i j k X) j k with
    | true =>
      simp only [if_true]
      exact put_snd h1.shp hd (by omega) h2 (hz k (by omega) (h2 j kj k hdj (by omega) hb))
    | false => simpa using h2

theorem pf_snd {i : Iy} {n : Nat} (hd : sdom T N i = some n) (hTn : T ≤ n) (hi : i ≠ .gr) : ∀ (l : List Sy), InR T N l → (∀ q s, l[q]? = some s → AllN (NullP N R) (l.take q) → (s.1 = true → Zb T N R i s.2.toNat) ∧ (s.1 = false → ∀ t, t < T → Zb T N R (.f s.2.toNat) t → Zb T N R i t)) →
    ∀ X, Shp T N X → Snd T N R X → Snd T N R (pfX T i l X).1 ∧ ((pfX T i l X).2 = true → AllN (NullP N R) l) := by
  intro l
  induction l with
  | nil => intro _ _ X _ hs; exact ⟨hs, fun _ s hs => by cases hs⟩
  | cons s l ih =>
    intro hin hz X h hs
    have hr := hin s (by simp)
    have hz0 := hz 0 s (by simp) (by intro x hx; simp at hx)
    obtain ⟨b, v⟩ := s
    cases b with
    | true =>
      simp only [if_true] at hr
      have e : pfX T i ((true, v) :: l) X = (putX X i v.toNat, false) := by simp [pfX]
      rw [e]
      exact ⟨put_snd h hd (by omega) hs (hz0.1 rfl), fun h => by cases h⟩
    | false =>
      simp only [Bool.false_eq_true, if_false] at hr
      have hdj : sdom T N (.f v.toNat) = some T := by simp [sdom]; omega
      have a1 := (putAll_up (j := .f v.toNat) (nj := T) h hd hTn hi).1
      have a2 := putAll_snd (nj := T) h hd hTn hi hdj (Nat.le_refl _) hs (hz0.2 rfl)
      cases hb : bit (putAllX i (.f v.toNat) T X) .null v.toNat with
      | true =>
        have e : pfX T i ((false, v) :: l) X = pfX T i l (putAllX i (.f v.toNat) T X) := by simp [pfX, hb]
        rw [e]
        have hnv : NullP N R v := by
          have := a2 .null N v.toNat rfl (by omega) hb
          have e : ((v.toNat : Nat) : Int) = v := by omega
          simp only [Zb, e] at this
          exact this
        have hcons : ∀ x, x = ((false, v) : Sy) → x.1 = false ∧ NullP N R x.2 := fun x hx => by subst hx; exact ⟨rfl, hnv⟩
        obtain ⟨c1, c2⟩ := ih hin.tail (fun q x hx ha => hz (q + 1) x (by simpa using hx) (fun y hy => by
          simp only [List.take_succ_cons, List.mem_cons] at hy
          rcases hy with hy | hy
          · exact hcons y hy
          · exact ha y hy)) _ a1.shp a2
        refine ⟨c1, fun h2 y hy => ?_⟩
        rcases List.mem_cons.1 hy with hy | hy
        · exact hcons y hy
        · exact c2 h2 y hy
      | false =>
        have e : pfX T i ((false, v) :: l) X = (putAllX i (.f v.toNat) T X, false) := by simp [pfX, hb]
        rw [e]
        exact ⟨a2, fun h => by cases h⟩
end

/-! ### A rule, a round -/

section
variable {T N : Nat}

theorem ahead_up {L : Nat} {l : List Sy} (hL : L < N) (hin : InR T N l) {X : Xs} (h : Shp T N X) : Up T N X (aheadX T L l X) ∧
    (bit (aheadX T L l X) .gr 0 = false → (∀ t, t < T → Beg (nullP' X) (firstP' X t) t l → bit X (.f L) t = true) ∧ (AllN (nullP' X) l → bit X .null L = true)) := by
  have hd : sdom T N (.f L) = some T := by simp [sdom, hL]
  obtain ⟨u1, u2⟩ := pf_up hd (Nat.le_refl _) (by simp) l hin X h
  cases hb : (pfX T (.f L) l X).2 with
  | true =>
    have e : aheadX T L l X = putX (pfX T (.f L) l X).1 .null L := by simp [aheadX, hb]
    obtain ⟨p1, p2⟩ := put_up (i := .null) (n := N) u1.shp rfl hL (by simp)
    rw [e]
    refine ⟨u1.trans p1, fun hz => ?_⟩
    have e1 := p1.still hz
    rw [e1] at hz p2
    obtain ⟨c1, _⟩ := u2 hz
    rw [u1.still hz] at p2
    exact ⟨c1, fun _ => p2⟩
  | false =>
    have e : aheadX T L l X = (pfX T (.f L) l X).1 := by simp [aheadX, hb]
    rw [e]
    refine ⟨u1, fun hz => ?_⟩
    obtain ⟨c1, c2⟩ := u2 hz
    exact ⟨c1, fun ha => by rw [c2 ha] at hb; cases hb⟩

theorem getD_mem {l : List Sy} {k : Nat} (hk : k < l.length) : l.getD k (false, 0) ∈ l := by simp [List.getD, hk]

theorem step_up {L k : Nat} {l : List Sy} (hL : L < N) (hin : InR T N l) (hk : k < l.length) {X : Xs} (h : Shp T N X) : Up T N X (stepX T L l k X) ∧
    (bit (stepX T L l k X) .gr 0 = false → ∀ v, l[k]? = some (false, v) → (∀ t, t < T → Beg (nullP' X) (firstP' X t) t (l.drop (k + 1)) → bit X (.g v.toNat) t = true) ∧
      (AllN (nullP' X) (l.drop (k + 1)) → ∀ t, t < T + 1 → bit X (.g L) t = true → bit X (.g v.toNat) t = true)) := by
  have hs := hin _ (getD_mem hk)
  have hgk : l[k]? = some (l.getD k (false, 0)) := by simp [List.getD, hk]
  unfold stepX
  obtain ⟨⟨b, v⟩, hsy⟩ : ∃ x, l.getD k (false, 0) = x := ⟨_, rfl⟩
  rw [hsy] at hs hgk ⊢
  cases b with
  | true =>
    simp only [if_true]
    exact ⟨Up.refl h, fun _ v' hv => by rw [hgk] at hv; cases hv⟩
  | false =>
    simp only [Bool.false_eq_true, if_false] at hs ⊢
    have hd : sdom T N (.g v.toNat) = some (T + 1) := by simp [sdom]; omega
    have hdL : sdom T N (.g L) = some (T + 1) := by simp [sdom]; omega
    obtain ⟨u1, u2⟩ := pf_up hd (by omega) (by simp) (l.drop (k + 1)) (hin.drop _) X h
    cases hb : (pfX T (.g v.toNat) (l.drop (k + 1)) X).2 with
    | true =>
      simp only [if_true]
      obtain ⟨a1, a2⟩ := putAll_up (j := .g L) (nj := T + 1) u1.shp hd (Nat.le_refl _) (by simp)
      refine ⟨u1.trans a1, fun hz v' hv => ?_⟩
      rw [hgk] at hv
      cases hv
      have e1 := a1.still hz
      rw [e1] at hz a2
      obtain ⟨c1, _⟩ := u2 hz
      rw [u1.still hz] at a2
      exact ⟨c1, fun _ => a2⟩
    | false =>
      simp only [Bool.false_eq_true, if_false]
      refine ⟨u1, fun hz v' hv => ?_⟩
      rw [hgk] at hv
      cases hv
      obtain ⟨c1, c2⟩ := u2 hz
      exact ⟨c1, fun ha => by rw [c2 ha] at hb; cases hb⟩

/-- A loop of steps that only grow: where the mark is not set, each step has left all as it was. -/
theorem loop_up {n : Nat} {f : Nat → Xs → Xs} (hf : ∀ k, k < n → ∀ Y, Shp T N Y → Up T N Y (f k Y)) {X : Xs} (h : Shp T N X) : Up T N X (loopN n f X) ∧
    (bit (loopN n f X) .gr 0 = false → ∀ k, k < n → bit (f k X) .gr 0 = false) := by
  induction n with
  | zero => exact ⟨Up.refl h, fun _ k hk => absurd hk (Nat.not_lt_zero _)⟩
  | succ n ih =>
    obtain ⟨h1, h2⟩ := ih fun k hk => hf k (by omega)
    have h3 := hf n (by omega) _ h1.shp
    refine ⟨h1.trans h3, fun hz k hk => ?_⟩
    have hz' : bit (f n (loopN n f X)) .gr 0 = false := hz
    have e1 := h3.still hz'
    have hz1 : bit (loopN n f X) .gr 0 = false := by rw [← e1]; exact hz'
    rcases Nat.lt_succ_iff_lt_or_eq.1 hk with hk | rfl
    · exact h2 hz1 k hk
    · rw [h1.still hz1] at hz'
      exact hz'

/-- What a rule wants of the sets. -/
structure Held (T : Nat) (r : Ru) (X : Xs) : Prop where
  null : AllN (nullP' X) r.2 → bit X .null r.1.toNat = true
  first : ∀ t, t < T → Beg (nullP' X) (firstP' X t) t r.2 → bit X (.f r.1.toNat) t = true
  after : ∀ k v, r.2[k]? = some (false, v) → ∀ t, t < T → Beg (nullP' X) (firstP' X t) t (r.2.drop (k + 1)) → bit X (.g v.toNat) t = true
  follow : ∀ k v, r.2[k]? = some (false, v) → AllN (nullP' X) (r.2.drop (k + 1)) → ∀ t, t < T + 1 → bit X (.g r.1.toNat) t = true → bit X (.g v.toNat) t = true

structure RuleIn (T N : Nat) (r : Ru) : Prop where
  left : 0 ≤ r.1 ∧ r.1 < (N : Int)
  right : InR T N r.2

theorem rule_up {r : Ru} (hr : RuleIn T N r) {X : Xs} (h : Shp T N X) : Up T N X (ruleX T r X) ∧ (bit (ruleX T r X) .gr 0 = false → Held T r X) := by
  have hL : r.1.toNat < N := by have := hr.left; omega
  obtain ⟨a1, a2⟩ := ahead_up hL hr.right h
  obtain ⟨b1, b2⟩ := loop_up (n := r.2.length) (f := stepX T r.1.toNat r.2) (fun k hk Y hY => (step_up hL hr.right hk hY).1) a1.shp
  refine ⟨a1.trans b1, fun hz => ?_⟩
  have hz' : bit (loopN r.2.length (stepX T r.1.toNat r.2) (aheadX T r.1.toNat r.2 X)) .gr 0 = false := hz
  have e1 := b1.still hz'
  have hz1 : bit (aheadX T r.1.toNat r.2 X) .gr 0 = false := by rw [← e1]; exact hz'
  obtain ⟨c1, c2⟩ := a2 hz1
  have hs := b2 hz'
  rw [a1.still hz1] at hs
  have hlt : ∀ {k v}, r.2[k]? = some (false, v) → k < r.2.length := fun h => (List.getElem?_eq_some_iff.1 h).1
  exact ⟨c2, c1, fun k v hv => ((step_up hL hr.right (hlt hv) h).2 (hs k (hlt hv)) v hv).1, fun k v hv => ((step_up hL hr.right (hlt hv) h).2 (hs k (hlt hv)) v hv).2⟩

theorem round_up {R : List Ru} (hR : ∀ q, q < R.length → RuleIn T N (R.getD q (0, []))) {X : Xs} (h : Shp T N X) : Up T N X (roundX T R R.length X) ∧
    (bit (roundX T R R.length X) .gr 0 = false → ∀ q, q < R.length → Held T (R.getD q (0, [])) X) := by
  obtain ⟨b1, b2⟩ := loop_up (n := R.length) (f := fun q => ruleX T (R.getD q (0, []))) (fun q hq Y hY => (rule_up (hR q hq) hY).1) h
  exact ⟨b1, fun hz q hq => (rule_up (hR q hq) h).2 (b2 hz q hq)⟩
end

/-! ### .. and nothing without a reason -/

section
variable {T N : Nat} {R : List Ru}

theorem cast_of {v : Int} (h : 0 ≤ v) : ((v.toNat : Nat) : Int) = v := by omega

theorem ahead_snd (hf : Fine T N R) {r : Ru} (hr : RuleIn T N r) (hm : r ∈ R) {X : Xs} (h : Shp T N X) (hs : Snd T N R X) : Snd T N R (aheadX T r.1.toNat r.2 X) := by
  have hL : r.1.toNat < N := by have := hr.left; omega
  have hd : sdom T N (.f r.1.toNat) = some T := by simp [sdom, hL]
  have ec := cast_of hr.left.1
  obtain ⟨p1, p2⟩ := pf_snd (R := R) hd (Nat.le_refl _) (by simp) r.2 hr.right (fun q s hq ha => ⟨fun hb => by
      have hsr := hr.right s (List.mem_of_getElem? hq)
      show FirstP N R _ _
      rw [ec, cast_of hsr.1]
      exact Lv_closed (FirstF_mono hf _ _) _ ⟨r, hm, rfl, q, s, hq, .inl ⟨hb, rfl⟩, ha⟩, fun hb t _ hz => by
      have hsr := hr.right s (List.mem_of_getElem? hq)
      show FirstP N R _ _
      have hz' : FirstP N R t s.2 := by have : FirstP N R t (s.2.toNat : Nat) := hz; rwa [cast_of hsr.1] at this
      rw [ec]
      exact Lv_closed (FirstF_mono hf _ _) _ ⟨r, hm, rfl, q, s, hq, .inr ⟨hb, hz'⟩, ha⟩⟩) X h hs
  have u1 := (pf_up hd (Nat.le_refl _) (by simp) r.2 hr.right X h).1
  unfold aheadX
  cases hb : (pfX T (.f r.1.toNat) r.2 X).2 with
  | true =>
    simp only [if_true]
    refine put_snd (i := .null) u1.shp rfl hL p1 ?_
    show NullP N R _
    rw [ec]
    exact Lv_closed (NullF_mono hf) _ ⟨r, hm, rfl, p2 hb⟩
  | false => simpa using p1

theorem step_snd (hf : Fine T N R) {r : Ru} (hr : RuleIn T N r) (hm : r ∈ R) {k : Nat} (hk : k < r.2.length) {X : Xs} (h : Shp T N X) (hs : Snd T N R X) : Snd T N R (stepX T r.1.toNat r.2 k X) := by
  have hL : r.1.toNat < N := by have := hr.left; omega
  have ec := cast_of hr.left.1
  have hsr := hr.right _ (getD_mem hk)
  have hgk : r.2[k]? = some (r.2.getD k (false, 0)) := by simp [List.getD, hk]
  unfold stepX
  obtain ⟨⟨b, v⟩, hsy⟩ : ∃ x, r.2.getD k (false, 0) = x := ⟨_, rfl⟩
  rw [hsy] at hsr hgk ⊢
  cases b with
  | true => simpa using hs
  | false =>
    simp only [Bool.false_eq_true, if_false] at hsr ⊢
    have ev := cast_of hsr.1
    have hd : sdom T N (.g v.toNat) = some (T + 1) := by simp [sdom]; omega
    have hdL : sdom T N (.g r.1.toNat) = some (T + 1) := by simp [sdom]; omega
    have u1 := (pf_up hd (by omega) (by simp) (r.2.drop (k + 1)) (hr.right.drop _) X h).1
    obtain ⟨p1, p2⟩ := pf_snd (R := R) hd (by omega) (by simp) (r.2.drop (k + 1)) (hr.right.drop _) (fun q s hq ha => ⟨fun hb => by
        have hx := hr.right.drop _ s (List.mem_of_getElem? hq)
        have hx2 := hx.2
        rw [hb] at hx2
        simp only [if_true] at hx2
        show FollowP T N R _ _
        rw [ev, cast_of hx.1]
        exact Lv_closed (FollowF_mono hf _ _ _) _ (.inr ⟨r, hm, k, hgk, .inl ⟨hx2, q, s, hq, .inl ⟨hb, rfl⟩, ha⟩⟩), fun hb t ht hz => by
        have hx := hr.right.drop _ s (List.mem_of_getElem? hq)
        show FollowP T N R _ _
        have hz' : FirstP N R t s.2 := by have : FirstP N R t (s.2.toNat : Nat) := hz; rwa [cast_of hx.1] at this
        rw [ev]
        exact Lv_closed (FollowF_mono hf _ _ _) _ (.inr ⟨r, hm, k, hgk, .inl ⟨by omega, q, s, hq, .inr ⟨hb, hz'⟩, ha⟩⟩)⟩) X h hs
    cases hb : (pfX T (.g v.toNat) (r.2.drop (k + 1)) X).2 with
    | true =>
      simp only [if_true]
      refine putAll_snd u1.shp hd (Nat.le_refl _) (by simp) hdL (Nat.le_refl _) p1 fun t _ hz => ?_
      show FollowP T N R _ _
      have hz' : FollowP T N R t r.1 := by have : FollowP T N R t (r.1.toNat : Nat) := hz; rwa [ec] at this
      rw [ev]
      exact Lv_closed (FollowF_mono hf _ _ _) _ (.inr ⟨r, hm, k, hgk, .inr ⟨p2 hb, hz'⟩⟩)
    | false => simpa using p1

theorem loop_snd {n : Nat} {f : Nat → Xs → Xs} (hf : ∀ k, k < n → ∀ Y, Shp T N Y → Up T N Y (f k Y)) (hg : ∀ k, k < n → ∀ Y, Shp T N Y → Snd T N R Y → Snd T N R (f k Y)) {X : Xs} (h : Shp T N X) (hs : Snd T N R X) : Snd T N R (loopN n f X) := by
  induction n with
  | zero => exact hs
  | succ n ih =>
    have h1 := (loop_up (n := n) (f := f) (fun k hk => hf k (by omega)) h).1
    exact hg n (by omega) _ h1.shp (ih (fun k hk => hf k (by omega)) fun k hk => hg k (by omega))

theorem round_snd (hf : Fine T N R) (hR : ∀ q, q < R.length → RuleIn T N (R.getD q (0, []))) {X : Xs} (h : Shp T N X) (hs : Snd T N R X) : Snd T N R (roundX T R R.length X) := by
  refine loop_snd (fun q hq Y hY => (rule_up (hR q hq) hY).1) (fun q hq Y hY hsY => ?_) h hs
  have hm : R.getD q (0, []) ∈ R := by simp [List.getD, hq]
  have hr := hR q hq
  have hL : (R.getD q (0, [])).1.toNat < N := by have := hr.left; omega
  exact loop_snd (fun k hk Z hZ => (step_up hL hr.right hk hZ).1) (fun k hk Z hZ hsZ => step_snd hf hr hm hk hZ hsZ) (ahead_up hL hr.right hY).1.shp (ahead_snd hf hr hm hY hsY)

/-- Where a round leaves all as it is, and nothing is there without a reason, the sets are the least ones. -/
theorem least_of_still (hf : Fine T N R) {X : Xs} (h : Shp T N X) (hs : Snd T N R X) (hH : ∀ q, q < R.length → Held T (R.getD q (0, [])) X) (h0 : bit X (.g 0) T = true) :
    (∀ n : Nat, n < N → (bit X .null n = true ↔ NullP N R n)) ∧ (∀ n t : Nat, n < N → t < T → (bit X (.f n) t = true ↔ FirstP N R t n)) ∧ (∀ n t : Nat, n < N → t < T + 1 → (bit X (.g n) t = true ↔ FollowP T N R t n)) := by
  have hH' : ∀ r ∈ R, Held T r X := fun r hr => by
    obtain ⟨q, hq, rfl⟩ := List.getElem_of_mem hr
    have e : R.getD q (0, []) = R[q] := by simp [List.getD, hq]
    have := hH q hq
    rwa [e] at this
  have range : ∀ {i : Iy} {n m : Nat}, sdom T N i = some n → bit X i m = true → m < n := fun {i n m} hd hb => by
    have := bit_lt hb
    rw [h i n hd] at this
    exact this
  have nul : ∀ n, NullP N R n → nullP' X n := fun n hn => Lv_least (NullF_up R) (A := nullP' X) (fun n hn => by
    obtain ⟨r, hr, rfl, ha⟩ := hn
    exact ⟨(hf.left r hr).1, (hH' r hr).null ha⟩) N n hn
  have nulEq : nullP' X = NullP N R := funext fun n => propext ⟨fun hn => by
    have := hs .null N n.toNat rfl (range rfl hn.2) hn.2
    have : NullP N R (n.toNat : Nat) := this
    rwa [cast_of hn.1] at this, nul n⟩
  have fir : ∀ t : Nat, t < T → ∀ n, FirstP N R t n → firstP' X t n := fun t ht n hn => Lv_least (FirstF_up R _ t) (A := firstP' X t) (fun n hn => by
    obtain ⟨r, hr, rfl, ha⟩ := hn
    exact ⟨(hf.left r hr).1, (hH' r hr).first t ht (by rw [nulEq]; exact ha)⟩) N n hn
  have sndF : ∀ n t : Nat, n < N → t < T → bit X (.f n) t = true → FirstP N R t n := fun n t hn ht hb => hs (.f n) T t (by simp [sdom, hn]) ht hb
  have fol : ∀ t : Nat, t < T + 1 → ∀ n, FollowP T N R t n → followP' X t n := fun t ht n hn => Lv_least (FollowF_up R _ _ T t) (A := followP' X t) (fun n hn => by
    rcases hn with ⟨rfl, hT⟩ | ⟨r, hr, k, hk, ha⟩
    · obtain rfl : t = T := by omega
      exact ⟨Int.le_refl _, h0⟩
    · have hv := hf.name r hr _ (List.mem_of_getElem? hk) rfl
      refine ⟨hv.1, ?_⟩
      rcases ha with ⟨a1, a2⟩ | ⟨a1, a2⟩
      · refine (hH' r hr).after k _ hk t (by omega) ?_
        rw [nulEq]
        exact a2.mono fun n hn => fir t (by omega) n hn
      · exact (hH' r hr).follow k _ hk (by rw [nulEq]; exact a1) t ht a2.2) N n hn
  refine ⟨fun n hn => ⟨fun hb => hs .null N n rfl hn hb, fun hn' => ?_⟩, fun n t hn ht => ⟨sndF n t hn ht, fun hn' => ?_⟩, fun n t hn ht => ⟨fun hb => hs (.g n) (T + 1) t (by simp [sdom, hn]) ht hb, fun hn' => ?_⟩⟩
  · simpa using (nul n hn').2
  · simpa using (fir t ht n hn').2
  · simpa using (fol t ht n hn').2
end

/-! ### Each round that grows leaves fewer to come -/

section
variable {T N : Nat}
def allIx (T N : Nat) : List (Iy × Nat) := (List.range N).map (fun n => (.null, n)) ++ (List.range N).flatMap (fun n => (List.range T).map fun t => (.f n, t)) ++ (List.range N).flatMap (fun n => (List.range (T + 1)).map fun t => (.g n, t))
def left (T N : Nat) (X : Xs) : Nat := ((allIx T N).filter fun p => !bit X p.1 p.2).length

theorem allIx_mem {i : Iy} {n m : Nat} (hi : i ≠ .gr) (hd : sdom T N i = some n) (hm : m < n) : (i, m) ∈ allIx T N := by
  cases i with
  | gr => exact absurd rfl hi
  | null => simp only [sdom, Option.some.injEq] at hd; subst hd; simp [allIx, hm]
  | f q =>
    simp only [sdom] at hd
    split at hd
    · cases hd; rename_i hq; simp [allIx, hq, hm]
    · cases hd
  | g q =>
    simp only [sdom] at hd
    split at hd
    · cases hd; rename_i hq; simp [allIx, hq, hm]
    · cases hd

theorem left_lt {X Y : Xs} (h : Up T N X Y) (h1 : bit X .gr 0 = false) (h2 : bit Y .gr 0 = true) : left T N Y < left T N X := by
  obtain ⟨i, m, n, a1, a2, a3, a4, a5⟩ := h.grew h1 h2
  refine (filter_lt _ _ (fun p hp => ?_) (allIx T N)).2 ⟨(i, m), allIx_mem a1 a2 a3, by simp [a4], by simp [a5]⟩
  cases hb : bit X p.1 p.2 with
  | false => rfl
  | true => simp [h.up _ _ hb] at hp

theorem left_gr {X : Xs} {v : Bool} (h : Shp T N X) : left T N (setX X .gr 0 v) = left T N X := by
  have hg := h .gr 1 rfl
  unfold left
  congr 1
  refine List.filter_congr fun p hp => ?_
  rw [bit_set (by omega), if_neg]
  rintro ⟨e, _⟩
  simp only [allIx, List.mem_append, List.mem_map, List.mem_flatMap] at hp
  rcases hp with (⟨_, _, rfl⟩ | ⟨_, _, _, _, rfl⟩) | ⟨_, _, _, _, rfl⟩ <;> cases e
end

end Go.Proofs.Ytobegekmgoiopaa

/- The contract of the program's sets.Of$1 (what is done with a rule), and of grow.UntilStill with it. -/
namespace Go.Proofs.Ytobegekmgoiopaa
open Go.RowKit

section
variable {T N : Nat} {nv : Value} {vf vg : Nat → Value} {gb : Nat}

/-- What a round wants of memory: the grammar's box, the sets' box, the rules, the rows' heads. -/
structure Env (w : World) (B T N : Nat) (K : Nat → Prop) (gx sx : Nat) (rv nv fv gv : Value) (vf vg : Nat → Value) (R : List Ru) : Prop where
  g2 : w.cell? ⟨gx, 2, none⟩ = some rv
  s0 : w.cell? ⟨sx, 0, none⟩ = some nv
  s1 : w.cell? ⟨sx, 1, none⟩ = some fv
  s2 : w.cell? ⟨sx, 2, none⟩ = some gv
  gK : ¬ K gx
  sK : ¬ K sx
  hr : RulesAt w B rv R
  hF : Heads w K N fv vf
  hG : Heads w K N gv vg

theorem Env.kept {w w' : World} {B : Nat} {K : Nat → Prop} {gx sx : Nat} {rv nv fv gv : Value} {R : List Ru} (h : Env w B T N K gx sx rv nv fv gv vf vg R) (hk : Kept K w w') (hB : ∀ b, K b → B ≤ b) (hs : B ≤ w.heap.size) : Env w' B T N K gx sx rv nv fv gv vf vg R :=
  ⟨hk.cell h.gK h.g2, hk.cell h.sK h.s0, hk.cell h.sK h.s1, hk.cell h.sK h.s2, h.gK, h.sK, h.hr.below (hk.below hB hs), h.hF.kept hk, h.hG.kept hk⟩

set_option maxRecDepth 100000 in
set_option maxHeartbeats 3200000 in
theorem ofRule_any {w : World} {B gx sx qc : Nat} {qa : Option Addr} {rv fv gv : Value} {X : Xs} {R : List Ru} {r : Ru} (h : Bt w B (STab T N nv vf vg gb) X) (hB : B ≤ w.heap.size) (hE : Env w B T N (STab T N nv vf vg gb).K gx sx rv nv fv gv vf vg R)
    (hru : RuleIn T N r) (h8 : r.2.length ≤ 8) (hT : T ≤ 8) (hR : RightAt w B qa r.2) (hqc : r.2.length ≤ qc) :
    Calls Try.prog 46 #[.agg #[.int .i64 r.1, .slice qa r.2.length qc], .func (.func 58) #[] #[.pointer (some ⟨gb, 0, none⟩)], .pointer (some ⟨sx, 0, none⟩)] w fun e w' =>
      e = .returned (.tuple #[]) ∧ Bt w' B (STab T N nv vf vg gb) (ruleX T r X) ∧ Kept (STab T N nv vf vg gb).K w w' := by
  obtain ⟨L, Rt⟩ := r
  obtain ⟨hL, hRt⟩ := hru
  simp only at hL hRt h8 hR hqc ⊢
  obtain ⟨l, rfl⟩ : ∃ l : Nat, L = l := ⟨L.toNat, by omega⟩
  have hlN : l < N := by omega
  obtain ⟨na, nc, hvn'⟩ := Bt.slice (i := Iy.null) (n := N) h rfl
  have hvn : nv = .slice na N nc := hvn'
  obtain ⟨fa, fc, hfv⟩ := hE.hF.1
  obtain ⟨ga, gc, hgv⟩ := hE.hG.1
  clear hvn'
  subst hvn
  subst hfv
  subst hgv
  have hK1 : Kept (STab T N (.slice na N nc) vf vg gb).K w (w.alloc (.cells #[.int .i64 l, .slice qa Rt.length qc] 28)) := (Kept.refl _ _).alloc _
  have hE1 := hE.kept hK1 (fun b hb => Bt.ge h hb) hB
  have hR1 := hR.below (hK1.below (fun b hb => Bt.ge h hb) hB)
  have ahead := growAhead_any (w := w.alloc (.cells #[.int .i64 l, .slice qa Rt.length qc] 28)) (B := B) (lc := qc) (L := l) (gl := N) (gc := gc) (ga := ga) (la := qa) (l := Rt) (Bt.alloc h _) (by simp; omega) hlN hE1.hF hR1 hRt (by omega) (by omega)
  have HS : Hid (ruleX T ((l : Int), Rt) X = behindX T l Rt (aheadX T l Rt X)) := by show ruleX T ((l : Int), Rt) X = _; simp [ruleX]
  have s0 := hE1.s0
  have s1 := hE1.s1
  have s2 := hE1.s2
  have HE1 : Hid (Env (w.alloc (.cells #[.int .i64 l, .slice qa Rt.length qc] 28)) B T N (STab T N (.slice na N nc) vf vg gb).K gx sx rv (.slice na N nc) (.slice fa N fc) (.slice ga N gc) vf vg R) := hE1
  have HRt : Hid (InR T N Rt) := hRt
  have HRA : Hid (RightAt (w.alloc (.cells #[.int .i64 l, .slice qa Rt.length qc] 28)) B qa Rt) := hR1
  have HK1 : Hid (Kept (STab T N (.slice na N nc) vf vg gb).K w (w.alloc (.cells #[.int .i64 l, .slice qa Rt.length qc] 28))) := hK1
  have HB : Hid (Bt w B (STab T N (.slice na N nc) vf vg gb) X) := h
  clear hE hE1 hK1 hRt hR hR1 h
  go_enter Try.func46, Try.ntmps46
  go_wp2_with
    (first
     | (go_at_call 47; refine ahead.mono ?_; rintro e w2 ⟨rfl, hB2, hK2⟩
        have q0 := hK2.cell HE1.out.sK s0
        have q1 := hK2.cell HE1.out.sK s1
        have q2 := hK2.cell HE1.out.sK s2
        have q3 := hK2.cell (p := ⟨w.heap.size, 0, none⟩) (Bt.notK HB.out (Nat.le_refl _)) (v := .int .i64 l) (by simp [go_sem])
        have q4 := hK2.cell (p := ⟨w.heap.size, 1, none⟩) (Bt.notK HB.out (Nat.le_refl _)) (v := .slice qa Rt.length qc) (by simp [go_sem])
        have hsz2 := hK2.size
        have HB2 : Hid (Bt w2 B (STab T N (.slice na N nc) vf vg gb) (aheadX T l Rt X)) := hB2
        have HK2 : Hid (Kept (STab T N (.slice na N nc) vf vg gb).K (w.alloc (.cells #[.int .i64 l, .slice qa Rt.length qc] 28)) w2) := hK2
        simp only [World.size_alloc] at hsz2
        clear hB2 hK2 ahead s0 s1 s2)
     | (go_at_call 48
        refine (growBehind_any (B := B) (T := T) (N := N) (vf := vf) (vg := vg) (gb := gb) (X := aheadX T l Rt X) (l := Rt) HB2.out ?_ hlN hqc (HE1.out.kept HK2.out ?_ ?_).hF (HE1.out.kept HK2.out ?_ ?_).hG (HRA.out.below (HK2.out.below ?_ ?_)) HRt.out ?_ ?_).mono ?_
        · omega
        · exact fun b hb => Bt.ge HB.out hb
        · simp; omega
        · exact fun b hb => Bt.ge HB.out hb
        · simp; omega
        · exact fun b hb => Bt.ge HB.out hb
        · simp; omega
        · omega
        · omega
        rintro e w3 ⟨rfl, hB3, hK3⟩))
  go_end0
  exact ⟨rfl, by rw [HS.out]; exact hB3, (HK1.out.trans HK2.out).trans hK3⟩

/-- What holds of the sets at the head of untilStill's loop. -/
structure AtHead (T N : Nat) (R : List Ru) (X : Xs) : Prop where
  shp : Shp T N X
  snd : Snd T N R X
  held : bit X .gr 0 = false → ∀ q, q < R.length → Held T (R.getD q (0, [])) X
  fin : bit X (.g 0) T = true

/-- How many rounds may still come. -/
def togo (T N : Nat) (X : Xs) : Nat := 2 * left T N X + if bit X .gr 0 then 1 else 0

theorem AtHead.next {R : List Ru} (hf : Fine T N R) (hR : ∀ q, q < R.length → RuleIn T N (R.getD q (0, []))) {X : Xs} (h : AtHead T N R X) (hg : bit X .gr 0 = true) :
    AtHead T N R (roundX T R R.length (setX X .gr 0 false)) ∧ togo T N (roundX T R R.length (setX X .gr 0 false)) < togo T N X := by
  have hl := h.shp .gr 1 rfl
  have s1 : Shp T N (setX X .gr 0 false) := fun i n hd => by rw [len_set]; exact h.shp i n hd
  have n1 : Snd T N R (setX X .gr 0 false) := fun i n m hd hm hb => by
    rw [bit_set (by omega)] at hb
    by_cases c : i = .gr ∧ m = 0
    · rw [if_pos c] at hb; cases hb
    · rw [if_neg c] at hb; exact h.snd i n m hd hm hb
  have g1 : bit (setX X .gr 0 false) .gr 0 = false := by rw [bit_set (by omega)]; simp
  have f1 : bit (setX X .gr 0 false) (.g 0) T = true := by rw [bit_set (by omega), if_neg (by simp)]; exact h.fin
  obtain ⟨u1, u2⟩ := round_up hR s1
  refine ⟨⟨u1.shp, round_snd hf hR s1 n1, fun hz => ?_, u1.up _ _ f1⟩, ?_⟩
  · rw [u1.still hz]; exact u2 hz
  · have e := left_gr (v := false) h.shp
    unfold togo
    rw [hg]
    cases hz : bit (roundX T R R.length (setX X .gr 0 false)) .gr 0 with
    | true => have := left_lt u1 g1 hz; simp only [if_true]; omega
    | false => rw [u1.still hz]; simp only [if_true, Bool.false_eq_true, if_false]; omega

theorem untilStill_any {w : World} {B gx sx : Nat} {rv fv gv : Value} {X : Xs} {R : List Ru} (h : Bt (w.alloc (.cells #[.bool true] 4)) B (STab T N nv vf vg w.heap.size) X) (hB : B ≤ w.heap.size)
    (hE : Env (w.alloc (.cells #[.bool true] 4)) B T N (STab T N nv vf vg w.heap.size).K gx sx rv nv fv gv vf vg R) (hf : Fine T N R) (hR : ∀ q, q < R.length → RuleIn T N (R.getD q (0, [])) ∧ (R.getD q (0, [])).2.length ≤ 8) (hT : T ≤ 8) (h40 : R.length ≤ 40) (hA : AtHead T N R X) :
    Calls Try.prog 45 #[rv, .func (.func 46) #[] #[.pointer (some ⟨sx, 0, none⟩)]] w fun e w' =>
      e = .returned (.tuple #[]) ∧ ∃ Y, AtHead T N R Y ∧ bit Y .gr 0 = false ∧ Bt w' B (STab T N nv vf vg w.heap.size) Y ∧ Kept (STab T N nv vf vg w.heap.size).K (w.alloc (.cells #[.bool true] 4)) w' := by
  refine until_gen (f := ruleX T) (togo := togo T N) h hB (stab_mark _ _ _ _ _ _) hE.hr (by omega) (fun k hk w1 Y qa qc hK hBt hRA hqc => ?_) (fun args w => by simp [callFunc, Try.func46, Try.f46 ]) hA (fun Y hY hg => hY.next hf (fun q hq => (hR q hq).1) hg)
  have e : ∀ a b c : Value, #[a, b] ++ #[c] = #[a, b, c] := fun a b c => by simp
  rw [e]
  have hs := hK.size
  simp only [World.size_alloc] at hs
  exact ofRule_any hBt (by omega) (hE.kept hK (fun b hb => Bt.ge h hb) (by simp; omega)) (hR k hk).1 (hR k hk).2 hT hRA hqc
end

end Go.Proofs.Ytobegekmgoiopaa
