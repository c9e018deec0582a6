import Derived.Test.YtikjekfpgklbdaaConcRAndDerdMath
import Derived.Test.YtikjekfpgklbdaaHeldTailAndConcT
/- Plain: derivations as trees, in rows. No program. -/
namespace Go.Proofs.Ytikjekfpgklbdaa

/-- Trees in a row: the first one's rule, what stands for the names of its Right, the others. -/
inductive Fo where
  | no : Fo
  | nd : Nat → Fo → Fo → Fo

/-- The rules' numbers, in their order. -/
def flatFo : Fo → List Int
  | .no => []
  | .nd q ks ts => (q : Int) :: (flatFo ks ++ flatFo ts)

/-- The names among symbols. -/
def namesS : List Sy → List Int
  | [] => []
  | (true, _) :: l => namesS l
  | (false, n) :: l => n :: namesS l
/-- Symbols become tokens, names one after another what is given. -/
def weave : List Sy → List (List Int) → List Int
  | [], _ => []
  | (true, v) :: l, ys => v :: weave l ys
  | (false, _) :: l, ys => ys.headD [] ++ weave l ys.tail

/-- The trees are derivations of these names. -/
def okF (R : List Ru) : Fo → List Int → Prop
  | .no, ns => ns = []
  | .nd q ks ts, ns => ∃ n ns', ns = n :: ns' ∧ q < R.length ∧ (R.getD q (0, [])).1 = n ∧ okF R ks (namesS (R.getD q (0, [])).2) ∧ okF R ts ns'

/-- What they yield, one after another. -/
def yldF (R : List Ru) : Fo → List (List Int)
  | .no => []
  | .nd q ks ts => weave (R.getD q (0, [])).2 (yldF R ks) :: yldF R ts

section
variable {R : List Ru}

theorem okF_no {t : Fo} (h : okF R t []) : t = .no := by
  cases t with
  | no => rfl
  | nd q ks ts => obtain ⟨n, ns, e, _⟩ := h; cases e
theorem okF_cons {t : Fo} {n : Int} {ns : List Int} (h : okF R t (n :: ns)) : ∃ q ks ts, t = .nd q ks ts ∧ q < R.length ∧ (R.getD q (0, [])).1 = n ∧ okF R ks (namesS (R.getD q (0, [])).2) ∧ okF R ts ns := by
  cases t with
  | no => cases h
  | nd q ks ts =>
    obtain ⟨n', ns', e, h1, h2, h3, h4⟩ := h
    injection e with e1 e2
    subst e1 e2
    exact ⟨q, ks, ts, rfl, h1, h2, h3, h4⟩

theorem der_tree : ∀ k n d Z, DerDL R k n d Z → ∃ q ks, q < R.length ∧ (R.getD q (0, [])).1 = n ∧ okF R ks (namesS (R.getD q (0, [])).2) ∧ (q : Int) :: flatFo ks = d ∧ weave (R.getD q (0, [])).2 (yldF R ks) = Z := by
  intro k
  induction k with
  | zero => intro n d Z h; exact h.elim
  | succ k ih =>
    rintro n d Z ⟨q, hq, hL, d', rfl, hs⟩
    have : ∀ (l : List Sy) (d Z : List Int), SeqDD (DerDL R k) l d Z → ∃ ts, okF R ts (namesS l) ∧ flatFo ts = d ∧ weave l (yldF R ts) = Z := by
      intro l
      induction l with
      | nil => rintro d Z ⟨rfl, rfl⟩; exact ⟨.no, rfl, rfl, rfl⟩
      | cons s l ihl =>
        intro d Z h
        obtain ⟨b, n⟩ := s
        cases b with
        | true =>
          obtain ⟨Z', rfl, h2⟩ := h
          obtain ⟨ts, h3, h4, h5⟩ := ihl _ _ h2
          exact ⟨ts, h3, h4, by rw [weave, h5]⟩
        | false =>
          obtain ⟨d1, d2, Z1, Z2, rfl, rfl, h3, h4⟩ := h
          obtain ⟨q, ks, t1, t2, t3, t4, t5⟩ := ih _ _ _ h3
          obtain ⟨ts, u1, u2, u3⟩ := ihl _ _ h4
          refine ⟨.nd q ks ts, ⟨n, _, rfl, t1, t2, t3, u1⟩, by rw [flatFo, ← t4, u2]; rfl, ?_⟩
          rw [weave, yldF, List.headD_cons, List.tail_cons, t5, u3]
    obtain ⟨ts, h1, h2, h3⟩ := this _ _ _ hs
    exact ⟨q, ts, hq, hL, h1, by rw [h2], h3⟩

theorem tree_der : ∀ (t : Fo) (l : List Sy), okF R t (namesS l) → SeqDD (DerD R) l (flatFo t) (weave l (yldF R t)) := by
  intro t
  induction t with
  | no =>
    intro l h
    induction l with
    | nil => exact ⟨rfl, rfl⟩
    | cons s l ih =>
      obtain ⟨b, n⟩ := s
      cases b with
      | true => exact ⟨_, rfl, ih h⟩
      | false => cases h
  | nd q ks ts ihk iht =>
    intro l h
    induction l with
    | nil => obtain ⟨n, ns, e, _⟩ := h; cases e
    | cons s l ih =>
      obtain ⟨b, n⟩ := s
      cases b with
      | true => exact ⟨_, rfl, ih h⟩
      | false =>
        obtain ⟨n', ns', e, h1, h2, h3, h4⟩ := h
        injection e with e1 e2
        subst e1 e2
        rw [flatFo, weave, yldF, List.headD_cons, List.tail_cons]
        refine ⟨(q : Int) :: flatFo ks, flatFo ts, _, _, rfl, rfl, ?_, iht l h4⟩
        rw [← h2]
        exact DerD_step h1 (ihk _ h3)

/-- A derivation is a tree's rules. -/
theorem derD_iff {n : Int} {d Z : List Int} : DerD R n d Z ↔ ∃ t, okF R t [n] ∧ flatFo t = d ∧ yldF R t = [Z] := by
  constructor
  · rintro ⟨k, h⟩
    obtain ⟨q, ks, h1, h2, h3, h4, h5⟩ := der_tree k n d Z h
    exact ⟨.nd q ks .no, ⟨n, [], rfl, h1, h2, h3, rfl⟩, by rw [flatFo, flatFo, List.append_nil]; exact h4, by rw [yldF, yldF, h5]⟩
  · rintro ⟨t, h1, rfl, h3⟩
    have := tree_der t [(false, n)] h1
    rw [weave, h3, List.headD_cons, List.tail_cons, weave, List.append_nil] at this
    obtain ⟨d1, d2, Z1, Z2, e1, e2, h5, h6, h7⟩ := this
    subst h6 h7
    rw [List.append_nil] at e1 e2
    rw [e1, e2]
    exact h5

end

/-- Rows put behind one another. -/
def appF : Fo → Fo → Fo
  | .no, u => u
  | .nd q ks ts, u => .nd q ks (appF ts u)
theorem flat_app : ∀ (t u : Fo), flatFo (appF t u) = flatFo t ++ flatFo u
  | .no, u => rfl
  | .nd q ks ts, u => by rw [appF, flatFo, flatFo, flat_app ts u, List.cons_append, List.append_assoc]
theorem yld_app (R : List Ru) : ∀ (t u : Fo), yldF R (appF t u) = yldF R t ++ yldF R u
  | .no, u => rfl
  | .nd q ks ts, u => by rw [appF, yldF, yldF, yld_app R ts u, List.cons_append]
theorem ok_app {R : List Ru} : ∀ (t u : Fo) (ns ms : List Int), okF R t ns → okF R u ms → okF R (appF t u) (ns ++ ms)
  | .no, u, ns, ms, h, h' => by cases h; exact h'
  | .nd q ks ts, u, ns, ms, h, h' => by
    obtain ⟨n, ns', rfl, h1, h2, h3, h4⟩ := h
    exact ⟨n, ns' ++ ms, rfl, h1, h2, h3, ok_app ts u ns' ms h4 h'⟩
theorem ok_split {R : List Ru} : ∀ (ns ms : List Int) (t : Fo), okF R t (ns ++ ms) → ∃ t1 t2, t = appF t1 t2 ∧ okF R t1 ns ∧ okF R t2 ms
  | [], ms, t, h => ⟨.no, t, rfl, rfl, h⟩
  | n :: ns, ms, t, h => by
    obtain ⟨q, ks, ts, rfl, h1, h2, h3, h4⟩ := okF_cons h
    obtain ⟨t1, t2, rfl, u1, u2⟩ := ok_split ns ms ts h4
    exact ⟨.nd q ks t1, t2, rfl, ⟨n, ns, rfl, h1, h2, h3, u1⟩, u2⟩
theorem names_app : ∀ (l m : List Sy), namesS (l ++ m) = namesS l ++ namesS m
  | [], m => rfl
  | (true, _) :: l, m => names_app l m
  | (false, n) :: l, m => by rw [List.cons_append, namesS, namesS, names_app l m, List.cons_append]
theorem okF_len {R : List Ru} : ∀ (t : Fo) (ns : List Int), okF R t ns → (yldF R t).length = ns.length
  | .no, ns, h => by cases h; rfl
  | .nd q ks ts, ns, h => by
    obtain ⟨n, ns', rfl, h1, h2, h3, h4⟩ := h
    rw [yldF, List.length_cons, List.length_cons, okF_len ts ns' h4]
theorem weave_app : ∀ (l m : List Sy) (ys zs : List (List Int)), ys.length = (namesS l).length → weave (l ++ m) (ys ++ zs) = weave l ys ++ weave m zs
  | [], m, ys, zs, h => by rw [namesS] at h; rw [List.eq_nil_of_length_eq_zero h]; rfl
  | (true, v) :: l, m, ys, zs, h => by rw [List.cons_append, weave, weave, weave_app l m ys zs h, List.cons_append]
  | (false, n) :: l, m, ys, zs, h => by
    cases ys with
    | nil => rw [namesS] at h; cases h
    | cons y ys =>
      rw [namesS, List.length_cons, List.length_cons] at h
      rw [List.cons_append, List.cons_append, weave, weave, List.headD_cons, List.tail_cons, List.headD_cons, List.tail_cons, weave_app l m ys zs (by omega), List.append_assoc]

end Go.Proofs.Ytikjekfpgklbdaa

/- HeldSeq, where of what follows more than one may be the next: each that may is shown. No program. -/
namespace Go.Proofs.Ytikjekfpgklbdaa

section
variable {P : Program} {ops : Array Oper} {Q : Exit → Act → World → Prop} {md : Region.Mode} {S : World → Prop}

/-- One step of the operation i. -/
def StepI (P : Program) (ops : Array Oper) (Q : Exit → Act → World → Prop) (S : World → Prop) (n : Nat) (J : Act → World → Prop) (i : Nat) (a : Act) (w : World) : Prop :=
  ∃ o, ops.toList[i]? = some o ∧ ∀ K : Act → World → Prop, Shut (∀ a w, (i < n → S w) → J a w → K a w) → if Region.wanted o (yielded ops a.tmps) = true then Oper.wp P o a w K Q else K (a.put o.dst undef) w
/-- So many follow, in whatever order. -/
def TailA (P : Program) (md : Region.Mode) (ops : Array Oper) (Q : Exit → Act → World → Prop) (S : World → Prop) (n : Nat) : Nat → Array Bool → Act → World → Prop
  | 0, listed, a, w => Region.ready md ops listed = [] ∧ Q .normal a w
  | k + 1, listed, a, w => Region.ready md ops listed ≠ [] ∧ ∀ i ∈ Region.ready md ops listed, StepI P ops Q S n (TailA P md ops Q S n k (listed.setIfInBounds i true)) i a w

theorem TailA.one {n k i : Nat} {listed : Array Bool} {a : Act} {w : World} (hr : decide (Region.ready md ops listed = [i]) = true) (h : StepI P ops Q S n (TailA P md ops Q S n k (listed.setIfInBounds i true)) i a w) : TailA P md ops Q S n (k + 1) listed a w := by
  have hr' := of_decide_eq_true hr
  refine ⟨by rw [hr']; simp, fun j hj => ?_⟩
  rw [hr'] at hj
  have : j = i := by simpa using hj
  subst this
  exact h
theorem TailA.two {n k i i' : Nat} {listed : Array Bool} {a : Act} {w : World} (hr : decide (Region.ready md ops listed = [i, i']) = true) (h : StepI P ops Q S n (TailA P md ops Q S n k (listed.setIfInBounds i true)) i a w) (h' : StepI P ops Q S n (TailA P md ops Q S n k (listed.setIfInBounds i' true)) i' a w) : TailA P md ops Q S n (k + 1) listed a w := by
  have hr' := of_decide_eq_true hr
  refine ⟨by rw [hr']; simp, fun j hj => ?_⟩
  rw [hr'] at hj
  simp only [List.mem_cons, List.not_mem_nil, or_false] at hj
  rcases hj with rfl | rfl
  · exact h
  · exact h'
theorem TailA.end {n : Nat} {listed : Array Bool} {a : Act} {w : World} (hr : decide (Region.ready md ops listed = []) = true) (h : Q .normal a w) : TailA P md ops Q S n 0 listed a w := ⟨of_decide_eq_true hr, h⟩

theorem wpAnyG_of_tailA {n : Nat} : ∀ (k : Nat) (listed : Array Bool) (a : Act) (w : World), TailA P md ops Q S n k listed a w → wpAnyG P md ops Q S n k listed a w
  | 0, _, _, _, h => ⟨by simpa using h.1, h.2⟩
  | k + 1, listed, a, w, h => by
    refine ⟨fun h1 => absurd h1 h.1, fun i hi => ?_⟩
    obtain ⟨o, h0, h⟩ := h.2 i hi
    have h1 := h (fun a' w' => (i < n → S w') ∧ wpAnyG P md ops Q S n k (listed.setIfInBounds i true) a' w')
      (fun a' w' hS hT => ⟨hS, wpAnyG_of_tailA k _ a' w' hT⟩)
    have h0' : ops[i]? = some o := by simpa using h0
    unfold wpOp
    simp only [h0']
    split
    · rename_i hw
      rw [if_pos hw] at h1
      exact .inl h1
    · rename_i hw
      rw [if_neg hw] at h1
      exact h1

/-- What is listed when those that are taken first are. -/
def listAll : List Nat → Array Bool → Array Bool
  | [], listed => listed
  | i :: l, listed => listAll l (listed.setIfInBounds i true)
def lexA (md : Region.Mode) (ops : Array Oper) : List Nat → Array Bool → Bool
  | [], _ => true
  | k :: ks, listed => (Region.ready md ops listed).contains k && Region.free md ops listed k && lexA md ops ks (listed.setIfInBounds k true)

theorem wpAnyG_lexA {n m : Nat} (hsel : Region.noSelect ops = true) (hQ : ∀ c a d v w, Q (.panic c) (a.put d v) w → Q (.panic c) a w) (hs : Region.sinkB md ops n = true) (hc : Region.chainB md ops n = true) (hn : n < ops.size) {w : World} (hS : S w) :
    ∀ (l : List Nat) (listed : Array Bool) (a : Act), (∀ i ∈ l, i < n) → HeadInv md ops n listed → lexA md ops l listed = true → StillI P ops S (fun a' => TailA P md ops Q S n m (listAll l listed) a' w) l a →
    wpAnyG P md ops Q S n (l.length + m) listed a w
  | [], listed, a, _, _, _, h => by
    simp only [List.length_nil, Nat.zero_add]
    exact wpAnyG_of_tailA m listed a w h
  | k :: l, listed, a, hl, inv, hB, h => by
    simp only [lexA, Bool.and_eq_true] at hB
    obtain ⟨⟨hr, hf⟩, hB'⟩ := hB
    have hkn := hl k (by simp)
    have hr' : k ∈ Region.ready md ops listed := by simpa using hr
    obtain ⟨o, v, h0, hy, hK⟩ := h
    rw [show (k :: l).length + m = (l.length + m) + 1 by simp only [List.length_cons]; omega]
    exact wpAnyG_first h0 (Region.noSelect_spec hsel) (fun c a w => hQ c a _ _ w) hs hc hn hkn _ listed a w inv (Region.free_spec h0 hf) hr' hy hS
      (wpAnyG_lexA hsel hQ hs hc hn hS l _ _ (fun i hi => hl i (List.mem_cons_of_mem _ hi)) (inv.set hr' hkn) hB' hK)

def heldAnyB (ops : Array Oper) (hs : List Nat) (m n : Nat) : Bool :=
  Region.noSelect ops && decide (n < ops.size) && Region.sinkB .any ops n && Region.chainB .any ops n && (hs.all fun i => decide (i < n)) && decide (hs.length + m = ops.size) && lexA .any ops hs (Array.replicate ops.size false)

theorem wp_region_held_any {id : Nat} {a : Act} {w : World} (hs : List Nat) (m n : Nat) (S : World → Prop) (hm : P.follows .mixedOrders = true) (hB : heldAnyB ops hs m n = true) (hS : S w.drew)
    (h : StillI P ops S (fun a' => TailA P .any ops (NoPanic Q) S n m (listAll hs (Array.replicate ops.size false)) a' w.drew) hs a) : (Code.region id ops true).wp P Q a w := by
  simp only [heldAnyB, Bool.and_eq_true, decide_eq_true_eq, List.all_eq_true] at hB
  obtain ⟨⟨⟨⟨⟨⟨hsel, hn⟩, hsk⟩, hc⟩, hl⟩, hlen⟩, hlex⟩ := hB
  have inv0 : HeadInv .any ops n (Array.replicate ops.size false) :=
    ⟨by simp, fun j oj _ hl => (by rw [getD_replicate_false] at hl; cases hl), fun t _ ht => Go.getD_in (by simpa using ht) (getD_replicate_false _ _)⟩
  refine wp_region_noPanic (wp_region_any hm (wpAny_of_G (S := S) (n := n) _ _ _ _ ?_))
  have := wpAnyG_lexA (md := .any) (Q := NoPanic Q) (m := m) hsel (fun _ _ _ _ _ h => h) hsk hc hn hS hs _ a hl inv0 hlex h
  rw [hlen] at this
  exact this
end

end Go.Proofs.Ytikjekfpgklbdaa

/- The contracts of package step's small functions: isBelow, more, with, copied, namesIn. -/
namespace Go.Proofs.Ytikjekfpgklbdaa
open Go.RowKit

theorem own_setLow {w : World} {base : Nat} {e : TypeId} {size : Nat} {v : Value} {n : Nat} {xs : List Value} (h : w.ownsRow base e size v n xs) {a : Addr} (ha : a.block < base) (u : Value) : (w.setCell a u).ownsRow base e size v n xs := by
  obtain ⟨z1, z2 | ⟨g', c', cur, e', z2, z3, z4⟩⟩ := h
  · exact ⟨z1, .inl z2⟩
  · exact ⟨z1, .inr ⟨g', c', cur, e', z2, by rw [Below.heap_setCell _ _ _ _ (by omega)]; exact z3, z4⟩⟩

set_option maxRecDepth 100000 in
theorem st_isBelow {w : World} {n m : Int} : Calls Try.prog 36 #[.int .i64 n, .int .i64 m] w fun e w' => e = .returned (.bool (decide (0 ≤ n) && decide (n < m))) ∧ w' = w := by
  by_cases h0 : 0 ≤ n
  · by_cases h1 : n < m
    · have e1 : decide (n < m) = true := decide_eq_true h1
      have e0 : decide (0 ≤ n) = true := decide_eq_true h0
      rw [e0, e1]
      go_enter Try.func36, Try.ntmps36
      go_wp2_with fail
      go_ret
      exact ⟨rfl, rfl⟩
    · have e1 : decide (n < m) = false := decide_eq_false h1
      have e0 : decide (0 ≤ n) = true := decide_eq_true h0
      rw [e0, e1]
      clear h1
      go_enter Try.func36, Try.ntmps36
      go_wp2_with fail
      go_ret
      exact ⟨rfl, rfl⟩
  · have e0 : decide (0 ≤ n) = false := decide_eq_false h0
    rw [e0]
    clear h0
    go_enter Try.func36, Try.ntmps36
    go_wp2_with fail
    go_ret
    exact ⟨rfl, rfl⟩

section
variable {w : World} {T N : Int} {ra : Option Addr} {rn rc : Nat} {op a b c : Int}

set_option maxRecDepth 100000 in
theorem st_more : Calls Try.prog 86 #[.agg #[.int .i64 T, .int .i64 N, .slice ra rn rc, .int .i64 op, .int .i64 a, .int .i64 b, .int .i64 c]] w fun e w' => e = .returned (.agg #[.bool false, .int .i64 N]) ∧ Below w.heap.size w w' := by
  go_enter Try.func86, Try.ntmps86
  go_wp2_with fail
  refine bodyPost_ret (v := .agg #[.bool false, .int .i64 N]) (by simp [results, Try.results86, go_sem]) rfl ?_
  exact ⟨rfl, by first | exact ((Below.refl _ _).alloc (Nat.le_refl _) _).alloc (by simp) _ | exact (((Below.refl _ _).alloc (Nat.le_refl _) _).alloc (by simp) _).setCell (by simp) _⟩

set_option maxRecDepth 100000 in
theorem st_with {M : Int} {oa : Option Addr} {on oc : Nat} : Calls Try.prog 78 #[.agg #[.int .i64 T, .int .i64 N, .slice ra rn rc, .int .i64 op, .int .i64 a, .int .i64 b, .int .i64 c], .int .i64 M, .slice oa on oc] w fun e w' => e = .returned (.agg #[.int .i64 T, .int .i64 M, .slice oa on oc]) ∧ Below w.heap.size w w' := by
  go_enter Try.func78, Try.ntmps78
  go_wp2_with fail
  refine bodyPost_ret (v := .agg #[.int .i64 T, .int .i64 M, .slice oa on oc]) (by simp [results, Try.results78, go_sem]) rfl ?_
  exact ⟨rfl, by first | exact ((Below.refl _ _).alloc (Nat.le_refl _) _).alloc (by simp) _ | exact (((Below.refl _ _).alloc (Nat.le_refl _) _).alloc (by simp) _).setCell (by simp) _⟩
end

set_option maxRecDepth 100000 in
set_option maxHeartbeats 3200000 in
theorem st_copied {w : World} {L : Int} {lv : Value} {l : List Sy} (hl : SymsAt w lv l) (hs : l.length ≤ 1000) :
    Calls Try.prog 79 #[.agg #[.int .i64 L, lv]] w fun e w' => ∃ ga d, e = .returned (.agg #[.int .i64 L, .slice ga l.length d]) ∧ w'.ownsRow w.heap.size 52 2 (.slice ga l.length d) l.length (flatY l) ∧ Below w.heap.size w w' := by
  obtain ⟨la, lc, hlv, _⟩ := hl.1
  subst hlv
  obtain ⟨n, hn⟩ : ∃ n, l.length = n := ⟨_, rfl⟩
  rw [hn] at hl hs ⊢
  have HL : Hid (SymsAt w (.slice la n lc) l ∧ l.length = n) := ⟨hl, hn⟩
  clear hl hn
  go_enter Try.func79, Try.ntmps79
  go_upto_region 1 with fail
  obtain ⟨W1, hW1⟩ : ∃ W, (w.alloc (.cells #[.int .i64 L, .slice la n lc] 44)).alloc (.cells #[.int .i64 0, .slice none 0 0] 44) = W := ⟨_, rfl⟩
  obtain ⟨W2, hW2⟩ : ∃ W, W1.drew = W := ⟨_, rfl⟩
  have u1 : W2.cell? ⟨w.heap.size, 0, none⟩ = some (.int .i64 L) := by rw [← hW2, ← hW1]; simp [go_sem]
  have u2 : W2.cell? ⟨w.heap.size, 1, none⟩ = some (.slice la n lc) := by rw [← hW2, ← hW1]; simp [go_sem]
  have u3 : W2.cell? ⟨w.heap.size + 1, 0, none⟩ = some (.int .i64 0) := by rw [← hW2, ← hW1]; simp [go_sem]
  have u4 : W2.cell? ⟨w.heap.size + 1, 1, none⟩ = some (.slice none 0 0) := by rw [← hW2, ← hW1]; simp [go_sem]
  have uf : ∀ o, W2.frozen? ⟨w.heap.size + 1, o, none⟩ = false := fun o => by rw [← hW2, ← hW1]; simp [go_sem]
  have hB1 : Below w.heap.size w W2 := by rw [← hW2, ← hW1]; exact (((Below.refl _ _).alloc (Nat.le_refl _) _).alloc (by simp) _).drew
  have hs1 : W2.heap.size = w.heap.size + 2 := by rw [← hW2, ← hW1]; simp
  have HL1 : Hid (∀ wq, Below W2.heap.size W2 wq → RowAt wq (.slice la n lc) n (flatY l)) := fun wq hq => by
    have := HL.out.1.row
    rw [HL.out.2] at this
    exact this.below (B := w.heap.size) (Nat.le_refl _) (hB1.trans (hq.mono (by omega)))
  have HS : Hid (W2.heap.size = w.heap.size + 2) := hs1
  rw [hW1]
  clear hW1 hs1
  refine wp_region_held_any [0, 1, 3, 4] 4 7 (fun w' => w'.cell? ⟨w.heap.size, 0, none⟩ = some (.int .i64 L) ∧ w'.cell? ⟨w.heap.size, 1, none⟩ = some (.slice la n lc)) (by kernel_rfl) (by kernel_rfl) (by rw [hW2]; exact ⟨u1, u2⟩) ?_
  rw [hW2]
  clear hW2
  iterate 4
    refine StillI.con8 (v := ?_) rfl (by rfl) ?_ ?_
    rotate_left
    · intro w' hSw
      obtain ⟨z0, z1⟩ := hSw
      go_simp
      try with_reducible rfl
    simp only [Act.put, List.setIfInBounds_toArray, List.set_cons_zero, List.set_cons_succ]
  rw [StillI]
  have hB2 : Below W2.heap.size W2 (W2.alloc (.cells #[] 52)) := (Below.refl _ _).alloc (Nat.le_refl _) _
  have own0 : (W2.alloc (.cells #[] 52)).ownsRow W2.heap.size 52 2 (.slice (some ⟨W2.heap.size, 0, none⟩) 0 0) 0 [] := ⟨rfl, .inr ⟨W2.heap.size, 0, #[], rfl, Nat.le_refl _, heap_alloc_new _ _, Nat.le_refl _, by decide, rfl, rfl⟩⟩
  have hrow := HL1.out _ hB2
  refine TailA.one (i := 2) (by kernel_rfl) ⟨_, rfl, fun K hK => ?_⟩
  go_simp
  refine hK.out _ _ (fun _ => ⟨?_, ?_⟩) ?_
  · exact (hB2.cell (World.block_lt_of_cell? _ _ u1)).trans u1
  · exact (hB2.cell (World.block_lt_of_cell? _ _ u2)).trans u2
  clear hK
  refine TailA.one (i := 5) (by kernel_rfl) ⟨_, rfl, fun K hK => ?_⟩
  refine step_append_ccY rfl _ _ rfl rfl rfl rfl own0 hrow hB2.size (by omega) ?_
  intro a' d' w' hown hgrow hat
  have hB3 : Below W2.heap.size W2 w' := hB2.grown hgrow hB2.size fun k hk => (own0.lt k hk).1
  rw [Nat.zero_add] at hown ⊢
  rw [List.nil_append] at hown
  have v1 := (hB3.cell (World.block_lt_of_cell? _ _ u1)).trans u1
  have v2 := (hB3.cell (World.block_lt_of_cell? _ _ u2)).trans u2
  have v3 := (hB3.cell (World.block_lt_of_cell? _ _ u3)).trans u3
  have v4 := (hB3.cell (World.block_lt_of_cell? _ _ u4)).trans u4
  have vf : ∀ o, w'.frozen? ⟨w.heap.size + 1, o, none⟩ = false := fun o => (hB3.frozen (p := ⟨w.heap.size + 1, o, none⟩) (show w.heap.size + 1 < _ by rw [HS.out]; omega)).trans (uf o)
  have vf0 := vf 0
  have vf1 := vf 1
  refine hK.out _ _ (fun _ => ⟨v1, v2⟩) ?_
  clear hK own0 hrow hgrow hat u1 u2 u3 u4 uf hB2
  refine TailA.one (i := 6) (by kernel_rfl) ⟨_, rfl, fun K hK => ?_⟩
  go_simp
  refine hK.out _ _ (fun _ => ⟨v1, v2⟩) ?_
  clear hK
  refine TailA.one (i := 7) (by kernel_rfl) ⟨_, rfl, fun K hK => ?_⟩
  go_simp
  refine hK.out _ _ (fun h => absurd h (by omega)) ?_
  clear hK
  refine TailA.end (by kernel_rfl) (NoPanic.normal ?_)
  have q0 : ((w'.setCell ⟨w.heap.size + 1, 0, none⟩ (.int .i64 L)).setCell ⟨w.heap.size + 1, 1, none⟩ (.slice a' n d')).cell? ⟨w.heap.size + 1, 0, none⟩ = some (.int .i64 L) := by
    rw [cell_set_other (.inr (by simp))]; exact World.cell?_setCell_same _ _ _ v3
  have q1 : ((w'.setCell ⟨w.heap.size + 1, 0, none⟩ (.int .i64 L)).setCell ⟨w.heap.size + 1, 1, none⟩ (.slice a' n d')).cell? ⟨w.heap.size + 1, 1, none⟩ = some (.slice a' n d') := by
    exact World.cell?_setCell_same _ _ _ ((cell_set_other (.inr (by simp))).trans v4)
  go_wp2_with fail
  refine bodyPost_ret (v := .agg #[.int .i64 L, .slice a' n d']) (by simp [results, Try.results79, go_sem, q0, q1]) rfl ?_
  have hlo : w.heap.size + 1 < W2.heap.size := by rw [HS.out]; omega
  refine ⟨a', d', rfl, own_mono (own_setLow (own_setLow hown (a := ⟨w.heap.size + 1, 0, none⟩) hlo _) (a := ⟨w.heap.size + 1, 1, none⟩) hlo _) (by omega), ?_⟩
  exact ((hB1.trans (hB3.mono (by omega))).setCell (p := ⟨w.heap.size + 1, 0, none⟩) (by simp) _).setCell (p := ⟨w.heap.size + 1, 1, none⟩) (by simp) _

theorem names_take {l : List Sy} {k : Nat} (hk : k < l.length) : (namesS (l.take (k + 1))).length = (namesS (l.take k)).length + (if (l.getD k (false, 0)).1 then 0 else 1) := by
  have e : l.getD k (false, 0) = l[k] := by simp [List.getD, hk]
  rw [List.take_succ_eq_append_getElem hk, names_app, List.length_append, e]
  obtain ⟨t, n⟩ := l[k]
  cases t <;> rfl
theorem names_le (l : List Sy) : (namesS l).length ≤ l.length := by
  induction l with
  | nil => exact Nat.le_refl _
  | cons x l ih =>
    obtain ⟨t, n⟩ := x
    cases t
    · rw [namesS, List.length_cons, List.length_cons]; omega
    · rw [namesS, List.length_cons]; omega

set_option maxRecDepth 100000 in
set_option maxHeartbeats 3200000 in
theorem st_namesIn {w : World} {lv : Value} {l : List Sy} (hl : SymsAt w lv l) (hs : l.length ≤ 1000) :
    Calls Try.prog 37 #[lv] w fun e w' => e = .returned (.int .i64 (namesS l).length) ∧ Below w.heap.size w w' := by
  obtain ⟨la, lc, hlv, _⟩ := hl.1
  subst hlv
  have HL : Hid (SymsAt w (.slice la l.length lc) l) := hl
  clear hl
  go_enter Try.func37, Try.ntmps37
  go_wp2_with fail
  go_loopw [3, 8] (fun s3 s8 wr => ∃ k : Nat, s3 = .int .i64 (namesS (l.take k)).length ∧ s8 = .int .i64 k ∧ k ≤ l.length ∧ Below w.heap.size w wr) (fun _ s _ => l.length - (intOf s).toNat)
  case atStart => exact ⟨0, rfl, rfl, Nat.zero_le _, Below.refl _ _⟩
  case round =>
    obtain ⟨k, rfl, rfl, hk, hB⟩ := hrel
    have HB : Hid (Below w.heap.size w wr) := hB
    by_cases hlt : k < l.length
    · obtain ⟨b, o, c, hv, c1, c2⟩ := (HL.out.same (same_below hB)).2 k hlt
      cases hv
      have ht := names_take hlt
      have hle := names_le (l.take k)
      rw [List.length_take] at hle
      obtain ⟨⟨t, v⟩, hx⟩ : ∃ x, l.getD k (false, 0) = x := ⟨_, rfl⟩
      rw [hx] at c1 c2 ht
      simp only at c1 c2 ht
      obtain ⟨q, hq⟩ : ∃ q, (namesS (l.take k)).length = q := ⟨_, rfl⟩
      rw [hq] at ht hle ⊢
      have hq8 : q ≤ 1000 := by omega
      have HT : Hid ((namesS (l.take (k + 1))).length = q + (if t = true then 0 else 1)) := ht
      have i0 : (0 : Int) ≤ (k : Int) := Int.natCast_nonneg _
      have i1 : (k : Int) < (l.length : Int) := by omega
      have hsz := hB.size
      clear hx ht hq hle hB
      cases t with
      | true =>
        go_wp2_with fail
        go_roundw
        case rel => exact ⟨k + 1, by rw [HT.out]; rfl, by go_num, by omega, HB.out.alloc hsz _⟩
        case measure => simp [intOf]; omega
      | false =>
        go_wp2_with fail
        go_roundw
        case rel => exact ⟨k + 1, by rw [HT.out]; go_num, by go_num, by omega, HB.out.alloc hsz _⟩
        case measure => simp [intOf]; omega
    · have hkk : k = l.length := by omega
      subst hkk
      rw [List.take_length]
      clear hB
      go_wp2_with fail
      go_ret
      exact ⟨rfl, HB.out⟩

end Go.Proofs.Ytikjekfpgklbdaa
