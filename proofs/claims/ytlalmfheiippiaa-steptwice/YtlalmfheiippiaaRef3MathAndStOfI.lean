import Derived.Test.YtlalmfheiippiaaStLeftAndLeft3
import Derived.Test.YtlalmfheiippiaaMathAndHeldTail
import Derived.Test.YtlalmfheiippiaaHeldSeqAndStepTree
/- Plain: what pollardingref3's Makes, Comes and Left make are the least sets. -/
namespace Go.Proofs.Ytlalmfheiippiaa

theorem hasB_set {X : List Bool} {l : Nat} (hl : l < X.length) {n : Int} : hasB (X.set l true) n ↔ n = (l : Int) ∨ hasB X n := hasN_set hl

theorem hasB_none {N : Nat} {n : Int} (hn : hasB (List.replicate N false) n) : False := by
  have := hn.2
  by_cases h : n.toNat < N
  · simp [List.getD, h] at this
  · simp [List.getD, List.getElem?_eq_none (show (List.replicate N false).length ≤ n.toNat by simp; omega)] at this

section
variable {T N : Nat} {R : List Ru} (hf : Fine T N R)
include hf

theorem rule_ge {i : Nat} (hi : i < R.length) : ∀ s ∈ (R.getD i (0, [])).2, s.1 = false → 0 ≤ s.2 := fun s hs h => (hf.name _ (mem_getD hi) s hs h).1

theorem makesA_iff : (makesA R N).length = N ∧ ∀ n, hasB (makesA R N) n ↔ MakesP N R n := by
  have hm := MakesF_mono hf
  have main := loopN_inv (n := N) (f := fun _ => loopN R.length (makesS R)) (x := List.replicate N false)
    (fun k X => X.length = N ∧ (∀ n, hasB X n → MakesP N R n) ∧ ∀ n, Lv (MakesF R) k n → hasB X n)
    ⟨by simp, fun n hn => (hasB_none hn).elim, fun n hn => hn.elim⟩
    (fun k _ X ⟨h1, h2, h3⟩ => by
      have inner := loopN_inv (n := R.length) (f := makesS R) (x := X)
        (fun i Y => Y.length = N ∧ (∀ n, hasB Y n → MakesP N R n) ∧ (∀ n, Lv (MakesF R) k n → hasB Y n) ∧ ∀ j, j < i → AllM (Lv (MakesF R) k) (R.getD j (0, [])).2 → hasB Y (R.getD j (0, [])).1)
        ⟨h1, h2, h3, fun j hj => absurd hj (Nat.not_lt_zero _)⟩
        (fun i hi Y ⟨y1, y2, y3, y4⟩ => by
          have hL := hf.left _ (mem_getD hi)
          have hl : (R.getD i (0, [])).1.toNat < Y.length := by omega
          have hcast := toNat_of hL.1
          unfold makesS
          cases hb : allB Y (R.getD i (0, [])).2 with
          | true =>
            simp only [if_true]
            have hall := (allB_iff (rule_ge hf hi)).1 hb
            refine ⟨by simp [y1], fun n hn => ?_, fun n hn => (hasB_set hl).2 (.inr (y3 n hn)), fun j hj ha => ?_⟩
            · rcases (hasB_set hl).1 hn with rfl | hn
              · rw [hcast]
                exact Lv_closed hm _ ⟨_, mem_getD hi, rfl, hall.mono y2⟩
              · exact y2 n hn
            · rcases Nat.lt_succ_iff_lt_or_eq.1 hj with hj | rfl
              · exact (hasB_set hl).2 (.inr (y4 j hj ha))
              · exact (hasB_set hl).2 (.inl hcast.symm)
          | false =>
            simp only [Bool.false_eq_true, if_false]
            refine ⟨y1, y2, y3, fun j hj ha => ?_⟩
            rcases Nat.lt_succ_iff_lt_or_eq.1 hj with hj | rfl
            · exact y4 j hj ha
            · rw [(allB_iff (rule_ge hf hi)).2 (ha.mono y3)] at hb; cases hb)
      obtain ⟨z1, z2, _, z4⟩ := inner
      refine ⟨z1, z2, fun n hn => ?_⟩
      obtain ⟨r, hr, rfl, ha⟩ := hn
      obtain ⟨j, hj, rfl⟩ := getD_of_mem hr
      exact z4 j hj ha)
  obtain ⟨m1, m2, m3⟩ := main
  exact ⟨m1, fun n => ⟨m2 n, fun hn => m3 n hn⟩⟩

theorem comesA_iff : (comesA R N).length = N ∧ ∀ n, hasB (comesA R N) n ↔ ComesP N R n := by
  obtain ⟨ml, mi⟩ := makesA_iff hf
  have hN := hf.some
  have hm := ComesF_mono hf (MakesP N R)
  have h0 : hasB ((List.replicate N false).set 0 ((makesA R N).getD 0 false)) 0 ↔ MakesP N R 0 := by
    rw [← mi 0]
    unfold hasB
    have : 0 < N := by omega
    simp [List.getD, this]
  have main := loopN_inv (n := N) (f := fun _ => loopN R.length (comesR R (makesA R N))) (x := (List.replicate N false).set 0 ((makesA R N).getD 0 false))
    (fun k X => X.length = N ∧ (∀ n, hasB X n → ComesP N R n) ∧ (MakesP N R 0 → hasB X 0) ∧ ∀ n, Lv (ComesF R (MakesP N R)) k n → hasB X n)
    ⟨by simp, fun n hn => by
      by_cases h : n = 0
      · subst h; exact Lv_closed hm _ (.inl ⟨rfl, h0.1 hn⟩)
      · refine (hasB_none (N := N) (n := n) ⟨hn.1, ?_⟩).elim
        have hn2 := hn.2
        have hne : 0 ≠ n.toNat := by have := hn.1; omega
        simpa [List.getD, List.getElem?_set_ne hne] using hn2, h0.2, fun n hn => hn.elim⟩
    (fun k _ X ⟨h1, h2, hz, h3⟩ => by
      have inner := loopN_inv (n := R.length) (f := comesR R (makesA R N)) (x := X)
        (fun i Y => Y.length = N ∧ (∀ n, hasB Y n → ComesP N R n) ∧ (∀ n, hasB X n → hasB Y n) ∧ ∀ j, j < i → AllM (MakesP N R) (R.getD j (0, [])).2 → hasB X (R.getD j (0, [])).1 → ∀ n : Int, (false, n) ∈ (R.getD j (0, [])).2 → hasB Y n)
        ⟨h1, h2, fun _ h => h, fun j hj => absurd hj (Nat.not_lt_zero _)⟩
        (fun i hi Y ⟨y1, y2, y3, y4⟩ => by
          have hr := mem_getD hi
          have hL := hf.left _ hr
          have hcast := toNat_of hL.1
          unfold comesR
          cases hb : (Y.getD (R.getD i (0, [])).1.toNat false && allB (makesA R N) (R.getD i (0, [])).2) with
          | true =>
            simp only [if_true]
            simp only [Bool.and_eq_true] at hb
            have hc : ComesP N R (R.getD i (0, [])).1 := y2 _ ⟨hL.1, hb.1⟩
            have hall : AllM (MakesP N R) (R.getD i (0, [])).2 := ((allB_iff (rule_ge hf hi)).1 hb.2).mono fun n hn => (mi n).1 hn
            have names := loopN_inv (n := (R.getD i (0, [])).2.length) (f := nameS (R.getD i (0, [])).2) (x := Y)
              (fun k Q => Q.length = N ∧ (∀ n, hasB Q n → ComesP N R n) ∧ (∀ n, hasB Y n → hasB Q n) ∧ ∀ j, j < k → ((R.getD i (0, [])).2.getD j (false, 0)).1 = false → hasB Q ((R.getD i (0, [])).2.getD j (false, 0)).2)
              ⟨y1, y2, fun _ h => h, fun j hj => absurd hj (Nat.not_lt_zero _)⟩
              (fun k hk Q ⟨q1, q2, q3, q4⟩ => by
                have hmem : (R.getD i (0, [])).2.getD k (false, 0) ∈ (R.getD i (0, [])).2 := by
                  generalize (R.getD i (0, [])).2 = l at hk
                  simp [List.getD, hk]
                unfold nameS
                obtain ⟨⟨x, v⟩, hx⟩ : ∃ x, (R.getD i (0, [])).2.getD k (false, 0) = x := ⟨_, rfl⟩
                rw [hx] at hmem ⊢
                cases x with
                | true =>
                  simp only [if_true]
                  refine ⟨q1, q2, q3, fun j hj hjf => ?_⟩
                  rcases Nat.lt_succ_iff_lt_or_eq.1 hj with hj | rfl
                  · exact q4 j hj hjf
                  · rw [hx] at hjf; cases hjf
                | false =>
                  simp only [Bool.false_eq_true, if_false]
                  have hv := hf.name _ hr _ hmem rfl
                  simp only at hv
                  have hl : v.toNat < Q.length := by omega
                  refine ⟨by simp [q1], fun n hn => ?_, fun n hn => (hasB_set hl).2 (.inr (q3 n hn)), fun j hj hjf => ?_⟩
                  · rcases (hasB_set hl).1 hn with rfl | hn
                    · rw [toNat_of hv.1]
                      exact Lv_closed hm _ (.inr ⟨_, hr, hmem, hall, hc⟩)
                    · exact q2 n hn
                  · rcases Nat.lt_succ_iff_lt_or_eq.1 hj with hj | rfl
                    · exact (hasB_set hl).2 (.inr (q4 j hj hjf))
                    · rw [hx]; exact (hasB_set hl).2 (.inl (toNat_of hv.1).symm))
            obtain ⟨z1, z2, z3, z4⟩ := names
            refine ⟨z1, z2, fun n hn => z3 n (y3 n hn), fun j hj ha hx n hmem => ?_⟩
            rcases Nat.lt_succ_iff_lt_or_eq.1 hj with hj | rfl
            · exact z3 n (y4 j hj ha hx n hmem)
            · obtain ⟨q, hq, he⟩ := List.getElem_of_mem hmem
              have e : (R.getD j (0, [])).2.getD q (false, 0) = (false, n) := by
                generalize (R.getD j (0, [])).2 = l at hq he
                simp [List.getD, hq, he]
              have := z4 q hq (by rw [e])
              rwa [e] at this
          | false =>
            simp only [Bool.false_eq_true, if_false]
            refine ⟨y1, y2, y3, fun j hj ha hx n hmem => ?_⟩
            rcases Nat.lt_succ_iff_lt_or_eq.1 hj with hj | rfl
            · exact y4 j hj ha hx n hmem
            · rw [(y3 _ hx).2, (allB_iff (rule_ge hf hi)).2 (ha.mono fun n hn => (mi n).2 hn)] at hb
              cases hb)
      obtain ⟨z1, z2, z3, z4⟩ := inner
      refine ⟨z1, z2, fun h => z3 0 (hz h), fun n hn => ?_⟩
      rcases hn with ⟨rfl, hM⟩ | ⟨r, hr, hmem, ha, hc⟩
      · exact z3 0 (hz hM)
      · obtain ⟨j, hj, rfl⟩ := getD_of_mem hr
        exact z4 j hj ha (h3 _ hc) n hmem)
  obtain ⟨m1, m2, _, m3⟩ := main
  exact ⟨m1, fun n => ⟨m2 n, fun hn => m3 n hn⟩⟩

end

end Go.Proofs.Ytlalmfheiippiaa

/- Plain: what a grammar has stays, whatever step is done (H3). No program. -/
namespace Go.Proofs.Ytlalmfheiippiaa

section
variable {T N : Nat} {R : List Ru} (hf : Fine T N R)
include hf

/-! ### SSwap -/
omit hf in
theorem swapN_swapN (a b n : Int) : swapN a b (swapN a b n) = n := by
  unfold swapN
  split
  · split
    · omega
    · simp; omega
  · split
    · simp; omega
    · simp_all
/-! ### SExtract -/
/-! ### SInline -/
/-! ### SLeft -/
/-! ### SPrune -/
theorem needB_iff {r : Ru} (hr : r ∈ R) : needB N R r = true ↔ MakesP N R r.1 ∧ ComesP N R r.1 ∧ AllM (MakesP N R) r.2 := by
  have h1 := (makesA_iff hf).2
  have h2 := (comesA_iff hf).2
  have h0 := (hf.left r hr).1
  have hM : (makesA R N).getD r.1.toNat false = true ↔ MakesP N R r.1 := ⟨fun h => (h1 _).1 ⟨h0, h⟩, fun h => ((h1 _).2 h).2⟩
  have hC : (comesA R N).getD r.1.toNat false = true ↔ ComesP N R r.1 := ⟨fun h => (h2 _).1 ⟨h0, h⟩, fun h => ((h2 _).2 h).2⟩
  have hA : allB (makesA R N) r.2 = true ↔ AllM (MakesP N R) r.2 := by
    unfold allB
    rw [List.all_eq_true]
    constructor
    · intro h s hs hb
      have := h s hs
      rw [hb, Bool.false_or] at this
      exact (h1 _).1 ⟨(hf.name r hr s hs hb).1, this⟩
    · intro h s hs
      cases hb : s.1 with
      | true => rfl
      | false => rw [Bool.false_or]; exact ((h1 _).2 (h s hs hb)).2
  unfold needB
  rw [Bool.and_eq_true, Bool.and_eq_true, hM, hC, hA, and_assoc]
end

end Go.Proofs.Ytlalmfheiippiaa

/- Plain: SExtract: each derivation is carried over, and back (H2, H3). No program. -/
namespace Go.Proofs.Ytlalmfheiippiaa

section
variable {N : Nat} {R R' : List Ru} {a : Nat} {l1 l2 l3 : List Sy}

end

end Go.Proofs.Ytlalmfheiippiaa

/- Plain: SInline, SSwap, SPrune: each derivation is carried over, and back (H2, H3). No program. -/
namespace Go.Proofs.Ytlalmfheiippiaa

/-! ### SInline -/

section
variable {R R' : List Ru} {a : Nat} {l1 l3 : List Sy} {X : Int} {sh ush rk : Nat → Nat} {isIn : Nat → Option Nat} {m : Nat → Nat}

end

/-! ### SPrune: rules stay, under other numbers -/

section
variable {R R' : List Ru} {M C : Int → Prop} {sh ush : Nat → Nat}
end

/-! ### SSwap: the trees stay -/

end Go.Proofs.Ytlalmfheiippiaa

/- Plain: SLeft: each derivation is carried over, and back (H2, H3). No program. -/
namespace Go.Proofs.Ytlalmfheiippiaa

section
variable {N : Nat} {R R' : List Ru} {A : Int} {own isA : Nat → Bool} {L : Nat}

end

end Go.Proofs.Ytlalmfheiippiaa

/- Plain: where the rules lie in what comes of SSwap, SExtract, SLeft; how many rules a derivation has that is carried over. No program. -/
namespace Go.Proofs.Ytlalmfheiippiaa

section
variable {T N : Nat} {R : List Ru} {s : Stp}

theorem flatMap_single {f : Nat → List Ru} {h : Nat → Ru} (he : ∀ k, f k = [h k]) : ∀ L : List Nat, L.flatMap f = L.map h
  | [] => rfl
  | k :: L => by rw [List.flatMap_cons, he, List.map_cons, flatMap_single he L]; rfl
theorem doR_one {h : Nat → Ru} (he : ∀ k, oneR N R s k = [h k]) : doR N R s = (List.range R.length).map h ++ lastR N R s := by
  unfold doR
  rw [flatMap_single he]
theorem doR_len {h : Nat → Ru} (he : ∀ k, oneR N R s k = [h k]) : (doR N R s).length = R.length + (lastR N R s).length := by
  rw [doR_one he, List.length_append, List.length_map, List.length_range]
theorem doR_at {h : Nat → Ru} (he : ∀ k, oneR N R s k = [h k]) {q : Nat} (hq : q < R.length) : (doR N R s).getD q (0, []) = h q := by
  rw [doR_one he, List.getD, List.getElem?_append_left (by rw [List.length_map, List.length_range]; exact hq), List.getElem?_map, List.getElem?_range hq]
  rfl
theorem swap_at {a b c : Int} : (doR N R ⟨1, a, b, c⟩).length = R.length ∧ ∀ q, q < R.length → (doR N R ⟨1, a, b, c⟩).getD q (0, []) = (swapN a b (R.getD q (0, [])).1, (R.getD q (0, [])).2.map (swapS a b)) := by
  have he : ∀ k, oneR N R ⟨1, a, b, c⟩ k = [(swapN a b (R.getD k (0, [])).1, (R.getD k (0, [])).2.map (swapS a b))] := fun k => by
    unfold oneR
    simp only
    rw [if_pos trivial]
  have hl : lastR N R ⟨1, a, b, c⟩ = [] := by unfold lastR; simp only; rw [if_neg (by decide), if_neg (by decide)]
  refine ⟨by rw [doR_len he, hl]; rfl, fun q hq => doR_at he hq⟩
end

/-! ### How many rules -/

section
variable {N : Nat} {R R' : List Ru} {A : Int} {own isA : Nat → Bool}
end

end Go.Proofs.Ytlalmfheiippiaa

/- Plain: where the rules lie in what comes of SPrune, SInline. No program. -/
namespace Go.Proofs.Ytlalmfheiippiaa

/-! ### Those of the numbers that are meant -/

def idxF (p : Nat → Bool) (n : Nat) : List Nat := (List.range n).filter p
theorem idx_succ (p : Nat → Bool) (n : Nat) : idxF p (n + 1) = idxF p n ++ (if p n then [n] else []) := by
  unfold idxF
  rw [List.range_succ, List.filter_append]
  congr 1
  cases h : p n <;> simp [h]
theorem getD_some {L : List Nat} {i x : Nat} (h : L[i]? = some x) : L.getD i 0 = x := by rw [List.getD, h]; rfl
theorem flatMap_on {f g : Nat → List Ru} : ∀ L : List Nat, (∀ k ∈ L, f k = g k) → L.flatMap f = L.flatMap g
  | [], _ => rfl
  | k :: L, h => by rw [List.flatMap_cons, List.flatMap_cons, h k (List.mem_cons_self ..), flatMap_on L fun k hk => h k (List.mem_cons_of_mem _ hk)]
section
variable {T N : Nat} {R : List Ru}

theorem flatMap_pick (p : Nat → Bool) (f : Nat → Ru) : ∀ L : List Nat, (L.flatMap fun k => if p k then [f k] else []) = (L.filter p).map f
  | [] => rfl
  | k :: L => by
    rw [List.flatMap_cons, flatMap_pick p f L, List.filter_cons]
    split <;> rfl

/-- The rules of a name, by their numbers. -/
theorem filter_idx (X : Int) : (R.filter fun x => decide (x.1 = X)) = (idxF (fun k => decide ((R.getD k (0, [])).1 = X)) R.length).map fun k => R.getD k (0, []) := by
  have hR : R = (List.range R.length).map fun k => R.getD k (0, []) := by
    refine List.ext_getElem? fun i => ?_
    by_cases hi : i < R.length
    · rw [List.getElem?_map, List.getElem?_range hi]
      simp [List.getD, hi]
    · rw [List.getElem?_eq_none (by omega), List.getElem?_eq_none (by rw [List.length_map, List.length_range]; omega)]
  conv => lhs; rw [hR]
  rw [List.filter_map]
  rfl

end

end Go.Proofs.Ytlalmfheiippiaa

/- The contracts of package step's rulesOf and inlineOf. -/
namespace Go.Proofs.Ytlalmfheiippiaa
open Go.RowKit

theorem Try.infoIn8 : (Try.prog.info? 3).map (fun i => (i.zero, i.size, i.bytes)) = some (some (.int .i64 0), 1, 8) := by kernel_rfl
def idxV (IX : List Nat) : List Value := IX.map fun (n : Nat) => Value.int .i64 (n : Int)
theorem idxF_len (p : Nat → Bool) (n : Nat) : (idxF p n).length ≤ n := by
  unfold idxF
  refine Nat.le_trans (List.length_filter_le _ _) ?_
  simp
theorem idxF_lt {p : Nat → Bool} {n k : Nat} (h : k < (idxF p n).length) : (idxF p n).getD k 0 < n := by
  have e : (idxF p n).getD k 0 = (idxF p n)[k] := by simp [List.getD, h]
  have hm : (idxF p n)[k] ∈ idxF p n := List.getElem_mem h
  rw [e]
  unfold idxF at hm ⊢
  rw [List.mem_filter] at hm
  exact List.mem_range.1 hm.1
/-- Numbers in a row of one's own, as a list. -/
theorem own_listI {w : World} {B : Nat} {v : Value} {IX : List Nat} (h : w.ownsRow B 3 1 v IX.length (idxV IX)) : ListAt w w.heap.size v (IX.map fun (n : Nat) => (n : Int)) := by
  obtain ⟨a, c, hv⟩ := own_form h
  refine ⟨⟨a, c, by rw [List.length_map]; exact hv⟩, fun p hp => ?_⟩
  have hp' : p < IX.length := by simpa using hp
  obtain ⟨g, cap, hg, _, hlt⟩ := h.form (by omega)
  have h' := h
  rw [hg] at h'
  refine ⟨g, 0, cap, by rw [List.length_map]; exact hg, hlt, ?_⟩
  rw [Nat.zero_add, h'.cellAt p (by omega)]
  simp [idxV, List.getD, hp']

set_option maxRecDepth 100000 in
set_option maxHeartbeats 3200000 in
theorem st_rulesOf {w : World} {ra : Option Addr} {rc : Nat} {R : List Ru} {m : Int} (hr : RulesAt w w.heap.size (.slice ra R.length rc) R) (hl : R.length ≤ 1000) :
    Calls Try.prog 20 #[.slice ra R.length rc, .int .i64 m] w fun e w' => ∃ ov, e = .returned ov ∧ w'.ownsRow w.heap.size 3 1 ov (idxF (fun k => decide ((R.getD k (0, [])).1 = m)) R.length).length (idxV (idxF (fun k => decide ((R.getD k (0, [])).1 = m)) R.length)) ∧ Below w.heap.size w w' := by
  obtain ⟨p, hp⟩ : ∃ p : Nat → Bool, (fun k => decide ((R.getD k (0, [])).1 = m)) = p := ⟨_, rfl⟩
  rw [hp]
  have HP : Hid (∀ k, p k = decide ((R.getD k (0, [])).1 = m)) := fun k => by rw [← hp]
  have HR : Hid (RulesAt w w.heap.size (.slice ra R.length rc) R) := hr
  clear hr hp
  go_enter Try.func20, Try.ntmps20
  go_wp2_with fail
  go_loopw [5, 10] (fun s5 s10 wr => ∃ (k : Nat) (ov : Value), ov = s5 ∧ s10 = .int .i64 k ∧ k ≤ R.length ∧ wr.ownsRow w.heap.size 3 1 ov (idxF p k).length (idxV (idxF p k)) ∧ Below w.heap.size w wr) (fun _ s _ => R.length - (intOf s).toNat)
  case atStart => exact ⟨0, _, rfl, rfl, Nat.zero_le _, World.ownsRow_nil w w.heap.size 3 1, Below.refl _ _⟩
  case round =>
    obtain ⟨k, ov, rfl, rfl, hk, hO, hB⟩ := hrel
    have HB : Hid (Below w.heap.size w wr) := hB
    have HO : Hid (wr.ownsRow w.heap.size 3 1 ov (idxF p k).length (idxV (idxF p k))) := hO
    by_cases hlt : k < R.length
    · obtain ⟨b0, o0, rc0, qa, qc, hv, _, k1, k2, _⟩ := (HR.out.below hB).syms hlt
      cases hv
      have hpk := HP.out k
      have hsu := idx_succ p k
      have hln := idxF_len p k
      obtain ⟨⟨L, l⟩, hx⟩ : ∃ x, R.getD k (0, []) = x := ⟨_, rfl⟩
      rw [hx] at k1 k2 hpk
      simp only at k1 k2 hpk
      obtain ⟨n, hn⟩ : ∃ n, l.length = n := ⟨_, rfl⟩
      rw [hn] at k2
      obtain ⟨W1, hW1⟩ : ∃ W, wr.alloc (.cells #[.int .i64 L, .slice qa n qc] 39) = W := ⟨_, rfl⟩
      have hB1 : Below wr.heap.size wr W1 := by rw [← hW1]; exact (Below.refl _ _).alloc (Nat.le_refl _) _
      have HB1 : Hid (Below wr.heap.size wr W1) := hB1
      have d0 : W1.cell? ⟨wr.heap.size, 0, none⟩ = some (.int .i64 L) := by rw [← hW1]; exact cell_of_blk (heap_alloc_new _ _) rfl
      have i0 : (0 : Int) ≤ (k : Int) := Int.natCast_nonneg _
      have i1 : (k : Int) < (R.length : Int) := by omega
      by_cases hm : L = m
      · subst hm
        have e1 : (L == L) = true := by simp
        rw [hpk] at hsu
        simp only [decide_true, if_true] at hsu
        have own5 := (own_below hO hB1 fun g hg => (hO.lt g hg).2).alloc (.cells #[.int .i64 k] 3)
        have hnw5 := World.news_of_block (cs := #[.int .i64 k]) (t := 3) (fr := (0, 0)) (heap_alloc_new W1 (.cells #[.int .i64 k] 3))
        have hb5 : w.heap.size ≤ (W1.alloc (.cells #[.int .i64 k] 3)).heap.size := by
          have := hB.size
          have := hB1.size
          simp
          omega
        obtain ⟨q, hq⟩ : ∃ q, (idxF p k).length = q := ⟨_, rfl⟩
        rw [hq] at own5 hln
        have n1 : q + 1 ≤ maxLen := by unfold maxLen; omega
        have n2 : (q + 1) * 8 ≤ 140737488355328 := by omega
        have HX : Hid (idxF p (k + 1) = idxF p k ++ [k] ∧ (idxF p k).length = q) := ⟨hsu, hq⟩
        obtain ⟨i0', hi0, hz0, hz1, hz2⟩ := info_parts Try.infoIn8
        clear hB hO hx hn hq hpk hsu hB1
        go_wp2_with
          (at_builtin
           refine wpList_append_lies _ rfl _ _ _ rfl w.heap.size 3 i0' _ 1 8 Try.underlying56 hi0 hz0 hz1 hz2 rfl (by omega) ov q (idxV (idxF p k)) rfl own5 ⟨W1.heap.size, 0, none⟩ 1 1 [.int .i64 k] rfl rfl hnw5 (by simp [Value.oneCell']) (by omega) n1 n2 hb5 _ rfl ?_
           intro g6 cap6 w6 hown6 hgrow6 hat6 hlt6)
        go_roundw
        case rel =>
          refine ⟨k + 1, _, rfl, by go_num, by omega, ?_, ?_⟩
          · rw [HX.out.1, List.length_append, HX.out.2]
            unfold idxV at hown6 ⊢
            rw [List.map_append]
            exact hown6
          · have h4 : Below w.heap.size w (W1.alloc (.cells #[.int .i64 k] 3)) := (HB.out.trans (HB1.out.mono HB.out.size)).alloc (Nat.le_trans HB.out.size HB1.out.size) _
            exact h4.grown hgrow6 hb5 fun j hj => (own5.lt j hj).1
        case measure => simp [intOf]; omega
      · have e1 : (L == m) = false := by simpa using hm
        have HN : Hid (idxF p (k + 1) = idxF p k) := by
          show _ = _
          rw [hsu, hpk, decide_eq_false hm]
          simp
        clear hB hO hx hn hpk hsu hB1
        go_wp2_with fail
        go_roundw
        case rel => exact ⟨k + 1, ov, rfl, by go_num, by omega, by rw [HN.out]; exact own_below HO.out HB1.out fun g hg => (HO.out.lt g hg).2, HB.out.trans (HB1.out.mono HB.out.size)⟩
        case measure => simp [intOf]; omega
    · obtain rfl : k = R.length := by omega
      clear hB hO
      go_wp2_with fail
      go_ret
      exact ⟨ov, rfl, HO.out, HB.out⟩

set_option maxRecDepth 100000 in
set_option maxHeartbeats 6400000 in
theorem st_inlineOf_no {w : World} {T N : Int} {ra : Option Addr} {rc : Nat} {R : List Ru} {op a b c : Int} (hr : RulesAt w w.heap.size (.slice ra R.length rc) R) (hs : ¬ (0 ≤ a ∧ a < (R.length : Int) ∧ 0 ≤ b ∧ b < ((R.getD a.toNat (0, [])).2.length : Int) ∧ c = 0 ∧ ((R.getD a.toNat (0, [])).2.getD b.toNat (false, 0)).1 = false ∧ ((R.getD a.toNat (0, [])).2.getD b.toNat (false, 0)).2 ≠ (R.getD a.toNat (0, [])).1)) :
    Calls Try.prog 14 #[.agg #[.int .i64 T, .int .i64 N, .slice ra R.length rc, .int .i64 op, .int .i64 a, .int .i64 b, .int .i64 c]] w fun e w' => e = .returned (.tuple #[.nilIface, .bool false]) ∧ Below w.heap.size w w' := by
  have hK := kbox_start (T := T) (N := N) (op := op) (a := a) (b := b) (c := c) hr
  obtain ⟨W0, hW0⟩ : ∃ W, w.alloc (.cells #[.int .i64 T, .int .i64 N, .slice ra R.length rc, .int .i64 op, .int .i64 a, .int .i64 b, .int .i64 c] 46) = W := ⟨_, rfl⟩
  rw [hW0] at hK
  have x2 := hK.x2
  have x4 := hK.x4
  have x5 := hK.x5
  have x6 := hK.x6
  have HB : Hid (Below w.heap.size w W0) := hK.below
  have ia := st_isBelow (w := W0) (n := a) (m := (R.length : Int))
  cases hA : (decide (0 ≤ a) && decide (a < (R.length : Int))) with
  | false =>
    rw [hA] at ia
    clear hK hr hs hA
    go_enter Try.func14, Try.ntmps14
    go_wp2_with (go_at_call 18; refine ia.mono ?_; rintro e w2 ⟨rfl, rfl⟩)
    refine bodyPost_ret (v := .tuple #[.nilIface, .bool false]) (by simp [results, Try.results14, go_sem]) rfl ?_
    exact ⟨rfl, HB.out⟩
  | true =>
    rw [hA] at ia
    simp only [Bool.and_eq_true, decide_eq_true_eq] at hA
    by_cases hc : c = 0
    · have ec : (c == 0) = true := by simpa using hc
      obtain ⟨ka, rfl⟩ : ∃ ka : Nat, a = ka := ⟨a.toNat, by omega⟩
      have hk : ka < R.length := by omega
      obtain ⟨b0, o0, rc0, qa, qc, hv, _, k1, k2, hsy⟩ := hK.rules.syms hk
      cases hv
      rw [Int.toNat_natCast] at hs
      obtain ⟨⟨L, l⟩, hx⟩ : ∃ x, R.getD ka (0, []) = x := ⟨_, rfl⟩
      rw [hx] at k1 k2 hsy hs
      simp only at k1 k2 hsy hs
      obtain ⟨W1, hW1⟩ : ∃ W, W0.alloc (.cells #[.int .i64 L, .slice qa l.length qc] 39) = W := ⟨_, rfl⟩
      have hB1 : Below W0.heap.size W0 W1 := by rw [← hW1]; exact (Below.refl _ _).alloc (Nat.le_refl _) _
      have hK1 := hK.next hB1
      have HB1 : Hid (Below w.heap.size w W1) := hK1.below
      have y5 := hK1.x5
      have r0 : W1.cell? ⟨W0.heap.size, 0, none⟩ = some (.int .i64 L) := by rw [← hW1]; exact cell_of_blk (heap_alloc_new _ _) rfl
      have r1 : W1.cell? ⟨W0.heap.size, 1, none⟩ = some (.slice qa l.length qc) := by rw [← hW1]; exact cell_of_blk (heap_alloc_new _ _) rfl
      have i0 : (0 : Int) ≤ (ka : Int) := Int.natCast_nonneg _
      have i1 : (ka : Int) < (R.length : Int) := by omega
      have ib := st_isBelow (w := W1) (n := b) (m := (l.length : Int))
      have sy1 := hsy.same (same_below hB1)
      cases hBb : (decide (0 ≤ b) && decide (b < (l.length : Int))) with
      | false =>
        rw [hBb] at ib
        clear hK hr hs hx hsy sy1 hB1 hK1 hA hBb hc
        go_enter Try.func14, Try.ntmps14
        go_wp2_with
          (first
           | (go_at_call 18; with_reducible refine ia.mono ?_; rintro e w2 ⟨rfl, h2⟩; obtain rfl : W0 = w2 := h2.symm; clear ia)
           | (go_at_call 18; with_reducible refine ib.mono ?_; rintro e w2 ⟨rfl, h2⟩; obtain rfl : W1 = w2 := h2.symm; clear ib))
        refine bodyPost_ret (v := .tuple #[.nilIface, .bool false]) (by simp [results, Try.results14, go_sem]) rfl ?_
        exact ⟨rfl, HB1.out⟩
      | true =>
        rw [hBb] at ib
        simp only [Bool.and_eq_true, decide_eq_true_eq] at hBb
        obtain ⟨bn, rfl⟩ : ∃ bn : Nat, b = bn := ⟨b.toNat, by omega⟩
        have hbl : bn < l.length := by omega
        obtain ⟨b1, o1, c1, hv1, s1, s2⟩ := sy1.2 bn hbl
        cases hv1
        rw [Int.toNat_natCast] at hs
        obtain ⟨⟨t, X⟩, hy⟩ : ∃ x, l.getD bn (false, 0) = x := ⟨_, rfl⟩
        rw [hy] at s1 s2 hs
        simp only at s1 s2 hs
        obtain ⟨W2, hW2⟩ : ∃ W, W1.alloc (.cells #[.bool t, .int .i64 X] 42) = W := ⟨_, rfl⟩
        have hB2 : Below W1.heap.size W1 W2 := by rw [← hW2]; exact (Below.refl _ _).alloc (Nat.le_refl _) _
        have HB2 : Hid (Below w.heap.size w W2) := (hK1.next hB2).below
        have t0 : W2.cell? ⟨W1.heap.size, 0, none⟩ = some (.bool t) := by rw [← hW2]; exact cell_of_blk (heap_alloc_new _ _) rfl
        have t1 : W2.cell? ⟨W1.heap.size, 1, none⟩ = some (.int .i64 X) := by rw [← hW2]; exact cell_of_blk (heap_alloc_new _ _) rfl
        have u0 := (hB2.cell (World.block_lt_of_cell? _ _ r0)).trans r0
        have j0 : (0 : Int) ≤ (bn : Int) := Int.natCast_nonneg _
        have j1 : (bn : Int) < (l.length : Int) := by omega
        cases t with
        | true =>
          clear hK hr hs hx hsy sy1 hB1 hK1 hA hBb hc hB2 hy
          go_enter Try.func14, Try.ntmps14
          go_wp2_with
            (first
             | (go_at_call 18; with_reducible refine ia.mono ?_; rintro e w2 ⟨rfl, h2⟩; obtain rfl : W0 = w2 := h2.symm; clear ia)
             | (go_at_call 18; with_reducible refine ib.mono ?_; rintro e w2 ⟨rfl, h2⟩; obtain rfl : W1 = w2 := h2.symm; clear ib))
          refine bodyPost_ret (v := .tuple #[.nilIface, .bool false]) (by simp [results, Try.results14, go_sem]) rfl ?_
          exact ⟨rfl, HB2.out⟩
        | false =>
          have hXL : X = L := Classical.byContradiction fun hne => hs ⟨i0, i1, j0, j1, hc, rfl, hne⟩
          subst hXL
          have eX : (X == X) = true := by simp
          clear hK hr hs hx hsy sy1 hB1 hK1 hA hBb hc hB2 hy
          go_enter Try.func14, Try.ntmps14
          go_wp2_with
            (first
             | (go_at_call 18; with_reducible refine ia.mono ?_; rintro e w2 ⟨rfl, h2⟩; obtain rfl : W0 = w2 := h2.symm; clear ia)
             | (go_at_call 18; with_reducible refine ib.mono ?_; rintro e w2 ⟨rfl, h2⟩; obtain rfl : W1 = w2 := h2.symm; clear ib))
          refine bodyPost_ret (v := .tuple #[.nilIface, .bool false]) (by simp [results, Try.results14, go_sem]) rfl ?_
          exact ⟨rfl, HB2.out⟩
    · have ec : (c == 0) = false := by simpa using hc
      clear hK hr hs hA hc
      go_enter Try.func14, Try.ntmps14
      go_wp2_with (go_at_call 18; refine ia.mono ?_; rintro e w2 ⟨rfl, rfl⟩)
      refine bodyPost_ret (v := .tuple #[.nilIface, .bool false]) (by simp [results, Try.results14, go_sem]) rfl ?_
      exact ⟨rfl, HB.out⟩

set_option maxRecDepth 100000 in
set_option maxHeartbeats 6400000 in
theorem st_inlineOf_yes {w : World} {T N : Int} {ra : Option Addr} {rc : Nat} {R : List Ru} {op : Int} {ka bn m : Nat} {L X : Int} {l : List Sy} (hr : RulesAt w w.heap.size (.slice ra R.length rc) R) (hl : R.length ≤ 1000) (hk : ka < R.length) (hx : R.getD ka (0, []) = (L, l)) (hcl : l.length = bn + 1 + m) (hl8 : l.length ≤ 1000) (hX : l.getD bn (false, 0) = (false, X)) (hne : X ≠ L) :
    Calls Try.prog 14 #[.agg #[.int .i64 T, .int .i64 N, .slice ra R.length rc, .int .i64 op, .int .i64 ka, .int .i64 bn, .int .i64 0]] w fun e w' => ∃ ov, e = .returned (.tuple #[.iface 59 (.agg #[.int .i64 T, .int .i64 N, .slice ra R.length rc, .int .i64 op, .int .i64 ka, .int .i64 bn, .int .i64 0, ov, .int .i64 (namesS (l.take bn)).length]), .bool true]) ∧ w'.ownsRow w.heap.size 3 1 ov (idxF (fun k => decide ((R.getD k (0, [])).1 = X)) R.length).length (idxV (idxF (fun k => decide ((R.getD k (0, [])).1 = X)) R.length)) ∧ Below w.heap.size w w' := by
  obtain ⟨n, hn⟩ : ∃ n, bn + 1 + m = n := ⟨_, rfl⟩
  rw [hn] at hcl
  have hK := kbox_start (T := T) (N := N) (op := op) (a := ka) (b := bn) (c := 0) hr
  obtain ⟨W0, hW0⟩ : ∃ W, w.alloc (.cells #[.int .i64 T, .int .i64 N, .slice ra R.length rc, .int .i64 op, .int .i64 ka, .int .i64 bn, .int .i64 0] 46) = W := ⟨_, rfl⟩
  rw [hW0] at hK
  have x2 := hK.x2
  have x4 := hK.x4
  have x5 := hK.x5
  have x6 := hK.x6
  have ia := st_isBelow (w := W0) (n := ka) (m := (R.length : Int))
  obtain ⟨b0, o0, rc0, qa, qc, hv, _, k1, k2, hsy⟩ := hK.rules.syms hk
  cases hv
  rw [hx] at k1 k2 hsy
  simp only at k1 k2 hsy
  have hqc : l.length ≤ qc := by obtain ⟨_, _, hv, hle⟩ := hsy.1; cases hv; exact hle
  obtain ⟨ad, rfl⟩ := hsy.someG (by omega)
  rw [hcl] at k2 hqc
  obtain ⟨W1, hW1⟩ : ∃ W, W0.alloc (.cells #[.int .i64 L, .slice (some ad) n qc] 39) = W := ⟨_, rfl⟩
  obtain ⟨rb, hrb⟩ : ∃ x, W0.heap.size = x := ⟨_, rfl⟩
  have hB1 : Below W0.heap.size W0 W1 := by rw [← hW1]; exact (Below.refl _ _).alloc (Nat.le_refl _) _
  have hK1 := hK.next hB1
  have y5 := hK1.x5
  have r0 : W1.cell? ⟨rb, 0, none⟩ = some (.int .i64 L) := by rw [← hW1, ← hrb]; exact cell_of_blk (heap_alloc_new _ _) rfl
  have r1 : W1.cell? ⟨rb, 1, none⟩ = some (.slice (some ad) n qc) := by rw [← hW1, ← hrb]; exact cell_of_blk (heap_alloc_new _ _) rfl
  have ib := st_isBelow (w := W1) (n := bn) (m := (n : Int))
  obtain ⟨b1, o1, c1, hv1, s1, s2⟩ := (hsy.same (same_below hB1)).2 bn (by omega)
  rw [hcl] at hv1
  cases hv1
  rw [hX] at s1 s2
  simp only at s1 s2
  obtain ⟨W2, hW2⟩ : ∃ W, W1.alloc (.cells #[.bool false, .int .i64 X] 42) = W := ⟨_, rfl⟩
  obtain ⟨sb, hsb⟩ : ∃ x, W1.heap.size = x := ⟨_, rfl⟩
  have hB2 : Below W1.heap.size W1 W2 := by rw [← hW2]; exact (Below.refl _ _).alloc (Nat.le_refl _) _
  have t0 : W2.cell? ⟨sb, 0, none⟩ = some (.bool false) := by rw [← hW2, ← hsb]; exact cell_of_blk (heap_alloc_new _ _) rfl
  have t1 : W2.cell? ⟨sb, 1, none⟩ = some (.int .i64 X) := by rw [← hW2, ← hsb]; exact cell_of_blk (heap_alloc_new _ _) rfl
  have u0 := (hB2.cell (World.block_lt_of_cell? _ _ r0)).trans r0
  have u1 := (hB2.cell (World.block_lt_of_cell? _ _ r1)).trans r1
  have hK2 := hK1.next hB2
  have HK2 : Hid (KBox w T N (some ⟨b0, o0, none⟩) rc R op ka bn 0 W2) := hK2
  have HU : Hid (W2.cell? ⟨rb, 1, none⟩ = some (.slice (some ⟨b1, o1, none⟩) n qc) ∧ W2.cell? ⟨sb, 1, none⟩ = some (.int .i64 X)) := ⟨u1, t1⟩
  have HSy : Hid (∀ wq, Below W2.heap.size W2 wq → SymsAt wq (.slice (some ⟨b1, o1, none⟩) l.length qc) l) := fun wq hq => hsy.same (same_below (hB1.trans ((hB2.mono hB1.size).trans (hq.mono (Nat.le_trans hB1.size hB2.size)))))
  have HX : Hid (l.length = n) := hcl
  have i0 : (0 : Int) ≤ (ka : Int) := Int.natCast_nonneg _
  have i1 : (ka : Int) < (R.length : Int) := by omega
  have j0 : (0 : Int) ≤ (bn : Int) := Int.natCast_nonneg _
  have j1 : (bn : Int) < (n : Int) := by omega
  rw [decide_eq_true i0, decide_eq_true i1] at ia
  rw [decide_eq_true j0, decide_eq_true j1] at ib
  have eX : (X == L) = false := by simpa using hne
  have e0 : ((0 : Int) == 0) = true := rfl
  have hup1 := fun w => sy_uptoG (ad := ⟨b1, o1, none⟩) (f := bn) (sl := n) (lc := qc) (fi := (bn : Int)) rfl (by omega) w
  have HN : Hid (bn + 1 + m = n) := hn
  clear hK hr hx hcl hsy hB1 hK1 hB2 hK2 hX hn
  go_enter Try.func14, Try.ntmps14
  go_upto_region 9 with
    (first
     | (go_at_call 18; with_reducible refine ia.mono ?_; rintro e w2 ⟨rfl, h2⟩; obtain rfl : W0 = w2 := h2.symm; clear ia)
     | (go_at_call 18; with_reducible refine ib.mono ?_; rintro e w2 ⟨rfl, h2⟩; obtain rfl : W1 = w2 := h2.symm; clear ib))
  obtain ⟨Wd, hWd⟩ : ∃ W, W2.drew = W := ⟨_, rfl⟩
  have hBd : Below W2.heap.size W2 Wd := by rw [← hWd]; exact (Below.refl _ _).drew
  have HKd : Hid (∀ wq, Below Wd.heap.size Wd wq → KBox w T N (some ⟨b0, o0, none⟩) rc R op ka bn 0 wq ∧ SymsAt wq (.slice (some ⟨b1, o1, none⟩) l.length qc) l ∧ Below W2.heap.size W2 wq) := fun wq hq => by
    have h1 : Below W2.heap.size W2 wq := hBd.trans (hq.mono hBd.size)
    exact ⟨HK2.out.next h1, HSy.out wq h1, h1⟩
  have HSS : Hid (∀ wq, Below Wd.heap.size Wd wq → wq.cell? ⟨w.heap.size, 0, none⟩ = some (.int .i64 T) ∧ wq.cell? ⟨w.heap.size, 1, none⟩ = some (.int .i64 N) ∧ wq.cell? ⟨w.heap.size, 2, none⟩ = some (.slice (some ⟨b0, o0, none⟩) R.length rc) ∧ wq.cell? ⟨w.heap.size, 3, none⟩ = some (.int .i64 op) ∧ wq.cell? ⟨w.heap.size, 4, none⟩ = some (.int .i64 ka) ∧ wq.cell? ⟨w.heap.size, 5, none⟩ = some (.int .i64 bn) ∧ wq.cell? ⟨w.heap.size, 6, none⟩ = some (.int .i64 0) ∧ wq.cell? ⟨rb, 1, none⟩ = some (.slice (some ⟨b1, o1, none⟩) n qc) ∧ wq.cell? ⟨sb, 1, none⟩ = some (.int .i64 X)) := fun wq hq =>
    let h := (HKd.out wq hq).1
    let hb := (HKd.out wq hq).2.2
    ⟨h.x0, h.x1, h.x2, h.x3, h.x4, h.x5, h.x6, (hb.cell (World.block_lt_of_cell? _ _ HU.out.1)).trans HU.out.1, (hb.cell (World.block_lt_of_cell? _ _ HU.out.2)).trans HU.out.2⟩
  have S0 := HSS.out Wd (Below.refl _ _)
  clear hBd x2 x4 x5 x6 k1 k2 hW0 hW1 hW2 y5 r0 r1 t0 t1 u0 u1 s1 s2 hrb hsb
  refine wp_region_mix [0, 1, 2, 3, 4, 5, 7, 8, 9, 10, 11, 12] 6 17 (fun wq => wq.cell? ⟨w.heap.size, 0, none⟩ = some (.int .i64 T) ∧ wq.cell? ⟨w.heap.size, 1, none⟩ = some (.int .i64 N) ∧ wq.cell? ⟨w.heap.size, 2, none⟩ = some (.slice (some ⟨b0, o0, none⟩) R.length rc) ∧ wq.cell? ⟨w.heap.size, 3, none⟩ = some (.int .i64 op) ∧ wq.cell? ⟨w.heap.size, 4, none⟩ = some (.int .i64 ka) ∧ wq.cell? ⟨w.heap.size, 5, none⟩ = some (.int .i64 bn) ∧ wq.cell? ⟨w.heap.size, 6, none⟩ = some (.int .i64 0) ∧ wq.cell? ⟨rb, 1, none⟩ = some (.slice (some ⟨b1, o1, none⟩) n qc) ∧ wq.cell? ⟨sb, 1, none⟩ = some (.int .i64 X)) (by kernel_rfl) (by kernel_rfl) (by rw [hWd]; exact S0) ?_
  rw [hWd]
  clear hWd S0
  iterate 12
    refine StillI.con8 (v := ?_) rfl (by rfl) ?_ ?_
    rotate_left
    · intro w' hSw
      obtain ⟨z0, z1, z2, z3, z4, z5, z6, z7, z8⟩ := hSw
      go_simp
      try with_reducible rfl
    simp only [Act.put, List.setIfInBounds_toArray, List.set_cons_zero, List.set_cons_succ]
  rw [StillI]
  have n1 := st_rulesOf (w := Wd) (m := X) (HKd.out Wd (Below.refl _ _)).1.all hl
  refine TailC.one (i := 6) (by kernel_rfl) ⟨_, rfl, fun K hK => ?_⟩
  go_simp
  refine n1.mono ?_
  rintro e w3 ⟨ov, rfl, hov, hB3⟩
  dsimp only
  refine hK.out _ _ (fun _ => HSS.out _ hB3) ?_
  clear hK n1
  have n2 := st_namesIn (w := w3) ((HKd.out w3 hB3).2.1.takeG (f := bn) (by rw [HX.out]; have := HN.out; omega)) (by rw [List.length_take]; omega)
  obtain ⟨oa, oc, hovf⟩ := own_form hov
  have HOv : Hid (ov = .slice oa (idxF (fun k => decide ((R.getD k (0, [])).1 = X)) R.length).length oc) := hovf
  obtain ⟨on, hon⟩ : ∃ on, (idxF (fun k => decide ((R.getD k (0, [])).1 = X)) R.length).length = on := ⟨_, rfl⟩
  rw [hon] at hovf HOv
  rw [hovf]
  rw [hovf] at hov
  clear hovf HOv
  refine TailC.one (i := 13) (by kernel_rfl) ⟨_, rfl, fun K hK => ?_⟩
  go_simp
  refine n2.mono ?_
  rintro e w4 ⟨rfl, hB4⟩
  dsimp only
  have hB4' : Below Wd.heap.size Wd w4 := hB3.trans (hB4.mono hB3.size)
  refine hK.out _ _ (fun _ => HSS.out _ hB4') ?_
  clear hK n2
  refine TailC.one (i := 14) (by kernel_rfl) ⟨_, rfl, fun K hK => ?_⟩
  go_simp
  refine hK.out _ _ (fun _ => HSS.out _ hB4') ?_
  clear hK
  refine TailC.one (i := 15) (by kernel_rfl) ⟨_, rfl, fun K hK => ?_⟩
  go_simp
  refine hK.out _ _ (fun _ => HSS.out _ hB4') ?_
  clear hK
  refine TailC.one (i := 16) (by kernel_rfl) ⟨_, rfl, fun K hK => ?_⟩
  go_simp
  refine hK.out _ _ (fun _ => HSS.out _ hB4') ?_
  clear hK
  refine TailC.last (i := 17) (by kernel_rfl) ⟨_, rfl, fun K hK => ?_⟩
  go_simp
  refine hK.out _ _ (fun h => absurd h (by omega)) (NoPanic.normal ?_)
  clear hK
  have HOw : Hid (w4.ownsRow w.heap.size 3 1 (.slice oa on oc) (idxF (fun k => decide ((R.getD k (0, [])).1 = X)) R.length).length (idxV (idxF (fun k => decide ((R.getD k (0, [])).1 = X)) R.length))) := own_mono (own_below hov hB4 fun g hg => (hov.lt g hg).2) (HKd.out Wd (Below.refl _ _)).1.below.size
  clear hov hon
  go_wp2_with fail
  refine bodyPost_ret (v := .tuple #[.iface 59 (.agg #[.int .i64 T, .int .i64 N, .slice (some ⟨b0, o0, none⟩) R.length rc, .int .i64 op, .int .i64 ka, .int .i64 bn, .int .i64 0, .slice oa on oc, .int .i64 (namesS (l.take bn)).length]), .bool true]) (by simp [results, Try.results14, go_sem]) rfl ?_
  exact ⟨_, rfl, HOw.out, (HKd.out w4 hB4').1.below⟩

end Go.Proofs.Ytlalmfheiippiaa
