import Derived.Test.YtgcpllnjdnahjaaRows
import Derived.Test.YtgcpllnjdnahjaaMathAndAt
import Derived.WalkKit
import Derived.WalkSpells
import Derived.Deep.QuietTactic
import Derived.BigQuiet
import Derived.StillTailTactics
import Derived.Test.YtgcpllnjdnahjaaClMathAndGotoMath
import Derived.Test.YtgcpllnjdnahjaaSpreadMathAndLooksMath
import Derived.Test.YtgcpllnjdnahjaaSetsRowsAndSets2Math
import Derived.Maps.Keyed
import Derived.WideKeyEntry
import Derived.DeepKeys4
/- How a table lies in memory; the contract of pollardingref6.Clashes. -/
namespace Go.Proofs.Ytgcpllnjdnahjaa
open Go.RowKit

/-- A cell: Shift, Rules, End. -/
abbrev Ce := Int × List Int × Bool

/-- Cells lie in memory. -/
def CellsAt (w : World) (v : Value) (X : List Ce) : Prop :=
  (∃ a c, v = .slice a X.length c) ∧ ∀ k, k < X.length → ∃ b o c rl, v = .slice (some ⟨b, o, none⟩) X.length c ∧ w.cell? ⟨b, o + k * 3, none⟩ = some (.int .i64 (X.getD k (0, [], false)).1) ∧
    w.cell? ⟨b, o + k * 3 + 1, none⟩ = some rl ∧ ListAt w w.heap.size rl (X.getD k (0, [], false)).2.1 ∧ w.cell? ⟨b, o + k * 3 + 2, none⟩ = some (.bool (X.getD k (0, [], false)).2.2)
def CellsMat (w : World) (v : Value) (X : List (List Ce)) : Prop :=
  (∃ a c, v = .slice a X.length c) ∧ ∀ i, i < X.length → ∃ b o c rv, v = .slice (some ⟨b, o, none⟩) X.length c ∧ w.cell? ⟨b, o + i, none⟩ = some rv ∧ CellsAt w rv (X.getD i [])
def IntsMat (w : World) (v : Value) (X : List (List Int)) : Prop :=
  (∃ a c, v = .slice a X.length c) ∧ ∀ i, i < X.length → ∃ b o c rv, v = .slice (some ⟨b, o, none⟩) X.length c ∧ w.cell? ⟨b, o + i, none⟩ = some rv ∧ ListAt w w.heap.size rv (X.getD i [])
/-- A table: its cells, and where names go on. -/
structure TabAt (w : World) (cv gv : Value) (C : List (List Ce)) (G : List (List Int)) : Prop where
  cells : CellsMat w cv C
  goto : IntsMat w gv G

section
variable {w w' : World}
theorem CellsAt.below {v : Value} {X : List Ce} (h : CellsAt w v X) (hb : Below w.heap.size w w') : CellsAt w' v X :=
  ⟨h.1, fun k hk => let ⟨b, o, c, rl, h1, h2, h3, h4, h5⟩ := h.2 k hk; ⟨b, o, c, rl, h1, (hb.cell (World.block_lt_of_cell? _ _ h2)).trans h2, (hb.cell (World.block_lt_of_cell? _ _ h3)).trans h3, (h4.below hb).mono hb.size, (hb.cell (World.block_lt_of_cell? _ _ h5)).trans h5⟩⟩
theorem CellsMat.below {v : Value} {X : List (List Ce)} (h : CellsMat w v X) (hb : Below w.heap.size w w') : CellsMat w' v X :=
  ⟨h.1, fun k hk => let ⟨b, o, c, rv, h1, h2, h3⟩ := h.2 k hk; ⟨b, o, c, rv, h1, (hb.cell (World.block_lt_of_cell? _ _ h2)).trans h2, h3.below hb⟩⟩
theorem IntsMat.below {v : Value} {X : List (List Int)} (h : IntsMat w v X) (hb : Below w.heap.size w w') : IntsMat w' v X :=
  ⟨h.1, fun k hk => let ⟨b, o, c, rv, h1, h2, h3⟩ := h.2 k hk; ⟨b, o, c, rv, h1, (hb.cell (World.block_lt_of_cell? _ _ h2)).trans h2, (h3.below hb).mono hb.size⟩⟩
theorem TabAt.below {cv gv : Value} {C : List (List Ce)} {G : List (List Int)} (h : TabAt w cv gv C G) (hb : Below w.heap.size w w') : TabAt w' cv gv C G := ⟨h.cells.below hb, h.goto.below hb⟩
end

/-- A cell says but one thing. -/
def oneB (c : Ce) : Bool := (decide (c.2.1.length = 0) && !c.2.2) || (decide (c.1 < 0) && (decide (c.2.1.length = 0) || (decide (c.2.1.length = 1) && !c.2.2)))
def clashR (X : List Ce) : Nat := (X.filter fun c => !oneB c).length
def clashN (C : List (List Ce)) : Nat := (C.map clashR).sum

theorem clashR_take {X : List Ce} {k : Nat} (hk : k < X.length) : clashR (X.take (k + 1)) = clashR (X.take k) + (if oneB (X.getD k (0, [], false)) then 0 else 1) := by
  have e : X.getD k (0, [], false) = X[k] := by simp [List.getD, hk]
  unfold clashR
  rw [List.take_succ_eq_append_getElem hk, List.filter_append, List.length_append, e]
  cases h : oneB X[k] <;> simp [h]
theorem clashN_take {C : List (List Ce)} {i : Nat} (hi : i < C.length) : clashN (C.take (i + 1)) = clashN (C.take i) + clashR (C.getD i []) := by
  have e : C.getD i [] = C[i] := by simp [List.getD, hi]
  unfold clashN
  rw [List.take_succ_eq_append_getElem hi, List.map_append, List.sum_append, e]
  simp
theorem clashR_le (X : List Ce) : clashR X ≤ X.length := List.length_filter_le _ _
theorem clashN_le {C : List (List Ce)} {m : Nat} (h : ∀ i, i < C.length → (C.getD i []).length ≤ m) : clashN C ≤ C.length * m := by
  have : ∀ n, n ≤ C.length → clashN (C.take n) ≤ n * m := by
    intro n
    induction n with
    | zero => simp [clashN]
    | succ n ih =>
      intro hn
      rw [clashN_take (by omega), Nat.add_mul]
      have := ih (by omega)
      have := clashR_le (C.getD n [])
      have := h n (by omega)
      omega
  have h1 := this C.length (Nat.le_refl _)
  rwa [List.take_length] at h1

set_option maxRecDepth 100000 in
set_option maxHeartbeats 3200000 in
theorem clashes6_any {w : World} {cv gv : Value} {C : List (List Ce)} {G : List (List Int)} (h : TabAt w cv gv C G) (hC : C.length ≤ 1000) (hR : ∀ i, i < C.length → (C.getD i []).length ≤ 1000) :
    Calls Try.prog 11 #[.agg #[cv, gv]] w fun e w' => e = .returned (.int .i64 (clashN C)) ∧ Below w.heap.size w w' := by
  obtain ⟨ca, cc, hcv⟩ := h.cells.1
  obtain ⟨ga, gc, hgv⟩ := h.goto.1
  subst hcv
  subst hgv
  have HH : Hid (CellsMat w (.slice ca C.length cc) C) := h.cells
  have HR : Hid (∀ i, i < C.length → (C.getD i []).length ≤ 1000) := hR
  have HB0 : Hid (Below w.heap.size w (w.alloc (.cells #[.slice ca C.length cc, .slice ga G.length gc] 34))) := (Below.refl _ _).alloc (Nat.le_refl _) _
  have HBX : Hid (∀ wr, Below (w.heap.size + 1) (w.alloc (.cells #[.slice ca C.length cc, .slice ga G.length gc] 34)) wr → wr.cell? ⟨w.heap.size, 0, none⟩ = some (.slice ca C.length cc) ∧ Below w.heap.size w wr ∧ w.heap.size + 1 ≤ wr.heap.size) := fun wr hB =>
    ⟨(hB.cell (by simp)).trans (by simp [go_sem]), HB0.out.trans (hB.mono (by omega)), by have := hB.size; simpa using this⟩
  clear h hR
  go_enter Try.func11, Try.ntmps11
  go_wp2_with fail
  obtain ⟨WT, hWT⟩ : ∃ W, w.alloc (.cells #[.slice ca C.length cc, .slice ga G.length gc] 34) = W := ⟨_, rfl⟩
  rw [hWT] at HBX ⊢
  clear hWT HB0
  go_loopw [3, 4] (fun s3 s4 wr => ∃ i : Nat, s3 = .int .i64 (clashN (C.take i)) ∧ s4 = .int .i64 i ∧ i ≤ C.length ∧ Below (w.heap.size + 1) WT wr) (fun _ s _ => C.length - (intOf s).toNat)
  case atStart => exact ⟨0, rfl, rfl, Nat.zero_le _, Below.refl _ _⟩
  case round =>
    obtain ⟨i, rfl, rfl, hi, hB⟩ := hrel
    have HB : Hid (Below (w.heap.size + 1) WT wr) := hB
    obtain ⟨b0, hBw, hsz⟩ := HBX.out wr hB
    by_cases hlt : i < C.length
    · have hCl : clashN (C.take i) ≤ i * 1000 := by
        have := clashN_le (C := C.take i) (m := 1000) fun j hj => by
          have hj' : j < i := by simp at hj; omega
          have e : (C.take i).getD j [] = C.getD j [] := by simp [List.getD, hj']
          rw [e]; exact HR.out j (by omega)
        simp only [List.length_take] at this
        rw [Nat.min_eq_left hi] at this
        exact this
      obtain ⟨Xr, hXr⟩ : ∃ x, C.getD i [] = x := ⟨_, rfl⟩
      have HXr : Hid (C.getD i [] = Xr) := hXr
      have hXl : Xr.length ≤ 1000 := by rw [← hXr]; exact HR.out i hlt
      clear hB hBw hXr
      go_wp2_with fail
      clear b0
      go_loopw [3, 5] (fun s3 s5 wq => ∃ k : Nat, s3 = .int .i64 ((clashN (C.take i) + clashR (Xr.take k) : Nat) : Int) ∧ s5 = .int .i64 k ∧ k ≤ Xr.length ∧ Below (w.heap.size + 1) WT wq) (fun _ s _ => Xr.length - (intOf s).toNat)
      case atStart => exact ⟨0, by simp [clashR], rfl, Nat.zero_le _, HB.out⟩
      case round =>
        clear HB
        obtain ⟨k, rfl, rfl, hk, hB⟩ := hrel
        have HB : Hid (Below (w.heap.size + 1) WT wr) := hB
        obtain ⟨b0, hBw, hsz⟩ := HBX.out wr hB
        obtain ⟨b, o, c, rv, hv, d0, hcs⟩ := (HH.out.below hBw).2 i hlt
        cases hv
        rw [HXr.out] at hcs
        obtain ⟨xa, xc, hrv⟩ := hcs.1
        subst hrv
        have i0 : (0 : Int) ≤ (i : Int) := Int.natCast_nonneg _
        have i1 : (i : Int) < (C.length : Int) := by omega
        have hcr := clashR_le (Xr.take k)
        simp only [List.length_take] at hcr
        obtain ⟨q, hq⟩ : ∃ q, clashN (C.take i) + clashR (Xr.take k) = q := ⟨_, rfl⟩
        have HQ : Hid (clashN (C.take i) + clashR (Xr.take k) = q) := hq
        have hqb : q ≤ 2000000 := by omega
        rw [hq]
        clear hB hBw hq
        by_cases hklt : k < Xr.length
        · obtain ⟨b', o', c', rl, hv', e0, e1, e2, e3⟩ := hcs.2 k hklt
          cases hv'
          have hstep := clashR_take hklt
          obtain ⟨⟨sh, ru, en⟩, hce⟩ : ∃ x, Xr.getD k (0, [], false) = x := ⟨_, rfl⟩
          rw [hce] at e0 e2 e3 hstep
          simp only at e0 e2 e3
          obtain ⟨ra, rc, hrl⟩ := e2.1
          subst hrl
          have k0 : (0 : Int) ≤ (k : Int) := Int.natCast_nonneg _
          have k1 : (k : Int) < (Xr.length : Int) := by omega
          obtain ⟨z, hz⟩ : ∃ z, oneB (sh, ru, en) = z := ⟨_, rfl⟩
          rw [hz] at hstep
          have HSt : Hid (clashR (Xr.take (k + 1)) = clashR (Xr.take k) + (if z then 0 else 1)) := hstep
          have HA : Hid (Below (w.heap.size + 1) WT (wr.alloc (.cells #[.int .i64 sh, .slice ra ru.length rc, .bool en] 50))) := HB.out.alloc (by omega) _
          have hzz : z = ((decide (ru.length = 0) && !en) || (decide (sh < 0) && (decide (ru.length = 0) || (decide (ru.length = 1) && !en)))) := by rw [← hz]; rfl
          obtain ⟨p, hp⟩ : ∃ p, ((ru.length : Int) == 0) = p := ⟨_, rfl⟩
          obtain ⟨p1, hp1⟩ : ∃ p, ((ru.length : Int) == 1) = p := ⟨_, rfl⟩
          obtain ⟨p2, hp2⟩ : ∃ p, decide (sh < 0) = p := ⟨_, rfl⟩
          have hzp : z = ((p && !en) || (p2 && (p || (p1 && !en)))) := by
            rw [hzz, ← hp, ← hp1, ← hp2]
            have q0 : ((ru.length : Int) == 0) = decide (ru.length = 0) := by rw [Bool.eq_iff_iff]; simp
            have q1 : ((ru.length : Int) == 1) = decide (ru.length = 1) := by rw [Bool.eq_iff_iff]; simp; omega
            rw [q0, q1]
          clear hcs hstep hce e2 hz hzz
          cases p <;> cases p1 <;> cases p2 <;> cases en <;>
            (simp at hzp
             subst hzp
             simp only [if_true, Bool.false_eq_true, if_false, Nat.add_zero] at HSt
             go_wp2_with fail
             go_roundw
             case rel => exact ⟨k + 1, by rw [HSt.out, ← HQ.out] <;> first | rfl | go_num, by go_num, by omega, HA.out⟩
             case measure => simp [intOf]; omega)
        · have HE : Hid (clashN (C.take (i + 1)) = q) := by
            show clashN (C.take (i + 1)) = q
            rw [clashN_take hlt, HXr.out, ← HQ.out, List.take_of_length_le (by omega : Xr.length ≤ k)]
          clear hcs
          go_wp2_with fail
          go_roundw
          case rel => exact ⟨i + 1, by rw [HE.out], by go_num, by omega, HB.out⟩
          case measure => simp [intOf]; omega
    · obtain rfl : i = C.length := by omega
      have HBw : Hid (Below w.heap.size w wr) := hBw
      rw [List.take_length]
      clear hB hBw
      go_wp2_with fail
      go_ret
      exact ⟨rfl, HBw.out⟩

end Go.Proofs.Ytgcpllnjdnahjaa

/- Plain: a table in plain words (F3). No program. -/
namespace Go.Proofs.Ytgcpllnjdnahjaa

section
open Classical
/-- A rule is read whole in the state k, and has t as lookahead. -/
def DoneP (T N : Nat) (R : List Ru) (NL : List (List Int)) (Ls : List SetI) (k t n : Nat) : Prop := Ls.getD k noS (n, (rightF R n).length) ∧ LookQ T R (nullA R N) (firstA R (nullA R N) T N) NL Ls k (n, (rightF R n).length) t
noncomputable def cellP (T N : Nat) (R : List Ru) (NL : List (List Int)) (Ls : List SetI) (k t : Nat) : Ce :=
  (if t < T then (NL.getD k []).getD t 0 else -1, ((List.range R.length).filter fun n => decide (DoneP T N R NL Ls k t n)).map fun n => ((n : Nat) : Int), decide (DoneP T N R NL Ls k t R.length))
noncomputable def rowP (T N : Nat) (R : List Ru) (NL : List (List Int)) (Ls : List SetI) (k : Nat) : List Ce := (List.range (T + 1)).map (cellP T N R NL Ls k)
/-- F3: the table, where there are K states. -/
noncomputable def tabC (T N : Nat) (R : List Ru) (K : Nat) : List (List Ce) := (List.range K).map (rowP T N R (allN T N R K).1 (allN T N R K).2)
noncomputable def tabG (T N : Nat) (R : List Ru) (K : Nat) : List (List Int) := (List.range K).map fun k => ((allN T N R K).1.getD k []).drop T

end

theorem num_in {T N : Nat} {R : List Ru} (hf : Fine T N R) {r : Nat} (hr : r ≤ R.length) : ∀ s ∈ rightF R r, (0 ≤ numF T s ∧ numF T s < (T : Int) + N) ∧ (s.1 = false → 0 ≤ s.2 ∧ s.2 < (N : Int)) := fun s hs => by
  have hN := hf.some
  unfold rightF at hs
  split at hs
  · simp only [List.mem_singleton] at hs
    subst hs
    simp [numF]
    omega
  · have hm : R.getD r (0, []) ∈ R := by simp [List.getD, show r < R.length by omega]
    obtain ⟨t, v⟩ := s
    cases t with
    | true => have := hf.term _ hm _ hs rfl; simp only [numF, if_true] at this ⊢; exact ⟨by omega, fun h => (nomatch h)⟩
    | false => have := hf.name _ hm _ hs rfl; simp only [numF, Bool.false_eq_true, if_false] at this ⊢; exact ⟨by omega, fun _ => this⟩

end Go.Proofs.Ytgcpllnjdnahjaa

/- A map that a call has made, as a function of its keys: read, written, an entry of it taken and stored. No program. -/
namespace Go.Proofs.Ytgcpllnjdnahjaa
open Go.RowKit Go.MapKept
open Go.ChangeMaps (setBlock heap_setBlock_same heap_setBlock_other modify_eq_set)
open Go.WideMaps (KeyLaw)
open Go.WideElems (Fit rd rd_mk other_key entry_then_store)

section
variable {κ : Type} {P : Program} {k : TypeId} {enc : κ → Value}

/-- What a map's entries say. -/
structure MapIs (P : Program) (k : TypeId) (enc : κ → Value) (es : Array MapEntry) (clock n : Nat) (M : κ → Option Value) : Prop where
  stamped : Stamped es clock
  size : es.size ≤ n
  keys : ∀ x ∈ es.toList, ∃ l, keyOf P k x.key = some l
  here : ∀ x ∈ es.toList, ∃ s, x.key = enc s ∧ M s = some x.val
  all : ∀ s v, M s = some v → ∃ x ∈ es.toList, x.key = enc s

/-- Block b is a map of at most n entries, that says M. -/
def MapAt (P : Program) (k : TypeId) (enc : κ → Value) (w : World) (b n : Nat) (M : κ → Option Value) : Prop :=
  ∃ es clock, w.heap[b]? = some (.map es clock) ∧ MapIs P k enc es clock n M

def setM [DecidableEq κ] (M : κ → Option Value) (s : κ) (v : Value) : κ → Option Value := fun t => if t = s then some v else M t

theorem MapIs.fit {es : Array MapEntry} {clock n : Nat} {M : κ → Option Value} (h : MapIs P k enc es clock n M) (hn : n ≤ maxLen) : Fit (H := Unit) P k (fun _ => some (.nil, [])) es clock :=
  ⟨Nat.le_trans h.size hn, h.stamped, fun x hx => by obtain ⟨l, hl⟩ := h.keys x hx; exact ⟨_, rd_mk (born := x.born) hl rfl⟩⟩

theorem MapAt.lt {w : World} {b n : Nat} {M : κ → Option Value} (h : MapAt P k enc w b n M) : b < w.heap.size := by
  obtain ⟨es, clock, hb, _⟩ := h
  exact (Array.getElem?_eq_some_iff.1 hb).1

theorem MapAt.kept {w w' : World} {b n : Nat} {M : κ → Option Value} (h : MapAt P k enc w b n M) (hb : w'.heap[b]? = w.heap[b]?) : MapAt P k enc w' b n M := by
  obtain ⟨es, clock, h1, h2⟩ := h
  exact ⟨es, clock, hb.trans h1, h2⟩

theorem MapAt.alloc {w : World} {b n : Nat} {M : κ → Option Value} (h : MapAt P k enc w b n M) (o : Obj) : MapAt P k enc (w.alloc o) b n M :=
  h.kept ((World.grownBy_alloc w o none).block b h.lt (by simp))

theorem MapAt.mono {w : World} {b n n' : Nat} {M : κ → Option Value} (h : MapAt P k enc w b n M) (hn : n ≤ n') : MapAt P k enc w b n' M := by
  obtain ⟨es, clock, h1, h2⟩ := h
  exact ⟨es, clock, h1, ⟨h2.stamped, Nat.le_trans h2.size hn, h2.keys, h2.here, h2.all⟩⟩

theorem MapAt.congr {w : World} {b n : Nat} {M M' : κ → Option Value} (h : MapAt P k enc w b n M) (e : M = M') : MapAt P k enc w b n M' := e ▸ h

theorem MapAt.setCell {w : World} {b n : Nat} {M : κ → Option Value} (h : MapAt P k enc w b n M) {a : Addr} (ha : a.block ≠ b) (u : Value) : MapAt P k enc (w.setCell a u) b n M :=
  h.kept (Below.heap_setCell _ _ _ _ (fun e => ha e.symm))

theorem mapAt_made (w : World) (P : Program) (k : TypeId) (enc : κ → Value) : MapAt P k enc (w.alloc (.map #[] 0)) w.heap.size 0 (fun _ => none) :=
  ⟨#[], 0, (MapKept.heap_alloc w _).1, stamped_empty 0, by simp, by simp, by simp, fun _ _ h => by cases h⟩

theorem mapAt_look {w : World} {b n : Nat} {M : κ → Option Value} (h : MapAt P k enc w b n M) (c : Bool) (hn : n ≤ maxLen) (K : KeyLaw P k) {t e : TypeId} (ht : P.underlying t = some (.map k e)) {z : Value} (hz : (zeroValue e).run P w = .ok z w)
    (inj : ∀ s s', enc s = enc s' → s = s') {s : κ} {kl : Lit} (hkey : keyOf P k (enc s) = some kl) :
    (Instr.lookup t (.map (some b)) (enc s) c).run P w = .ok (if c then .tuple #[(M s).getD z, .bool (M s).isSome] else (M s).getD z) w := by
  obtain ⟨es, clock, hb, hM⟩ := h
  rcases Maps.fit_look c (Maps.Keyed.of_law K) ht hz hb (hM.fit hn) hkey with ⟨hrun, hno, _⟩ | ⟨e0, y, hmem, hk0, hrun, _⟩
  · have : M s = none := by
      cases hs : M s with
      | none => rfl
      | some v =>
        obtain ⟨x, hx, hxk⟩ := hM.all s v hs
        exact absurd hxk (hno x hx)
    rw [hrun, this]
    rfl
  · obtain ⟨s', h1, h2⟩ := hM.here e0 hmem
    have : s = s' := inj _ _ (hk0.symm.trans h1)
    subst this
    rw [hrun, h2]
    rfl

variable [DecidableEq κ]

theorem mapIs_update {w : World} {b n : Nat} {M : κ → Option Value} {es : Array MapEntry} {clock : Nat} (hb : w.heap[b]? = some (.map es clock)) (hM : MapIs P k enc es clock n M) (K : KeyLaw P k) {t e : TypeId} (ht : P.underlying t = some (.map k e))
    (inj : ∀ s s', enc s = enc s' → s = s') {s : κ} {kl : Lit} (hkey : keyOf P k (enc s) = some kl) (val : Value) :
    ∃ es' clock', (Instr.mapUpdate t (.map (some b)) (enc s) val).run P w = .ok () (setBlock w b (.map es' clock')) ∧ MapIs P k enc es' clock' (n + 1) (setM M s val) := by
  rcases K.find w hkey es.toList hM.keys with ⟨h1, h2⟩ | ⟨j, e0, h1, h2, h3⟩
  · refine ⟨es.push ⟨enc s, val, clock⟩, clock + 1, ?_, stamped_push hM.stamped h2, ?_, ?_, ?_, ?_⟩
    · simp [Instr.mapUpdate, run_underlying ht, MapKept.run_getObj_map hb, K.check w false hkey, h1, MapKept.run_setObj_map _ hb, Result.andThen, setBlock]
    · have := hM.size; simp; omega
    · intro x hx
      simp only [Array.toList_push, List.mem_append, List.mem_singleton] at hx
      rcases hx with hx | rfl
      · exact hM.keys x hx
      · exact ⟨_, hkey⟩
    · intro x hx
      simp only [Array.toList_push, List.mem_append, List.mem_singleton] at hx
      rcases hx with hx | rfl
      · obtain ⟨s', a, b⟩ := hM.here x hx
        have hne : s' ≠ s := fun e => h2 x hx (by rw [a, e])
        exact ⟨s', a, by simp [setM, hne, b]⟩
      · exact ⟨s, rfl, by simp [setM]⟩
    · intro s' v hv
      by_cases e1 : s' = s
      · subst e1
        exact ⟨⟨enc s', val, clock⟩, by simp, rfl⟩
      · simp only [setM, e1, if_false] at hv
        obtain ⟨x, hx, hk⟩ := hM.all s' v hv
        exact ⟨x, by simp [hx], hk⟩
  · have hj : es[j]? = some e0 := by simpa using h2
    have hjl : j < es.toList.length := (List.getElem?_eq_some_iff.1 h2).1
    have hkeyf : ∀ e', es[j]? = some e' → ({ e' with key := enc s, val := val } : MapEntry).key = e'.key := fun e' he' => by rw [hj] at he'; cases he'; exact h3.symm
    have hlist : (es.modify j (fun e' => { e' with key := enc s, val := val })).toList = es.toList.set j { e0 with key := enc s, val := val } := by rw [Array.toList_modify, modify_eq_set _ _ _ _ h2]
    have hpw := ((stamped_iff es clock).1 hM.stamped).2.2
    have who : ∀ x ∈ es.toList.set j { e0 with key := enc s, val := val }, x = { e0 with key := enc s, val := val } ∨ (x ∈ es.toList ∧ x.key ≠ enc s) := by
      intro x hx
      obtain ⟨i, hi, ex⟩ := List.getElem_of_mem hx
      rw [List.getElem_set] at ex
      split at ex
      · exact Or.inl ex.symm
      · rename_i hne
        have hi' : i < es.toList.length := by simpa using hi
        refine Or.inr ⟨ex ▸ List.getElem_mem hi', ?_⟩
        have ej : es.toList[j] = e0 := by
          have := List.getElem?_eq_getElem hjl
          rw [h2] at this
          exact (Option.some.inj this).symm
        have hd : es.toList[i].key ≠ es.toList[j].key := by
          rcases Nat.lt_or_ge i j with h | h
          · exact List.pairwise_iff_getElem.1 hpw i j hi' hjl h
          · exact fun e1 => List.pairwise_iff_getElem.1 hpw j i hjl hi' (by omega) e1.symm
        rw [ej] at hd
        rw [← h3, ← ex]
        exact hd
    refine ⟨es.modify j (fun e' => { e' with key := enc s, val := val }), clock, ?_, stamped_modify hM.stamped _ _ (fun _ _ => rfl) (fun e' _ he' => hkeyf e' he'), ?_, ?_, ?_, ?_⟩
    · simp [Instr.mapUpdate, run_underlying ht, MapKept.run_getObj_map hb, K.check w false hkey, h1, hj, h3, K.stays w hkey, MapKept.run_setObj_map _ hb, Result.andThen, setBlock]
    · have := hM.size; simp; omega
    · intro x hx
      rw [hlist] at hx
      rcases who x hx with rfl | ⟨hx', hne⟩
      · exact ⟨_, hkey⟩
      · exact hM.keys x hx'
    · intro x hx
      rw [hlist] at hx
      rcases who x hx with rfl | ⟨hx', hne⟩
      · exact ⟨s, rfl, by simp [setM]⟩
      · obtain ⟨s', a, b⟩ := hM.here x hx'
        have hs : s' ≠ s := fun e => hne (by rw [a, e])
        exact ⟨s', a, by simp [setM, hs, b]⟩
    · intro s' v hv
      rw [hlist]
      by_cases e1 : s' = s
      · subst e1
        exact ⟨{ e0 with key := enc s', val := val }, List.mem_iff_getElem.2 ⟨j, by simpa using hjl, by simp⟩, rfl⟩
      · simp only [setM, e1, if_false] at hv
        obtain ⟨x, hx, hk⟩ := hM.all s' v hv
        obtain ⟨i, hi, ex⟩ := List.getElem_of_mem hx
        have hij : j ≠ i := fun e2 => by
          subst e2
          have := List.getElem?_eq_getElem hi
          rw [h2] at this
          have ej := Option.some.inj this
          rw [← ex, ← ej, h3] at hk
          exact e1 (inj _ _ hk).symm
        exact ⟨x, List.mem_iff_getElem.2 ⟨i, by simpa using hi, by rw [List.getElem_set_ne hij]; exact ex⟩, hk⟩

theorem grown_setBlock {w : World} {b : Nat} {es : Array MapEntry} {clock : Nat} (hb : w.heap[b]? = some (.map es clock)) (o : Obj) : w.grownBy (setBlock w b o) (some b) :=
  ⟨rfl, rfl, rfl, by simp [setBlock], fun i _ hi => heap_setBlock_other hb _ (fun e => hi (by rw [e]))⟩

theorem mapAt_update {w : World} {b n : Nat} {M : κ → Option Value} (h : MapAt P k enc w b n M) (K : KeyLaw P k) {t e : TypeId} (ht : P.underlying t = some (.map k e))
    (inj : ∀ s s', enc s = enc s' → s = s') {s : κ} {kl : Lit} (hkey : keyOf P k (enc s) = some kl) (val : Value) :
    ∃ w', (Instr.mapUpdate t (.map (some b)) (enc s) val).run P w = .ok () w' ∧ MapAt P k enc w' b (n + 1) (setM M s val) ∧ w.grownBy w' (some b) ∧ w'.heap.size = w.heap.size := by
  obtain ⟨es, clock, hb, hM⟩ := h
  obtain ⟨es', clock', h1, h2⟩ := mapIs_update hb hM K ht inj hkey val
  exact ⟨_, h1, ⟨es', clock', heap_setBlock_same hb _, h2⟩, grown_setBlock hb _, by simp [setBlock]⟩

end

section
variable {w w' : World}

theorem own_heap {base : Nat} {e : TypeId} {size n : Nat} {x : Value} {xs : List Value} (h : w.ownsRow base e size x n xs) (hh : ∀ g, x.ownBlock = some g → w'.heap[g]? = w.heap[g]?) : w'.ownsRow base e size x n xs := by
  refine ⟨h.1, ?_⟩
  rcases h.2 with h2 | ⟨g, cap, cur, rfl, h2, h3, h4⟩
  · exact .inl h2
  · exact .inr ⟨g, cap, cur, rfl, h2, (hh g rfl).trans h3, h4⟩

theorem own_no_map {base : Nat} {e : TypeId} {size n : Nat} {x : Value} {xs : List Value} (h : w.ownsRow base e size x n xs) {b : Nat} {es : Array MapEntry} {c : Nat} (hb : w.heap[b]? = some (.map es c)) : x.ownBlock ≠ some b := by
  rcases h.2 with ⟨rfl, _⟩ | ⟨g, cap, cur, rfl, h2, h3, h4⟩
  · intro e; cases e
  · intro e
    have : g = b := by simpa [Value.ownBlock] using e
    subst this
    rw [hb] at h3
    cases h3

theorem MapAt.isMap {κ : Type} {P : Program} {k : TypeId} {enc : κ → Value} {b n : Nat} {M : κ → Option Value} (h : MapAt P k enc w b n M) : ∃ es c, w.heap[b]? = some (.map es c) := by
  obtain ⟨es, c, hb, _⟩ := h
  exact ⟨es, c, hb⟩

theorem Owns.heap {ι : Type} {P : ι → Option Row} {base : Nat} (h : Owns w base P) (hh : ∀ i r g, P i = some r → r.v.ownBlock = some g → w'.heap[g]? = w.heap[g]?) : Owns w' base P :=
  ⟨fun i r hr => own_heap (h.own i r hr) fun g hg => hh i r g hr hg, h.apart⟩
end

end Go.Proofs.Ytgcpllnjdnahjaa
