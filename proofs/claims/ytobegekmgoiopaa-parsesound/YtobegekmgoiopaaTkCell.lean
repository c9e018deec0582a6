/- The contracts of package table's goesTo, gotos, put. -/
import Derived.Test.YtobegekmgoiopaaTkAllAndOfMem6
namespace Go.Proofs.Ytobegekmgoiopaa
open Go.RowKit

/-- What the map says, as a number. -/
def Says (G : Wy → Option Value) (p : Wy) (z : Int) : Prop := G p = some (.int .i64 z) ∨ (G p = none ∧ z = -1)

set_option maxRecDepth 100000 in
set_option maxHeartbeats 1600000 in
theorem tk_goesTo {w0 w : World} {d : TkA} {v : TkV} {G : Wy → Option Value} {ng : Nat} {st : LS} {k : Nat} {sb : Bool} {sv z : Int} (h : TkM w0 w d v G ng st) (hk : k ≤ 1000) (h0 : 0 ≤ sv) (h1 : sv ≤ 1000) (hng : ng ≤ 10000000) (hz : Says G (k, (sb, sv)) z) :
    Calls Try.prog 69 #[.pointer (some ⟨d.ma, 0, none⟩), .int .i64 k, .agg #[.bool sb, .int .i64 sv]] w fun e w' => e = .returned (.int .i64 z) ∧ Below w.heap.size w w' := by
  have hM := h.alloc (.cells #[.bool sb, .int .i64 sv] 102)
  have l1 := hM.drew.lookG (p := (k, (sb, sv))) hk h0 h1 hng true
  have c7 := (hM.cell (i := 7) rfl (by omega)).1
  unfold wyV at l1
  simp only [if_true] at l1
  have hb : Below w.heap.size w (w.alloc (.cells #[.bool sb, .int .i64 sv] 102)).drew := ((Below.refl _ _).alloc (Nat.le_refl _) _).drew
  rcases hz with hz | ⟨hz, rfl⟩
  · rw [hz] at l1
    simp only [Option.getD_some, Option.isSome_some] at l1
    have HB : Hid (Below w.heap.size w (w.alloc (.cells #[.bool sb, .int .i64 sv] 102)).drew) := hb
    clear h hM hz hb
    go_enter Try.func69, Try.ntmps69
    go_wp2_with fail
    go_region
    all_goals
      go_wp2_with fail
      go_ret
      exact ⟨rfl, HB.out⟩
  · rw [hz] at l1
    simp only [Option.getD_none, Option.isSome_none] at l1
    have HB : Hid (Below w.heap.size w (w.alloc (.cells #[.bool sb, .int .i64 sv] 102)).drew) := hb
    clear h hM hz hb
    go_enter Try.func69, Try.ntmps69
    go_wp2_with fail
    go_region
    all_goals
      go_wp2_with fail
      go_ret
      exact ⟨rfl, HB.out⟩

theorem rowI_set {N n : Nat} {Z : Nat → Int} : ((List.range N).map fun j => if j < n then Z j else 0).set n (Z n) = (List.range N).map fun j => if j < n + 1 then Z j else 0 := by
  apply List.ext_getElem (by simp)
  intro i h1 h2
  simp only [List.length_set, List.length_map, List.length_range] at h1
  rw [List.getElem_set]
  simp only [List.getElem_map, List.getElem_range]
  by_cases e : n = i
  · subst e; simp
  · rw [if_neg e]
    by_cases h : i < n
    · rw [if_pos h, if_pos (by omega)]
    · rw [if_neg h, if_neg (by omega)]

set_option maxRecDepth 100000 in
set_option maxHeartbeats 3200000 in
theorem tk_gotos {w0 w : World} {d : TkA} {v : TkV} {G : Wy → Option Value} {ng : Nat} {st : LS} {k : Nat} {Z : Nat → Int} (h : TkM w0 w d v G ng st) (hN : d.N ≤ 12) (hN1 : 1 ≤ d.N) (hk : k ≤ 1000) (hng : ng ≤ 10000000) (hZ : ∀ n, n < d.N → Says G (k, (false, (n : Int))) (Z n)) :
    Calls Try.prog 57 #[.pointer (some ⟨d.ma, 0, none⟩), .int .i64 k] w fun e w' => ∃ g, e = .returned (.slice (some ⟨g, 0, none⟩) d.N d.N) ∧ RowI w' w.heap.size g d.N ((List.range d.N).map Z) ∧ Below w.heap.size w w' := by
  have c1 := (h.cell (i := 1) rfl (by omega)).1
  have HM : Hid (TkM w0 w d v G ng st) := h
  have HZ : Hid (∀ n, n < d.N → Says G (k, (false, (n : Int))) (Z n)) := hZ
  have mkN := make_ints d.N (by omega)
  have HR0 : Hid (RowI (w.alloc (.cells (madeCells #[.int .i64 0] d.N) 3)) w.heap.size w.heap.size d.N ((List.range d.N).map fun j => if j < 0 then Z j else 0)) := by
    have := rowI_made w (N := d.N) (by unfold maxLen; omega)
    have e : ((List.range d.N).map fun j => if j < 0 then Z j else 0) = List.replicate d.N 0 := by
      apply List.ext_getElem (by simp)
      intro i h1 h2
      simp
    show RowI _ _ _ _ _
    rw [e]; exact this
  have HB0 : Hid (Below w.heap.size w (w.alloc (.cells (madeCells #[.int .i64 0] d.N) 3))) := (Below.refl _ _).alloc (Nat.le_refl _) _
  clear h hZ
  go_enter Try.func57, Try.ntmps57
  go_wp2_with fail
  clear mkN c1
  generalize w.alloc (.cells (madeCells #[.int .i64 0] d.N) 3) = W1 at HR0 HB0 ⊢
  obtain ⟨g, hg⟩ : ∃ g, w.heap.size = g := ⟨_, rfl⟩
  have HGB : Hid (w.heap.size = g) := hg
  rw [show (Value.slice (some { block := w.heap.size, off := 0 }) d.N d.N) = (Value.slice (some { block := g, off := 0 }) d.N d.N) by rw [hg]]
  rw [show RowI W1 w.heap.size w.heap.size d.N ((List.range d.N).map fun j => if j < 0 then Z j else 0) = RowI W1 w.heap.size g d.N ((List.range d.N).map fun j => if j < 0 then Z j else 0) by rw [hg]] at HR0
  clear hg
  go_loopw [15] (fun s15 wr => ∃ n : Nat, s15 = .int .i64 n ∧ n ≤ d.N ∧ RowI wr w.heap.size g d.N ((List.range d.N).map fun j => if j < n then Z j else 0) ∧ Below w.heap.size w wr) (fun s _ => d.N - (intOf s).toNat)
  case atStart => exact ⟨0, rfl, Nat.zero_le _, HR0.out, HB0.out⟩
  case round =>
    obtain ⟨n, rfl, hn, hR, hB⟩ := hrel
    have HR : Hid (RowI wr w.heap.size g d.N ((List.range d.N).map fun j => if j < n then Z j else 0)) := hR
    have HB : Hid (Below w.heap.size w wr) := hB
    by_cases hlt : n < d.N
    · have got := tk_goesTo (HM.out.below hB) hk (sb := false) (sv := (n : Int)) (by omega) (by omega) hng (HZ.out n hlt)
      obtain ⟨z, hz⟩ : ∃ z, Z n = z := ⟨_, rfl⟩
      rw [hz] at got
      have HZn : Hid (Z n = z) := hz
      have hgl : g < wr.heap.size := (World.ownsRow.lt hR g rfl).2
      obtain ⟨x0, xf⟩ := hR.cell hlt
      have HS := rowI_set (N := d.N) (n := n) (Z := Z)
      have i0 : (0 : Int) ≤ (n : Int) := Int.natCast_nonneg _
      have i1 : (n : Int) < (d.N : Int) := by omega
      have HS' : Hid (((List.range d.N).map fun j => if j < n then Z j else 0).set n z = (List.range d.N).map fun j => if j < n + 1 then Z j else 0) := by rw [← hz]; exact HS
      obtain ⟨y, hy⟩ : ∃ y, ((List.range d.N).map fun j => if j < n then Z j else 0).getD n 0 = y := ⟨_, rfl⟩
      rw [hy] at x0
      clear hR hB hz HS hy
      go_wp2_with
        (go_at_call 69; refine got.mono ?_; rintro e w2 ⟨rfl, hB2⟩
         have x2 := (hB2.cell (p := ⟨g, n, none⟩) hgl).trans x0
         have f2 := (hB2.frozen (p := ⟨g, n, none⟩) hgl).trans xf
         have HR2 : Hid (RowI w2 w.heap.size g d.N ((List.range d.N).map fun j => if j < n then Z j else 0)) := HR.out.below hB2
         have HB2 : Hid (Below w.heap.size w w2) := HB.out.trans (hB2.mono HB.out.size)
         clear hB2)
      go_roundw
      case rel => exact ⟨n + 1, by go_num, by omega, by rw [← HS'.out]; exact HR2.out.set n z, HB2.out.setCell (by simp only; have := HGB.out; omega) _⟩
      case measure => simp [intOf]; omega
    · obtain rfl : n = d.N := by omega
      have HE : Hid (((List.range d.N).map fun j => if j < d.N then Z j else 0) = (List.range d.N).map Z) := List.map_congr_left fun j hj => by rw [if_pos (List.mem_range.1 hj)]
      clear hR hB
      go_wp2_with fail
      go_ret
      exact ⟨g, rfl, by rw [← HE.out]; exact HR.out, HB.out⟩

/-! ### The cells of a state, while they are made -/

inductive CxI where
  | cl
  | rl (n : Nat)
  deriving DecidableEq

def flatF (vr : Nat → Value) (f : Nat → Ce) (M : Nat) : List Value := (List.range M).flatMap fun n => [.int .i64 (f n).1, vr n, .bool (f n).2.2]
theorem flatF_len (vr : Nat → Value) (f : Nat → Ce) (M : Nat) : (flatF vr f M).length = M * 3 := by
  induction M with
  | zero => rfl
  | succ m ih =>
    unfold flatF at ih ⊢
    rw [List.range_succ, List.flatMap_append, List.length_append, ih]; simp; omega
theorem flatF_get {vr : Nat → Value} {f : Nat → Ce} {M i o : Nat} (hi : i < M) (ho : o < 3) : (flatF vr f M)[i * 3 + o]? = [Value.int .i64 (f i).1, vr i, .bool (f i).2.2][o]? := by
  induction M with
  | zero => omega
  | succ m ih =>
    have e : flatF vr f (m + 1) = flatF vr f m ++ [.int .i64 (f m).1, vr m, .bool (f m).2.2] := by unfold flatF; rw [List.range_succ, List.flatMap_append]; simp
    rw [e]
    rcases Nat.lt_succ_iff_lt_or_eq.1 hi with h | rfl
    · rw [List.getElem?_append_left (by rw [flatF_len]; omega)]
      exact ih h
    · rw [List.getElem?_append_right (by rw [flatF_len]; omega), flatF_len]
      simp
theorem flatF_set {vr vr' : Nat → Value} {f f' : Nat → Ce} {M n o : Nat} {u : Value} (ho : o < 3) (hother : ∀ i, i ≠ n → vr' i = vr i ∧ f' i = f i) (hat : [Value.int .i64 (f' n).1, vr' n, .bool (f' n).2.2] = [Value.int .i64 (f n).1, vr n, .bool (f n).2.2].set o u) :
    (flatF vr f M).set (n * 3 + o) u = flatF vr' f' M := by
  apply List.ext_getElem?
  intro t
  by_cases ht : t < M * 3
  · have hi : t / 3 < M := by omega
    have hr : t % 3 < 3 := by omega
    have et : t = t / 3 * 3 + t % 3 := by omega
    have h2 := flatF_get (vr := vr') (f := f') hi hr
    rw [← et] at h2
    rw [h2, List.getElem?_set]
    by_cases e : n * 3 + o = t
    · have e1 : t / 3 = n := by omega
      have e2 : t % 3 = o := by omega
      rw [if_pos e, if_pos (by rw [flatF_len]; omega), e1, e2, hat, List.getElem?_set_self (by simpa using ho)]
    · rw [if_neg e]
      have h1 := flatF_get (vr := vr) (f := f) hi hr
      rw [← et] at h1
      rw [h1]
      by_cases e1 : t / 3 = n
      · have e2 : o ≠ t % 3 := by omega
        rw [e1, hat, List.getElem?_set_ne e2]
      · obtain ⟨a, b⟩ := hother _ e1
        rw [a, b]
  · rw [List.getElem?_eq_none (by rw [List.length_set, flatF_len]; omega), List.getElem?_eq_none (by rw [flatF_len]; omega)]

def Pcl (cg : Nat) (vr : Nat → Value) (f : Nat → Ce) (M : Nat) : CxI → Option Row
  | .cl => some ⟨.slice (some ⟨cg, 0, none⟩) M M, 65, 3, M, flatF vr f M⟩
  | .rl n => if n < M then some ⟨vr n, 3, 1, (f n).2.1.length, (f n).2.1.map (Value.int .i64)⟩ else none

def updF {α : Type} (f : Nat → α) (n : Nat) (c : α) : Nat → α := fun i => if i = n then c else f i
def putC (R : List Ru) (r : Nat) (c : Ce) : Ce := if r = R.length then (c.1, c.2.1, true) else (c.1, c.2.1 ++ [(r : Int)], c.2.2)

section
variable {w w' : World} {B cg M n : Nat} {vr : Nat → Value} {f : Nat → Ce}

theorem pcl_cell (h : Owns w B (Pcl cg vr f M)) (hn : n < M) : w.cell? ⟨cg, n * 3, none⟩ = some (.int .i64 (f n).1) ∧ w.cell? ⟨cg, n * 3 + 1, none⟩ = some (vr n) ∧ w.cell? ⟨cg, n * 3 + 2, none⟩ = some (.bool (f n).2.2) ∧ (∀ o, w.frozen? ⟨cg, o, none⟩ = false) ∧ B ≤ cg ∧ cg < w.heap.size := by
  have hr : w.ownsRow B 65 3 (.slice (some ⟨cg, 0, none⟩) M M) M (flatF vr f M) := h.own .cl _ rfl
  refine ⟨?_, ?_, ?_, fun o => hr.frozenAt o, (hr.lt cg rfl).1, (hr.lt cg rfl).2⟩
  · rw [hr.cellAt _ (by omega)]; exact flatF_get (o := 0) hn (by omega)
  · rw [hr.cellAt _ (by omega)]; exact flatF_get (o := 1) hn (by omega)
  · rw [hr.cellAt _ (by omega)]; exact flatF_get (o := 2) hn (by omega)
theorem pcl_rules (h : Owns w B (Pcl cg vr f M)) (hn : n < M) : w.ownsRow B 3 1 (vr n) (f n).2.1.length ((f n).2.1.map (Value.int .i64)) := h.own (.rl n) ⟨vr n, 3, 1, (f n).2.1.length, (f n).2.1.map (Value.int .i64)⟩ (by simp [Pcl, hn])

theorem pcl_store (h : Owns w B (Pcl cg vr f M)) (hn : n < M) {o : Nat} (ho : o < 3) {u : Value} {c : Ce} (hr : c.2.1 = (f n).2.1) (hat : [Value.int .i64 c.1, vr n, .bool c.2.2] = [Value.int .i64 (f n).1, vr n, .bool (f n).2.2].set o u) : Owns (w.setCell ⟨cg, n * 3 + o, none⟩ u) B (Pcl cg vr (updF f n c) M) := by
  have h1 := h.store (i := .cl) (g := cg) (n := M) (cap := M) (e := 65) (size := 3) (xs := flatF vr f M) rfl (n * 3 + o) u
  have e : upd (Pcl cg vr f M) .cl ⟨.slice (some ⟨cg, 0, none⟩) M M, 65, 3, M, (flatF vr f M).set (n * 3 + o) u⟩ = Pcl cg vr (updF f n c) M := by
    rw [flatF_set (f' := updF f n c) (vr' := vr) ho (fun i hi => ⟨rfl, by simp [updF, hi]⟩) (by simp only [updF, if_true]; exact hat)]
    funext i
    cases i with
    | cl => simp [upd, Pcl]
    | rl i =>
      by_cases hi : i = n
      · subst hi; simp [upd, Pcl, updF, hr]
      · simp [upd, Pcl, updF, hi]
  rwa [e] at h1

/-- A rule more in a cell. -/
theorem pcl_rule (h : Owns w B (Pcl cg vr f M)) (hn : n < M) {nv : Value} {r : Int} (hg : w.grownBy w' (vr n).ownBlock) (ho : w'.ownsRow B 3 1 nv ((f n).2.1.length + 1) ((f n).2.1.map (Value.int .i64) ++ [.int .i64 r])) (hat : ∀ g, nv.ownBlock = some g → (vr n).ownBlock = some g ∨ g = w.heap.size) :
    Owns (w'.setCell ⟨cg, n * 3 + 1, none⟩ nv) B (Pcl cg (updF vr n nv) (updF f n ((f n).1, (f n).2.1 ++ [r], (f n).2.2)) M) := by
  have h1 := h.turn (i := .rl n) (r := ⟨vr n, 3, 1, (f n).2.1.length, (f n).2.1.map (Value.int .i64)⟩) (r' := ⟨nv, 3, 1, (f n).2.1.length + 1, (f n).2.1.map (Value.int .i64) ++ [.int .i64 r]⟩) (by simp [Pcl, hn]) hg ho hat
  have h2 := h1.store (i := .cl) (g := cg) (n := M) (cap := M) (e := 65) (size := 3) (xs := flatF vr f M) (by simp [upd, Pcl]) (n * 3 + 1) nv
  have e : upd (upd (Pcl cg vr f M) (.rl n) ⟨nv, 3, 1, (f n).2.1.length + 1, (f n).2.1.map (Value.int .i64) ++ [.int .i64 r]⟩) .cl ⟨.slice (some ⟨cg, 0, none⟩) M M, 65, 3, M, (flatF vr f M).set (n * 3 + 1) nv⟩ = Pcl cg (updF vr n nv) (updF f n ((f n).1, (f n).2.1 ++ [r], (f n).2.2)) M := by
    rw [flatF_set (f' := updF f n ((f n).1, (f n).2.1 ++ [r], (f n).2.2)) (vr' := updF vr n nv) (by omega) (fun i hi => ⟨by simp [updF, hi], by simp [updF, hi]⟩) (by simp [updF])]
    funext i
    cases i with
    | cl => simp [upd, Pcl]
    | rl i =>
      by_cases hi : i = n
      · subst hi; simp [upd, Pcl, updF, hn]
      · simp [upd, Pcl, updF, hi]
  rwa [e] at h2
end

set_option maxRecDepth 100000 in
set_option maxHeartbeats 3200000 in
theorem tk_put {w : World} {lim ab T N B cg M n r : Nat} {rv : Value} {R : List Ru} {vr : Nat → Value} {f : Nat → Ce} (hA : AutoG w lim ab T N rv R) (hO : Owns w B (Pcl cg vr f M)) (hB : B ≤ w.heap.size) (hn : n < M) (hl : (f n).2.1.length ≤ 1000) :
    Calls Try.prog 71 #[.pointer (some ⟨ab, 0, none⟩), .pointer (some ⟨cg, n * 3, none⟩), .int .i64 r] w fun e w' => e = .returned (.tuple #[]) ∧ ∃ vr', Owns w' B (Pcl cg vr' (updF f n (putC R r (f n))) M) ∧ (∀ i g, (vr' i).ownBlock = some g → (vr i).ownBlock = some g ∨ w.heap.size ≤ g) ∧ Kept (fun b => b = cg ∨ (vr n).ownBlock = some b) w w' := by
  have abv := tk_above hA
  obtain ⟨c0, c1, c2, cf, hcB, hcl⟩ := pcl_cell hO hn
  have HO : Hid (Owns w B (Pcl cg vr f M)) := hO
  have hrl := pcl_rules hO hn
  by_cases hr : r = R.length
  · subst hr
    have HP : Hid (putC R R.length (f n) = ((f n).1, (f n).2.1, true)) := by show putC R R.length (f n) = _; simp [putC]
    have f2 := cf (n * 3 + 2)
    have e1 : ((R.length : Int) == (R.length : Int)) = true := by simp
    clear hA hO hrl c0 c1 cf
    go_enter Try.func71, Try.ntmps71
    go_wp2_with (go_at_call 50; refine abv.mono ?_; rintro e w1 ⟨rfl, rfl⟩)
    refine bodyPost_ret (v := .tuple #[]) (results_none Try.results71 _ _ _) rfl ?_
    refine ⟨rfl, vr, ?_, fun i g hg => .inl hg, (Kept.refl _ _).setCell (.inl rfl) _⟩
    rw [HP.out]
    exact pcl_store HO.out hn (by omega) rfl (by simp)
  · have HP : Hid (putC R r (f n) = ((f n).1, (f n).2.1 ++ [(r : Int)], (f n).2.2)) := by show putC R r (f n) = _; simp [putC, hr]
    have e1 : ((r : Int) == (R.length : Int)) = false := by simpa using fun h => hr (by omega)
    have f1 := cf (n * 3 + 1)
    obtain ⟨ra, rc, hrv⟩ := own_form hrl
    have own5 := hrl.alloc (.cells #[.int .i64 r] 3)
    rw [hrv] at c1 own5
    have HRV : Hid (vr n = .slice ra (f n).2.1.length rc) := hrv
    have hnw5 := World.news_of_block (cs := #[.int .i64 r]) (t := 3) (fr := (0, 0)) (heap_alloc_new w (.cells #[.int .i64 r] 3))
    have hne : some cg ≠ (Value.slice ra (f n).2.1.length rc).ownBlock := fun e => hO.apart .cl (.rl n) _ ⟨vr n, 3, 1, (f n).2.1.length, (f n).2.1.map (Value.int .i64)⟩ (by simp) rfl (by simp [Pcl, hn]) cg rfl (by show (vr n).ownBlock = _; rw [hrv]; exact e.symm)
    have HRB : Hid (∀ g, (Value.slice ra (f n).2.1.length rc).ownBlock = some g → B ≤ g) := fun g hg => by rw [← hrv] at hg; exact (hrl.lt g hg).1
    obtain ⟨p, hp⟩ : ∃ p, (f n).2.1.length = p := ⟨_, rfl⟩
    rw [hp] at c1 own5 hne HRV HRB hl
    have HPp : Hid ((f n).2.1.length = p) := hp
    have n1 : p + 1 ≤ maxLen := by unfold maxLen; omega
    have n2 : (p + 1) * 8 ≤ 140737488355328 := by omega
    obtain ⟨i0, hi0, hz0, hz1, hz2⟩ := info_parts Try.infoInt
    have c1' : (w.alloc (.cells #[.int .i64 r] 3)).cell? ⟨cg, n * 3 + 1, none⟩ = some (.slice ra p rc) := (World.cell?_alloc_past _ _ _ hcl).trans c1
    have f1' : (w.alloc (.cells #[.int .i64 r] 3)).frozen? ⟨cg, n * 3 + 1, none⟩ = false := (((Below.refl _ w).alloc (Nat.le_refl _) _).frozen (p := ⟨cg, n * 3 + 1, none⟩) hcl).trans f1
    clear hA hO hrl c0 c2 cf hrv hp
    go_enter Try.func71, Try.ntmps71
    go_wp2_with
      (first
       | (go_at_call 50; refine abv.mono ?_; rintro e w1 ⟨rfl, rfl⟩)
       | (at_builtin
          (refine wpList_append_lies _ rfl _ _ _ rfl B 3 i0 _ 1 8 Try.underlying25 hi0 hz0 hz1 hz2 rfl (by omega) (.slice ra p rc) p ((f n).2.1.map (Value.int .i64)) rfl own5 ⟨w1.heap.size, 0, none⟩ 1 1 [.int .i64 r] rfl rfl hnw5 (by simp [Value.oneCell']) (by omega) n1 n2 (by simp; omega) (w1.heap.size + 1) (by simp) ?_)
          intro g6 cap6 w6 hown6 hgrow6 hat6 hlt6
          have c6 := (hgrow6.cell_far ⟨cg, n * 3 + 1, none⟩ (by simp; omega) hne).trans c1'
          have f6 := (hgrow6.frozen_far ⟨cg, n * 3 + 1, none⟩ (by simp; omega) hne).trans f1'))
    go_end0
    have hal : Owns (w1.alloc (.cells #[.int .i64 r] 3)) B (Pcl cg vr f M) := HO.out.alloc _
    have hfin := pcl_rule (r := (r : Int)) (nv := .slice (some ⟨g6, 0, none⟩) (p + 1) cap6) hal hn (by rw [HRV.out]; exact hgrow6) (by rw [HPp.out]; exact hown6) (fun g' hg' => by
      obtain rfl : g6 = g' := by simpa [Value.ownBlock] using hg'
      rw [HRV.out]
      simpa using hat6)
    refine ⟨rfl, _, by rw [HP.out]; exact hfin, fun i g hg => ?_, ?_⟩
    · unfold updF at hg
      split at hg
      · rename_i e
        subst e
        obtain rfl : g6 = g := by simpa [Value.ownBlock] using hg
        rw [HRV.out]
        rcases hat6 with h5 | h5
        · exact .inl h5
        · exact .inr (by omega)
      · exact .inl hg
    · have k1 : Kept (fun b => b = cg ∨ (vr n).ownBlock = some b) w1 (w1.alloc (.cells #[.int .i64 r] 3)) := (Kept.refl _ _).alloc _
      have k2 : Kept (fun b => b = cg ∨ (vr n).ownBlock = some b) (w1.alloc (.cells #[.int .i64 r] 3)) w6 := ⟨hgrow6.os, hgrow6.tape, hgrow6.output, hgrow6.size, fun b hb hK => hgrow6.block b hb fun e => hK (.inr (by rw [HRV.out]; exact e.symm))⟩
      exact (k1.trans k2).setCell (.inl rfl) _

end Go.Proofs.Ytobegekmgoiopaa
