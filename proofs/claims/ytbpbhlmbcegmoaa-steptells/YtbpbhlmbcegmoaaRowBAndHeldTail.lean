import Derived.Test.YtbpbhlmbcegmoaaMathAndMayFine
import Derived.Deep.RegionHeld3
/- A row of truths that a call has made; tables of such rows. No walk. -/
namespace Go.Proofs.Ytbpbhlmbcegmoaa
open Go.RowKit

theorem Try.infoBool : (Try.prog.info? 4).map (fun i => (i.zero, i.size, i.bytes)) = some (some (.bool false), 1, 1) := by kernel_rfl

theorem make_bools (n : Nat) (hn : n ≤ 1000000) (u : World) : (Instr.makeSlice 52 (.int .i64 n) (.int .i64 n)).run Try.prog u = .ok (.slice (some ⟨u.heap.size, 0, none⟩) n n) (u.alloc (.cells (madeCells #[.bool false] n) 4)) := by
  obtain ⟨i0, hi, hz0, hz1, hz2⟩ := info_parts Try.infoBool
  have h := run_make (P := Try.prog) u 52 4 i0 (.bool false) Try.underlying52 hi hz0 .i64 .i64 n n (by omega) (Int.le_refl _) (by rw [hz2]; omega) (by omega)
  simpa [hz1, Value.cells] using h

/-- A row of N truths of the call's own, at block g. -/
def RowB (w : World) (B g N : Nat) (X : List Bool) : Prop := w.ownsRow B 4 1 (.slice (some ⟨g, 0, none⟩) N N) N (X.map Value.bool)

section
variable {w : World} {B g N : Nat} {X : List Bool}
theorem RowB.len (h : RowB w B g N X) : X.length = N := by
  have : (X.map Value.bool).length = N * 1 := h.1
  simpa using this
theorem RowB.cell (h : RowB w B g N X) {m : Nat} (hm : m < N) : w.cell? ⟨g, m, none⟩ = some (.bool (X.getD m false)) ∧ w.frozen? ⟨g, m, none⟩ = false := by
  have hl := h.len
  refine ⟨?_, World.ownsRow.frozenAt h m⟩
  rw [World.ownsRow.cellAt h m (by omega)]
  simp [List.getD, show m < X.length by omega]
theorem RowB.set (h : RowB w B g N X) (m : Nat) (v : Bool) : RowB (w.setCell ⟨g, m, none⟩ (.bool v)) B g N (X.set m v) := by
  have := (World.ownsRow.stored h m (.bool v)).1
  unfold RowB
  rwa [List.map_set]
theorem RowB.ge (h : RowB w B g N X) : N ≠ 0 → B ≤ g := fun hN => by
  obtain ⟨g', c, e, h1, _⟩ := World.ownsRow.form h (by omega)
  cases e
  exact h1
end

theorem row_made (w : World) {N : Nat} (hN : N ≤ maxLen) : RowB (w.alloc (.cells (madeCells #[.bool false] N) 4)) w.heap.size w.heap.size N (List.replicate N false) := by
  have := World.ownsRow_lit (base := w.heap.size) (e := 4) (size := 1) w (madeCells #[.bool false] N) N (Nat.le_refl _) hN (by simp [size_madeCells])
  rw [toList_madeCells_one] at this
  unfold RowB
  simpa using this

theorem RowB.below {w w' : World} {B g N : Nat} {X : List Bool} (h : RowB w B g N X) (hb : Below w.heap.size w w') : RowB w' B g N X := own_below h hb fun k hk => (World.ownsRow.lt h k hk).2
theorem RowB.mono {w : World} {B B' g N : Nat} {X : List Bool} (h : RowB w B g N X) (hB : B' ≤ B) : RowB w B' g N X := own_mono h hB

theorem row_made_set (w : World) {N : Nat} (hN : N ≤ maxLen) (m : Nat) (x : Bool) : RowB (w.alloc (.cells ((madeCells #[.bool false] N).setIfInBounds m (.bool x)) 4)) w.heap.size w.heap.size N ((List.replicate N false).set m x) := by
  have := World.ownsRow_lit (base := w.heap.size) (e := 4) (size := 1) w ((madeCells #[.bool false] N).setIfInBounds m (.bool x)) N (Nat.le_refl _) hN (by simp [size_madeCells])
  rw [Array.toList_setIfInBounds, toList_madeCells_one] at this
  unfold RowB
  rw [List.map_set]
  simpa using this

section
variable {ι : Type} {w w' : World} {B : Nat} {c c' : Tab ι} {X X' : ι → List Bool}

theorem bt_none (w : World) (B : Nat) {c : Tab ι} {X : ι → List Bool} (h : ∀ i, c.dom i = none) : Bt w B c X :=
  ⟨fun i r hr => by simp [Tab.P, h i] at hr, fun i j a b _ ha => by simp [Tab.P, h i] at ha⟩

/-- A new row, behind all others. -/
theorem bt_add (i : ι) {n : Nat} (h : Bt w B c X) (hb : Below w.heap.size w w') (hd : c'.dom i = some n) (hrow : w'.ownsRow B 4 1 (c'.V i) n ((X' i).map Value.bool)) (hnew : ∀ g, (c'.V i).ownBlock = some g → w.heap.size ≤ g)
    (he : ∀ j, j ≠ i → ∀ m, c'.dom j = some m → c.dom j = some m ∧ c'.V j = c.V j ∧ X' j = X j) : Bt w' B c' X' := by
  have old : ∀ j r, j ≠ i → c'.P X' j = some r → c.P X j = some r := fun j r hj hr => by
    cases hm : c'.dom j with
    | none => simp [Tab.P, hm] at hr
    | some m =>
      obtain ⟨h1, h2, h3⟩ := he j hj m hm
      simp only [Tab.P, hm, h1, Option.map_some, h2, h3] at hr ⊢
      exact hr
  have new : ∀ r, c'.P X' i = some r → r = ⟨c'.V i, 4, 1, n, (X' i).map Value.bool⟩ := fun r hr => by
    rw [Tab.P_some hd] at hr
    exact (Option.some.inj hr).symm
  have hO := Owns.below h hb (Nat.le_refl _)
  refine ⟨fun j r hr => ?_, fun j k a b hjk ha hb' g h1 h2 => ?_⟩
  · by_cases hj : j = i
    · subst hj
      rw [new r hr]
      exact hrow
    · exact hO.own j r (old j r hj hr)
  · by_cases hj : j = i
    · subst hj
      have hk : k ≠ j := fun e => hjk e.symm
      rw [new a ha] at h1
      have := hnew g h1
      have := (Owns.lt h (old k b hk hb') h2).2
      omega
    · by_cases hk : k = i
      · subst hk
        rw [new b hb'] at h2
        have := hnew g h2
        have := (Owns.lt h (old j a hj ha) h1).2
        omega
      · exact Owns.apart h j k a b hjk (old j a hj ha) (old k b hk hb') g h1 h2
end

end Go.Proofs.Ytbpbhlmbcegmoaa

/- The contracts of pollardingref3.all and pollardingref3.Makes. -/
namespace Go.Proofs.Ytbpbhlmbcegmoaa
open Go.RowKit

set_option maxRecDepth 100000 in
set_option maxHeartbeats 1600000 in
theorem all3_any {w : World} {v lv : Value} {X : List Bool} {l : List Sy} (hX : BoolsAt w v X) (hl : SymsAt w lv l) (hin : ∀ s ∈ l, s.1 = false → 0 ≤ s.2 ∧ s.2 < (X.length : Int)) (h8 : l.length ≤ 1000) :
    Calls Try.prog 25 #[lv, v] w fun e w' => e = .returned (.bool (allB X l)) ∧ w' = w := by
  obtain ⟨va, vc, hv⟩ := hX.1
  obtain ⟨la, lc, hlv, _⟩ := hl.1
  have HX : Hid (BoolsAt w v X) := hX
  have HL : Hid (SymsAt w lv l) := hl
  have HI : Hid (∀ s ∈ l, s.1 = false → 0 ≤ s.2 ∧ s.2 < (X.length : Int)) := hin
  clear hX hl hin
  subst hv
  subst hlv
  go_enter Try.func25, Try.ntmps25
  go_wp2_with fail
  go_loopw [5] (fun k wr => ∃ i : Nat, k = .int .i64 i ∧ i ≤ l.length ∧ allB X (l.take i) = true ∧ wr = w) (fun k _ => l.length - (intOf k).toNat)
  case atStart => exact ⟨0, rfl, Nat.zero_le _, rfl, rfl⟩
  case round =>
    obtain ⟨i, rfl, hi, hn, rfl⟩ := hrel
    have HN : Hid (allB X (l.take i) = true) := hn
    clear hn
    by_cases hlt : i < l.length
    · obtain ⟨b, o, c, hv, k1, k2⟩ := HL.out.2 i hlt
      simp only [Value.slice.injEq, true_and] at hv
      obtain ⟨rfl, rfl⟩ := hv
      have hmem : l.getD i (false, 0) ∈ l := by simp [List.getD, hlt]
      have hr := HI.out _ hmem
      obtain ⟨⟨t, v⟩, hs⟩ : ∃ x, l.getD i (false, 0) = x := ⟨_, rfl⟩
      have HT := allB_take X l i hlt
      have HB := allB_bad X l i hlt
      rw [hs] at k1 k2 hr HT HB
      rw [HN.out, Bool.true_and] at HT
      have HT' : Hid (allB X (l.take (i + 1)) = (t || X.getD v.toNat false)) := HT
      have HB' : Hid ((t || X.getD v.toNat false) = false → allB X l = false) := HB
      have j0 : (0 : Int) ≤ (i : Int) := Int.natCast_nonneg _
      have j1 : (i : Int) < (l.length : Int) := by omega
      clear hs hmem HT HB
      cases t with
      | true =>
        go_wp2_with fail
        go_roundw
        case rel => exact ⟨i + 1, by go_num, by omega, by rw [HT'.out]; rfl, trivial⟩
        case measure => simp [intOf]; omega
      | false =>
        have hr' : 0 ≤ v ∧ v < (X.length : Int) := hr rfl
        clear hr
        obtain ⟨y, rfl⟩ : ∃ y : Nat, v = y := ⟨v.toNat, by omega⟩
        obtain ⟨g, o2, c', hv, k3⟩ := HX.out.2 y (by omega)
        simp only [Value.slice.injEq, true_and] at hv
        obtain ⟨rfl, rfl⟩ := hv
        have j2 : (0 : Int) ≤ (y : Int) := Int.natCast_nonneg _
        have j3 : (y : Int) < (X.length : Int) := by omega
        obtain ⟨z, hz⟩ : ∃ z, X.getD y false = z := ⟨_, rfl⟩
        rw [hz] at k3
        simp only [Int.toNat_natCast, hz] at HT' HB'
        clear hz hr'
        cases z with
        | true =>
          go_wp2_with fail
          go_roundw
          case rel => exact ⟨i + 1, by go_num, by omega, by rw [HT'.out]; rfl, trivial⟩
          case measure => simp [intOf]; omega
        | false =>
          go_wp2_with fail
          go_ret
          exact ⟨by rw [HB'.out (by simp)]; rfl, rfl⟩
    · go_wp2_with fail
      go_ret
      exact ⟨by rw [← HN.out, List.take_of_length_le (by omega)]; rfl, rfl⟩

theorem RowB.bools {w : World} {B g N : Nat} {X : List Bool} (h : RowB w B g N X) : BoolsAt w (.slice (some ⟨g, 0, none⟩) N N) X := by
  have hl := h.len
  refine ⟨⟨_, _, by rw [hl]⟩, fun i hi => ⟨g, 0, N, by rw [hl], ?_⟩⟩
  rw [Nat.zero_add]
  exact (h.cell (by omega)).1

def makesS (R : List Ru) (i : Nat) (X : List Bool) : List Bool := if allB X (R.getD i (0, [])).2 then X.set (R.getD i (0, [])).1.toNat true else X
def makesA (R : List Ru) (N : Nat) : List Bool := loopN N (fun _ => loopN R.length (makesS R)) (List.replicate N false)

set_option maxRecDepth 100000 in
set_option maxHeartbeats 3200000 in
theorem makes3_any {w : World} {T N : Nat} {rv : Value} {R : List Ru} (hr : RulesAt w w.heap.size rv R) (hm : mayB T N R = true) :
    Calls Try.prog 17 #[.agg #[.int .i64 T, .int .i64 N, rv]] w fun e w' => e = .returned (.slice (some ⟨w.heap.size + 1, 0, none⟩) N N) ∧ Below w.heap.size w w' ∧ RowB w' (w.heap.size + 1) (w.heap.size + 1) N (makesA R N) := by
  obtain ⟨hT, hN1, hN, hRl, hfine⟩ := may_fine hm
  have HM : Hid (∀ i, i < R.length → 0 ≤ (R.getD i (0, [])).1 ∧ (R.getD i (0, [])).1 < (N : Int) ∧ (R.getD i (0, [])).2.length ≤ 8 ∧
      ∀ s ∈ (R.getD i (0, [])).2, 0 ≤ s.2 ∧ s.2 < if s.1 then (T : Int) else (N : Int)) := hfine
  have HR : Hid (RulesAt w w.heap.size rv R) := hr
  obtain ⟨ra, rc, rfl⟩ := hr.1
  clear hr hm hfine
  have mkN := make_bools N (by omega)
  have hrow := row_made (w.alloc (.cells #[.int .i64 T, .int .i64 N, .slice ra R.length rc] 24)) (N := N) (by unfold maxLen; omega)
  simp only [World.size_alloc] at hrow
  have HRow : Hid (RowB ((w.alloc (.cells #[.int .i64 T, .int .i64 N, .slice ra R.length rc] 24)).alloc (.cells (madeCells #[.bool false] N) 4)) (w.heap.size + 1) (w.heap.size + 1) N (List.replicate N false)) := hrow
  clear hrow
  go_enter Try.func17, Try.ntmps17
  go_wp2_with fail
  clear mkN
  have boxes : ∀ wr, Below (w.heap.size + 1) (w.alloc (.cells #[.int .i64 T, .int .i64 N, .slice ra R.length rc] 24)) wr → Below w.heap.size w wr ∧ wr.cell? ⟨w.heap.size, 1, none⟩ = some (.int .i64 N) ∧ wr.cell? ⟨w.heap.size, 2, none⟩ = some (.slice ra R.length rc) := fun wr hB =>
    ⟨((Below.refl _ _).alloc (Nat.le_refl _) _).trans (hB.mono (by omega)), (hB.cell (by simp)).trans (by simp [go_sem]), (hB.cell (by simp)).trans (by simp [go_sem])⟩
  have HBX : Hid (∀ wr, Below (w.heap.size + 1) (w.alloc (.cells #[.int .i64 T, .int .i64 N, .slice ra R.length rc] 24)) wr → Below w.heap.size w wr ∧ wr.cell? ⟨w.heap.size, 1, none⟩ = some (.int .i64 N) ∧ wr.cell? ⟨w.heap.size, 2, none⟩ = some (.slice ra R.length rc)) := boxes
  clear boxes
  go_loopw [4] (fun i wr => ∃ m : Nat, i = .int .i64 m ∧ m ≤ N ∧ Below (w.heap.size + 1) (w.alloc (.cells #[.int .i64 T, .int .i64 N, .slice ra R.length rc] 24)) wr ∧ RowB wr (w.heap.size + 1) (w.heap.size + 1) N (loopN m (fun _ => loopN R.length (makesS R)) (List.replicate N false)))
    (fun i _ => N - (intOf i).toNat)
  case atStart => exact ⟨0, rfl, Nat.zero_le _, (Below.refl _ _).alloc (by simp) _, HRow.out⟩
  case round =>
    obtain ⟨m, rfl, hmN, hB, hrow⟩ := hrel
    obtain ⟨X0, hX0⟩ : ∃ X, loopN m (fun _ => loopN R.length (makesS R)) (List.replicate N false) = X := ⟨_, rfl⟩
    rw [hX0] at hrow
    have HX0 : Hid (loopN m (fun _ => loopN R.length (makesS R)) (List.replicate N false) = X0) := hX0
    have HB : Hid (Below (w.heap.size + 1) (w.alloc (.cells #[.int .i64 T, .int .i64 N, .slice ra R.length rc] 24)) wr) := hB
    have HW : Hid (RowB wr (w.heap.size + 1) (w.heap.size + 1) N X0) := hrow
    obtain ⟨_, b1, b2⟩ := HBX.out wr hB
    clear hX0 hB hrow
    by_cases hlt : m < N
    · go_wp2_with fail
      clear b1 b2
      go_loopw [5] (fun i wq => ∃ j : Nat, i = .int .i64 j ∧ j ≤ R.length ∧ Below (w.heap.size + 1) (w.alloc (.cells #[.int .i64 T, .int .i64 N, .slice ra R.length rc] 24)) wq ∧ RowB wq (w.heap.size + 1) (w.heap.size + 1) N (loopN j (makesS R) X0))
        (fun i _ => R.length - (intOf i).toNat)
      case atStart => exact ⟨0, rfl, Nat.zero_le _, HB.out, HW.out⟩
      case round =>
        clear HB HW
        obtain ⟨j, rfl, hj, hB, hrow⟩ := hrel
        obtain ⟨X1, hX1⟩ : ∃ X, loopN j (makesS R) X0 = X := ⟨_, rfl⟩
        rw [hX1] at hrow
        have HX1 : Hid (loopN j (makesS R) X0 = X1) := hX1
        have HB : Hid (Below (w.heap.size + 1) (w.alloc (.cells #[.int .i64 T, .int .i64 N, .slice ra R.length rc] 24)) wr) := hB
        have HW : Hid (RowB wr (w.heap.size + 1) (w.heap.size + 1) N X1) := hrow
        obtain ⟨hBw, b1, b2⟩ := HBX.out wr hB
        have HBw : Hid (Below w.heap.size w wr) := hBw
        have hsz : w.heap.size + 1 ≤ wr.heap.size := by have := hB.size; simpa using this
        have HL1 : Hid (X1.length = N) := hrow.len
        clear hX1 hB hrow hBw
        by_cases hjl : j < R.length
        · obtain ⟨b, o, rc', qa, qc, hv, hb, k1, k2, hsy⟩ := (HR.out.below HBw.out).syms hjl
          cases hv
          obtain ⟨f1, f2, f3, f4⟩ := HM.out j hjl
          have hstep : loopN (j + 1) (makesS R) X0 = if allB X1 (R.getD j (0, [])).2 then X1.set (R.getD j (0, [])).1.toNat true else X1 := by rw [loopN, HX1.out, makesS]
          have hall := all3_any (w := wr) HW.out.bools hsy (fun s hs hf => by
            have := f4 s hs
            rw [hf] at this
            rw [HL1.out]
            simpa using this) (by omega)
          obtain ⟨⟨L, Rt⟩, hre⟩ : ∃ x, R.getD j (0, []) = x := ⟨_, rfl⟩
          rw [hre] at k1 k2 f1 f2 f3 hstep hall
          simp only at k1 k2 f1 f2 f3 hstep hall
          obtain ⟨l, rfl⟩ : ∃ l : Nat, L = l := ⟨L.toNat, by omega⟩
          have j0 : (0 : Int) ≤ (j : Int) := Int.natCast_nonneg _
          have j1 : (j : Int) < (R.length : Int) := by omega
          have j2 : (0 : Int) ≤ (l : Int) := Int.natCast_nonneg _
          have j3 : (l : Int) < (N : Int) := by omega
          obtain ⟨c1, c2⟩ := HW.out.cell (m := l) (by omega)
          have HSY : Hid (SymsAt wr (.slice qa (R.getD j (0, [])).2.length qc) (R.getD j (0, [])).2) := hsy
          clear hre f4 f1 f2 hsy
          cases hz : allB X1 Rt with
          | true =>
            rw [hz] at hall hstep
            have HS : Hid (loopN (j + 1) (makesS R) X0 = X1.set l true) := by show loopN (j + 1) (makesS R) X0 = _; rw [hstep]; simp
            clear hz hstep
            go_wp2_with (go_at_call 25; refine hall.mono ?_; rintro e w2 ⟨rfl, rfl⟩)
            go_roundw
            case rel => exact ⟨j + 1, by go_num, by omega, HB.out.setCell (by simp) _, by rw [HS.out]; exact HW.out.set l true⟩
            case measure => simp [intOf]; omega
          | false =>
            rw [hz] at hall hstep
            have HS : Hid (loopN (j + 1) (makesS R) X0 = X1) := by show loopN (j + 1) (makesS R) X0 = _; rw [hstep]; simp
            clear hz hstep
            go_wp2_with (go_at_call 25; refine hall.mono ?_; rintro e w2 ⟨rfl, rfl⟩)
            go_roundw
            case rel => exact ⟨j + 1, by go_num, by omega, HB.out, by rw [HS.out]; exact HW.out⟩
            case measure => simp [intOf]; omega
        · have HD : Hid (loopN (m + 1) (fun _ => loopN R.length (makesS R)) (List.replicate N false) = X1) := by
            show loopN (m + 1) (fun _ => loopN R.length (makesS R)) (List.replicate N false) = X1
            rw [loopN, HX0.out, ← HX1.out, show j = R.length by omega]
          go_wp2_with fail
          go_roundw
          case rel => exact ⟨m + 1, by go_num, by omega, HB.out, by rw [HD.out]; exact HW.out⟩
          case measure => simp [intOf]; omega
    · have HD : Hid (makesA R N = X0) := by
        show makesA R N = X0
        unfold makesA
        rw [← HX0.out, show m = N by omega]
      have HX : Hid (Below w.heap.size w wr) := (HBX.out wr HB.out).1
      go_wp2_with fail
      go_ret
      exact ⟨rfl, HX.out, by rw [HD.out]; exact HW.out⟩

end Go.Proofs.Ytbpbhlmbcegmoaa

/- The contract of pollardingref3.Comes. -/
namespace Go.Proofs.Ytbpbhlmbcegmoaa
open Go.RowKit

def nameS (l : List Sy) (k : Nat) (Y : List Bool) : List Bool := if (l.getD k (false, 0)).1 then Y else Y.set (l.getD k (false, 0)).2.toNat true
def comesR (R : List Ru) (Mk : List Bool) (i : Nat) (X : List Bool) : List Bool :=
  if X.getD (R.getD i (0, [])).1.toNat false && allB Mk (R.getD i (0, [])).2 then loopN (R.getD i (0, [])).2.length (nameS (R.getD i (0, [])).2) X else X
def comesA (R : List Ru) (N : Nat) : List Bool := loopN N (fun _ => loopN R.length (comesR R (makesA R N))) ((List.replicate N false).set 0 ((makesA R N).getD 0 false))

/-- Nothing that was there behind Makes has turned; the row is X. -/
def CR (w1 : World) (N : Nat) (X : List Bool) (wr : World) : Prop := Below w1.heap.size w1 wr ∧ RowB wr w1.heap.size w1.heap.size N X

set_option maxRecDepth 100000 in
set_option maxHeartbeats 6400000 in
theorem comes3_any {w : World} {T N : Nat} {rv : Value} {R : List Ru} (hr : RulesAt w w.heap.size rv R) (hm : mayB T N R = true) :
    Calls Try.prog 18 #[.agg #[.int .i64 T, .int .i64 N, rv]] w fun e w' => ∃ g, e = .returned (.slice (some ⟨g, 0, none⟩) N N) ∧ Below w.heap.size w w' ∧ RowB w' w.heap.size g N (comesA R N) := by
  obtain ⟨hT, hN1, hN, hRl, hfine⟩ := may_fine hm
  have HM : Hid (∀ i, i < R.length → 0 ≤ (R.getD i (0, [])).1 ∧ (R.getD i (0, [])).1 < (N : Int) ∧ (R.getD i (0, [])).2.length ≤ 8 ∧
      ∀ s ∈ (R.getD i (0, [])).2, 0 ≤ s.2 ∧ s.2 < if s.1 then (T : Int) else (N : Int)) := hfine
  have HR : Hid (RulesAt w w.heap.size rv R) := hr
  obtain ⟨ra, rc, rfl⟩ := hr.1
  have makes := makes3_any (T := T) (N := N) (hr.boxed (.cells #[.int .i64 T, .int .i64 N, .slice ra R.length rc] 24)) hm
  simp only [World.size_alloc] at makes
  clear hr hm hfine
  have mkN := make_bools N (by omega)
  have hN0 : 0 < N := by omega
  go_enter Try.func18, Try.ntmps18
  go_wp2_with
    (go_at_call 17; refine makes.mono ?_; rintro e w1 ⟨rfl, hB1, hrow1⟩
     have b1 : w1.cell? ⟨w.heap.size, 1, none⟩ = some (.int .i64 N) := (hB1.cell (by simp)).trans (by simp [go_sem])
     have b2 : w1.cell? ⟨w.heap.size, 2, none⟩ = some (.slice ra R.length rc) := (hB1.cell (by simp)).trans (by simp [go_sem])
     have hs1 : w.heap.size + 1 ≤ w1.heap.size := by have := hB1.size; simpa using this
     obtain ⟨c0, _⟩ := hrow1.cell (m := 0) hN0
     have c0l := World.block_lt_of_cell? w1 _ c0
     simp only at c0l
     obtain ⟨x0, hx0⟩ : ∃ x, (makesA R N).getD 0 false = x := ⟨_, rfl⟩
     rw [hx0] at c0
     have HX00 : Hid ((makesA R N).getD 0 false = x0) := hx0
     have d0 : (w1.alloc (.cells (madeCells #[.bool false] N) 4)).cell? ⟨w.heap.size + 1 + 1, 0, none⟩ = some (.bool x0) := by rw [World.cell?_alloc_past _ _ _ c0l]; exact c0
     have hrow2 := row_made w1 (N := N) (by unfold maxLen; omega)
     obtain ⟨e0, e1⟩ := hrow2.cell (m := 0) hN0
     have HBW : Hid (Below w.heap.size w w1) := ((Below.refl _ _).alloc (Nat.le_refl _) _).trans (hB1.mono (by omega))
     have HRow1 : Hid (RowB w1 (w.heap.size + 1 + 1) (w.heap.size + 1 + 1) N (makesA R N)) := hrow1
     have HRow2 : Hid (RowB (w1.alloc (.cells (madeCells #[.bool false] N) 4)) w1.heap.size w1.heap.size N (List.replicate N false)) := hrow2
     clear hB1 hrow1 hrow2 c0 makes hx0)
  clear mkN d0 e0 e1
  have HS : Hid (RowB (w1.alloc (.cells ((madeCells #[.bool false] N).setIfInBounds 0 (.bool x0)) 4)) w1.heap.size w1.heap.size N ((List.replicate N false).set 0 x0)) := row_made_set w1 (by unfold maxLen; omega) 0 x0
  clear HRow2
  have HBX : Hid (∀ wr, Below w1.heap.size w1 wr → Below w.heap.size w wr ∧ wr.cell? ⟨w.heap.size, 1, none⟩ = some (.int .i64 N) ∧ wr.cell? ⟨w.heap.size, 2, none⟩ = some (.slice ra R.length rc) ∧ RowB wr (w.heap.size + 1 + 1) (w.heap.size + 1 + 1) N (makesA R N)) := fun wr hB =>
    ⟨HBW.out.trans (hB.mono (by omega)), (hB.cell (by simp only; omega)).trans b1, (hB.cell (by simp only; omega)).trans b2, HRow1.out.below hB⟩
  clear b1 b2
  go_loopw [5] (fun i wr => ∃ m : Nat, i = .int .i64 m ∧ m ≤ N ∧ CR w1 N (loopN m (fun _ => loopN R.length (comesR R (makesA R N))) ((List.replicate N false).set 0 x0)) wr) (fun i _ => N - (intOf i).toNat)
  case atStart => exact ⟨0, rfl, Nat.zero_le _, (Below.refl _ _).alloc (Nat.le_refl _) _, HS.out⟩
  case round =>
    clear HS
    obtain ⟨m, rfl, hmN, hC⟩ := hrel
    obtain ⟨X0, hX0⟩ : ∃ X, loopN m (fun _ => loopN R.length (comesR R (makesA R N))) ((List.replicate N false).set 0 x0) = X := ⟨_, rfl⟩
    rw [hX0] at hC
    have HX0 : Hid (loopN m (fun _ => loopN R.length (comesR R (makesA R N))) ((List.replicate N false).set 0 x0) = X0) := hX0
    have HC : Hid (CR w1 N X0 wr) := hC
    obtain ⟨_, b1, _, _⟩ := HBX.out wr hC.1
    clear hX0 hC
    by_cases hlt : m < N
    · go_wp2_with fail
      clear b1
      go_loopw [6] (fun i wq => ∃ j : Nat, i = .int .i64 j ∧ j ≤ R.length ∧ CR w1 N (loopN j (comesR R (makesA R N)) X0) wq) (fun i _ => R.length - (intOf i).toNat)
      case atStart => exact ⟨0, rfl, Nat.zero_le _, HC.out⟩
      case round =>
        clear HC
        obtain ⟨j, rfl, hj, hC⟩ := hrel
        obtain ⟨X1, hX1⟩ : ∃ X, loopN j (comesR R (makesA R N)) X0 = X := ⟨_, rfl⟩
        rw [hX1] at hC
        have HX1 : Hid (loopN j (comesR R (makesA R N)) X0 = X1) := hX1
        have HC : Hid (CR w1 N X1 wr) := hC
        obtain ⟨hBw, b1, b2, hmk⟩ := HBX.out wr hC.1
        have hsz : w1.heap.size < wr.heap.size := by
          have h1 := World.block_lt_of_cell? wr _ (hC.2.cell (m := 0) hN0).1
          exact h1
        have HBw : Hid (Below w.heap.size w wr) := hBw
        have HMk : Hid (RowB wr (w.heap.size + 1 + 1) (w.heap.size + 1 + 1) N (makesA R N)) := hmk
        clear hX1 hC hBw hmk
        by_cases hjl : j < R.length
        · obtain ⟨b, o, rc', qa, qc, hv, hb, y1, y2, hsy⟩ := HR.out.syms hjl
          cases hv
          have k1 := (HBw.out.cell (p := ⟨b, o + j * 2, none⟩) hb).trans y1
          have k2 := (HBw.out.cell (p := ⟨b, o + j * 2 + 1, none⟩) hb).trans y2
          clear y1 y2
          obtain ⟨f1, f2, f3, f4⟩ := HM.out j hjl
          have hstep : loopN (j + 1) (comesR R (makesA R N)) X0 = comesR R (makesA R N) j X1 := by rw [loopN, HX1.out]
          have hstep2 : comesR R (makesA R N) j X1 = if X1.getD (R.getD j (0, [])).1.toNat false && allB (makesA R N) (R.getD j (0, [])).2 then loopN (R.getD j (0, [])).2.length (nameS (R.getD j (0, [])).2) X1 else X1 := rfl
          rw [hstep2] at hstep
          clear hstep2
          obtain ⟨⟨L, Rt⟩, hre⟩ : ∃ x, R.getD j (0, []) = x := ⟨_, rfl⟩
          rw [hre] at k1 k2 f1 f2 f3 f4 hstep hsy
          simp only at k1 k2 f1 f2 f3 f4 hstep hsy
          obtain ⟨l, rfl⟩ : ∃ l : Nat, L = l := ⟨L.toNat, by omega⟩
          have j0 : (0 : Int) ≤ (j : Int) := Int.natCast_nonneg _
          have j1 : (j : Int) < (R.length : Int) := by omega
          have j2 : (0 : Int) ≤ (l : Int) := Int.natCast_nonneg _
          have j3 : (l : Int) < (N : Int) := by omega
          have hA : Below wr.heap.size wr (wr.alloc (.cells #[.int .i64 l, .slice qa Rt.length qc] 41)) := (Below.refl _ _).alloc (Nat.le_refl _) _
          have hRA : RowB (wr.alloc (.cells #[.int .i64 l, .slice qa Rt.length qc] 41)) w1.heap.size w1.heap.size N X1 := HC.out.2.below hA
          obtain ⟨c1, _⟩ := hRA.cell (m := l) (by omega)
          have hall := all3_any (w := wr.alloc (.cells #[.int .i64 l, .slice qa Rt.length qc] 41)) (HMk.out.below hA).bools (hsy.same (same_below (HBw.out.alloc HBw.out.size _))) (fun s hs hf => by
            have := f4 s hs
            rw [hf] at this
            rw [HMk.out.len]
            simpa using this) (by omega)
          have HCA : Hid (CR w1 N X1 (wr.alloc (.cells #[.int .i64 l, .slice qa Rt.length qc] 41))) := ⟨HC.out.1.alloc (by omega) _, hRA⟩
          have HSY : Hid (SymsAt w (.slice qa Rt.length qc) Rt) := hsy
          have HF4 : Hid (∀ s ∈ Rt, 0 ≤ s.2 ∧ s.2 < if s.1 then (T : Int) else (N : Int)) := f4
          clear hre f4 f1 f2 hsy hA hRA
          obtain ⟨xl, hxl⟩ : ∃ x, X1.getD l false = x := ⟨_, rfl⟩
          rw [hxl] at c1
          rw [Int.toNat_natCast, hxl] at hstep
          clear hxl
          cases xl with
          | false =>
            have HSt : Hid (loopN (j + 1) (comesR R (makesA R N)) X0 = X1) := by show loopN (j + 1) _ X0 = _; rw [hstep]; simp
            clear hstep hall
            go_wp2_with fail
            go_roundw
            case rel => exact ⟨j + 1, by go_num, by omega, by rw [HSt.out]; exact HCA.out⟩
            case measure => simp [intOf]; omega
          | true =>
            cases hz : allB (makesA R N) Rt with
            | false =>
              rw [hz] at hall hstep
              have HSt : Hid (loopN (j + 1) (comesR R (makesA R N)) X0 = X1) := by show loopN (j + 1) _ X0 = _; rw [hstep]; simp
              clear hz hstep
              go_wp2_with (go_at_call 25; refine hall.mono ?_; rintro e w2 ⟨rfl, rfl⟩)
              go_roundw
              case rel => exact ⟨j + 1, by go_num, by omega, by rw [HSt.out]; exact HCA.out⟩
              case measure => simp [intOf]; omega
            | true =>
              rw [hz] at hall hstep
              have HSt : Hid (loopN (j + 1) (comesR R (makesA R N)) X0 = loopN Rt.length (nameS Rt) X1) := by show loopN (j + 1) _ X0 = _; rw [hstep]; simp
              clear hz hstep
              go_wp2_with (go_at_call 25; refine hall.mono ?_; rintro e w2 ⟨rfl, rfl⟩)
              clear c1 b1 b2 hall
              go_loopw [8] (fun i wq => ∃ k : Nat, i = .int .i64 k ∧ k ≤ Rt.length ∧ CR w1 N (loopN k (nameS Rt) X1) wq ∧ wr.heap.size < wq.heap.size ∧ wq.cell? ⟨wr.heap.size, 1, none⟩ = some (.slice qa Rt.length qc)) (fun i _ => Rt.length - (intOf i).toNat)
              case atStart => exact ⟨0, rfl, Nat.zero_le _, HCA.out, by simp, by simp [go_sem]⟩
              case round =>
                clear HCA HC HBw HMk
                obtain ⟨k, rfl, hk, hC, hsq, q1⟩ := hrel
                obtain ⟨X2, hX2⟩ : ∃ X, loopN k (nameS Rt) X1 = X := ⟨_, rfl⟩
                rw [hX2] at hC
                have HX2 : Hid (loopN k (nameS Rt) X1 = X2) := hX2
                have HC : Hid (CR w1 N X2 wr) := hC
                have HBw : Hid (Below w.heap.size w wr) := (HBX.out wr hC.1).1
                clear hX2 hC
                by_cases hkl : k < Rt.length
                · obtain ⟨b', o', c', hv, z1, z2⟩ := HSY.out.2 k hkl
                  cases hv
                  have hmem : Rt.getD k (false, 0) ∈ Rt := by simp [List.getD, hkl]
                  have hin := HF4.out _ hmem
                  have hstep : loopN (k + 1) (nameS Rt) X1 = if (Rt.getD k (false, 0)).1 then X2 else X2.set (Rt.getD k (false, 0)).2.toNat true := by rw [loopN, HX2.out, nameS]
                  obtain ⟨⟨t, v⟩, hsk⟩ : ∃ x, Rt.getD k (false, 0) = x := ⟨_, rfl⟩
                  rw [hsk] at z1 z2 hin hstep
                  simp only at hin hstep
                  obtain ⟨y, rfl⟩ : ∃ y : Nat, v = y := ⟨v.toNat, by omega⟩
                  have z1' := (HBw.out.cell (p := ⟨b', o' + k * 2, none⟩) (World.block_lt_of_cell? w _ z1)).trans z1
                  have z2' := (HBw.out.cell (p := ⟨b', o' + k * 2 + 1, none⟩) (World.block_lt_of_cell? w _ z2)).trans z2
                  have i0 : (0 : Int) ≤ (k : Int) := Int.natCast_nonneg _
                  have i1 : (k : Int) < (Rt.length : Int) := by omega
                  clear hmem hsk z1 z2
                  cases t with
                  | true =>
                    have HSk : Hid (loopN (k + 1) (nameS Rt) X1 = X2) := by show loopN (k + 1) _ X1 = _; rw [hstep]; simp
                    clear hstep hin
                    go_wp2_with fail
                    go_roundw
                    case rel => exact ⟨k + 1, by go_num, by omega, by rw [HSk.out]; exact HC.out, hsq, q1⟩
                    case measure => simp [intOf]; omega
                  | false =>
                    have hyN : y < N := by simp at hin; omega
                    have HSk : Hid (loopN (k + 1) (nameS Rt) X1 = X2.set y true) := by show loopN (k + 1) _ X1 = _; rw [hstep]; simp
                    obtain ⟨c1, c2⟩ := HC.out.2.cell (m := y) hyN
                    have i2 : (0 : Int) ≤ (y : Int) := Int.natCast_nonneg _
                    have i3 : (y : Int) < (N : Int) := by omega
                    have q2 : (wr.setCell ⟨w1.heap.size, y, none⟩ (.bool true)).cell? _ = _ := (cell_set_other (.inl (by simp only; omega))).trans q1
                    clear hstep hin
                    go_wp2_with fail
                    go_roundw
                    case rel => exact ⟨k + 1, by go_num, by omega, by rw [HSk.out]; exact ⟨HC.out.1.setCell (by simp) _, HC.out.2.set y true⟩, by simpa using hsq, q2⟩
                    case measure => simp [intOf]; omega
                · have HSj : Hid (loopN (j + 1) (comesR R (makesA R N)) X0 = X2) := by
                    show loopN (j + 1) _ X0 = X2
                    rw [HSt.out, ← HX2.out, show k = Rt.length by omega]
                  go_wp2_with fail
                  go_roundw
                  case rel => exact ⟨j + 1, by go_num, by omega, by rw [HSj.out]; exact HC.out⟩
                  case measure => simp [intOf]; omega
        · have HD : Hid (loopN (m + 1) (fun _ => loopN R.length (comesR R (makesA R N))) ((List.replicate N false).set 0 x0) = X1) := by
            show loopN (m + 1) (fun _ => loopN R.length (comesR R (makesA R N))) ((List.replicate N false).set 0 x0) = X1
            rw [loopN, HX0.out, ← HX1.out, show j = R.length by omega]
          go_wp2_with fail
          go_roundw
          case rel => exact ⟨m + 1, by go_num, by omega, by rw [HD.out]; exact HC.out⟩
          case measure => simp [intOf]; omega
    · have HD : Hid (comesA R N = X0) := by
        show comesA R N = X0
        unfold comesA
        rw [HX00.out, ← HX0.out, show m = N by omega]
      have HX : Hid (Below w.heap.size w wr) := (HBX.out wr HC.out.1).1
      go_wp2_with fail
      go_ret
      exact ⟨w1.heap.size, rfl, HX.out, by rw [HD.out]; exact HC.out.2.mono (by omega)⟩

end Go.Proofs.Ytbpbhlmbcegmoaa

/- Plain: what comes of a step (H1). No program. -/
namespace Go.Proofs.Ytbpbhlmbcegmoaa

/-- A step: its kind, and its numbers. -/
structure Stp where
  op : Int
  a : Int
  b : Int
  c : Int

/-- A rule begins with its own name. -/
def ownR (r : Ru) : Bool := decide (0 < r.2.length) && !(r.2.getD 0 (false, 0)).1 && decide ((r.2.getD 0 (false, 0)).2 = r.1)
/-- A's rule, one that begins with A. -/
def ownA (a : Int) (r : Ru) : Bool := decide (r.1 = a) && ownR r
/-- SLeft may be done of a name. -/
def leftB (R : List Ru) (a : Int) : Bool := R.any (ownA a) && R.all fun r => !(ownA a r && decide (r.2.length = 1))

/-- H1: a step is one of these. -/
def stepB (N : Int) (R : List Ru) (s : Stp) : Bool :=
  let r := R.getD s.a.toNat (0, [])
  let rule := decide (0 ≤ s.a) && decide (s.a < (R.length : Int))
  if s.op = 1 then decide (1 ≤ s.a) && decide (s.a < N) && decide (1 ≤ s.b) && decide (s.b < N) && decide (s.c = 0)
  else if s.op = 2 then rule && decide (0 ≤ s.b) && decide (s.b < s.c) && decide (s.c ≤ (r.2.length : Int))
  else if s.op = 3 then rule && decide (0 ≤ s.b) && decide (s.b < (r.2.length : Int)) && decide (s.c = 0) && !(r.2.getD s.b.toNat (false, 0)).1 && !decide ((r.2.getD s.b.toNat (false, 0)).2 = r.1)
  else if s.op = 4 then decide (s.b = 0) && decide (s.c = 0) && leftB R s.a
  else if s.op = 5 then decide (s.a = 0) && decide (s.b = 0) && decide (s.c = 0)
  else false

def swapN (a b n : Int) : Int := if n = a then b else if n = b then a else n
def swapS (a b : Int) (x : Sy) : Sy := if x.1 then x else (false, swapN a b x.2)
/-- SPrune: a rule stays. -/
def needB (N : Nat) (R : List Ru) (r : Ru) : Bool := (makesA R N).getD r.1.toNat false && (comesA R N).getD r.1.toNat false && allB (makesA R N) r.2
/-- SInline: the rule that another one makes of r. -/
def inlR (b : Nat) (r x : Ru) : Ru := (r.1, r.2.take b ++ x.2 ++ r.2.drop (b + 1))

/-- What comes in the place of the rule k. -/
def oneR (N : Nat) (R : List Ru) (s : Stp) (k : Nat) : List Ru :=
  let r := R.getD k (0, [])
  if s.op = 1 then [(swapN s.a s.b r.1, r.2.map (swapS s.a s.b))]
  else if s.op = 2 then [if (k : Int) = s.a then (r.1, r.2.take s.b.toNat ++ (false, (N : Int)) :: r.2.drop s.c.toNat) else r]
  else if s.op = 3 then (if (k : Int) = s.a then (R.filter fun x => decide (x.1 = (r.2.getD s.b.toNat (false, 0)).2)).map (inlR s.b.toNat r) else [r])
  else if s.op = 4 then [if r.1 = s.a then (if ownR r then ((N : Int), r.2.drop 1 ++ [(false, (N : Int))]) else (r.1, r.2 ++ [(false, (N : Int))])) else r]
  else if s.op = 5 then (if needB N R r then [r] else [])
  else [r]
/-- The rule more, the last one. -/
def lastR (N : Nat) (R : List Ru) (s : Stp) : List Ru :=
  if s.op = 2 then [((N : Int), ((R.getD s.a.toNat (0, [])).2.take s.c.toNat).drop s.b.toNat)] else if s.op = 4 then [((N : Int), [])] else []
def doR (N : Nat) (R : List Ru) (s : Stp) : List Ru := (List.range R.length).flatMap (oneR N R s) ++ lastR N R s
def doN (N : Nat) (s : Stp) : Nat := if s.op = 2 then N + 1 else if s.op = 4 then N + 1 else N

end Go.Proofs.Ytbpbhlmbcegmoaa

/- A region that draws its order: what its first operations read is the same in every world that meets S, whenever they come up; the others follow one another, and keep S, but the last of all. One walk, in the order of the text. No program. -/
namespace Go.Proofs.Ytbpbhlmbcegmoaa

section
variable {P : Program} {ops : Array Oper} {Q : Exit → Act → World → Prop} {md : Region.Mode} {S : World → Prop}

/-- Whatever order is picked from here on, S holds behind each operation ahead of number n. -/
def wpAnyG (P : Program) (md : Region.Mode) (ops : Array Oper) (Q : Exit → Act → World → Prop) (S : World → Prop) (n : Nat) : Nat → Array Bool → Act → World → Prop
  | 0, listed, a, w => Region.ready md ops listed = [] ∧ Q .normal a w
  | fuel + 1, listed, a, w =>
    (Region.ready md ops listed = [] → Q .normal a w) ∧
    ∀ i ∈ Region.ready md ops listed, wpOp P ops Q i (fun a' w' => (i < n → S w') ∧ wpAnyG P md ops Q S n fuel (listed.setIfInBounds i true) a' w') a w

theorem wpAny_of_G {n : Nat} : ∀ (fuel : Nat) (listed : Array Bool) (a : Act) (w : World), wpAnyG P md ops Q S n fuel listed a w → wpAny P md ops Q fuel listed a w
  | 0, _, _, _, h => h
  | fuel + 1, _, _, _, h => ⟨h.1, fun i hi => wpOp_mono (fun a' w' h' => wpAny_of_G fuel _ a' w' h'.2) (h.2 i hi)⟩

theorem wpAnyG_first {n i : Nat} {oi : Oper} {v : Value} (hi : ops[i]? = some oi) (hsel : ∀ (j : Nat) (o : Oper) cs b, ops[j]? = some o → o.op ≠ .select cs b)
    (hQ : ∀ c a w, Q (.panic c) (a.put oi.dst v) w → Q (.panic c) a w) (hs : Region.sinkB md ops n = true) (hc : Region.chainB md ops n = true) (hn : n < ops.size) (hin : i < n) :
    ∀ (fuel : Nat) (listed : Array Bool) (a : Act) (w : World), HeadInv md ops n listed →
      (∀ j oj, ops[j]? = some oj → j ≠ i → listed.getD j true = false → (∀ e ∈ oj.after, Region.binds md e = true → e.on ≠ i) → oi.apart ops oj = true) →
      i ∈ Region.ready md ops listed → YieldsIf P ops S oi v a → S w →
      wpAnyG P md ops Q S n fuel (listed.setIfInBounds i true) (a.put oi.dst v) w → wpAnyG P md ops Q S n (fuel + 1) listed a w := by
  intro fuel
  induction fuel with
  | zero =>
    intro listed a w _ _ hr hy hS H
    refine ⟨fun h => (by rw [h] at hr; cases hr), fun j hj => ?_⟩
    by_cases hji : j = i
    · subst hji; exact hy.wpOp hi hS ⟨fun _ => hS, H⟩
    · have := ready_mono hj hji
      rw [H.1] at this
      cases this
  | succ fuel ih =>
    intro listed a w inv hfree hr hy hS H
    have hun := (mem_ready.1 hr).1
    refine ⟨fun h => (by rw [h] at hr; cases hr), fun j hj => ?_⟩
    by_cases hji : j = i
    · subst hji; exact hy.wpOp hi hS ⟨fun _ => hS, H⟩
    · have hjn : j < n := by
        rcases Nat.lt_or_ge j n with h | h
        · exact h
        · exact absurd hj (tail_waits hs hc hn inv _ i rfl hin hun j h)
      have h1 := H.2 j (ready_mono hj hji)
      obtain ⟨hjun, oj, hoj, hall⟩ := mem_ready.1 hj
      have hnot : ∀ e ∈ oj.after, Region.binds md e = true → e.on ≠ i := fun e he hb heq => by
        have h1 := hall e he hb
        rw [heq, getD_both hun] at h1
        cases h1
      have h2 := wpOp_putIf hoj (hfree j oj hoj hji hjun hnot) (fun cs b => hsel i oi cs b hi) (fun cs b => hsel j oj cs b hoj) hQ hy h1
      have hfree' : ∀ k ok, ops[k]? = some ok → k ≠ i → (listed.setIfInBounds j true).getD k true = false →
          (∀ e ∈ ok.after, Region.binds md e = true → e.on ≠ i) → oi.apart ops ok = true := fun k ok hk hki hun hno => by
        refine hfree k ok hk hki ?_ hno
        by_cases hjk : j = k
        · subst hjk; exact hjun
        · rw [getD_set_ne true hjk] at hun; exact hun
      refine wpOp_mono (fun a' w' h3 => ⟨h3.2.1, ih (listed.setIfInBounds j true) a' w' (inv.set hj hjn) hfree' (ready_mono hr (Ne.symm hji)) h3.1 (h3.2.1 hjn) ?_⟩) h2
      rw [Array.setIfInBounds_comm _ _ hji]
      exact h3.2.2

/-- The first operations, one after another: each yields its value in every world that meets S. -/
def StillS (P : Program) (ops : Array Oper) (S : World → Prop) (K : Act → Prop) : List Oper → Act → Prop
  | [], a => K a
  | o :: l, a => ∃ v, YieldsIf P ops S o v a ∧ StillS P ops S K l (a.put o.dst v)

theorem StillS.cons {K : Act → Prop} {o : Oper} {l : List Oper} {a : Act} {v : Value} (hw : Region.wanted o (yielded ops a.tmps) = true) (hy : ∀ w, S w → (execOp a.eval o).run P w = .ok (.value v) w) (h : StillS P ops S K l (a.put o.dst v)) : StillS P ops S K (o :: l) a :=
  ⟨v, .inl ⟨hw, hy⟩, h⟩

end

end Go.Proofs.Ytbpbhlmbcegmoaa
