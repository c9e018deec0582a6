import Derived.Test.YtmnechdmgmbpeaaRows
import Derived.Test.YtmnechdmgmbpeaaMathAndNull2
import Derived.WalkKit
import Derived.WalkSpells
import Derived.Deep.QuietTactic
import Derived.BigQuiet
import Derived.Test.YtmnechdmgmbpeaaPrParseAndParseMem6
import Derived.Test.YtmnechdmgmbpeaaParse6
import Derived.ProofKit
import Derived.Deep.SlicePairs
/- The contract of pollardingref1.Ints, where both sides are one. -/
namespace Go.Proofs.Ytmnechdmgmbpeaa
open Go.RowKit

set_option maxRecDepth 100000 in
set_option maxHeartbeats 1600000 in
theorem ints_eq {w : World} {la lb : Nat} {a b : Value} {X : List Int} (ha : ListAt w la a X) (hb : ListAt w lb b X) (hl : X.length ≤ 1000000) :
    Calls Try.prog 6 #[a, b] w fun e w' => e = .returned (.bool true) ∧ ∃ m, w' = w.drewN m := by
  obtain ⟨aa, ac, hav⟩ := ha.1
  obtain ⟨ba, bc, hbv⟩ := hb.1
  have HA : Hid (ListAt w la a X) := ha
  have HB : Hid (ListAt w lb b X) := hb
  clear ha hb
  subst hav
  subst hbv
  have e0 : ((X.length : Int) != (X.length : Int)) = false := by simp
  go_enter Try.func6, Try.ntmps6
  go_wp2_with fail
  go_loopw [5] (fun k wr => ∃ i m : Nat, k = .int .i64 i ∧ i ≤ X.length ∧ wr = w.drewN m) (fun k _ => X.length - (intOf k).toNat)
  case atStart => exact ⟨0, 0, rfl, Nat.zero_le _, rfl⟩
  case round =>
    obtain ⟨i, m, rfl, hi, rfl⟩ := hrel
    by_cases hlt : i < X.length
    · obtain ⟨g1, o1, c1, hv1, _, k1⟩ := HA.out.2 i hlt
      obtain ⟨g2, o2, c2, hv2, _, k2⟩ := HB.out.2 i hlt
      cases hv1
      cases hv2
      obtain ⟨z, hz⟩ : ∃ z, X.getD i 0 = z := ⟨_, rfl⟩
      rw [hz] at k1 k2
      have j0 : (0 : Int) ≤ (i : Int) := Int.natCast_nonneg _
      have j1 : (i : Int) < (X.length : Int) := by omega
      have e1 : (z != z) = false := by simp
      clear hz
      go_wp2_with fail
      go_big_quiet (fail)
      go_wp2_with fail
      go_roundw
      case rel => exact ⟨i + 1, _, by go_num, by omega, rfl⟩
      case measure => simp [intOf]; omega
    · go_wp2_with fail
      go_ret
      exact ⟨rfl, m, rfl⟩

end Go.Proofs.Ytmnechdmgmbpeaa

/- The law pollardinglaw.ParseTells: it returns true. -/
namespace Go.Proofs.Ytmnechdmgmbpeaa
open Go.RowKit

theorem parse6_any {w : World} {T N : Nat} {rv tv : Value} {R : List Ru} {tok : List Int} (hr : RulesAt w w.heap.size rv R) (ht : ListAt w w.heap.size tv tok) (hm : mayB T N R = true) :
    Calls Try.prog 5 #[.agg #[.int .i64 T, .int .i64 N, rv], tv] w fun e w' => ∃ dv D a x, e = .returned (.tuple #[dv, .int .i64 a, .int .i64 x]) ∧ ListAt w' w'.heap.size dv D ∧ ParseIs T N R tok (D, a, x) ∧ Below w.heap.size w w' := by
  by_cases hM : More T N R 150
  · exact (parse6_more hr ht hm hM).mono fun e w' ⟨h1, h2⟩ => ⟨_, [], 0, 1, h1, list_nil _, .inl ⟨hM, rfl⟩, h2⟩
  · exact parse6_whole hr ht hm hM

set_option maxRecDepth 100000 in
set_option maxHeartbeats 1600000 in
/-- Both answer the same. -/
theorem parseTells_of {w : World} {T N : Int} {rv tv : Value} {R : List Ru} {tok D : List Int} {a x : Int} (hr : RulesAt w w.heap.size rv R) (ht : ListAt w w.heap.size tv tok) (hl : D.length ≤ 1000)
    (pp : ∀ wq, RulesAt wq wq.heap.size rv R → ListAt wq wq.heap.size tv tok → Calls Try.prog 4 #[.agg #[.int .i64 T, .int .i64 N, rv], tv] wq fun e w' => ∃ dv, e = .returned (.tuple #[dv, .int .i64 a, .int .i64 x]) ∧ ListAt w' w'.heap.size dv D ∧ Below wq.heap.size wq w')
    (pr : ∀ wq, RulesAt wq wq.heap.size rv R → ListAt wq wq.heap.size tv tok → Calls Try.prog 5 #[.agg #[.int .i64 T, .int .i64 N, rv], tv] wq fun e w' => ∃ dv, e = .returned (.tuple #[dv, .int .i64 a, .int .i64 x]) ∧ ListAt w' w'.heap.size dv D ∧ Below wq.heap.size wq w') :
    Calls Try.prog 3 #[.agg #[.int .i64 T, .int .i64 N, rv], tv] w fun e w' => e = .returned (.bool true) ∧ Below w.heap.size w w' := by
  obtain ⟨ra, rc, hrv⟩ := hr.1
  obtain ⟨ta, tc, htv⟩ := ht.1
  subst hrv
  subst htv
  have HBX : Hid (∀ wq, Below (w.heap.size + 1) (w.alloc (.cells #[.int .i64 T, .int .i64 N, .slice ra R.length rc] 24)) wq → wq.cell? ⟨w.heap.size, 0, none⟩ = some (.int .i64 T) ∧ wq.cell? ⟨w.heap.size, 1, none⟩ = some (.int .i64 N) ∧ wq.cell? ⟨w.heap.size, 2, none⟩ = some (.slice ra R.length rc) ∧ RulesAt wq wq.heap.size (.slice ra R.length rc) R ∧ ListAt wq wq.heap.size (.slice ta tok.length tc) tok ∧ Below w.heap.size w wq ∧ w.heap.size + 1 ≤ wq.heap.size) := fun wq hq => by
    have hB : Below w.heap.size w wq := ((Below.refl _ _).alloc (Nat.le_refl _) _).trans (hq.mono (by omega))
    exact ⟨(hq.cell (by simp)).trans (by simp [go_sem]), (hq.cell (by simp)).trans (by simp [go_sem]), (hq.cell (by simp)).trans (by simp [go_sem]), (hr.below hB).mono hB.size, (ht.below hB).mono hB.size, hB, by have := hq.size; simpa using this⟩
  have p1 := pp _ (hr.boxed (.cells #[.int .i64 T, .int .i64 N, .slice ra R.length rc] 24)) (ht.boxed _)
  simp only [World.size_alloc] at p1
  have HP : Hid (∀ wq, RulesAt wq wq.heap.size (.slice ra R.length rc) R → ListAt wq wq.heap.size (.slice ta tok.length tc) tok → Calls Try.prog 5 #[.agg #[.int .i64 T, .int .i64 N, .slice ra R.length rc], .slice ta tok.length tc] wq fun e w' => ∃ dv, e = .returned (.tuple #[dv, .int .i64 a, .int .i64 x]) ∧ ListAt w' w'.heap.size dv D ∧ Below wq.heap.size wq w') := pr
  obtain ⟨dn, hdn⟩ : ∃ n, D.length = n := ⟨_, rfl⟩
  have HDn : Hid (D.length = dn) := hdn
  have e1 : (x == x) = true := by simp
  have e2 : (a == a) = true := by simp
  clear hr ht pp pr hdn
  go_enter Try.func3, Try.ntmps3
  go_wp2_with
    (first
     | (go_at_call 4; refine p1.mono ?_; rintro e w1 ⟨dv, rfl, hL1, hB1⟩
        obtain ⟨b0, b1, b2, hR, hT, _, hs1⟩ := HBX.out w1 hB1
        obtain ⟨da, dc, hdv⟩ := hL1.1
        rw [HDn.out] at hdv
        subst hdv
        have p2 := HP.out w1 hR hT
        have HB1 : Hid (Below (w.heap.size + 1) (w.alloc (.cells #[.int .i64 T, .int .i64 N, .slice ra R.length rc] 24)) w1) := hB1
        have HL1 : Hid (ListAt w1 w1.heap.size (.slice da dn dc) D) := hL1
        clear hB1 hR hT hL1 p1)
     | (go_at_call 5; refine p2.mono ?_; rintro e w2 ⟨dv, rfl, hL2, hB2⟩
        obtain ⟨da2, dc2, hdv⟩ := hL2.1
        rw [HDn.out] at hdv
        subst hdv
        have HB2 : Hid (Below w.heap.size w w2) := (HBX.out w2 (HB1.out.trans (hB2.mono hs1))).2.2.2.2.2.1
        have ie := ints_eq (HL1.out.below hB2) hL2 (by omega)
        clear hB2 hL2 p2)
     | (go_at_call 6; refine ie.mono ?_; rintro e w4 ⟨rfl, m, rfl⟩))
  go_ret
  exact ⟨rfl, below_drewN HB2.out _⟩

theorem parseTells_any {w : World} {T N : Int} {rv tv : Value} {R : List Ru} {tok : List Int} (hr : RulesAt w w.heap.size rv R) (ht : ListAt w w.heap.size tv tok) :
    Calls Try.prog 3 #[.agg #[.int .i64 T, .int .i64 N, rv], tv] w fun e w' => e = .returned (.bool true) ∧ Below w.heap.size w w' := by
  cases hm : mayB T N R with
  | false =>
    exact parseTells_of (D := []) (a := 0) (x := 2) hr ht (by simp) (fun wq h1 h2 => (parse_form h1 h2 hm).mono fun e w' ⟨h3, h4⟩ => ⟨_, h3, list_nil _, h4⟩) (fun wq h1 h2 => (parse6_form h1 h2 hm).mono fun e w' ⟨h3, h4⟩ => ⟨_, h3, list_nil _, h4⟩)
  | true =>
    have hh := hm
    simp only [mayB, headB, Bool.and_eq_true, decide_eq_true_eq] at hh
    obtain ⟨t, rfl⟩ : ∃ t : Nat, T = t := ⟨T.toNat, by omega⟩
    obtain ⟨n, rfl⟩ : ∃ n : Nat, N = n := ⟨N.toNat, by omega⟩
    obtain ⟨⟨D, a, x⟩, hA⟩ : ∃ z, ParseIs t n R tok z := by
      by_cases hM : More t n R 150
      · exact ⟨_, .inl ⟨hM, rfl⟩⟩
      · obtain ⟨K, hW, hK⟩ := not_more (by omega) hM
        by_cases hw : wrongE t n R tok = 0
        · by_cases hc : clashN (tabC t n R K) = 0
          · exact ⟨_, .inr ⟨K, hW, hK, .inr (.inr ⟨hw, hc, rfl⟩)⟩⟩
          · exact ⟨_, .inr ⟨K, hW, hK, .inr (.inl ⟨hw, by omega, rfl⟩)⟩⟩
        · exact ⟨_, .inr ⟨K, hW, hK, .inl ⟨hw, rfl⟩⟩⟩
    refine parseTells_of (D := D) (a := a) (x := x) hr ht (by have := hA.len hm; omega) (fun wq h1 h2 => (parse_any h1 h2 hm).mono fun e w' ⟨dv, D', a', x', h3, h4, h5, h6⟩ => ?_) (fun wq h1 h2 => (parse6_any h1 h2 hm).mono fun e w' ⟨dv, D', a', x', h3, h4, h5, h6⟩ => ?_)
    · cases h5.one hA
      exact ⟨dv, h3, h4, h6⟩
    · cases h5.one hA
      exact ⟨dv, h3, h4, h6⟩

end Go.Proofs.Ytmnechdmgmbpeaa

/- A grammar that came in as data lies in memory as RulesAt says; what the bound on the bulk gives. -/
namespace Go.Proofs.Ytmnechdmgmbpeaa
open Go.ChangeShapes Go.WideShapes Go.ChangeAt Go.RowKit Go.Deep

theorem Try.cells57 : Try.prog.cellsOf 57 = 2 := by kernel_rfl
theorem Try.cells91 : Try.prog.cellsOf 91 = 2 := by kernel_rfl
theorem Try.cells3 : Try.prog.cellsOf 3 = 1 := by kernel_rfl
theorem Try.cells4 : Try.prog.cellsOf 4 = 1 := by kernel_rfl
theorem Try.cells55 : Try.prog.cellsOf 55 = 1 := by kernel_rfl

theorem bulk_one {H : Type} (d : DataW H) : 1 ≤ Rows.uptoBulk d := by
  cases d with
  | lit l => cases l <;> simp [Rows.uptoBulk]
  | nil => simp [Rows.uptoBulk]
  | ptr d => simp [Rows.uptoBulk]
  | slice elems spare => simp [Rows.uptoBulk]
  | agg parts => simp [Rows.uptoBulk]
  | iface t d => simp [Rows.uptoBulk]
  | map entries => simp [Rows.uptoBulk]
  | held h => simp [Rows.uptoBulk]

theorem bulk_part {H : Type} {d : DataW H} {l : List (DataW H)} (h : d ∈ l) : Rows.uptoBulk d ≤ Rows.uptoBulkAll l := by
  induction l with
  | nil => cases h
  | cons x r ih =>
    simp only [Rows.uptoBulkAll]
    cases List.mem_cons.1 h with
    | inl e => subst e; omega
    | inr e => have := ih e; omega

theorem bulk_length {H : Type} (l : List (DataW H)) : l.length ≤ Rows.uptoBulkAll l := by
  induction l with
  | nil => simp
  | cons x r ih => have := bulk_one x; simp only [Rows.uptoBulkAll, List.length_cons]; omega

section
variable {H : Type} {enc : TypeId × Value → H} {W : World} {n : Nat} {v : Value} {x : DataW H × List MemPlace}

theorem plain_of_cell {a : Addr} {u : Value} (h : W.cell? (a.add 0) = some u) : ∃ b o, a = ⟨b, o, none⟩ := by
  obtain ⟨b, o, spot⟩ := a
  have : spot = none := by simpa [Addr.add] using World.cell?_spot h
  subst this
  exact ⟨b, o, rfl⟩

/-- The symbols of a rule. -/
theorem syms_read (h : DataW.trod enc Try.prog W 0 (fun _ => true) true n 55 [v] = some x) :
    ∃ (Rt : List Sy) (qa : Option Addr) (qc : Nat), v = .slice qa Rt.length qc ∧ Rt.length ≤ qc ∧ Rt.length ≤ Rows.uptoBulk x.1 ∧
      ∀ j, j < Rt.length → ∃ b' o', qa = some ⟨b', o', none⟩ ∧ b' < W.heap.size ∧
        W.cell? ⟨b', o' + j * 2, none⟩ = some (.bool (Rt.getD j (false, 0)).1) ∧ W.cell? ⟨b', o' + (j * 2 + 1), none⟩ = some (.int .i64 (Rt.getD j (false, 0)).2) := by
  rcases open_slice_pairs Try.underlying55 Try.underlying91 Try.cells91 rfl rfl Try.cells4 Try.cells3 h with ⟨hv, _⟩ | ⟨a, len, cap, m, n', V0, V1, D0, D1, P0, P1, hv, _, hl, _, hm, rfl, hx⟩
  · simp only [List.cons.injEq, and_true] at hv
    exact ⟨[], none, 0, hv, by simp, by simp, fun j hj => by simp at hj⟩
  · simp only [List.cons.injEq, and_true] at hv
    simp only [if_true] at hm
    have each : ∀ i, i < len → ∃ s : Sy, W.cell? (a.add (i * 2)) = some (.bool s.1) ∧ W.cell? (a.add (i * 2 + 1)) = some (.int .i64 s.2) := fun i hi => by
      obtain ⟨h1, h2, h3, h4⟩ := hx i (by omega)
      obtain ⟨t, ht, _⟩ := DataW.trod_bool Try.underlying4 h3
      obtain ⟨k, hk, _⟩ := DataW.trod_int Try.underlying3 h4
      simp only [List.cons.injEq, and_true] at ht hk
      exact ⟨(t, k), by rw [h1, ht], by rw [h2, hk]⟩
    obtain ⟨f, hf⟩ := choose_lt each
    have hlen : ((List.range len).map f).length = len := by simp
    have hget : ∀ j, j < len → ((List.range len).map f).getD j (false, 0) = f j := fun j hj => by simp [List.getD, hj]
    refine ⟨(List.range len).map f, some a, cap, by rw [hv, hlen], by rw [hlen]; exact hl, ?_, fun j hj => ?_⟩
    · have := bulk_length ((List.range len).map fun i => DataW.agg [D0 i, D1 i])
      simp only [Rows.uptoBulk, List.length_map, List.length_range] at this ⊢
      omega
    · rw [hlen] at hj
      rw [hget j hj]
      have h0 := (hf 0 (by omega)).1
      rw [Nat.zero_mul] at h0
      obtain ⟨b, o, rfl⟩ := plain_of_cell h0
      obtain ⟨h1, h2⟩ := hf j hj
      rw [add_plain] at h1 h2
      exact ⟨b, o, rfl, World.block_lt_of_cell? W _ h1, h1, h2⟩

/-- The rules of a grammar. -/
theorem rules_read (h : DataW.trod enc Try.prog W 0 (fun _ => true) true n 22 [v] = some x) :
    ∃ R : List Ru, RulesAt W W.heap.size v R ∧ ∀ q, (R.getD q (0, [])).2.length ≤ Rows.uptoBulk x.1 := by
  rcases open_slice_pairs Try.underlying22 Try.underlying57 Try.cells57 rfl rfl Try.cells3 Try.cells55 h with ⟨hv, _⟩ | ⟨a, len, cap, m, n', V0, V1, D0, D1, P0, P1, hv, _, hl, _, hm, rfl, hx⟩
  · simp only [List.cons.injEq, and_true] at hv
    exact ⟨[], ⟨⟨none, 0, hv⟩, fun q hq => by simp at hq⟩, fun q => by simp⟩
  · simp only [List.cons.injEq, and_true] at hv
    simp only [if_true] at hm
    have each : ∀ i, i < len → ∃ r : Ru, W.cell? (a.add (i * 2)) = some (.int .i64 r.1) ∧ ∃ qa qc, W.cell? (a.add (i * 2 + 1)) = some (.slice qa r.2.length qc) ∧ r.2.length ≤ qc ∧ r.2.length ≤ Rows.uptoBulk (D1 i) ∧
        ∀ j, j < r.2.length → ∃ b' o', qa = some ⟨b', o', none⟩ ∧ b' < W.heap.size ∧
          W.cell? ⟨b', o' + j * 2, none⟩ = some (.bool (r.2.getD j (false, 0)).1) ∧ W.cell? ⟨b', o' + (j * 2 + 1), none⟩ = some (.int .i64 (r.2.getD j (false, 0)).2) := fun i hi => by
      obtain ⟨h1, h2, h3, h4⟩ := hx i (by omega)
      obtain ⟨k, hk, _⟩ := DataW.trod_int Try.underlying3 h3
      simp only [List.cons.injEq, and_true] at hk
      obtain ⟨Rt, qa, qc, hq, hc, hb, hs⟩ := syms_read h4
      exact ⟨(k, Rt), by rw [h1, hk], qa, qc, by rw [h2, hq], hc, hb, hs⟩
    obtain ⟨f, hf⟩ := choose_lt each
    have hlen : ((List.range len).map f).length = len := by simp
    have hget : ∀ j, j < len → ((List.range len).map f).getD j (0, []) = f j := fun j hj => by simp [List.getD, hj]
    refine ⟨(List.range len).map f, ⟨⟨some a, cap, by rw [hv, hlen]⟩, fun q hq => ?_⟩, fun q => ?_⟩
    · rw [hlen] at hq
      rw [hget q hq]
      have h0 := (hf 0 (by omega)).1
      rw [Nat.zero_mul] at h0
      obtain ⟨b, o, rfl⟩ := plain_of_cell h0
      obtain ⟨h1, qa, qc, h2, hc, _, h3⟩ := hf q hq
      rw [add_plain] at h1 h2
      exact ⟨b, o, cap, qa, qc, by rw [hv, hlen], World.block_lt_of_cell? W _ h1, h1, h2, hc, h3⟩
    · by_cases hq : q < len
      · rw [hget q hq]
        obtain ⟨_, _, _, _, _, hb, _⟩ := hf q hq
        have h1 : DataW.agg [D0 q, D1 q] ∈ (List.range len).map fun i => DataW.agg [D0 i, D1 i] := List.mem_map.2 ⟨q, List.mem_range.2 hq, rfl⟩
        have h2 := bulk_part h1
        simp only [Rows.uptoBulk, Rows.uptoBulkAll] at h2 ⊢
        omega
      · simp [List.getD, List.getElem?_eq_none (show ((List.range len).map f).length ≤ q by omega)]

end

end Go.Proofs.Ytmnechdmgmbpeaa

/- A list that came in as data lies in memory as ListAt says. -/
namespace Go.Proofs.Ytmnechdmgmbpeaa
open Go.ChangeShapes Go.WideShapes Go.ChangeAt Go.RowKit Go.Deep

section
variable {H : Type} {enc : TypeId × Value → H} {W : World} {n : Nat} {v : Value} {x : DataW H × List MemPlace}

/-- The numbers of a list. -/
theorem list_read (h : DataW.trod enc Try.prog W 0 (fun _ => true) true n 25 [v] = some x) : ∃ D : List Int, ListAt W W.heap.size v D := by
  rcases open_slice1 Try.underlying25 Try.cells3 h with ⟨hv, _⟩ | ⟨a, len, cap, m, n', V, D, Pl, hv, _, hl, _, hm, rfl, hx⟩
  · simp only [List.cons.injEq, and_true] at hv
    exact ⟨[], ⟨none, 0, hv⟩, fun p hp => by simp at hp⟩
  · simp only [List.cons.injEq, and_true] at hv
    simp only [if_true] at hm
    have each : ∀ i, i < len → ∃ k : Int, W.cell? (a.add i) = some (.int .i64 k) := fun i hi => by
      obtain ⟨h1, h2⟩ := hx i (by omega)
      obtain ⟨k, hk, _⟩ := DataW.trod_int Try.underlying3 h2
      simp only [List.cons.injEq, and_true] at hk
      exact ⟨k, by rw [h1, hk]⟩
    obtain ⟨f, hf⟩ := choose_lt each
    have hlen : ((List.range len).map f).length = len := by simp
    refine ⟨(List.range len).map f, ⟨some a, cap, by rw [hv, hlen]⟩, fun p hp => ?_⟩
    rw [hlen] at hp
    obtain ⟨b, o, rfl⟩ := plain_of_cell (hf 0 (by omega))
    have h1 := hf p hp
    rw [add_plain] at h1
    exact ⟨b, o, cap, by rw [hv, hlen], World.block_lt_of_cell? W _ h1, by rw [h1]; simp [List.getD, hp]⟩
end

end Go.Proofs.Ytmnechdmgmbpeaa
