import Derived.Test.YtobegekmgoiopaaTkCell
import Derived.Test.YtobegekmgoiopaaTkAllAndOfMem6
/- The contract of package table's cells. -/
namespace Go.Proofs.Ytobegekmgoiopaa
open Go.RowKit

/-- An item is read whole, and has n as lookahead. -/
def doneB (R : List Ru) (lk : Spo → Nat) (k n : Nat) (it : It) : Bool := decide (it.2 = (rightF R it.1).length) && (lk (k, it)).testBit n
def cellG (R : List Ru) (lk : Spo → Nat) (k n : Nat) (L : List It) (c : Ce) : Ce := L.foldl (fun c it => if doneB R lk k n it then putC R it.1 c else c) c

theorem cellG_step {R : List Ru} {lk : Spo → Nat} {k n i : Nat} {O : List It} {c : Ce} {it : It} (hi : i < O.length) (hit : O.getD i (0, 0) = it) : cellG R lk k n (O.take (i + 1)) c = if doneB R lk k n it then putC R it.1 (cellG R lk k n (O.take i) c) else cellG R lk k n (O.take i) c := by
  have e : O[i] = it := by rw [← hit, getD_get hi]
  unfold cellG
  rw [List.take_succ_eq_append_getElem hi, List.foldl_append, e]
  rfl
theorem putC_len (R : List Ru) (r : Nat) (c : Ce) : (putC R r c).2.1.length ≤ c.2.1.length + 1 := by unfold putC; split <;> simp
theorem cellG_len {R : List Ru} {lk : Spo → Nat} {k n : Nat} : ∀ (L : List It) (c : Ce), (cellG R lk k n L c).2.1.length ≤ c.2.1.length + L.length := by
  intro L
  induction L with
  | nil => intro c; exact Nat.le_refl _
  | cons it L ih =>
    intro c
    have h1 := ih (if doneB R lk k n it then putC R it.1 c else c)
    have h2 : (if doneB R lk k n it then putC R it.1 c else c).2.1.length ≤ c.2.1.length + 1 := by
      split
      · exact putC_len _ _ _
      · omega
    show (cellG R lk k n L (if doneB R lk k n it then putC R it.1 c else c)).2.1.length ≤ _
    simp only [List.length_cons]
    omega

theorem pcl_congr {cg M : Nat} {vr : Nat → Value} {f f' : Nat → Ce} (h : ∀ n, n < M → f n = f' n) : Pcl cg vr f M = Pcl cg vr f' M := by
  funext i
  cases i with
  | cl =>
    simp only [Pcl]
    congr 2
    unfold flatF
    simp only [List.flatMap_def]
    congr 1
    exact List.map_congr_left fun n hn => by rw [h n (List.mem_range.1 hn)]
  | rl n =>
    simp only [Pcl]
    by_cases hn : n < M
    · rw [if_pos hn, if_pos hn, h n hn]
    · rw [if_neg hn, if_neg hn]

theorem Try.infoCe : (Try.prog.info? 65).map (fun i => (i.zero, i.size, i.bytes)) = some (some (.agg #[.int .i64 0, .slice none 0 0, .bool false]), 3, 40) := by kernel_rfl
theorem make_cells (n : Nat) (hn : n ≤ 1000000) (u : World) : (Instr.makeSlice 98 (.int .i64 n) (.int .i64 n)).run Try.prog u = .ok (.slice (some ⟨u.heap.size, 0, none⟩) n n) (u.alloc (.cells (madeCells #[.int .i64 0, .slice none 0 0, .bool false] (n * 3)) 65)) := by
  obtain ⟨i0, hi, hz0, hz1, hz2⟩ := info_parts Try.infoCe
  have h := run_make (P := Try.prog) u 98 65 i0 (.agg #[.int .i64 0, .slice none 0 0, .bool false]) Try.underlying98 hi hz0 .i64 .i64 n n (by omega) (Int.le_refl _) (by rw [hz2]; omega) (by omega)
  simpa [hz1, Value.cells] using h

theorem made_flat (M : Nat) : (madeCells #[.int .i64 0, .slice none 0 0, .bool false] (M * 3)).toList = flatF (fun _ => .slice none 0 0) (fun _ => (0, [], false)) M := by
  apply List.ext_getElem?
  intro t
  by_cases ht : t < M * 3
  · have h1 := flatF_get (vr := fun _ => .slice none 0 0) (f := fun _ => ((0, [], false) : Ce)) (M := M) (i := t / 3) (o := t % 3) (by omega) (by omega)
    rw [show t / 3 * 3 + t % 3 = t by omega] at h1
    rw [h1]
    unfold madeCells
    have hc : t % 3 = 0 ∨ t % 3 = 1 ∨ t % 3 = 2 := by omega
    rcases hc with e | e | e <;> simp [ht, e]
  · rw [List.getElem?_eq_none (by simp [size_madeCells]; omega), List.getElem?_eq_none (by rw [flatF_len]; omega)]

theorem pcl_made (w : World) {M : Nat} (hM : M ≤ 100) : Owns (w.alloc (.cells (madeCells #[.int .i64 0, .slice none 0 0, .bool false] (M * 3)) 65)) w.heap.size (Pcl w.heap.size (fun _ => .slice none 0 0) (fun _ => (0, [], false)) M) := by
  have h1 := World.ownsRow_lit (base := w.heap.size) (e := 65) (size := 3) w (madeCells #[.int .i64 0, .slice none 0 0, .bool false] (M * 3)) M (Nat.le_refl _) (by unfold maxLen; omega) (by simp [size_madeCells])
  rw [made_flat] at h1
  refine ⟨fun i r hr => ?_, fun i j a b hij ha hb g h2 h3 => ?_⟩
  · cases i with
    | cl => simp only [Pcl, Option.some.injEq] at hr; subst hr; exact h1
    | rl n =>
      simp only [Pcl] at hr
      split at hr
      · simp only [Option.some.injEq] at hr; subst hr; exact World.ownsRow_nil _ _ _ _
      · cases hr
  · have nil : ∀ n r, Pcl w.heap.size (fun _ => .slice none 0 0) (fun _ => (0, [], false)) M (.rl n) = some r → r.v.ownBlock = none := fun n r hr => by
      simp only [Pcl] at hr
      split at hr
      · simp only [Option.some.injEq] at hr; subst hr; rfl
      · cases hr
    cases i with
    | cl =>
      cases j with
      | cl => exact hij rfl
      | rl n => rw [nil n b hb] at h3; cases h3
    | rl n => rw [nil n a ha] at h2; cases h2

set_option maxRecDepth 100000 in
set_option maxHeartbeats 6400000 in
theorem tk_cells {w0 w : World} {d : TkA} {v : TkV} {G : Wy → Option Value} {ng : Nat} {st : LS} {R : List Ru} {Nu : List Bool} {Fi : List (List Bool)} {Ls : List SetI} {k : Nat} {Z : Nat → Int} (E : TkE w0 d R Nu Fi) (h : TkM w0 w d v G ng st) (hS : SDk R v.OL Ls) (hk : k < v.OL.length) (few : v.OL.length ≤ 150) (hng : ng ≤ 10000000) (hc : st.c ≤ 10000000) (hlk : ∀ s, st.lk s < 512)
    (hZ : ∀ n, n ≤ d.T → Says G (k, (true, (n : Int))) (Z n)) :
    Calls Try.prog 56 #[.pointer (some ⟨d.ma, 0, none⟩), .int .i64 k] w fun e w' => ∃ cg vr, e = .returned (.slice (some ⟨cg, 0, none⟩) (d.T + 1) (d.T + 1)) ∧ Owns w' w.heap.size (Pcl cg vr (fun n => cellG R st.lk k n (v.OL.getD k []) (Z n, [], false)) (d.T + 1)) ∧ Below w.heap.size w w' := by
  have hT := E.hT
  have hlen : (v.OL.getD k []).length ≤ 369 := by
    have := ok_len E.right8 (hS.rep k hk).nod (hS.ok k hk)
    have := E.hR
    omega
  have HOk : Hid (∀ t ∈ v.OL.getD k [], OkIt R t) := hS.ok k hk
  have HE : Hid (TkE w0 d R Nu Fi) := E
  have HM : Hid (TkM w0 w d v G ng st) := h
  have HZ : Hid (∀ n, n ≤ d.T → Says G (k, (true, (n : Int))) (Z n)) := hZ
  have HLK : Hid (∀ s, st.lk s < 512) := hlk
  have a0 := (h.cell (i := 0) rfl (by omega)).1
  have mk0 := make_cells (d.T + 1) (by omega)
  rw [show ((d.T + 1 : Nat) : Int) = (d.T : Int) + 1 from rfl] at mk0
  have HO0 : Hid (Owns (w.alloc (.cells (madeCells #[.int .i64 0, .slice none 0 0, .bool false] ((d.T + 1) * 3)) 65)) w.heap.size (Pcl w.heap.size (fun _ => .slice none 0 0) (fun n => (if n < 0 then Z n else 0, [], false)) (d.T + 1))) := by
    show Owns _ _ _
    have := pcl_made w (M := d.T + 1) (by omega)
    rw [pcl_congr (f' := fun n => (if n < 0 then Z n else 0, [], false)) (fun n _ => by simp)] at this
    exact this
  have HB0 : Hid (Below w.heap.size w (w.alloc (.cells (madeCells #[.int .i64 0, .slice none 0 0, .bool false] ((d.T + 1) * 3)) 65))) := (Below.refl _ _).alloc (Nat.le_refl _) _
  have HK : Hid (k < v.OL.length) := hk
  obtain ⟨M, hM9⟩ : ∃ M, d.T + 1 = M := ⟨_, rfl⟩
  have HMT : Hid (d.T + 1 = M) := hM9
  have hM8 : M ≤ 9 := by omega
  rw [hM9] at mk0 HO0 HB0 ⊢
  clear E h hS hZ hlk hM9
  go_enter Try.func56, Try.ntmps56
  go_wp2_with fail
  clear mk0 a0
  generalize w.alloc (.cells (madeCells #[.int .i64 0, .slice none 0 0, .bool false] (M * 3)) 65) = W1 at HO0 HB0 ⊢
  obtain ⟨cg, hcg⟩ : ∃ cg, w.heap.size = cg := ⟨_, rfl⟩
  rw [show (Value.slice (some { block := w.heap.size, off := 0 }) M M) = (Value.slice (some { block := cg, off := 0 }) M M) by rw [hcg]]
  rw [show Pcl w.heap.size (fun _ => .slice none 0 0) (fun n => (if n < 0 then Z n else 0, [], false)) M = Pcl cg (fun _ => .slice none 0 0) (fun n => (if n < 0 then Z n else 0, [], false)) M by rw [hcg]] at HO0
  clear hcg
  go_loopw [22] (fun s22 wr => ∃ n : Nat, s22 = .int .i64 n ∧ n ≤ M ∧ Owns wr w.heap.size (Pcl cg (fun _ => .slice none 0 0) (fun j => (if j < n then Z j else 0, [], false)) M) ∧ Below w.heap.size w wr) (fun s _ => M - (intOf s).toNat)
  case atStart => exact ⟨0, rfl, Nat.zero_le _, HO0.out, HB0.out⟩
  case round =>
    clear HO0 HB0
    obtain ⟨n, rfl, hn, hO, hB⟩ := hrel
    have HO : Hid (Owns wr w.heap.size (Pcl cg (fun _ => .slice none 0 0) (fun j => (if j < n then Z j else 0, [], false)) M)) := hO
    have HB : Hid (Below w.heap.size w wr) := hB
    by_cases hlt : n < M
    · have got := tk_goesTo (HM.out.below hB) (k := k) (by have := HK.out; omega) (sb := true) (sv := (n : Int)) (by omega) (by omega) hng (HZ.out n (by have := HMT.out; omega))
      obtain ⟨z, hz⟩ : ∃ z, Z n = z := ⟨_, rfl⟩
      rw [hz] at got
      have HZn : Hid (Z n = z) := hz
      obtain ⟨x0, _, _, xf, hcB, hcl⟩ := pcl_cell hO hlt
      simp only [Nat.lt_irrefl, if_false] at x0
      have xf0 := xf (n * 3)
      have i0 : (0 : Int) ≤ (n : Int) := Int.natCast_nonneg _
      have i1 : (n : Int) < (M : Int) := by omega
      clear hO hB hz xf
      go_wp2_with
        (go_at_call 69; refine got.mono ?_; rintro e w2 ⟨rfl, hB2⟩
         have x2 := (hB2.cell (p := ⟨cg, n * 3, none⟩) hcl).trans x0
         have f2 := (hB2.frozen (p := ⟨cg, n * 3, none⟩) hcl).trans xf0
         have HO2 : Hid (Owns w2 w.heap.size (Pcl cg (fun _ => .slice none 0 0) (fun j => (if j < n then Z j else 0, [], false)) M)) := HO.out.below hB2 (Nat.le_refl _)
         have HB2 : Hid (Below w.heap.size w w2) := HB.out.trans (hB2.mono HB.out.size)
         clear hB2)
      go_roundw
      case rel =>
        refine ⟨n + 1, by go_num, by omega, ?_, HB2.out.setCell (by simp only; omega) _⟩
        have h1 := pcl_store (c := (z, [], false)) (u := .int .i64 z) HO2.out hlt (o := 0) (by omega) rfl rfl
        rw [pcl_congr (f' := fun j => (if j < n + 1 then Z j else 0, [], false)) (fun j _ => by
          unfold updF
          by_cases e : j = n
          · subst e; rw [if_pos rfl, if_pos (by omega), HZn.out]
          · rw [if_neg e]
            simp only
            by_cases e2 : j < n
            · rw [if_pos e2, if_pos (by omega)]
            · rw [if_neg e2, if_neg (by omega)])] at h1
        exact h1
      case measure => simp [intOf]; omega
    · obtain rfl : M = n := by omega
      have hM := HM.out.below hB
      have c6 := (hM.cell (i := 6) rfl (by omega)).1
      obtain ⟨sg, sc, hsv, _, q0⟩ := hM.state HK.out
      rw [hsv] at c6
      obtain ⟨⟨ia, ic, hiv⟩, _⟩ := hM.items HK.out
      rw [hiv] at q0
      have HIV : Hid (v.IV k = .slice ia (v.OL.getD k []).length ic) := hiv
      have HO1 : Hid (Owns wr w.heap.size (Pcl cg (fun _ => .slice none 0 0) (fun n => cellG R st.lk k n ((v.OL.getD k []).take 0) (Z n, [], false)) M)) := by
        show Owns _ _ _
        have := hO
        rw [pcl_congr (f' := fun n => cellG R st.lk k n ((v.OL.getD k []).take 0) (Z n, [], false)) (fun j hj => by simp [cellG, hj])] at this
        exact this
      obtain ⟨O, hOe⟩ : ∃ O, v.OL.getD k [] = O := ⟨_, rfl⟩
      have HOe : Hid (v.OL.getD k [] = O) := hOe
      rw [hOe] at q0 HIV HO1 hlen HOk
      have i0 : (0 : Int) ≤ (k : Int) := Int.natCast_nonneg _
      have i1 : (k : Int) < (v.OL.length : Int) := by have := HK.out; omega
      clear hO hB hM hsv hiv hOe HO
      go_wp2_with fail
      clear c6 q0
      go_loopw [43] (fun s43 wq => ∃ (i : Nat) (vr : Nat → Value), s43 = .int .i64 i ∧ i ≤ O.length ∧ Owns wq w.heap.size (Pcl cg vr (fun n => cellG R st.lk k n (O.take i) (Z n, [], false)) M) ∧ Below w.heap.size w wq) (fun s _ => O.length - (intOf s).toNat)
      case atStart => exact ⟨0, _, rfl, Nat.zero_le _, HO1.out, HB.out⟩
      case round =>
        clear HO1 HB
        obtain ⟨i, vr, rfl, hi, hO, hB⟩ := hrel
        have HO : Hid (Owns wr w.heap.size (Pcl cg vr (fun n => cellG R st.lk k n (O.take i) (Z n, [], false)) M)) := hO
        have HB : Hid (Below w.heap.size w wr) := hB
        by_cases hlt : i < O.length
        · have hM := HM.out.below hB
          have hit := hM.items HK.out
          rw [HIV.out, HOe.out] at hit
          obtain ⟨b', o', c', hve, _, q0, q1⟩ := hit.2 i hlt
          cases hve
          rw [← Nat.add_assoc] at q1
          obtain ⟨⟨a, b⟩, hab⟩ : ∃ x, O.getD i (0, 0) = x := ⟨_, rfl⟩
          rw [hab] at q0 q1
          simp only at q0 q1
          have hmem : (a, b) ∈ O := by rw [← hab]; simp [List.getD, hlt]
          have ok := HOk.out _ hmem
          have ha : a ≤ R.length := ok.1
          have hbl : b ≤ (rightF R a).length := ok.2
          have hr8 := HE.out.right8 a ha
          have hR := HE.out.hR
          have i2 : (0 : Int) ≤ (i : Int) := Int.natCast_nonneg _
          have i3 : (i : Int) < (O.length : Int) := by omega
          have HSt : Hid (∀ n, cellG R st.lk k n (O.take (i + 1)) (Z n, [], false) = if doneB R st.lk k n (a, b) then putC R a (cellG R st.lk k n (O.take i) (Z n, [], false)) else cellG R st.lk k n (O.take i) (Z n, [], false)) := fun n => cellG_step hlt hab
          have hM1 := hM.alloc (.cells #[.int .i64 a, .int .i64 b] 121)
          have HX1 : Hid (TkL (wr.alloc (.cells #[.int .i64 a, .int .i64 b] 121)) d v wr.heap.size #[.int .i64 a, .int .i64 b] 121) := hM.box _ _
          have HM1 : Hid (TkM w0 (wr.alloc (.cells #[.int .i64 a, .int .i64 b] 121)) d v G ng st) := hM1
          cases hnx : (rightF R a)[b]? with
          | some s =>
            have nx := tk_next_some (hM1.auto HE.out) ha hnx
            have hlt2 := (List.getElem?_eq_some_iff.1 hnx).1
            have HK2 : Hid (∀ n, cellG R st.lk k n (O.take (i + 1)) (Z n, [], false) = cellG R st.lk k n (O.take i) (Z n, [], false)) := fun n => by
              rw [HSt.out n, if_neg]
              unfold doneB
              simp only [Bool.and_eq_true, decide_eq_true_eq]
              omega
            clear hO hB hM hit hab hmem ok hM1 hnx
            obtain ⟨sb, sv⟩ := s
            simp only at nx
            go_wp2_with
              (go_at_call 65; refine nx.mono ?_; rintro e w2 ⟨rfl, hB2⟩
               have HB2 : Hid (Below wr.heap.size wr w2) := ((Below.refl _ _).alloc (Nat.le_refl _) _).trans (hB2.mono (by simp))
               clear hB2)
            go_roundw
            case rel =>
              have hb := HB2.out.alloc HB2.out.size (.cells #[.bool sb, .int .i64 sv] 102)
              refine ⟨i + 1, vr, by go_num, by omega, ?_, HB.out.trans (hb.mono HB.out.size)⟩
              rw [pcl_congr (f' := fun n => cellG R st.lk k n (O.take i) (Z n, [], false)) (fun n _ => HK2.out n)]
              exact HO.out.below hb (Nat.le_refl _)
            case measure => simp [intOf]; omega
          | none =>
            have hbe : b = (rightF R a).length := by have := List.getElem?_eq_none_iff.1 hnx; omega
            have nx := tk_next_none (a := a) (b := b) (hM1.auto HE.out) ha hbe
            obtain ⟨q, hq⟩ : ∃ q, st.lk (k, (a, b)) = q := ⟨_, rfl⟩
            have hq5 : q < 512 := by rw [← hq]; exact HLK.out _
            have HQ : Hid (st.lk (k, (a, b)) = q) := hq
            have HSt2 : Hid (∀ n, cellG R st.lk k n (O.take (i + 1)) (Z n, [], false) = if q.testBit n then putC R a (cellG R st.lk k n (O.take i) (Z n, [], false)) else cellG R st.lk k n (O.take i) (Z n, [], false)) := fun n => by
              rw [HSt.out n]
              unfold doneB
              simp only
              rw [hq, decide_eq_true hbe, Bool.true_and]
            clear hO hB hM hit hab hmem ok hM1 hnx hq hbe
            go_wp2_with
              (go_at_call 65; refine nx.mono ?_; rintro e w2 ⟨rfl, hB2⟩
               have HM2 : Hid (TkM w0 w2 d v G ng st) := HM1.out.below hB2
               have HX2 : Hid (TkL w2 d v wr.heap.size #[.int .i64 a, .int .i64 b] 121) := HX1.out.below hB2
               have HB2 : Hid (Below wr.heap.size wr w2) := ((Below.refl _ _).alloc (Nat.le_refl _) _).trans (hB2.mono (by simp))
               clear hB2 nx)
            obtain ⟨W3, hW3⟩ : ∃ W3, w2.alloc (.cells #[.bool false, .int .i64 0] 102) = W3 := ⟨_, rfl⟩
            have HM3 : Hid (TkM w0 W3 d v G ng st) := by show TkM _ _ _ _ _ _ _; rw [← hW3]; exact HM2.out.alloc _
            have HX3 : Hid (TkL W3 d v wr.heap.size #[.int .i64 a, .int .i64 b] 121) := by show TkL _ _ _ _ _ _; rw [← hW3]; exact HX2.out.alloc _
            have HB3 : Hid (Below wr.heap.size wr W3) := by show Below _ _ _; rw [← hW3]; exact HB2.out.alloc HB2.out.size _
            rw [hW3]
            clear hW3 HM1 HX1 HM2 HX2 HB2
            have l3 := HM3.out.drew.lookL (s := (k, (a, b))) (by have := HK.out; simp only; omega) (by simp only; omega) (by simp only; omega) hc
            unfold soV at l3
            simp only [HQ.out] at l3
            have c8 := (HM3.out.cell (i := 8) rfl (by omega)).1
            have x0 := HX3.out.cell (i := 0) rfl
            have x1 := HX3.out.cell (i := 1) rfl
            go_cut [11] from 44 to 78 (fun s11 wx => s11 = .int .u32 q ∧ wx = W3.drew)
            case first =>
              go_region
              all_goals
                go_wp2_with fail
                go_meet
                case rel => exact ⟨rfl, rfl⟩
            case rest =>
              obtain ⟨rfl, hwc⟩ := hcut
              have HXc : Hid (TkL wc d v wr.heap.size #[.int .i64 a, .int .i64 b] 121) := by show TkL _ _ _ _ _ _; rw [hwc]; exact HX3.out.drew
              have HBc : Hid (Below wr.heap.size wr wc) := by show Below _ _ _; rw [hwc]; exact HB3.out.drew
              have HOc : Hid (Owns wc w.heap.size (Pcl cg vr (fun n => cellG R st.lk k n (O.take i) (Z n, [], false)) M)) := by show Owns _ _ _; exact HO.out.below HBc.out (Nat.le_refl _)
              have HBw : Hid (Below w.heap.size w wc) := HB.out.trans (HBc.out.mono HB.out.size)
              have HCg : Hid (wr.heap.size ≠ cg ∧ ∀ n, n < M → (vr n).ownBlock ≠ some wr.heap.size) := by
                have h1 := (HO.out.own .cl _ rfl).lt cg rfl
                refine ⟨fun e => by omega, fun n hn e => ?_⟩
                have := ((pcl_rules HO.out hn).lt _ e).2
                omega
              clear hwc l3 c8 x0 x1 HM3 HX3 HB3 HO HB HBc
              obtain ⟨bx, hbx⟩ : ∃ bx, wr.heap.size = bx := ⟨_, rfl⟩
              rw [hbx] at HXc HCg ⊢
              clear hbx
              go_wp2_with fail
              have HOl : Hid (∀ n, (cellG R st.lk k n (O.take i) (Z n, [], false)).2.1.length ≤ 1000) := fun n => by
                have := cellG_len (R := R) (lk := st.lk) (k := k) (n := n) (O.take i) (Z n, [], false)
                have h2 : (O.take i).length ≤ 369 := by rw [List.length_take]; omega
                simp only [List.length_nil] at this
                omega
              go_loopw [64] (fun s64 wq => ∃ (j : Nat) (vr' : Nat → Value), s64 = .int .i64 j ∧ j ≤ M ∧ Owns wq w.heap.size (Pcl cg vr' (fun n => if n < j then cellG R st.lk k n (O.take (i + 1)) (Z n, [], false) else cellG R st.lk k n (O.take i) (Z n, [], false)) M) ∧ Below w.heap.size w wq ∧ wq.heap[bx]? = some (.cells #[.int .i64 a, .int .i64 b] 121) ∧ bx ≠ cg ∧ ∀ n, n < M → (vr' n).ownBlock ≠ some bx) (fun s _ => M - (intOf s).toNat)
              case atStart =>
                refine ⟨0, vr, rfl, Nat.zero_le _, ?_, HBw.out, HXc.out.here, HCg.out.1, HCg.out.2⟩
                rw [pcl_congr (f' := fun n => cellG R st.lk k n (O.take i) (Z n, [], false)) (fun n _ => by simp)]
                exact HOc.out
              case round =>
                clear HOc HBw HXc HCg
                obtain ⟨j, vr', hs64, hj, hO, hB, hbx, hbc, hbv⟩ := hrel
                subst hs64
                have HO : Hid (Owns wr w.heap.size (Pcl cg vr' (fun n => if n < j then cellG R st.lk k n (O.take (i + 1)) (Z n, [], false) else cellG R st.lk k n (O.take i) (Z n, [], false)) M)) := hO
                have HB : Hid (Below w.heap.size w wr) := hB
                have HBx : Hid (wr.heap[bx]? = some (.cells #[.int .i64 a, .int .i64 b] 121) ∧ bx ≠ cg ∧ ∀ n, n < M → (vr' n).ownBlock ≠ some bx) := ⟨hbx, hbc, hbv⟩
                by_cases hjl : j < M
                · have hasc := tk_has (w := wr) (m := q) (n := j) (by omega) (by omega)
                  have b0 : wr.cell? ⟨bx, 0, none⟩ = some (.int .i64 a) := by simp [World.cell?, hbx]
                  have hsj := HSt2.out j
                  have j0 : (0 : Int) ≤ (j : Int) := Int.natCast_nonneg _
                  have j1 : (j : Int) < (M : Int) := by omega
                  cases hbit : q.testBit j with
                  | false =>
                    rw [hbit] at hasc hsj
                    simp only [Bool.false_eq_true, if_false] at hsj
                    have HSj : Hid (cellG R st.lk k j (O.take (i + 1)) (Z j, [], false) = cellG R st.lk k j (O.take i) (Z j, [], false)) := hsj
                    clear hO hB hbx hbc hbv hsj hbit b0
                    go_wp2_with (go_at_call 70; refine hasc.mono ?_; rintro e w5 ⟨rfl, rfl⟩)
                    go_roundw
                    case rel =>
                      refine ⟨j + 1, vr', by go_num, by omega, ?_, HB.out, HBx.out.1, HBx.out.2.1, HBx.out.2.2⟩
                      rw [pcl_congr (f' := fun n => if n < j then cellG R st.lk k n (O.take (i + 1)) (Z n, [], false) else cellG R st.lk k n (O.take i) (Z n, [], false)) (fun n _ => by
                        by_cases e1 : n < j
                        · rw [if_pos e1, if_pos (by omega)]
                        · by_cases e2 : n = j
                          · subst e2; rw [if_pos (by omega), if_neg e1, HSj.out]
                          · rw [if_neg (by omega), if_neg e1])]
                      exact HO.out
                    case measure => simp [intOf]; omega
                  | true =>
                    rw [hbit] at hasc hsj
                    simp only [if_true] at hsj
                    have HSj : Hid (cellG R st.lk k j (O.take (i + 1)) (Z j, [], false) = putC R a (cellG R st.lk k j (O.take i) (Z j, [], false))) := hsj
                    have put := tk_put (r := a) ((HM.out.below hB).drew.auto HE.out) hO.drew (show w.heap.size ≤ wr.drew.heap.size from hB.size) hjl (by simp only [Nat.lt_irrefl, if_false]; exact HOl.out j)
                    simp only [Nat.lt_irrefl, if_false] at put
                    clear hO hB hbx hbc hbv hsj hbit
                    go_wp2_with (go_at_call 70; refine hasc.mono ?_; rintro e w5 ⟨rfl, rfl⟩)
                    refine wp_region_tail 6 (by kernel_rfl) (by kernel_rfl) ?_
                    simp only [List.take_succ_cons, List.take_zero, List.drop_succ_cons, List.drop_zero]
                    repeat still_step
                    refine wpStill_nil ?_
                    go_wp2_with (go_at_call 71; refine put.mono ?_; rintro e w6 ⟨rfl, vr6, hO6, hv6, hK6⟩)
                    go_roundw
                    case rel =>
                      have hcB := (HO.out.own .cl _ rfl).lt cg rfl
                      have hkb : ¬ (bx = cg ∨ (vr' j).ownBlock = some bx) := fun e => e.elim HBx.out.2.1 (HBx.out.2.2 j hjl)
                      have hlt5 : bx < w5.heap.size := (Array.getElem?_eq_some_iff.1 HBx.out.1).1
                      refine ⟨j + 1, vr6, by go_num, by omega, ?_, ?_, (hK6.block bx hlt5 hkb).trans HBx.out.1, HBx.out.2.1, fun n hn e => ?_⟩
                      · rw [pcl_congr (f' := updF (fun n => if n < j then cellG R st.lk k n (O.take (i + 1)) (Z n, [], false) else cellG R st.lk k n (O.take i) (Z n, [], false)) j (putC R a (cellG R st.lk k j (O.take i) (Z j, [], false)))) (fun n _ => by
                          unfold updF
                          by_cases e2 : n = j
                          · subst e2; rw [if_pos (by omega), if_pos rfl, HSj.out]
                          · rw [if_neg e2]
                            simp only
                            by_cases e1 : n < j
                            · rw [if_pos e1, if_pos (by omega)]
                            · rw [if_neg e1, if_neg (by omega)])]
                        exact hO6
                      · have hbel : Below w.heap.size w5.drew w6 := hK6.below (fun b hb => by
                          rcases hb with rfl | hb
                          · exact hcB.1
                          · exact ((pcl_rules HO.out hjl).lt b hb).1) HB.out.size
                        exact HB.out.trans ((Below.refl _ _).drew.trans hbel)
                      · rcases hv6 n bx e with h1 | h1
                        · exact HBx.out.2.2 n hn h1
                        · have : w5.drew.heap.size = w5.heap.size := rfl
                          omega
                    case measure => simp [intOf]; omega
                · obtain rfl : M = j := by omega
                  have HOe2 : Hid (Owns wr w.heap.size (Pcl cg vr' (fun n => cellG R st.lk k n (O.take (i + 1)) (Z n, [], false)) M)) := by
                    show Owns _ _ _
                    rw [pcl_congr (f' := fun n => if n < M then cellG R st.lk k n (O.take (i + 1)) (Z n, [], false) else cellG R st.lk k n (O.take i) (Z n, [], false)) (fun n hn => by rw [if_pos hn])]
                    exact hO
                  clear hO hB hbx hbc hbv
                  go_wp2_with fail
                  go_roundw
                  case rel =>
                    exact ⟨i + 1, vr', by go_num, by omega, HOe2.out, HB.out⟩
                  case measure => simp [intOf]; omega
        · obtain rfl : i = O.length := by omega
          rw [List.take_length] at hO
          have HOf : Hid (Owns wr w.heap.size (Pcl cg vr (fun n => cellG R st.lk k n O (Z n, [], false)) M)) := hO
          clear hO hB
          go_wp2_with fail
          go_ret
          exact ⟨cg, vr, rfl, by rw [HOe.out]; exact HOf.out, HB.out⟩

end Go.Proofs.Ytobegekmgoiopaa

/- HeldTail, where what only reads does not stand ahead of all else in the text: the numbers of the operations that are taken first, and of those that follow, are given as lists. No program. -/
namespace Go.Proofs.Ytobegekmgoiopaa

section
variable {P : Program} {ops : Array Oper} {Q : Exit → Act → World → Prop} {md : Region.Mode} {S : World → Prop}

def seqI (md : Region.Mode) (ops : Array Oper) : List Nat → Array Bool → Bool
  | [], listed => (Region.ready md ops listed).isEmpty
  | k :: ks, listed => decide (Region.ready md ops listed = [k]) && seqI md ops ks (listed.setIfInBounds k true)
def lexI (md : Region.Mode) (ops : Array Oper) (ts : List Nat) : List Nat → Array Bool → Bool
  | [], listed => seqI md ops ts listed
  | k :: ks, listed => (Region.ready md ops listed).contains k && Region.free md ops listed k && lexI md ops ts ks (listed.setIfInBounds k true)

/-- Those that are taken first. -/
def StillI (P : Program) (ops : Array Oper) (S : World → Prop) (K : Act → Prop) : List Nat → Act → Prop
  | [], a => K a
  | i :: l, a => ∃ o v, ops[i]? = some o ∧ YieldsIf P ops S o v a ∧ StillI P ops S K l (a.put o.dst v)
theorem StillI.cons {K : Act → Prop} {i : Nat} {o : Oper} {l : List Nat} {a : Act} {v : Value} (ho : ops[i]? = some o) (hw : Region.wanted o (yielded ops a.tmps) = true) (hy : ∀ w, S w → (execOp a.eval o).run P w = .ok (.value v) w) (h : StillI P ops S K l (a.put o.dst v)) : StillI P ops S K (i :: l) a :=
  ⟨o, v, ho, .inl ⟨hw, hy⟩, h⟩

/-- Those that follow. -/
def TailI (P : Program) (ops : Array Oper) (Q : Exit → Act → World → Prop) (S : World → Prop) (n : Nat) : List Nat → Act → World → Prop
  | [], a, w => Q .normal a w
  | k :: l, a, w => ∃ o, ops[k]? = some o ∧ ∀ K : Act → World → Prop, Shut (∀ a w, (k < n → S w) → TailI P ops Q S n l a w → K a w) → if Region.wanted o (yielded ops a.tmps) = true then Oper.wp P o a w K Q else K (a.put o.dst undef) w
theorem TailI.cons {n k : Nat} {o : Oper} {l : List Nat} {a : Act} {w : World} (ho : ops[k]? = some o) (h : ∀ K : Act → World → Prop, Shut (∀ a w, (k < n → S w) → TailI P ops Q S n l a w → K a w) → if Region.wanted o (yielded ops a.tmps) = true then Oper.wp P o a w K Q else K (a.put o.dst undef) w) : TailI P ops Q S n (k :: l) a w := ⟨o, ho, h⟩

theorem wpAnyG_of_seqI {n : Nat} : ∀ (l : List Nat) (listed : Array Bool) (a : Act) (w : World), seqI md ops l listed = true → TailI P ops Q S n l a w → wpAnyG P md ops Q S n l.length listed a w
  | [], _, _, _, hB, h => ⟨by simpa [seqI] using hB, h⟩
  | k :: l, listed, a, w, hB, h => by
    simp only [seqI, Bool.and_eq_true, decide_eq_true_eq] at hB
    obtain ⟨o, h0, h⟩ := h
    refine ⟨fun h1 => (by rw [hB.1] at h1; cases h1), fun i hi => ?_⟩
    rw [hB.1] at hi
    have hik : i = k := by simpa using hi
    subst hik
    have h1 := h (fun a' w' => (i < n → S w') ∧ wpAnyG P md ops Q S n l.length (listed.setIfInBounds i true) a' w')
      (fun a' w' hS hT => ⟨hS, wpAnyG_of_seqI l _ a' w' hB.2 hT⟩)
    unfold wpOp
    simp only [h0]
    split
    · rename_i hw
      rw [if_pos hw] at h1
      exact .inl h1
    · rename_i hw
      rw [if_neg hw] at h1
      exact h1

theorem wpAnyG_lexI {n : Nat} {ts : List Nat} (hsel : Region.noSelect ops = true) (hQ : ∀ c a d v w, Q (.panic c) (a.put d v) w → Q (.panic c) a w) (hs : Region.sinkB md ops n = true) (hc : Region.chainB md ops n = true) (hn : n < ops.size) {w : World} (hS : S w) :
    ∀ (l : List Nat) (listed : Array Bool) (a : Act), (∀ i ∈ l, i < n) → HeadInv md ops n listed → lexI md ops ts l listed = true → StillI P ops S (fun a' => TailI P ops Q S n ts a' w) l a →
    wpAnyG P md ops Q S n (l.length + ts.length) listed a w
  | [], listed, a, _, _, hB, h => by
    simp only [List.length_nil, Nat.zero_add]
    exact wpAnyG_of_seqI ts listed a w (by simpa [lexI] using hB) h
  | k :: l, listed, a, hl, inv, hB, h => by
    simp only [lexI, Bool.and_eq_true] at hB
    obtain ⟨⟨hr, hf⟩, hB'⟩ := hB
    have hkn := hl k (by simp)
    have hr' : k ∈ Region.ready md ops listed := by simpa using hr
    obtain ⟨o, v, h0, hy, hK⟩ := h
    rw [show (k :: l).length + ts.length = (l.length + ts.length) + 1 by simp only [List.length_cons]; omega]
    exact wpAnyG_first h0 (Region.noSelect_spec hsel) (fun c a w => hQ c a _ _ w) hs hc hn hkn _ listed a w inv (Region.free_spec h0 hf) hr' hy hS
      (wpAnyG_lexI hsel hQ hs hc hn hS l _ _ (fun i hi => hl i (List.mem_cons_of_mem _ hi)) (inv.set hr' hkn) hB' hK)

def heldSeqB (ops : Array Oper) (hs ts : List Nat) (n : Nat) : Bool :=
  Region.noSelect ops && decide (n < ops.size) && Region.sinkB .any ops n && Region.chainB .any ops n && (hs.all fun i => decide (i < n)) && decide (hs.length + ts.length = ops.size) && lexI .any ops ts hs (Array.replicate ops.size false)

theorem wp_region_held_seq {id : Nat} {a : Act} {w : World} (hs ts : List Nat) (n : Nat) (S : World → Prop) (hm : P.follows .mixedOrders = true) (hB : heldSeqB ops hs ts n = true) (hS : S w.drew)
    (h : StillI P ops S (fun a' => TailI P ops (NoPanic Q) S n ts a' w.drew) hs a) : (Code.region id ops true).wp P Q a w := by
  simp only [heldSeqB, Bool.and_eq_true, decide_eq_true_eq, List.all_eq_true] at hB
  obtain ⟨⟨⟨⟨⟨⟨hsel, hn⟩, hsk⟩, hc⟩, hl⟩, hlen⟩, hlex⟩ := hB
  have inv0 : HeadInv .any ops n (Array.replicate ops.size false) :=
    ⟨by simp, fun j oj _ hl => (by rw [getD_replicate_false] at hl; cases hl), fun t _ ht => Go.getD_in (by simpa using ht) (getD_replicate_false _ _)⟩
  refine wp_region_noPanic (wp_region_any hm (wpAny_of_G (S := S) (n := n) _ _ _ _ ?_))
  have := wpAnyG_lexI (md := .any) (Q := NoPanic Q) hsel (fun _ _ _ _ _ h => h) hsk hc hn hS hs _ a hl inv0 hlex h
  rw [hlen] at this
  exact this
end

end Go.Proofs.Ytobegekmgoiopaa
