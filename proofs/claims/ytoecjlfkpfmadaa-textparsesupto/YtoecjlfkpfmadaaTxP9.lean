/- The contract of pollardingref9's Parse. -/
import Derived.Test.YtoecjlfkpfmadaaTxLl
import Derived.Test.YtoecjlfkpfmadaaMay1
namespace Go.Proofs.Ytoecjlfkpfmadaa
open Go.RowKit

/-- Within Parse: the grammar that grows, the empty one; what was there before it is as it was. -/
structure P9 (w2 : World) (q : Nat) (T N : Int) (rv : Value) (RL : List (Value × Ru)) (wr : World) : Prop where
  gr : GR wr q T N rv RL
  no : wr.heap[q + 1]? = some (.cells #[.int .i64 0, .int .i64 0, .slice none 0 0] 24 (0, 0))
  below : Below q w2 wr
/-- What was there before: the results' boxes, the lines. -/
structure Q9 (w w2 : World) (p q n : Nat) (la : Option Addr) (lc : Nat) (P : List (List UInt8)) : Prop where
  r0 : w2.heap[p]? = some (.cells #[.int .i64 0, .int .i64 0, .slice none 0 0] 24 (0, 0))
  r1 : w2.heap[p + 1]? = some (.cells #[.int .i64 0, .int .i64 0] 27 (0, 0))
  own : w2.ownsRow (p + 2) 9 1 (.slice la (n + 1) lc) (n + 1) (strV9 P)
  size : w2.heap.size = q
  le : p + 2 ≤ q
  below : Below p w w2
section
variable {w w2 wr w' : World} {p q n : Nat} {T N : Int} {rv : Value} {RL : List (Value × Ru)} {la : Option Addr} {lc : Nat} {P : List (List UInt8)}
theorem P9.lt (h : P9 w2 q T N rv RL wr) : q + 1 < wr.heap.size := (Array.getElem?_eq_some_iff.1 h.no).1
theorem P9.later (h : P9 w2 q T N rv RL wr) (hb : Below wr.heap.size wr w') : P9 w2 q T N rv RL w' :=
  ⟨h.gr.later hb, (hb.block _ h.lt).trans h.no, h.below.trans (hb.mono (by have := h.lt; omega))⟩
theorem own_cell {base : Nat} {m : Nat} {x : List UInt8} {g : Nat} (h : wr.ownsRow base 9 1 (.slice (some ⟨g, 0, none⟩) m lc) m (strV9 P)) {k : Nat} (hx : P[k]? = some x) : wr.cell? ⟨g, k, none⟩ = some (.string ⟨x.toArray⟩) := by
  have hk : k < P.length := (List.getElem?_eq_some_iff.1 hx).1
  have hl : (strV9 P).length = m * 1 := h.1
  simp only [strV9, List.length_map] at hl
  have := h.cellAt k (by omega)
  rw [this]
  simp [strV9, hx]
theorem own_some {base : Nat} {e : TypeId} {size n : Nat} {xs : List Value} (h : wr.ownsRow base e size (.slice la (n + 1) lc) (n + 1) xs) : ∃ g, la = some ⟨g, 0, none⟩ ∧ base ≤ g ∧ g < wr.heap.size := by
  rcases h.2 with ⟨_, h2⟩ | ⟨g, cap, cur, h1, _⟩
  · omega
  · injection h1 with h1 _ _
    subst h1
    exact ⟨g, rfl, (h.lt g rfl).1, (h.lt g rfl).2⟩

theorem P9.apart (h : P9 w2 q T N rv RL wr) : rv.ownBlock ≠ some (q + 1) := by
  rcases h.gr.own.2 with ⟨h1, _⟩ | ⟨g, cap, cur, h1, _, h3, _⟩
  · rw [h1]; simp [Value.ownBlock]
  · rw [h1]
    simp only [Value.ownBlock, ne_eq, Option.some.injEq]
    intro e
    rw [e, h.no] at h3
    simp at h3
/-- What a return of the empty grammar reads and writes. -/
theorem P9.reads (h : P9 w2 q T N rv RL wr) (hQ : Q9 w w2 p q n la lc P) :
    (wr.cell? ⟨q + 1, 0, none⟩ = some (.int .i64 0) ∧ wr.cell? ⟨q + 1, 1, none⟩ = some (.int .i64 0) ∧ wr.cell? ⟨q + 1, 2, none⟩ = some (.slice none 0 0)) ∧
    (wr.cell? ⟨p, 0, none⟩ = some (.int .i64 0) ∧ wr.cell? ⟨p, 1, none⟩ = some (.int .i64 0) ∧ wr.cell? ⟨p, 2, none⟩ = some (.slice none 0 0)) ∧
    (wr.frozen? ⟨p, 0, none⟩ = false ∧ wr.frozen? ⟨p, 1, none⟩ = false ∧ wr.frozen? ⟨p, 2, none⟩ = false) ∧
    (wr.cell? ⟨p + 1, 0, none⟩ = some (.int .i64 0) ∧ wr.cell? ⟨p + 1, 1, none⟩ = some (.int .i64 0)) ∧ wr.frozen? ⟨p + 1, 0, none⟩ = false ∧ wr.frozen? ⟨p + 1, 1, none⟩ = false := by
  have hle := hQ.le
  have y0 := (h.below.block p (by omega)).trans hQ.r0
  have y1 := (h.below.block (p + 1) (by omega)).trans hQ.r1
  exact ⟨⟨cell_bk9 h.no rfl, cell_bk9 h.no rfl, cell_bk9 h.no rfl⟩, ⟨cell_bk9 y0 rfl, cell_bk9 y0 rfl, cell_bk9 y0 rfl⟩, ⟨frozen_bk9 y0, frozen_bk9 y0, frozen_bk9 y0⟩, ⟨cell_bk9 y1 rfl, cell_bk9 y1 rfl⟩, frozen_bk9 y1, frozen_bk9 y1⟩
/-- And what it leaves. -/
theorem P9.ends (h : P9 w2 q T N rv RL wr) (hQ : Q9 w w2 p q n la lc P) (A0 A1 A2 B0 B1 : Value) : ∃ W, ((((wr.setCell ⟨p, 0, none⟩ A0).setCell ⟨p, 1, none⟩ A1).setCell ⟨p, 2, none⟩ A2).setCell ⟨p + 1, 0, none⟩ B0).setCell ⟨p + 1, 1, none⟩ B1 = W ∧
    W.cell? ⟨p, 0, none⟩ = some A0 ∧ W.cell? ⟨p, 1, none⟩ = some A1 ∧ W.cell? ⟨p, 2, none⟩ = some A2 ∧ W.cell? ⟨p + 1, 0, none⟩ = some B0 ∧ W.cell? ⟨p + 1, 1, none⟩ = some B1 ∧ Below p w W ∧ RulesAt W W.heap.size rv (RL.map fun x => x.2) := by
  have hle := hQ.le
  have y0 := (h.below.block p (by omega)).trans hQ.r0
  have y1 := (h.below.block (p + 1) (by omega)).trans hQ.r1
  obtain ⟨u, W, hW, q0, q1, hu1, hu2, hB⟩ := pa_end (A0 := A0) (A1 := A1) (A2 := A2) (B0 := B0) (B1 := B1) y0 y1
  have hg := ((h.gr.but hu1 (by omega)).but hu2 (by omega)).rules
  exact ⟨W, hW, cell_bk9 q0 rfl, cell_bk9 q0 rfl, cell_bk9 q0 rfl, cell_bk9 q1 rfl, cell_bk9 q1 rfl, (hQ.below.trans (h.below.mono (by omega))).trans hB, hg⟩
theorem P9.put (h : P9 w2 q T N rv RL wr) {v : Value} {r : Ru} (hv : wr.ownsRow (q + 1) 40 2 v r.2.length (flatY9 r.2)) (hd : ∀ g, v.ownBlock = some g → rv.ownBlock ≠ some g) {g cap : Nat}
    (hg : wr.grownBy w' rv.ownBlock) (hn : rv.ownBlock = some g ∨ g = wr.heap.size) (ho : w'.ownsRow (q + 1) 45 2 (.slice (some ⟨g, 0, none⟩) (RL.length + 1) cap) (RL.length + 1) (flatR9 RL ++ [.int .i64 r.1, v])) :
    P9 w2 q T N (.slice (some ⟨g, 0, none⟩) (RL.length + 1) cap) (RL ++ [(v, r)]) (w'.setCell ⟨q, 2, none⟩ (.slice (some ⟨g, 0, none⟩) (RL.length + 1) cap)) := by
  have hlt := h.lt
  refine ⟨h.gr.put hv hd hg hn ho, ?_, ?_⟩
  · exact (Below.heap_setCell _ _ _ (q + 1) (by show q + 1 ≠ q; omega)).trans ((hg.block (q + 1) hlt fun e => h.apart e.symm).trans h.no)
  · have hB : Below q wr w' := ⟨hg.os, hg.tape, hg.output, hg.size, fun i hi => hg.block i (by omega) fun e => by have := (h.gr.own.lt i e.symm).1; omega⟩
    exact h.below.trans (hB.setCell (Nat.le_refl _) _)
theorem mid_onG {V : List (List UInt8)} {f i : Nat} {u : List UInt8} (hf : f ≤ i) (hu : V[i]? = some u) : (V.take (i + 1)).drop f = (V.take i).drop f ++ [u] := by
  obtain ⟨hi, hu⟩ := List.getElem?_eq_some_iff.1 hu
  rw [List.take_succ_eq_append_getElem hi, hu, List.drop_append_of_le_length (by simp; omega)]
theorem P9.head (h : P9 w2 q T N rv RL wr) (T' N' : Int) : P9 w2 q T' N' rv RL ((wr.setCell ⟨q, 0, none⟩ (.int .i64 T')).setCell ⟨q, 1, none⟩ (.int .i64 N')) := by
  have hb : But q wr ((wr.setCell ⟨q, 0, none⟩ (.int .i64 T')).setCell ⟨q, 1, none⟩ (.int .i64 N')) := (But.set _ _ _).trans (But.set _ _ _)
  have hlt := h.lt
  exact ⟨h.gr.head hb (Lib.heap_setCell_same (i := 1) (Lib.heap_setCell_same (i := 0) h.gr.at_ _) _), (hb.block _ hlt (by omega)).trans h.no, h.below.trans (hb.below (Nat.le_refl _) (by omega))⟩
set_option maxRecDepth 100000 in
set_option maxHeartbeats 3200000 in
theorem parse9_any (w : World) (s : List UInt8) (hs : s.length ≤ 1048576) : Calls Try.prog 5 #[.string ⟨s.toArray⟩] w fun e w' =>
    ((pa9 s = true ∧ ∃ rv, e = .returned (.tuple #[.agg #[.int .i64 (T9 s : Nat), .int .i64 (N9 s : Nat), rv], .agg #[.int .i64 0, .int .i64 0]]) ∧ RulesAt w' w'.heap.size rv (R9 s)) ∨
      (pa9 s = false ∧ e = .returned (.tuple #[.agg #[.int .i64 0, .int .i64 0, .slice none 0 0], .agg #[.int .i64 2, .int .i64 (K9 s : Nat)]]))) ∧ Below w.heap.size w w' := by
  obtain ⟨p, hp⟩ : ∃ x, w.heap.size = x := ⟨_, rfl⟩
  obtain ⟨W1, hW1⟩ : ∃ V, (w.alloc (.cells #[.int .i64 0, .int .i64 0, .slice none 0 0] 24)).alloc (.cells #[.int .i64 0, .int .i64 0] 27) = V := ⟨_, rfl⟩
  have hx0 : W1.heap[p]? = some (.cells #[.int .i64 0, .int .i64 0, .slice none 0 0] 24 (0, 0)) := by
    rw [← hW1, ← hp]
    exact (Below.heap_alloc _ _ _ (by simp)).trans (heap_alloc_new w _)
  have hx1 : W1.heap[p + 1]? = some (.cells #[.int .i64 0, .int .i64 0] 27 (0, 0)) := by
    have := heap_alloc_new (w.alloc (.cells #[.int .i64 0, .int .i64 0, .slice none 0 0] 24)) (.cells #[.int .i64 0, .int .i64 0] 27)
    rw [hW1] at this
    simpa [hp] using this
  have hz1 : W1.heap.size = p + 2 := by rw [← hW1]; simp [hp]
  have hB1 : Below p w W1 := by rw [← hW1, ← hp]; exact ((Below.refl _ _).alloc (Nat.le_refl _) _).alloc (by simp) _
  have H1 : Hid (W1.heap[p]? = some (.cells #[.int .i64 0, .int .i64 0, .slice none 0 0] 24 (0, 0)) ∧ W1.heap[p + 1]? = some (.cells #[.int .i64 0, .int .i64 0] 27 (0, 0)) ∧ W1.heap.size = p + 2 ∧ Below p w W1) := ⟨hx0, hx1, hz1, hB1⟩
  have HW : Hid ((w.alloc (.cells #[.int .i64 0, .int .i64 0, .slice none 0 0] 24)).alloc (.cells #[.int .i64 0, .int .i64 0] 27) = W1 ∧ w.heap.size = p) := ⟨hW1, hp⟩
  have st := split_any W1 s 10 (by omega)
  rw [hz1] at st
  obtain ⟨n, hn⟩ : ∃ n, (linesL s).length = n := ⟨_, rfl⟩
  obtain ⟨P, hP⟩ : ∃ P, splitB 10 s = P := ⟨_, rfl⟩
  have hsl := split_lines s
  have hlen := splitB_len 10 s
  rw [hn, hP] at hsl
  rw [hP] at st hlen
  rw [hsl.1] at st hlen
  have hn2 : n ≤ 1048576 := by omega
  have HP : Hid ((linesL s).length = n ∧ (∀ k, k < n → P[k]? = some ((linesL s).getD k [])) ∧ P[n]? = some (lastL s) ∧ ∀ x ∈ P, x.length ≤ 1048576) := by
    refine ⟨hn, fun k hk => ?_, ?_, fun x hx => ?_⟩
    · rw [← hsl.2.1 k hk]
      have : k < P.length := by omega
      simp [List.getD, this]
    · rw [← hsl.2.2]
      have : n < P.length := by omega
      simp [List.getD, this]
    · obtain ⟨u, Q, e1, e2, _⟩ := splitB_form 10 s
      have hx2 : x.length ≤ s.length := by
        rw [hP] at e1
        rw [e1] at hx
        rw [e2]
        rcases List.mem_cons.1 hx with hx | hx
        · rw [hx]; simp
        · have : ((10 : UInt8) :: x).length ≤ (Q.map fun l => (10 : UInt8) :: l).flatten.length := (List.sublist_flatten_of_mem (List.mem_map_of_mem hx)).length_le
          simp only [List.length_cons] at this
          rw [List.length_append]
          omega
      omega
  clear hp hW1 hx0 hx1 hz1 hB1 hsl hlen hn hP
  rw [HW.out.2]
  go_enter Try.func5, Try.ntmps5
  go_upto_region 1 with fail
  rw [HW.out.1]
  rw [HW.out.2]
  clear HW
  go_upto_region 2 with
    (go_at_call 9; refine st.mono ?_; rintro e w2 ⟨lv, rfl, h2, h3⟩
     obtain ⟨la, lc, hlv⟩ := own_form9 h2
     subst hlv
     clear st)
  obtain ⟨q, hq⟩ : ∃ x, w2.heap.size = x := ⟨_, rfl⟩
  have HQ : Hid (Q9 w w2 p q n la lc P) := by
    have hsz := h3.size
    have := H1.out.2.2.1
    exact ⟨(h3.block p (by omega)).trans H1.out.1, (h3.block (p + 1) (by omega)).trans H1.out.2.1, h2, hq, by omega, H1.out.2.2.2.trans (h3.mono (by omega))⟩
  have hz : w2.heap.size = q := hq
  obtain ⟨W3, hW3⟩ : ∃ V, (w2.alloc (.cells #[.int .i64 0, .int .i64 0, .slice none 0 0] 24)).alloc (.cells #[.int .i64 0, .int .i64 0, .slice none 0 0] 24) = V := ⟨_, rfl⟩
  have H3 : Hid (P9 w2 q ((0 : Nat) : Int) ((0 : Nat) : Int) (.slice none 0 0) [] W3) := by
    refine ⟨⟨?_, World.ownsRow_nil .., fun x hx => by cases hx⟩, ?_, ?_⟩
    · rw [← hW3, ← hq]
      exact (Below.heap_alloc _ _ _ (by simp)).trans (heap_alloc_new w2 _)
    · have := heap_alloc_new (w2.alloc (.cells #[.int .i64 0, .int .i64 0, .slice none 0 0] 24)) (.cells #[.int .i64 0, .int .i64 0, .slice none 0 0] 24)
      rw [hW3] at this
      simpa [hq] using this
    · rw [← hW3, ← hq]
      exact ((Below.refl _ _).alloc (Nat.le_refl _) _).alloc (by simp) _
  have HW : Hid ((w2.alloc (.cells #[.int .i64 0, .int .i64 0, .slice none 0 0] 24)).alloc (.cells #[.int .i64 0, .int .i64 0, .slice none 0 0] 24) = W3) := hW3
  clear h2 h3 hq hz hW3 H1
  have hwr : wrap64 ((n : Int) + 1 - 1) = (n : Int) := by
    have : ((n : Int) + 1 - 1) = (n : Int) := by omega
    rw [this]
    exact IntWalk.wrap64_in _ (by omega)
  go_wp2_with fail
  rw [HW.out]
  rw [HQ.out.size]
  clear HW
  go_loopw [8] (fun v8 wr => ∃ (k T N : Nat) (rv : Value) (RL : List (Value × Ru)), v8 = .int .i64 k ∧ k ≤ n ∧ PfI s k T N (RL.map fun x => x.2) ∧ P9 w2 q T N rv RL wr) (fun v _ => n - (intOf v).toNat)
  case atStart => exact ⟨0, 0, 0, _, [], rfl, Nat.zero_le _, PfI.start s, H3.out⟩
  case round =>
    obtain ⟨k, T, N, rv, RL, rfl, hk, hI, hR⟩ := hrel
    obtain ⟨ra, rc, hrv⟩ := own_form9 hR.gr.own
    subst hrv
    obtain ⟨lg, hlg, hlg1, hlg2⟩ := own_some HQ.out.own
    subst hlg
    have HI : Hid (PfI s k T N (RL.map fun x => x.2)) := hI
    by_cases hlt : k < n
    · have d1 : decide ((k : Int) < (n : Int)) = true := decide_eq_true (by omega)
      obtain ⟨a, ha⟩ : ∃ x, (linesL s).getD k [] = x := ⟨_, rfl⟩
      have hPa := HP.out.2.1 k hlt
      rw [ha] at hPa
      have hla : a.length ≤ 1048576 := HP.out.2.2.2 a (List.mem_of_getElem? hPa)
      have HA : Hid ((linesL s).getD k [] = a) := ha
      have hlq : lg < q := by have := HQ.out.size; omega
      have cl : wr.cell? ⟨lg, k, none⟩ = some (.string ⟨a.toArray⟩) := (World.cell?_of_block (hR.below.block lg hlq)).trans (own_cell HQ.out.own hPa)
      have sp := split_any wr a 32 (by omega)
      have HR : Hid (P9 w2 q T N (.slice ra RL.length rc) RL wr) := hR
      clear hI hR ha hPa
      obtain ⟨V, hV⟩ : ∃ x, splitB 32 a = x := ⟨_, rfl⟩
      rw [hV] at sp
      have HV : Hid (splitB 32 a = V) := hV
      clear hV
      by_cases hk0 : k = 0
      · have e0 : ((k : Int) == 0) = true := by simp [hk0]
        have HK : Hid (k = 0) := hk0
        clear hk0
        go_upto_region 10 with
          (go_at_call 9; refine sp.mono ?_; rintro e w4 ⟨vv, rfl, h4, h5⟩
           obtain ⟨va, vc, hvv⟩ := own_form9 h4
           subst hvv
           clear sp)
        obtain ⟨m, hm⟩ : ∃ m, V.length = m + 1 := by
          obtain ⟨u, Q, e1, _⟩ := splitB_form 32 a
          exact ⟨Q.length, by rw [← HV.out, e1]; rfl⟩
        rw [hm] at h4
        rw [hm]
        obtain ⟨vg, hvg, hvg1, hvg2⟩ := own_some h4
        subst hvg
        obtain ⟨b, hb⟩ : ∃ x, w4.heap.size = x := ⟨_, rfl⟩
        obtain ⟨W5, hW5⟩ : ∃ X, w4.alloc (.cells #[.int .i64 2, .int .i64 (k : Int)] 27) = X := ⟨_, rfl⟩
        rw [hW5]
        rw [hb]
        have hB5 : Below w4.heap.size w4 W5 := by rw [← hW5]; exact (Below.refl _ _).alloc (Nat.le_refl _) _
        have hx5 := heap_alloc_new w4 (.cells #[.int .i64 2, .int .i64 (k : Int)] 27)
        rw [hW5, hb] at hx5
        have H5 : Hid (P9 w2 q T N (.slice ra RL.length rc) RL W5 ∧ W5.heap[b]? = some (.cells #[.int .i64 2, .int .i64 (k : Int)] 27 (0, 0)) ∧ W5.ownsRow wr.heap.size 9 1 (.slice (some ⟨vg, 0, none⟩) (m + 1) vc) (m + 1) (strV9 V)) := ⟨(HR.out.later h5).later hB5, hx5, own_same h4 fun g hg => hB5.block g (h4.lt g hg).2⟩
        have hpb : p + 1 < b := by have := HR.out.lt; have := h5.size; have := HQ.out.le; omega
        have hbp : ¬ b = p := by omega
        have hbp2 : ¬ p = b := by omega
        clear hW5 hB5 hx5 h4 h5
        obtain ⟨⟨n0, n1, n2⟩, ⟨r0, r1, r2⟩, ⟨f0, f1, f2⟩, ⟨s0, s1⟩, g0, g1⟩ := H5.out.1.reads HQ.out
        have x0 := cell_bk9 (i := 0) H5.out.2.1 rfl
        have x1 := cell_bk9 (i := 1) H5.out.2.1 rfl
        by_cases hm4 : m = 3
        · subst hm4
          obtain ⟨a0, a1, a2, a3, hVV⟩ : ∃ a0 a1 a2 a3, V = [a0, a1, a2, a3] := by
            match V, hm with
            | [a0, a1, a2, a3], _ => exact ⟨a0, a1, a2, a3, rfl⟩
          have c0 := own_cell H5.out.2.2 (k := 0) (x := a0) (by rw [hVV]; rfl)
          have c1 := own_cell H5.out.2.2 (k := 1) (x := a1) (by rw [hVV]; rfl)
          have c2 := own_cell H5.out.2.2 (k := 2) (x := a2) (by rw [hVV]; rfl)
          have c3 := own_cell H5.out.2.2 (k := 3) (x := a3) (by rw [hVV]; rfl)
          have hW0 : hdW a = (a0 == [116, 101, 114, 109, 115] && a2 == [110, 97, 109, 101, 115] && numR a1 && numR a3) ∧ hdTW a = valD a1 ∧ hdNW a = valD a3 := by
            unfold hdW hdTW hdNW
            rw [HV.out, hVV]
            exact ⟨by simp, rfl, rfl⟩
          have HW0 : Hid (hdW a = (a0 == [116, 101, 114, 109, 115] && a2 == [110, 97, 109, 101, 115] && numR a1 && numR a3) ∧ hdTW a = valD a1 ∧ hdNW a = valD a3) := hW0
          have HB0 : Hid (hdW a = false → K9 s = k ∧ pa9 s = false) := fun h => by
            have := PfI.badH (s := s) (a := a) (by rw [HP.out.1]; omega) (by rw [← HK.out]; exact HA.out) h
            rw [HK.out]
            exact this
          have nu1 := number9_any (s := a1) W5
          have nu3 := number9_any (s := a3) W5
          clear hm hVV hW0
          cases q0 : a0 == [116, 101, 114, 109, 115] with
          | false =>
            have HB : Hid (K9 s = k ∧ pa9 s = false) := HB0.out (by rw [HW0.out.1, q0]; rfl)
            have q0' : a0 ≠ [116, 101, 114, 109, 115] := beq_eq_false_iff_ne.1 q0
            clear q0
            go_wp2_with fail
            go_region
            all_goals
              go_wp2_with fail
              obtain ⟨W, hW, z0, z1, z2, z3, z4, zB, -⟩ := H5.out.1.ends HQ.out (.int .i64 0) (.int .i64 0) (.slice none 0 0) (.int .i64 2) (.int .i64 (k : Int))
              rw [hW]
              exact bodyPost_ret (v := .tuple #[.agg #[.int .i64 0, .int .i64 0, .slice none 0 0], .agg #[.int .i64 2, .int .i64 (k : Int)]]) (by simp [results, Try.results5, go_sem, z0, z1, z2, z3, z4]) rfl ⟨.inr ⟨HB.out.2, by rw [HB.out.1]⟩, zB.drew⟩
          | true =>
            have q0' : a0 = [116, 101, 114, 109, 115] := eq_of_beq q0
            subst q0'
            rw [q0] at HW0
            clear q0
            cases q2 : a2 == [110, 97, 109, 101, 115] with
            | false =>
              have HB : Hid (K9 s = k ∧ pa9 s = false) := HB0.out (by rw [HW0.out.1, q2]; rfl)
              go_wp2_with fail
              go_region
              all_goals
                go_wp2_with fail
                obtain ⟨W, hW, z0, z1, z2, z3, z4, zB, -⟩ := H5.out.1.ends HQ.out (.int .i64 0) (.int .i64 0) (.slice none 0 0) (.int .i64 2) (.int .i64 (k : Int))
                rw [hW]
                exact bodyPost_ret (v := .tuple #[.agg #[.int .i64 0, .int .i64 0, .slice none 0 0], .agg #[.int .i64 2, .int .i64 (k : Int)]]) (by simp [results, Try.results5, go_sem, z0, z1, z2, z3, z4]) rfl ⟨.inr ⟨HB.out.2, by rw [HB.out.1]⟩, zB.drew⟩
            | true =>
              have q2' : a2 = [110, 97, 109, 101, 115] := eq_of_beq q2
              subst q2'
              rw [q2] at HW0
              clear q2
              cases m1 : numR a1 with
              | false =>
                rw [m1] at nu1
                have HB : Hid (K9 s = k ∧ pa9 s = false) := HB0.out (by rw [HW0.out.1, m1]; rfl)
                clear m1
                go_wp2_with
                  (first
                   | (go_at_call_of 10 (Value.string ⟨a1.toArray⟩); refine nu1.mono ?_; rintro e w6 ⟨rfl, h6⟩; obtain rfl : W5 = w6 := h6.symm; clear nu1)
                   | (go_at_call_of 10 (Value.string ⟨a3.toArray⟩); refine nu3.mono ?_; rintro e w6 ⟨rfl, h6⟩; obtain rfl : W5 = w6 := h6.symm; clear nu3))
                go_region
                all_goals
                  go_wp2_with fail
                  obtain ⟨W, hW, z0, z1, z2, z3, z4, zB, -⟩ := H5.out.1.ends HQ.out (.int .i64 0) (.int .i64 0) (.slice none 0 0) (.int .i64 2) (.int .i64 (k : Int))
                  rw [hW]
                  exact bodyPost_ret (v := .tuple #[.agg #[.int .i64 0, .int .i64 0, .slice none 0 0], .agg #[.int .i64 2, .int .i64 (k : Int)]]) (by simp [results, Try.results5, go_sem, z0, z1, z2, z3, z4]) rfl ⟨.inr ⟨HB.out.2, by rw [HB.out.1]⟩, zB.drew⟩
              | true =>
                rw [m1] at nu1
                cases m3 : numR a3 with
                | false =>
                  rw [m3] at nu3
                  have HB : Hid (K9 s = k ∧ pa9 s = false) := HB0.out (by rw [HW0.out.1, m1, m3]; rfl)
                  clear m1 m3
                  go_wp2_with
                    (first
                     | (go_at_call_of 10 (Value.string ⟨a1.toArray⟩); refine nu1.mono ?_; rintro e w6 ⟨rfl, h6⟩; obtain rfl : W5 = w6 := h6.symm; clear nu1)
                     | (go_at_call_of 10 (Value.string ⟨a3.toArray⟩); refine nu3.mono ?_; rintro e w6 ⟨rfl, h6⟩; obtain rfl : W5 = w6 := h6.symm; clear nu3))
                  go_region
                  all_goals
                    go_wp2_with fail
                    obtain ⟨W, hW, z0, z1, z2, z3, z4, zB, -⟩ := H5.out.1.ends HQ.out (.int .i64 0) (.int .i64 0) (.slice none 0 0) (.int .i64 2) (.int .i64 (k : Int))
                    rw [hW]
                    exact bodyPost_ret (v := .tuple #[.agg #[.int .i64 0, .int .i64 0, .slice none 0 0], .agg #[.int .i64 2, .int .i64 (k : Int)]]) (by simp [results, Try.results5, go_sem, z0, z1, z2, z3, z4]) rfl ⟨.inr ⟨HB.out.2, by rw [HB.out.1]⟩, zB.drew⟩
                | true =>
                  rw [m3] at nu3
                  have v1 : numV a1 = valD a1 := by unfold numV; rw [if_pos m1]
                  have v3 : numV a3 = valD a3 := by unfold numV; rw [if_pos m3]
                  rw [v1] at nu1
                  rw [v3] at nu3
                  have HN : Hid (PfI s (k + 1) (valD a1) (valD a3) (RL.map fun x => x.2)) := by
                    have h1 := PfI.head (s := s) (a := a) (by rw [HP.out.1]; omega) (by rw [← HK.out]; exact HA.out) (by rw [HW0.out.1, m1, m3]; rfl)
                    rw [HW0.out.2.1, HW0.out.2.2] at h1
                    rw [(HI.out.zero HK.out).2.2, HK.out]
                    exact h1
                  have u0 := cell_bk9 (i := 0) H5.out.1.gr.at_ rfl
                  have u1 := cell_bk9 (i := 1) H5.out.1.gr.at_ rfl
                  have fz := frozen_bk9 (i := 0) H5.out.1.gr.at_
                  have fy := frozen_bk9 (i := 1) H5.out.1.gr.at_
                  clear m1 m3 v1 v3
                  go_wp2_with
                    (first
                     | (go_at_call_of 10 (Value.string ⟨a1.toArray⟩); refine nu1.mono ?_; rintro e w6 ⟨rfl, h6⟩; obtain rfl : W5 = w6 := h6.symm; clear nu1)
                     | (go_at_call_of 10 (Value.string ⟨a3.toArray⟩); refine nu3.mono ?_; rintro e w6 ⟨rfl, h6⟩; obtain rfl : W5 = w6 := h6.symm; clear nu3))
                  exact ⟨⟨k + 1, valD a1, valD a3, _, RL, by go_num, by omega, HN.out, H5.out.1.head _ _⟩, by simp [intOf]; omega⟩
        · have HB : Hid (K9 s = k ∧ pa9 s = false) := by
            have := PfI.badH (s := s) (a := a) (by rw [HP.out.1]; omega) (by rw [← HK.out]; exact HA.out) (by
              unfold hdW
              rw [HV.out, hm]
              have : (m + 1 == 4) = false := by simpa using hm4
              rw [this]
              rfl)
            rw [HK.out]
            exact this
          have y1 : ((m : Int) + 1 == 4) = false := by simpa using (by omega : ¬ (m : Int) + 1 = 4)
          have y2 : ¬ (m : Int) + 1 = 4 := by omega
          clear hm
          go_wp2_with fail
          go_region
          all_goals
            go_wp2_with fail
            obtain ⟨W, hW, z0, z1, z2, z3, z4, zB, -⟩ := H5.out.1.ends HQ.out (.int .i64 0) (.int .i64 0) (.slice none 0 0) (.int .i64 2) (.int .i64 (k : Int))
            rw [hW]
            exact bodyPost_ret (v := .tuple #[.agg #[.int .i64 0, .int .i64 0, .slice none 0 0], .agg #[.int .i64 2, .int .i64 (k : Int)]]) (by simp [results, Try.results5, go_sem, z0, z1, z2, z3, z4]) rfl ⟨.inr ⟨HB.out.2, by rw [HB.out.1]⟩, zB.drew⟩
      · have e0 : ((k : Int) == 0) = false := by simp; omega
        go_upto_region 10 with
          (go_at_call 9; refine sp.mono ?_; rintro e w4 ⟨vv, rfl, h4, h5⟩
           obtain ⟨va, vc, hvv⟩ := own_form9 h4
           subst hvv
           clear sp)
        obtain ⟨m, hm⟩ : ∃ m, V.length = m + 1 := by
          obtain ⟨u, Q, e1, _⟩ := splitB_form 32 a
          exact ⟨Q.length, by rw [← HV.out, e1]; rfl⟩
        rw [hm] at h4
        rw [hm]
        obtain ⟨vg, hvg, hvg1, hvg2⟩ := own_some h4
        subst hvg
        obtain ⟨b, hb⟩ : ∃ x, w4.heap.size = x := ⟨_, rfl⟩
        obtain ⟨W5, hW5⟩ : ∃ X, w4.alloc (.cells #[.int .i64 2, .int .i64 (k : Int)] 27) = X := ⟨_, rfl⟩
        rw [hW5]
        rw [hb]
        have hB5 : Below w4.heap.size w4 W5 := by rw [← hW5]; exact (Below.refl _ _).alloc (Nat.le_refl _) _
        have hx5 := heap_alloc_new w4 (.cells #[.int .i64 2, .int .i64 (k : Int)] 27)
        rw [hW5, hb] at hx5
        have H5 : Hid (P9 w2 q T N (.slice ra RL.length rc) RL W5 ∧ W5.heap[b]? = some (.cells #[.int .i64 2, .int .i64 (k : Int)] 27 (0, 0)) ∧ W5.ownsRow wr.heap.size 9 1 (.slice (some ⟨vg, 0, none⟩) (m + 1) vc) (m + 1) (strV9 V)) := ⟨(HR.out.later h5).later hB5, hx5, own_same h4 fun g hg => hB5.block g (h4.lt g hg).2⟩
        have hpb : p + 1 < b := by have := HR.out.lt; have := h5.size; have := HQ.out.le; omega
        have hbp : ¬ b = p := by omega
        have hbp2 : ¬ p = b := by omega
        clear hW5 hB5 hx5 h4 h5
        obtain ⟨v0, hv0⟩ : ∃ x, V.getD 0 [] = x := ⟨_, rfl⟩
        have hV0 : V[0]? = some v0 := by rw [← hv0]; simp [List.getD, show 0 < V.length by omega]
        have c0 := own_cell H5.out.2.2 hV0
        have hH : rlH a = v0 := by unfold rlH; rw [HV.out]; exact hv0
        have hml : ∀ x ∈ V, x.length ≤ 1048576 := fun x hx => by
          obtain ⟨u, Q, e1, e2, _⟩ := splitB_form 32 a
          rw [HV.out] at e1
          rw [e1] at hx
          have hx2 : x.length ≤ a.length := by
            rw [e2]
            rcases List.mem_cons.1 hx with hx | hx
            · rw [hx]; simp
            · have : ((32 : UInt8) :: x).length ≤ (Q.map fun l => (32 : UInt8) :: l).flatten.length := (List.sublist_flatten_of_mem (List.mem_map_of_mem hx)).length_le
              simp only [List.length_cons] at this
              rw [List.length_append]
              omega
          omega
        have hv0l : v0.length ≤ 1048576 := hml v0 (List.mem_of_getElem? hV0)
        have HM : Hid (V.length = m + 1 ∧ (∀ x ∈ V, x.length ≤ 1048576) ∧ rlH a = v0) := ⟨hm, hml, hH⟩
        clear hm hml hH hv0 hV0
        obtain ⟨⟨n0, n1, n2⟩, ⟨r0, r1, r2⟩, ⟨f0, f1, f2⟩, ⟨s0, s1⟩, g0, g1⟩ := H5.out.1.reads HQ.out
        have x0 := cell_bk9 (i := 0) H5.out.2.1 rfl
        have x1 := cell_bk9 (i := 1) H5.out.2.1 rfl
        by_cases hz0 : v0.length < 1
        · have y1 : decide ((v0.length : Int) < 1) = true := decide_eq_true (by omega)
          have HB : Hid (K9 s = k ∧ pa9 s = false) := by
            refine HI.out.badR hk0 (by rw [HP.out.1]; exact hlt) HA.out ?_
            unfold rlW
            rw [HM.out.2.2, decide_eq_false (show ¬ 1 ≤ v0.length by omega)]
            simp
          go_wp2_with fail
          go_region
          all_goals
            go_wp2_with fail
            obtain ⟨W, hW, z0, z1, z2, z3, z4, zB, -⟩ := H5.out.1.ends HQ.out (.int .i64 0) (.int .i64 0) (.slice none 0 0) (.int .i64 2) (.int .i64 (k : Int))
            rw [hW]
            exact bodyPost_ret (v := .tuple #[.agg #[.int .i64 0, .int .i64 0, .slice none 0 0], .agg #[.int .i64 2, .int .i64 (k : Int)]]) (by simp [results, Try.results5, go_sem, z0, z1, z2, z3, z4]) rfl ⟨.inr ⟨HB.out.2, by rw [HB.out.1]⟩, zB.drew⟩
        · obtain ⟨l, hl⟩ : ∃ l, v0.length = l + 1 := ⟨v0.length - 1, by omega⟩
          have y1 : decide ((l : Int) + 1 < 1) = false := decide_eq_false (by omega)
          have hwl : wrap64 ((l : Int) + 1 - 1) = (l : Int) := by
            have : ((l : Int) + 1 - 1) = (l : Int) := by omega
            rw [this]
            exact IntWalk.wrap64_in _ (by omega)
          obtain ⟨x, hx⟩ : ∃ x, v0.getD l 0 = x := ⟨_, rfl⟩
          have hbx : (⟨v0.toArray⟩ : ByteArray)[l]'(by simp [ByteArray.size]; omega) = x := by
            rw [← hx]
            simp [ByteArray.getElem_eq_getElem_data, List.getD, show l < v0.length by omega]
          have k0 : (0 : Int) ≤ (l : Int) := Int.natCast_nonneg _
          have k1 : (l : Int) < (l : Int) + 1 := by omega
          have hW0 : rlW a = (x == 58 && rdOk (v0.take l) && !rdT (v0.take l) && V.tail.all rdOk) := by
            unfold rlW rlM
            rw [HM.out.2.2, HV.out, hl, decide_eq_true (show 1 ≤ l + 1 by omega), Nat.add_sub_cancel, hx, Bool.true_and]
          have hRu : rlRu a = ((rdN (v0.take l) : Int), V.tail.map rdS) := by
            unfold rlRu rlM
            rw [HM.out.2.2, HV.out, hl, Nat.add_sub_cancel]
          have HX : Hid (rlRu a = ((rdN (v0.take l) : Int), V.tail.map rdS)) := hRu
          clear hx hz0 hRu
          by_cases hx : x = 58
          · have z1 : (x.toNat : Int) = 58 := by rw [hx]; rfl
            rw [hx] at hW0
            have hex : (⟨v0.toArray⟩ : ByteArray).extract 0 l = ⟨(v0.take l).toArray⟩ := by rw [ext_mid9]; simp
            obtain ⟨y, hy⟩ : ∃ y, v0.take l = y := ⟨_, rfl⟩
            have hyl : y.length ≤ 1048576 := by rw [← hy, List.length_take]; omega
            rw [hy] at hex hW0 HX
            have rd := reads9_any W5 y (by omega)
            obtain ⟨tt, htt⟩ : ∃ x, rdT y = x := ⟨_, rfl⟩
            obtain ⟨nn, hnn⟩ : ∃ x, rdN y = x := ⟨_, rfl⟩
            obtain ⟨oo, hoo⟩ : ∃ x, rdOk y = x := ⟨_, rfl⟩
            rw [htt, hnn, hoo] at rd
            rw [htt, hoo] at hW0
            rw [hnn] at HX
            clear hx hy hyl htt hnn hoo
            have HW0 : Hid (rlW a = (oo && !tt && V.tail.all rdOk)) := hW0
            clear hW0
            cases oo with
            | false =>
              have HB : Hid (K9 s = k ∧ pa9 s = false) := HI.out.badR hk0 (by rw [HP.out.1]; exact hlt) HA.out (by rw [HW0.out]; rfl)
              go_wp2_with
              (go_at_call 11; refine rd.mono ?_; rintro e w6 ⟨rfl, h6⟩
               have hB6 : Below W5.heap.size W5 (w6.alloc (.cells #[.bool tt, .int .i64 (nn : Int)] 40)) := h6.alloc h6.size _
               have hP6 := H5.out.1.later hB6
               have hx6 := (hB6.block b (Array.getElem?_eq_some_iff.1 H5.out.2.1).1).trans H5.out.2.1
               clear rd n0 n1 n2 r0 r1 r2 f0 f1 f2 s0 s1 g0 g1 x0 x1
               obtain ⟨⟨n0, n1, n2⟩, ⟨r0, r1, r2⟩, ⟨f0, f1, f2⟩, ⟨s0, s1⟩, g0, g1⟩ := hP6.reads HQ.out
               have x0 := cell_bk9 (i := 0) hx6 rfl
               have x1 := cell_bk9 (i := 1) hx6 rfl
               have H6 : Hid (P9 w2 q T N (.slice ra RL.length rc) RL (w6.alloc (.cells #[.bool tt, .int .i64 (nn : Int)] 40)) ∧ Below W5.heap.size W5 (w6.alloc (.cells #[.bool tt, .int .i64 (nn : Int)] 40))) := ⟨hP6, hB6⟩
               clear h6 hB6 hP6 hx6)
              go_region
              all_goals
                go_wp2_with fail
                obtain ⟨W, hW, z0, z1, z2, z3, z4, zB, -⟩ := H6.out.1.ends HQ.out (.int .i64 0) (.int .i64 0) (.slice none 0 0) (.int .i64 2) (.int .i64 (k : Int))
                rw [hW]
                exact bodyPost_ret (v := .tuple #[.agg #[.int .i64 0, .int .i64 0, .slice none 0 0], .agg #[.int .i64 2, .int .i64 (k : Int)]]) (by simp [results, Try.results5, go_sem, z0, z1, z2, z3, z4]) rfl ⟨.inr ⟨HB.out.2, by rw [HB.out.1]⟩, zB.drew⟩
            | true =>
              cases tt with
              | true =>
                have HB : Hid (K9 s = k ∧ pa9 s = false) := HI.out.badR hk0 (by rw [HP.out.1]; exact hlt) HA.out (by rw [HW0.out]; rfl)
                go_wp2_with
              (go_at_call 11; refine rd.mono ?_; rintro e w6 ⟨rfl, h6⟩
               have hB6 : Below W5.heap.size W5 (w6.alloc (.cells #[.bool true, .int .i64 (nn : Int)] 40)) := h6.alloc h6.size _
               have hP6 := H5.out.1.later hB6
               have hx6 := (hB6.block b (Array.getElem?_eq_some_iff.1 H5.out.2.1).1).trans H5.out.2.1
               clear rd n0 n1 n2 r0 r1 r2 f0 f1 f2 s0 s1 g0 g1 x0 x1
               obtain ⟨⟨n0, n1, n2⟩, ⟨r0, r1, r2⟩, ⟨f0, f1, f2⟩, ⟨s0, s1⟩, g0, g1⟩ := hP6.reads HQ.out
               have x0 := cell_bk9 (i := 0) hx6 rfl
               have x1 := cell_bk9 (i := 1) hx6 rfl
               have H6 : Hid (P9 w2 q T N (.slice ra RL.length rc) RL (w6.alloc (.cells #[.bool true, .int .i64 (nn : Int)] 40)) ∧ Below W5.heap.size W5 (w6.alloc (.cells #[.bool true, .int .i64 (nn : Int)] 40))) := ⟨hP6, hB6⟩
               clear h6 hB6 hP6 hx6)
                go_region
                all_goals
                  go_wp2_with fail
                  obtain ⟨W, hW, z0, z1, z2, z3, z4, zB, -⟩ := H6.out.1.ends HQ.out (.int .i64 0) (.int .i64 0) (.slice none 0 0) (.int .i64 2) (.int .i64 (k : Int))
                  rw [hW]
                  exact bodyPost_ret (v := .tuple #[.agg #[.int .i64 0, .int .i64 0, .slice none 0 0], .agg #[.int .i64 2, .int .i64 (k : Int)]]) (by simp [results, Try.results5, go_sem, z0, z1, z2, z3, z4]) rfl ⟨.inr ⟨HB.out.2, by rw [HB.out.1]⟩, zB.drew⟩
              | false =>
                go_wp2_with
              (go_at_call 11; refine rd.mono ?_; rintro e w6 ⟨rfl, h6⟩
               have hB6 : Below W5.heap.size W5 (w6.alloc (.cells #[.bool false, .int .i64 (nn : Int)] 40)) := h6.alloc h6.size _
               have hP6 := H5.out.1.later hB6
               have hx6 := (hB6.block b (Array.getElem?_eq_some_iff.1 H5.out.2.1).1).trans H5.out.2.1
               clear rd n0 n1 n2 r0 r1 r2 f0 f1 f2 s0 s1 g0 g1 x0 x1
               obtain ⟨⟨n0, n1, n2⟩, ⟨r0, r1, r2⟩, ⟨f0, f1, f2⟩, ⟨s0, s1⟩, g0, g1⟩ := hP6.reads HQ.out
               have x0 := cell_bk9 (i := 0) hx6 rfl
               have x1 := cell_bk9 (i := 1) hx6 rfl
               have H6 : Hid (P9 w2 q T N (.slice ra RL.length rc) RL (w6.alloc (.cells #[.bool false, .int .i64 (nn : Int)] 40)) ∧ Below W5.heap.size W5 (w6.alloc (.cells #[.bool false, .int .i64 (nn : Int)] 40))) := ⟨hP6, hB6⟩
               clear h6 hB6 hP6 hx6)
                obtain ⟨rb, hrb⟩ : ∃ x, w6.heap.size + 1 = x := ⟨_, rfl⟩
                obtain ⟨W7, hW7⟩ : ∃ X, w6.alloc (.cells #[.bool false, .int .i64 (nn : Int)] 40) = X := ⟨_, rfl⟩
                have hz7 : W7.heap.size = rb := by rw [← hW7, ← hrb]; simp
                rw [hW7] at H6
                rw [hW7, hrb]
                clear n0 n1 n2 r0 r1 r2 f0 f1 f2 s0 s1 g0 g1 x0 x1
                obtain ⟨W8, hW8⟩ : ∃ X, W7.alloc (.cells #[.int .i64 (nn : Int), .slice none 0 0] 45) = X := ⟨_, rfl⟩
                have hx8 := heap_alloc_new W7 (.cells #[.int .i64 (nn : Int), .slice none 0 0] 45)
                rw [hW8, hz7] at hx8
                have H8 : Hid (RuleIn W8 rb nn (.slice none 0 0) [] ∧ Below rb W7 W8) := ⟨⟨hx8, World.ownsRow_nil ..⟩, by rw [← hW8, ← hz7]; exact (Below.refl _ _).alloc (Nat.le_refl _) _⟩
                have H7 : Hid (W7.heap.size = rb ∧ P9 w2 q T N (.slice ra RL.length rc) RL W7 ∧ W7.heap[b]? = some (.cells #[.int .i64 2, .int .i64 (k : Int)] 27 (0, 0)) ∧ W7.ownsRow wr.heap.size 9 1 (.slice (some ⟨vg, 0, none⟩) (m + 1) vc) (m + 1) (strV9 V)) :=
                  ⟨hz7, H6.out.1, (H6.out.2.block b (Array.getElem?_eq_some_iff.1 H5.out.2.1).1).trans H5.out.2.1, own_same H5.out.2.2 fun g hg => H6.out.2.block g (H5.out.2.2.lt g hg).2⟩
                rw [hW8]
                clear hW7 hW8 hx8 hz7 hrb H6 c0 hex hbx
                have hm2 : m ≤ 1048576 := by
                  have h1 := splitB_len 32 a
                  rw [HV.out, HM.out.1] at h1
                  omega
                go_loopw [19] (fun v19 wi => ∃ (i : Nat) (sv : Value) (A : List Sy), v19 = .int .i64 i ∧ 1 ≤ i ∧ i ≤ m + 1 ∧ (∀ x ∈ (V.take i).drop 1, rdOk x = true) ∧ A = ((V.take i).drop 1).map rdS ∧ RuleIn wi rb nn sv A ∧ Below rb W7 wi) (fun v _ => m + 1 - (intOf v).toNat)
                case atStart => exact ⟨1, _, [], rfl, Nat.le_refl _, by omega, fun x hx => by simp at hx, by simp, H8.out.1, H8.out.2⟩
                case round =>
                  obtain ⟨i, sv, A, rfl, hi1, hi2, hall, hA, hRI, hBi⟩ := hrel
                  obtain ⟨sa, sc, hsv⟩ := own_form9 hRI.own
                  subst hsv
                  have hPi := H7.out.2.1.later (by rw [H7.out.1]; exact hBi)
                  have hlt7 : b < rb := by have := (Array.getElem?_eq_some_iff.1 H7.out.2.2.1).1; have := H7.out.1; omega
                  have hxi := (hBi.block b hlt7).trans H7.out.2.2.1
                  have hAl : A.length ≤ 1048577 := by rw [hA]; simp; omega
                  by_cases hlti : i < m + 1
                  · have d2 : decide ((i : Int) < (m : Int) + 1) = true := decide_eq_true (by omega)
                    obtain ⟨u, hu⟩ : ∃ u, V[i]? = some u := ⟨V[i]'(by have := HM.out.1; omega), by simp⟩
                    have hul : u.length ≤ 1048576 := HM.out.2.1 u (List.mem_of_getElem? hu)
                    have hvg3 : vg < rb := by have := (H7.out.2.2.2.lt vg rfl).2; have := H7.out.1; omega
                    have ci : ∀ wq, Below rb W7 wq → wq.cell? ⟨vg, i, none⟩ = some (.string ⟨u.toArray⟩) := fun wq hq => (World.cell?_of_block (hq.block vg hvg3)).trans (own_cell H7.out.2.2.2 hu)
                    have cii := ci _ hBi
                    have rd := reads9_any wr u (by omega)
                    have hmid := mid_onG hi1 hu
                    have hS : rdS u = (rdT u, (rdN u : Int)) := rfl
                    obtain ⟨t2, ht2⟩ : ∃ x, rdT u = x := ⟨_, rfl⟩
                    obtain ⟨n2, hn2'⟩ : ∃ x, rdN u = x := ⟨_, rfl⟩
                    rw [ht2, hn2'] at rd hS
                    cases hou : rdOk u with
                    | false =>
                      rw [hou] at rd
                      have HB : Hid (K9 s = k ∧ pa9 s = false) := by
                        refine HI.out.badR hk0 (by rw [HP.out.1]; exact hlt) HA.out ?_
                        rw [HW0.out]
                        have : V.tail.all rdOk = false := by
                          rw [Bool.eq_false_iff]
                          intro h
                          have h2 := List.all_eq_true.1 h u (by
                            have : V.tail[i - 1]? = some u := by rw [List.getElem?_tail, show i - 1 + 1 = i by omega]; exact hu
                            exact List.mem_of_getElem? this)
                          rw [hou] at h2
                          cases h2
                        rw [this]
                        rfl
                      have HPi : Hid (P9 w2 q T N (.slice ra RL.length rc) RL wr ∧ wr.heap[b]? = some (.cells #[.int .i64 2, .int .i64 (k : Int)] 27 (0, 0))) := ⟨hPi, hxi⟩
                      clear hall hA hRI hBi hPi hxi ci hu hmid hS ht2 hn2' hou
                      go_wp2_with
                        (go_at_call 11; refine rd.mono ?_; rintro e w6 ⟨rfl, h6⟩
                         have hB6 : Below wr.heap.size wr (w6.alloc (.cells #[.bool t2, .int .i64 (n2 : Int)] 40)) := h6.alloc h6.size _
                         have hP6 := HPi.out.1.later hB6
                         have hx6 := (hB6.block b (Array.getElem?_eq_some_iff.1 HPi.out.2).1).trans HPi.out.2
                         obtain ⟨⟨n0, n1, nn2⟩, ⟨r0, r1, r2⟩, ⟨f0, f1, f2⟩, ⟨s0, s1⟩, g0, g1⟩ := hP6.reads HQ.out
                         have x0 := cell_bk9 (i := 0) hx6 rfl
                         have x1 := cell_bk9 (i := 1) hx6 rfl
                         have H6 : Hid (P9 w2 q T N (.slice ra RL.length rc) RL (w6.alloc (.cells #[.bool t2, .int .i64 (n2 : Int)] 40))) := hP6
                         clear rd h6 hB6 hP6 hx6)
                      go_region
                      all_goals
                        go_wp2_with fail
                        obtain ⟨W, hW, z0, z1, z2, z3, z4, zB, -⟩ := H6.out.ends HQ.out (.int .i64 0) (.int .i64 0) (.slice none 0 0) (.int .i64 2) (.int .i64 (k : Int))
                        rw [hW]
                        exact bodyPost_ret (v := .tuple #[.agg #[.int .i64 0, .int .i64 0, .slice none 0 0], .agg #[.int .i64 2, .int .i64 (k : Int)]]) (by simp [results, Try.results5, go_sem, z0, z1, z2, z3, z4]) rfl ⟨.inr ⟨HB.out.2, by rw [HB.out.1]⟩, zB.drew⟩
                    | true =>
                      rw [hou] at rd
                      have HN : Hid ((∀ x ∈ (V.take (i + 1)).drop 1, rdOk x = true) ∧ A ++ [(t2, (n2 : Int))] = ((V.take (i + 1)).drop 1).map rdS) := by
                        rw [hmid]
                        refine ⟨fun x hx => ?_, by rw [hA]; simp [hS]⟩
                        rcases List.mem_append.1 hx with hx | hx
                        · exact hall x hx
                        · rw [List.mem_singleton.1 hx]; exact hou
                      have HRI : Hid (RuleIn wr rb nn (.slice sa A.length sc) A ∧ Below rb W7 wr) := ⟨hRI, hBi⟩
                      obtain ⟨i5, hi5, hz5, hz6, hz7⟩ := info_parts Try.infoSy9
                      have m1 : A.length + 1 ≤ maxLen := by unfold maxLen; omega
                      have m2 : (A.length + 1) * 16 ≤ 140737488355328 := by omega
                      clear hall hA hRI hBi hPi hxi ci hu hmid hS ht2 hn2' hou
                      go_wp2_with
                        (first
                         | (go_at_call 11; refine rd.mono ?_; rintro e w6 ⟨rfl, h6⟩
                            have hB6 : Below wr.heap.size wr (w6.alloc (.cells #[.bool t2, .int .i64 (n2 : Int)] 40)) := h6.alloc h6.size _
                            have hR7 := HRI.out.1.later hB6
                            have hR8 := hR7.later ((Below.refl _ _).alloc (Nat.le_refl _) (.cells #[.bool t2, .int .i64 (n2 : Int)] 40))
                            have c1 := cell_bk9 (i := 1) hR7.at_ rfl
                            have own8 := hR8.own
                            have hb8 := hR8.lt
                            have H8 : Hid (RuleIn ((w6.alloc (.cells #[.bool t2, .int .i64 (n2 : Int)] 40)).alloc (.cells #[.bool t2, .int .i64 (n2 : Int)] 40)) rb nn (.slice sa A.length sc) A ∧ Below rb W7 ((w6.alloc (.cells #[.bool t2, .int .i64 (n2 : Int)] 40)).alloc (.cells #[.bool t2, .int .i64 (n2 : Int)] 40))) :=
                              ⟨hR8, (HRI.out.2.trans (hB6.mono (Nat.le_of_lt HRI.out.1.lt))).alloc (Nat.le_of_lt hR7.lt) _⟩
                            have hnw := World.news_of_block (cs := #[.bool t2, .int .i64 (n2 : Int)]) (t := 40) (fr := (0, 0)) (heap_alloc_new (w6.alloc (.cells #[.bool t2, .int .i64 (n2 : Int)] 40)) (.cells #[.bool t2, .int .i64 (n2 : Int)] 40))
                            clear rd h6 hB6 hR7 hR8)
                         | (at_builtin
                            refine wpList_append_lies _ rfl _ _ _ rfl (rb + 1) 40 i5 _ 2 16 Try.underlying43 hi5 hz5 hz6 hz7 rfl (by omega) (.slice sa A.length sc) A.length (flatY9 A) rfl own8
                              ⟨(w6.alloc (.cells #[.bool t2, .int .i64 (n2 : Int)] 40)).heap.size, 0, none⟩ 1 1 [.bool t2, .int .i64 (n2 : Int)] (by simp [go_sem]) rfl hnw (by simp [Value.oneCell']) (by omega) m1 m2 hb8 _ rfl ?_
                            intro g9 cap9 w9 hown9 hgrow9 hat9 hlt9
                            have hq : w9.heap[rb]? = _ := (hgrow9.block rb hb8 (fun e => by have := (H8.out.1.own.lt _ e.symm).1; omega)).trans H8.out.1.at_
                            have c9 := cell_bk9 (i := 1) hq rfl
                            have f9 : w9.frozen? ⟨rb, 1, none⟩ = false := frozen_bk9 hq
                            clear hq))
                      have HR9 : Hid (RuleIn (w9.setCell ⟨rb, 1, none⟩ (.slice (some ⟨g9, 0, none⟩) (A.length + 1) cap9)) rb nn (.slice (some ⟨g9, 0, none⟩) (A.length + 1) cap9) (A ++ [(t2, (n2 : Int))]) ∧ Below rb W7 (w9.setCell ⟨rb, 1, none⟩ (.slice (some ⟨g9, 0, none⟩) (A.length + 1) cap9))) := by
                        refine ⟨H8.out.1.put hgrow9 (by rw [flatY9_snoc]; simpa using hown9), ?_⟩
                        have hB9 : Below rb ((w6.alloc (.cells #[.bool t2, .int .i64 (n2 : Int)] 40)).alloc (.cells #[.bool t2, .int .i64 (n2 : Int)] 40)) w9 := ⟨hgrow9.os, hgrow9.tape, hgrow9.output, hgrow9.size, fun j hj => hgrow9.block j (by omega) fun e => by have := (H8.out.1.own.lt j e.symm).1; omega⟩
                        exact (H8.out.2.trans hB9).setCell (Nat.le_refl _) _
                      clear hown9 hgrow9 hat9 hlt9 own8 hnw hi5 hz5 hz6 hz7 m1 m2 hb8
                      go_roundw
                      case rel => exact ⟨i + 1, _, _, by go_num, by omega, by omega, HN.out.1, HN.out.2, HR9.out.1, HR9.out.2⟩
                      case measure => simp [intOf]; omega
                  · have d2 : decide ((i : Int) < (m : Int) + 1) = false := decide_eq_false (by omega)
                    have him : i = m + 1 := by omega
                    have htl : (V.take i).drop 1 = V.tail := by rw [him, ← HM.out.1, List.take_length, List.drop_one]
                    rw [htl] at hall hA
                    have hok : rlW a = true := by
                      rw [HW0.out, List.all_eq_true.2 hall]
                      rfl
                    have hRu : rlRu a = ((nn : Int), A) := by rw [HX.out, hA]
                    have HN : Hid (PfI s (k + 1) T N (RL.map (fun x => x.2) ++ [((nn : Int), A)])) := by
                      have := HI.out.rule hk0 (by rw [HP.out.1]; exact hlt) HA.out hok
                      rw [hRu] at this
                      exact this
                    have hfew := HI.out.few
                    rw [List.length_map] at hfew
                    have HPi : Hid (P9 w2 q T N (.slice ra RL.length rc) RL (wr.alloc (.cells #[.int .i64 (nn : Int), .slice sa A.length sc] 45)) ∧ RuleIn wr rb nn (.slice sa A.length sc) A) := ⟨hPi.later ((Below.refl _ _).alloc (Nat.le_refl _) _), hRI⟩
                    have c0 := cell_bk9 (i := 0) hRI.at_ rfl
                    have c1 := cell_bk9 (i := 1) hRI.at_ rfl
                    have c2 := cell_bk9 (i := 2) hPi.gr.at_ rfl
                    obtain ⟨i5, hi5, hz5, hz6, hz7⟩ := info_parts Try.infoRu9
                    have m1 : RL.length + 1 ≤ maxLen := by unfold maxLen; omega
                    have m2 : (RL.length + 1) * 32 ≤ 140737488355328 := by omega
                    have own4 := HPi.out.1.gr.own
                    have hb4 := HPi.out.1.gr.lt
                    have hnw := World.news_of_block (cs := #[.int .i64 (nn : Int), .slice sa A.length sc]) (t := 45) (fr := (0, 0)) (heap_alloc_new wr (.cells #[.int .i64 (nn : Int), .slice sa A.length sc] 45))
                    clear hall hA hRI hBi hPi hxi him htl hok hRu
                    go_wp2_with
                      (at_builtin
                       refine wpList_append_lies _ rfl _ _ _ rfl (q + 1) 45 i5 _ 2 32 Try.underlying22 hi5 hz5 hz6 hz7 rfl (by omega) (.slice ra RL.length rc) RL.length (flatR9 RL) rfl own4
                         ⟨wr.heap.size, 0, none⟩ 1 1 [.int .i64 (nn : Int), .slice sa A.length sc] (by simp [go_sem]) rfl hnw (by simp [Value.oneCell']) (by omega) m1 m2 hb4 _ rfl ?_
                       intro g9 cap9 w9 hown9 hgrow9 hat9 hlt9
                       have hq : w9.heap[q]? = _ := (hgrow9.block q hb4 (fun e => by have := (HPi.out.1.gr.own.lt _ e.symm).1; omega)).trans HPi.out.1.gr.at_
                       have c9 := cell_bk9 (i := 2) hq rfl
                       have f9 : w9.frozen? ⟨q, 2, none⟩ = false := frozen_bk9 hq
                       clear hq)
                    have hq7 : q + 1 < rb := by have := H7.out.2.1.lt; have := H7.out.1; omega
                    have hv9 : (wr.alloc (.cells #[.int .i64 (nn : Int), .slice sa A.length sc] 45)).ownsRow (q + 1) 40 2 (.slice sa A.length sc) A.length (flatY9 A) :=
                      own_same (own_mono9 HPi.out.2.own (by omega)) fun g hg => Below.heap_alloc _ _ _ (HPi.out.2.own.lt g hg).2
                    have hd9 : ∀ g, (Value.slice sa A.length sc).ownBlock = some g → (Value.slice ra RL.length rc).ownBlock ≠ some g := fun g hg e => by
                      have h1 := (HPi.out.2.own.lt g hg).1
                      have h2 := (H7.out.2.1.gr.own.lt g e).2
                      have h3 := H7.out.1
                      omega
                    exact ⟨⟨k + 1, T, N, _, RL ++ [(.slice sa A.length sc, ((nn : Int), A))], by go_num, by omega, by simpa using HN.out, HPi.out.1.put (r := ((nn : Int), A)) hv9 hd9 hgrow9 hat9 hown9⟩, by simp [intOf]; omega⟩
          · have z1 : ¬ (x.toNat : Int) = 58 := fun e => hx (UInt8.toNat_inj.1 (by show x.toNat = 58; omega))
            have z2 : ((x.toNat : Int) == 58) = false := by simpa using z1
            have HB : Hid (K9 s = k ∧ pa9 s = false) := by
              refine HI.out.badR hk0 (by rw [HP.out.1]; exact hlt) HA.out ?_
              rw [hW0, beq_eq_false_iff_ne.2 hx]
              rfl
            clear hx hW0
            go_wp2_with fail
            go_region
            all_goals
              go_wp2_with fail
              obtain ⟨W, hW, z0, z1, z2, z3, z4, zB, -⟩ := H5.out.1.ends HQ.out (.int .i64 0) (.int .i64 0) (.slice none 0 0) (.int .i64 2) (.int .i64 (k : Int))
              rw [hW]
              exact bodyPost_ret (v := .tuple #[.agg #[.int .i64 0, .int .i64 0, .slice none 0 0], .agg #[.int .i64 2, .int .i64 (k : Int)]]) (by simp [results, Try.results5, go_sem, z0, z1, z2, z3, z4]) rfl ⟨.inr ⟨HB.out.2, by rw [HB.out.1]⟩, zB.drew⟩
    · have d1 : decide ((k : Int) < (n : Int)) = false := decide_eq_false (by omega)
      obtain rfl : k = n := by omega
      have HD : Hid (K9 s = k ∧ ok9 s = (lastL s).isEmpty ∧ T9 s = T ∧ N9 s = N ∧ R9 s = RL.map fun x => x.2) := hI.done HP.out.1.symm
      obtain ⟨z, hz⟩ : ∃ x, lastL s = x := ⟨_, rfl⟩
      have hPa := HP.out.2.2.1
      rw [hz] at hPa
      have hlq : lg < q := by have := HQ.out.size; omega
      have cl : wr.cell? ⟨lg, k, none⟩ = some (.string ⟨z.toArray⟩) := (World.cell?_of_block (hR.below.block lg hlq)).trans (own_cell HQ.out.own hPa)
      have HR : Hid (P9 w2 q T N (.slice ra RL.length rc) RL wr) := hR
      have HZ : Hid (lastL s = z) := hz
      obtain ⟨⟨n0, n1, n2⟩, ⟨r0, r1, r2⟩, ⟨f0, f1, f2⟩, ⟨s0, s1⟩, g0, g1⟩ := hR.reads HQ.out
      have hRu := hR.gr.rules
      have u0 := cell_bk9 (i := 0) hR.gr.at_ rfl
      have u1 := cell_bk9 (i := 1) hR.gr.at_ rfl
      have u2 := cell_bk9 (i := 2) hR.gr.at_ rfl
      have may := may1_any (T := (T : Int)) (N := (N : Int)) hRu
      clear hI hR hPa hz hRu
      cases he : z.isEmpty with
      | false =>
        have HB : Hid (pa9 s = false) := by
          show pa9 s = false
          unfold pa9
          rw [HD.out.2.1, HZ.out, he]
          rfl
        go_wp2_with fail
        obtain ⟨W, hW, z0, z1, z2, z3, z4, zB, -⟩ := HR.out.ends HQ.out (.int .i64 0) (.int .i64 0) (.slice none 0 0) (.int .i64 2) (.int .i64 (k : Int))
        rw [hW]
        exact bodyPost_ret (v := .tuple #[.agg #[.int .i64 0, .int .i64 0, .slice none 0 0], .agg #[.int .i64 2, .int .i64 (k : Int)]]) (by simp [results, Try.results5, go_sem, z0, z1, z2, z3, z4]) rfl ⟨.inr ⟨HB.out, by rw [HD.out.1]⟩, zB⟩
      | true =>
        by_cases hk0 : k = 0
        · have e0 : ((k : Int) == 0) = true := by simp [hk0]
          have HB : Hid (pa9 s = false) := by
            obtain ⟨h1, h2, h3⟩ := HI.out.zero hk0
            show pa9 s = false
            unfold pa9
            rw [HD.out.2.2.1, HD.out.2.2.2.1, HD.out.2.2.2.2, h1, h2, h3]
            simp [mayB, headB]
          clear hk0
          go_wp2_with fail
          obtain ⟨W, hW, z0, z1, z2, z3, z4, zB, -⟩ := HR.out.ends HQ.out (.int .i64 0) (.int .i64 0) (.slice none 0 0) (.int .i64 2) (.int .i64 (k : Int))
          rw [hW]
          exact bodyPost_ret (v := .tuple #[.agg #[.int .i64 0, .int .i64 0, .slice none 0 0], .agg #[.int .i64 2, .int .i64 (k : Int)]]) (by simp [results, Try.results5, go_sem, z0, z1, z2, z3, z4]) rfl ⟨.inr ⟨HB.out, by rw [HD.out.1]⟩, zB⟩
        · have e0 : ((k : Int) == 0) = false := by simp; omega
          have hpa : pa9 s = mayB (T : Int) (N : Int) (RL.map fun x => x.2) := by
            unfold pa9
            rw [HD.out.2.1, HZ.out, he, HD.out.2.2.1, HD.out.2.2.2.1, HD.out.2.2.2.2]
            rfl
          clear hk0
          cases hmy : mayB (T : Int) (N : Int) (RL.map fun x => x.2) with
          | false =>
            rw [hmy] at may
            have HB : Hid (pa9 s = false) := hpa.trans hmy
            clear hpa hmy
            go_wp2_with
              (go_at_call 12; refine may.mono ?_; rintro e w6 ⟨rfl, h6⟩
               have hP6 := HR.out.later h6
               clear n0 n1 n2 r0 r1 r2 f0 f1 f2 s0 s1 g0 g1 u0 u1 u2 cl may
               obtain ⟨⟨n0, n1, n2⟩, ⟨r0, r1, r2⟩, ⟨f0, f1, f2⟩, ⟨s0, s1⟩, g0, g1⟩ := hP6.reads HQ.out
               have H6 : Hid (P9 w2 q T N (.slice ra RL.length rc) RL w6) := hP6
               clear h6 hP6)
            obtain ⟨W, hW, z0, z1, z2, z3, z4, zB, -⟩ := H6.out.ends HQ.out (.int .i64 0) (.int .i64 0) (.slice none 0 0) (.int .i64 2) (.int .i64 (k : Int))
            rw [hW]
            exact bodyPost_ret (v := .tuple #[.agg #[.int .i64 0, .int .i64 0, .slice none 0 0], .agg #[.int .i64 2, .int .i64 (k : Int)]]) (by simp [results, Try.results5, go_sem, z0, z1, z2, z3, z4]) rfl ⟨.inr ⟨HB.out, by rw [HD.out.1]⟩, zB⟩
          | true =>
            rw [hmy] at may
            have HB : Hid (pa9 s = true) := hpa.trans hmy
            clear hpa hmy
            go_wp2_with
              (go_at_call 12; refine may.mono ?_; rintro e w6 ⟨rfl, h6⟩
               have hP6 := HR.out.later h6
               clear n0 n1 n2 r0 r1 r2 f0 f1 f2 s0 s1 g0 g1 u0 u1 u2 cl may
               obtain ⟨⟨n0, n1, n2⟩, ⟨r0, r1, r2⟩, ⟨f0, f1, f2⟩, ⟨s0, s1⟩, g0, g1⟩ := hP6.reads HQ.out
               have u0 := cell_bk9 (i := 0) hP6.gr.at_ rfl
               have u1 := cell_bk9 (i := 1) hP6.gr.at_ rfl
               have u2 := cell_bk9 (i := 2) hP6.gr.at_ rfl
               have H6 : Hid (P9 w2 q T N (.slice ra RL.length rc) RL w6) := hP6
               clear h6 hP6)
            obtain ⟨W, hW, z0, z1, z2, z3, z4, zB, zR⟩ := H6.out.ends HQ.out (.int .i64 (T : Int)) (.int .i64 (N : Int)) (.slice ra RL.length rc) (.int .i64 0) (.int .i64 0)
            rw [hW]
            refine bodyPost_ret (v := .tuple #[.agg #[.int .i64 (T : Int), .int .i64 (N : Int), .slice ra RL.length rc], .agg #[.int .i64 0, .int .i64 0]]) (by simp [results, Try.results5, go_sem, z0, z1, z2, z3, z4]) rfl ⟨.inl ⟨HB.out, .slice ra RL.length rc, ?_, ?_⟩, zB⟩
            · rw [HD.out.2.2.1, HD.out.2.2.2.1]
            · rw [HD.out.2.2.2.2]
              exact zR
end
end Go.Proofs.Ytoecjlfkpfmadaa
