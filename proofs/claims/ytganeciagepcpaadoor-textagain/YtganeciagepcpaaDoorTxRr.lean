/- The contract of package text's readRule. -/
import Derived.Test.YtganeciagepcpaaDoorTxRm
import Derived.Test.YtganeciagepcpaaDoorHeldMix
namespace Go.Proofs.YtganeciagepcpaaDoor
open Go.RowKit

theorem more_st {w : World} {b : Nat} {s : Sc9} (h : ScanAt w b s.1 s.2) : Calls Tryd.prog 29 #[.pointer (some ⟨b, 0, none⟩)] w fun e w' => e = .returned (.bool (!s.2 && !s.1.isEmpty)) ∧ w' = w := more_any h

theorem StillI.conR {P : Program} {ops : Array Oper} {S : World → Prop} {K : Act → Prop} {i : Nat} {o : Oper} {l : List Nat} {a : Act} {v : Value} (ho : ops.toList[i]? = some o) (hw : Region.wanted o (yielded ops a.tmps) = true) (hy : ∀ w, S w → (execOp a.eval o).run P w = .ok (.value v) w) (h : StillI P ops S K l (a.put o.dst v)) : StillI P ops S K (i :: l) a :=
  StillI.cons (by simpa using ho) hw hy h
/-- Within readRule. -/
structure RR (w : World) (p1 p2 : Nat) (L : Int) (s : Sc9) (rv : Value) (A : List Sy) (wr : World) : Prop where
  sc : ScanAt wr p1 s.1 s.2
  rule : RuleIn wr p2 L rv A
  res : wr.heap[w.heap.size]? = some (.cells #[.int .i64 0, .slice none 0 0] 49 (0, 0))
  below : Below w.heap.size w wr
section
variable {w wr w' : World} {p1 p2 : Nat} {L : Int} {s s' : Sc9} {rv : Value} {A : List Sy}
theorem RR.size (h : RR w p1 p2 L s rv A wr) : w.heap.size < wr.heap.size := (Array.getElem?_eq_some_iff.1 h.res).1
theorem RR.scan (h : RR w p1 p2 L s rv A wr) (hp : w.heap.size < p1 ∧ p1 < p2) (hb : But p1 wr w') (hs : ScanAt w' p1 s'.1 s'.2) : RR w p1 p2 L s' rv A w' :=
  ⟨hs, h.rule.but hb hp.2, (hb.block _ h.size (by omega)).trans h.res, h.below.trans (hb.below (by omega) (Nat.le_of_lt h.size))⟩
theorem RR.later (h : RR w p1 p2 L s rv A wr) (hb : Below wr.heap.size wr w') : RR w p1 p2 L s rv A w' :=
  ⟨(hb.block _ h.sc.lt).trans h.sc, h.rule.later hb, (hb.block _ h.size).trans h.res, h.below.trans (hb.mono (Nat.le_of_lt h.size))⟩
theorem RR.put (h : RR w p1 p2 L s rv A wr) (hp : w.heap.size < p1 ∧ p1 < p2) {rv' : Value} {A' : List Sy} (hg : wr.grownBy w' rv.ownBlock) (ho : w'.ownsRow (p2 + 1) 51 2 rv' A'.length (flatY9 A')) : RR w p1 p2 L s rv' A' (w'.setCell ⟨p2, 1, none⟩ rv') := by
  have hb : ∀ k, k < p2 → k < wr.heap.size → (w'.setCell ⟨p2, 1, none⟩ rv').heap[k]? = wr.heap[k]? := fun k hk hl => (Below.heap_setCell w' _ _ k (by show k ≠ p2; omega)).trans (hg.block k hl fun e => by have := (h.rule.own.lt k e.symm).1; omega)
  have hB : Below w.heap.size wr (w'.setCell ⟨p2, 1, none⟩ rv') := Below.setCell ⟨hg.os, hg.tape, hg.output, hg.size, fun k hk => hg.block k (by have := h.size; omega) fun e => by have := (h.rule.own.lt k e.symm).1; omega⟩ (by show w.heap.size ≤ p2; omega) _
  exact ⟨(hb _ hp.2 h.sc.lt).trans h.sc, h.rule.put hg ho, (hb _ (by omega) h.size).trans h.res, h.below.trans hB⟩

theorem own_form9 {base : Nat} {e : TypeId} {size n : Nat} {xs : List Value} (h : w.ownsRow base e size rv n xs) : ∃ a c, rv = .slice a n c := by
  rcases h.2 with ⟨h1, h2⟩ | ⟨g, cap, cur, h1, _⟩
  · exact ⟨none, 0, by rw [h1, h2]⟩
  · exact ⟨_, _, h1⟩
theorem own_mono9 {base base' : Nat} {e : TypeId} {size n : Nat} {xs : List Value} (h : w.ownsRow base e size rv n xs) (hb : base' ≤ base) : w.ownsRow base' e size rv n xs := by
  refine ⟨h.1, ?_⟩
  rcases h.2 with h2 | ⟨g, cap, cur, h1, h2, h3⟩
  · exact .inl h2
  · exact .inr ⟨g, cap, cur, h1, by omega, h3⟩

set_option maxRecDepth 100000 in
set_option maxHeartbeats 3200000 in
theorem readRule_any (l : List UInt8) : Calls Tryd.prog 20 #[.string ⟨l.toArray⟩] w fun e w' => ∃ rv, e = .returned (.tuple #[.agg #[.int .i64 (rlL l), rv], .bool (rlOk l)]) ∧ w'.ownsRow w.heap.size 51 2 rv (rlE l).2.length (flatY9 (rlE l).2) ∧ Below w.heap.size w w' := by
  obtain ⟨W0, hW0⟩ : ∃ W, w.alloc (.cells #[.int .i64 0, .slice none 0 0] 49) = W := ⟨_, rfl⟩
  obtain ⟨W1, hW1⟩ : ∃ W, W0.alloc (.cells #[.string ⟨l.toArray⟩, .bool false] 70) = W := ⟨_, rfl⟩
  have hx0 := heap_alloc_new w (.cells #[.int .i64 0, .slice none 0 0] 49)
  rw [hW0] at hx0
  have hz0 : W0.heap.size = w.heap.size + 1 := by rw [← hW0]; simp
  have h1 := scan_new W0 l
  rw [hW1, hz0] at h1
  have hx1 : W1.heap[w.heap.size]? = some (.cells #[.int .i64 0, .slice none 0 0] 49 (0, 0)) := by rw [← hW1]; exact (Below.heap_alloc W0 _ _ (by omega)).trans hx0
  have hB1 : Below w.heap.size w W1 := by rw [← hW1, ← hW0]; exact ((Below.refl _ _).alloc (Nat.le_refl _) _).alloc (by simp) _
  have hz1 : W1.heap.size = w.heap.size + 2 := by rw [← hW1]; simp [hz0]
  have HW : Hid (w.alloc (.cells #[.int .i64 0, .slice none 0 0] 49) = W0 ∧ W0.alloc (.cells #[.string ⟨l.toArray⟩, .bool false] 70) = W1 ∧ W0.heap.size = w.heap.size + 1) := ⟨hW0, hW1, hz0⟩
  have H1 : Hid (W1.heap[w.heap.size]? = some (.cells #[.int .i64 0, .slice none 0 0] 49 (0, 0)) ∧ Below w.heap.size w W1 ∧ W1.heap.size = w.heap.size + 2) := ⟨hx1, hB1, hz1⟩
  have wd := word_st h1 [110]
  have HA : Hid (rlA l = wordS9 [110] (l, false)) := rfl
  rw [← HA.out] at wd
  clear hW0 hW1 hx0 hz0 h1 hx1 hB1 hz1
  obtain ⟨p1, hp1⟩ : ∃ x, w.heap.size + 1 = x := ⟨_, rfl⟩
  rw [hp1] at wd
  have HP : Hid (w.heap.size + 1 = p1) := hp1
  clear hp1
  go_enter Tryd.func20, Tryd.ntmps20
  go_upto_region 2 with fail
  rw [HW.out.1]
  rw [HW.out.2.1]
  rw [HP.out]
  clear HW
  go_upto_region 4 with
    (first
     | (go_at_call 26; refine wd.mono ?_; rintro e w2 ⟨rfl, h2, h3⟩
        have nu := number_st h2
        have H2 : Hid (But p1 W1 w2) := h3
        clear wd h2 h3)
     | (go_at_call 27; refine nu.mono ?_; rintro e w3 ⟨rfl, h2, h3⟩
        have H3 : Hid (But p1 W1 w3 ∧ ScanAt w3 p1 (numS9 (rlA l)).1 (numS9 (rlA l)).2) := ⟨H2.out.trans h3, h2⟩
        clear nu h2 h3))
  obtain ⟨p2, hp2⟩ : ∃ x, w3.heap.size = x := ⟨_, rfl⟩
  obtain ⟨W4, hW4⟩ : ∃ V, w3.alloc (.cells #[.int .i64 ((numP (rlA l).1).1 : Nat), .slice none 0 0] 49) = V := ⟨_, rfl⟩
  rw [hW4]
  rw [hp2]
  have hsz3 := H3.out.1.size
  have HPP : Hid (w.heap.size < p1 ∧ p1 < p2) := by have h1 := HP.out; have h2 := H1.out.2.2; exact ⟨by omega, by omega⟩
  have hrr : RR w p1 p2 (rlL l) (numS9 (rlA l)) (.slice none 0 0) [] W4 := by
    have hx := heap_alloc_new w3 (.cells #[.int .i64 ((numP (rlA l).1).1 : Nat), .slice none 0 0] 49)
    rw [hW4, hp2] at hx
    refine ⟨by rw [← hW4]; exact H3.out.2.alloc _, ⟨hx, World.ownsRow_nil ..⟩, ?_, ?_⟩
    · rw [← hW4]
      exact (Below.heap_alloc w3 _ _ (by have := H1.out.2.2; omega)).trans ((H3.out.1.block _ (by have := H1.out.2.2; omega) (by have := HPP.out; omega)).trans H1.out.1)
    · rw [← hW4]
      exact (H1.out.2.1.trans (H3.out.1.below (by have := HPP.out; omega) (by have := H1.out.2.2; omega))).alloc (by have := H1.out.2.2; omega) _
  have wo := word_st hrr.sc [58]
  have HB : Hid (rlB l = wordS9 [58] (numS9 (rlA l))) := rfl
  rw [← HB.out] at wo
  have HR : Hid (RR w p1 p2 (rlL l) (numS9 (rlA l)) (.slice none 0 0) [] W4) := hrr
  clear hsz3 hrr hW4 hp2 H3 H2
  go_wp2_with
    (go_at_call 26; refine wo.mono ?_; rintro e w5 ⟨rfl, h2, h3⟩
     have HR5 : Hid (RR w p1 p2 (rlL l) (rlB l) (.slice none 0 0) [] w5) := HR.out.scan HPP.out h3 h2
     clear wo h2 h3)
  go_loopw [6] (fun s6 wr => ∃ (u : Value) (s : Sc9) (rv : Value) (A : List Sy) (f : Nat), s6 = u ∧ RR w p1 p2 (rlL l) s rv A wr ∧ A.length ≤ 9 ∧ mz s ≤ f ∧ symsL f s A = rlE l) (fun _ wr => mzW p1 wr)
  case atStart => exact ⟨_, rlB l, .slice none 0 0, [], _, rfl, HR5.out, by simp, by unfold mz; split <;> omega, rfl⟩
  case round =>
    obtain ⟨u, s, rv, A, f, rfl, hR, hA, hf, hE⟩ := hrel
    obtain ⟨ra, rc, hrv⟩ := own_form9 hR.rule.own
    subst hrv
    cases hm : (!s.2 && !s.1.isEmpty) with
    | true =>
      have mo := more_st hR.sc
      rw [hm] at mo
      have sy := symbol_any hR.sc
      obtain ⟨f', hf'⟩ : ∃ f', f = f' + 1 := ⟨f - 1, by have := mz_pos hm; omega⟩
      subst hf'
      rw [symsL, hm, if_pos rfl] at hE
      have HZ : Hid (mzW p1 wr = mz s ∧ mz (symS9 s) < mz s ∧ mz (symS9 s) ≤ f') := ⟨mzW_at hR.sc, sym_less hm, by have := sym_less hm; omega⟩
      have HR6 : Hid (RR w p1 p2 (rlL l) s (.slice ra A.length rc) A wr) := hR
      obtain ⟨t, ht⟩ : ∃ x, symM9 s = x := ⟨_, rfl⟩
      obtain ⟨v, hv⟩ : ∃ x, (numP (symB9 s).1).1 = x := ⟨_, rfl⟩
      rw [ht, hv] at hE sy
      by_cases hA8 : A.length ≤ 8
      · rw [if_pos hA8] at hE
        have HE : Hid (symsL f' (symS9 s) (A ++ [(t, (v : Int))]) = rlE l) := hE
        have i1 : decide ((A.length : Int) ≤ 8) = true := decide_eq_true (by omega)
        obtain ⟨i5, hi5, hz5, hz6, hz7⟩ := info_parts Tryd.infoSy9
        have m1 : A.length + 1 ≤ maxLen := by unfold maxLen; omega
        have m2 : (A.length + 1) * 16 ≤ 140737488355328 := by omega
        clear hR hf hE hm ht hv
        go_wp2_with
          (first
           | (go_at_call 29; refine mo.mono ?_; rintro e w6 ⟨rfl, h6⟩; obtain rfl : wr = w6 := h6.symm; clear mo)
           | (go_at_call 30; refine sy.mono ?_; rintro e w6 ⟨rfl, h2, h3⟩
              have hR7 := (HR6.out.scan HPP.out h3 h2).later ((Below.refl _ _).alloc (Nat.le_refl _) (.cells #[.bool t, .int .i64 (v : Int)] 51))
              have hR8 := hR7.later ((Below.refl _ _).alloc (Nat.le_refl _) (.cells #[.bool t, .int .i64 (v : Int)] 51))
              have c1 := cell_bk9 (i := 1) hR7.rule.at_ rfl
              have own8 := hR8.rule.own
              have hb8 := hR8.rule.lt
              have HR8 : Hid (RR w p1 p2 (rlL l) (symS9 s) (.slice ra A.length rc) A ((w6.alloc (.cells #[.bool t, .int .i64 (v : Int)] 51)).alloc (.cells #[.bool t, .int .i64 (v : Int)] 51))) := hR8
              have hnw := World.news_of_block (cs := #[.bool t, .int .i64 (v : Int)]) (t := 51) (fr := (0, 0)) (heap_alloc_new (w6.alloc (.cells #[.bool t, .int .i64 (v : Int)] 51)) (.cells #[.bool t, .int .i64 (v : Int)] 51))
              clear sy h2 h3 hR7 hR8)
           | (at_builtin
              refine wpList_append_lies _ rfl _ _ _ rfl (p2 + 1) 51 i5 _ 2 16 Tryd.underlying47 hi5 hz5 hz6 hz7 rfl (by omega) (.slice ra A.length rc) A.length (flatY9 A) rfl own8
                ⟨(w6.alloc (.cells #[.bool t, .int .i64 (v : Int)] 51)).heap.size, 0, none⟩ 1 1 [.bool t, .int .i64 (v : Int)] (by simp [go_sem]) rfl hnw (by simp [Value.oneCell']) (by omega) m1 m2 hb8 _ rfl ?_
              intro g9 cap9 w9 hown9 hgrow9 hat9 hlt9
              have hq : w9.heap[p2]? = _ := (hgrow9.block p2 hb8 (fun e => by have := (HR8.out.rule.own.lt _ e.symm).1; omega)).trans HR8.out.rule.at_
              have c9 := cell_bk9 (i := 1) hq rfl
              have f9 : w9.frozen? ⟨p2, 1, none⟩ = false := frozen_bk9 hq
              clear hq))
        have HR9 : Hid (RR w p1 p2 (rlL l) (symS9 s) (.slice (some ⟨g9, 0, none⟩) (A.length + 1) cap9) (A ++ [(t, (v : Int))]) (w9.setCell ⟨p2, 1, none⟩ (.slice (some ⟨g9, 0, none⟩) (A.length + 1) cap9))) := HR8.out.put HPP.out hgrow9 (by rw [flatY9_snoc]; simpa using hown9)
        clear hown9 hgrow9 hat9 hlt9 own8 hnw hi5 hz5 hz6 hz7 m1 m2 hb8
        go_roundw
        case rel => exact ⟨_, _, _, _, f', rfl, HR9.out, by simp; omega, HZ.out.2.2, HE.out⟩
        case measure =>
          rw [HZ.out.1, mzW_at HR9.out.sc]
          exact HZ.out.2.1
      · rw [if_neg hA8] at hE
        have HE : Hid (symsL f' (symS9 s) A = rlE l) := hE
        have i1 : decide ((A.length : Int) ≤ 8) = false := decide_eq_false (by omega)
        clear hR hf hE hm ht hv
        go_wp2_with
          (first
           | (go_at_call 29; refine mo.mono ?_; rintro e w6 ⟨rfl, h6⟩; obtain rfl : wr = w6 := h6.symm; clear mo)
           | (go_at_call 30; refine sy.mono ?_; rintro e w6 ⟨rfl, h2, h3⟩
              have hR7 := (HR6.out.scan HPP.out h3 h2).later ((Below.refl _ _).alloc (Nat.le_refl _) (.cells #[.bool t, .int .i64 (v : Int)] 51))
              have c1 := cell_bk9 (i := 1) hR7.rule.at_ rfl
              have HR7 : Hid (RR w p1 p2 (rlL l) (symS9 s) (.slice ra A.length rc) A (w6.alloc (.cells #[.bool t, .int .i64 (v : Int)] 51))) := hR7
              clear sy h2 h3 hR7))
        go_roundw
        case rel => exact ⟨_, _, _, _, f', rfl, HR7.out, hA, HZ.out.2.2, HE.out⟩
        case measure =>
          rw [HZ.out.1, mzW_at HR7.out.sc]
          exact HZ.out.2.1
    | false =>
      have mo := more_st hR.sc
      rw [hm] at mo
      rw [symsL_stop f hm] at hE
      have HE : Hid (rlE l = (s, A)) := hE.symm
      have HR6 : Hid (RR w p1 p2 (rlL l) s (.slice ra A.length rc) A wr) := hR
      clear hR hf hE hm
      go_upto_region 9 with (go_at_call 29; refine mo.mono ?_; rintro e w6 ⟨rfl, h6⟩; obtain rfl : wr = w6 := h6.symm; clear mo)
      obtain ⟨Wd, hWd⟩ : ∃ V, wr.drew = V := ⟨_, rfl⟩
      have hRd : RR w p1 p2 (rlL l) s (.slice ra A.length rc) A Wd := by rw [← hWd]; exact HR6.out.later (Below.refl _ _).drew
      have S0 : Wd.cell? ⟨p2, 0, none⟩ = some (.int .i64 (rlL l)) ∧ Wd.cell? ⟨p2, 1, none⟩ = some (.slice ra A.length rc) := ⟨cell_bk9 hRd.rule.at_ rfl, cell_bk9 hRd.rule.at_ rfl⟩
      have HRd : Hid (RR w p1 p2 (rlL l) s (.slice ra A.length rc) A Wd) := hRd
      clear hRd
      refine wp_region_mix [0] 3 3 (fun wq => wq.cell? ⟨p2, 0, none⟩ = some (.int .i64 (rlL l)) ∧ wq.cell? ⟨p2, 1, none⟩ = some (.slice ra A.length rc)) (by kernel_rfl) (by kernel_rfl) (by rw [hWd]; exact S0) ?_
      rw [hWd]
      clear hWd
      refine StillI.conR (v := ?_) rfl (by rfl) ?_ ?_
      rotate_left
      · intro w' hSw
        obtain ⟨z0, z1⟩ := hSw
        go_simp
        try with_reducible rfl
      simp only [Act.put, List.setIfInBounds_toArray, List.set_cons_zero, List.set_cons_succ]
      rw [StillI]
      have dn := done_st HRd.out.sc
      refine TailC.one (i := 1) (by kernel_rfl) ⟨_, rfl, fun K hK => ?_⟩
      go_simp
      refine dn.mono ?_
      rintro e w4 ⟨rfl, h4⟩
      obtain rfl : Wd = w4 := h4.symm
      dsimp only
      refine hK.out _ _ (fun _ => S0) ?_
      clear hK dn
      have r0 := cell_bk9 (i := 0) HRd.out.res rfl
      have r1 := cell_bk9 (i := 1) HRd.out.res rfl
      have g0 : Wd.frozen? ⟨w.heap.size, 0, none⟩ = false := frozen_bk9 HRd.out.res
      have g1 : Wd.frozen? ⟨w.heap.size, 1, none⟩ = false := frozen_bk9 HRd.out.res
      obtain ⟨W9, hW9⟩ : ∃ V, (Wd.setCell ⟨w.heap.size, 0, none⟩ (.int .i64 (rlL l))).setCell ⟨w.heap.size, 1, none⟩ (.slice ra A.length rc) = V := ⟨_, rfl⟩
      have hx9 : W9.heap[w.heap.size]? = some (.cells #[.int .i64 (rlL l), .slice ra A.length rc] 49 (0, 0)) := by rw [← hW9]; exact Lib.heap_setCell_same (i := 1) (Lib.heap_setCell_same (i := 0) HRd.out.res _) _
      have hk9 : ∀ k, k ≠ w.heap.size → W9.heap[k]? = Wd.heap[k]? := fun k hk => by rw [← hW9]; exact (Below.heap_setCell _ _ _ k hk).trans (Below.heap_setCell _ _ _ k hk)
      have hB9 : Below w.heap.size w W9 := by rw [← hW9]; exact (HRd.out.below.setCell (Nat.le_refl _) _).setCell (Nat.le_refl _) _
      have hy9 := (hk9 p2 (by have := HPP.out; omega)).trans HRd.out.rule.at_
      have S9 : W9.cell? ⟨p2, 0, none⟩ = some (.int .i64 (rlL l)) ∧ W9.cell? ⟨p2, 1, none⟩ = some (.slice ra A.length rc) := ⟨cell_bk9 hy9 rfl, cell_bk9 hy9 rfl⟩
      have hown9 : W9.ownsRow w.heap.size 51 2 (.slice ra A.length rc) A.length (flatY9 A) := own_mono9 (own_same HRd.out.rule.own fun g hg => hk9 g (by have := (HRd.out.rule.own.lt g hg).1; have := HPP.out; omega)) (by have := HPP.out; omega)
      have H9 : Hid (W9.ownsRow w.heap.size 51 2 (.slice ra A.length rc) A.length (flatY9 A) ∧ Below w.heap.size w W9) := ⟨hown9, hB9⟩
      have x0 := cell_bk9 (i := 0) hx9 rfl
      have x1 := cell_bk9 (i := 1) hx9 rfl
      clear hx9 hk9 hB9 hy9 hown9
      refine TailC.one (i := 2) (by kernel_rfl) ⟨_, rfl, fun K hK => ?_⟩
      go_simp
      refine hK.out _ _ (fun _ => S9) ?_
      clear hK
      refine TailC.last (i := 3) (by kernel_rfl) ⟨_, rfl, fun K hK => ?_⟩
      go_simp
      refine hK.out _ _ (fun h => absurd h (by omega)) (NoPanic.normal ?_)
      clear hK
      go_wp2_with fail
      refine bodyPost_ret (v := .tuple #[.agg #[.int .i64 (rlL l), .slice ra A.length rc], .bool (!s.2 && s.1.isEmpty)]) (by simp [results, Tryd.results20, go_sem, x0, x1]) rfl ⟨.slice ra A.length rc, ?_, ?_, H9.out.2⟩
      · unfold rlOk
        rw [HE.out]
      · rw [HE.out]
        exact H9.out.1
end
end Go.Proofs.YtganeciagepcpaaDoor
