/- The contract of package text's readLine. -/
import Derived.Test.YtganeciagepcpaaDoorTxRr
namespace Go.Proofs.YtganeciagepcpaaDoor
open Go.RowKit

def flatR9 (l : List (Value × Ru)) : List Value := l.flatMap fun x => [.int .i64 x.2.1, x.1]
theorem flatR9_snoc (l : List (Value × Ru)) (x : Value × Ru) : flatR9 (l ++ [x]) = flatR9 l ++ [.int .i64 x.2.1, x.1] := by simp [flatR9]
/-- The grammar that a call of readLines makes. -/
structure GR (w : World) (gb : Nat) (T N : Int) (rv : Value) (RL : List (Value × Ru)) : Prop where
  at_ : w.heap[gb]? = some (.cells #[.int .i64 T, .int .i64 N, rv] 24 (0, 0))
  own : w.ownsRow (gb + 1) 49 2 rv RL.length (flatR9 RL)
  right : ∀ x ∈ RL, w.ownsRow (gb + 1) 51 2 x.1 x.2.2.length (flatY9 x.2.2) ∧ ∀ g, x.1.ownBlock = some g → rv.ownBlock ≠ some g
/-- The rules behind a line. -/
def lineR (line : List UInt8) (R : List Ru) : List Ru := if rlOk line = true ∧ R.length ≤ 40 then R ++ [((rlL line : Int), (rlE line).2)] else R

section
variable {w w' : World} {gb : Nat} {T N : Int} {rv : Value} {RL : List (Value × Ru)}
theorem GR.lt (h : GR w gb T N rv RL) : gb < w.heap.size := (Array.getElem?_eq_some_iff.1 h.at_).1
theorem GR.later (h : GR w gb T N rv RL) (hb : Below w.heap.size w w') : GR w' gb T N rv RL :=
  ⟨(hb.block _ h.lt).trans h.at_, own_same h.own fun g hg => hb.block g (h.own.lt g hg).2, fun x hx => ⟨own_same (h.right x hx).1 fun g hg => hb.block g ((h.right x hx).1.lt g hg).2, (h.right x hx).2⟩⟩
theorem GR.head (h : GR w gb T N rv RL) (hb : But gb w w') {T' N' : Int} (ha : w'.heap[gb]? = some (.cells #[.int .i64 T', .int .i64 N', rv] 24 (0, 0))) : GR w' gb T' N' rv RL :=
  ⟨ha, own_same h.own fun g hg => hb.block g (h.own.lt g hg).2 (by have := (h.own.lt g hg).1; omega), fun x hx => ⟨own_same (h.right x hx).1 fun g hg => hb.block g ((h.right x hx).1.lt g hg).2 (by have := ((h.right x hx).1.lt g hg).1; omega), (h.right x hx).2⟩⟩
theorem GR.put (h : GR w gb T N rv RL) {v : Value} {r : Ru} (hv : w.ownsRow (gb + 1) 51 2 v r.2.length (flatY9 r.2)) (hd : ∀ g, v.ownBlock = some g → rv.ownBlock ≠ some g) {g cap : Nat}
    (hg : w.grownBy w' rv.ownBlock) (hn : rv.ownBlock = some g ∨ g = w.heap.size) (ho : w'.ownsRow (gb + 1) 49 2 (.slice (some ⟨g, 0, none⟩) (RL.length + 1) cap) (RL.length + 1) (flatR9 RL ++ [.int .i64 r.1, v])) :
    GR (w'.setCell ⟨gb, 2, none⟩ (.slice (some ⟨g, 0, none⟩) (RL.length + 1) cap)) gb T N (.slice (some ⟨g, 0, none⟩) (RL.length + 1) cap) (RL ++ [(v, r)]) := by
  have hb : w'.heap[gb]? = w.heap[gb]? := hg.block gb h.lt fun e => by have := (h.own.lt gb e.symm).1; omega
  have hk : ∀ k, k ≠ gb → (w'.setCell ⟨gb, 2, none⟩ (.slice (some ⟨g, 0, none⟩) (RL.length + 1) cap)).heap[k]? = w'.heap[k]? := fun k hk => Below.heap_setCell _ _ _ k hk
  have hr : ∀ x : Value × Ru, w.ownsRow (gb + 1) 51 2 x.1 x.2.2.length (flatY9 x.2.2) → (∀ j, x.1.ownBlock = some j → rv.ownBlock ≠ some j) → (w'.setCell ⟨gb, 2, none⟩ (.slice (some ⟨g, 0, none⟩) (RL.length + 1) cap)).ownsRow (gb + 1) 51 2 x.1 x.2.2.length (flatY9 x.2.2) ∧ ∀ j, x.1.ownBlock = some j → (Value.slice (some ⟨g, 0, none⟩) (RL.length + 1) cap).ownBlock ≠ some j := fun x h1 h2 => by
    refine ⟨own_same h1 fun j hj => (hk j (by have := (h1.lt j hj).1; omega)).trans (hg.block j (h1.lt j hj).2 fun e => h2 j hj e.symm), fun j hj => ?_⟩
    simp only [Value.ownBlock, ne_eq, Option.some.injEq]
    intro e
    subst e
    rcases hn with hn | hn
    · exact h2 _ hj hn
    · have := (h1.lt _ hj).2
      omega
  refine ⟨Lib.heap_setCell_same (hb.trans h.at_) _, ?_, fun x hx => ?_⟩
  · rw [flatR9_snoc, List.length_append]
    exact own_same ho fun j hj => hk j (by have := (ho.lt j hj).1; omega)
  · rcases List.mem_append.1 hx with hx | hx
    · exact hr x (h.right x hx).1 (h.right x hx).2
    · rw [List.mem_singleton.1 hx]
      exact hr (v, r) hv hd

set_option maxRecDepth 100000 in
theorem readLine_head (h : GR w gb T N rv RL) (l : List UInt8) : Calls Tryd.prog 14 #[.pointer (some ⟨gb, 0, none⟩), .int .i64 0, .string ⟨l.toArray⟩] w fun e w' => e = .returned (.bool (hdOk l)) ∧ GR w' gb (hdT l) (hdN l) rv RL ∧ Below gb w w' := by
  have hd := readHead_any l h.at_
  have H : Hid (GR w gb T N rv RL) := h
  clear h
  go_enter Tryd.func14, Tryd.ntmps14
  go_wp2_with
    (go_at_call 19; refine hd.mono ?_; rintro e w2 ⟨rfl, h2, h3⟩
     have H2 : Hid (GR w2 gb (hdT l) (hdN l) rv RL ∧ Below gb w w2) := ⟨H.out.head h3 h2, h3.below (Nat.le_refl _) (Nat.le_of_lt H.out.lt)⟩
     clear hd h2 h3)
  go_ret
  exact ⟨rfl, H2.out⟩

set_option maxRecDepth 100000 in
set_option maxHeartbeats 3200000 in
theorem readLine_rule (h : GR w gb T N rv RL) (hR : RL.length ≤ 41) {m : Nat} (hm : m ≠ 0) (l : List UInt8) : Calls Tryd.prog 14 #[.pointer (some ⟨gb, 0, none⟩), .int .i64 m, .string ⟨l.toArray⟩] w fun e w' => e = .returned (.bool (rlOk l)) ∧ (∃ rv' RL', GR w' gb T N rv' RL' ∧ RL'.map (fun x => x.2) = lineR l (RL.map fun x => x.2)) ∧ Below gb w w' := by
  have rr := readRule_any (w := w) l
  have H : Hid (GR w gb T N rv RL) := h
  obtain ⟨ra, rc, hrv⟩ := own_form9 h.own
  subst hrv
  clear h
  have b1 : ((m : Int) == 0) = false := by simp [hm]
  have b2 : (m == 0) = false := by simp [hm]
  clear hm
  cases hok : rlOk l with
  | false =>
    rw [hok] at rr
    have HL : Hid (lineR l (RL.map fun x => x.2) = RL.map fun x => x.2) := by show _ = _; simp [lineR, hok]
    clear hok
    go_enter Tryd.func14, Tryd.ntmps14
    go_wp2_with
      (go_at_call 20; refine rr.mono ?_; rintro e w2 ⟨v, rfl, h2, h3⟩
       have hG := (H.out.later h3).later ((Below.refl _ _).alloc (Nat.le_refl _) (.cells #[.int .i64 (rlL l), v] 49))
       have H2 : Hid (GR (w2.alloc (.cells #[.int .i64 (rlL l), v] 49)) gb T N (.slice ra RL.length rc) RL ∧ Below gb w (w2.alloc (.cells #[.int .i64 (rlL l), v] 49))) := ⟨hG, (h3.mono (Nat.le_of_lt H.out.lt)).alloc (Nat.le_trans (Nat.le_of_lt H.out.lt) h3.size) _⟩
       obtain ⟨va, vc, hv⟩ := own_form9 h2
       subst hv
       clear rr h2 h3 hG)
    go_ret
    exact ⟨rfl, ⟨_, _, H2.out.1, HL.out.symm⟩, H2.out.2⟩
  | true =>
    rw [hok] at rr
    by_cases h40 : RL.length ≤ 40
    · have HL : Hid (lineR l (RL.map fun x => x.2) = (RL.map fun x => x.2) ++ [((rlL l : Int), (rlE l).2)]) := by show _ = _; simp [lineR, hok, h40]
      have d1 : decide ((RL.length : Int) ≤ 40) = true := decide_eq_true (by omega)
      clear hok
      go_enter Tryd.func14, Tryd.ntmps14
      go_upto_region 5 with
      (go_at_call 20; refine rr.mono ?_; rintro e w2 ⟨v, rfl, h2, h3⟩
       have hG := (H.out.later h3).later ((Below.refl _ _).alloc (Nat.le_refl _) (.cells #[.int .i64 (rlL l), v] 49))
       have H2 : Hid (GR (w2.alloc (.cells #[.int .i64 (rlL l), v] 49)) gb T N (.slice ra RL.length rc) RL ∧ Below gb w (w2.alloc (.cells #[.int .i64 (rlL l), v] 49))) := ⟨hG, (h3.mono (Nat.le_of_lt H.out.lt)).alloc (Nat.le_trans (Nat.le_of_lt H.out.lt) h3.size) _⟩
       have HV : Hid (w2.ownsRow w.heap.size 51 2 v (rlE l).2.length (flatY9 (rlE l).2) ∧ Below w.heap.size w w2) := ⟨h2, h3⟩
       have c2 := cell_bk9 (i := 2) hG.at_ rfl
       obtain ⟨va, vc, hv⟩ := own_form9 h2
       subst hv
       clear rr h2 h3 hG)
      obtain ⟨q, hq⟩ : ∃ x, w2.heap.size = x := ⟨_, rfl⟩
      obtain ⟨W3, hW3⟩ : ∃ V, w2.alloc (.cells #[.int .i64 (rlL l), .slice va (rlE l).2.length vc] 49) = V := ⟨_, rfl⟩
      have hx3 := heap_alloc_new w2 (.cells #[.int .i64 (rlL l), .slice va (rlE l).2.length vc] 49)
      rw [hW3] at H2 hx3 c2
      rw [hW3]
      rw [hq] at hx3
      rw [hq]
      have hvd : ∀ g, (Value.slice va (rlE l).2.length vc).ownBlock = some g → (Value.slice ra RL.length rc).ownBlock ≠ some g := fun g hg e => by
        have h1 := (HV.out.1.lt g hg).1
        have h2 := (H.out.own.lt g e).2
        omega
      have hvo : W3.ownsRow (gb + 1) 51 2 (.slice va (rlE l).2.length vc) (rlE l).2.length (flatY9 (rlE l).2) := by
        rw [← hW3]
        exact own_same (own_mono9 HV.out.1 H.out.lt) fun g hg => Below.heap_alloc _ _ _ (HV.out.1.lt g hg).2
      have HV3 : Hid (W3.ownsRow (gb + 1) 51 2 (.slice va (rlE l).2.length vc) (rlE l).2.length (flatY9 (rlE l).2) ∧ ∀ g, (Value.slice va (rlE l).2.length vc).ownBlock = some g → (Value.slice ra RL.length rc).ownBlock ≠ some g) := ⟨hvo, hvd⟩
      have H3 : Hid (Below w.heap.size w w2) := HV.out.2
      clear hvd hvo HV
      obtain ⟨Wd, hWd⟩ : ∃ V, W3.drew = V := ⟨_, rfl⟩
      have hBd : Below W3.heap.size W3 Wd := by rw [← hWd]; exact (Below.refl _ _).drew
      have hxd := (hBd.block _ (Array.getElem?_eq_some_iff.1 hx3).1).trans hx3
      have hGd := H2.out.1.later hBd
      have S0 : Wd.cell? ⟨gb, 2, none⟩ = some (.slice ra RL.length rc) ∧ Wd.cell? ⟨q, 0, none⟩ = some (.int .i64 (rlL l)) ∧ Wd.cell? ⟨q, 1, none⟩ = some (.slice va (rlE l).2.length vc) := ⟨cell_bk9 hGd.at_ rfl, cell_bk9 hxd rfl, cell_bk9 hxd rfl⟩
      have hvd : Wd.ownsRow (gb + 1) 51 2 (.slice va (rlE l).2.length vc) (rlE l).2.length (flatY9 (rlE l).2) := own_same HV3.out.1 fun g hg => hBd.block g (HV3.out.1.lt g hg).2
      obtain ⟨W4, hW4⟩ : ∃ V, Wd.alloc (.cells #[.int .i64 (rlL l), .slice va (rlE l).2.length vc] 49) = V := ⟨_, rfl⟩
      have hBa : Below Wd.heap.size Wd W4 := by rw [← hW4]; exact (Below.refl _ _).alloc (Nat.le_refl _) _
      have hz4 : W4.heap.size = Wd.heap.size + 1 := by rw [← hW4]; simp
      have hG4 := hGd.later hBa
      have hx4 := (hBa.block _ (Array.getElem?_eq_some_iff.1 hxd).1).trans hxd
      have S4 : W4.cell? ⟨gb, 2, none⟩ = some (.slice ra RL.length rc) ∧ W4.cell? ⟨q, 0, none⟩ = some (.int .i64 (rlL l)) ∧ W4.cell? ⟨q, 1, none⟩ = some (.slice va (rlE l).2.length vc) := ⟨cell_bk9 hG4.at_ rfl, cell_bk9 hx4 rfl, cell_bk9 hx4 rfl⟩
      have hv4 : W4.ownsRow (gb + 1) 51 2 (.slice va (rlE l).2.length vc) (rlE l).2.length (flatY9 (rlE l).2) := own_same hvd fun g hg => hBa.block g (hvd.lt g hg).2
      have hn4 := heap_alloc_new Wd (.cells #[.int .i64 (rlL l), .slice va (rlE l).2.length vc] 49)
      rw [hW4] at hn4
      have hnw := World.news_of_block hn4
      have hB4 : Below gb w W4 := H2.out.2.trans ((hBd.mono (Nat.le_of_lt H2.out.1.lt)).trans (hBa.mono (Nat.le_of_lt hGd.lt)))
      have hlt4 := hG4.lt
      have own4 := hG4.own
      have H4 : Hid (GR W4 gb T N (.slice ra RL.length rc) RL ∧ W4.ownsRow (gb + 1) 51 2 (.slice va (rlE l).2.length vc) (rlE l).2.length (flatY9 (rlE l).2) ∧ Below gb w W4) := ⟨hG4, hv4, hB4⟩
      clear hx3 c2 hBd hxd hGd hvd hBa hz4 hG4 hv4 hn4 hB4 hW3
      refine wp_region_mix [0, 1, 2, 3, 4, 5] 5 10 (fun wq => wq.cell? ⟨gb, 2, none⟩ = some (.slice ra RL.length rc) ∧ wq.cell? ⟨q, 0, none⟩ = some (.int .i64 (rlL l)) ∧ wq.cell? ⟨q, 1, none⟩ = some (.slice va (rlE l).2.length vc)) (by kernel_rfl) (by kernel_rfl) (by rw [hWd]; exact S0) ?_
      rw [hWd]
      clear hWd
      iterate 6
        refine StillI.conR (v := ?_) rfl (by rfl) ?_ ?_
        rotate_left
        · intro w' hSw
          obtain ⟨z0, z1, z2⟩ := hSw
          go_simp
          try with_reducible rfl
        simp only [Act.put, List.setIfInBounds_toArray, List.set_cons_zero, List.set_cons_succ]
      rw [StillI]
      refine TailC.one (i := 6) (by kernel_rfl) ⟨_, rfl, fun K hK => ?_⟩
      go_simp
      refine hK.out _ _ (fun _ => S4) ?_
      clear hK
      obtain ⟨i5, hi5, hz5, hz6, hz7⟩ := info_parts Tryd.infoRu9
      have m1 : RL.length + 1 ≤ maxLen := by unfold maxLen; omega
      have m2 : (RL.length + 1) * 32 ≤ 140737488355328 := by omega
      have hqq : (Value.slice ra RL.length rc).ownBlock ≠ some q := fun e => by
        have h1 := (H.out.own.lt q e).2
        have h2 := H3.out.size
        omega
      have hq4 : q < W4.heap.size := World.block_lt_of_cell? _ _ S4.2.1
      refine TailC.one (i := 7) (by kernel_rfl) ⟨_, rfl, fun K hK => ?_⟩
      rw [if_pos (by rfl)]
      refine wp_append_lies _ (.tmp 32) (.tmp 34) _ rfl (gb + 1) 49 i5 _ 2 32 Tryd.underlying22 hi5 hz5 hz6 hz7 rfl (by omega) (.slice ra RL.length rc) RL.length (flatR9 RL) rfl own4
        ⟨Wd.heap.size, 0, none⟩ 1 1 [.int .i64 (rlL l), .slice va (rlE l).2.length vc] rfl rfl hnw (by simp [Value.oneCell']) (by omega) m1 m2 hlt4 _ rfl ?_
      intro g9 cap9 w9 hown9 hgrow9 hat9 hlt9
      have hq9 : w9.heap[q]? = W4.heap[q]? := hgrow9.block q hq4 fun e => hqq e.symm
      have hg9 : w9.heap[gb]? = W4.heap[gb]? := hgrow9.block gb hlt4 fun e => by have := (own4.lt gb e.symm).1; omega
      have S9 : w9.cell? ⟨gb, 2, none⟩ = some (.slice ra RL.length rc) ∧ w9.cell? ⟨q, 0, none⟩ = some (.int .i64 (rlL l)) ∧ w9.cell? ⟨q, 1, none⟩ = some (.slice va (rlE l).2.length vc) := ⟨(World.cell?_of_block hg9).trans S4.1, (World.cell?_of_block hq9).trans S4.2.1, (World.cell?_of_block hq9).trans S4.2.2⟩
      have c9 := S9.1
      have f9 : w9.frozen? ⟨gb, 2, none⟩ = false := frozen_bk9 (hg9.trans H4.out.1.at_)
      have HG9 : Hid (GR (w9.setCell ⟨gb, 2, none⟩ (.slice (some ⟨g9, 0, none⟩) (RL.length + 1) cap9)) gb T N (.slice (some ⟨g9, 0, none⟩) (RL.length + 1) cap9) (RL ++ [(.slice va (rlE l).2.length vc, ((rlL l : Int), (rlE l).2))]) ∧ Below gb w (w9.setCell ⟨gb, 2, none⟩ (.slice (some ⟨g9, 0, none⟩) (RL.length + 1) cap9))) := by
        refine ⟨H4.out.1.put (r := ((rlL l : Int), (rlE l).2)) H4.out.2.1 HV3.out.2 hgrow9 hat9 hown9, ?_⟩
        exact (H4.out.2.2.trans ⟨hgrow9.os, hgrow9.tape, hgrow9.output, hgrow9.size, fun k hk => hgrow9.block k (by omega) fun e => by have := (own4.lt k e.symm).1; omega⟩).setCell (Nat.le_refl _) _
      refine hK.out _ _ (fun _ => S9) ?_
      clear hK hown9 hgrow9 hat9 hlt9 hq9 hg9 hi5 hz5 hz6 hz7 m1 m2 hqq hq4 hnw hlt4 own4 H4 S0 S4
      simp only [Act.put, List.setIfInBounds_toArray, List.set_cons_zero, List.set_cons_succ]
      refine TailC.one (i := 8) (by kernel_rfl) ⟨_, rfl, fun K hK => ?_⟩
      go_simp
      refine hK.out _ _ (fun _ => S9) ?_
      clear hK
      refine TailC.one (i := 9) (by kernel_rfl) ⟨_, rfl, fun K hK => ?_⟩
      go_simp
      refine hK.out _ _ (fun _ => S9) ?_
      clear hK
      refine TailC.last (i := 10) (by kernel_rfl) ⟨_, rfl, fun K hK => ?_⟩
      go_simp
      refine hK.out _ _ (fun h => absurd h (by omega)) (NoPanic.normal ?_)
      clear hK
      go_wp2_with fail
      go_ret
      refine ⟨rfl, ⟨_, _, HG9.out.1, ?_⟩, HG9.out.2⟩
      rw [HL.out]
      simp
    · have HL : Hid (lineR l (RL.map fun x => x.2) = RL.map fun x => x.2) := by show _ = _; simp [lineR, h40]
      have d1 : decide ((RL.length : Int) ≤ 40) = false := decide_eq_false (by omega)
      clear hok
      go_enter Tryd.func14, Tryd.ntmps14
      go_wp2_with
      (go_at_call 20; refine rr.mono ?_; rintro e w2 ⟨v, rfl, h2, h3⟩
       have hG := (H.out.later h3).later ((Below.refl _ _).alloc (Nat.le_refl _) (.cells #[.int .i64 (rlL l), v] 49))
       have H2 : Hid (GR (w2.alloc (.cells #[.int .i64 (rlL l), v] 49)) gb T N (.slice ra RL.length rc) RL ∧ Below gb w (w2.alloc (.cells #[.int .i64 (rlL l), v] 49))) := ⟨hG, (h3.mono (Nat.le_of_lt H.out.lt)).alloc (Nat.le_trans (Nat.le_of_lt H.out.lt) h3.size) _⟩
       have HV : Hid (w2.ownsRow w.heap.size 51 2 v (rlE l).2.length (flatY9 (rlE l).2) ∧ Below w.heap.size w w2) := ⟨h2, h3⟩
       have c2 := cell_bk9 (i := 2) hG.at_ rfl
       obtain ⟨va, vc, hv⟩ := own_form9 h2
       subst hv
       clear rr h2 h3 hG)
      go_ret
      exact ⟨rfl, ⟨_, _, H2.out.1, HL.out.symm⟩, H2.out.2⟩
end
end Go.Proofs.YtganeciagepcpaaDoor
