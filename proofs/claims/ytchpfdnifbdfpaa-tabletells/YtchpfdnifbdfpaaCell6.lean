/- The contract of pollardingref6.cell. -/
import Derived.Test.YtchpfdnifbdfpaaLooksMem
import Derived.Test.YtchpfdnifbdfpaaTab6
import Derived.Test.YtchpfdnifbdfpaaRowI
namespace Go.Proofs.Ytchpfdnifbdfpaa
open Go.RowKit

/-- A rule is read whole in the state k, and has t as lookahead. -/
def doneF (OL : List (List It)) (R : List Ru) (X : LkX) (k t n : Nat) : Bool := decide ((n, (rightF R n).length) ∈ OL.getD k []) && bit X (k, atN OL k (n, (rightF R n).length)) t
def rulesF (OL : List (List It)) (R : List Ru) (X : LkX) (k t q : Nat) : List Int := ((List.range q).filter (doneF OL R X k t)).map fun n => ((n : Nat) : Int)
def cellF (OL : List (List It)) (NL : List (List Int)) (R : List Ru) (T : Nat) (X : LkX) (k t : Nat) : Ce := (if t < T then (NL.getD k []).getD t 0 else -1, rulesF OL R X k t R.length, doneF OL R X k t R.length)

theorem rulesF_step {OL : List (List It)} {R : List Ru} {X : LkX} {k t q : Nat} : rulesF OL R X k t (q + 1) = rulesF OL R X k t q ++ if doneF OL R X k t q then [(q : Int)] else [] := by
  unfold rulesF
  rw [List.range_succ, List.filter_append, List.map_append]
  congr 1
  cases h : doneF OL R X k t q <;> simp [h]
theorem rulesF_len {OL : List (List It)} {R : List Ru} {X : LkX} {k t q : Nat} : (rulesF OL R X k t q).length ≤ q := by
  unfold rulesF
  rw [List.length_map]
  have := List.length_filter_le (doneF OL R X k t) (List.range q)
  simpa using this

/-- While a cell is made, in the block w.heap.size + 1; what is answered lies in the block w.heap.size. -/
structure CS (w : World) (sh : Int) (L : List Int) (en : Bool) (rv : Value) (wr : World) : Prop where
  below : Below w.heap.size w wr
  size : w.heap.size + 2 ≤ wr.heap.size
  b0 : wr.cell? ⟨w.heap.size + 1, 0, none⟩ = some (.int .i64 sh)
  b1 : wr.cell? ⟨w.heap.size + 1, 1, none⟩ = some rv
  b2 : wr.cell? ⟨w.heap.size + 1, 2, none⟩ = some (.bool en)
  fr : ∀ o, wr.frozen? ⟨w.heap.size + 1, o, none⟩ = false
  a0 : ∃ v, wr.cell? ⟨w.heap.size, 0, none⟩ = some v
  a1 : ∃ v, wr.cell? ⟨w.heap.size, 1, none⟩ = some v
  a2 : ∃ v, wr.cell? ⟨w.heap.size, 2, none⟩ = some v
  af : ∀ o, wr.frozen? ⟨w.heap.size, o, none⟩ = false
  own : wr.ownsRow (w.heap.size + 2) 3 1 rv L.length (L.map (Value.int .i64))

section
variable {w wr : World} {sh : Int} {L : List Int} {en : Bool} {rv : Value}
theorem CS.grow (h : CS w sh L en rv wr) {w' : World} {row : Option Nat} (hg : wr.grownBy w' row) (hr : ∀ b, row = some b → w.heap.size + 2 ≤ b) {L' : List Int} {rv' : Value} (ho : w'.ownsRow (w.heap.size + 2) 3 1 rv' L'.length (L'.map (Value.int .i64))) (hb1 : w'.cell? ⟨w.heap.size + 1, 1, none⟩ = some rv') : CS w sh L' en rv' w' := by
  have hs := h.size
  have hb : ∀ k, k < w.heap.size + 2 → w'.heap[k]? = wr.heap[k]? := fun k hk => hg.block k (by omega) (fun e => by have := hr k e.symm; omega)
  have hc : ∀ k o, k < w.heap.size + 2 → w'.cell? ⟨k, o, none⟩ = wr.cell? ⟨k, o, none⟩ := fun k o hk => World.cell?_of_block (hb k hk)
  have hf : ∀ k o, k < w.heap.size + 2 → w'.frozen? ⟨k, o, none⟩ = wr.frozen? ⟨k, o, none⟩ := fun k o hk => World.frozen?_of_block (hb k hk)
  exact ⟨h.below.trans ⟨hg.os, hg.tape, hg.output, hg.size, fun k hk => hb k (by omega)⟩, Nat.le_trans hs hg.size, (hc _ 0 (by omega)).trans h.b0, hb1, (hc _ 2 (by omega)).trans h.b2, fun o => (hf _ o (by omega)).trans (h.fr o),
    by rw [hc _ 0 (by omega)]; exact h.a0, by rw [hc _ 1 (by omega)]; exact h.a1, by rw [hc _ 2 (by omega)]; exact h.a2, fun o => (hf _ o (by omega)).trans (h.af o), ho⟩
theorem CS.later (h : CS w sh L en rv wr) {w' : World} (hb : Below wr.heap.size wr w') : CS w sh L en rv w' :=
  h.grow (row := none) ⟨hb.os, hb.tape, hb.output, hb.size, fun k hk _ => hb.block k hk⟩ (fun _ e => nomatch e) (own_below h.own hb (fun g hg => (h.own.lt g hg).2)) ((hb.cell (p := ⟨w.heap.size + 1, 1, none⟩) (by have := h.size; simp; omega)).trans h.b1)
theorem CS.setEnd (h : CS w sh L en rv wr) (v : Bool) : CS w sh L v rv (wr.setCell ⟨w.heap.size + 1, 2, none⟩ (.bool v)) := by
  have hB : Below (w.heap.size + 1) wr (wr.setCell ⟨w.heap.size + 1, 2, none⟩ (.bool v)) := Below.setCell (Below.refl _ _) (by simp) _
  have hc : ∀ k o, k ≠ w.heap.size + 1 ∨ o ≠ 2 → (wr.setCell ⟨w.heap.size + 1, 2, none⟩ (.bool v)).cell? ⟨k, o, none⟩ = wr.cell? ⟨k, o, none⟩ := fun k o ho => cell_set_other ho
  refine ⟨h.below.trans (hB.mono (by omega)), by simpa using h.size, (hc _ 0 (.inr (by omega))).trans h.b0, (hc _ 1 (.inr (by omega))).trans h.b1, World.cell?_setCell_same (h := h.b2) .., fun o => by rw [World.frozen?_setCell]; exact h.fr o,
    by rw [hc _ 0 (.inl (by omega))]; exact h.a0, by rw [hc _ 1 (.inl (by omega))]; exact h.a1, by rw [hc _ 2 (.inl (by omega))]; exact h.a2, fun o => by rw [World.frozen?_setCell]; exact h.af o, ?_⟩
  refine ⟨h.own.1, ?_⟩
  rcases h.own.2 with h2 | ⟨g, cap, cur, rfl, h2, h3, h4⟩
  · exact .inl h2
  · exact .inr ⟨g, cap, cur, rfl, h2, by rw [Below.heap_setCell _ _ _ _ (show g ≠ w.heap.size + 1 by omega)]; exact h3, h4⟩
theorem CS.setRules (h : CS w sh L en rv wr) {w' : World} (hg : wr.grownBy w' rv.ownBlock) {L' : List Int} {rv' : Value} (ho : w'.ownsRow (w.heap.size + 2) 3 1 rv' L'.length (L'.map (Value.int .i64))) : CS w sh L' en rv' (w'.setCell ⟨w.heap.size + 1, 1, none⟩ rv') := by
  have hs := h.size
  have hr : ∀ b, rv.ownBlock = some b → w.heap.size + 2 ≤ b := fun b hb => (h.own.lt b hb).1
  have hb : ∀ k, k < w.heap.size + 2 → w'.heap[k]? = wr.heap[k]? := fun k hk => hg.block k (by omega) (fun e => by have := hr k e.symm; omega)
  have hc : ∀ k o, k < w.heap.size + 2 → (k ≠ w.heap.size + 1 ∨ o ≠ 1) → (w'.setCell ⟨w.heap.size + 1, 1, none⟩ rv').cell? ⟨k, o, none⟩ = wr.cell? ⟨k, o, none⟩ := fun k o hk ho => (cell_set_other ho).trans (World.cell?_of_block (hb k hk))
  have hf : ∀ k o, k < w.heap.size + 2 → (w'.setCell ⟨w.heap.size + 1, 1, none⟩ rv').frozen? ⟨k, o, none⟩ = wr.frozen? ⟨k, o, none⟩ := fun k o hk => by rw [World.frozen?_setCell]; exact World.frozen?_of_block (hb k hk)
  have h1 : w'.cell? ⟨w.heap.size + 1, 1, none⟩ = some rv := (World.cell?_of_block (hb (w.heap.size + 1) (by omega))).trans h.b1
  have hB : Below w.heap.size wr (w'.setCell ⟨w.heap.size + 1, 1, none⟩ rv') := Below.setCell ⟨hg.os, hg.tape, hg.output, hg.size, fun k hk => hb k (by omega)⟩ (by simp) _
  refine ⟨h.below.trans hB, by have := hg.size; simp; omega, (hc _ 0 (by omega) (.inr (by omega))).trans h.b0, World.cell?_setCell_same (h := h1) .., (hc _ 2 (by omega) (.inr (by omega))).trans h.b2, fun o => (hf _ o (by omega)).trans (h.fr o),
    by rw [hc _ 0 (by omega) (.inl (by omega))]; exact h.a0, by rw [hc _ 1 (by omega) (.inl (by omega))]; exact h.a1, by rw [hc _ 2 (by omega) (.inl (by omega))]; exact h.a2, fun o => (hf _ o (by omega)).trans (h.af o), ?_⟩
  refine ⟨ho.1, ?_⟩
  rcases ho.2 with h2 | ⟨g, cap, cur, rfl, h2, h3, h4⟩
  · exact .inl h2
  · exact .inr ⟨g, cap, cur, rfl, h2, by rw [Below.heap_setCell _ _ _ _ (show g ≠ w.heap.size + 1 by omega)]; exact h3, h4⟩
end

theorem own_setOther {w : World} {base : Nat} {e : TypeId} {size n : Nat} {v : Value} {xs : List Value} (h : w.ownsRow base e size v n xs) {p : Addr} (hp : p.block < base) (u : Value) : (w.setCell p u).ownsRow base e size v n xs := by
  refine ⟨h.1, ?_⟩
  rcases h.2 with h2 | ⟨g, cap, cur, rfl, h2, h3, h4⟩
  · exact .inl h2
  · exact .inr ⟨g, cap, cur, rfl, h2, by rw [Below.heap_setCell _ _ _ _ (show g ≠ p.block by omega)]; exact h3, h4⟩

theorem cs_start (w : World) (sh : Int) : CS w sh [] false (.slice none 0 0) ((w.alloc (.cells #[.int .i64 0, .slice none 0 0, .bool false] 60)).alloc (.cells #[.int .i64 sh, .slice none 0 0, .bool false] 60)) := by
  refine ⟨((Below.refl _ _).alloc (Nat.le_refl _) _).alloc (by simp) _, by simp, by simp [go_sem], by simp [go_sem], by simp [go_sem], fun o => by simp [go_sem], ⟨.int .i64 0, by simp [go_sem]⟩, ⟨.slice none 0 0, by simp [go_sem]⟩, ⟨.bool false, by simp [go_sem]⟩, fun o => by simp [go_sem], World.ownsRow_nil _ _ _ _⟩

set_option maxRecDepth 100000 in
set_option maxHeartbeats 12800000 in
theorem cell6_any {w : World} {ab lim T N B k t : Nat} {rv nuv fiv : Value} {R : List Ru} {Nu : List Bool} {Fi : List (List Bool)} {OL : List (List It)} {NL : List (List Int)} {Ls : List SetI} {c : Tab (Nat × Nat)} {D : Ads} {X : LkX}
    (hF : ∀ w', Kept c.K w w' → AutoF ab lim T N rv R nuv fiv Nu Fi OL NL c.V D w') (hBt : Bt w B c X) (hok : AutoOk T N R OL NL Ls c.dom) (hR : R.length ≤ 40) (h8 : ∀ r, r ≤ R.length → (rightF R r).length ≤ 8) (hk : k < OL.length) (ht : t ≤ T) :
    Calls Try.prog 18 #[.pointer (some ⟨ab, 0, none⟩), .int .i64 k, .int .i64 t] w fun e w' => ∃ rv', e = .returned (.agg #[.int .i64 (cellF OL NL R T X k t).1, rv', .bool (cellF OL NL R T X k t).2.2]) ∧ Below w.heap.size w w' ∧
      w'.ownsRow w.heap.size 3 1 rv' (cellF OL NL R T X k t).2.1.length ((cellF OL NL R T X k t).2.1.map (Value.int .i64)) := by
  have HF : Hid (∀ w', Kept c.K w w' → AutoF ab lim T N rv R nuv fiv Nu Fi OL NL c.V D w') := hF
  have HBt : Hid (Bt w B c X) := hBt
  have HOk : Hid (AutoOk T N R OL NL Ls c.dom) := hok
  have H8 : Hid (∀ r, r ≤ R.length → (rightF R r).length ≤ 8) := h8
  have hOk369 : (OL.getD k []).length ≤ 369 := by
    have := ok_len h8 (hok.sok.rep k hk).nod (hok.sok.ok k hk)
    omega
  have k0 : (0 : Int) ≤ (k : Int) := Int.natCast_nonneg _
  have k1 : (k : Int) < (OL.length : Int) := by omega
  have t0 : (0 : Int) ≤ (t : Int) := Int.natCast_nonneg _
  have t1 : (t : Int) < (T : Int) + 1 := by omega
  obtain ⟨n0, hn0⟩ : ∃ n0, (OL.getD k []).length = n0 := ⟨_, rfl⟩
  have HN0 : Hid ((OL.getD k []).length = n0) := hn0
  rw [hn0] at hOk369
  obtain ⟨W2, hW2⟩ : ∃ W2, W2 = (w.alloc (.cells #[.int .i64 0, .slice none 0 0, .bool false] 60)).alloc (.cells #[.int .i64 (-1), .slice none 0 0, .bool false] 60) := ⟨_, rfl⟩
  have hB2 : Below w.heap.size w W2 := by rw [hW2]; exact ((Below.refl _ _).alloc (Nat.le_refl _) _).alloc (by simp) _
  have hF2 := hF W2 (Kept.ofBelow hB2)
  have a0 := hF2.auto.t
  have c7 := hF2.c7
  obtain ⟨n1, n2⟩ := hF2.nx k hk
  clear hF hBt hok h8 hn0 hF2
  go_enter Try.func18, Try.ntmps18
  go_upto_region 2 with fail
  rw [hW2] at a0 c7 n1 n2
  clear hW2 hB2
  obtain ⟨sh, hsh⟩ : ∃ sh, (cellF OL NL R T X k t).1 = sh := ⟨_, rfl⟩
  have HSh : Hid ((cellF OL NL R T X k t).1 = sh) := hsh
  go_upto_if 17 with fail
  go_cut [] from 18 to 28 (fun wx => CS w sh [] false (.slice none 0 0) wx)
  case first =>
    by_cases htT : t < T
    · have e1 : (t : Int) < (T : Int) := by omega
      have e2 : (t : Int) < (T : Int) + (N : Int) := by omega
      have n3 := n2 t (by omega)
      have hz : (NL.getD k []).getD t 0 = sh := by rw [← hsh]; simp [cellF, htT]
      rw [hz] at n3
      go_wp2_with fail
      go_meet
      case rel => exact cs_start w sh
    · have e1 : decide ((t : Int) < (T : Int)) = false := decide_eq_false (by omega)
      have hz : sh = -1 := by rw [← hsh]; simp [cellF, htT]
      go_wp2_with fail
      go_meet
      case rel => rw [hz]; exact cs_start w (-1)
  case rest =>
    have HS : Hid (CS w sh [] false (.slice none 0 0) wc) := hcut
    clear hcut a0 c7 n1 n2 hsh
    go_wp2_with fail
    go_loopw [8] (fun s8 wq => ∃ (n : Nat) (rl : Value), s8 = .int .i64 n ∧ n ≤ R.length + 1 ∧ CS w sh (rulesF OL R X k t (min n R.length)) (decide (R.length < n) && doneF OL R X k t R.length) rl wq) (fun s _ => R.length + 1 - (intOf s).toNat)
    case atStart => exact ⟨0, _, rfl, Nat.zero_le _, by simpa [rulesF] using HS.out⟩
    case round =>
      clear HS
      obtain ⟨n, rl, rfl, hn, hS⟩ := hrel
      have HS : Hid (CS w sh (rulesF OL R X k t (min n R.length)) (decide (R.length < n) && doneF OL R X k t R.length) rl wr) := hS
      have HKr : Hid (Kept c.K w wr) := Kept.ofBelow hS.below
      have hFr := HF.out wr (Kept.ofBelow hS.below)
      have a2 := hFr.auto.r
      obtain ⟨ra, rc, hrv⟩ := hFr.auto.rules.1
      subst hrv
      by_cases hnlt : n ≤ R.length
      · have e1 : (n : Int) ≤ (R.length : Int) := by omega
        have c6 := hFr.c6
        obtain ⟨x1, x2⟩ := hFr.st k hk
        rw [HN0.out] at x1
        have right := right6_any (w := wr.drew) ⟨hFr.auto.t, hFr.auto.n, hFr.auto.r, hFr.auto.rules, hFr.auto.le, hFr.auto.lt⟩ hnlt
        have h8' := H8.out n hnlt
        obtain ⟨m, hm⟩ : ∃ m, (rightF R n).length = m := ⟨_, rfl⟩
        have HM : Hid ((rightF R n).length = m) := hm
        rw [hm] at right h8'
        obtain ⟨y, hy⟩ : ∃ y, hasF (OL.getD k []) (n, m) = y := ⟨_, rfl⟩
        have HY : Hid (hasF (OL.getD k []) (n, m) = y) := hy
        have en0 : (decide (R.length < n) && doneF OL R X k t R.length) = false := by simp; omega
        rw [en0] at HS
        have hmin : min n R.length = n := by omega
        rw [hmin] at HS
        clear hS hFr x2 hm en0 hmin hy
        go_wp2_with fail
        refine wp_region_held_tail 10 14 (fun w' => w'.cell? ⟨ab, 6, none⟩ = some (.slice (some ⟨D.sg, 0, none⟩) OL.length D.scap) ∧ w'.cell? ⟨D.sg, k, none⟩ = some (.slice (D.ia k) n0 (D.ic k))) (by kernel_rfl) (by kernel_rfl) ⟨c6, x1⟩ ?_
        simp only [List.take_succ_cons, List.take_zero, List.drop_succ_cons, List.drop_zero]
        iterate 10
          refine StillS.cons (v := ?_) (by rfl) ?_ ?_
          rotate_left
          · intro w' hSw
            obtain ⟨s0', s1'⟩ := hSw
            go_simp
            try with_reducible rfl
          simp only [Act.put, List.setIfInBounds_toArray, List.set_cons_zero, List.set_cons_succ]
        rw [StillS, TailS]
        intro K hK
        go_simp
        go_wp2_with
          (go_at_call 38; refine right.mono ?_; rintro e w2 ⟨la, lc', rfl, _, _, hB2⟩
           have hB2' : Below wr.heap.size wr w2 := (Below.refl _ _).drew.trans hB2
           have hF2 := HF.out w2 (HKr.out.trans (Kept.ofBelow hB2'))
           have y6 := hF2.c6
           obtain ⟨y1, y2⟩ := hF2.st k hk
           have has := has6_any (i := (n, m)) y2 (by rw [HN0.out]; omega)
           rw [HY.out] at has
           rw [HN0.out] at y1 has
           simp only at has
           have HB2 : Hid (Below wr.heap.size wr w2) := hB2'
           clear hB2 hB2' hF2 y2 right)
        refine hK.out _ _ (fun _ => ⟨y6, y1⟩) ?_
        clear hK
        rw [TailS]
        intro K hK
        go_simp
        refine hK.out _ _ (fun _ => ⟨y6, y1⟩) ?_
        clear hK
        rw [TailS]
        intro K hK
        go_simp
        refine hK.out _ _ (fun _ => ⟨y6, y1⟩) ?_
        clear hK
        rw [TailS]
        intro K hK
        go_simp
        go_wp2_with
          (go_at_call 42; refine has.mono ?_; rintro e w3 ⟨rfl, hB3⟩
           have hF3 := HF.out w3 ((HKr.out.trans (Kept.ofBelow HB2.out)).trans (Kept.ofBelow hB3))
           have z6 := hF3.c6
           obtain ⟨z1, _⟩ := hF3.st k hk
           rw [HN0.out] at z1
           have c83 := hF3.c8
           obtain ⟨l1, l2⟩ := hF3.lk k hk
           have a23 := hF3.auto.r
           have HL2 : Hid (∀ j, j < (OL.getD k []).length → w3.cell? ⟨D.kg k, j, none⟩ = some (c.V (k, j))) := l2
           rw [HN0.out] at l1
           have HS3 : Hid (CS w sh (rulesF OL R X k t n) false rl w3) := (HS.out.later HB2.out).later hB3
           have HBt3 : Hid (Bt w3 B c X) := HBt.out.below (HS3.out.below)
           clear hB3 hF3 l2 has)
        refine hK.out _ _ (fun _ => ⟨z6, z1⟩) ?_
        clear hK
        rw [TailS]
        intro K hK
        go_simp
        refine hK.out _ _ (fun h => absurd h (by omega)) ?_
        clear hK
        rw [TailS]
        refine NoPanic.normal ?_
        clear c6 x1 y6 y1 z6 z1 a2
        have hcont : doneF OL R X k t n = false → CS w sh (rulesF OL R X k t (min (n + 1) R.length)) (decide (R.length < n + 1) && doneF OL R X k t R.length) rl w3 := fun hd => by
          have := HS3.out
          by_cases hnR : n = R.length
          · rw [show min (n + 1) R.length = n by omega]
            rw [hnR] at hd this ⊢
            rw [hd, Bool.and_false]
            exact this
          · rw [show min (n + 1) R.length = n + 1 by omega, rulesF_step, hd, show decide (R.length < n + 1) = false from decide_eq_false (by omega)]
            simpa using this
        have HCont : Hid (doneF OL R X k t n = false → CS w sh (rulesF OL R X k t (min (n + 1) R.length)) (decide (R.length < n + 1) && doneF OL R X k t R.length) rl w3) := hcont
        clear hcont
        by_cases hmem : (n, m) ∈ OL.getD k []
        · obtain ⟨f1, _, f3⟩ := hasF_get hmem
          obtain ⟨f, hf⟩ : ∃ f, (hasF (OL.getD k []) (n, m)).toNat = f := ⟨_, rfl⟩
          rw [hf] at f1 f3
          have hyf : y = (f : Int) := by rw [← HY.out]; exact f3
          subst hyf
          have f0 : (0 : Int) ≤ (f : Int) := Int.natCast_nonneg _
          have fneg : decide ((f : Int) < 0) = false := decide_eq_false (by omega)
          have l3 := HL2.out f f1
          have hdomf : c.dom (k, f) = some (T + 1) := by rw [HOk.out.dom, if_pos ⟨hk, f1⟩]
          obtain ⟨g3, cap3, hv3, _, _⟩ := HBt3.out.form hdomf (by omega)
          rw [hv3] at l3
          obtain ⟨l4, _⟩ := HBt3.out.cell hdomf hv3 (m := t) (by omega)
          have hdone : doneF OL R X k t n = bit X (k, f) t := by
            unfold doneF atN
            rw [HM.out, hf, decide_eq_true hmem, Bool.true_and]
          rw [HN0.out] at f1
          have f2 : (f : Int) < (n0 : Int) := by omega
          obtain ⟨b, hb⟩ : ∃ b, bit X (k, f) t = b := ⟨_, rfl⟩
          rw [hb] at l4 hdone
          have HD : Hid (doneF OL R X k t n = b) := hdone
          clear hf f3 hdone hb hv3 hmem
          cases b with
          | false =>
            have HN1 := HCont.out HD.out
            go_wp2_with fail
            go_roundw
            case rel => exact ⟨n + 1, rl, by go_num, by omega, HN1⟩
            case measure => simp [intOf]; omega
          | true =>
            by_cases hnR : n = R.length
            · subst hnR
              have e3 : ((R.length : Int) == (R.length : Int)) = true := by simp
              have b2 := HS3.out.b2
              have bf := HS3.out.fr 2
              have HN1 : Hid (CS w sh (rulesF OL R X k t (min (R.length + 1) R.length)) (decide (R.length < R.length + 1) && doneF OL R X k t R.length) rl (w3.setCell ⟨w.heap.size + 1, 2, none⟩ (.bool true))) := by
                have := HS3.out.setEnd true
                rw [show min (R.length + 1) R.length = R.length by omega, HD.out, show decide (R.length < R.length + 1) = true from decide_eq_true (by omega)]
                exact this
              go_wp2_with fail
              go_roundw
              case rel => exact ⟨R.length + 1, rl, by go_num, by omega, HN1.out⟩
              case measure => simp [intOf]
            · have e3 : ((n : Int) == (R.length : Int)) = false := by simp; omega
              have b1 := HS3.out.b1
              have hLl := rulesF_len (OL := OL) (R := R) (X := X) (k := k) (t := t) (q := n)
              obtain ⟨L, hL⟩ : ∃ L, rulesF OL R X k t n = L := ⟨_, rfl⟩
              have HLn : Hid (rulesF OL R X k t (min (n + 1) R.length) = L ++ [(n : Int)] ∧ (decide (R.length < n + 1) && doneF OL R X k t R.length) = false) := by
                refine ⟨?_, by simp; omega⟩
                rw [show min (n + 1) R.length = n + 1 by omega, rulesF_step, HD.out, hL]
                rfl
              rw [hL] at HS3 hLl
              have HSa : Hid (CS w sh L false rl (w3.alloc (.cells #[.int .i64 n] 3))) := HS3.out.later ((Below.refl _ _).alloc (Nat.le_refl _) _)
              have own5 := HSa.out.own
              have hnw5 := World.news_of_block (cs := #[.int .i64 n]) (t := 3) (fr := (0, 0)) (heap_alloc_new w3 (.cells #[.int .i64 n] 3))
              obtain ⟨i5, hi5, hz8, hz9, hz10⟩ := info_parts Try.infoInt
              have m1 : L.length + 1 ≤ maxLen := by unfold maxLen; omega
              have m2 : (L.length + 1) * 8 ≤ 140737488355328 := by omega
              have hsz := HS3.out.size
              clear hL HCont HD
              go_wp2_with
                (at_builtin
                 refine wpList_append_lies _ rfl _ _ _ rfl (w.heap.size + 2) 3 i5 _ 1 8 Try.underlying58 hi5 hz8 hz9 hz10 rfl (by omega) rl L.length (L.map (Value.int .i64)) rfl own5
                   ⟨w3.heap.size, 0, none⟩ 1 1 [.int .i64 n] rfl rfl hnw5 (by simp [Value.oneCell']) (by omega) m1 m2 (by simp; omega) (w3.heap.size + 1) (by simp) ?_
                 intro g6 cap6 w6 hown6 hgrow6 hat6 hlt6
                 have hb6 : w6.heap[w.heap.size + 1]? = (w3.alloc (.cells #[.int .i64 n] 3)).heap[w.heap.size + 1]? := hgrow6.block _ (by simp; omega) (fun e => by have := (HSa.out.own.lt _ e.symm).1; omega)
                 have b16 : w6.cell? ⟨w.heap.size + 1, 1, none⟩ = some rl := (World.cell?_of_block hb6).trans HSa.out.b1
                 have f16 : w6.frozen? ⟨w.heap.size + 1, 1, none⟩ = false := (World.frozen?_of_block hb6).trans (HSa.out.fr 1)
                 clear hb6)
              have HS6 : Hid (CS w sh (L ++ [(n : Int)]) false (.slice (some ⟨g6, 0, none⟩) (L.length + 1) cap6) (w6.setCell ⟨w.heap.size + 1, 1, none⟩ (.slice (some ⟨g6, 0, none⟩) (L.length + 1) cap6))) := HSa.out.setRules hgrow6 (by simpa using hown6)
              clear hown6 hgrow6 hat6 hlt6 own5 hnw5 hi5 hz8 hz9 hz10 m1 m2
              go_roundw
              case rel => exact ⟨n + 1, _, by go_num, by omega, by rw [HLn.out.1, HLn.out.2]; exact HS6.out⟩
              case measure => simp [intOf]; omega
        · have hy : y = -1 := by
            rcases hasF_range (OL.getD k []) (n, m) with h | h
            · rw [← HY.out]; exact h
            · exact absurd (hasF_mem.1 h) hmem
          subst hy
          have HN1 := HCont.out (by unfold doneF; rw [HM.out, decide_eq_false hmem, Bool.false_and])
          clear hmem
          go_wp2_with fail
          go_roundw
          case rel => exact ⟨n + 1, rl, by go_num, by omega, HN1⟩
          case measure => simp [intOf]; omega
      · obtain rfl : n = R.length + 1 := by omega
        have e1 : decide ((R.length : Int) + 1 ≤ (R.length : Int)) = false := decide_eq_false (by omega)
        have e2 : decide (((R.length + 1 : Nat) : Int) ≤ (R.length : Int)) = false := decide_eq_false (by omega)
        have hfin : CS w sh (cellF OL NL R T X k t).2.1 (cellF OL NL R T X k t).2.2 rl wr := by
          have := HS.out
          rw [show min (R.length + 1) R.length = R.length by omega, show decide (R.length < R.length + 1) = true from decide_eq_true (by omega), Bool.true_and] at this
          exact this
        obtain ⟨la, lc, hrl⟩ := own_form hfin.own
        subst hrl
        obtain ⟨nr, hnr⟩ : ∃ nr, (cellF OL NL R T X k t).2.1.length = nr := ⟨_, rfl⟩
        have HNr : Hid ((cellF OL NL R T X k t).2.1.length = nr) := hnr
        obtain ⟨v0, a0⟩ := hfin.a0
        obtain ⟨v1, a1⟩ := hfin.a1
        obtain ⟨v2, a2'⟩ := hfin.a2
        have g0 := hfin.af 0
        have g1 := hfin.af 1
        have g2 := hfin.af 2
        have b0 := hfin.b0
        have b1 := hfin.b1
        have b2 := hfin.b2
        have HFin : Hid (CS w sh (cellF OL NL R T X k t).2.1 (cellF OL NL R T X k t).2.2 (.slice la (cellF OL NL R T X k t).2.1.length lc) wr) := hfin
        rw [hnr] at b1
        obtain ⟨en, hen⟩ : ∃ en, (cellF OL NL R T X k t).2.2 = en := ⟨_, rfl⟩
        rw [hen] at b2
        have HEn : Hid ((cellF OL NL R T X k t).2.2 = en) := hen
        clear hS hFr hfin hen hnr HS
        go_wp2_with fail
        refine bodyPost_ret (v := .agg #[.int .i64 sh, .slice la nr lc, .bool en]) (by simp [results, Try.results18, go_sem, a0, a1, a2']) rfl ⟨.slice la nr lc, by rw [HSh.out, HEn.out], ?_, ?_⟩
        · exact ((HFin.out.below.setCell (by simp) _).setCell (by simp) _).setCell (by simp) _
        · have h := HFin.out.own
          have h' := own_mono (own_setOther (own_setOther (own_setOther h (p := ⟨w.heap.size, 0, none⟩) (by simp) (.int .i64 sh)) (p := ⟨w.heap.size, 1, none⟩) (by simp) (.slice la nr lc)) (p := ⟨w.heap.size, 2, none⟩) (by simp) (.bool en)) (base' := w.heap.size) (by omega)
          have hn := HNr.out
          rw [hn] at h' ⊢
          exact h'

end Go.Proofs.Ytchpfdnifbdfpaa
