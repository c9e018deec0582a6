import Derived.Test.YtikjekfpgklbdaaTrGrowAndGrMem
import Derived.Test.YtikjekfpgklbdaaGrW2AndGrYield
/- The contracts of package step's treeOf and carried. -/
namespace Go.Proofs.Ytikjekfpgklbdaa
open Go.RowKit

section
variable {w : World} {T N : Int} {ra : Option Addr} {rc : Nat} {R : List Ru} {dv : Value} {D : List Int}

theorem box2_0 {b : Nat} {u0 v0 v1 : Value} (h0 : w.cell? ⟨b, 0, none⟩ = some u0) : ((w.setCell ⟨b, 0, none⟩ v0).setCell ⟨b, 1, none⟩ v1).cell? ⟨b, 0, none⟩ = some v0 := by
  rw [cell_set_other (.inr (by simp))]; exact World.cell?_setCell_same _ _ _ h0
theorem box2_1 {b : Nat} {u1 v0 v1 : Value} (h1 : w.cell? ⟨b, 1, none⟩ = some u1) : ((w.setCell ⟨b, 0, none⟩ v0).setCell ⟨b, 1, none⟩ v1).cell? ⟨b, 1, none⟩ = some v1 :=
  World.cell?_setCell_same _ _ _ ((cell_set_other (.inr (by simp))).trans h1)

set_option maxRecDepth 100000 in
set_option maxHeartbeats 3200000 in
theorem treeOf_no (hr : RulesAt w w.heap.size (.slice ra R.length rc) R) (hd : ListAt w w.heap.size dv D) (hM : ∀ q, (R.getD q (0, [])).2.length ≤ 1000) (h : readF R D = none) :
    Calls Try.prog 22 #[.agg #[.int .i64 T, .int .i64 N, .slice ra R.length rc], dv] w fun e w' => e = .returned (.tuple #[.agg #[.int .i64 0, .slice none 0 0], .bool false]) ∧ Below w.heap.size w w' := by
  obtain ⟨da, dc, hdv⟩ := hd.1
  subst hdv
  obtain ⟨W1, hW1⟩ : ∃ W, (w.alloc (.cells #[.int .i64 T, .int .i64 N, .slice ra R.length rc] 24)).alloc (.cells #[.int .i64 0, .slice none 0 0] 70) = W := ⟨_, rfl⟩
  have hB1 : Below w.heap.size w W1 := by rw [← hW1]; exact ((Below.refl _ _).alloc (Nat.le_refl _) _).alloc (by simp) _
  have hz1 : W1.heap.size = w.heap.size + 2 := by rw [← hW1]; simp
  have g0 : W1.cell? ⟨w.heap.size, 0, none⟩ = some (.int .i64 T) := by rw [← hW1]; simp [go_sem]
  have g1 : W1.cell? ⟨w.heap.size, 1, none⟩ = some (.int .i64 N) := by rw [← hW1]; simp [go_sem]
  have g2 : W1.cell? ⟨w.heap.size, 2, none⟩ = some (.slice ra R.length rc) := by rw [← hW1]; simp [go_sem]
  have hr2 : W1.heap[w.heap.size + 1]? = some (.cells #[.int .i64 0, .slice none 0 0] 70 (0, 0)) := by
    rw [← hW1]
    have := heap_alloc_new (w.alloc (.cells #[.int .i64 T, .int .i64 N, .slice ra R.length rc] 24)) (.cells #[.int .i64 0, .slice none 0 0] 70)
    simpa using this
  have yl := yield_none (w := W1) (T := T) (N := N) ((hr.below hB1).mono hB1.size) ((hd.below hB1).mono hB1.size) hM (by omega) h
  have HB1 : Hid (Below w.heap.size w W1 ∧ W1.heap.size = w.heap.size + 2 ∧ W1.heap[w.heap.size + 1]? = some (.cells #[.int .i64 0, .slice none 0 0] 70 (0, 0))) := ⟨hB1, hz1, hr2⟩
  clear hr hd hM h hB1 hz1 hr2
  go_enter Try.func22, Try.ntmps22
  go_wp2_with
    (go_at_call 31; refine yl.mono ?_; rintro e w2 ⟨rfl, hB2⟩
     have hr3 := (hB2.block _ (Array.getElem?_eq_some_iff.1 HB1.out.2.2).1).trans HB1.out.2.2
     have y0 : w2.cell? ⟨w.heap.size + 1, 0, none⟩ = some (.int .i64 0) := cell_of_blk hr3 rfl
     have y1 : w2.cell? ⟨w.heap.size + 1, 1, none⟩ = some (.slice none 0 0) := cell_of_blk hr3 rfl
     have yf0 : w2.frozen? ⟨w.heap.size + 1, 0, none⟩ = false := frozen_of_blk hr3
     have yf1 : w2.frozen? ⟨w.heap.size + 1, 1, none⟩ = false := frozen_of_blk hr3
     have HB2 : Hid (Below w.heap.size w w2) := HB1.out.1.trans (hB2.mono HB1.out.1.size)
     clear yl hB2 hr3)
  have q0 := box2_0 (v0 := .int .i64 0) (v1 := .slice none 0 0) y0
  have q1 := box2_1 (v0 := .int .i64 0) (v1 := .slice none 0 0) y1
  refine bodyPost_ret (v := .tuple #[.agg #[.int .i64 0, .slice none 0 0], .bool false]) (by simp [results, Try.results22, go_sem, q0, q1]) rfl ?_
  exact ⟨rfl, (HB2.out.setCell (by simp) _).setCell (by simp) _⟩

set_option maxRecDepth 100000 in
set_option maxHeartbeats 3200000 in
theorem treeOf_yes {st : St} {q : Nat} {ks : Fo} (hr : RulesAt w w.heap.size (.slice ra R.length rc) R) (hd : ListAt w w.heap.size dv D) (hdc : ∃ da n dc, dv = .slice da n dc ∧ n ≤ dc) (hM : ∀ q, (R.getD q (0, [])).2.length ≤ 1000) (h : readF R D = some st) (hok : okF R (.nd q ks .no) [0]) (hfl : flatFo (.nd q ks .no) = D) (hDl : D.length ≤ 400) :
    Calls Try.prog 22 #[.agg #[.int .i64 T, .int .i64 N, .slice ra R.length rc], dv] w fun e w' => ∃ kv, e = .returned (.tuple #[.agg #[.int .i64 (q : Int), kv], .bool true]) ∧ FoIn w' (fun b => w.heap.size ≤ b) kv ks ∧ Below w.heap.size w w' := by
  obtain ⟨da, dc, hdv⟩ := hd.1
  subst hdv
  obtain ⟨W1, hW1⟩ : ∃ W, (w.alloc (.cells #[.int .i64 T, .int .i64 N, .slice ra R.length rc] 24)).alloc (.cells #[.int .i64 0, .slice none 0 0] 70) = W := ⟨_, rfl⟩
  have hB1 : Below w.heap.size w W1 := by rw [← hW1]; exact ((Below.refl _ _).alloc (Nat.le_refl _) _).alloc (by simp) _
  have hz1 : W1.heap.size = w.heap.size + 2 := by rw [← hW1]; simp
  have g0 : W1.cell? ⟨w.heap.size, 0, none⟩ = some (.int .i64 T) := by rw [← hW1]; simp [go_sem]
  have g1 : W1.cell? ⟨w.heap.size, 1, none⟩ = some (.int .i64 N) := by rw [← hW1]; simp [go_sem]
  have g2 : W1.cell? ⟨w.heap.size, 2, none⟩ = some (.slice ra R.length rc) := by rw [← hW1]; simp [go_sem]
  have hr2 : W1.heap[w.heap.size + 1]? = some (.cells #[.int .i64 0, .slice none 0 0] 70 (0, 0)) := by
    rw [← hW1]
    have := heap_alloc_new (w.alloc (.cells #[.int .i64 T, .int .i64 N, .slice ra R.length rc] 24)) (.cells #[.int .i64 0, .slice none 0 0] 70)
    simpa using this
  have yl := yield_some (w := W1) (T := T) (N := N) ((hr.below hB1).mono hB1.size) ((hd.below hB1).mono hB1.size) hM (by omega) h
  have HB1 : Hid (Below w.heap.size w W1 ∧ W1.heap.size = w.heap.size + 2 ∧ W1.heap[w.heap.size + 1]? = some (.cells #[.int .i64 0, .slice none 0 0] 70 (0, 0))) := ⟨hB1, hz1, hr2⟩
  have HG : Hid (W1.cell? ⟨w.heap.size, 2, none⟩ = some (.slice ra R.length rc)) := g2
  obtain ⟨_, _, e, hq, _, hk, _⟩ := hok
  have hfl2 : (q : Int) :: (flatFo ks ++ []) = D := by rw [← hfl, flatFo, flatFo]
  have HGr : Hid (∀ wq, Below w.heap.size w wq → Calls Try.prog 32 #[.slice ra R.length rc, .slice da D.length dc] wq fun e w' => ∃ kv dv', e = .returned (.tuple #[.agg #[.int .i64 (q : Int), kv], dv']) ∧ FoIn w' (fun b => wq.heap.size ≤ b) kv ks ∧ ListAt w' w.heap.size dv' [] ∧ (∃ da n dc, dv' = .slice da n dc ∧ n ≤ dc) ∧ Below wq.heap.size wq w') := fun wq hq' => by
    refine st_grown (fun q _ => hM q) ((flatFo ks).length + 1) wq q ks [] (.slice da D.length dc) w.heap.size (by omega) hq hk ((hr.below hq').mono hq'.size) (by rw [hfl2]; exact hd.below hq') hq'.size hdc ?_
    have : D.length = (flatFo ks).length + 1 := by rw [← hfl2]; simp
    omega
  clear hr hd hM h hB1 hz1 hr2 hfl hfl2 hDl e hk hdc
  go_enter Try.func22, Try.ntmps22
  go_wp2_with
    (first
     | (go_at_call 31; refine yl.mono ?_; rintro e w2 ⟨yv, rfl, hB2, hyo⟩
        obtain ⟨ya, yc, hyv⟩ := own_form hyo
        subst hyv
        have v2 := (hB2.cell (World.block_lt_of_cell? _ _ HG.out)).trans HG.out
        have hB2' : Below w.heap.size w w2 := HB1.out.1.trans (hB2.mono HB1.out.1.size)
        have gr := HGr.out w2 hB2'
        have HB2 : Hid (Below w.heap.size w w2 ∧ Below W1.heap.size W1 w2) := ⟨hB2', hB2⟩
        clear yl hB2 hyo hB2' g0 g1 g2 hW1)
     | (go_at_call 32; refine gr.mono ?_; rintro e w3 ⟨kv, dv', rfl, hk3, _, hcap3, hB3⟩
        have hk4 := hk3
        obtain ⟨ka, kc, hkv, _⟩ := hk4
        obtain ⟨n1, hn1⟩ : ∃ n, lenF ks = n := ⟨_, rfl⟩
        rw [hn1] at hkv
        subst hkv
        obtain ⟨a3, n3, c3, hdv3, _⟩ := hcap3
        subst hdv3
        have hB4 : Below w2.heap.size w2 (w3.alloc (.cells #[.int .i64 (q : Int), .slice ka n1 kc] 70)) := hB3.alloc hB3.size _
        have hr4 := (hB4.block _ (by have := HB1.out.2.1; have := HB2.out.2.size; omega)).trans ((HB2.out.2.block _ (Array.getElem?_eq_some_iff.1 HB1.out.2.2).1).trans HB1.out.2.2)
        have y0 : (w3.alloc (.cells #[.int .i64 (q : Int), .slice ka n1 kc] 70)).cell? ⟨w.heap.size + 1, 0, none⟩ = some (.int .i64 0) := cell_of_blk hr4 rfl
        have y1 : (w3.alloc (.cells #[.int .i64 (q : Int), .slice ka n1 kc] 70)).cell? ⟨w.heap.size + 1, 1, none⟩ = some (.slice none 0 0) := cell_of_blk hr4 rfl
        have yf0 : (w3.alloc (.cells #[.int .i64 (q : Int), .slice ka n1 kc] 70)).frozen? ⟨w.heap.size + 1, 0, none⟩ = false := frozen_of_blk hr4
        have yf1 : (w3.alloc (.cells #[.int .i64 (q : Int), .slice ka n1 kc] 70)).frozen? ⟨w.heap.size + 1, 1, none⟩ = false := frozen_of_blk hr4
        have HF : Hid (FoIn (w3.alloc (.cells #[.int .i64 (q : Int), .slice ka n1 kc] 70)) (fun b => w2.heap.size ≤ b) (.slice ka n1 kc) ks ∧ Below w.heap.size w (w3.alloc (.cells #[.int .i64 (q : Int), .slice ka n1 kc] 70)) ∧ w.heap.size + 2 ≤ w2.heap.size) := ⟨hk3.below ((Below.refl _ _).alloc (Nat.le_refl _) _), HB2.out.1.trans (hB4.mono HB2.out.1.size), by have := HB1.out.2.1; have := HB2.out.2.size; omega⟩
        clear gr hk3 hB3 hB4 hr4 v2 hn1))
  have q0 := box2_0 (v0 := .int .i64 (q : Int)) (v1 := .slice ka n1 kc) y0
  have q1 := box2_1 (v0 := .int .i64 (q : Int)) (v1 := .slice ka n1 kc) y1
  refine bodyPost_ret (v := .tuple #[.agg #[.int .i64 (q : Int), .slice ka n1 kc], .bool true]) (by simp [results, Try.results22, go_sem, q0, q1]) rfl ?_
  refine ⟨_, rfl, HF.out.1.kept fun b hb _ => ?_, (HF.out.2.1.setCell (by simp) _).setCell (by simp) _⟩
  have := HF.out.2.2
  refine ⟨?_, by omega⟩
  rw [Below.heap_setCell _ _ _ _ (by simp only; omega), Below.heap_setCell _ _ _ _ (by simp only; omega)]
end

end Go.Proofs.Ytikjekfpgklbdaa

/- The contract of package step's carried. -/
namespace Go.Proofs.Ytikjekfpgklbdaa
open Go.RowKit

/-- A change's method carries each tree over of which P holds. -/
structure Over (w : World) (ty : TypeId) (v : Value) (name : String) (fn : Nat) (P : Nat → Fo → Prop) (F : Nat → Fo → Nat × Fo) : Prop where
  me : ∀ n w', (method (n + 1) ty v name).run Try.prog w' = .ok (fn, v) w'
  enter : ∀ args w', (callFunc fn args).run Try.prog w' = .ok (.enter fn args) w'
  call : ∀ (w' : World) (q : Nat) (ks : Fo) (kv : Value) (A : Nat → Prop), Below w.heap.size w w' → P q ks → FoIn w' A kv ks → (∀ b, A b → b < w'.heap.size) → Calls Try.prog fn #[v, .agg #[.int .i64 (q : Int), kv]] w' fun e w'' => ∃ kv', e = .returned (.agg #[.int .i64 ((F q ks).1 : Int), kv']) ∧ FoIn w'' (fun b => A b ∨ w'.heap.size ≤ b) kv' (F q ks).2 ∧ Below w'.heap.size w' w''

section
variable {w : World} {T N : Int} {ra : Option Addr} {rc : Nat} {R : List Ru} {dv : Value} {D : List Int}

set_option maxRecDepth 100000 in
set_option maxHeartbeats 3200000 in
theorem carried_no {ov : Value} (hr : RulesAt w w.heap.size (.slice ra R.length rc) R) (hd : ListAt w w.heap.size dv D) (hM : ∀ q, (R.getD q (0, [])).2.length ≤ 1000) (h : readF R D = none) :
    Calls Try.prog 14 #[.agg #[.int .i64 T, .int .i64 N, .slice ra R.length rc], dv, ov] w fun e w' => e = .returned (.tuple #[.slice none 0 0, .bool false]) ∧ Below w.heap.size w w' := by
  obtain ⟨da, dc, hdv⟩ := hd.1
  subst hdv
  obtain ⟨W1, hW1⟩ : ∃ W, w.alloc (.cells #[.int .i64 T, .int .i64 N, .slice ra R.length rc] 24) = W := ⟨_, rfl⟩
  have hB1 : Below w.heap.size w W1 := by rw [← hW1]; exact (Below.refl _ _).alloc (Nat.le_refl _) _
  have hx := heap_alloc_new w (.cells #[.int .i64 T, .int .i64 N, .slice ra R.length rc] 24)
  rw [hW1] at hx
  have g0 : W1.cell? ⟨w.heap.size, 0, none⟩ = some (.int .i64 T) := cell_of_blk hx rfl
  have g1 : W1.cell? ⟨w.heap.size, 1, none⟩ = some (.int .i64 N) := cell_of_blk hx rfl
  have g2 : W1.cell? ⟨w.heap.size, 2, none⟩ = some (.slice ra R.length rc) := cell_of_blk hx rfl
  have tr := treeOf_no (w := W1) (T := T) (N := N) ((hr.below hB1).mono hB1.size) ((hd.below hB1).mono hB1.size) hM h
  have HB1 : Hid (Below w.heap.size w W1) := hB1
  clear hr hd hM h hB1 hx
  go_enter Try.func14, Try.ntmps14
  go_wp2_with
    (go_at_call 22; refine tr.mono ?_; rintro e w2 ⟨rfl, hB2⟩
     have HB2 : Hid (Below w.heap.size w (w2.alloc (.cells #[.int .i64 0, .slice none 0 0] 70))) := (HB1.out.trans (hB2.mono HB1.out.size)).alloc (Nat.le_trans HB1.out.size hB2.size) _
     clear tr hB2)
  refine bodyPost_ret (v := .tuple #[.slice none 0 0, .bool false]) (by simp [results, Try.results14, go_sem]) rfl ?_
  exact ⟨rfl, HB2.out⟩

set_option maxRecDepth 100000 in
set_option maxHeartbeats 3200000 in
theorem carried_yes {st : St} {q : Nat} {ks : Fo} {ty : TypeId} {v : Value} {name : String} {fn : Nat} {P : Nat → Fo → Prop} {F : Nat → Fo → Nat × Fo} (hO : Over w ty v name fn P F) (hP : P q ks) (hr : RulesAt w w.heap.size (.slice ra R.length rc) R) (hd : ListAt w w.heap.size dv D) (hdc : ∃ da n dc, dv = .slice da n dc ∧ n ≤ dc) (hM : ∀ q, (R.getD q (0, [])).2.length ≤ 1000) (h : readF R D = some st) (hok : okF R (.nd q ks .no) [0]) (hfl : flatFo (.nd q ks .no) = D) (hDl : D.length ≤ 400) (hFl : (flatFo (F q ks).2).length ≤ 2000) :
    Calls Try.prog 14 #[.agg #[.int .i64 T, .int .i64 N, .slice ra R.length rc], dv, .func (.method name) #[.iface ty v] #[]] w fun e w' => ((((flatFo (F q ks).2).length + 1 ≤ 400 ∧ ∃ lv, e = .returned (.tuple #[lv, .bool true]) ∧ ListAt w' w'.heap.size lv (((F q ks).1 : Int) :: flatFo (F q ks).2) ∧ (∃ da n dc, lv = .slice da n dc ∧ n ≤ dc)) ∨ 400 < (flatFo (F q ks).2).length + 1 ∧ e = .returned (.tuple #[.slice none 0 0, .bool false]))) ∧ Below w.heap.size w w' := by
  obtain ⟨da, dc, hdv⟩ := hd.1
  subst hdv
  obtain ⟨W1, hW1⟩ : ∃ W, w.alloc (.cells #[.int .i64 T, .int .i64 N, .slice ra R.length rc] 24) = W := ⟨_, rfl⟩
  have hB1 : Below w.heap.size w W1 := by rw [← hW1]; exact (Below.refl _ _).alloc (Nat.le_refl _) _
  have hx := heap_alloc_new w (.cells #[.int .i64 T, .int .i64 N, .slice ra R.length rc] 24)
  rw [hW1] at hx
  have g0 : W1.cell? ⟨w.heap.size, 0, none⟩ = some (.int .i64 T) := cell_of_blk hx rfl
  have g1 : W1.cell? ⟨w.heap.size, 1, none⟩ = some (.int .i64 N) := cell_of_blk hx rfl
  have g2 : W1.cell? ⟨w.heap.size, 2, none⟩ = some (.slice ra R.length rc) := cell_of_blk hx rfl
  have tr := treeOf_yes (w := W1) (T := T) (N := N) ((hr.below hB1).mono hB1.size) ((hd.below hB1).mono hB1.size) hdc hM h hok hfl hDl
  have HB1 : Hid (Below w.heap.size w W1) := hB1
  have HO : Hid (Over w ty v name fn P F ∧ P q ks) := ⟨hO, hP⟩
  have hme := hO.me
  have hfn := hO.enter
  obtain ⟨⟨q2, ks2⟩, hF2⟩ : ∃ y, F q ks = y := ⟨_, rfl⟩
  have HF2 : Hid (F q ks = (q2, ks2)) := hF2
  rw [hF2] at hFl ⊢
  simp only at hFl ⊢
  obtain ⟨m, hm⟩ : ∃ m, (flatFo ks2).length + 1 = m := ⟨_, rfl⟩
  have hFm : m ≤ 2001 := by omega
  have HMm : Hid ((flatFo ks2).length + 1 = m) := hm
  rw [hm]
  clear hr hd hM h hB1 hx hO hP hok hfl hDl hdc hF2 hm hFl
  rcases Nat.lt_or_ge 400 m with hbig | hsml
  · have hb1 : decide (400 < m) = true := decide_eq_true hbig
    have hb2 : decide ((400 : Int) < (m : Int)) = true := decide_eq_true (by omega)
    have HB : Hid (400 < m) := hbig
    clear hbig
    go_enter Try.func14, Try.ntmps14
    go_wp2_with
      (first
       | (go_at_call 22; refine tr.mono ?_; rintro e w2 ⟨kv, rfl, hk2, hB2⟩
          have hk3 := hk2
          obtain ⟨ka, kc, hkv, _⟩ := hk3
          obtain ⟨n1, hn1⟩ : ∃ n, lenF ks = n := ⟨_, rfl⟩
          rw [hn1] at hkv
          subst hkv
          have hB3 : Below w.heap.size w (w2.alloc (.cells #[.int .i64 (q : Int), .slice ka n1 kc] 70)) := (HB1.out.trans (hB2.mono HB1.out.size)).alloc (Nat.le_trans HB1.out.size hB2.size) _
          have hk4 := hk2.below ((Below.refl _ _).alloc (Nat.le_refl _) (.cells #[.int .i64 (q : Int), .slice ka n1 kc] 70))
          have ca := HO.out.1.call (w2.alloc (.cells #[.int .i64 (q : Int), .slice ka n1 kc] 70)) q ks (.slice ka n1 kc) (fun b => b < (w2.alloc (.cells #[.int .i64 (q : Int), .slice ka n1 kc] 70)).heap.size) hB3 HO.out.2 (hk4.kept fun b _ hlt => ⟨rfl, hlt⟩) (fun b hb => hb)
          rw [HF2.out] at ca
          simp only at ca
          have HB3 : Hid (Below w.heap.size w (w2.alloc (.cells #[.int .i64 (q : Int), .slice ka n1 kc] 70))) := hB3
          clear tr hk2 hB2 hB3 hk4 hn1 g0 g1 g2 hW1)
       | (with_reducible refine Calls.mono ca ?_; rintro e w4 ⟨kv2, rfl, hk5, hB4⟩
          have hk6 := hk5
          obtain ⟨ka2, kc2, hkv2, _⟩ := hk6
          obtain ⟨n2, hn2⟩ : ∃ n, lenF ks2 = n := ⟨_, rfl⟩
          rw [hn2] at hkv2
          subst hkv2
          have li := st_list ((flatFo ks2).length + 1) w4 q2 ks2 (.slice ka2 n2 kc2) (by omega) hk5 (by have := HMm.out; omega)
          have HB4 : Hid (Below w.heap.size w w4) := HB3.out.trans (hB4.mono HB3.out.size)
          clear ca hk5 hB4 hn2)
       | (go_at_call 23; refine li.mono ?_; rintro e w5 ⟨lv, rfl, hlo, hB5⟩
          obtain ⟨la, lc, hlv⟩ := own_form hlo
          subst hlv
          have HL : Hid (w5.ownsRow w4.heap.size 3 1 (.slice la ((flatFo ks2).length + 1) lc) ((flatFo ks2).length + 1) (intV ((q2 : Int) :: flatFo ks2))) := hlo
          have HB5 : Hid (Below w.heap.size w w5) := HB4.out.trans (hB5.mono HB4.out.size)
          rw [HMm.out]
          rw [HMm.out] at HL
          clear li hlo hB5))
    refine bodyPost_ret (v := .tuple #[.slice none 0 0, .bool false]) (by simp [results, Try.results14, go_sem]) rfl ?_
    exact ⟨Or.inr ⟨HB.out, rfl⟩, HB5.out⟩
  · have hb1 : decide (400 < m) = false := decide_eq_false (by omega)
    have hb2 : decide ((400 : Int) < (m : Int)) = false := decide_eq_false (by omega)
    have HB : Hid (m ≤ 400) := hsml
    clear hsml
    go_enter Try.func14, Try.ntmps14
    go_wp2_with
      (first
       | (go_at_call 22; refine tr.mono ?_; rintro e w2 ⟨kv, rfl, hk2, hB2⟩
          have hk3 := hk2
          obtain ⟨ka, kc, hkv, _⟩ := hk3
          obtain ⟨n1, hn1⟩ : ∃ n, lenF ks = n := ⟨_, rfl⟩
          rw [hn1] at hkv
          subst hkv
          have hB3 : Below w.heap.size w (w2.alloc (.cells #[.int .i64 (q : Int), .slice ka n1 kc] 70)) := (HB1.out.trans (hB2.mono HB1.out.size)).alloc (Nat.le_trans HB1.out.size hB2.size) _
          have hk4 := hk2.below ((Below.refl _ _).alloc (Nat.le_refl _) (.cells #[.int .i64 (q : Int), .slice ka n1 kc] 70))
          have ca := HO.out.1.call (w2.alloc (.cells #[.int .i64 (q : Int), .slice ka n1 kc] 70)) q ks (.slice ka n1 kc) (fun b => b < (w2.alloc (.cells #[.int .i64 (q : Int), .slice ka n1 kc] 70)).heap.size) hB3 HO.out.2 (hk4.kept fun b _ hlt => ⟨rfl, hlt⟩) (fun b hb => hb)
          rw [HF2.out] at ca
          simp only at ca
          have HB3 : Hid (Below w.heap.size w (w2.alloc (.cells #[.int .i64 (q : Int), .slice ka n1 kc] 70))) := hB3
          clear tr hk2 hB2 hB3 hk4 hn1 g0 g1 g2 hW1)
       | (with_reducible refine Calls.mono ca ?_; rintro e w4 ⟨kv2, rfl, hk5, hB4⟩
          have hk6 := hk5
          obtain ⟨ka2, kc2, hkv2, _⟩ := hk6
          obtain ⟨n2, hn2⟩ : ∃ n, lenF ks2 = n := ⟨_, rfl⟩
          rw [hn2] at hkv2
          subst hkv2
          have li := st_list ((flatFo ks2).length + 1) w4 q2 ks2 (.slice ka2 n2 kc2) (by omega) hk5 (by have := HMm.out; omega)
          have HB4 : Hid (Below w.heap.size w w4) := HB3.out.trans (hB4.mono HB3.out.size)
          clear ca hk5 hB4 hn2)
       | (go_at_call 23; refine li.mono ?_; rintro e w5 ⟨lv, rfl, hlo, hB5⟩
          obtain ⟨la, lc, hlv⟩ := own_form hlo
          subst hlv
          have HL : Hid (w5.ownsRow w4.heap.size 3 1 (.slice la ((flatFo ks2).length + 1) lc) ((flatFo ks2).length + 1) (intV ((q2 : Int) :: flatFo ks2))) := hlo
          have HB5 : Hid (Below w.heap.size w w5) := HB4.out.trans (hB5.mono HB4.out.size)
          rw [HMm.out]
          rw [HMm.out] at HL
          clear li hlo hB5))
    refine bodyPost_ret (v := .tuple #[.slice la m lc, .bool true]) (by simp [results, Try.results14, go_sem]) rfl ?_
    have hZ : ((q2 : Int) :: flatFo ks2).length = m := by have := HMm.out; simpa using this
    have hL : w5.ownsRow w4.heap.size 3 1 (.slice la m lc) ((q2 : Int) :: flatFo ks2).length (intV ((q2 : Int) :: flatFo ks2)) := by rw [hZ]; exact HL.out
    refine ⟨Or.inl ⟨HB.out, _, rfl, own_ints hL, la, m, lc, rfl, ?_⟩, HB5.out⟩
    rcases HL.out.2 with ⟨h0, h00⟩ | ⟨g, cap, cur, hg, _, _, hle, _⟩
    · omega
    · injection hg with _ _ hg3
      subst hg3
      exact hle
end

end Go.Proofs.Ytikjekfpgklbdaa

/- How a change's forward and back begin and end; the contracts of swap's. -/
namespace Go.Proofs.Ytikjekfpgklbdaa
open Go.RowKit

/-- The boxes that such a method begins with: of the change, of the tree, of the result. -/
structure MBox (w W : World) (cx : Array Value) (tx : TypeId) (q : Int) (kv : Value) : Prop where
  below : Below w.heap.size w W
  size : W.heap.size = w.heap.size + 3
  chg : W.heap[w.heap.size]? = some (.cells cx tx (0, 0))
  tre : W.heap[w.heap.size + 1]? = some (.cells #[.int .i64 q, kv] 70 (0, 0))
  res : W.heap[w.heap.size + 1 + 1]? = some (.cells #[.int .i64 0, .slice none 0 0] 70 (0, 0))
theorem mbox {w W : World} {cx : Array Value} {tx : TypeId} {q : Int} {kv : Value} (hW : ((w.alloc (.cells cx tx)).alloc (.cells #[.int .i64 q, kv] 70)).alloc (.cells #[.int .i64 0, .slice none 0 0] 70) = W) : MBox w W cx tx q kv := by
  subst hW
  have h1 := heap_alloc_new w (.cells cx tx)
  have h2 := heap_alloc_new (w.alloc (.cells cx tx)) (.cells #[.int .i64 q, kv] 70)
  have h3 := heap_alloc_new ((w.alloc (.cells cx tx)).alloc (.cells #[.int .i64 q, kv] 70)) (.cells #[.int .i64 0, .slice none 0 0] 70)
  have b1 := (Below.refl (w.alloc (.cells cx tx)).heap.size (w.alloc (.cells cx tx))).alloc (Nat.le_refl _) (.cells #[.int .i64 q, kv] 70)
  have b2 := (Below.refl ((w.alloc (.cells cx tx)).alloc (.cells #[.int .i64 q, kv] 70)).heap.size ((w.alloc (.cells cx tx)).alloc (.cells #[.int .i64 q, kv] 70))).alloc (Nat.le_refl _) (.cells #[.int .i64 0, .slice none 0 0] 70)
  refine ⟨(((Below.refl _ _).alloc (Nat.le_refl _) _).alloc (by simp) _).alloc (by simp; omega) _, by simp, ?_, ?_, ?_⟩
  · rw [b2.block _ (by simp; omega), b1.block _ (by simp)]; exact h1
  · rw [b2.block _ (by simp)]; simpa using h2
  · simpa using h3
/-- The result is laid. -/
theorem res_0 {w : World} {b : Nat} {v0 v1 : Value} (h : w.heap[b]? = some (.cells #[.int .i64 0, .slice none 0 0] 70 (0, 0))) : ((w.setCell ⟨b, 0, none⟩ v0).setCell ⟨b, 1, none⟩ v1).cell? ⟨b, 0, none⟩ = some v0 := box2_0 (cell_of_blk h rfl)
theorem res_1 {w : World} {b : Nat} {v0 v1 : Value} (h : w.heap[b]? = some (.cells #[.int .i64 0, .slice none 0 0] 70 (0, 0))) : ((w.setCell ⟨b, 0, none⟩ v0).setCell ⟨b, 1, none⟩ v1).cell? ⟨b, 1, none⟩ = some v1 := box2_1 (cell_of_blk h rfl)
theorem FoIn.laid {w : World} {A : Nat → Prop} {v : Value} {t : Fo} (h : FoIn w A v t) {b : Nat} (hA : ¬ A b) (v0 v1 : Value) {A' : Nat → Prop} (hA' : ∀ b, A b → A' b) : FoIn ((w.setCell ⟨b, 0, none⟩ v0).setCell ⟨b, 1, none⟩ v1) A' v t := h.kept fun c hc _ => by
  have hne : c ≠ b := fun e => hA (e ▸ hc)
  exact ⟨by rw [Below.heap_setCell _ _ _ _ hne, Below.heap_setCell _ _ _ _ hne], hA' c hc⟩

section
variable {w : World} {A : Nat → Prop} {T N o a b c : Int} {ra : Option Addr} {rl rc : Nat} {q : Nat} {ks : Fo} {kv : Value}

set_option maxRecDepth 100000 in
set_option maxHeartbeats 3200000 in
theorem swap_forward (hk : FoIn w A kv ks) (hA : ∀ b, A b → b < w.heap.size) :
    Calls Try.prog 73 #[.agg #[.int .i64 T, .int .i64 N, .slice ra rl rc, .int .i64 o, .int .i64 a, .int .i64 b, .int .i64 c], .agg #[.int .i64 (q : Int), kv]] w fun e w' => ∃ kv', e = .returned (.agg #[.int .i64 (q : Int), kv']) ∧ FoIn w' (fun b => A b ∨ w.heap.size ≤ b) kv' ks ∧ Below w.heap.size w w' := by
  have hk1 := hk
  obtain ⟨ka, kc, hkv, _⟩ := hk1
  obtain ⟨n1, hn1⟩ : ∃ n, lenF ks = n := ⟨_, rfl⟩
  rw [hn1] at hkv
  subst hkv
  obtain ⟨W, hW⟩ : ∃ W, ((w.alloc (.cells #[.int .i64 T, .int .i64 N, .slice ra rl rc, .int .i64 o, .int .i64 a, .int .i64 b, .int .i64 c] 83)).alloc (.cells #[.int .i64 (q : Int), .slice ka n1 kc] 70)).alloc (.cells #[.int .i64 0, .slice none 0 0] 70) = W := ⟨_, rfl⟩
  have hM := mbox hW
  have x0 : W.cell? ⟨w.heap.size + 1, 0, none⟩ = some (.int .i64 (q : Int)) := cell_of_blk hM.tre rfl
  have x1 : W.cell? ⟨w.heap.size + 1, 1, none⟩ = some (.slice ka n1 kc) := cell_of_blk hM.tre rfl
  have y0 : W.cell? ⟨w.heap.size + 1 + 1, 0, none⟩ = some (.int .i64 0) := cell_of_blk hM.res rfl
  have y1 : W.cell? ⟨w.heap.size + 1 + 1, 1, none⟩ = some (.slice none 0 0) := cell_of_blk hM.res rfl
  have yf0 : W.frozen? ⟨w.heap.size + 1 + 1, 0, none⟩ = false := frozen_of_blk hM.res
  have yf1 : W.frozen? ⟨w.heap.size + 1 + 1, 1, none⟩ = false := frozen_of_blk hM.res
  have q0 := res_0 (v0 := .int .i64 (q : Int)) (v1 := .slice ka n1 kc) hM.res
  have q1 := res_1 (v0 := .int .i64 (q : Int)) (v1 := .slice ka n1 kc) hM.res
  have HF : Hid (FoIn W A (.slice ka n1 kc) ks ∧ Below w.heap.size w W) := ⟨hk.below hM.below, hM.below⟩
  have HA : Hid (∀ b, A b → b < w.heap.size) := hA
  clear hk hA hM hn1
  go_enter Try.func73, Try.ntmps73
  go_wp2_with fail
  refine bodyPost_ret (v := .agg #[.int .i64 (q : Int), .slice ka n1 kc]) (by simp [results, Try.results73, go_sem, q0, q1]) rfl ?_
  exact ⟨_, rfl, HF.out.1.laid (fun h => by have := HA.out _ h; omega) _ _ fun b hb => .inl hb, (HF.out.2.setCell (by simp; omega) _).setCell (by simp; omega) _⟩
set_option maxRecDepth 100000 in
set_option maxHeartbeats 3200000 in
theorem swap_backs (hk : FoIn w A kv ks) (hA : ∀ b, A b → b < w.heap.size) :
    Calls Try.prog 72 #[.agg #[.int .i64 T, .int .i64 N, .slice ra rl rc, .int .i64 o, .int .i64 a, .int .i64 b, .int .i64 c], .agg #[.int .i64 (q : Int), kv]] w fun e w' => ∃ kv', e = .returned (.agg #[.int .i64 (q : Int), kv']) ∧ FoIn w' (fun b => A b ∨ w.heap.size ≤ b) kv' ks ∧ Below w.heap.size w w' := by
  have hk1 := hk
  obtain ⟨ka, kc, hkv, _⟩ := hk1
  obtain ⟨n1, hn1⟩ : ∃ n, lenF ks = n := ⟨_, rfl⟩
  rw [hn1] at hkv
  subst hkv
  obtain ⟨W, hW⟩ : ∃ W, ((w.alloc (.cells #[.int .i64 T, .int .i64 N, .slice ra rl rc, .int .i64 o, .int .i64 a, .int .i64 b, .int .i64 c] 83)).alloc (.cells #[.int .i64 (q : Int), .slice ka n1 kc] 70)).alloc (.cells #[.int .i64 0, .slice none 0 0] 70) = W := ⟨_, rfl⟩
  have hM := mbox hW
  have x0 : W.cell? ⟨w.heap.size + 1, 0, none⟩ = some (.int .i64 (q : Int)) := cell_of_blk hM.tre rfl
  have x1 : W.cell? ⟨w.heap.size + 1, 1, none⟩ = some (.slice ka n1 kc) := cell_of_blk hM.tre rfl
  have y0 : W.cell? ⟨w.heap.size + 1 + 1, 0, none⟩ = some (.int .i64 0) := cell_of_blk hM.res rfl
  have y1 : W.cell? ⟨w.heap.size + 1 + 1, 1, none⟩ = some (.slice none 0 0) := cell_of_blk hM.res rfl
  have yf0 : W.frozen? ⟨w.heap.size + 1 + 1, 0, none⟩ = false := frozen_of_blk hM.res
  have yf1 : W.frozen? ⟨w.heap.size + 1 + 1, 1, none⟩ = false := frozen_of_blk hM.res
  have q0 := res_0 (v0 := .int .i64 (q : Int)) (v1 := .slice ka n1 kc) hM.res
  have q1 := res_1 (v0 := .int .i64 (q : Int)) (v1 := .slice ka n1 kc) hM.res
  have HF : Hid (FoIn W A (.slice ka n1 kc) ks ∧ Below w.heap.size w W) := ⟨hk.below hM.below, hM.below⟩
  have HA : Hid (∀ b, A b → b < w.heap.size) := hA
  clear hk hA hM hn1
  go_enter Try.func72, Try.ntmps72
  go_wp2_with fail
  refine bodyPost_ret (v := .agg #[.int .i64 (q : Int), .slice ka n1 kc]) (by simp [results, Try.results72, go_sem, q0, q1]) rfl ?_
  exact ⟨_, rfl, HF.out.1.laid (fun h => by have := HA.out _ h; omega) _ _ fun b hb => .inl hb, (HF.out.2.setCell (by simp; omega) _).setCell (by simp; omega) _⟩

end

end Go.Proofs.Ytikjekfpgklbdaa

/- each, with what carries each tree over as one function of rows of trees; prune's forward and back. -/
namespace Go.Proofs.Ytikjekfpgklbdaa
open Go.RowKit

/-- A tree of a row. -/
def memF (q' : Nat) (ks' : Fo) : Fo → Prop
  | .no => False
  | .nd q ks ts => (q' = q ∧ ks' = ks) ∨ memF q' ks' ts
theorem memF_size {q' : Nat} {ks' : Fo} : ∀ {t : Fo}, memF q' ks' t → (flatFo ks').length < (flatFo t).length
  | .nd q ks ts, h => by
    rw [flatFo, List.length_cons, List.length_append]
    rcases h with ⟨_, rfl⟩ | h
    · omega
    · have := memF_size h; omega
theorem mem_rowOf {L : List Tr} {x : Tr} (h : x ∈ L) : memF x.2.1 x.2.2 (rowOf L) := by
  induction L with
  | nil => cases h
  | cons y L ih =>
    rcases List.mem_cons.1 h with rfl | h
    · exact .inl ⟨rfl, rfl⟩
    · exact .inr (ih h)
theorem rowOf_size (L : List Tr) : L.length ≤ (flatFo (rowOf L)).length := by
  induction L with
  | nil => exact Nat.zero_le _
  | cons y L ih => rw [rowOf, flatFo, List.length_cons, List.length_cons, List.length_append]; omega
theorem rowOf_each {F : Nat → Fo → Nat × Fo} {G : Fo → Fo} (h0 : G .no = .no) (hG : ∀ q ks ts, G (.nd q ks ts) = .nd (F q ks).1 (F q ks).2 (G ts)) : ∀ (L L' : List Tr), (L'.map fun x => x.2) = L.map (fun x => F x.2.1 x.2.2) → rowOf L' = G (rowOf L)
  | [], [], _ => h0.symm
  | [], _ :: _, h => by simp at h
  | _ :: _, [], h => by simp at h
  | x :: L, y :: L', h => by
    simp only [List.map_cons, List.cons.injEq] at h
    rw [rowOf, rowOf, hG, rowOf_each h0 hG L L' h.2, h.1]

theorem each_over {w : World} {A : Nat → Prop} {v recv : Value} {ks : Fo} {dn : Nat} {F : Nat → Fo → Nat × Fo} {G : Fo → Fo} (hdn : ∀ args w, (callFunc dn args).run Try.prog w = .ok (.enter dn args) w) (h0 : G .no = .no) (hG : ∀ q ks ts, G (.nd q ks ts) = .nd (F q ks).1 (F q ks).2 (G ts)) (hk : FoIn w A v ks) (hA : ∀ b, A b → b < w.heap.size) (hl : (flatFo ks).length ≤ 50000)
    (hF : ∀ (w' : World) (q' : Nat) (ks' : Fo) (kv' : Value), memF q' ks' ks → Below w.heap.size w w' → FoIn w' A kv' ks' → (∀ b, A b → b < w'.heap.size) → Calls Try.prog dn #[recv, .agg #[.int .i64 (q' : Int), kv']] w' fun e w'' => ∃ kv, e = .returned (.agg #[.int .i64 ((F q' ks').1 : Int), kv]) ∧ FoIn w'' (fun b => A b ∨ w'.heap.size ≤ b) kv (F q' ks').2 ∧ Below w'.heap.size w' w'') :
    Calls Try.prog 83 #[v, .func (.func dn) #[recv] #[]] w fun e w' => ∃ ov L', e = .returned ov ∧ TrOwn w' w.heap.size A ov L' ∧ rowOf L' = G ks ∧ Below w.heap.size w w' := by
  obtain ⟨L, rfl, hL⟩ := hk.list
  refine (st_each (F := F) hdn hL hA (Nat.le_trans (rowOf_size L) hl) fun x hx w' hb => ?_).mono ?_
  · exact hF w' x.2.1 x.2.2 x.1 (mem_rowOf hx) hb ((hL.kids x hx).below hb) fun b hb' => Nat.lt_of_lt_of_le (hA b hb') hb.size
  · rintro e w' ⟨ov, L', rfl, h1, h2, h3⟩
    exact ⟨ov, L', rfl, h1, rowOf_each h0 hG L L' h2, h3⟩

/-- Every rule of the trees is one of these. -/
def allF (P : Nat → Prop) : Fo → Prop
  | .no => True
  | .nd q ks ts => P q ∧ allF P ks ∧ allF P ts
theorem allF_mem {P : Nat → Prop} {q' : Nat} {ks' : Fo} : ∀ {t : Fo}, allF P t → memF q' ks' t → P q' ∧ allF P ks'
  | .nd _ _ _, h, hm => by
    rcases hm with ⟨rfl, rfl⟩ | hm
    · exact ⟨h.1, h.2.1⟩
    · exact allF_mem h.2.2 hm
theorem okF_all {R : List Ru} : ∀ (t : Fo) (ns : List Int), okF R t ns → allF (fun q => q < R.length) t
  | .no, _, _ => trivial
  | .nd _ ks ts, _, ⟨_, _, _, h1, _, h2, h3⟩ => ⟨h1, okF_all ks _ h2, okF_all ts _ h3⟩

theorem FoIn.laidR {w : World} {A : Nat → Prop} {s z : Nat} {v : Value} {t : Fo} (h : FoIn w (fun b => A b ∨ z ≤ b) v t) (hA : ∀ b, A b → b < s) (hz : s + 3 ≤ z) (v0 v1 : Value) : FoIn ((w.setCell ⟨s + 1 + 1, 0, none⟩ v0).setCell ⟨s + 1 + 1, 1, none⟩ v1) (fun b => A b ∨ s ≤ b) v t := by
  refine h.laid ?_ v0 v1 ?_
  · rintro (h | h)
    · have := hA _ h; omega
    · omega
  · rintro b (h | h)
    · exact .inl h
    · exact .inr (by omega)

/-- What prune's forward and back read. -/
def PruS (sz : Nat) (T N o a b c : Int) (ra : Option Addr) (rl rc : Nat) (ov : Value) (q : Nat) (kv : Value) (g u : Nat) (wq : World) : Prop :=
  wq.cell? ⟨sz, 0, none⟩ = some (.int .i64 T) ∧ wq.cell? ⟨sz, 1, none⟩ = some (.int .i64 N) ∧ wq.cell? ⟨sz, 2, none⟩ = some (.slice ra rl rc) ∧ wq.cell? ⟨sz, 3, none⟩ = some (.int .i64 o) ∧ wq.cell? ⟨sz, 4, none⟩ = some (.int .i64 a) ∧ wq.cell? ⟨sz, 5, none⟩ = some (.int .i64 b) ∧ wq.cell? ⟨sz, 6, none⟩ = some (.int .i64 c) ∧ wq.cell? ⟨sz, 7, none⟩ = some ov ∧ wq.cell? ⟨sz + 1, 0, none⟩ = some (.int .i64 (q : Int)) ∧ wq.cell? ⟨sz + 1, 1, none⟩ = some kv ∧ wq.cell? ⟨g, q, none⟩ = some (.int .i64 (u : Int))

section
variable {w0 : World} {B : Nat} {ov : Value} {I : List Nat} {T N o a b c : Int} {ra : Option Addr} {rl rc : Nat}

set_option maxRecDepth 100000 in
set_option maxHeartbeats 3200000 in
theorem prune_backs (hO : w0.ownsRow B 3 1 ov I.length (idxV I)) : ∀ (n : Nat) (w : World) (q : Nat) (ks : Fo) (kv : Value) (A : Nat → Prop), (flatFo ks).length < n → Below w0.heap.size w0 w → q < I.length → allF (fun q => q < I.length) ks → (flatFo ks).length ≤ 2000 → FoIn w A kv ks → (∀ b, A b → b < w.heap.size) →
    Calls Try.prog 101 #[.agg #[.int .i64 T, .int .i64 N, .slice ra rl rc, .int .i64 o, .int .i64 a, .int .i64 b, .int .i64 c, ov], .agg #[.int .i64 (q : Int), kv]] w fun e w' => ∃ kv', e = .returned (.agg #[.int .i64 ((I.getD q 0 : Nat) : Int), kv']) ∧ FoIn w' (fun b => A b ∨ w.heap.size ≤ b) kv' (renF (fun j => I.getD j 0) ks) ∧ Below w.heap.size w w' := by
  intro n
  induction n with
  | zero => intro _ _ _ _ _ h; omega
  | succ n ih =>
  intro w q ks kv A hn hb0 hq hall hl hk hA
  obtain ⟨g, cap, hov, hBg, hgl⟩ := hO.form (by omega)
  subst hov
  obtain ⟨u, hu⟩ : ∃ u : Nat, I.getD q 0 = u := ⟨_, rfl⟩
  have hgc : w0.cell? ⟨g, q, none⟩ = some (.int .i64 (u : Int)) := by
    rw [hO.cellAt q (by omega)]
    simp [idxV, hq, ← hu]
  have hk1 := hk
  obtain ⟨ka, kc, hkv, _⟩ := hk1
  obtain ⟨n1, hn1⟩ : ∃ n, lenF ks = n := ⟨_, rfl⟩
  rw [hn1] at hkv
  subst hkv
  obtain ⟨W, hW⟩ : ∃ W, ((w.alloc (.cells #[.int .i64 T, .int .i64 N, .slice ra rl rc, .int .i64 o, .int .i64 a, .int .i64 b, .int .i64 c, .slice (some ⟨g, 0, none⟩) I.length cap] 95)).alloc (.cells #[.int .i64 (q : Int), .slice ka n1 kc] 70)).alloc (.cells #[.int .i64 0, .slice none 0 0] 70) = W := ⟨_, rfl⟩
  have hM := mbox hW
  obtain ⟨Wd, hWd⟩ : ∃ V, W.drew = V := ⟨_, rfl⟩
  have hBd : Below W.heap.size W Wd := by rw [← hWd]; exact (Below.refl _ _).drew
  have hWz : w.heap.size + 3 ≤ Wd.heap.size := by have := hBd.size; have := hM.size; omega
  have hBw : Below w.heap.size w Wd := hM.below.trans (hBd.mono hM.below.size)
  have HS : Hid (∀ wq, Below Wd.heap.size Wd wq → PruS w.heap.size T N o a b c ra rl rc (.slice (some ⟨g, 0, none⟩) I.length cap) q (.slice ka n1 kc) g u wq ∧ wq.heap[w.heap.size + 1 + 1]? = some (.cells #[.int .i64 0, .slice none 0 0] 70 (0, 0))) := fun wq hq' => by
    have h1 : Below W.heap.size W wq := hBd.trans (hq'.mono hBd.size)
    have hc := (h1.block _ (by have := hM.size; omega)).trans hM.chg
    have ht := (h1.block _ (by have := hM.size; omega)).trans hM.tre
    have h2 : Below w0.heap.size w0 wq := hb0.trans ((hM.below.trans (h1.mono hM.below.size)).mono hb0.size)
    exact ⟨⟨cell_of_blk hc rfl, cell_of_blk hc rfl, cell_of_blk hc rfl, cell_of_blk hc rfl, cell_of_blk hc rfl, cell_of_blk hc rfl, cell_of_blk hc rfl, cell_of_blk hc rfl, cell_of_blk ht rfl, cell_of_blk ht rfl, (h2.cell hgl).trans hgc⟩, (h1.block _ (by have := hM.size; omega)).trans hM.res⟩
  have S0 := (HS.out Wd (Below.refl _ _)).1
  have ea := each_over (w := Wd) (A := A) (v := .slice ka n1 kc) (recv := .agg #[.int .i64 T, .int .i64 N, .slice ra rl rc, .int .i64 o, .int .i64 a, .int .i64 b, .int .i64 c, .slice (some ⟨g, 0, none⟩) I.length cap]) (dn := 101) (F := fun q ks => (I.getD q 0, renF (fun j => I.getD j 0) ks)) (G := renF (fun j => I.getD j 0)) (fun args w' => by simp [callFunc, Try.func101, Try.f101 ]) rfl (fun _ _ _ => rfl) (hk.below hBw) (fun b hb => Nat.lt_of_lt_of_le (hA b hb) hBw.size) (by omega) fun w' q' ks' kv' hm hb' hk' hA' => by
    have := memF_size hm
    have h2 := allF_mem hall hm
    exact ih w' q' ks' kv' A (by omega) (hb0.trans ((hBw.trans (hb'.mono hBw.size)).mono hb0.size)) h2.1 h2.2 (by omega) hk' hA'
  have hqI : decide (q < I.length) = true := decide_eq_true hq
  have HBw : Hid (Below w.heap.size w Wd ∧ w.heap.size + 3 ≤ Wd.heap.size) := ⟨hBw, hWz⟩
  have HA : Hid (∀ b, A b → b < w.heap.size) := hA
  have HU : Hid (I.getD q 0 = u) := hu
  rw [hu]
  clear hO ih hn hb0 hall hl hk hA hBg hgl hgc hn1 hM hBd hWz hBw hu
  go_enter Try.func101, Try.ntmps101
  go_upto_region 1 with fail
  refine wp_region_mix [0, 1, 2, 3, 4, 5, 6, 7, 8, 9] 3 12 (PruS w.heap.size T N o a b c ra rl rc (.slice (some ⟨g, 0, none⟩) I.length cap) q (.slice ka n1 kc) g u) (by kernel_rfl) (by kernel_rfl) (by rw [hWd]; exact S0) ?_
  rw [hWd]
  clear hWd S0 hW
  iterate 10
    refine StillI.con8 (v := ?_) rfl (by rfl) ?_ ?_
    rotate_left
    · intro w' hSw
      obtain ⟨z0, z1, z2, z3, z4, z5, z6, z7, z8, z9, z10⟩ := hSw
      go_simp
      try with_reducible rfl
    simp only [Act.put, List.setIfInBounds_toArray, List.set_cons_zero, List.set_cons_succ]
  rw [StillI]
  refine TailC.one (i := 10) (by kernel_rfl) ⟨_, rfl, fun K hK => ?_⟩
  go_simp
  refine ea.mono ?_
  rintro e w3 ⟨rv, L', rfl, hT3, hG3, hB3⟩
  obtain ⟨la, lc, hlv⟩ := own_form hT3.own
  subst hlv
  obtain ⟨n3, hn3⟩ : ∃ n, L'.length = n := ⟨_, rfl⟩
  rw [hn3] at hT3 ⊢
  dsimp only
  refine hK.out _ _ (fun _ => (HS.out w3 hB3).1) ?_
  clear hK ea
  have hres := (HS.out w3 hB3).2
  have y0 : w3.cell? ⟨w.heap.size + 1 + 1, 0, none⟩ = some (.int .i64 0) := cell_of_blk hres rfl
  have y1 : w3.cell? ⟨w.heap.size + 1 + 1, 1, none⟩ = some (.slice none 0 0) := cell_of_blk hres rfl
  have yf0 : w3.frozen? ⟨w.heap.size + 1 + 1, 0, none⟩ = false := frozen_of_blk hres
  have yf1 : w3.frozen? ⟨w.heap.size + 1 + 1, 1, none⟩ = false := frozen_of_blk hres
  have q0 := res_0 (v0 := .int .i64 (u : Int)) (v1 := .slice la n3 lc) hres
  have q1 := res_1 (v0 := .int .i64 (u : Int)) (v1 := .slice la n3 lc) hres
  refine TailC.one (i := 11) (by kernel_rfl) ⟨_, rfl, fun K hK => ?_⟩
  go_simp
  refine hK.out _ _ (fun _ => (HS.out w3 hB3).1) ?_
  clear hK
  have HT : Hid (FoIn w3 (fun b => A b ∨ Wd.heap.size ≤ b) (.slice la n3 lc) (renF (fun j => I.getD j 0) ks) ∧ Below Wd.heap.size Wd w3) := by
    refine ⟨?_, hB3⟩
    have := hT3.trIn.fo
    rw [hG3] at this
    exact this
  clear hT3 hG3 hB3 hn3 hres
  refine TailC.last (i := 12) (by kernel_rfl) ⟨_, rfl, fun K hK => ?_⟩
  go_simp
  refine hK.out _ _ (fun h => absurd h (by omega)) (NoPanic.normal ?_)
  clear hK
  go_wp2_with fail
  refine bodyPost_ret (v := .agg #[.int .i64 (u : Int), .slice la n3 lc]) (by simp [results, Try.results101, go_sem, q0, q1]) rfl ?_
  have hz := HBw.out.2
  exact ⟨_, rfl, HT.out.1.laidR HA.out hz _ _, ((HBw.out.1.trans (HT.out.2.mono HBw.out.1.size)).setCell (by simp; omega) _).setCell (by simp; omega) _⟩
end

end Go.Proofs.Ytikjekfpgklbdaa

/- The contract of slices.Index of numbers, where the number is there. -/
namespace Go.Proofs.Ytikjekfpgklbdaa
open Go.RowKit

set_option maxRecDepth 100000 in
set_option maxHeartbeats 1600000 in
theorem index_at {w : World} {lim : Nat} {sv : Value} {L : List Int} (h : ListAt w lim sv L) (hl : L.length ≤ 1000000) {x : Int} {p : Nat} (hp : p < L.length) (hx : L.getD p 0 = x) (hne : ∀ j, j < p → L.getD j 0 ≠ x) :
    Calls Try.prog 94 #[sv, .int .i64 x] w fun e w' => e = .returned (.int .i64 (p : Int)) ∧ w' = w := by
  obtain ⟨sa, sc, hsv⟩ := h.1
  subst hsv
  have HL : Hid (ListAt w lim (.slice sa L.length sc) L) := h
  have HX : Hid (L.getD p 0 = x ∧ ∀ j, j < p → L.getD j 0 ≠ x) := ⟨hx, hne⟩
  clear h hx hne
  go_enter Try.func94, Try.ntmps94
  go_wp2_with fail
  go_loop [8] (fun s => ∃ k : Nat, s = .int .i64 k ∧ k ≤ p) (fun s => L.length - (intOf s).toNat)
  case atStart => exact ⟨0, rfl, Nat.zero_le _⟩
  case round =>
    obtain ⟨k, rfl, hk⟩ := hrel
    have hlt : k < L.length := by omega
    obtain ⟨b, o, sc', he, _, c1⟩ := HL.out.2 k hlt
    injection he with ha _ hc
    subst ha
    subst hc
    obtain ⟨y, hy⟩ : ∃ y, L.getD k 0 = y := ⟨_, rfl⟩
    rw [hy] at c1
    have i0 : (0 : Int) ≤ (k : Int) := Int.natCast_nonneg _
    have i1 : (k : Int) < (L.length : Int) := by omega
    by_cases hxy : k = p
    · subst hxy
      have : y = x := hy.symm.trans HX.out.1
      subst this
      clear hy
      go_wp2_with fail
      go_ret
      exact ⟨rfl, rfl⟩
    · have hb : (x == y) = false := by
        have := HX.out.2 k (by omega)
        rw [hy] at this
        simpa using fun e => this e.symm
      clear hy
      go_wp2_with fail
      go_round
      case rel => exact ⟨k + 1, by go_num, by omega⟩
      case measure => simp [intOf]; omega

end Go.Proofs.Ytikjekfpgklbdaa
