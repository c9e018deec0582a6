import Derived.Test.YtikjekfpgklbdaaTrOfAndTrIdx
import Derived.Test.YtikjekfpgklbdaaStepTreeAndStSmall
/- prune's forward. -/
namespace Go.Proofs.Ytikjekfpgklbdaa
open Go.RowKit

theorem idxV_ints (I : List Nat) : idxV I = intV (I.map fun (n : Nat) => (n : Int)) := by unfold idxV intV; rw [List.map_map]; rfl
theorem getD_map (I : List Nat) (j : Nat) : (I.map fun (n : Nat) => (n : Int)).getD j 0 = ((I.getD j 0 : Nat) : Int) := by
  rw [List.getD, List.getD, List.getElem?_map]
  cases I[j]? <;> rfl
/-- A number stands first at f. -/
def AtF (I : List Nat) (f : Nat → Nat) (q : Nat) : Prop := f q < I.length ∧ I.getD (f q) 0 = q ∧ ∀ j, j < f q → I.getD j 0 ≠ q

/-- What it reads. -/
def PrfS (sz : Nat) (T N o a b c : Int) (ra : Option Addr) (rl rc : Nat) (ov : Value) (q : Nat) (kv : Value) (wq : World) : Prop :=
  wq.cell? ⟨sz, 0, none⟩ = some (.int .i64 T) ∧ wq.cell? ⟨sz, 1, none⟩ = some (.int .i64 N) ∧ wq.cell? ⟨sz, 2, none⟩ = some (.slice ra rl rc) ∧ wq.cell? ⟨sz, 3, none⟩ = some (.int .i64 o) ∧ wq.cell? ⟨sz, 4, none⟩ = some (.int .i64 a) ∧ wq.cell? ⟨sz, 5, none⟩ = some (.int .i64 b) ∧ wq.cell? ⟨sz, 6, none⟩ = some (.int .i64 c) ∧ wq.cell? ⟨sz, 7, none⟩ = some ov ∧ wq.cell? ⟨sz + 1, 0, none⟩ = some (.int .i64 (q : Int)) ∧ wq.cell? ⟨sz + 1, 1, none⟩ = some kv

section
variable {w0 : World} {B : Nat} {ov : Value} {I : List Nat} {T N o a b c : Int} {ra : Option Addr} {rl rc : Nat}

set_option maxRecDepth 100000 in
set_option maxHeartbeats 3200000 in
theorem prune_forwards {f : Nat → Nat} (hIl : I.length ≤ 100000) (hO : w0.ownsRow B 3 1 ov I.length (idxV I)) : ∀ (n : Nat) (w : World) (q : Nat) (ks : Fo) (kv : Value) (A : Nat → Prop), (flatFo ks).length < n → Below w0.heap.size w0 w → AtF I f q → allF (AtF I f) ks → (flatFo ks).length ≤ 2000 → FoIn w A kv ks → (∀ b, A b → b < w.heap.size) →
    Calls Try.prog 102 #[.agg #[.int .i64 T, .int .i64 N, .slice ra rl rc, .int .i64 o, .int .i64 a, .int .i64 b, .int .i64 c, ov], .agg #[.int .i64 (q : Int), kv]] w fun e w' => ∃ kv', e = .returned (.agg #[.int .i64 ((f q : Nat) : Int), kv']) ∧ FoIn w' (fun b => A b ∨ w.heap.size ≤ b) kv' (renF f ks) ∧ Below w.heap.size w w' := by
  intro n
  induction n with
  | zero => intro _ _ _ _ _ h; omega
  | succ n ih =>
  intro w q ks kv A hn hb0 hq hall hl hk hA
  obtain ⟨g, cap, hov, hBg, hgl⟩ := hO.form (by have := hq.1; omega)
  subst hov
  obtain ⟨u, hu⟩ : ∃ u : Nat, f q = u := ⟨_, rfl⟩
  have hIx : Hid (∀ wq, Below w0.heap.size w0 wq → Calls Try.prog 94 #[.slice (some ⟨g, 0, none⟩) I.length cap, .int .i64 (q : Int)] wq fun e w' => e = .returned (.int .i64 (u : Int)) ∧ w' = wq) := fun wq hq' => by
    have h1 := own_below hO hq' fun g hg => (hO.lt g hg).2
    rw [idxV_ints] at h1
    have h2 := own_ints (Z := I.map fun (n : Nat) => (n : Int)) (by rw [List.length_map]; exact h1)
    refine index_at h2 (by rw [List.length_map]; omega) (by rw [List.length_map, ← hu]; exact hq.1) (by rw [getD_map, ← hu, hq.2.1]) fun j hj => ?_
    rw [getD_map]
    have := hq.2.2 j (by omega)
    omega
  have hk1 := hk
  obtain ⟨ka, kc, hkv, _⟩ := hk1
  obtain ⟨n1, hn1⟩ : ∃ n, lenF ks = n := ⟨_, rfl⟩
  rw [hn1] at hkv
  subst hkv
  obtain ⟨W, hW⟩ : ∃ W, ((w.alloc (.cells #[.int .i64 T, .int .i64 N, .slice ra rl rc, .int .i64 o, .int .i64 a, .int .i64 b, .int .i64 c, .slice (some ⟨g, 0, none⟩) I.length cap] 95)).alloc (.cells #[.int .i64 (q : Int), .slice ka n1 kc] 70)).alloc (.cells #[.int .i64 0, .slice none 0 0] 70) = W := ⟨_, rfl⟩
  have hM := mbox hW
  obtain ⟨Wd, hWd⟩ : ∃ V, W.drew = V := ⟨_, rfl⟩
  have hBd : Below W.heap.size W Wd := by rw [← hWd]; exact (Below.refl _ _).drew
  have hWz : w.heap.size + 3 ≤ Wd.heap.size := by have := hBd.size; have := hM.size; omega
  have hBw : Below w.heap.size w Wd := hM.below.trans (hBd.mono hM.below.size)
  have HS : Hid (∀ wq, Below Wd.heap.size Wd wq → PrfS w.heap.size T N o a b c ra rl rc (.slice (some ⟨g, 0, none⟩) I.length cap) q (.slice ka n1 kc) wq ∧ wq.heap[w.heap.size + 1 + 1]? = some (.cells #[.int .i64 0, .slice none 0 0] 70 (0, 0))) := fun wq hq' => by
    have h1 : Below W.heap.size W wq := hBd.trans (hq'.mono hBd.size)
    have hc := (h1.block _ (by have := hM.size; omega)).trans hM.chg
    have ht := (h1.block _ (by have := hM.size; omega)).trans hM.tre
    exact ⟨⟨cell_of_blk hc rfl, cell_of_blk hc rfl, cell_of_blk hc rfl, cell_of_blk hc rfl, cell_of_blk hc rfl, cell_of_blk hc rfl, cell_of_blk hc rfl, cell_of_blk hc rfl, cell_of_blk ht rfl, cell_of_blk ht rfl⟩, (h1.block _ (by have := hM.size; omega)).trans hM.res⟩
  have S0 := (HS.out Wd (Below.refl _ _)).1
  have ea := each_over (w := Wd) (A := A) (v := .slice ka n1 kc) (recv := .agg #[.int .i64 T, .int .i64 N, .slice ra rl rc, .int .i64 o, .int .i64 a, .int .i64 b, .int .i64 c, .slice (some ⟨g, 0, none⟩) I.length cap]) (dn := 102) (F := fun q ks => (f q, renF f ks)) (G := renF f) (fun args w' => by simp [callFunc, Try.func102, Try.f102 ]) rfl (fun _ _ _ => rfl) (hk.below hBw) (fun b hb => Nat.lt_of_lt_of_le (hA b hb) hBw.size) (by omega) fun w' q' ks' kv' hm hb' hk' hA' => by
    have := memF_size hm
    have h2 := allF_mem hall hm
    exact ih w' q' ks' kv' A (by omega) (hb0.trans ((hBw.trans (hb'.mono hBw.size)).mono hb0.size)) h2.1 h2.2 (by omega) hk' hA'
  have ix := hIx.out Wd (hb0.trans (hBw.mono hb0.size))
  have HBw : Hid (Below w.heap.size w Wd ∧ w.heap.size + 3 ≤ Wd.heap.size) := ⟨hBw, hWz⟩
  have HA : Hid (∀ b, A b → b < w.heap.size) := hA
  have HU : Hid (f q = u) := hu
  rw [hu]
  clear hO ih hn hb0 hall hl hk hA hBg hgl hIx hq hn1 hM hBd hWz hBw hu
  go_enter Try.func102, Try.ntmps102
  go_upto_region 1 with fail
  refine wp_region_mix [0, 1, 2, 3, 5, 6, 7, 8] 4 11 (PrfS w.heap.size T N o a b c ra rl rc (.slice (some ⟨g, 0, none⟩) I.length cap) q (.slice ka n1 kc)) (by kernel_rfl) (by kernel_rfl) (by rw [hWd]; exact S0) ?_
  rw [hWd]
  clear hWd S0 hW
  iterate 8
    refine StillI.con8 (v := ?_) rfl (by rfl) ?_ ?_
    rotate_left
    · intro w' hSw
      obtain ⟨z0, z1, z2, z3, z4, z5, z6, z7, z8, z9⟩ := hSw
      go_simp
      try with_reducible rfl
    simp only [Act.put, List.setIfInBounds_toArray, List.set_cons_zero, List.set_cons_succ]
  rw [StillI]
  refine TailC.one (i := 4) (by kernel_rfl) ⟨_, rfl, fun K hK => ?_⟩
  go_simp
  refine ix.mono ?_
  rintro e w2 ⟨rfl, h2⟩
  obtain rfl : Wd = w2 := h2.symm
  dsimp only
  refine hK.out _ _ (fun _ => (HS.out Wd (Below.refl _ _)).1) ?_
  clear hK ix
  refine TailC.one (i := 9) (by kernel_rfl) ⟨_, rfl, fun K hK => ?_⟩
  go_simp
  refine ea.mono ?_
  rintro e w3 ⟨rv, L', rfl, hT3, hG3, hB3⟩
  obtain ⟨la, lc, hlv⟩ := own_form hT3.own
  subst hlv
  obtain ⟨n3, hn3⟩ : ∃ n, L'.length = n := ⟨_, rfl⟩
  rw [hn3] at hT3 ⊢
  dsimp only
  refine hK.out _ _ (fun _ => (HS.out w3 hB3).1) ?_
  clear hK ea
  have hres := (HS.out w3 hB3).2
  have y0 : w3.cell? ⟨w.heap.size + 1 + 1, 0, none⟩ = some (.int .i64 0) := cell_of_blk hres rfl
  have y1 : w3.cell? ⟨w.heap.size + 1 + 1, 1, none⟩ = some (.slice none 0 0) := cell_of_blk hres rfl
  have yf0 : w3.frozen? ⟨w.heap.size + 1 + 1, 0, none⟩ = false := frozen_of_blk hres
  have yf1 : w3.frozen? ⟨w.heap.size + 1 + 1, 1, none⟩ = false := frozen_of_blk hres
  have q0 := res_0 (v0 := .int .i64 (u : Int)) (v1 := .slice la n3 lc) hres
  have q1 := res_1 (v0 := .int .i64 (u : Int)) (v1 := .slice la n3 lc) hres
  refine TailC.one (i := 10) (by kernel_rfl) ⟨_, rfl, fun K hK => ?_⟩
  go_simp
  refine hK.out _ _ (fun _ => (HS.out w3 hB3).1) ?_
  clear hK
  have HT : Hid (FoIn w3 (fun b => A b ∨ Wd.heap.size ≤ b) (.slice la n3 lc) (renF f ks) ∧ Below Wd.heap.size Wd w3) := by
    refine ⟨?_, hB3⟩
    have := hT3.trIn.fo
    rw [hG3] at this
    exact this
  clear hT3 hG3 hB3 hn3 hres
  refine TailC.last (i := 11) (by kernel_rfl) ⟨_, rfl, fun K hK => ?_⟩
  go_simp
  refine hK.out _ _ (fun h => absurd h (by omega)) (NoPanic.normal ?_)
  clear hK
  go_wp2_with fail
  refine bodyPost_ret (v := .agg #[.int .i64 (u : Int), .slice la n3 lc]) (by simp [results, Try.results102, go_sem, q0, q1]) rfl ?_
  have hz := HBw.out.2
  exact ⟨_, rfl, HT.out.1.laidR HA.out hz _ _, ((HBw.out.1.trans (HT.out.2.mono HBw.out.1.size)).setCell (by simp; omega) _).setCell (by simp; omega) _⟩
end

end Go.Proofs.Ytikjekfpgklbdaa

/- Parts of rows of trees, and slices.Concat of them. -/
namespace Go.Proofs.Ytikjekfpgklbdaa
open Go.RowKit

/-- x[f:] of trees. -/
theorem tr_from {la : Option Addr} {f n sl lc : Nat} {fi : Int} (hf : fi = f) (hs : sl = f + n) : ∃ A, (∀ w : World, Sem.run Try.prog (Instr.sliceAt 68 (.slice la sl lc) (some (.int .i64 fi)) none none) w = .ok (.slice A n (lc - f)) w) ∧ (lc ≠ f → A = la.map (·.add (f * 2))) := by
  subst hf
  have h0 : (0 : Int) ≤ (f : Int) := Int.natCast_nonneg _
  have h1 : (f : Int) ≤ (sl : Int) := by omega
  have h2 : sl - f = n := by omega
  refine ⟨if lc = f then la else la.map (·.add (f * 2)), fun w => ?_, fun h => by rw [if_neg h]⟩
  go_simp
  intro h
  omega
/-- x[:f] of trees. -/
theorem tr_upto {la : Option Addr} {f sl lc : Nat} {fi : Int} (hf : fi = f) (hu : f ≤ lc) (w : World) : Sem.run Try.prog (Instr.sliceAt 68 (.slice la sl lc) none (some (.int .i64 fi)) none) w = .ok (.slice la f lc) w := by
  subst hf
  have h0 : (0 : Int) ≤ (f : Int) := Int.natCast_nonneg _
  have h1 : (f : Int) ≤ (lc : Int) := by omega
  cases la with
  | none => go_simp
  | some ad => go_simp
/-- x[f:g] of trees. -/
theorem tr_mid {la : Option Addr} {f n g sl lc : Nat} {fi gi : Int} (hf : fi = f) (hg : gi = g) (hn : g = f + n) (hu : g ≤ lc) : ∃ A, (∀ w : World, Sem.run Try.prog (Instr.sliceAt 68 (.slice la sl lc) (some (.int .i64 fi)) (some (.int .i64 gi)) none) w = .ok (.slice A n (lc - f)) w) ∧ (lc ≠ f → A = la.map (·.add (f * 2))) := by
  subst hf hg
  have h0 : (0 : Int) ≤ (f : Int) := Int.natCast_nonneg _
  have h1 : (f : Int) ≤ (g : Int) := by omega
  have h2 : g - f = n := by omega
  have h3 : (0 : Int) ≤ (g : Int) := Int.natCast_nonneg _
  have h4 : (g : Int) ≤ (lc : Int) := by omega
  have h5 : f ≤ g := by omega
  clear hn
  refine ⟨if lc = f then la else la.map (·.add (f * 2)), fun w => ?_, fun h => by rw [if_neg h]⟩
  go_simp

section
variable {w : World} {A : Nat → Prop} {pb : Nat} {va vb vc : Value} {La Lb Lc : List Tr}
theorem tcat3 (p0 : w.cell? ⟨pb, 0, none⟩ = some va) (p1 : w.cell? ⟨pb, 1, none⟩ = some vb) (p2 : w.cell? ⟨pb, 2, none⟩ = some vc) (ha : TrIn w A va La) (hb : TrIn w A vb Lb) (hc : TrIn w A vc Lc) (hs : La.length + Lb.length + Lc.length ≤ 100000) :
    Calls Try.prog 84 #[.slice (some ⟨pb, 0, none⟩) 3 3] w fun e w' => ∃ a n d, e = .returned (.slice a n d) ∧ TrIn w' (fun b => A b ∨ w.heap.size ≤ b) (.slice a n d) (La ++ Lb ++ Lc) ∧ Below w.heap.size w w' := by
  have hN : totN [(va, La.length, flatT La), (vb, Lb.length, flatT Lb), (vc, Lc.length, flatT Lc)] = La.length + Lb.length + Lc.length := by simp [totN]; omega
  have hX : totX [(va, La.length, flatT La), (vb, Lb.length, flatT Lb), (vc, Lc.length, flatT Lc)] = flatT (La ++ Lb ++ Lc) := by simp [totX, flatT_append]
  have cc := concat_ccT (w := w) (pb := pb) (PL := [(va, La.length, flatT La), (vb, Lb.length, flatT Lb), (vc, Lc.length, flatT Lc)]) (fun i hi => by
    match i, hi with
    | 0, _ => exact p0
    | 1, _ => exact p1
    | 2, _ => exact p2
    | i + 3, hi => exact absurd hi (by simp)) (fun p hp => by
    simp only [List.mem_cons, List.not_mem_nil, or_false] at hp
    rcases hp with rfl | rfl | rfl
    · exact ha.row
    · exact hb.row
    · exact hc.row) (by rw [hN]; exact hs) (by simp)
  rw [hN, hX] at cc
  refine cc.mono ?_
  rintro e w' ⟨a, d, rfl, ho, hB⟩
  have hl : (La ++ Lb ++ Lc).length = La.length + Lb.length + Lc.length := by rw [List.length_append, List.length_append]
  refine ⟨a, _, d, rfl, own_trIn (B := w.heap.size) (by rw [hl]; exact ho) (fun g hg => .inr (ho.lt g hg).1) fun x hx => ?_, hB⟩
  have h1 : FoIn w A x.1 x.2.2 := by
    rcases List.mem_append.1 hx with hx | hx
    · rcases List.mem_append.1 hx with hx | hx
      · exact ha.kids x hx
      · exact hb.kids x hx
    · exact hc.kids x hx
  exact h1.kept fun b hA hlt => ⟨hB.block b hlt, .inl hA⟩
theorem tcat2 (p0 : w.cell? ⟨pb, 0, none⟩ = some va) (p1 : w.cell? ⟨pb, 1, none⟩ = some vb) (ha : TrIn w A va La) (hb : TrIn w A vb Lb) (hs : La.length + Lb.length ≤ 100000) :
    Calls Try.prog 84 #[.slice (some ⟨pb, 0, none⟩) 2 2] w fun e w' => ∃ a n d, e = .returned (.slice a n d) ∧ TrIn w' (fun b => A b ∨ w.heap.size ≤ b) (.slice a n d) (La ++ Lb) ∧ Below w.heap.size w w' := by
  have hN : totN [(va, La.length, flatT La), (vb, Lb.length, flatT Lb)] = La.length + Lb.length := by simp [totN]
  have hX : totX [(va, La.length, flatT La), (vb, Lb.length, flatT Lb)] = flatT (La ++ Lb) := by simp [totX, flatT_append]
  have cc := concat_ccT (w := w) (pb := pb) (PL := [(va, La.length, flatT La), (vb, Lb.length, flatT Lb)]) (fun i hi => by
    match i, hi with
    | 0, _ => exact p0
    | 1, _ => exact p1
    | i + 2, hi => exact absurd hi (by simp)) (fun p hp => by
    simp only [List.mem_cons, List.not_mem_nil, or_false] at hp
    rcases hp with rfl | rfl
    · exact ha.row
    · exact hb.row) (by rw [hN]; exact hs) (by simp)
  rw [hN, hX] at cc
  refine cc.mono ?_
  rintro e w' ⟨a, d, rfl, ho, hB⟩
  have hl : (La ++ Lb).length = La.length + Lb.length := by rw [List.length_append]
  refine ⟨a, _, d, rfl, own_trIn (B := w.heap.size) (by rw [hl]; exact ho) (fun g hg => .inr (ho.lt g hg).1) fun x hx => ?_, hB⟩
  have h1 : FoIn w A x.1 x.2.2 := by
    rcases List.mem_append.1 hx with hx | hx
    · exact ha.kids x hx
    · exact hb.kids x hx
  exact h1.kept fun b hA hlt => ⟨hB.block b hlt, .inl hA⟩
end
/-- A tree as a row of one. -/
theorem trIn_one {w : World} {A : Nat → Prop} {b : Nat} {kv : Value} {q : Nat} {ks : Fo} (hb : w.heap[b]? = some (.cells #[.int .i64 (q : Int), kv] 70 (0, 0))) (hA : A b) (hk : FoIn w A kv ks) : TrIn w A (.slice (some ⟨b, 0, none⟩) 1 1) [(kv, q, ks)] := by
  refine ⟨⟨_, _, rfl, Nat.le_refl _⟩, fun k hkl => ?_, fun x hx => by rw [List.mem_singleton.1 hx]; exact hk⟩
  have : k = 0 := by simp at hkl; omega
  subst this
  exact ⟨b, 0, 1, rfl, hA, cell_of_blk (i := 0) hb rfl, cell_of_blk (i := 1) hb rfl⟩

end Go.Proofs.Ytikjekfpgklbdaa

/- The contract of package step's last. -/
namespace Go.Proofs.Ytikjekfpgklbdaa
open Go.RowKit

section
variable {w : World} {T N : Int} {ra : Option Addr} {rn rc : Nat} {op a b c : Int}

set_option maxRecDepth 100000 in
theorem st_last : Calls Try.prog 71 #[.agg #[.int .i64 T, .int .i64 N, .slice ra rn rc, .int .i64 op, .int .i64 a, .int .i64 b, .int .i64 c]] w fun e w' => e = .returned (.int .i64 rn) ∧ Below w.heap.size w w' := by
  go_enter Try.func71, Try.ntmps71
  go_wp2_with fail
  go_ret
  exact ⟨rfl, (Below.refl _ _).alloc (Nat.le_refl _) _⟩

end

end Go.Proofs.Ytikjekfpgklbdaa

/- extract's forward. -/
namespace Go.Proofs.Ytikjekfpgklbdaa
open Go.RowKit

/-- Of each tree of the row, and of those within it. -/
def allFo (P : Nat → Fo → Prop) : Fo → Prop
  | .no => True
  | .nd q ks ts => P q ks ∧ allFo P ks ∧ allFo P ts
theorem allFo_mem {P : Nat → Fo → Prop} {q' : Nat} {ks' : Fo} : ∀ {t : Fo}, allFo P t → memF q' ks' t → P q' ks' ∧ allFo P ks'
  | .nd _ _ _, h, hm => by
    rcases hm with ⟨rfl, rfl⟩ | hm
    · exact ⟨h.1, h.2.1⟩
    · exact allFo_mem h.2.2 hm

/-- What extract's forward and back read. -/
def ExtS (sz : Nat) (T N o a b c : Int) (ra : Option Addr) (rl rc fr up : Nat) (q : Nat) (kv : Value) (wq : World) : Prop :=
  wq.cell? ⟨sz, 0, none⟩ = some (.int .i64 T) ∧ wq.cell? ⟨sz, 1, none⟩ = some (.int .i64 N) ∧ wq.cell? ⟨sz, 2, none⟩ = some (.slice ra rl rc) ∧ wq.cell? ⟨sz, 3, none⟩ = some (.int .i64 o) ∧ wq.cell? ⟨sz, 4, none⟩ = some (.int .i64 a) ∧ wq.cell? ⟨sz, 5, none⟩ = some (.int .i64 b) ∧ wq.cell? ⟨sz, 6, none⟩ = some (.int .i64 c) ∧ wq.cell? ⟨sz, 7, none⟩ = some (.int .i64 (fr : Int)) ∧ wq.cell? ⟨sz, 8, none⟩ = some (.int .i64 (up : Int)) ∧ wq.cell? ⟨sz + 1, 0, none⟩ = some (.int .i64 (q : Int)) ∧ wq.cell? ⟨sz + 1, 1, none⟩ = some kv

section
variable {T N o b c : Int} {ra : Option Addr} {rl rc fr m ka : Nat}

set_option maxRecDepth 100000 in
set_option maxHeartbeats 3200000 in
theorem extract_forwards : ∀ (n : Nat) (w : World) (q : Nat) (ks : Fo) (kv : Value) (A : Nat → Prop), (flatFo ks).length < n → (q = ka → fr + m ≤ lenF ks) → allFo (fun q ks => q = ka → fr + m ≤ lenF ks) ks → (flatFo ks).length ≤ 2000 → FoIn w A kv ks → (∀ b, A b → b < w.heap.size) →
    Calls Try.prog 81 #[.agg #[.int .i64 T, .int .i64 N, .slice ra rl rc, .int .i64 o, .int .i64 (ka : Int), .int .i64 b, .int .i64 c, .int .i64 (fr : Int), .int .i64 ((fr + m : Nat) : Int)], .agg #[.int .i64 (q : Int), kv]] w fun e w' => ∃ kv', e = .returned (.agg #[.int .i64 (q : Int), kv']) ∧ FoIn w' (fun b => A b ∨ w.heap.size ≤ b) kv' (if q = ka then inF fr m rl (exF ka rl fr m ks) else exF ka rl fr m ks) ∧ Below w.heap.size w w' := by
  intro n
  induction n with
  | zero => intro _ _ _ _ _ h; omega
  | succ n ih =>
  intro w q ks kv A hn hqk hall hl hk hA
  have hk1 := hk
  obtain ⟨ka1, kc, hkv, _⟩ := hk1
  obtain ⟨n1, hn1⟩ : ∃ n, lenF ks = n := ⟨_, rfl⟩
  rw [hn1] at hkv hqk
  subst hkv
  obtain ⟨up, hup⟩ : ∃ up, fr + m = up := ⟨_, rfl⟩
  rw [hup] at hqk ⊢
  obtain ⟨W, hW⟩ : ∃ W, ((w.alloc (.cells #[.int .i64 T, .int .i64 N, .slice ra rl rc, .int .i64 o, .int .i64 (ka : Int), .int .i64 b, .int .i64 c, .int .i64 (fr : Int), .int .i64 (up : Int)] 86)).alloc (.cells #[.int .i64 (q : Int), .slice ka1 n1 kc] 70)).alloc (.cells #[.int .i64 0, .slice none 0 0] 70) = W := ⟨_, rfl⟩
  have hM := mbox hW
  have HS : Hid (∀ wq, Below W.heap.size W wq → ExtS w.heap.size T N o ka b c ra rl rc fr up q (.slice ka1 n1 kc) wq ∧ wq.heap[w.heap.size + 1 + 1]? = some (.cells #[.int .i64 0, .slice none 0 0] 70 (0, 0))) := fun wq h1 => by
    have hc := (h1.block _ (by have := hM.size; omega)).trans hM.chg
    have ht := (h1.block _ (by have := hM.size; omega)).trans hM.tre
    exact ⟨⟨cell_of_blk hc rfl, cell_of_blk hc rfl, cell_of_blk hc rfl, cell_of_blk hc rfl, cell_of_blk hc rfl, cell_of_blk hc rfl, cell_of_blk hc rfl, cell_of_blk hc rfl, cell_of_blk hc rfl, cell_of_blk ht rfl, cell_of_blk ht rfl⟩, (h1.block _ (by have := hM.size; omega)).trans hM.res⟩
  obtain ⟨x0, x1, x2, x3, x4, x5, x6, x7, x8, x9, x10⟩ := (HS.out W (Below.refl _ _)).1
  have ea := each_over (w := W) (A := A) (v := .slice ka1 n1 kc) (recv := .agg #[.int .i64 T, .int .i64 N, .slice ra rl rc, .int .i64 o, .int .i64 (ka : Int), .int .i64 b, .int .i64 c, .int .i64 (fr : Int), .int .i64 (up : Int)]) (dn := 81) (F := fun q ks => (q, if q = ka then inF fr m rl (exF ka rl fr m ks) else exF ka rl fr m ks)) (G := exF ka rl fr m) (fun args w' => by simp [callFunc, Try.func81, Try.f81 ]) rfl (fun _ _ _ => rfl) (hk.below hM.below) (fun b hb => Nat.lt_of_lt_of_le (hA b hb) hM.below.size) (by omega) fun w' q' ks' kv' hm hb' hk' hA' => by
    have := memF_size hm
    have h2 := allFo_mem hall hm
    have := ih w' q' ks' kv' A (by omega) h2.1 h2.2 (by omega) hk' hA'
    rw [hup] at this
    exact this
  have HM : Hid (Below w.heap.size w W ∧ w.heap.size + 3 ≤ W.heap.size) := ⟨hM.below, by have := hM.size; omega⟩
  have HA : Hid (∀ b, A b → b < w.heap.size) := hA
  have HK : Hid (fr + m = up ∧ lenF (exF ka rl fr m ks) = n1 ∧ n1 ≤ 2000) := ⟨hup, (exF_len ka rl fr m ks).trans hn1, by obtain ⟨L, hL, _⟩ := hk.list; have := rowOf_size L; rw [hL] at this; have h3 := rowOf_len L; rw [hL] at h3; omega⟩
  clear ih hn hall hl hk hA hM hn1 hup
  by_cases hqa : q = ka
  · subst hqa
    have hfu := hqk rfl
    rw [if_pos rfl]
    clear hqk
    go_enter Try.func81, Try.ntmps81
    go_upto_region 4 with
      (go_at_call 83; refine ea.mono ?_; rintro e w2 ⟨rv, L', rfl, hT2, hG2, hB2⟩
       obtain ⟨la, lc, hlv⟩ := own_form hT2.own
       subst hlv
       obtain ⟨z0, z1, z2, z3, z4, z5, z6, z7, z8, z9, z10⟩ := (HS.out w2 hB2).1
       have HT : Hid (TrOwn w2 W.heap.size A (.slice la L'.length lc) L' ∧ rowOf L' = exF q rl fr m ks ∧ Below W.heap.size W w2) := ⟨hT2, hG2, hB2⟩
       have hLn : L'.length = n1 := by rw [← HK.out.2.1, ← hG2, rowOf_len]
       rw [hLn]
       rw [hLn] at HT
       clear ea hT2 hG2 hB2 x0 x1 x2 x3 x4 x5 x6 x7 x8 x9 x10 hW)
    have hcap : n1 ≤ lc := by
      rcases HT.out.1.own.2 with ⟨h0, h00⟩ | ⟨g, cap, cur, hg, _, _, hle, _⟩
      · injection h0 with _ h1 h2; omega
      · injection hg with _ _ hg3; omega
    obtain ⟨A3, hmid, hmid'⟩ := tr_mid (la := la) (f := fr) (n := m) (g := up) (sl := n1) (lc := lc) (fi := (fr : Int)) (gi := (up : Int)) rfl rfl HK.out.1.symm (by omega)
    have HMid : Hid (lc ≠ fr → A3 = la.map (·.add (fr * 2))) := hmid'
    clear hmid' z0 z1 z2 z3 z4 z5 z6 z7 z8 z9 z10
    go_cut [6] from 23 to 33 (fun s6 wx => ∃ p, s6 = .pointer (some ⟨p, 0, none⟩) ∧ w2.heap.size ≤ p ∧ wx.cell? ⟨p, 0, none⟩ = some (.int .i64 (rl : Int)) ∧ wx.cell? ⟨p, 1, none⟩ = some (.slice A3 m (lc - fr)) ∧ Below w2.heap.size w2 wx)
    case first =>
      obtain ⟨Wd, hWd⟩ : ∃ V, w2.drew = V := ⟨_, rfl⟩
      have hBd : Below w2.heap.size w2 Wd := by rw [← hWd]; exact (Below.refl _ _).drew
      have HSd : Hid (∀ wq, Below Wd.heap.size Wd wq → ExtS w.heap.size T N o q b c ra rl rc fr up q (.slice ka1 n1 kc) wq ∧ Below w2.heap.size w2 wq) := fun wq hq => by
        have h1 : Below w2.heap.size w2 wq := hBd.trans (hq.mono hBd.size)
        exact ⟨(HS.out wq (HT.out.2.2.trans (h1.mono HT.out.2.2.size))).1, h1⟩
      have S0 := (HSd.out Wd (Below.refl _ _)).1
      have HBd : Hid (w2.heap.size ≤ Wd.heap.size) := hBd.size
      clear hBd
      refine wp_region_mix [0, 1, 3, 4, 5, 6, 7, 8] 4 11 (ExtS w.heap.size T N o q b c ra rl rc fr up q (.slice ka1 n1 kc)) (by kernel_rfl) (by kernel_rfl) (by rw [hWd]; exact S0) ?_
      rw [hWd]
      clear hWd S0
      iterate 8
        refine StillI.con8 (v := ?_) rfl (by rfl) ?_ ?_
        rotate_left
        · intro w' hSw
          obtain ⟨z0, z1, z2, z3, z4, z5, z6, z7, z8, z9, z10⟩ := hSw
          go_simp
          try with_reducible rfl
        simp only [Act.put, List.setIfInBounds_toArray, List.set_cons_zero, List.set_cons_succ]
      rw [StillI]
      refine TailC.two (i := 2) (i' := 10) (by kernel_rfl) ⟨_, rfl, fun K hK => ?_⟩ ⟨_, rfl, fun K hK => ?_⟩
      · have la1 := st_last (w := Wd) (T := T) (N := N) (ra := ra) (rn := rl) (rc := rc) (op := o) (a := q) (b := b) (c := c)
        go_simp
        refine la1.mono ?_
        rintro e w3 ⟨rfl, hB3⟩
        dsimp only
        refine hK.out _ _ (fun _ => (HSd.out w3 hB3).1) ?_
        clear hK la1
        refine TailC.read (i := 9) (v := .agg #[.int .i64 (rl : Int), .slice A3 m (lc - fr)]) rfl (by kernel_rfl) (by rfl) (fun w' _ => by unfold execOp; go_simp) (HSd.out w3 hB3).1 ?_
        simp only [Act.put, List.setIfInBounds_toArray, List.set_cons_zero, List.set_cons_succ]
        have hBz : Below Wd.heap.size Wd (w3.alloc (.cells #[.int .i64 0, .slice none 0 0] 70)) := hB3.alloc hB3.size _
        refine TailC.one (i := 10) (by kernel_rfl) ⟨_, rfl, fun K hK => ?_⟩
        go_simp
        refine hK.out _ _ (fun _ => (HSd.out _ hBz).1) ?_
        clear hK
        have hres := heap_alloc_new w3 (.cells #[.int .i64 0, .slice none 0 0] 70)
        obtain ⟨pz, hpz⟩ : ∃ x, w3.heap.size = x := ⟨_, rfl⟩
        obtain ⟨wz, hwz⟩ : ∃ V, w3.alloc (.cells #[.int .i64 0, .slice none 0 0] 70) = V := ⟨_, rfl⟩
        have HP : Hid (w2.heap.size ≤ pz) := by show _ ≤ _; rw [← hpz]; exact Nat.le_trans HBd.out hB3.size
        rw [hwz, hpz] at hres
        rw [hwz] at hBz ⊢
        rw [hpz]
        have y0 : wz.cell? ⟨pz, 0, none⟩ = some (.int .i64 0) := cell_of_blk hres rfl
        have y1 : wz.cell? ⟨pz, 1, none⟩ = some (.slice none 0 0) := cell_of_blk hres rfl
        have yf0 : wz.frozen? ⟨pz, 0, none⟩ = false := frozen_of_blk hres
        have yf1 : wz.frozen? ⟨pz, 1, none⟩ = false := frozen_of_blk hres
        have HE : Hid (((wz.setCell ⟨pz, 0, none⟩ (.int .i64 (rl : Int))).setCell ⟨pz, 1, none⟩ (.slice A3 m (lc - fr))).cell? ⟨pz, 0, none⟩ = some (.int .i64 (rl : Int)) ∧ ((wz.setCell ⟨pz, 0, none⟩ (.int .i64 (rl : Int))).setCell ⟨pz, 1, none⟩ (.slice A3 m (lc - fr))).cell? ⟨pz, 1, none⟩ = some (.slice A3 m (lc - fr)) ∧ Below w2.heap.size w2 ((wz.setCell ⟨pz, 0, none⟩ (.int .i64 (rl : Int))).setCell ⟨pz, 1, none⟩ (.slice A3 m (lc - fr)))) :=
          ⟨res_0 hres, res_1 hres, ((HSd.out wz hBz).2.setCell (by have := HP.out; simp only; omega) _).setCell (by have := HP.out; simp only; omega) _⟩
        clear hwz hpz hB3 hBz hres
        refine TailC.last (i := 11) (by kernel_rfl) ⟨_, rfl, fun K hK => ?_⟩
        go_simp
        refine hK.out _ _ (fun h => absurd h (by omega)) (NoPanic.normal ?_)
        clear hK
        go_wp2_with fail
        go_meet
        case rel => exact ⟨pz, rfl, HP.out, HE.out.1, HE.out.2.1, HE.out.2.2⟩
      · have hBy : Below Wd.heap.size Wd (Wd.alloc (.cells #[.int .i64 0, .slice none 0 0] 70)) := (Below.refl _ _).alloc (Nat.le_refl _) _
        go_simp
        refine hK.out _ _ (fun _ => (HSd.out _ hBy).1) ?_
        clear hK
        have hres := heap_alloc_new Wd (.cells #[.int .i64 0, .slice none 0 0] 70)
        obtain ⟨pz, hpz⟩ : ∃ x, Wd.heap.size = x := ⟨_, rfl⟩
        obtain ⟨wy, hwy⟩ : ∃ V, Wd.alloc (.cells #[.int .i64 0, .slice none 0 0] 70) = V := ⟨_, rfl⟩
        have HP : Hid (w2.heap.size ≤ pz ∧ pz = Wd.heap.size) := ⟨by rw [← hpz]; exact HBd.out, hpz.symm⟩
        rw [hwy] at hBy hres ⊢
        rw [hpz] at hres ⊢
        clear hwy hpz
        have la1 := st_last (w := wy) (T := T) (N := N) (ra := ra) (rn := rl) (rc := rc) (op := o) (a := q) (b := b) (c := c)
        refine TailC.one (i := 2) (by kernel_rfl) ⟨_, rfl, fun K hK => ?_⟩
        go_simp
        refine la1.mono ?_
        rintro e wz ⟨rfl, hB3⟩
        dsimp only
        have hBz : Below Wd.heap.size Wd wz := hBy.trans (hB3.mono hBy.size)
        refine hK.out _ _ (fun _ => (HSd.out wz hBz).1) ?_
        clear hK la1
        have hres := (hB3.block _ (Array.getElem?_eq_some_iff.1 hres).1).trans hres
        refine TailC.one (i := 9) (by kernel_rfl) ⟨_, rfl, fun K hK => ?_⟩
        go_simp
        refine hK.out _ _ (fun _ => (HSd.out _ hBz).1) ?_
        clear hK
        have y0 : wz.cell? ⟨pz, 0, none⟩ = some (.int .i64 0) := cell_of_blk hres rfl
        have y1 : wz.cell? ⟨pz, 1, none⟩ = some (.slice none 0 0) := cell_of_blk hres rfl
        have yf0 : wz.frozen? ⟨pz, 0, none⟩ = false := frozen_of_blk hres
        have yf1 : wz.frozen? ⟨pz, 1, none⟩ = false := frozen_of_blk hres
        have HE : Hid (((wz.setCell ⟨pz, 0, none⟩ (.int .i64 (rl : Int))).setCell ⟨pz, 1, none⟩ (.slice A3 m (lc - fr))).cell? ⟨pz, 0, none⟩ = some (.int .i64 (rl : Int)) ∧ ((wz.setCell ⟨pz, 0, none⟩ (.int .i64 (rl : Int))).setCell ⟨pz, 1, none⟩ (.slice A3 m (lc - fr))).cell? ⟨pz, 1, none⟩ = some (.slice A3 m (lc - fr)) ∧ Below w2.heap.size w2 ((wz.setCell ⟨pz, 0, none⟩ (.int .i64 (rl : Int))).setCell ⟨pz, 1, none⟩ (.slice A3 m (lc - fr)))) :=
          ⟨res_0 hres, res_1 hres, ((HSd.out wz hBz).2.setCell (by have := HP.out.1; simp only; omega) _).setCell (by have := HP.out.1; simp only; omega) _⟩
        clear hB3 hBz hBy hres
        refine TailC.last (i := 11) (by kernel_rfl) ⟨_, rfl, fun K hK => ?_⟩
        go_simp
        refine hK.out _ _ (fun h => absurd h (by omega)) (NoPanic.normal ?_)
        clear hK
        go_wp2_with fail
        go_meet
        case rel => exact ⟨pz, rfl, HP.out.1, HE.out.1, HE.out.2.1, HE.out.2.2⟩
    case rest =>
      obtain ⟨p, rfl, hp, c0, c1, hBx⟩ := hcut
      go_upto_region 5 with fail
      obtain ⟨Wd, hWd⟩ : ∃ V, wc.drew = V := ⟨_, rfl⟩
      have hBd : Below w2.heap.size w2 Wd := by rw [← hWd]; exact hBx.drew
      have hBc : Below wc.heap.size wc Wd := by rw [← hWd]; exact (Below.refl _ _).drew
      have hW2 : Below W.heap.size W Wd := HT.out.2.2.trans (hBd.mono HT.out.2.2.size)
      have HSd : Hid (∀ wq, Below Wd.heap.size Wd wq → (ExtS w.heap.size T N o q b c ra rl rc fr up q (.slice ka1 n1 kc) wq ∧ wq.cell? ⟨p, 0, none⟩ = some (.int .i64 (rl : Int)) ∧ wq.cell? ⟨p, 1, none⟩ = some (.slice A3 m (lc - fr))) ∧ Below W.heap.size W wq ∧ TrIn wq (fun b => A b ∨ W.heap.size ≤ b) (.slice la n1 lc) L') := fun wq hq => by
        have h1 : Below W.heap.size W wq := hW2.trans (hq.mono hW2.size)
        have h2 : Below wc.heap.size wc wq := hBc.trans (hq.mono hBc.size)
        exact ⟨⟨(HS.out wq h1).1, (h2.cell (World.block_lt_of_cell? _ _ c0)).trans c0, (h2.cell (World.block_lt_of_cell? _ _ c1)).trans c1⟩, h1, HT.out.1.trIn.below (hBd.trans (hq.mono hBd.size))⟩
      have S0 := (HSd.out Wd (Below.refl _ _)).1
      obtain ⟨nn, hnn⟩ : ∃ nn, n1 = up + nn := ⟨n1 - up, by omega⟩
      have hup1 := fun w => tr_upto (la := la) (f := fr) (sl := n1) (lc := lc) (fi := (fr : Int)) rfl (by have := HK.out.1; omega) w
      obtain ⟨A4, hfro, hfro'⟩ := tr_from (la := la) (f := up) (n := nn) (sl := n1) (lc := lc) (fi := (up : Int)) rfl hnn
      have HF4 : Hid (lc ≠ up → A4 = la.map (·.add (up * 2))) := hfro'
      have HNN : Hid (n1 = up + nn) := hnn
      have HW2 : Hid (W.heap.size ≤ Wd.heap.size) := hW2.size
      clear hBd hBc hW2 hBx c0 c1 hp hfro' hnn hmid
      refine wp_region_mix [0, 1, 2, 3, 4, 5, 6, 8, 9, 10, 11] 5 15 (fun wq => ExtS w.heap.size T N o q b c ra rl rc fr up q (.slice ka1 n1 kc) wq ∧ wq.cell? ⟨p, 0, none⟩ = some (.int .i64 (rl : Int)) ∧ wq.cell? ⟨p, 1, none⟩ = some (.slice A3 m (lc - fr))) (by kernel_rfl) (by kernel_rfl) (by rw [hWd]; exact S0) ?_
      rw [hWd]
      clear hWd S0
      iterate 11
        refine StillI.con8 (v := ?_) rfl (by rfl) ?_ ?_
        rotate_left
        · intro w' hSw
          obtain ⟨⟨z0, z1, z2, z3, z4, z5, z6, z7, z8, z9, z10⟩, z11, z12⟩ := hSw
          go_simp
          try with_reducible rfl
        simp only [Act.put, List.setIfInBounds_toArray, List.set_cons_zero, List.set_cons_succ]
      rw [StillI]
      have hB6 : Below Wd.heap.size Wd (Wd.alloc (.cells #[.int .i64 (rl : Int), .slice A3 m (lc - fr)] 70)) := (Below.refl _ _).alloc (Nat.le_refl _) _
      refine TailC.one (i := 7) (by kernel_rfl) ⟨_, rfl, fun K hK => ?_⟩
      go_simp
      refine hK.out _ _ (fun _ => (HSd.out _ hB6).1) ?_
      clear hK
      have hb6 := heap_alloc_new Wd (.cells #[.int .i64 (rl : Int), .slice A3 m (lc - fr)] 70)
      obtain ⟨p6, hp6⟩ : ∃ x, Wd.heap.size = x := ⟨_, rfl⟩
      obtain ⟨w6, hw6⟩ : ∃ V, Wd.alloc (.cells #[.int .i64 (rl : Int), .slice A3 m (lc - fr)] 70) = V := ⟨_, rfl⟩
      have hp6W : W.heap.size ≤ p6 := by rw [← hp6]; exact HW2.out
      rw [hw6] at hB6 hb6 ⊢
      rw [hp6] at hb6 ⊢
      clear hw6
      have hB7 : Below w6.heap.size w6 (w6.alloc (.cells #[.slice la fr lc, .slice (some ⟨p6, 0, none⟩) 1 1, .slice A4 nn (lc - up)] 68)) := (Below.refl _ _).alloc (Nat.le_refl _) _
      have hB7' : Below Wd.heap.size Wd (w6.alloc (.cells #[.slice la fr lc, .slice (some ⟨p6, 0, none⟩) 1 1, .slice A4 nn (lc - up)] 68)) := hB6.trans (hB7.mono hB6.size)
      refine TailC.one (i := 12) (by kernel_rfl) ⟨_, rfl, fun K hK => ?_⟩
      go_simp
      refine hK.out _ _ (fun _ => (HSd.out _ hB7').1) ?_
      clear hK
      have hb7 := heap_alloc_new w6 (.cells #[.slice la fr lc, .slice (some ⟨p6, 0, none⟩) 1 1, .slice A4 nn (lc - up)] 68)
      obtain ⟨p7, hp7⟩ : ∃ x, w6.heap.size = x := ⟨_, rfl⟩
      obtain ⟨w7, hw7⟩ : ∃ V, w6.alloc (.cells #[.slice la fr lc, .slice (some ⟨p6, 0, none⟩) 1 1, .slice A4 nn (lc - up)] 68) = V := ⟨_, rfl⟩
      rw [hw7] at hB7 hB7' hb7 ⊢
      rw [hp7] at hb7 ⊢
      have hb67 := (hB7.block _ (Array.getElem?_eq_some_iff.1 hb6).1).trans hb6
      clear hw7 hb6
      have hAll := (HSd.out w7 hB7').2.2
      have cc := tcat3 (w := w7) (pb := p7) (A := fun b => A b ∨ W.heap.size ≤ b) (La := L'.take fr) (Lb := [(.slice A3 m (lc - fr), rl, rowOf ((L'.drop fr).take m))]) (Lc := L'.drop up) (cell_of_blk (i := 0) hb7 rfl) (cell_of_blk (i := 1) hb7 rfl) (cell_of_blk (i := 2) hb7 rfl)
        (by
          have h0 : TrIn w7 (fun b => A b ∨ W.heap.size ≤ b) (.slice la L'.length lc) L' := by rw [hLn]; exact hAll
          exact h0.take (by rw [hLn]; have := HK.out.1; omega))
        (by
          have h0 : TrIn w7 (fun b => A b ∨ W.heap.size ≤ b) (.slice la L'.length lc) L' := by rw [hLn]; exact hAll
          have h1 := h0.drop (f := fr) (m := n1 - fr) (A := A3) (by rw [hLn]; have := HK.out.1; omega) HMid.out
          have hdl : (L'.drop fr).length = n1 - fr := by rw [List.length_drop, hLn]
          have h2 : TrIn w7 (fun b => A b ∨ W.heap.size ≤ b) (.slice A3 (L'.drop fr).length (lc - fr)) (L'.drop fr) := by rw [hdl]; exact h1
          exact trIn_one hb67 (.inr hp6W) (h2.take (f := m) (by rw [hdl]; have := HK.out.1; omega)).fo)
        (by
          have h0 : TrIn w7 (fun b => A b ∨ W.heap.size ≤ b) (.slice la L'.length lc) L' := by rw [hLn]; exact hAll
          exact h0.drop (by rw [hLn]; exact HNN.out) HF4.out)
        (by have := HK.out.2.2; simp only [List.length_take, List.length_drop, List.length_cons, List.length_nil]; omega)
      clear hAll hb67 hb7 hp6W hp7 hp6 hB6 hB7
      refine TailC.one (i := 13) (by kernel_rfl) ⟨_, rfl, fun K hK => ?_⟩
      go_simp
      refine cc.mono ?_
      rintro e w8 ⟨a8, n8, d8, rfl, hT8, hB8⟩
      dsimp only
      have hB8' : Below Wd.heap.size Wd w8 := hB7'.trans (hB8.mono hB7'.size)
      refine hK.out _ _ (fun _ => (HSd.out _ hB8').1) ?_
      clear hK cc
      have hW8 := (HSd.out _ hB8').2.1
      have hres := (HS.out w8 hW8).2
      have y0 : w8.cell? ⟨w.heap.size + 1 + 1, 0, none⟩ = some (.int .i64 0) := cell_of_blk hres rfl
      have y1 : w8.cell? ⟨w.heap.size + 1 + 1, 1, none⟩ = some (.slice none 0 0) := cell_of_blk hres rfl
      have yf0 : w8.frozen? ⟨w.heap.size + 1 + 1, 0, none⟩ = false := frozen_of_blk hres
      have yf1 : w8.frozen? ⟨w.heap.size + 1 + 1, 1, none⟩ = false := frozen_of_blk hres
      have q0 := res_0 (v0 := .int .i64 (q : Int)) (v1 := .slice a8 n8 d8) hres
      have q1 := res_1 (v0 := .int .i64 (q : Int)) (v1 := .slice a8 n8 d8) hres
      have HR : Hid (FoIn w8 (fun b => A b ∨ W.heap.size ≤ b) (.slice a8 n8 d8) (inF fr m rl (exF q rl fr m ks)) ∧ Below W.heap.size W w8) := by
        refine ⟨?_, hW8⟩
        have h1 := hT8.fo
        have h2 : rowOf (L'.take fr ++ [(Value.slice A3 m (lc - fr), rl, rowOf ((L'.drop fr).take m))] ++ L'.drop up) = inF fr m rl (exF q rl fr m ks) := by
          unfold inF
          rw [← HT.out.2.1, List.append_assoc, rowOf_app, rowOf_take, List.singleton_append, rowOf, rowOf_take, rowOf_drop, ← HK.out.1, ← List.drop_drop, rowOf_drop, rowOf_drop]
        rw [h2] at h1
        refine h1.kept fun x hx _ => ⟨rfl, ?_⟩
        rcases hx with hx | hx
        · exact hx
        · exact .inr (Nat.le_trans (Nat.le_trans HW2.out hB7'.size) hx)
      refine TailC.one (i := 14) (by kernel_rfl) ⟨_, rfl, fun K hK => ?_⟩
      go_simp
      refine hK.out _ _ (fun _ => (HSd.out _ hB8').1) ?_
      clear hK hT8 hB8 hB8' hB7' hW8 hres
      refine TailC.last (i := 15) (by kernel_rfl) ⟨_, rfl, fun K hK => ?_⟩
      go_simp
      refine hK.out _ _ (fun h => absurd h (by omega)) (NoPanic.normal ?_)
      clear hK
      go_wp2_with fail
      refine bodyPost_ret (v := .agg #[.int .i64 (q : Int), .slice a8 n8 d8]) (by simp [results, Try.results81, go_sem, q0, q1]) rfl ?_
      have hz := HM.out.2
      exact ⟨_, rfl, HR.out.1.laidR HA.out hz _ _, ((HM.out.1.trans (HR.out.2.mono HM.out.1.size)).setCell (by simp; omega) _).setCell (by simp; omega) _⟩
  · have hne : ((q : Int) == (ka : Int)) = false := by simp; omega
    have hne2 : decide ((q : Int) = (ka : Int)) = false := decide_eq_false (by omega)
    rw [if_neg hqa]
    clear hqk
    go_enter Try.func81, Try.ntmps81
    go_wp2_with
      (go_at_call 83; refine ea.mono ?_; rintro e w2 ⟨rv, L', rfl, hT2, hG2, hB2⟩
       obtain ⟨la, lc, hlv⟩ := own_form hT2.own
       subst hlv
       obtain ⟨n2, hn2⟩ : ∃ n, L'.length = n := ⟨_, rfl⟩
       rw [hn2] at hT2 ⊢
       obtain ⟨z0, z1, z2, z3, z4, z5, z6, z7, z8, z9, z10⟩ := (HS.out w2 hB2).1
       have hres := (HS.out w2 hB2).2
       have y0 : w2.cell? ⟨w.heap.size + 1 + 1, 0, none⟩ = some (.int .i64 0) := cell_of_blk hres rfl
       have y1 : w2.cell? ⟨w.heap.size + 1 + 1, 1, none⟩ = some (.slice none 0 0) := cell_of_blk hres rfl
       have yf0 : w2.frozen? ⟨w.heap.size + 1 + 1, 0, none⟩ = false := frozen_of_blk hres
       have yf1 : w2.frozen? ⟨w.heap.size + 1 + 1, 1, none⟩ = false := frozen_of_blk hres
       have q0 := res_0 (v0 := .int .i64 (q : Int)) (v1 := .slice la n2 lc) hres
       have q1 := res_1 (v0 := .int .i64 (q : Int)) (v1 := .slice la n2 lc) hres
       have HT : Hid (FoIn w2 (fun b => A b ∨ W.heap.size ≤ b) (.slice la n2 lc) (exF ka rl fr m ks) ∧ Below W.heap.size W w2) := by
         refine ⟨?_, hB2⟩
         have := hT2.trIn.fo
         rw [hG2] at this
         exact this
       clear ea hT2 hG2 hB2 hn2 hres x0 x1 x2 x3 x4 x5 x6 x7 x8 x9 x10 hW)
    refine bodyPost_ret (v := .agg #[.int .i64 (q : Int), .slice la n2 lc]) (by simp [results, Try.results81, go_sem, q0, q1]) rfl ?_
    have hz := HM.out.2
    exact ⟨_, rfl, HT.out.1.laidR HA.out hz _ _, ((HM.out.1.trans (HT.out.2.mono HM.out.1.size)).setCell (by simp; omega) _).setCell (by simp; omega) _⟩
end

end Go.Proofs.Ytikjekfpgklbdaa
