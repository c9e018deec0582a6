/- left's forward. -/
import Derived.Test.YtikjekfpgklbdaaTrIbAndTrOn
namespace Go.Proofs.Ytikjekfpgklbdaa
open Go.RowKit

/-- What left's forward and back read. -/
def LefS (sz : Nat) (T N o a b c : Int) (ra : Option Addr) (rl rc : Nat) (q : Nat) (kv : Value) (wq : World) : Prop :=
  wq.cell? ⟨sz, 0, none⟩ = some (.int .i64 T) ∧ wq.cell? ⟨sz, 1, none⟩ = some (.int .i64 N) ∧ wq.cell? ⟨sz, 2, none⟩ = some (.slice ra rl rc) ∧ wq.cell? ⟨sz, 3, none⟩ = some (.int .i64 o) ∧ wq.cell? ⟨sz, 4, none⟩ = some (.int .i64 a) ∧ wq.cell? ⟨sz, 5, none⟩ = some (.int .i64 b) ∧ wq.cell? ⟨sz, 6, none⟩ = some (.int .i64 c) ∧ wq.cell? ⟨sz + 1, 0, none⟩ = some (.int .i64 (q : Int)) ∧ wq.cell? ⟨sz + 1, 1, none⟩ = some kv

theorem tree_set {w : World} {g : Nat} {u0 u1 v0 v1 : Value} (h : w.heap[g]? = some (.cells #[u0, u1] 70 (0, 0))) : ((w.setCell ⟨g, 0, none⟩ v0).setCell ⟨g, 1, none⟩ v1).heap[g]? = some (.cells #[v0, v1] 70 (0, 0)) := by
  have h1 := heap_setCell_same w g 0 #[u0, u1] 70 v0 h
  have h2 := heap_setCell_same _ g 1 _ 70 v1 h1
  simpa using h2
theorem tree_far {w : World} {g k : Nat} (h : k ≠ g) (v0 v1 : Value) : ((w.setCell ⟨g, 0, none⟩ v0).setCell ⟨g, 1, none⟩ v1).heap[k]? = w.heap[k]? := by
  rw [Below.heap_setCell _ _ _ _ h, Below.heap_setCell _ _ _ _ h]

theorem leG_len {N : Nat} {R R' : List Ru} {A : Int} {own isA : Nat → Bool} (h : LeIs N R R' A own isA) : ∀ (t : Fo) (ns : List Int), okF R t ns → lenF (leG R.length own isA t (.nd R.length .no .no)) = lenF t
  | .no, _, _ => rfl
  | .nd q ks ts, _, ⟨n, _, _, h1, h2, h3, h4⟩ => by
    rw [leF_row h q ks ts ⟨n, n, [], rfl, h1, h2, h3, rfl⟩, lenF, lenF, leG_len h ts _ h4]

/-- The boxes of left's forward and back while they go along: of the change, of the tree, of the result, of what is behind (or out). -/
structure LfM (w : World) (cx : Array Value) (p5 : Nat) (A : Nat → Prop) (q : Nat) (kv : Value) (bq : Nat) (bv : Value) (bk : Fo) (wr : World) : Prop where
  below : Below w.heap.size w wr
  lo : w.heap.size + 3 ≤ p5
  chg : wr.heap[w.heap.size]? = some (.cells cx 90 (0, 0))
  tre : wr.heap[w.heap.size + 1]? = some (.cells #[.int .i64 (q : Int), kv] 70 (0, 0))
  res : wr.heap[w.heap.size + 1 + 1]? = some (.cells #[.int .i64 0, .slice none 0 0] 70 (0, 0))
  beh : wr.heap[p5]? = some (.cells #[.int .i64 (bq : Int), bv] 70 (0, 0))
  bin : FoIn wr (fun b => A b ∨ p5 < b) bv bk
section
variable {w wr w' : World} {cx : Array Value} {p5 : Nat} {A : Nat → Prop} {q : Nat} {kv : Value} {bq : Nat} {bv : Value} {bk : Fo}
theorem LfM.hi (h : LfM w cx p5 A q kv bq bv bk wr) : p5 < wr.heap.size := (Array.getElem?_eq_some_iff.1 h.beh).1
theorem LfM.next (h : LfM w cx p5 A q kv bq bv bk wr) (hb : Below wr.heap.size wr w') : LfM w cx p5 A q kv bq bv bk w' := by
  have h1 := h.hi
  have h2 := h.lo
  exact ⟨h.below.trans (hb.mono h.below.size), h.lo, (hb.block _ (by omega)).trans h.chg, (hb.block _ (by omega)).trans h.tre, (hb.block _ (by omega)).trans h.res, (hb.block _ h1).trans h.beh, h.bin.below hb⟩
/-- What is behind is laid anew. -/
theorem LfM.setB (h : LfM w cx p5 A q kv bq bv bk wr) (hA : ∀ b, A b → b < w.heap.size) {cq : Nat} {cv : Value} {ck : Fo} (hk : FoIn wr (fun b => A b ∨ p5 < b) cv ck) : LfM w cx p5 A q kv cq cv ck ((wr.setCell ⟨p5, 0, none⟩ (.int .i64 (cq : Int))).setCell ⟨p5, 1, none⟩ cv) := by
  have h1 := h.hi
  have h2 := h.lo
  refine ⟨(h.below.setCell (by simp only; omega) _).setCell (by simp only; omega) _, h.lo, (tree_far (by omega) _ _).trans h.chg, (tree_far (by omega) _ _).trans h.tre, (tree_far (by omega) _ _).trans h.res, tree_set h.beh, ?_⟩
  refine hk.laid (fun h => ?_) _ _ fun b hb => hb
  rcases h with h | h
  · have := hA _ h; omega
  · omega
/-- The tree is laid anew. -/
theorem LfM.setT (h : LfM w cx p5 A q kv bq bv bk wr) (hA : ∀ b, A b → b < w.heap.size) {cq : Nat} {cv : Value} : LfM w cx p5 A cq cv bq bv bk ((wr.setCell ⟨w.heap.size + 1, 0, none⟩ (.int .i64 (cq : Int))).setCell ⟨w.heap.size + 1, 1, none⟩ cv) := by
  have h1 := h.hi
  have h2 := h.lo
  refine ⟨(h.below.setCell (by simp only; omega) _).setCell (by simp only; omega) _, h.lo, (tree_far (by omega) _ _).trans h.chg, tree_set h.tre, (tree_far (by omega) _ _).trans h.res, (tree_far (by omega) _ _).trans h.beh, ?_⟩
  refine h.bin.laid (fun h => ?_) _ _ fun b hb => hb
  rcases h with h | h
  · have := hA _ h; omega
  · omega
end

theorem lfM_start {w W w2 : World} {cx : Array Value} {q : Nat} {kv : Value} {A : Nat → Prop} (hM : MBox w W cx 90 (q : Int) kv) (hb : Below W.heap.size W w2) (L : Nat) : LfM w cx w2.heap.size A q kv L (.slice none 0 0) .no (w2.alloc (.cells #[.int .i64 (L : Int), .slice none 0 0] 70)) := by
  have h1 := hM.size
  have h2 := hb.size
  have hb' : Below W.heap.size W (w2.alloc (.cells #[.int .i64 (L : Int), .slice none 0 0] 70)) := hb.alloc hb.size _
  exact ⟨hM.below.trans (hb'.mono hM.below.size), by omega, (hb'.block _ (by omega)).trans hM.chg, (hb'.block _ (by omega)).trans hM.tre, (hb'.block _ (by omega)).trans hM.res, heap_alloc_new w2 _, foIn_nil _ _⟩
theorem LfM.cells {w wr : World} {T N o a b c : Int} {ra : Option Addr} {rl rc p5 : Nat} {A : Nat → Prop} {q : Nat} {kv : Value} {bq : Nat} {bv : Value} {bk : Fo} (h : LfM w #[.int .i64 T, .int .i64 N, .slice ra rl rc, .int .i64 o, .int .i64 a, .int .i64 b, .int .i64 c] p5 A q kv bq bv bk wr) : LefS w.heap.size T N o a b c ra rl rc q kv wr ∧ wr.cell? ⟨p5, 0, none⟩ = some (.int .i64 (bq : Int)) ∧ wr.cell? ⟨p5, 1, none⟩ = some bv :=
  ⟨⟨cell_of_blk h.chg rfl, cell_of_blk h.chg rfl, cell_of_blk h.chg rfl, cell_of_blk h.chg rfl, cell_of_blk h.chg rfl, cell_of_blk h.chg rfl, cell_of_blk h.chg rfl, cell_of_blk h.tre rfl, cell_of_blk h.tre rfl⟩, cell_of_blk h.beh rfl, cell_of_blk h.beh rfl⟩

/-- One tree more behind what each has made. -/
theorem TrOwn.more {w3 w5 w6 : World} {B p5 : Nat} {A A' : Nat → Prop} {v nv bv : Value} {L : List Tr} {bq : Nat} {bk : Fo} (h : TrOwn w3 B A' v L) (hA' : ∀ b, A' b → b < B) (hB : B ≤ w3.heap.size) (hb : Below w3.heap.size w3 w5) (hk : FoIn w5 A' bv bk) (hg : w5.grownBy w6 v.ownBlock) (hn : w6.ownsRow B 70 2 nv (L.length + 1) (flatT (L ++ [(bv, bq, bk)]))) (hat : ∀ g, nv.ownBlock = some g → v.ownBlock = some g ∨ w5.heap.size ≤ g) (hAA : ∀ b, A' b → A b ∨ p5 < b) (hp : p5 < B) : FoIn w6 (fun b => A b ∨ p5 < b) nv (appF (rowOf L) (.nd bq bk .no)) := by
  have h1 := (h.push hA' hB hb (hk.kept fun b hb _ => ⟨rfl, .inl hb⟩) hg hn hat).trIn.fo
  rw [rowOf_app] at h1
  refine h1.kept fun b hb _ => ⟨rfl, ?_⟩
  rcases hb with hb | hb
  · exact hAA b hb
  · exact .inr (by omega)

section
variable {w0 : World} {R R' : List Ru} {own isA : Nat → Bool} {T Nn o a b c : Int} {N : Nat} {ra : Option Addr} {rc : Nat}

set_option maxRecDepth 100000 in
set_option maxHeartbeats 6400000 in
theorem left_forwards (hL : LeIs N R R' a own isA) (hown : ∀ q, q < R.length → own q = ownA a (R.getD q (0, []))) (hR : RulesAt w0 w0.heap.size (.slice ra R.length rc) R) : ∀ (n : Nat) (w : World) (q : Nat) (ks : Fo) (kv : Value) (A : Nat → Prop), (flatFo ks).length < n → Below w0.heap.size w0 w → (∃ nm, okF R (.nd q ks .no) [nm]) → (flatFo ks).length ≤ 2000 → FoIn w A kv ks → (∀ b, A b → b < w.heap.size) →
    Calls Try.prog 98 #[.agg #[.int .i64 T, .int .i64 Nn, .slice ra R.length rc, .int .i64 o, .int .i64 a, .int .i64 b, .int .i64 c], .agg #[.int .i64 (q : Int), kv]] w fun e w' => ∃ kv', e = .returned (.agg #[.int .i64 ((leF R.length own isA q ks).1 : Int), kv']) ∧ FoIn w' (fun b => A b ∨ w.heap.size ≤ b) kv' (leF R.length own isA q ks).2 ∧ Below w.heap.size w w' := by
  intro n
  induction n with
  | zero => intro _ _ _ _ _ h; omega
  | succ n ih =>
  intro w q ks kv A hn hb0 hqP hl hk hA
  obtain ⟨nm, hok⟩ := hqP
  have hk1 := hk
  obtain ⟨ka1, kc, hkv, _⟩ := hk1
  obtain ⟨n1, hn1⟩ : ∃ n, lenF ks = n := ⟨_, rfl⟩
  rw [hn1] at hkv
  subst hkv
  obtain ⟨W, hW⟩ : ∃ W, ((w.alloc (.cells #[.int .i64 T, .int .i64 Nn, .slice ra R.length rc, .int .i64 o, .int .i64 a, .int .i64 b, .int .i64 c] 90)).alloc (.cells #[.int .i64 (q : Int), .slice ka1 n1 kc] 70)).alloc (.cells #[.int .i64 0, .slice none 0 0] 70) = W := ⟨_, rfl⟩
  have hM := mbox hW
  have HS : Hid (∀ wq, Below W.heap.size W wq → LefS w.heap.size T Nn o a b c ra R.length rc q (.slice ka1 n1 kc) wq ∧ wq.heap[w.heap.size + 1 + 1]? = some (.cells #[.int .i64 0, .slice none 0 0] 70 (0, 0))) := fun wq h1 => by
    have hc := (h1.block _ (by have := hM.size; omega)).trans hM.chg
    have ht := (h1.block _ (by have := hM.size; omega)).trans hM.tre
    exact ⟨⟨cell_of_blk hc rfl, cell_of_blk hc rfl, cell_of_blk hc rfl, cell_of_blk hc rfl, cell_of_blk hc rfl, cell_of_blk hc rfl, cell_of_blk hc rfl, cell_of_blk ht rfl, cell_of_blk ht rfl⟩, (h1.block _ (by have := hM.size; omega)).trans hM.res⟩
  obtain ⟨x0, x1, x2, x3, x4, x5, x6, x7, x8⟩ := (HS.out W (Below.refl _ _)).1
  have HEa : Hid (∀ (wq : World) (A' : Nat → Prop) (v' : Value) (ks' : Fo), Below w.heap.size w wq → FoIn wq A' v' ks' → (∀ b, A' b → b < wq.heap.size) → (flatFo ks').length ≤ (flatFo ks).length → (∃ ns, okF R ks' ns) → Calls Try.prog 83 #[v', .func (.func 98) #[.agg #[.int .i64 T, .int .i64 Nn, .slice ra R.length rc, .int .i64 o, .int .i64 a, .int .i64 b, .int .i64 c]] #[]] wq fun e w' => ∃ ov L', e = .returned ov ∧ TrOwn w' wq.heap.size A' ov L' ∧ rowOf L' = leG R.length own isA ks' (.nd R.length .no .no) ∧ Below wq.heap.size wq w') := fun wq A' v' ks' hq' hk' hA' hs' ⟨ns, hok'⟩ => by
    refine each_on (F := leF R.length own isA) (G := fun t => leG R.length own isA t (.nd R.length .no .no)) (P := fun q ks => ∃ n, okF R (.nd q ks .no) [n]) (fun args w' => by simp [callFunc, Try.func98, Try.f98 ]) rfl (leF_row hL) (fun q' ks' hm => (memF_ok hok' hm).imp fun _ h => h.2) hk' hA' (by omega) fun w' q'' ks'' kv'' hm hb' hk'' hA'' => ?_
    have := memF_size hm
    exact ih w' q'' ks'' kv'' A' (by omega) (hb0.trans ((hq'.trans (hb'.mono hq'.size)).mono hb0.size)) ((memF_ok hok' hm).imp fun _ h => h.2) (by omega) hk'' hA''
  have HM : Hid (Below w.heap.size w W ∧ w.heap.size + 3 ≤ W.heap.size ∧ Below w0.heap.size w0 w) := ⟨hM.below, by have := hM.size; omega, hb0⟩
  have HMB : Hid (MBox w W #[.int .i64 T, .int .i64 Nn, .slice ra R.length rc, .int .i64 o, .int .i64 a, .int .i64 b, .int .i64 c] 90 (q : Int) (.slice ka1 n1 kc)) := hM
  have HA : Hid (∀ b, A b → b < w.heap.size) := hA
  have HK : Hid (FoIn w A (.slice ka1 n1 kc) ks ∧ (flatFo ks).length ≤ 2000) := ⟨hk, hl⟩
  have HOk : Hid (okF R (.nd q ks .no) [nm]) := hok
  obtain ⟨n', ns', e, h1, h2, h3, h4⟩ := hok
  clear e h4
  have HQ : Hid (okF R ks (namesS (R.getD q (0, [])).2)) := h3
  obtain ⟨b0, o0, rc0, qa, qc, hv, _, k1, -, -⟩ := (hR.below (hb0.trans (hM.below.mono hb0.size))).syms h1
  injection hv with hv1 _ hv3
  subst hv1
  subst hv3
  obtain ⟨Lq, hLq⟩ : ∃ x, (R.getD q (0, [])).1 = x := ⟨_, rfl⟩
  rw [hLq] at k1
  have i0 : (0 : Int) ≤ (q : Int) := Int.natCast_nonneg _
  have i1 : (q : Int) < (R.length : Int) := by omega
  have HR : Hid (RulesAt w0 w0.heap.size (.slice (some ⟨b0, o0, none⟩) R.length rc) R) := hR
  clear ih hn hl hk hA hM hb0 hn1 h2 h3
  by_cases hqa : Lq = a
  · subst hqa
    have heq : (Lq == Lq) = true := by simp
    have hok0 : okF R (.nd q ks .no) [Lq] := by
      have := HOk.out
      obtain ⟨n', ns', e, h1, h2, h3, h4⟩ := this
      exact ⟨_, _, rfl, h1, hLq, h3, rfl⟩
    have HOk0 : Hid (okF R (.nd q ks .no) [Lq]) := hok0
    clear hLq hok0 h1
    go_enter Try.func98, Try.ntmps98
    go_upto_region 1 with fail
    go_big_quiet (fail)
    go_upto_region 3 with fail
    obtain ⟨V0, hV0⟩ : ∃ V, W.drewN nq = V := ⟨_, rfl⟩
    have hB0 : Below W.heap.size W V0 := by rw [← hV0]; exact below_drewN (Below.refl _ _) _
    rw [hV0]
    clear hV0 x0 x1 x2 x3 x4 x5 x6 x7 x8
    obtain ⟨x0, x1, x2, x3, x4, x5, x6, x7, x8⟩ := (HS.out V0 hB0).1
    have HB0 : Hid (Below W.heap.size W V0) := hB0
    have la1 := st_last (w := V0) (T := T) (N := Nn) (ra := some ⟨b0, o0, none⟩) (rn := R.length) (rc := rc) (op := o) (a := Lq) (b := b) (c := c)
    clear hB0 hW k1 hR
    go_wp2_with
      (go_at_call 71; refine la1.mono ?_; rintro e w2 ⟨rfl, hB2⟩
       have HB2 : Hid (Below W.heap.size W w2) := HB0.out.trans (hB2.mono HB0.out.size)
       clear la1 hB2 x0 x1 x2 x3 x4 x5 x6 x7 x8)
    obtain ⟨p5, hp5⟩ : ∃ x, w2.heap.size = x := ⟨_, rfl⟩
    obtain ⟨W4, hW4⟩ : ∃ V, w2.alloc (.cells #[.int .i64 (R.length : Int), .slice none 0 0] 70) = V := ⟨_, rfl⟩
    have hMf := lfM_start (A := A) HMB.out HB2.out R.length
    rw [hW4, hp5] at hMf
    rw [hW4]
    rw [hp5]
    have HMf : Hid (LfM w #[.int .i64 T, .int .i64 Nn, .slice (some ⟨b0, o0, none⟩) R.length rc, .int .i64 o, .int .i64 Lq, .int .i64 b, .int .i64 c] p5 A q (.slice ka1 n1 kc) R.length (.slice none 0 0) .no W4) := hMf
    clear hMf hW4 hp5
    go_loopg [] ((flatFo ks).length) (fun gk wr => ∃ (q' : Nat) (ka' : Option Addr) (m1 kc' : Nat) (ks' : Fo) (bq : Nat) (bv : Value) (bk : Fo), gk = (flatFo ks').length ∧ LfM w #[.int .i64 T, .int .i64 Nn, .slice (some ⟨b0, o0, none⟩) R.length rc, .int .i64 o, .int .i64 Lq, .int .i64 b, .int .i64 c] p5 A q' (.slice ka' m1 kc') bq bv bk wr ∧ FoIn w A (.slice ka' m1 kc') ks' ∧ okF R (.nd q' ks' .no) [Lq] ∧ leG R.length own isA (.nd q ks .no) (.nd R.length .no .no) = leG R.length own isA (.nd q' ks' .no) (.nd bq bk .no) ∧ (flatFo ks').length ≤ (flatFo ks).length)
    case atStart => exact ⟨q, _, _, _, ks, _, _, _, rfl, HMf.out, HK.out.1, HOk0.out, rfl, Nat.le_refl _⟩
    case round =>
      clear HMf
      obtain ⟨q', ka', m1, kc', ks', bq, bv, bk, hgk, hm, hk', hok', hG', hle'⟩ := hrel
      obtain ⟨ba, bc, hbv, _⟩ := hm.bin
      obtain ⟨bl, hbl⟩ : ∃ n, lenF bk = n := ⟨_, rfl⟩
      rw [hbl] at hbv
      subst hbv
      have hok2 := hok'
      obtain ⟨n', ns', e, h1, h2, h3, h4⟩ := hok2
      injection e with e1 e2
      rw [← e1] at h2
      clear e1 e2 h4 hbl
      have hbw : Below w0.heap.size w0 wr := HM.out.2.2.trans (hm.below.mono HM.out.2.2.size)
      have bg := st_begins (w := wr) (T := T) (N := Nn) (op := o) (a := Lq) (b := b) (c := c) ((HR.out.below hbw).mono hbw.size) h1
      rw [← hown q' h1] at bg
      obtain ⟨⟨x0, x1, x2, x3, x4, x5, x6, x7, x8⟩, x9, x10⟩ := hm.cells
      have HMr : Hid (LfM w #[.int .i64 T, .int .i64 Nn, .slice (some ⟨b0, o0, none⟩) R.length rc, .int .i64 o, .int .i64 Lq, .int .i64 b, .int .i64 c] p5 A q' (.slice ka' m1 kc') bq (.slice ba bl bc) bk wr) := hm
      have HG' : Hid (leG R.length own isA (.nd q ks .no) (.nd R.length .no .no) = leG R.length own isA (.nd q' ks' .no) (.nd bq bk .no) ∧ gk = (flatFo ks').length ∧ (flatFo ks').length ≤ (flatFo ks).length ∧ FoIn w A (.slice ka' m1 kc') ks') := ⟨hG', hgk, hle', hk'⟩
      clear hm hG' hle' hbw hgk hk'
      cases ho : own q' with
      | true =>
        obtain ⟨hA1, l, hl1, -⟩ := hL.own1 q' h1 ho
        rw [hl1, namesS] at h3
        obtain ⟨p, k0, kr, rfl, d1, d2, d3, d4⟩ := okF_cons h3
        have hsing := leG_single hL _ p k0 Lq (Nat.lt_succ_self _) ⟨Lq, [], rfl, d1, d2, d3, rfl⟩
        have hgo := leG_own (kr := kr) (c := .nd bq bk .no) ho hsing
        obtain ⟨LL, hLL, hTL⟩ := HG'.out.2.2.2.list
        have hLn : LL.length = m1 := by obtain ⟨_, _, h, _⟩ := hTL.form; injection h with _ h _; omega
        obtain ⟨⟨kv0, p', k0'⟩, L1, rfl⟩ : ∃ x L1, LL = x :: L1 := by
          cases LL with
          | nil => cases hLL
          | cons x L1 => exact ⟨x, L1, rfl⟩
        rw [rowOf] at hLL
        injection hLL with e1 e2 e3
        simp only at e1 e2
        subst e1 e2
        obtain ⟨b1, o1, c1, hv, hA1b, t1, t2⟩ := hTL.cells 0 (by simp)
        have hT1 := hTL
        rw [List.length_cons] at hLn
        simp only [List.length_cons, hLn] at hv
        injection hv with hv1 _ hv3
        subst hv1
        subst hv3
        simp only [Nat.zero_mul, Nat.add_zero, List.getElem_cons_zero] at t1 t2
        obtain ⟨ka0, kc0, hkv0, hle0, -⟩ := hTL.kids _ (List.mem_cons_self ..)
        obtain ⟨m0, hm0⟩ : ∃ n, lenF k0' = n := ⟨_, rfl⟩
        simp only at hkv0
        rw [hm0] at hkv0
        subst hkv0
        have HT0 : Hid (FoIn w A (.slice ka0 m0 kc0) k0' ∧ L1.length + 1 = m1 ∧ rowOf L1 = kr ∧ m1 ≤ kc' ∧ TrIn w A (.slice (some ⟨b1, o1, none⟩) m1 kc') ((.slice ka0 m0 kc0, p', k0') :: L1)) := by
          refine ⟨hTL.kids _ (List.mem_cons_self ..), hLn, e3, ?_, hT1⟩
          obtain ⟨_, _, h, h'⟩ := hTL.form
          injection h with _ h5 h6
          rw [List.length_cons] at h'
          omega
        have HOk1 : Hid (okF R (.nd p' k0' .no) [Lq] ∧ okF R kr (namesS l) ∧ leG R.length own isA (.nd q' (.nd p' k0' kr) .no) (.nd bq bk .no) = leG R.length own isA (.nd p' k0' .no) (.nd q' (appF (leG R.length own isA kr (.nd R.length .no .no)) (.nd bq bk .no)) .no)) := ⟨⟨Lq, [], rfl, d1, d2, d3, rfl⟩, d4, hgo⟩
        have hbt1 := World.block_lt_of_cell? _ _ t1
        have hbt2 := World.block_lt_of_cell? _ _ t2
        have j1 : (0 : Int) < (m1 : Int) := by omega
        rw [ho] at bg
        clear hA1 hl1 h3 d1 d2 d3 d4 hsing hgo hT1 hTL hLn e3 hm0 hle0 hok'
        go_upto_region 5 with
          (go_at_call 39; refine bg.mono ?_; rintro e w3 ⟨rfl, hB3⟩
           have HM3 : Hid (LfM w #[.int .i64 T, .int .i64 Nn, .slice (some ⟨b0, o0, none⟩) R.length rc, .int .i64 o, .int .i64 Lq, .int .i64 b, .int .i64 c] p5 A q' (.slice (some ⟨b1, o1, none⟩) m1 kc') bq (.slice ba bl bc) bk w3) := HMr.out.next hB3
           clear bg hB3 x0 x1 x2 x3 x4 x5 x6 x7 x8 x9 x10)
        go_cut [] from 36 to 51 (fun wx => ∃ (na : Option Addr) (nl nc : Nat), LfM w #[.int .i64 T, .int .i64 Nn, .slice (some ⟨b0, o0, none⟩) R.length rc, .int .i64 o, .int .i64 Lq, .int .i64 b, .int .i64 c] p5 A q' (.slice (some ⟨b1, o1, none⟩) m1 kc') q' (.slice na nl nc) (appF (leG R.length own isA kr (.nd R.length .no .no)) (.nd bq bk .no)) wx)
        case first =>
          obtain ⟨Wd, hWd⟩ : ∃ V, w3.drew = V := ⟨_, rfl⟩
          have hBd : Below w3.heap.size w3 Wd := by rw [← hWd]; exact (Below.refl _ _).drew
          have hMd := HM3.out.next hBd
          have HSd : Hid (∀ wq, Below Wd.heap.size Wd wq → (LefS w.heap.size T Nn o Lq b c (some ⟨b0, o0, none⟩) R.length rc q' (.slice (some ⟨b1, o1, none⟩) m1 kc') wq ∧ wq.cell? ⟨p5, 0, none⟩ = some (.int .i64 (bq : Int)) ∧ wq.cell? ⟨p5, 1, none⟩ = some (.slice ba bl bc)) ∧ LfM w #[.int .i64 T, .int .i64 Nn, .slice (some ⟨b0, o0, none⟩) R.length rc, .int .i64 o, .int .i64 Lq, .int .i64 b, .int .i64 c] p5 A q' (.slice (some ⟨b1, o1, none⟩) m1 kc') bq (.slice ba bl bc) bk wq) := fun wq hq => ⟨(hMd.next hq).cells, hMd.next hq⟩
          have S0 := (HSd.out Wd (Below.refl _ _)).1
          obtain ⟨m2, hm2⟩ : ∃ m2, m1 = 1 + m2 := ⟨m1 - 1, by omega⟩
          obtain ⟨A4, hfro, hfro'⟩ := tr_from (la := some ⟨b1, o1, none⟩) (f := 1) (n := m2) (sl := m1) (lc := kc') (fi := 1) rfl hm2
          have HFo : Hid (FoIn w A (.slice A4 m2 (kc' - 1)) kr) := by
            have h0 := HT0.out.2.2.2.2
            have h1 : TrIn w A (.slice (some ⟨b1, o1, none⟩) ((Value.slice ka0 m0 kc0, p', k0') :: L1).length kc') ((.slice ka0 m0 kc0, p', k0') :: L1) := by rw [List.length_cons, HT0.out.2.1]; exact h0
            have h2 := (h1.drop (f := 1) (m := m2) (A := A4) (by rw [List.length_cons]; have := HT0.out.2.1; omega) hfro').fo
            rw [List.drop_succ_cons, List.drop_zero, HT0.out.2.2.1] at h2
            exact h2
          have HLe : Hid ((flatFo kr).length ≤ (flatFo ks).length ∧ (∃ ns, okF R kr ns) ∧ lenF (leG R.length own isA kr (.nd R.length .no .no)) ≤ 2000) := by
            have h1 := HG'.out.2.2.1
            rw [flatFo, List.length_cons, List.length_append] at h1
            refine ⟨by omega, ⟨_, HOk1.out.2.1⟩, ?_⟩
            rw [leG_len hL _ _ HOk1.out.2.1]
            have h2 := rowOf_size L1
            have h3 := rowOf_len L1
            rw [HT0.out.2.2.1] at h2 h3
            have := HK.out.2
            omega
          clear hfro' hm2
          have HE2 : Hid (∀ wq, Below Wd.heap.size Wd wq → Calls Try.prog 83 #[(.slice A4 m2 (kc' - 1)), .func (.func 98) #[.agg #[.int .i64 T, .int .i64 Nn, .slice (some ⟨b0, o0, none⟩) R.length rc, .int .i64 o, .int .i64 Lq, .int .i64 b, .int .i64 c]] #[]] wq fun e w' => ∃ ov L', e = .returned ov ∧ TrOwn w' wq.heap.size (fun b => A b ∨ (p5 < b ∧ b < Wd.heap.size)) ov L' ∧ rowOf L' = leG R.length own isA kr (.nd R.length .no .no) ∧ L'.length ≤ 2000 ∧ Below wq.heap.size wq w') := fun wq hq => by
            have hww : Below w.heap.size w wq := hMd.below.trans (hq.mono hMd.below.size)
            refine (HEa.out wq (fun b => A b ∨ (p5 < b ∧ b < Wd.heap.size)) _ kr hww ((HFo.out.below hww).kept fun x hx _ => ⟨rfl, .inl hx⟩) (fun b hb => ?_) HLe.out.1 HLe.out.2.1).mono ?_
            · rcases hb with hb | hb
              · exact Nat.lt_of_lt_of_le (HA.out b hb) hww.size
              · exact Nat.lt_of_lt_of_le hb.2 hq.size
            · rintro e w' ⟨ov, L', rfl, h1, h2, h3⟩
              exact ⟨ov, L', rfl, h1, h2, by rw [← rowOf_len, h2]; exact HLe.out.2.2, h3⟩
          have HBi : Hid (FoIn Wd (fun b => A b ∨ (p5 < b ∧ b < Wd.heap.size)) (.slice ba bl bc) bk ∧ p5 < Wd.heap.size) := ⟨hMd.bin.kept fun x hx hlt => ⟨rfl, hx.imp id fun h => ⟨h, hlt⟩⟩, hMd.hi⟩
          have HAz : Hid (∀ b, (A b ∨ (p5 < b ∧ b < Wd.heap.size)) → b < Wd.heap.size) := fun b hb => by
            rcases hb with hb | hb
            · exact Nat.lt_of_lt_of_le (HA.out b hb) hMd.below.size
            · exact hb.2
          clear hBd hMd
          refine wp_region_mix [0, 1, 2, 3, 4, 5, 6, 8] 5 12 (fun wq => LefS w.heap.size T Nn o Lq b c (some ⟨b0, o0, none⟩) R.length rc q' (.slice (some ⟨b1, o1, none⟩) m1 kc') wq ∧ wq.cell? ⟨p5, 0, none⟩ = some (.int .i64 (bq : Int)) ∧ wq.cell? ⟨p5, 1, none⟩ = some (.slice ba bl bc)) (by kernel_rfl) (by kernel_rfl) (by rw [hWd]; exact S0) ?_
          rw [hWd]
          clear hWd S0
          iterate 8
            refine StillI.con8 (v := ?_) rfl (by rfl) ?_ ?_
            rotate_left
            · intro w' hSw
              obtain ⟨⟨z0, z1, z2, z3, z4, z5, z6, z7, z8⟩, z9, z10⟩ := hSw
              go_simp
              try with_reducible rfl
            simp only [Act.put, List.setIfInBounds_toArray, List.set_cons_zero, List.set_cons_succ]
          rw [StillI]
          refine TailC.two (i := 7) (i' := 9) (by kernel_rfl) ⟨_, rfl, fun K hK => ?_⟩ ⟨_, rfl, fun K hK => ?_⟩
          · have ea := HE2.out Wd (Below.refl _ _)
            go_simp
            refine ea.mono ?_
            rintro e w4 ⟨rv, L', rfl, hT4, hG4, hl4, hB4⟩
            obtain ⟨la, lc, hlv⟩ := own_form hT4.own
            subst hlv
            obtain ⟨n4, hn4⟩ : ∃ n, L'.length = n := ⟨_, rfl⟩
            rw [hn4] at hT4 hl4 ⊢
            dsimp only
            refine hK.out _ _ (fun _ => (HSd.out w4 hB4).1) ?_
            clear hK ea
            have hBz : Below Wd.heap.size Wd (w4.alloc (.cells #[.int .i64 (bq : Int), .slice ba bl bc] 70)) := hB4.alloc hB4.size _
            have hB45 : Below w4.heap.size w4 (w4.alloc (.cells #[.int .i64 (bq : Int), .slice ba bl bc] 70)) := (Below.refl _ _).alloc (Nat.le_refl _) _
            refine TailC.one (i := 9) (by kernel_rfl) ⟨_, rfl, fun K hK => ?_⟩
            go_simp
            refine hK.out _ _ (fun _ => (HSd.out _ hBz).1) ?_
            clear hK
            have hrow : RowAt (w4.alloc (.cells #[.int .i64 (bq : Int), .slice ba bl bc] 70)) (.slice (some ⟨w4.heap.size, 0, none⟩) 1 1) 1 [.int .i64 (bq : Int), .slice ba bl bc] := tree_row
            obtain ⟨pz, hpz⟩ : ∃ x, w4.heap.size = x := ⟨_, rfl⟩
            obtain ⟨wz, hwz⟩ : ∃ V, w4.alloc (.cells #[.int .i64 (bq : Int), .slice ba bl bc] 70) = V := ⟨_, rfl⟩
            rw [hwz] at hrow hBz hB45 ⊢
            rw [hpz] at hrow ⊢
            clear hwz
            have own5 := own_below hT4.own hB45 fun g hg => (hT4.own.lt g hg).2
            rw [hn4] at own5
            refine TailC.one (i := 10) (by kernel_rfl) ⟨_, rfl, fun K hK => ?_⟩
            refine step_append_ccT rfl _ _ rfl rfl rfl rfl own5 hrow hBz.size (by omega) ?_
            intro a6 d6 w6 hown6 hgrow hat
            have hB6 : Below Wd.heap.size Wd w6 := hBz.grown hgrow hBz.size fun g hg => (own5.lt g hg).1
            have hF6 : FoIn w6 (fun b => A b ∨ p5 < b) (.slice a6 (n4 + 1) d6) (appF (leG R.length own isA kr (.nd R.length .no .no)) (.nd bq bk .no)) := by
              rw [← hG4]
              refine hT4.more (w5 := wz) (B := Wd.heap.size) HAz.out hB4.size hB45 (HBi.out.1.below hBz) hgrow ?_ (fun g hg => (hat g hg).imp id fun e => by omega) (fun b hb => hb.imp id fun h => h.1) HBi.out.2
              rw [flatT_push, hn4]
              exact hown6
            refine hK.out _ _ (fun _ => (HSd.out _ hB6).1) ?_
            clear hK
            have HM6 : Hid (LfM w #[.int .i64 T, .int .i64 Nn, .slice (some ⟨b0, o0, none⟩) R.length rc, .int .i64 o, .int .i64 Lq, .int .i64 b, .int .i64 c] p5 A q' (.slice (some ⟨b1, o1, none⟩) m1 kc') bq (.slice ba bl bc) bk w6 ∧ FoIn w6 (fun b => A b ∨ p5 < b) (.slice a6 (n4 + 1) d6) (appF (leG R.length own isA kr (.nd R.length .no .no)) (.nd bq bk .no))) := ⟨(HSd.out w6 hB6).2, hF6⟩
            have hbeh := HM6.out.1.beh
            have y0 : w6.cell? ⟨p5, 0, none⟩ = some (.int .i64 (bq : Int)) := cell_of_blk hbeh rfl
            have y1 : w6.cell? ⟨p5, 1, none⟩ = some (.slice ba bl bc) := cell_of_blk hbeh rfl
            have yf0 : w6.frozen? ⟨p5, 0, none⟩ = false := frozen_of_blk hbeh
            have yf1 : w6.frozen? ⟨p5, 1, none⟩ = false := frozen_of_blk hbeh
            refine TailC.one (i := 11) (by kernel_rfl) ⟨_, rfl, fun K hK => ?_⟩
            go_simp
            refine hK.out _ _ (fun _ => (HSd.out _ hB6).1) ?_
            clear hK hown6 hgrow hat hF6 hT4 hG4 own5 hrow hbeh
            refine TailC.last (i := 12) (by kernel_rfl) ⟨_, rfl, fun K hK => ?_⟩
            go_simp
            refine hK.out _ _ (fun h => absurd h (by omega)) (NoPanic.normal ?_)
            clear hK
            go_wp2_with fail
            go_meet
            case rel => exact ⟨a6, n4 + 1, d6, HM6.out.1.setB HA.out HM6.out.2⟩
          · have hBy : Below Wd.heap.size Wd (Wd.alloc (.cells #[.int .i64 (bq : Int), .slice ba bl bc] 70)) := (Below.refl _ _).alloc (Nat.le_refl _) _
            go_simp
            refine hK.out _ _ (fun _ => (HSd.out _ hBy).1) ?_
            clear hK
            have hblk := heap_alloc_new Wd (.cells #[.int .i64 (bq : Int), .slice ba bl bc] 70)
            obtain ⟨pz, hpz⟩ : ∃ x, Wd.heap.size = x := ⟨_, rfl⟩
            obtain ⟨wy, hwy⟩ : ∃ V, Wd.alloc (.cells #[.int .i64 (bq : Int), .slice ba bl bc] 70) = V := ⟨_, rfl⟩
            rw [hwy] at hBy hblk ⊢
            rw [hpz] at hblk ⊢
            clear hwy
            have ea := HE2.out wy hBy
            refine TailC.one (i := 7) (by kernel_rfl) ⟨_, rfl, fun K hK => ?_⟩
            go_simp
            refine ea.mono ?_
            rintro e w4 ⟨rv, L', rfl, hT4, hG4, hl4, hB4⟩
            obtain ⟨la, lc, hlv⟩ := own_form hT4.own
            subst hlv
            obtain ⟨n4, hn4⟩ : ∃ n, L'.length = n := ⟨_, rfl⟩
            rw [hn4] at hT4 hl4 ⊢
            dsimp only
            have hBz : Below Wd.heap.size Wd w4 := hBy.trans (hB4.mono hBy.size)
            refine hK.out _ _ (fun _ => (HSd.out w4 hBz).1) ?_
            clear hK ea
            have hrow : RowAt w4 (.slice (some ⟨pz, 0, none⟩) 1 1) 1 [.int .i64 (bq : Int), .slice ba bl bc] := ⟨⟨_, _, rfl, Nat.le_refl _⟩, rfl, by simp [Value.oneCell'], fun _ => ⟨_, _, rfl, World.news_of_block (cs := #[.int .i64 (bq : Int), .slice ba bl bc]) (t := 70) (fr := (0, 0)) ((hB4.block _ (Array.getElem?_eq_some_iff.1 hblk).1).trans hblk)⟩⟩
            have own5 := hT4.own
            rw [hn4] at own5
            refine TailC.one (i := 10) (by kernel_rfl) ⟨_, rfl, fun K hK => ?_⟩
            refine step_append_ccT rfl _ _ rfl rfl rfl rfl own5 hrow hB4.size (by omega) ?_
            intro a6 d6 w6 hown6 hgrow hat
            have hB6 : Below Wd.heap.size Wd w6 := hBz.grown hgrow hBz.size fun g hg => Nat.le_trans hBy.size (own5.lt g hg).1
            have hF6 : FoIn w6 (fun b => A b ∨ p5 < b) (.slice a6 (n4 + 1) d6) (appF (leG R.length own isA kr (.nd R.length .no .no)) (.nd bq bk .no)) := by
              rw [← hG4]
              refine hT4.more (w5 := w4) (B := wy.heap.size) (fun b hb => Nat.lt_of_lt_of_le (HAz.out b hb) hBy.size) hB4.size (Below.refl _ _) (HBi.out.1.below hBz) hgrow ?_ (fun g hg => (hat g hg).imp id fun e => by omega) (fun b hb => hb.imp id fun h => h.1) (Nat.lt_of_lt_of_le HBi.out.2 hBy.size)
              rw [flatT_push, hn4]
              exact hown6
            refine hK.out _ _ (fun _ => (HSd.out _ hB6).1) ?_
            clear hK
            have HM6 : Hid (LfM w #[.int .i64 T, .int .i64 Nn, .slice (some ⟨b0, o0, none⟩) R.length rc, .int .i64 o, .int .i64 Lq, .int .i64 b, .int .i64 c] p5 A q' (.slice (some ⟨b1, o1, none⟩) m1 kc') bq (.slice ba bl bc) bk w6 ∧ FoIn w6 (fun b => A b ∨ p5 < b) (.slice a6 (n4 + 1) d6) (appF (leG R.length own isA kr (.nd R.length .no .no)) (.nd bq bk .no))) := ⟨(HSd.out w6 hB6).2, hF6⟩
            have hbeh := HM6.out.1.beh
            have y0 : w6.cell? ⟨p5, 0, none⟩ = some (.int .i64 (bq : Int)) := cell_of_blk hbeh rfl
            have y1 : w6.cell? ⟨p5, 1, none⟩ = some (.slice ba bl bc) := cell_of_blk hbeh rfl
            have yf0 : w6.frozen? ⟨p5, 0, none⟩ = false := frozen_of_blk hbeh
            have yf1 : w6.frozen? ⟨p5, 1, none⟩ = false := frozen_of_blk hbeh
            refine TailC.one (i := 11) (by kernel_rfl) ⟨_, rfl, fun K hK => ?_⟩
            go_simp
            refine hK.out _ _ (fun _ => (HSd.out _ hB6).1) ?_
            clear hK hown6 hgrow hat hF6 hT4 hG4 own5 hrow hbeh
            refine TailC.last (i := 12) (by kernel_rfl) ⟨_, rfl, fun K hK => ?_⟩
            go_simp
            refine hK.out _ _ (fun h => absurd h (by omega)) (NoPanic.normal ?_)
            clear hK
            go_wp2_with fail
            go_meet
            case rel => exact ⟨a6, n4 + 1, d6, HM6.out.1.setB HA.out HM6.out.2⟩
        case rest =>
          obtain ⟨na, nl, nc, hm6⟩ := hcut
          obtain ⟨⟨x0, x1, x2, x3, x4, x5, x6, x7, x8⟩, x9, x10⟩ := hm6.cells
          have s1 := (hm6.below.cell hbt1).trans t1
          have s2 := (hm6.below.cell hbt2).trans t2
          have yf0 : wc.frozen? ⟨w.heap.size + 1, 0, none⟩ = false := frozen_of_blk hm6.tre
          have yf1 : wc.frozen? ⟨w.heap.size + 1, 1, none⟩ = false := frozen_of_blk hm6.tre
          have HM6 : Hid (LfM w #[.int .i64 T, .int .i64 Nn, .slice (some ⟨b0, o0, none⟩) R.length rc, .int .i64 o, .int .i64 Lq, .int .i64 b, .int .i64 c] p5 A q' (.slice (some ⟨b1, o1, none⟩) m1 kc') q' (.slice na nl nc) (appF (leG R.length own isA kr (.nd R.length .no .no)) (.nd bq bk .no)) wc) := hm6
          clear hm6 t1 t2 hbt1 hbt2
          go_wp2_with fail
          go_roundg ((flatFo k0').length)
          case rel =>
            have h1 := HG'.out
            have h2 := h1.2.2.1
            rw [flatFo, List.length_cons, List.length_append] at h2
            exact ⟨p', ka0, m0, kc0, k0', q', _, _, rfl, HM6.out.setT HA.out, HT0.out.1, HOk1.out.1, h1.1.trans HOk1.out.2.2, by omega⟩
          case measure =>
            have h1 := HG'.out.2.1
            rw [flatFo, List.length_cons, List.length_append] at h1
            omega
      | false =>
        have hiA : isA q' = true := (hL.ofA q' h1).2 h2
        have HFin : Hid (leF R.length own isA q ks = (q', appF (leG R.length own isA ks' (.nd R.length .no .no)) (.nd bq bk .no))) := leF_of (by rw [HG'.out.1, leG, if_neg (by rw [ho]; simp), if_pos hiA]; rfl)
        have HOk1 : Hid (okF R ks' (namesS (R.getD q' (0, [])).2)) := h3
        rw [ho] at bg
        clear hiA h3 hok' h2
        go_upto_region 7 with
          (go_at_call 39; refine bg.mono ?_; rintro e w3 ⟨rfl, hB3⟩
           have HM3 : Hid (LfM w #[.int .i64 T, .int .i64 Nn, .slice (some ⟨b0, o0, none⟩) R.length rc, .int .i64 o, .int .i64 Lq, .int .i64 b, .int .i64 c] p5 A q' (.slice ka' m1 kc') bq (.slice ba bl bc) bk w3) := HMr.out.next hB3
           clear bg hB3 x0 x1 x2 x3 x4 x5 x6 x7 x8 x9 x10)
        obtain ⟨Wd, hWd⟩ : ∃ V, w3.drew = V := ⟨_, rfl⟩
        have hBd : Below w3.heap.size w3 Wd := by rw [← hWd]; exact (Below.refl _ _).drew
        have hMd := HM3.out.next hBd
        have HSd : Hid (∀ wq, Below Wd.heap.size Wd wq → (LefS w.heap.size T Nn o Lq b c (some ⟨b0, o0, none⟩) R.length rc q' (.slice ka' m1 kc') wq ∧ wq.cell? ⟨p5, 0, none⟩ = some (.int .i64 (bq : Int)) ∧ wq.cell? ⟨p5, 1, none⟩ = some (.slice ba bl bc)) ∧ LfM w #[.int .i64 T, .int .i64 Nn, .slice (some ⟨b0, o0, none⟩) R.length rc, .int .i64 o, .int .i64 Lq, .int .i64 b, .int .i64 c] p5 A q' (.slice ka' m1 kc') bq (.slice ba bl bc) bk wq) := fun wq hq => ⟨(hMd.next hq).cells, hMd.next hq⟩
        have S0 := (HSd.out Wd (Below.refl _ _)).1
        have HFo : Hid (FoIn w A (.slice ka' m1 kc') ks') := HG'.out.2.2.2
        have HLe : Hid ((flatFo ks').length ≤ (flatFo ks).length ∧ (∃ ns, okF R ks' ns) ∧ lenF (leG R.length own isA ks' (.nd R.length .no .no)) ≤ 2000) := by
          have h1 := HG'.out.2.2.1
          refine ⟨h1, ⟨_, HOk1.out⟩, ?_⟩
          rw [leG_len hL _ _ HOk1.out]
          obtain ⟨LL, hLL, -⟩ := HG'.out.2.2.2.list
          have h2 := rowOf_size LL
          have h3 := rowOf_len LL
          rw [hLL] at h2 h3
          have := HK.out.2
          omega
        have HE2 : Hid (∀ wq, Below Wd.heap.size Wd wq → Calls Try.prog 83 #[(.slice ka' m1 kc'), .func (.func 98) #[.agg #[.int .i64 T, .int .i64 Nn, .slice (some ⟨b0, o0, none⟩) R.length rc, .int .i64 o, .int .i64 Lq, .int .i64 b, .int .i64 c]] #[]] wq fun e w' => ∃ ov L', e = .returned ov ∧ TrOwn w' wq.heap.size (fun b => A b ∨ (p5 < b ∧ b < Wd.heap.size)) ov L' ∧ rowOf L' = leG R.length own isA ks' (.nd R.length .no .no) ∧ L'.length ≤ 2000 ∧ Below wq.heap.size wq w') := fun wq hq => by
          have hww : Below w.heap.size w wq := hMd.below.trans (hq.mono hMd.below.size)
          refine (HEa.out wq (fun b => A b ∨ (p5 < b ∧ b < Wd.heap.size)) _ ks' hww ((HFo.out.below hww).kept fun x hx _ => ⟨rfl, .inl hx⟩) (fun b hb => ?_) HLe.out.1 HLe.out.2.1).mono ?_
          · rcases hb with hb | hb
            · exact Nat.lt_of_lt_of_le (HA.out b hb) hww.size
            · exact Nat.lt_of_lt_of_le hb.2 hq.size
          · rintro e w' ⟨ov, L', rfl, h1, h2, h3⟩
            exact ⟨ov, L', rfl, h1, h2, by rw [← rowOf_len, h2]; exact HLe.out.2.2, h3⟩
        have HBi : Hid (FoIn Wd (fun b => A b ∨ (p5 < b ∧ b < Wd.heap.size)) (.slice ba bl bc) bk ∧ p5 < Wd.heap.size) := ⟨hMd.bin.kept fun x hx hlt => ⟨rfl, hx.imp id fun h => ⟨h, hlt⟩⟩, hMd.hi⟩
        have HAz : Hid (∀ b, (A b ∨ (p5 < b ∧ b < Wd.heap.size)) → b < Wd.heap.size) := fun b hb => by
          rcases hb with hb | hb
          · exact Nat.lt_of_lt_of_le (HA.out b hb) hMd.below.size
          · exact hb.2
        clear hBd hMd
        refine wp_region_mix [0, 1, 2, 3, 4, 5, 7] 5 11 (fun wq => LefS w.heap.size T Nn o Lq b c (some ⟨b0, o0, none⟩) R.length rc q' (.slice ka' m1 kc') wq ∧ wq.cell? ⟨p5, 0, none⟩ = some (.int .i64 (bq : Int)) ∧ wq.cell? ⟨p5, 1, none⟩ = some (.slice ba bl bc)) (by kernel_rfl) (by kernel_rfl) (by rw [hWd]; exact S0) ?_
        rw [hWd]
        clear hWd S0
        iterate 7
          refine StillI.con8 (v := ?_) rfl (by rfl) ?_ ?_
          rotate_left
          · intro w' hSw
            obtain ⟨⟨z0, z1, z2, z3, z4, z5, z6, z7, z8⟩, z9, z10⟩ := hSw
            go_simp
            try with_reducible rfl
          simp only [Act.put, List.setIfInBounds_toArray, List.set_cons_zero, List.set_cons_succ]
        rw [StillI]
        refine TailC.two (i := 6) (i' := 8) (by kernel_rfl) ⟨_, rfl, fun K hK => ?_⟩ ⟨_, rfl, fun K hK => ?_⟩
        · have ea := HE2.out Wd (Below.refl _ _)
          go_simp
          refine ea.mono ?_
          rintro e w4 ⟨rv, L', rfl, hT4, hG4, hl4, hB4⟩
          obtain ⟨la, lc, hlv⟩ := own_form hT4.own
          subst hlv
          obtain ⟨n4, hn4⟩ : ∃ n, L'.length = n := ⟨_, rfl⟩
          rw [hn4] at hT4 hl4 ⊢
          dsimp only
          refine hK.out _ _ (fun _ => (HSd.out w4 hB4).1) ?_
          clear hK ea
          have hBz : Below Wd.heap.size Wd (w4.alloc (.cells #[.int .i64 (bq : Int), .slice ba bl bc] 70)) := hB4.alloc hB4.size _
          have hB45 : Below w4.heap.size w4 (w4.alloc (.cells #[.int .i64 (bq : Int), .slice ba bl bc] 70)) := (Below.refl _ _).alloc (Nat.le_refl _) _
          refine TailC.one (i := 8) (by kernel_rfl) ⟨_, rfl, fun K hK => ?_⟩
          go_simp
          refine hK.out _ _ (fun _ => (HSd.out _ hBz).1) ?_
          clear hK
          have hrow : RowAt (w4.alloc (.cells #[.int .i64 (bq : Int), .slice ba bl bc] 70)) (.slice (some ⟨w4.heap.size, 0, none⟩) 1 1) 1 [.int .i64 (bq : Int), .slice ba bl bc] := tree_row
          obtain ⟨pz, hpz⟩ : ∃ x, w4.heap.size = x := ⟨_, rfl⟩
          obtain ⟨wz, hwz⟩ : ∃ V, w4.alloc (.cells #[.int .i64 (bq : Int), .slice ba bl bc] 70) = V := ⟨_, rfl⟩
          rw [hwz] at hrow hBz hB45 ⊢
          rw [hpz] at hrow ⊢
          clear hwz
          have own5 := own_below hT4.own hB45 fun g hg => (hT4.own.lt g hg).2
          rw [hn4] at own5
          refine TailC.one (i := 9) (by kernel_rfl) ⟨_, rfl, fun K hK => ?_⟩
          refine step_append_ccT rfl _ _ rfl rfl rfl rfl own5 hrow hBz.size (by omega) ?_
          intro a6 d6 w6 hown6 hgrow hat
          have hB6 : Below Wd.heap.size Wd w6 := hBz.grown hgrow hBz.size fun g hg => (own5.lt g hg).1
          have hF6 : FoIn w6 (fun b => A b ∨ p5 < b) (.slice a6 (n4 + 1) d6) (appF (leG R.length own isA ks' (.nd R.length .no .no)) (.nd bq bk .no)) := by
            rw [← hG4]
            refine hT4.more (w5 := wz) (B := Wd.heap.size) HAz.out hB4.size hB45 (HBi.out.1.below hBz) hgrow ?_ (fun g hg => (hat g hg).imp id fun e => by omega) (fun b hb => hb.imp id fun h => h.1) HBi.out.2
            rw [flatT_push, hn4]
            exact hown6
          refine hK.out _ _ (fun _ => (HSd.out _ hB6).1) ?_
          clear hK
          have HM6 : Hid (LfM w #[.int .i64 T, .int .i64 Nn, .slice (some ⟨b0, o0, none⟩) R.length rc, .int .i64 o, .int .i64 Lq, .int .i64 b, .int .i64 c] p5 A q' (.slice ka' m1 kc') bq (.slice ba bl bc) bk w6 ∧ FoIn w6 (fun b => A b ∨ p5 < b) (.slice a6 (n4 + 1) d6) (appF (leG R.length own isA ks' (.nd R.length .no .no)) (.nd bq bk .no))) := ⟨(HSd.out w6 hB6).2, hF6⟩
          have hres := HM6.out.1.res
          have y0 : w6.cell? ⟨w.heap.size + 1 + 1, 0, none⟩ = some (.int .i64 0) := cell_of_blk hres rfl
          have y1 : w6.cell? ⟨w.heap.size + 1 + 1, 1, none⟩ = some (.slice none 0 0) := cell_of_blk hres rfl
          have yf0 : w6.frozen? ⟨w.heap.size + 1 + 1, 0, none⟩ = false := frozen_of_blk hres
          have yf1 : w6.frozen? ⟨w.heap.size + 1 + 1, 1, none⟩ = false := frozen_of_blk hres
          have q0 := res_0 (v0 := .int .i64 (q' : Int)) (v1 := .slice a6 (n4 + 1) d6) hres
          have q1 := res_1 (v0 := .int .i64 (q' : Int)) (v1 := .slice a6 (n4 + 1) d6) hres
          refine TailC.one (i := 10) (by kernel_rfl) ⟨_, rfl, fun K hK => ?_⟩
          go_simp
          refine hK.out _ _ (fun _ => (HSd.out _ hB6).1) ?_
          clear hK hown6 hgrow hat hF6 hT4 hG4 own5 hrow hres
          refine TailC.last (i := 11) (by kernel_rfl) ⟨_, rfl, fun K hK => ?_⟩
          go_simp
          refine hK.out _ _ (fun h => absurd h (by omega)) (NoPanic.normal ?_)
          clear hK
          go_wp2_with fail
          refine bodyPost_ret (v := .agg #[.int .i64 (q' : Int), .slice a6 (n4 + 1) d6]) (by simp [results, Try.results98, go_sem, q0, q1]) rfl ?_
          rw [HFin.out]
          have hlo := HM6.out.1.lo
          refine ⟨_, rfl, HM6.out.2.laid (fun h => ?_) _ _ fun b hb => hb.imp id fun h => by omega, (HM6.out.1.below.setCell (by simp only; omega) _).setCell (by simp only; omega) _⟩
          rcases h with h | h
          · have := HA.out _ h; omega
          · omega
        · have hBy : Below Wd.heap.size Wd (Wd.alloc (.cells #[.int .i64 (bq : Int), .slice ba bl bc] 70)) := (Below.refl _ _).alloc (Nat.le_refl _) _
          go_simp
          refine hK.out _ _ (fun _ => (HSd.out _ hBy).1) ?_
          clear hK
          have hblk := heap_alloc_new Wd (.cells #[.int .i64 (bq : Int), .slice ba bl bc] 70)
          obtain ⟨pz, hpz⟩ : ∃ x, Wd.heap.size = x := ⟨_, rfl⟩
          obtain ⟨wy, hwy⟩ : ∃ V, Wd.alloc (.cells #[.int .i64 (bq : Int), .slice ba bl bc] 70) = V := ⟨_, rfl⟩
          rw [hwy] at hBy hblk ⊢
          rw [hpz] at hblk ⊢
          clear hwy
          have ea := HE2.out wy hBy
          refine TailC.one (i := 6) (by kernel_rfl) ⟨_, rfl, fun K hK => ?_⟩
          go_simp
          refine ea.mono ?_
          rintro e w4 ⟨rv, L', rfl, hT4, hG4, hl4, hB4⟩
          obtain ⟨la, lc, hlv⟩ := own_form hT4.own
          subst hlv
          obtain ⟨n4, hn4⟩ : ∃ n, L'.length = n := ⟨_, rfl⟩
          rw [hn4] at hT4 hl4 ⊢
          dsimp only
          have hBz : Below Wd.heap.size Wd w4 := hBy.trans (hB4.mono hBy.size)
          refine hK.out _ _ (fun _ => (HSd.out w4 hBz).1) ?_
          clear hK ea
          have hrow : RowAt w4 (.slice (some ⟨pz, 0, none⟩) 1 1) 1 [.int .i64 (bq : Int), .slice ba bl bc] := ⟨⟨_, _, rfl, Nat.le_refl _⟩, rfl, by simp [Value.oneCell'], fun _ => ⟨_, _, rfl, World.news_of_block (cs := #[.int .i64 (bq : Int), .slice ba bl bc]) (t := 70) (fr := (0, 0)) ((hB4.block _ (Array.getElem?_eq_some_iff.1 hblk).1).trans hblk)⟩⟩
          have own5 := hT4.own
          rw [hn4] at own5
          refine TailC.one (i := 9) (by kernel_rfl) ⟨_, rfl, fun K hK => ?_⟩
          refine step_append_ccT rfl _ _ rfl rfl rfl rfl own5 hrow hB4.size (by omega) ?_
          intro a6 d6 w6 hown6 hgrow hat
          have hB6 : Below Wd.heap.size Wd w6 := hBz.grown hgrow hBz.size fun g hg => Nat.le_trans hBy.size (own5.lt g hg).1
          have hF6 : FoIn w6 (fun b => A b ∨ p5 < b) (.slice a6 (n4 + 1) d6) (appF (leG R.length own isA ks' (.nd R.length .no .no)) (.nd bq bk .no)) := by
            rw [← hG4]
            refine hT4.more (w5 := w4) (B := wy.heap.size) (fun b hb => Nat.lt_of_lt_of_le (HAz.out b hb) hBy.size) hB4.size (Below.refl _ _) (HBi.out.1.below hBz) hgrow ?_ (fun g hg => (hat g hg).imp id fun e => by omega) (fun b hb => hb.imp id fun h => h.1) (Nat.lt_of_lt_of_le HBi.out.2 hBy.size)
            rw [flatT_push, hn4]
            exact hown6
          refine hK.out _ _ (fun _ => (HSd.out _ hB6).1) ?_
          clear hK
          have HM6 : Hid (LfM w #[.int .i64 T, .int .i64 Nn, .slice (some ⟨b0, o0, none⟩) R.length rc, .int .i64 o, .int .i64 Lq, .int .i64 b, .int .i64 c] p5 A q' (.slice ka' m1 kc') bq (.slice ba bl bc) bk w6 ∧ FoIn w6 (fun b => A b ∨ p5 < b) (.slice a6 (n4 + 1) d6) (appF (leG R.length own isA ks' (.nd R.length .no .no)) (.nd bq bk .no))) := ⟨(HSd.out w6 hB6).2, hF6⟩
          have hres := HM6.out.1.res
          have y0 : w6.cell? ⟨w.heap.size + 1 + 1, 0, none⟩ = some (.int .i64 0) := cell_of_blk hres rfl
          have y1 : w6.cell? ⟨w.heap.size + 1 + 1, 1, none⟩ = some (.slice none 0 0) := cell_of_blk hres rfl
          have yf0 : w6.frozen? ⟨w.heap.size + 1 + 1, 0, none⟩ = false := frozen_of_blk hres
          have yf1 : w6.frozen? ⟨w.heap.size + 1 + 1, 1, none⟩ = false := frozen_of_blk hres
          have q0 := res_0 (v0 := .int .i64 (q' : Int)) (v1 := .slice a6 (n4 + 1) d6) hres
          have q1 := res_1 (v0 := .int .i64 (q' : Int)) (v1 := .slice a6 (n4 + 1) d6) hres
          refine TailC.one (i := 10) (by kernel_rfl) ⟨_, rfl, fun K hK => ?_⟩
          go_simp
          refine hK.out _ _ (fun _ => (HSd.out _ hB6).1) ?_
          clear hK hown6 hgrow hat hF6 hT4 hG4 own5 hrow hres
          refine TailC.last (i := 11) (by kernel_rfl) ⟨_, rfl, fun K hK => ?_⟩
          go_simp
          refine hK.out _ _ (fun h => absurd h (by omega)) (NoPanic.normal ?_)
          clear hK
          go_wp2_with fail
          refine bodyPost_ret (v := .agg #[.int .i64 (q' : Int), .slice a6 (n4 + 1) d6]) (by simp [results, Try.results98, go_sem, q0, q1]) rfl ?_
          rw [HFin.out]
          have hlo := HM6.out.1.lo
          refine ⟨_, rfl, HM6.out.2.laid (fun h => ?_) _ _ fun b hb => hb.imp id fun h => by omega, (HM6.out.1.below.setCell (by simp only; omega) _).setCell (by simp only; omega) _⟩
          rcases h with h | h
          · have := HA.out _ h; omega
          · omega
  · have hne : (Lq == a) = false := by simpa using hqa
    have hisA : isA q = false := by
      cases hi : isA q with
      | false => rfl
      | true => exact absurd (hLq.symm.trans ((hL.ofA q h1).1 hi)) hqa
    have how : own q = false := by
      cases ho : own q with
      | false => rfl
      | true => exact absurd (hLq.symm.trans (hL.own1 q h1 ho).1) hqa
    have hG : leF R.length own isA q ks = (q, leG R.length own isA ks (.nd R.length .no .no)) := leF_of (by rw [leG, if_neg (by rw [how]; simp), if_neg (by rw [hisA]; simp)]; rfl)
    rw [hG]
    clear hG how hisA hqa hLq h1
    go_enter Try.func98, Try.ntmps98
    go_upto_region 1 with fail
    go_big_quiet (fail)
    go_upto_region 2 with fail
    obtain ⟨V0, hV0⟩ : ∃ V, W.drewN nq = V := ⟨_, rfl⟩
    have hB0 : Below W.heap.size W V0 := by rw [← hV0]; exact below_drewN (Below.refl _ _) _
    rw [hV0]
    clear hV0
    obtain ⟨Wd, hWd⟩ : ∃ V, V0.drew = V := ⟨_, rfl⟩
    have hBd : Below W.heap.size W Wd := by rw [← hWd]; exact hB0.drew
    have S0 := (HS.out Wd hBd).1
    have hww : Below w.heap.size w Wd := HM.out.1.trans (hBd.mono HM.out.1.size)
    have ea := HEa.out Wd A (.slice ka1 n1 kc) ks hww (HK.out.1.below hww) (fun b hb => Nat.lt_of_lt_of_le (HA.out b hb) hww.size) (Nat.le_refl _) ⟨_, HQ.out⟩
    have HBd : Hid (Below W.heap.size W Wd) := hBd
    clear hBd hB0 hww x0 x1 x2 x3 x4 x5 x6 x7 x8 hW k1 HEa
    refine wp_region_mix [0, 1, 2, 3, 4, 5] 3 8 (LefS w.heap.size T Nn o a b c (some ⟨b0, o0, none⟩) R.length rc q (.slice ka1 n1 kc)) (by kernel_rfl) (by kernel_rfl) (by rw [hWd]; exact S0) ?_
    rw [hWd]
    clear hWd S0
    iterate 6
      refine StillI.con8 (v := ?_) rfl (by rfl) ?_ ?_
      rotate_left
      · intro w' hSw
        obtain ⟨z0, z1, z2, z3, z4, z5, z6, z7, z8⟩ := hSw
        go_simp
        try with_reducible rfl
      simp only [Act.put, List.setIfInBounds_toArray, List.set_cons_zero, List.set_cons_succ]
    rw [StillI]
    refine TailC.one (i := 6) (by kernel_rfl) ⟨_, rfl, fun K hK => ?_⟩
    go_simp
    refine ea.mono ?_
    rintro e w3 ⟨rv, L', rfl, hT3, hG3, hB3⟩
    obtain ⟨la, lc, hlv⟩ := own_form hT3.own
    subst hlv
    obtain ⟨n3, hn3⟩ : ∃ n, L'.length = n := ⟨_, rfl⟩
    rw [hn3] at hT3 ⊢
    dsimp only
    have hW3 : Below W.heap.size W w3 := HBd.out.trans (hB3.mono HBd.out.size)
    refine hK.out _ _ (fun _ => (HS.out w3 hW3).1) ?_
    clear hK ea
    have hres := (HS.out w3 hW3).2
    have y0 : w3.cell? ⟨w.heap.size + 1 + 1, 0, none⟩ = some (.int .i64 0) := cell_of_blk hres rfl
    have y1 : w3.cell? ⟨w.heap.size + 1 + 1, 1, none⟩ = some (.slice none 0 0) := cell_of_blk hres rfl
    have yf0 : w3.frozen? ⟨w.heap.size + 1 + 1, 0, none⟩ = false := frozen_of_blk hres
    have yf1 : w3.frozen? ⟨w.heap.size + 1 + 1, 1, none⟩ = false := frozen_of_blk hres
    have q0 := res_0 (v0 := .int .i64 (q : Int)) (v1 := .slice la n3 lc) hres
    have q1 := res_1 (v0 := .int .i64 (q : Int)) (v1 := .slice la n3 lc) hres
    refine TailC.one (i := 7) (by kernel_rfl) ⟨_, rfl, fun K hK => ?_⟩
    go_simp
    refine hK.out _ _ (fun _ => (HS.out w3 hW3).1) ?_
    clear hK
    have HT : Hid (FoIn w3 (fun b => A b ∨ W.heap.size ≤ b) (.slice la n3 lc) (leG R.length own isA ks (.nd R.length .no .no)) ∧ Below W.heap.size W w3) := by
      refine ⟨?_, hW3⟩
      have h1 := hT3.trIn.fo
      rw [hG3] at h1
      exact h1.kept fun x hx _ => ⟨rfl, hx.imp id fun h => Nat.le_trans HBd.out.size h⟩
    clear hT3 hG3 hB3 hn3 hres hW3
    refine TailC.last (i := 8) (by kernel_rfl) ⟨_, rfl, fun K hK => ?_⟩
    go_simp
    refine hK.out _ _ (fun h => absurd h (by omega)) (NoPanic.normal ?_)
    clear hK
    go_wp2_with fail
    refine bodyPost_ret (v := .agg #[.int .i64 (q : Int), .slice la n3 lc]) (by simp [results, Try.results98, go_sem, q0, q1]) rfl ?_
    have hz := HM.out.2.1
    exact ⟨_, rfl, HT.out.1.laidR HA.out hz _ _, ((HM.out.1.trans (HT.out.2.mono HM.out.1.size)).setCell (by simp; omega) _).setCell (by simp; omega) _⟩
end

end Go.Proofs.Ytikjekfpgklbdaa
