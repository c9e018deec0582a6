import Derived.Test.YtikjekfpgklbdaaConcRAndDerdMath
import Derived.Test.YtikjekfpgklbdaaStepTreeAndStSmall
import Derived.Test.YtikjekfpgklbdaaMay8AndOne8Mem
/- Rules in memory of their own, each one's symbols in a block of theirs; the contract of package step's copies. -/
namespace Go.Proofs.Ytikjekfpgklbdaa
open Go.RowKit

/-- The rows: that of the rules, and the symbols of each. -/
def rlP (lv : Value) (RL : List (Value × Ru)) : Option Nat → Option Row
  | none => some ⟨lv, 44, 2, RL.length, flatR RL⟩
  | some k => (RL[k]?).map fun x => ⟨x.1, 52, 2, x.2.2.length, flatY x.2.2⟩

section
variable {w w5 w6 : World} {B : Nat} {lv nv v : Value} {RL : List (Value × Ru)} {L : Int} {l : List Sy}

theorem rlP_some {k : Nat} {a : Row} (h : rlP lv RL (some k) = some a) : ∃ hk : k < RL.length, a = ⟨RL[k].1, 52, 2, RL[k].2.2.length, flatY RL[k].2.2⟩ := by
  change (RL[k]?).map (fun x => (⟨x.1, 52, 2, x.2.2.length, flatY x.2.2⟩ : Row)) = some a at h
  by_cases hk : k < RL.length
  · rw [List.getElem?_eq_getElem hk] at h
    simp only [Option.map_some, Option.some.injEq] at h
    exact ⟨hk, h.symm⟩
  · rw [List.getElem?_eq_none (by omega)] at h
    simp at h
theorem rlP_at {k : Nat} (hk : k < RL.length) : rlP lv RL (some k) = some ⟨RL[k].1, 52, 2, RL[k].2.2.length, flatY RL[k].2.2⟩ := by
  change (RL[k]?).map (fun x => (⟨x.1, 52, 2, x.2.2.length, flatY x.2.2⟩ : Row)) = _
  rw [List.getElem?_eq_getElem hk]
  rfl
theorem rl_nil (w : World) (B : Nat) : Owns w B (rlP (.slice none 0 0) []) := by
  refine ⟨fun i r hr => ?_, fun i j a b hij ha hb g h1 h2 => ?_⟩
  · cases i with
    | none => cases hr; exact World.ownsRow_nil _ _ _ _
    | some k => obtain ⟨hk, _⟩ := rlP_some hr; simp at hk
  · cases i with
    | none => cases ha; cases h1
    | some k => obtain ⟨hk, _⟩ := rlP_some ha; simp at hk
theorem Owns.rlOwn (h : Owns w B (rlP lv RL)) : w.ownsRow B 44 2 lv RL.length (flatR RL) := h.own none _ rfl
theorem Owns.rlSym (h : Owns w B (rlP lv RL)) {k : Nat} (hk : k < RL.length) : w.ownsRow B 52 2 RL[k].1 RL[k].2.2.length (flatY RL[k].2.2) := h.own (some k) _ (rlP_at hk)
/-- One rule more. -/
theorem Owns.rlPush (h : Owns w B (rlP lv RL)) (hB : B ≤ w.heap.size) (hb : Below w.heap.size w w5) (ho : w5.ownsRow w.heap.size 52 2 v l.length (flatY l)) (hg : w5.grownBy w6 lv.ownBlock) (hn : w6.ownsRow B 44 2 nv (RL.length + 1) (flatR (RL ++ [(v, (L, l))]))) (hat : ∀ g, nv.ownBlock = some g → lv.ownBlock = some g ∨ w5.heap.size ≤ g) : Owns w6 B (rlP nv (RL ++ [(v, (L, l))])) := by
  have hs5 := hb.size
  have hlv : ∀ g, lv.ownBlock = some g → g < w.heap.size := fun g hg => (h.rlOwn.lt g hg).2
  have old : ∀ k (hk : k < RL.length), w6.ownsRow B 52 2 RL[k].1 RL[k].2.2.length (flatY RL[k].2.2) := fun k hk => by
    refine (own_below (h.rlSym hk) hb fun g hg => (((h.rlSym hk).lt g hg).2)).kept hg ?_
    cases e : RL[k].1.ownBlock with
    | none => exact .inl rfl
    | some g => exact .inr fun e' => h.apart (some k) none _ _ (by simp) (rlP_at hk) rfl g e e'.symm
  have new : w6.ownsRow w.heap.size 52 2 v l.length (flatY l) := by
    refine ho.kept hg ?_
    cases e : v.ownBlock with
    | none => exact .inl rfl
    | some g => exact .inr fun e' => by have := hlv g e'.symm; have := (ho.lt g e).1; omega
  have cases' : ∀ {k : Nat} {a : Row}, rlP nv (RL ++ [(v, (L, l))]) (some k) = some a → (∃ hk : k < RL.length, a = ⟨RL[k].1, 52, 2, RL[k].2.2.length, flatY RL[k].2.2⟩) ∨ (k = RL.length ∧ a = ⟨v, 52, 2, l.length, flatY l⟩) := fun {k a} hr => by
    obtain ⟨hk, e⟩ := rlP_some hr
    rcases Nat.lt_or_ge k RL.length with hlt | hge
    · refine .inl ⟨hlt, ?_⟩
      simp only [List.getElem_append_left hlt] at e
      exact e
    · have : k = RL.length := by simp at hk; omega
      subst this
      refine .inr ⟨rfl, ?_⟩
      simpa using e
  have noneSome : ∀ {k : Nat} {a : Row}, rlP nv (RL ++ [(v, (L, l))]) (some k) = some a → ∀ g, a.v.ownBlock = some g → nv.ownBlock = some g → False := fun {k a} ha g h1 h2 => by
    rcases cases' ha with ⟨hk, rfl⟩ | ⟨_, rfl⟩
    · have hlt := ((h.rlSym hk).lt g h1).2
      rcases hat g h2 with e | e
      · exact h.apart (some k) none _ _ (by simp) (rlP_at hk) rfl g h1 e
      · omega
    · have hl1 := (ho.lt g h1)
      rcases hat g h2 with e | e
      · have := hlv g e; omega
      · omega
  refine ⟨fun i r hr => ?_, fun i j a b hij ha hb' g h1 h2 => ?_⟩
  · cases i with
    | none =>
      cases hr
      simp only [List.length_append, List.length_singleton]
      exact hn
    | some k =>
      rcases cases' hr with ⟨hk, rfl⟩ | ⟨_, rfl⟩
      · exact old k hk
      · exact own_mono new hB
  · cases i with
    | none =>
      cases j with
      | none => exact hij rfl
      | some k => cases ha; exact noneSome hb' g h2 h1
    | some k =>
      cases j with
      | none => cases hb'; exact noneSome ha g h1 h2
      | some k' =>
        rcases cases' ha with ⟨hk, rfl⟩ | ⟨e1, rfl⟩
        · rcases cases' hb' with ⟨hk', rfl⟩ | ⟨_, rfl⟩
          · exact h.apart (some k) (some k') _ _ hij (rlP_at hk) (rlP_at hk') g h1 h2
          · have := ((h.rlSym hk).lt g h1).2
            have := (ho.lt g h2).1
            omega
        · rcases cases' hb' with ⟨hk', rfl⟩ | ⟨e2, rfl⟩
          · have := ((h.rlSym hk').lt g h2).2
            have := (ho.lt g h1).1
            omega
          · exact hij (by rw [e1, e2])
/-- They are rules that a call has made. -/
theorem Owns.rlIn (h : Owns w B (rlP lv RL)) : RlIn w B lv RL := by
  refine ⟨h.rlOwn, fun x hx => ?_⟩
  obtain ⟨k, hk, rfl⟩ := List.getElem_of_mem hx
  refine (own_syIn (h.rlSym hk)).kept (Nat.le_refl _) fun b hA _ => ⟨rfl, hA.2, fun e => ?_⟩
  exact h.apart (some k) none _ _ (by simp) (rlP_at hk) rfl b hA.1 e
end

theorem flatR_push (RL : List (Value × Ru)) (v : Value) (L : Int) (l : List Sy) : flatR (RL ++ [(v, (L, l))]) = flatR RL ++ [.int .i64 L, v] := by rw [flatR_append]; rfl
/-- A new rule, as a row of one. -/
theorem rule_row {w : World} {L : Int} {va : Option Addr} {n d : Nat} : RowAt (w.alloc (.cells #[.int .i64 L, .slice va n d] 44)) (.slice (some ⟨w.heap.size, 0, none⟩) 1 1) 1 [.int .i64 L, .slice va n d] :=
  ⟨⟨_, _, rfl, Nat.le_refl _⟩, rfl, by simp [Value.oneCell'], fun _ => ⟨_, _, rfl, World.news_of_block (cs := #[.int .i64 L, .slice va n d]) (t := 44) (fr := (0, 0)) (heap_alloc_new w _)⟩⟩

set_option maxRecDepth 100000 in
set_option maxHeartbeats 6400000 in
theorem st_copies {w : World} {T N : Int} {ra : Option Addr} {rc : Nat} {op a b c : Int} {R : List Ru} (hr : RulesAt w w.heap.size (.slice ra R.length rc) R) (hl : R.length ≤ 1000) (hl2 : ∀ q, q < R.length → (R.getD q (0, [])).2.length ≤ 1000) :
    Calls Try.prog 76 #[.agg #[.int .i64 T, .int .i64 N, .slice ra R.length rc, .int .i64 op, .int .i64 a, .int .i64 b, .int .i64 c]] w fun e w' => ∃ lv RL, e = .returned lv ∧ Owns w' w.heap.size (rlP lv RL) ∧ (RL.map fun x => x.2) = R ∧ Below w.heap.size w w' := by
  have HR : Hid (RulesAt w w.heap.size (.slice ra R.length rc) R) := hr
  have H2 : Hid (∀ q, q < R.length → (R.getD q (0, [])).2.length ≤ 1000) := hl2
  clear hr hl2
  have hB1 : Below w.heap.size w (w.alloc (.cells #[.int .i64 T, .int .i64 N, .slice ra R.length rc, .int .i64 op, .int .i64 a, .int .i64 b, .int .i64 c] 66)) := (Below.refl _ _).alloc (Nat.le_refl _) _
  have HB1 : Hid (Below w.heap.size w (w.alloc (.cells #[.int .i64 T, .int .i64 N, .slice ra R.length rc, .int .i64 op, .int .i64 a, .int .i64 b, .int .i64 c] 66))) := hB1
  clear hB1
  go_enter Try.func76, Try.ntmps76
  go_wp2_with fail
  go_loopw [3, 10] (fun s3 s10 wr => ∃ (k : Nat) (lv : Value) (RL : List (Value × Ru)), lv = s3 ∧ s10 = .int .i64 k ∧ k ≤ R.length ∧ RL.length = k ∧ (RL.map fun x => x.2) = R.take k ∧ Owns wr w.heap.size (rlP lv RL) ∧ Below w.heap.size w wr) (fun _ s _ => R.length - (intOf s).toNat)
  case atStart => exact ⟨0, _, [], rfl, rfl, Nat.zero_le _, rfl, rfl, rl_nil _ _, HB1.out⟩
  case round =>
    obtain ⟨k, lv, RL, rfl, rfl, hk, hlen, hmap, hO, hB⟩ := hrel
    have HB : Hid (Below w.heap.size w wr) := hB
    have HO : Hid (Owns wr w.heap.size (rlP lv RL)) := hO
    have HM : Hid ((RL.map fun x => x.2) = R.take k ∧ RL.length = k) := ⟨hmap, hlen⟩
    by_cases hlt : k < R.length
    · obtain ⟨b0, o0, rc0, qa, qc, hv, _, k1, k2, hsy⟩ := (HR.out.below hB).syms hlt
      cases hv
      have hn8 := H2.out k hlt
      obtain ⟨⟨L, l⟩, hx⟩ : ∃ x, R.getD k (0, []) = x := ⟨_, rfl⟩
      rw [hx] at k1 k2 hsy hn8
      simp only at k1 k2 hsy hn8
      obtain ⟨n, hn⟩ : ∃ n, l.length = n := ⟨_, rfl⟩
      rw [hn] at k2 hsy hn8
      have HX : Hid (R.take (k + 1) = R.take k ++ [(L, l)] ∧ l.length = n) := by
        refine ⟨?_, hn⟩
        rw [List.take_succ_eq_append_getElem hlt]
        congr 2
        rw [← hx]
        simp [List.getD, hlt]
      obtain ⟨W1, hW1⟩ : ∃ W, wr.alloc (.cells #[.int .i64 L, .slice qa n qc] 44) = W := ⟨_, rfl⟩
      have hB2 : Below wr.heap.size wr W1 := by rw [← hW1]; exact (Below.refl _ _).alloc (Nat.le_refl _) _
      have HB2 : Hid (Below wr.heap.size wr W1) := hB2
      have d0 : W1.cell? ⟨wr.heap.size, 0, none⟩ = some (.int .i64 L) := by rw [← hW1]; simp [go_sem]
      have d1 : W1.cell? ⟨wr.heap.size, 1, none⟩ = some (.slice qa n qc) := by rw [← hW1]; simp [go_sem]
      have cop := st_copied (w := W1) (L := L) (lv := .slice qa n qc) (l := l) (hsy.same (same_below hB2)) (by omega)
      rw [hn] at cop
      have i0 : (0 : Int) ≤ (k : Int) := Int.natCast_nonneg _
      have i1 : (k : Int) < (R.length : Int) := by omega
      clear hB hO hmap hx hn hsy hB2 hlen
      go_wp2_with
        (first
         | (go_at_call 79; refine cop.mono ?_; rintro e w3 ⟨ga, d, rfl, hown, hB3⟩
            have hrow : RowAt (w3.alloc (.cells #[.int .i64 L, .slice ga n d] 44)) (.slice (some ⟨w3.heap.size, 0, none⟩) 1 1) 1 [.int .i64 L, .slice ga n d] := rule_row
            have hB4 : Below wr.heap.size wr (w3.alloc (.cells #[.int .i64 L, .slice ga n d] 44)) := (HB2.out.trans (hB3.mono HB2.out.size)).alloc (Nat.le_trans HB2.out.size hB3.size) _
            have own4 := own_below HO.out.rlOwn hB4 fun g hg => (HO.out.rlOwn.lt g hg).2
            have hb4 : w.heap.size ≤ (w3.alloc (.cells #[.int .i64 L, .slice ga n d] 44)).heap.size := Nat.le_trans HB.out.size hB4.size
            have hlen4 : RL.length + 1 ≤ 100000 := by rw [HM.out.2]; omega
            clear cop)
         | (at_builtin
            refine wpList_append_ccR rfl _ _ rfl rfl rfl rfl own4 hrow hb4 hlen4 ?_
            intro a' d' w6 hown6 hgrow hat))
      go_roundw
      case rel =>
        refine ⟨k + 1, _, RL ++ [(.slice ga n d, (L, l))], rfl, by go_num, by omega, by rw [List.length_append, HM.out.2]; rfl, by rw [List.map_append, HM.out.1, HX.out.1]; rfl, ?_, ?_⟩
        · refine HO.out.rlPush (w5 := w3.alloc (.cells #[.int .i64 L, .slice ga n d] 44)) HB.out.size hB4 ?_ hgrow ?_ (fun g hg => (hat g hg).imp id fun e => by omega)
          · rw [HX.out.2]
            exact own_mono (hown.alloc _) HB2.out.size
          · rw [flatR_push]
            exact hown6
        · exact (HB.out.trans (hB4.mono HB.out.size)).grown hgrow hb4 fun g hg => (own4.lt g hg).1
      case measure => simp [intOf]; omega
    · have hkk : k = R.length := by omega
      clear hB hO hmap hlen
      go_wp2_with fail
      go_ret
      exact ⟨_, RL, rfl, HO.out, by rw [HM.out.1, hkk, List.take_length], HB.out⟩

end Go.Proofs.Ytikjekfpgklbdaa

/- The contract of package step's (prune).outcome. -/
namespace Go.Proofs.Ytikjekfpgklbdaa
open Go.RowKit

section
variable {w : World} {b : Nat} {u0 u1 u2 v0 v1 v2 : Value}
theorem box3_0 (h0 : w.cell? ⟨b, 0, none⟩ = some u0) : (((w.setCell ⟨b, 0, none⟩ v0).setCell ⟨b, 1, none⟩ v1).setCell ⟨b, 2, none⟩ v2).cell? ⟨b, 0, none⟩ = some v0 := by
  rw [cell_set_other (.inr (by simp)), cell_set_other (.inr (by simp))]; exact World.cell?_setCell_same _ _ _ h0
theorem box3_1 (h1 : w.cell? ⟨b, 1, none⟩ = some u1) : (((w.setCell ⟨b, 0, none⟩ v0).setCell ⟨b, 1, none⟩ v1).setCell ⟨b, 2, none⟩ v2).cell? ⟨b, 1, none⟩ = some v1 := by
  rw [cell_set_other (.inr (by simp))]; exact World.cell?_setCell_same _ _ _ ((cell_set_other (.inr (by simp))).trans h1)
theorem box3_2 (h2 : w.cell? ⟨b, 2, none⟩ = some u2) : (((w.setCell ⟨b, 0, none⟩ v0).setCell ⟨b, 1, none⟩ v1).setCell ⟨b, 2, none⟩ v2).cell? ⟨b, 2, none⟩ = some v2 :=
  World.cell?_setCell_same _ _ _ ((cell_set_other (.inr (by simp))).trans ((cell_set_other (.inr (by simp))).trans h2))
theorem RlIn.setLow {B : Nat} {lv : Value} {RL : List (Value × Ru)} (h : RlIn w B lv RL) {a : Addr} (ha : a.block < B) (u : Value) : RlIn (w.setCell a u) B lv RL :=
  ⟨own_setLow h.own ha u, fun x hx => (h.sym x hx).kept (by simp) fun b hA _ => ⟨Below.heap_setCell _ _ _ _ (by have := hA.1; omega), hA⟩⟩
end

set_option maxRecDepth 100000 in
set_option maxHeartbeats 6400000 in
theorem st_outP {w : World} {T N : Int} {ra : Option Addr} {rc : Nat} {op a b c : Int} {R : List Ru} {sv : Value} {IX : List Int} (hr : RulesAt w w.heap.size (.slice ra R.length rc) R) (hl2 : ∀ q, q < R.length → (R.getD q (0, [])).2.length ≤ 1000) (hS : ListAt w w.heap.size sv IX) (hIX : ∀ k, k < IX.length → 0 ≤ IX.getD k 0 ∧ IX.getD k 0 < (R.length : Int)) (hl : IX.length ≤ 1000) :
    Calls Try.prog 103 #[.agg #[.int .i64 T, .int .i64 N, .slice ra R.length rc, .int .i64 op, .int .i64 a, .int .i64 b, .int .i64 c, sv]] w fun e w' => ∃ lv RL, e = .returned (.agg #[.int .i64 T, .int .i64 N, lv]) ∧ RlIn w' w.heap.size lv RL ∧ (RL.map fun x => x.2) = IX.map (fun i => R.getD i.toNat (0, [])) ∧ Below w.heap.size w w' := by
  obtain ⟨sa, sc, hsv⟩ := hS.1
  subst hsv
  have HR : Hid (RulesAt w w.heap.size (.slice ra R.length rc) R) := hr
  have H2 : Hid (∀ q, q < R.length → (R.getD q (0, [])).2.length ≤ 1000) := hl2
  have HS : Hid (ListAt w w.heap.size (.slice sa IX.length sc) IX) := hS
  have HI : Hid (∀ k, k < IX.length → 0 ≤ IX.getD k 0 ∧ IX.getD k 0 < (R.length : Int)) := hIX
  clear hr hl2 hS hIX
  obtain ⟨W0, hW0⟩ : ∃ W, (w.alloc (.cells #[.int .i64 T, .int .i64 N, .slice ra R.length rc, .int .i64 op, .int .i64 a, .int .i64 b, .int .i64 c, .slice sa IX.length sc] 95)).alloc (.cells #[.int .i64 0, .int .i64 0, .slice none 0 0] 24) = W := ⟨_, rfl⟩
  have HB0 : Hid (Below w.heap.size w W0 ∧ W0.heap.size = w.heap.size + 2) := by
    refine ⟨?_, ?_⟩
    · rw [← hW0]; exact ((Below.refl _ _).alloc (Nat.le_refl _) _).alloc (by simp) _
    · rw [← hW0]; simp
  have HC : Hid (∀ wq, Below W0.heap.size W0 wq → wq.cell? ⟨w.heap.size, 0, none⟩ = some (.int .i64 T) ∧ wq.cell? ⟨w.heap.size, 1, none⟩ = some (.int .i64 N) ∧ wq.cell? ⟨w.heap.size, 2, none⟩ = some (.slice ra R.length rc) ∧ wq.cell? ⟨w.heap.size, 3, none⟩ = some (.int .i64 op) ∧ wq.cell? ⟨w.heap.size, 4, none⟩ = some (.int .i64 a) ∧ wq.cell? ⟨w.heap.size, 5, none⟩ = some (.int .i64 b) ∧ wq.cell? ⟨w.heap.size, 6, none⟩ = some (.int .i64 c) ∧ wq.cell? ⟨w.heap.size, 7, none⟩ = some (.slice sa IX.length sc) ∧
      wq.cell? ⟨w.heap.size + 1, 0, none⟩ = some (.int .i64 0) ∧ wq.cell? ⟨w.heap.size + 1, 1, none⟩ = some (.int .i64 0) ∧ wq.cell? ⟨w.heap.size + 1, 2, none⟩ = some (.slice none 0 0) ∧ (∀ o, wq.frozen? ⟨w.heap.size + 1, o, none⟩ = false) ∧ RulesAt wq w.heap.size (.slice ra R.length rc) R ∧ ListAt wq w.heap.size (.slice sa IX.length sc) IX ∧ Below w.heap.size w wq) := fun wq hq => by
    have hz := HB0.out.2
    have hB : Below w.heap.size w wq := HB0.out.1.trans (hq.mono (by omega))
    have cell : ∀ b o u, b < W0.heap.size → W0.cell? ⟨b, o, none⟩ = some u → wq.cell? ⟨b, o, none⟩ = some u := fun b o u hb hu => (hq.cell hb).trans hu
    refine ⟨cell _ _ _ (by omega) ?_, cell _ _ _ (by omega) ?_, cell _ _ _ (by omega) ?_, cell _ _ _ (by omega) ?_, cell _ _ _ (by omega) ?_, cell _ _ _ (by omega) ?_, cell _ _ _ (by omega) ?_, cell _ _ _ (by omega) ?_, cell _ _ _ (by omega) ?_, cell _ _ _ (by omega) ?_, cell _ _ _ (by omega) ?_, fun o => (hq.frozen (by simp only; omega)).trans ?_, HR.out.below hB, HS.out.below hB, hB⟩ <;> (rw [← hW0]; simp [go_sem])
  have x7 := (HC.out W0 (Below.refl _ _)).2.2.2.2.2.2.2.1
  go_enter Try.func103, Try.ntmps103
  go_wp2_with fail
  clear hW0 x7
  go_loopw [3, 9] (fun s3 s9 wr => ∃ (k : Nat) (lv : Value) (RL : List (Value × Ru)), lv = s3 ∧ s9 = .int .i64 k ∧ k ≤ IX.length ∧ RL.length = k ∧ (RL.map fun x => x.2) = (IX.take k).map (fun i => R.getD i.toNat (0, [])) ∧ Owns wr W0.heap.size (rlP lv RL) ∧ Below W0.heap.size W0 wr) (fun _ s _ => IX.length - (intOf s).toNat)
  case atStart => exact ⟨0, _, [], rfl, rfl, Nat.zero_le _, rfl, rfl, rl_nil _ _, Below.refl _ _⟩
  case round =>
    obtain ⟨k, lv, RL, rfl, rfl, hk, hlen, hmap, hO, hB⟩ := hrel
    have HB : Hid (Below W0.heap.size W0 wr) := hB
    have HO : Hid (Owns wr W0.heap.size (rlP lv RL)) := hO
    have HM : Hid ((RL.map fun x => x.2) = (IX.take k).map (fun i => R.getD i.toNat (0, [])) ∧ RL.length = k) := ⟨hmap, hlen⟩
    have hC := HC.out wr hB
    by_cases hlt : k < IX.length
    · obtain ⟨sb, so, _, hv, _, s1⟩ := hC.2.2.2.2.2.2.2.2.2.2.2.2.2.1.2 k hlt
      cases hv
      obtain ⟨hi0, hi1⟩ := HI.out k hlt
      obtain ⟨i, hi⟩ : ∃ i, IX.getD k 0 = i := ⟨_, rfl⟩
      rw [hi] at hi0 hi1 s1
      obtain ⟨q, rfl⟩ : ∃ q : Nat, i = q := ⟨i.toNat, by omega⟩
      have hq : q < R.length := by omega
      obtain ⟨b0, o0, rc0, qa, qc, hv, _, k1, k2, hsy⟩ := hC.2.2.2.2.2.2.2.2.2.2.2.2.1.syms hq
      cases hv
      have hn8 := H2.out q hq
      obtain ⟨⟨L, l⟩, hx⟩ : ∃ x, R.getD q (0, []) = x := ⟨_, rfl⟩
      rw [hx] at k1 k2 hsy hn8
      simp only at k1 k2 hsy hn8
      obtain ⟨n, hn⟩ : ∃ n, l.length = n := ⟨_, rfl⟩
      rw [hn] at k2 hsy hn8
      have HX : Hid ((IX.take (k + 1)).map (fun i => R.getD i.toNat (0, [])) = (IX.take k).map (fun i => R.getD i.toNat (0, [])) ++ [(L, l)] ∧ l.length = n) := by
        refine ⟨?_, hn⟩
        rw [List.take_succ_eq_append_getElem hlt, List.map_append]
        have e : IX[k] = (q : Int) := by rw [← hi]; simp [List.getD, hlt]
        rw [e, List.map_cons, List.map_nil, Int.toNat_natCast, hx]
      have x2 := hC.2.2.1
      have cop := st_copied (w := wr) (L := L) (lv := .slice qa n qc) (l := l) hsy (by omega)
      rw [hn] at cop
      have i0 : (0 : Int) ≤ (k : Int) := Int.natCast_nonneg _
      have i1 : (k : Int) < (IX.length : Int) := by omega
      clear hB hO hmap hx hn hsy hlen hC hi
      go_wp2_with
        (first
         | (go_at_call 79; refine cop.mono ?_; rintro e w3 ⟨ga, d, rfl, hown, hB3⟩
            have hrow : RowAt (w3.alloc (.cells #[.int .i64 L, .slice ga n d] 44)) (.slice (some ⟨w3.heap.size, 0, none⟩) 1 1) 1 [.int .i64 L, .slice ga n d] := rule_row
            have hB4 : Below wr.heap.size wr (w3.alloc (.cells #[.int .i64 L, .slice ga n d] 44)) := hB3.alloc hB3.size _
            have own4 := own_below HO.out.rlOwn hB4 fun g hg => (HO.out.rlOwn.lt g hg).2
            have hb4 : W0.heap.size ≤ (w3.alloc (.cells #[.int .i64 L, .slice ga n d] 44)).heap.size := Nat.le_trans HB.out.size hB4.size
            have hlen4 : RL.length + 1 ≤ 100000 := by rw [HM.out.2]; omega
            clear cop)
         | (at_builtin
            refine wpList_append_ccR rfl _ _ rfl rfl rfl rfl own4 hrow hb4 hlen4 ?_
            intro a' d' w6 hown6 hgrow hat))
      go_roundw
      case rel =>
        refine ⟨k + 1, _, RL ++ [(.slice ga n d, (L, l))], rfl, by go_num, by omega, by rw [List.length_append, HM.out.2]; rfl, by rw [List.map_append, HM.out.1, HX.out.1]; rfl, ?_, ?_⟩
        · refine HO.out.rlPush (w5 := w3.alloc (.cells #[.int .i64 L, .slice ga n d] 44)) HB.out.size hB4 ?_ hgrow ?_ (fun g hg => (hat g hg).imp id fun e => by omega)
          · rw [HX.out.2]
            exact hown.alloc _
          · rw [flatR_push]
            exact hown6
        · exact (HB.out.trans (hB4.mono HB.out.size)).grown hgrow hb4 fun g hg => (own4.lt g hg).1
      case measure => simp [intOf]; omega
    · have hkk : k = IX.length := by omega
      obtain ⟨la, lc, hlv⟩ := own_form hO.rlOwn
      subst hlv
      obtain ⟨x0, x1, x2, x3, x4, x5, x6, x7, _, _, _, _⟩ := hC
      have wi := st_with (w := wr) (T := T) (N := N) (ra := ra) (rn := R.length) (rc := rc) (op := op) (a := a) (b := b) (c := c) (M := N) (oa := la) (on := RL.length) (oc := lc)
      clear hB hO hmap hlen
      go_wp2_with
        (go_at_call 78; refine wi.mono ?_; rintro e w3 ⟨rfl, hB3⟩
         have HB3 : Hid (Below W0.heap.size W0 w3) := HB.out.trans (hB3.mono HB.out.size)
         have HR3 : Hid (RlIn w3 W0.heap.size (.slice la RL.length lc) RL) := HO.out.rlIn.below hB3
         have y0 := (HC.out w3 HB3.out).2.2.2.2.2.2.2.2.1
         have y1 := (HC.out w3 HB3.out).2.2.2.2.2.2.2.2.2.1
         have y2 := (HC.out w3 HB3.out).2.2.2.2.2.2.2.2.2.2.1
         have yf0 := (HC.out w3 HB3.out).2.2.2.2.2.2.2.2.2.2.2.1 0
         have yf1 := (HC.out w3 HB3.out).2.2.2.2.2.2.2.2.2.2.2.1 1
         have yf2 := (HC.out w3 HB3.out).2.2.2.2.2.2.2.2.2.2.2.1 2
         clear wi hB3)
      have q0 := box3_0 (v0 := .int .i64 T) (v1 := .int .i64 N) (v2 := .slice la RL.length lc) y0
      have q1 := box3_1 (v0 := .int .i64 T) (v1 := .int .i64 N) (v2 := .slice la RL.length lc) y1
      have q2 := box3_2 (v0 := .int .i64 T) (v1 := .int .i64 N) (v2 := .slice la RL.length lc) y2
      refine bodyPost_ret (v := .agg #[.int .i64 T, .int .i64 N, .slice la RL.length lc]) (by simp [results, Try.results103, go_sem, q0, q1, q2]) rfl ?_
      have hz := HB0.out.2
      refine ⟨_, RL, rfl, (((HR3.out.setLow (by simp only; omega) _).setLow (by simp only; omega) _).setLow (by simp only; omega) _).mono (by omega), by rw [HM.out.1, hkk, List.take_length], ?_⟩
      exact (((HC.out w3 HB3.out).2.2.2.2.2.2.2.2.2.2.2.2.2.2.setCell (by simp only; omega) _).setCell (by simp only; omega) _).setCell (by simp only; omega) _

end Go.Proofs.Ytikjekfpgklbdaa

/- HeldAny, where what only reads may be taken first also among what follows. No program. -/
namespace Go.Proofs.Ytikjekfpgklbdaa

section
variable {P : Program} {ops : Array Oper} {Q : Exit → Act → World → Prop} {S : World → Prop}

def headMixB (ops : Array Oper) (n : Nat) : Bool := Region.noSelect ops && decide (n < ops.size) && Region.sinkB .any ops n && Region.chainB .any ops n

/-- So many follow, in whatever order. -/
def TailC (P : Program) (ops : Array Oper) (Q : Exit → Act → World → Prop) (S : World → Prop) (n k : Nat) (listed : Array Bool) (a : Act) (w : World) : Prop :=
  headMixB ops n = true → HeadInv .any ops n listed → wpAnyG P .any ops (NoPanic Q) S n k listed a w

theorem tailC_step {n k : Nat} {listed : Array Bool} {a : Act} {w : World} (hb : headMixB ops n = true) (inv : HeadInv .any ops n listed) (h0 : Region.ready .any ops listed ≠ []) (h : ∀ i ∈ Region.ready .any ops listed, i < n ∧ StepI P ops (NoPanic Q) S n (TailC P ops Q S n k (listed.setIfInBounds i true)) i a w) : wpAnyG P .any ops (NoPanic Q) S n (k + 1) listed a w := by
  refine ⟨fun h1 => absurd h1 h0, fun i hi => ?_⟩
  obtain ⟨hin, o, ho, h⟩ := h i hi
  have h1 := h (fun a' w' => (i < n → S w') ∧ wpAnyG P .any ops (NoPanic Q) S n k (listed.setIfInBounds i true) a' w')
    (fun a' w' hS hT => ⟨hS, hT hb (inv.set hi hin)⟩)
  have h0' : ops[i]? = some o := by simpa using ho
  unfold wpOp
  simp only [h0']
  split
  · rename_i hw
    rw [if_pos hw] at h1
    exact .inl h1
  · rename_i hw
    rw [if_neg hw] at h1
    exact h1

theorem TailC.one {n k i : Nat} {listed : Array Bool} {a : Act} {w : World} (hr : (decide (Region.ready .any ops listed = [i]) && decide (i < n)) = true) (h : StepI P ops (NoPanic Q) S n (TailC P ops Q S n k (listed.setIfInBounds i true)) i a w) : TailC P ops Q S n (k + 1) listed a w := fun hb inv => by
  simp only [Bool.and_eq_true, decide_eq_true_eq] at hr
  refine tailC_step hb inv (by rw [hr.1]; simp) fun j hj => ?_
  rw [hr.1] at hj
  have : j = i := by simpa using hj
  subst this
  exact ⟨hr.2, h⟩
theorem TailC.two {n k i i' : Nat} {listed : Array Bool} {a : Act} {w : World} (hr : (decide (Region.ready .any ops listed = [i, i']) && decide (i < n) && decide (i' < n)) = true) (h : StepI P ops (NoPanic Q) S n (TailC P ops Q S n k (listed.setIfInBounds i true)) i a w) (h' : StepI P ops (NoPanic Q) S n (TailC P ops Q S n k (listed.setIfInBounds i' true)) i' a w) : TailC P ops Q S n (k + 1) listed a w := fun hb inv => by
  simp only [Bool.and_eq_true, decide_eq_true_eq] at hr
  refine tailC_step hb inv (by rw [hr.1.1]; simp) fun j hj => ?_
  rw [hr.1.1] at hj
  simp only [List.mem_cons, List.not_mem_nil, or_false] at hj
  rcases hj with rfl | rfl
  · exact ⟨hr.1.2, h⟩
  · exact ⟨hr.2, h'⟩
/-- One that only reads is taken first. -/
theorem TailC.read {n k i : Nat} {o : Oper} {listed : Array Bool} {a : Act} {w : World} {v : Value} (ho : ops.toList[i]? = some o) (hr : ((Region.ready .any ops listed).contains i && Region.free .any ops listed i && decide (i < n)) = true) (hw : Region.wanted o (yielded ops a.tmps) = true) (hy : ∀ w, S w → (execOp a.eval o).run P w = .ok (.value v) w) (hS : S w) (h : TailC P ops Q S n k (listed.setIfInBounds i true) (a.put o.dst v) w) : TailC P ops Q S n (k + 1) listed a w := fun hb inv => by
  have hb' := hb
  simp only [headMixB, Bool.and_eq_true, decide_eq_true_eq] at hb'
  obtain ⟨⟨⟨hsel, hn⟩, hsk⟩, hc⟩ := hb'
  simp only [Bool.and_eq_true, decide_eq_true_eq] at hr
  have hi : ops[i]? = some o := by simpa using ho
  have hmem : i ∈ Region.ready .any ops listed := by simpa using hr.1.1
  obtain ⟨o', v', h0, hy', hK⟩ := (StillI.cons (K := fun a' => a' = a.put o.dst v) (l := []) hi hw hy rfl : StillI P ops S (fun a' => a' = a.put o.dst v) [i] a)
  rw [hi] at h0
  cases h0
  have hK' : a.put o.dst v' = a.put o.dst v := hK
  refine wpAnyG_first hi (Region.noSelect_spec hsel) (fun _ _ _ h => h) hsk hc hn hr.2 k listed a w inv (Region.free_spec hi hr.1.2) hmem hy' hS ?_
  rw [hK']
  exact h hb (inv.set hmem hr.2)
/-- The last one. -/
theorem TailC.last {n i : Nat} {listed : Array Bool} {a : Act} {w : World} (hr : (decide (Region.ready .any ops listed = [i]) && decide (Region.ready .any ops (listed.setIfInBounds i true) = [])) = true) (h : ∃ o, ops.toList[i]? = some o ∧ ∀ K : Act → World → Prop, Shut (∀ a w, (i < n → S w) → NoPanic Q .normal a w → K a w) → if Region.wanted o (yielded ops a.tmps) = true then Oper.wp P o a w K (NoPanic Q) else K (a.put o.dst undef) w) : TailC P ops Q S n 1 listed a w := fun _ _ => by
  simp only [Bool.and_eq_true, decide_eq_true_eq] at hr
  refine ⟨fun h1 => absurd h1 (by rw [hr.1]; simp), fun j hj => ?_⟩
  rw [hr.1] at hj
  have : j = i := by simpa using hj
  subst this
  obtain ⟨o, ho, h⟩ := h
  have h1 := h (fun a' w' => (j < n → S w') ∧ wpAnyG P .any ops (NoPanic Q) S n 0 (listed.setIfInBounds j true) a' w') (fun a' w' hS hT => ⟨hS, hr.2, hT⟩)
  have h0' : ops[j]? = some o := by simpa using ho
  unfold wpOp
  simp only [h0']
  split
  · rename_i hw
    rw [if_pos hw] at h1
    exact .inl h1
  · rename_i hw
    rw [if_neg hw] at h1
    exact h1

theorem wpAnyG_lexC {n m : Nat} (hb : headMixB ops n = true) {w : World} (hS : S w) :
    ∀ (l : List Nat) (listed : Array Bool) (a : Act), (∀ i ∈ l, i < n) → HeadInv .any ops n listed → lexA .any ops l listed = true → StillI P ops S (fun a' => TailC P ops Q S n m (listAll l listed) a' w) l a →
    wpAnyG P .any ops (NoPanic Q) S n (l.length + m) listed a w
  | [], listed, a, _, inv, _, h => by
    simp only [List.length_nil, Nat.zero_add]
    exact h hb inv
  | k :: l, listed, a, hl, inv, hB, h => by
    have hb' := hb
    simp only [headMixB, Bool.and_eq_true, decide_eq_true_eq] at hb'
    obtain ⟨⟨⟨hsel, hn⟩, hsk⟩, hc⟩ := hb'
    simp only [lexA, Bool.and_eq_true] at hB
    obtain ⟨⟨hr, hf⟩, hB'⟩ := hB
    have hkn := hl k (by simp)
    have hr' : k ∈ Region.ready .any ops listed := by simpa using hr
    obtain ⟨o, v, h0, hy, hK⟩ := h
    rw [show (k :: l).length + m = (l.length + m) + 1 by simp only [List.length_cons]; omega]
    exact wpAnyG_first h0 (Region.noSelect_spec hsel) (fun _ _ _ h => h) hsk hc hn hkn _ listed a w inv (Region.free_spec h0 hf) hr' hy hS
      (wpAnyG_lexC hb hS l _ _ (fun i hi => hl i (List.mem_cons_of_mem _ hi)) (inv.set hr' hkn) hB' hK)

theorem wp_region_mix {id : Nat} {a : Act} {w : World} (hs : List Nat) (m n : Nat) (S : World → Prop) (hm : P.follows .mixedOrders = true) (hB : heldAnyB ops hs m n = true) (hS : S w.drew)
    (h : StillI P ops S (fun a' => TailC P ops Q S n m (listAll hs (Array.replicate ops.size false)) a' w.drew) hs a) : (Code.region id ops true).wp P Q a w := by
  simp only [heldAnyB, Bool.and_eq_true, decide_eq_true_eq, List.all_eq_true] at hB
  obtain ⟨⟨⟨⟨⟨⟨hsel, hn⟩, hsk⟩, hc⟩, hl⟩, hlen⟩, hlex⟩ := hB
  have inv0 : HeadInv .any ops n (Array.replicate ops.size false) :=
    ⟨by simp, fun j oj _ hl => (by rw [getD_replicate_false] at hl; cases hl), fun t _ ht => Go.getD_in (by simpa using ht) (getD_replicate_false _ _)⟩
  refine wp_region_noPanic (wp_region_any hm (wpAny_of_G (S := S) (n := n) _ _ _ _ ?_))
  have hb : headMixB ops n = true := by simp only [headMixB, Bool.and_eq_true, decide_eq_true_eq]; exact ⟨⟨⟨hsel, hn⟩, hsk⟩, hc⟩
  have := wpAnyG_lexC (Q := Q) (m := m) hb hS hs _ a hl inv0 hlex h
  rw [hlen] at this
  exact this
end

end Go.Proofs.Ytikjekfpgklbdaa

/- What package step's outcomes hold: the change's box, the result's; rules that are made, and turned. No walk. -/
namespace Go.Proofs.Ytikjekfpgklbdaa
open Go.RowKit

theorem cell_of_blk {w : World} {b i : Nat} {cs : Array Value} {ty : TypeId} {f : Nat × Nat} {u : Value} (h : w.heap[b]? = some (.cells cs ty f)) (hu : cs[i]? = some u) : w.cell? ⟨b, i, none⟩ = some u := by
  unfold World.cell?
  simp [h, hu]
theorem frozen_of_blk {w : World} {b i : Nat} {cs : Array Value} {ty : TypeId} (h : w.heap[b]? = some (.cells cs ty (0, 0))) : w.frozen? ⟨b, i, none⟩ = false := by
  unfold World.frozen?
  simp [h]

/-- The change's box, of whatever cells, and the result's, of nothing yet; the grammar's rules. -/
structure CBox (w : World) (cs : Array Value) (ty : TypeId) (ra : Option Addr) (rc : Nat) (R : List Ru) (wq : World) : Prop where
  blk : wq.heap[w.heap.size]? = some (.cells cs ty (0, 0))
  res : wq.heap[w.heap.size + 1]? = some (.cells #[.int .i64 0, .int .i64 0, .slice none 0 0] 24 (0, 0))
  rules : RulesAt wq w.heap.size (.slice ra R.length rc) R
  below : Below w.heap.size w wq

section
variable {w wq w' : World} {cs : Array Value} {ty : TypeId} {ra : Option Addr} {rc : Nat} {R : List Ru}
theorem CBox.size (h : CBox w cs ty ra rc R wq) : w.heap.size + 2 ≤ wq.heap.size := by
  have := (Array.getElem?_eq_some_iff.1 h.res).1
  omega
theorem CBox.later (h : CBox w cs ty ra rc R wq) (hb : Below (w.heap.size + 2) wq w') : CBox w cs ty ra rc R w' :=
  ⟨(hb.block _ (by omega)).trans h.blk, (hb.block _ (by omega)).trans h.res, h.rules.below (hb.mono (by omega)), h.below.trans (hb.mono (by omega))⟩
theorem CBox.next (h : CBox w cs ty ra rc R wq) (hb : Below wq.heap.size wq w') : CBox w cs ty ra rc R w' := h.later (hb.mono h.size)
theorem CBox.cell (h : CBox w cs ty ra rc R wq) {i : Nat} {u : Value} (hu : cs[i]? = some u) : wq.cell? ⟨w.heap.size, i, none⟩ = some u := cell_of_blk h.blk hu
theorem cbox_start (hr : RulesAt w w.heap.size (.slice ra R.length rc) R) : CBox w cs ty ra rc R ((w.alloc (.cells cs ty)).alloc (.cells #[.int .i64 0, .int .i64 0, .slice none 0 0] 24)) := by
  have hB : Below w.heap.size w ((w.alloc (.cells cs ty)).alloc (.cells #[.int .i64 0, .int .i64 0, .slice none 0 0] 24)) := ((Below.refl _ _).alloc (Nat.le_refl _) _).alloc (by simp) _
  refine ⟨?_, ?_, hr.below hB, hB⟩
  · rw [((Below.refl (w.alloc (.cells cs ty)).heap.size _).alloc (Nat.le_refl _) _).block w.heap.size (by simp)]
    exact heap_alloc_new _ _
  · have := heap_alloc_new (w.alloc (.cells cs ty)) (.cells #[.int .i64 0, .int .i64 0, .slice none 0 0] 24)
    simpa using this
theorem CBox.y0 (h : CBox w cs ty ra rc R wq) : wq.cell? ⟨w.heap.size + 1, 0, none⟩ = some (.int .i64 0) := cell_of_blk h.res rfl
theorem CBox.y1 (h : CBox w cs ty ra rc R wq) : wq.cell? ⟨w.heap.size + 1, 1, none⟩ = some (.int .i64 0) := cell_of_blk h.res rfl
theorem CBox.y2 (h : CBox w cs ty ra rc R wq) : wq.cell? ⟨w.heap.size + 1, 2, none⟩ = some (.slice none 0 0) := cell_of_blk h.res rfl
theorem CBox.yf (h : CBox w cs ty ra rc R wq) (o : Nat) : wq.frozen? ⟨w.heap.size + 1, o, none⟩ = false := frozen_of_blk h.res
/-- The result is written. -/
theorem CBox.out (h : CBox w cs ty ra rc R wq) {lv : Value} {RL : List (Value × Ru)} (hr : RlIn wq (w.heap.size + 2) lv RL) (v0 v1 v2 : Value) : RlIn (((wq.setCell ⟨w.heap.size + 1, 0, none⟩ v0).setCell ⟨w.heap.size + 1, 1, none⟩ v1).setCell ⟨w.heap.size + 1, 2, none⟩ v2) w.heap.size lv RL ∧ Below w.heap.size w (((wq.setCell ⟨w.heap.size + 1, 0, none⟩ v0).setCell ⟨w.heap.size + 1, 1, none⟩ v1).setCell ⟨w.heap.size + 1, 2, none⟩ v2) :=
  ⟨(((hr.setLow (by simp) _).setLow (by simp) _).setLow (by simp) _).mono (by omega), ((h.below.setCell (by simp) _).setCell (by simp) _).setCell (by simp) _⟩
end

/-- x[:f] of symbols, wherever they lie. -/
theorem sy_uptoG {ad : Addr} {f sl lc : Nat} {fi : Int} (hf : fi = f) (hu : f ≤ lc) (w : World) : Sem.run Try.prog (Instr.sliceAt 41 (.slice (some ad) sl lc) none (some (.int .i64 fi)) none) w = .ok (.slice (some ad) f lc) w := by
  subst hf
  have h0 : (0 : Int) ≤ (f : Int) := Int.natCast_nonneg _
  have h1 : (f : Int) ≤ (lc : Int) := by omega
  go_simp
/-- x[f:g] of symbols. -/
theorem sy_midG {ad : Addr} {f n g sl lc : Nat} {fi gi : Int} (hf : fi = f) (hg : gi = g) (hn : g = f + n) (hu : g ≤ lc) : ∃ A, (∀ w : World, Sem.run Try.prog (Instr.sliceAt 41 (.slice (some ad) sl lc) (some (.int .i64 fi)) (some (.int .i64 gi)) none) w = .ok (.slice A n (lc - f)) w) ∧ (lc ≠ f → A = some (ad.add (f * 2))) := by
  subst hf hg
  have h0 : (0 : Int) ≤ (f : Int) := Int.natCast_nonneg _
  have h1 : (f : Int) ≤ (g : Int) := by omega
  have h2 : g - f = n := by omega
  have h3 : (0 : Int) ≤ (g : Int) := Int.natCast_nonneg _
  have h4 : (g : Int) ≤ (lc : Int) := by omega
  have h5 : f ≤ g := by omega
  clear hn
  refine ⟨if lc = f then some ad else some (ad.add (f * 2)), fun w => ?_, fun h => by rw [if_neg h]⟩
  go_simp

section
variable {w : World} {qa A : Option Addr} {d f n : Nat} {l : List Sy}
theorem SymsAt.takeG (h : SymsAt w (.slice qa l.length d) l) (hl : f ≤ l.length) : SymsAt w (.slice qa f d) (l.take f) := by
  obtain ⟨_, _, hv, hd⟩ := h.1
  cases hv
  have hlen : (l.take f).length = f := by rw [List.length_take]; omega
  refine ⟨⟨_, d, by rw [hlen], by omega⟩, fun j hj => ?_⟩
  rw [hlen] at hj
  obtain ⟨b, o, c, hv, h1, h2⟩ := h.2 j (by omega)
  cases hv
  have e : (l.take f).getD j (false, 0) = l.getD j (false, 0) := by simp [List.getD, hj]
  exact ⟨b, o, d, by rw [hlen], by rw [e]; exact h1, by rw [e]; exact h2⟩
theorem SymsAt.dropG (h : SymsAt w (.slice qa l.length d) l) (hl : l.length = f + n) (hA : d ≠ f → A = qa.map (·.add (f * 2))) : SymsAt w (.slice A n (d - f)) (l.drop f) := by
  obtain ⟨_, _, hv, hd⟩ := h.1
  cases hv
  have hlen : (l.drop f).length = n := by rw [List.length_drop]; omega
  refine ⟨⟨A, d - f, by rw [hlen], by omega⟩, fun j hj => ?_⟩
  rw [hlen] at hj
  obtain ⟨b, o, c, hv, h1, h2⟩ := h.2 (f + j) (by omega)
  cases hv
  have hA' := hA (by omega)
  simp only [Option.map_some, Addr.add_lit] at hA'
  subst hA'
  have e : (l.drop f).getD j (false, 0) = l.getD (f + j) (false, 0) := by simp [List.getD, List.getElem?_drop]
  refine ⟨b, o + f * 2, d - f, by rw [hlen], ?_, ?_⟩
  · rw [e, ← h1]; congr 2; omega
  · rw [e, ← h2]; congr 2; omega
theorem SymsAt.someG (h : SymsAt w (.slice qa l.length d) l) (hl : 0 < l.length) : ∃ ad, qa = some ad := by
  obtain ⟨b, o, c, hv, _⟩ := h.2 0 hl
  cases hv
  exact ⟨_, rfl⟩
end

theorem flatR_setR {RL : List (Value × Ru)} {k : Nat} (hk : k < RL.length) (v : Value) (l : List Sy) : (flatR RL).set (k * 2 + 1) v = flatR (RL.set k (v, (RL[k].2.1, l))) := by
  unfold flatR
  induction RL generalizing k with
  | nil => simp at hk
  | cons a RL ih =>
    cases k with
    | zero => simp [ruV]
    | succ k =>
      have := ih (k := k) (by simpa using hk)
      rw [List.flatMap_cons, List.set_cons_succ, List.flatMap_cons, List.set_append_right _ _ (by simp [ruV]; omega)]
      simp only [ruV, List.length_cons, List.length_nil, List.getElem_cons_succ] at this ⊢
      rw [show (k + 1) * 2 + 1 - (0 + 1 + 1) = k * 2 + 1 by omega, this]
theorem flatR_setL {RL : List (Value × Ru)} {k : Nat} (hk : k < RL.length) (L : Int) : (flatR RL).set (k * 2) (.int .i64 L) = flatR (RL.set k (RL[k].1, (L, RL[k].2.2))) := by
  unfold flatR
  induction RL generalizing k with
  | nil => simp at hk
  | cons a RL ih =>
    cases k with
    | zero => simp [ruV]
    | succ k =>
      have := ih (k := k) (by simpa using hk)
      rw [List.flatMap_cons, List.set_cons_succ, List.flatMap_cons, List.set_append_right _ _ (by simp [ruV]; omega)]
      simp only [ruV, List.length_cons, List.length_nil, List.getElem_cons_succ] at this ⊢
      rw [show (k + 1) * 2 - (0 + 1 + 1) = k * 2 by omega, this]

section
variable {w w5 w6 : World} {B g cap k : Nat} {lv nv v : Value} {RL : List (Value × Ru)} {L : Int} {l : List Sy}
theorem mem_set_or {α : Type} {l : List α} {k : Nat} {x y : α} (h : y ∈ l.set k x) : y = x ∨ y ∈ l := (List.mem_or_eq_of_mem_set h).symm
/-- A rule's Right turns: symbols that are new. -/
theorem RlIn.setR (h : RlIn w B (.slice (some ⟨g, 0, none⟩) RL.length cap) RL) (hb : Below w.heap.size w w5) (hk : k < RL.length) (ho : w5.ownsRow w.heap.size 52 2 v l.length (flatY l)) : RlIn (w5.setCell ⟨g, k * 2 + 1, none⟩ v) B (.slice (some ⟨g, 0, none⟩) RL.length cap) (RL.set k (v, (RL[k].2.1, l))) := by
  have hg := h.own.lt g rfl
  have hs5 := hb.size
  have own5 := own_below h.own hb fun g hg => (h.own.lt g hg).2
  refine ⟨?_, fun x hx => ?_⟩
  · have := (own5.stored (k * 2 + 1) v).1
    rw [flatR_setR hk v l] at this
    rw [List.length_set]
    exact this
  · rcases mem_set_or hx with rfl | hx
    · refine (own_syIn ho).kept (by simp) fun b hA _ => ⟨Below.heap_setCell _ _ _ _ ?_, by have := hA.2; omega, fun e => ?_⟩
      · have := hA.2; simp only; omega
      · simp only [Value.ownBlock, Option.some.injEq] at e; have := hA.2; omega
    · refine (h.sym x hx).kept (by simpa using hs5) fun b hA hlt => ⟨?_, hA⟩
      rw [Below.heap_setCell _ _ _ _ (fun e => hA.2 (by simp only [Value.ownBlock]; exact congrArg some e.symm)), hb.block b hlt]
/-- Its Left turns. -/
theorem RlIn.setL (h : RlIn w B (.slice (some ⟨g, 0, none⟩) RL.length cap) RL) (hk : k < RL.length) (L : Int) : RlIn (w.setCell ⟨g, k * 2, none⟩ (.int .i64 L)) B (.slice (some ⟨g, 0, none⟩) RL.length cap) (RL.set k (RL[k].1, (L, RL[k].2.2))) := by
  have hold : ∀ x ∈ RL, SyHas (w.setCell ⟨g, k * 2, none⟩ (.int .i64 L)) (fun b => B ≤ b ∧ (Value.slice (some ⟨g, 0, none⟩) RL.length cap).ownBlock ≠ some b) x.1 x.2.2 := fun x hx => by
    refine (h.sym x hx).kept (by simp) fun b hA hlt => ⟨?_, hA⟩
    rw [Below.heap_setCell _ _ _ _ (fun e => hA.2 (by simp only [Value.ownBlock]; exact congrArg some e.symm))]
  refine ⟨?_, fun x hx => ?_⟩
  · have := (h.own.stored (k * 2) (.int .i64 L)).1
    rw [flatR_setL hk L] at this
    rw [List.length_set]
    exact this
  · rcases mem_set_or hx with rfl | hx
    · exact hold RL[k] (List.getElem_mem hk)
    · exact hold x hx
/-- One rule more. -/
theorem RlIn.pushG (h : RlIn w B lv RL) (hB : B ≤ w.heap.size) (hb : Below w.heap.size w w5) (ho : w5.ownsRow w.heap.size 52 2 v l.length (flatY l)) (hg : w5.grownBy w6 lv.ownBlock) (hn : w6.ownsRow B 44 2 nv (RL.length + 1) (flatR (RL ++ [(v, (L, l))]))) (hat : ∀ g, nv.ownBlock = some g → lv.ownBlock = some g ∨ w5.heap.size ≤ g) : RlIn w6 B nv (RL ++ [(v, (L, l))]) := by
  have hs5 := hb.size
  have hs6 := hg.size
  have hlv : ∀ g, lv.ownBlock = some g → g < w.heap.size := fun g hg => (h.own.lt g hg).2
  refine ⟨by rw [List.length_append]; exact hn, fun x hx => ?_⟩
  rcases List.mem_append.1 hx with hx | hx
  · refine (h.sym x hx).kept (by omega) fun b hA hlt => ⟨?_, hA.1, fun e => ?_⟩
    · rw [hg.block b (by omega) (fun e => hA.2 e.symm), hb.block b hlt]
    · rcases hat b e with e | e
      · exact hA.2 e
      · omega
  · simp only [List.mem_singleton] at hx
    subst hx
    refine (own_syIn ho).kept (by omega) fun b hA hlt => ⟨?_, by have := hA.2; omega, fun e => ?_⟩
    · rw [hg.block b hlt (fun e => by have := hlv b e.symm; have := hA.2; omega)]
    · rcases hat b e with e | e
      · have := hlv b e; have := hA.2; omega
      · omega
end

end Go.Proofs.Ytikjekfpgklbdaa
