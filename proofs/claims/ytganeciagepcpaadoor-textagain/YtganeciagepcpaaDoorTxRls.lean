/- The contract of package text's readLines. -/
import Derived.Test.YtganeciagepcpaaDoorTxRl
import Derived.Test.YtganeciagepcpaaDoorTxLn
namespace Go.Proofs.YtganeciagepcpaaDoor
open Go.RowKit

/-- The lines of a text, read on: what the grammar is, how many lines were read, whether those are all. -/
def lines9 : Nat → List UInt8 → Nat → Nat → Nat → List Ru → (Nat × Nat × List Ru) × Nat × Bool
  | 0, _, k, T, N, R => ((T, N, R), k, true)
  | f + 1, s, k, T, N, R => if s.isEmpty = true then ((T, N, R), k, true) else match cutN s with
    | none => ((T, N, R), k, false)
    | some (a, r) => if k = 0 then (if hdOk a = true then lines9 f r 1 (hdT a) (hdN a) R else ((hdT a, hdN a, R), 0, false))
      else if rlOk a = true then lines9 f r (k + 1) T N (lineR a R) else ((T, N, R), k, false)
def all9 (s : List UInt8) : (Nat × Nat × List Ru) × Nat × Bool := lines9 (s.length + 1) s 0 0 0 []
def strLen9 : Value → Nat
  | .string b => b.size
  | _ => 0

section
variable {w w' : World} {gb : Nat} {T N : Int} {rv : Value} {RL : List (Value × Ru)}
theorem GR.self (h : GR w gb T N rv RL) : GR (((w.setCell ⟨gb, 0, none⟩ (.int .i64 T)).setCell ⟨gb, 1, none⟩ (.int .i64 N)).setCell ⟨gb, 2, none⟩ rv) gb T N rv RL :=
  h.head (((But.set _ _ _).trans (But.set _ _ _)).trans (But.set _ _ _)) (Lib.heap_setCell_same (i := 2) (Lib.heap_setCell_same (i := 1) (Lib.heap_setCell_same (i := 0) h.at_ _) _) _)
theorem GR.selfB (h : GR w gb T N rv RL) : Below gb w (((w.setCell ⟨gb, 0, none⟩ (.int .i64 T)).setCell ⟨gb, 1, none⟩ (.int .i64 N)).setCell ⟨gb, 2, none⟩ rv) :=
  (((But.set _ _ _).trans (But.set _ _ _)).trans (But.set _ _ _)).below (Nat.le_refl _) (Nat.le_of_lt h.lt)
theorem lineR_len (l : List UInt8) (R : List Ru) (h : R.length ≤ 41) : (lineR l R).length ≤ 41 := by
  unfold lineR
  split
  · rename_i hc; simp; omega
  · exact h

set_option maxRecDepth 100000 in
set_option maxHeartbeats 3200000 in
theorem readLines_any {s0 : List UInt8} (hs : s0.length ≤ 9223372036854775807) : Calls Tryd.prog 6 #[.string ⟨s0.toArray⟩] w fun e w' => ∃ rv RL, e = .returned (.tuple #[.agg #[.int .i64 ((all9 s0).1.1 : Nat), .int .i64 ((all9 s0).1.2.1 : Nat), rv], .int .i64 ((all9 s0).2.1 : Nat), .bool (all9 s0).2.2]) ∧ GR w' w.heap.size ((all9 s0).1.1 : Nat) ((all9 s0).1.2.1 : Nat) rv RL ∧ RL.map (fun x => x.2) = (all9 s0).1.2.2 ∧ Below w.heap.size w w' := by
  obtain ⟨gb, hgb⟩ : ∃ x, w.heap.size = x := ⟨_, rfl⟩
  obtain ⟨W1, hW1⟩ : ∃ V, w.alloc (.cells #[.int .i64 0, .int .i64 0, .slice none 0 0] 24) = V := ⟨_, rfl⟩
  have hx := heap_alloc_new w (.cells #[.int .i64 0, .int .i64 0, .slice none 0 0] 24)
  rw [hW1, hgb] at hx
  have H1 : Hid (GR W1 gb ((0 : Nat) : Int) ((0 : Nat) : Int) (.slice none 0 0) [] ∧ Below gb w W1) := ⟨⟨hx, World.ownsRow_nil .., fun x hx => by cases hx⟩, by rw [← hW1, ← hgb]; exact (Below.refl _ _).alloc (Nat.le_refl _) _⟩
  have HA : Hid (lines9 (s0.length + 1) s0 0 0 0 [] = all9 s0) := rfl
  have HS : Hid (s0.length ≤ 9223372036854775807) := hs
  clear hx hs
  rw [hgb]
  go_enter Tryd.func6, Tryd.ntmps6
  go_wp2_with fail
  go_loopw [0, 3] (fun v0 v3 wr => ∃ (s : List UInt8) (k T N f : Nat) (rv : Value) (RL : List (Value × Ru)), v0 = .string ⟨s.toArray⟩ ∧ v3 = .int .i64 k ∧ k + s.length ≤ s0.length ∧ s.length < f ∧ RL.length ≤ 41 ∧ GR wr gb T N rv RL ∧ Below gb w wr ∧ lines9 f s k T N (RL.map fun x => x.2) = all9 s0) (fun v _ _ => strLen9 v)
  case atStart => exact ⟨s0, 0, 0, 0, s0.length + 1, _, [], rfl, rfl, by omega, by omega, by simp, H1.out.1, H1.out.2, HA.out⟩
  case round =>
    obtain ⟨s, k, T, N, f, rv, RL, rfl, rfl, hk, hf, hRl, hG, hB, hE⟩ := hrel
    obtain ⟨f', hf'⟩ : ∃ f', f = f' + 1 := ⟨f - 1, by omega⟩
    subst hf'
    rw [lines9] at hE
    obtain ⟨ra, rc, hrv⟩ := own_form9 hG.own
    subst hrv
    have HGa : Hid (GR wr gb T N (.slice ra RL.length rc) RL ∧ Below gb w wr) := ⟨hG, hB⟩
    cases e0 : s.isEmpty with
    | true =>
      rw [e0, if_pos rfl] at hE
      have HE : Hid (all9 s0 = ((T, N, RL.map fun x => x.2), k, true)) := hE.symm
      have c0 := cell_bk9 (i := 0) (HGa.out.1.at_) rfl
      have c1 := cell_bk9 (i := 1) (HGa.out.1.at_) rfl
      have c2 := cell_bk9 (i := 2) (HGa.out.1.at_) rfl
      have f0 := frozen_bk9 (i := 0) (HGa.out.1.at_)
      have f1 := frozen_bk9 (i := 1) (HGa.out.1.at_)
      have f2 := frozen_bk9 (i := 2) (HGa.out.1.at_)
      clear hE hG hB hf hk
      go_wp2_with fail
      have hz := HGa.out.1.self
      have x0 := cell_bk9 (i := 0) hz.at_ rfl
      have x1 := cell_bk9 (i := 1) hz.at_ rfl
      have x2 := cell_bk9 (i := 2) hz.at_ rfl
      refine bodyPost_ret (v := .tuple #[.agg #[.int .i64 (T : Nat), .int .i64 (N : Nat), .slice ra RL.length rc], .int .i64 (k : Nat), .bool true]) (by simp [results, Tryd.results6, go_sem, x0, x1, x2]) rfl ⟨.slice ra RL.length rc, RL, by rw [HE.out], by rw [HE.out]; exact hz, by rw [HE.out], HGa.out.2.trans HGa.out.1.selfB⟩
    | false =>
      rw [e0, if_neg (by simp)] at hE
      cases hc : cutN s with
      | none =>
        rw [hc] at hE
        have HE : Hid (all9 s0 = ((T, N, RL.map fun x => x.2), k, false)) := hE.symm
        have ct := cut_none hc wr
        have c0 := cell_bk9 (i := 0) (HGa.out.1.at_) rfl
        have c1 := cell_bk9 (i := 1) (HGa.out.1.at_) rfl
        have c2 := cell_bk9 (i := 2) (HGa.out.1.at_) rfl
        have f0 := frozen_bk9 (i := 0) (HGa.out.1.at_)
        have f1 := frozen_bk9 (i := 1) (HGa.out.1.at_)
        have f2 := frozen_bk9 (i := 2) (HGa.out.1.at_)
        clear hE hG hB hf hk hc
        go_wp2_with
          (go_at_call 13; refine ct.mono ?_; rintro e w2 ⟨rfl, h2⟩; obtain rfl : wr = w2 := h2.symm; clear ct)
        have hz := HGa.out.1.self
        have x0 := cell_bk9 (i := 0) hz.at_ rfl
        have x1 := cell_bk9 (i := 1) hz.at_ rfl
        have x2 := cell_bk9 (i := 2) hz.at_ rfl
        refine bodyPost_ret (v := .tuple #[.agg #[.int .i64 (T : Nat), .int .i64 (N : Nat), .slice ra RL.length rc], .int .i64 (k : Nat), .bool false]) (by simp [results, Tryd.results6, go_sem, x0, x1, x2]) rfl ⟨.slice ra RL.length rc, RL, by rw [HE.out], by rw [HE.out]; exact hz, by rw [HE.out], HGa.out.2.trans HGa.out.1.selfB⟩
      | some ar =>
        obtain ⟨a, r⟩ := ar
        rw [hc] at hE
        simp only at hE
        have hlen := (cutN_some hc).2
        have hll : s.length = a.length + 1 + r.length := by rw [hlen]; simp; omega
        have ct := cut_some hc (by have := HS.out; omega) wr
        have HLn : Hid (r.length < f' ∧ k + 1 + r.length ≤ s0.length ∧ r.length < s.length) := ⟨by omega, by omega, by omega⟩
        have HK : Hid (k < 9223372036854775807) := by have := HS.out; show k < _; omega
        clear hG hB hf hk hlen hll hc
        by_cases hk0 : k = 0
        · subst hk0
          rw [if_pos rfl] at hE
          cases hok : hdOk a with
          | true =>
            rw [hok, if_pos rfl] at hE
            have HE : Hid (lines9 f' r 1 (hdT a) (hdN a) (RL.map fun x => x.2) = all9 s0) := hE
            clear hE
            go_wp2_with
            (first
             | (go_at_call 13; refine ct.mono ?_; rintro e w2 ⟨rfl, h2⟩
                have HG2 : Hid (GR w2 gb T N (.slice ra RL.length rc) RL ∧ Below gb w w2) := ⟨HGa.out.1.later h2, HGa.out.2.trans (h2.mono (Nat.le_of_lt HGa.out.1.lt))⟩
                have rl := readLine_head HG2.out.1 a
                rw [hok] at rl
                clear ct h2)
             | (go_at_call 14; refine rl.mono ?_; rintro e w3 ⟨rfl, h2, h3⟩
                have HG3 : Hid (GR w3 gb (hdT a) (hdN a) (.slice ra RL.length rc) RL ∧ Below gb w w3) := ⟨h2, HG2.out.2.trans h3⟩
                clear rl h2 h3))
            go_roundw
            case rel => exact ⟨r, 1, hdT a, hdN a, f', _, RL, rfl, by go_num, by have := HLn.out.2.1; omega, HLn.out.1, hRl, HG3.out.1, HG3.out.2, HE.out⟩
            case measure => simpa [strLen9, ByteArray.size] using HLn.out.2.2
          | false =>
            rw [hok, if_neg (by simp)] at hE
            have HE : Hid (all9 s0 = ((hdT a, hdN a, RL.map fun x => x.2), 0, false)) := hE.symm
            clear hE
            go_wp2_with
            (first
             | (go_at_call 13; refine ct.mono ?_; rintro e w2 ⟨rfl, h2⟩
                have HG2 : Hid (GR w2 gb T N (.slice ra RL.length rc) RL ∧ Below gb w w2) := ⟨HGa.out.1.later h2, HGa.out.2.trans (h2.mono (Nat.le_of_lt HGa.out.1.lt))⟩
                have rl := readLine_head HG2.out.1 a
                rw [hok] at rl
                clear ct h2)
             | (go_at_call 14; refine rl.mono ?_; rintro e w3 ⟨rfl, h2, h3⟩
                have HG3 : Hid (GR w3 gb (hdT a) (hdN a) (.slice ra RL.length rc) RL ∧ Below gb w w3) := ⟨h2, HG2.out.2.trans h3⟩
                have c0 := cell_bk9 (i := 0) (HG3.out.1.at_) rfl
                have c1 := cell_bk9 (i := 1) (HG3.out.1.at_) rfl
                have c2 := cell_bk9 (i := 2) (HG3.out.1.at_) rfl
                have f0 := frozen_bk9 (i := 0) (HG3.out.1.at_)
                have f1 := frozen_bk9 (i := 1) (HG3.out.1.at_)
                have f2 := frozen_bk9 (i := 2) (HG3.out.1.at_)
                clear rl h2 h3))
            have hz := HG3.out.1.self
            have x0 := cell_bk9 (i := 0) hz.at_ rfl
            have x1 := cell_bk9 (i := 1) hz.at_ rfl
            have x2 := cell_bk9 (i := 2) hz.at_ rfl
            refine bodyPost_ret (v := .tuple #[.agg #[.int .i64 (hdT a : Nat), .int .i64 (hdN a : Nat), .slice ra RL.length rc], .int .i64 (0 : Nat), .bool false]) (by simp [results, Tryd.results6, go_sem, x0, x1, x2]) rfl ⟨.slice ra RL.length rc, RL, by rw [HE.out], by rw [HE.out]; exact hz, by rw [HE.out], HG3.out.2.trans HG3.out.1.selfB⟩
        · rw [if_neg hk0] at hE
          cases hok : rlOk a with
          | true =>
            rw [hok, if_pos rfl] at hE
            have HE : Hid (lines9 f' r (k + 1) T N (lineR a (RL.map fun x => x.2)) = all9 s0) := hE
            have hk9 := HK.out
            clear hE
            go_wp2_with
            (first
             | (go_at_call 13; refine ct.mono ?_; rintro e w2 ⟨rfl, h2⟩
                have HG2 : Hid (GR w2 gb T N (.slice ra RL.length rc) RL ∧ Below gb w w2) := ⟨HGa.out.1.later h2, HGa.out.2.trans (h2.mono (Nat.le_of_lt HGa.out.1.lt))⟩
                have rl := readLine_rule HG2.out.1 hRl hk0 a
                rw [hok] at rl
                clear ct h2)
             | (go_at_call 14; refine rl.mono ?_; rintro e w3 ⟨rfl, ⟨rv3, RL3, h2, h4⟩, h3⟩
                have HG3 : Hid ((GR w3 gb T N rv3 RL3 ∧ Below gb w w3) ∧ RL3.map (fun x => x.2) = lineR a (RL.map fun x => x.2)) := ⟨⟨h2, HG2.out.2.trans h3⟩, h4⟩
                clear rl h2 h3 h4))
            go_roundw
            case rel =>
              refine ⟨r, k + 1, T, N, f', rv3, RL3, rfl, by go_num, by have := HLn.out.2.1; omega, HLn.out.1, ?_, HG3.out.1.1, HG3.out.1.2, ?_⟩
              · have h1 := congrArg List.length HG3.out.2
                rw [List.length_map] at h1
                rw [h1]
                exact lineR_len _ _ (by simpa using hRl)
              · rw [HG3.out.2]
                exact HE.out
            case measure => simpa [strLen9, ByteArray.size] using HLn.out.2.2
          | false =>
            rw [hok, if_neg (by simp)] at hE
            have HE : Hid (all9 s0 = ((T, N, RL.map fun x => x.2), k, false)) := hE.symm
            have HLr : Hid (lineR a (RL.map fun x => x.2) = RL.map fun x => x.2) := by show _ = _; simp [lineR, hok]
            clear hE
            go_wp2_with
            (first
             | (go_at_call 13; refine ct.mono ?_; rintro e w2 ⟨rfl, h2⟩
                have HG2 : Hid (GR w2 gb T N (.slice ra RL.length rc) RL ∧ Below gb w w2) := ⟨HGa.out.1.later h2, HGa.out.2.trans (h2.mono (Nat.le_of_lt HGa.out.1.lt))⟩
                have rl := readLine_rule HG2.out.1 hRl hk0 a
                rw [hok] at rl
                clear ct h2)
             | (go_at_call 14; refine rl.mono ?_; rintro e w3 ⟨rfl, ⟨rv3, RL3, h2, h4⟩, h3⟩
                obtain ⟨a3, d3, hrv3⟩ := own_form9 h2.own
                subst hrv3
                have HG3 : Hid (GR w3 gb T N (.slice a3 RL3.length d3) RL3 ∧ Below gb w w3) := ⟨h2, HG2.out.2.trans h3⟩
                have HM3 : Hid (RL3.map (fun x => x.2) = lineR a (RL.map fun x => x.2)) := h4
                have c0 := cell_bk9 (i := 0) (HG3.out.1.at_) rfl
                have c1 := cell_bk9 (i := 1) (HG3.out.1.at_) rfl
                have c2 := cell_bk9 (i := 2) (HG3.out.1.at_) rfl
                have f0 := frozen_bk9 (i := 0) (HG3.out.1.at_)
                have f1 := frozen_bk9 (i := 1) (HG3.out.1.at_)
                have f2 := frozen_bk9 (i := 2) (HG3.out.1.at_)
                clear rl h2 h3 h4))
            have hz := HG3.out.1.self
            have x0 := cell_bk9 (i := 0) hz.at_ rfl
            have x1 := cell_bk9 (i := 1) hz.at_ rfl
            have x2 := cell_bk9 (i := 2) hz.at_ rfl
            refine bodyPost_ret (v := .tuple #[.agg #[.int .i64 (T : Nat), .int .i64 (N : Nat), .slice a3 RL3.length d3], .int .i64 (k : Nat), .bool false]) (by simp [results, Tryd.results6, go_sem, x0, x1, x2]) rfl ⟨.slice a3 RL3.length d3, RL3, by rw [HE.out], by rw [HE.out]; exact hz, by rw [HM3.out, HLr.out, HE.out], HG3.out.2.trans HG3.out.1.selfB⟩
end
end Go.Proofs.YtganeciagepcpaaDoor
