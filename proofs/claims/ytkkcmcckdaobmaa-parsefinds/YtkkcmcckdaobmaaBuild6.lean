/- The contract of pollardingref6.build: the states, and where each goes on; or that there are too many. -/
import Derived.Test.YtkkcmcckdaobmaaBuildMemAndHeldTail
import Derived.Test.YtkkcmcckdaobmaaBuildMathAndBehind6
import Derived.Test.YtkkcmcckdaobmaaSpreadMathAndLooksMath
namespace Go.Proofs.Ytkkcmcckdaobmaa
open Go.RowKit

/-- So many states are done. -/
structure B1 (w : World) (ab lim T N : Nat) (rv : Value) (R : List Ru) (k : Nat) (sv nv : Value) (vi vr : Nat → Value) (OL : List (List It)) (NL : List (List Int)) (Ls : List SetI) (wr : World) : Prop where
  bc : BC w ab lim T N rv R sv nv wr
  owns : Owns wr (ab + 1) (Pb sv nv vi vr OL NL none none)
  sok : SOk R OL Ls
  all : allN T N R k = (NL, Ls)
  le : k ≤ OL.length
  few : OL.length ≤ 150
  pos : 0 < OL.length

/-- Of the state k so many symbols are done; A: where they go. -/
structure B2 (w : World) (ab lim T N : Nat) (rv : Value) (R : List Ru) (k cg x : Nat) (L0 : List SetI) (A : List Int) (sv nv : Value) (vi vr : Nat → Value) (OL : List (List It)) (NL : List (List Int)) (Ls : List SetI) (C : List Int) (l : Option Row) (wr : World) : Prop where
  bc : BC w ab lim T N rv R sv nv wr
  owns : Owns wr (ab + 1) (Pb sv nv vi vr OL NL (some (curRow (.slice (some ⟨cg, 0, none⟩) (T + N) (T + N)) C)) l)
  sok : SOk R OL Ls
  row : rowN T R k x L0 = (A, Ls)
  lt : k < OL.length
  few : OL.length ≤ 150
  len : C.length = T + N

section
variable {w wr : World} {ab lim T N k cg x : Nat} {rv sv nv : Value} {R : List Ru} {vi vr : Nat → Value} {OL : List (List It)} {NL : List (List Int)} {Ls L0 : List SetI} {A C : List Int} {l : Option Row}

theorem B2.later (h : B2 w ab lim T N rv R k cg x L0 A sv nv vi vr OL NL Ls C l wr) (hl : lim ≤ ab) {w' : World} (hb : Below wr.heap.size wr w') : B2 w ab lim T N rv R k cg x L0 A sv nv vi vr OL NL Ls C l w' :=
  ⟨h.bc.later hl hb, h.owns.below hb (Nat.le_refl _), h.sok, h.row, h.lt, h.few, h.len⟩

/-- A state's items: where they lie. -/
theorem B2.items {i : Nat} (h : B2 w ab lim T N rv R k cg x L0 A sv nv vi vr OL NL Ls C l wr) (hi : i < OL.length) : ∃ g cap a c, sv = .slice (some ⟨g, 0, none⟩) OL.length cap ∧ wr.cell? ⟨ab, 6, none⟩ = some (.slice (some ⟨g, 0, none⟩) OL.length cap) ∧ wr.cell? ⟨g, i, none⟩ = some (.slice a (OL.getD i []).length c) ∧ ItemsAt wr wr.heap.size (.slice a (OL.getD i []).length c) (OL.getD i []) := by
  obtain ⟨g, cap, hs, _, _⟩ := h.owns.stForm (Nat.lt_of_le_of_lt (Nat.zero_le _) hi)
  have hI := h.owns.itemsOf hi
  obtain ⟨a, c, hv⟩ := hI.1
  have hc : wr.cell? ⟨g, i, none⟩ = some (vi i) := by
    have := h.owns
    rw [hs] at this
    exact this.stCell hi
  refine ⟨g, cap, a, c, hs, by rw [← hs]; exact h.bc.c6, by rw [← hv]; exact hc, by rw [← hv]; exact hI⟩

theorem B2.setCur (h : B2 w ab lim T N rv R k cg x L0 A sv nv vi vr OL NL Ls C l wr) (hl : lim ≤ ab) (hj : x < T + N) (z : Int) : B2 w ab lim T N rv R k cg x L0 A sv nv vi vr OL NL Ls (C.set x z) l (wr.setCell ⟨cg, x, none⟩ (.int .i64 z)) :=
  ⟨h.bc.set hl (by have := (h.owns.curCell h.len hj).2.2; simp; omega) _, h.owns.setCur h.len z, h.sok, h.row, h.lt, h.few, by simp [h.len]⟩

theorem B2.nilLs (h : B2 w ab lim T N rv R k cg x L0 A sv nv vi vr OL NL Ls C l wr) : B2 w ab lim T N rv R k cg x L0 A sv nv vi vr OL NL Ls C (some (lsRow (.slice none 0 0) [])) wr := ⟨h.bc, h.owns.nilLs, h.sok, h.row, h.lt, h.few, h.len⟩

theorem B2.pushLs {lv : Value} {L : List It} {g cap r d : Nat} {w' : World} (h : B2 w ab lim T N rv R k cg x L0 A sv nv vi vr OL NL Ls C (some (lsRow lv L)) wr) (hl : lim ≤ ab) (hg : wr.grownBy w' lv.ownBlock)
    (hown : w'.ownsRow (ab + 1) 87 2 (.slice (some ⟨g, 0, none⟩) (L.length + 1) cap) (L.length + 1) (flatI L ++ [.int .i64 r, .int .i64 d])) (hat : lv.ownBlock = some g ∨ g = wr.heap.size) :
    B2 w ab lim T N rv R k cg x L0 A sv nv vi vr OL NL Ls C (some (lsRow (.slice (some ⟨g, 0, none⟩) (L.length + 1) cap) (L ++ [(r, d)]))) w' :=
  ⟨h.bc.grow hl hg (fun b hb => by have := (h.owns.lt (i := Bx.ls) rfl hb).1; omega), h.owns.pushLs hg hown hat, h.sok, h.row, h.lt, h.few, h.len⟩

theorem B2.freshLs {g cap : Nat} {O : List It} {w' : World} (h : B2 w ab lim T N rv R k cg x L0 A sv nv vi vr OL NL Ls C l wr) (hl : lim ≤ ab) (hb : Below wr.heap.size wr w') (hO : RowIt w' wr.heap.size g cap O) :
    B2 w ab lim T N rv R k cg x L0 A sv nv vi vr OL NL Ls C (some (lsRow (.slice (some ⟨g, 0, none⟩) O.length cap) O)) w' :=
  ⟨h.bc.later hl hb, h.owns.freshLs hb hO h.bc.auto.lt, h.sok, h.row, h.lt, h.few, h.len⟩

theorem row_next {z : Int} {Ls' : List SetI} (hrow : rowN T R k x L0 = (A, Ls)) (hv : visit T R Ls k x = (z, Ls')) : rowN T R k (x + 1) L0 = (A ++ [z], Ls') := by
  have e : rowN T R k (x + 1) L0 = rowS T R k x (rowN T R k x L0) := rfl
  rw [e, hrow, rowS]
  simp only
  rw [hv]

/-- The next symbol: nothing new. -/
theorem B2.next {z : Int} (h : B2 w ab lim T N rv R k cg x L0 A sv nv vi vr OL NL Ls C l wr) (hv : visit T R Ls k x = (z, Ls)) : B2 w ab lim T N rv R k cg (x + 1) L0 (A ++ [z]) sv nv vi vr OL NL Ls C none wr :=
  ⟨h.bc, h.owns.dropLs, h.sok, row_next h.row hv, h.lt, h.few, h.len⟩

/-- The next symbol: a state more. -/
theorem B2.nextNew {v : Value} {Cc : List It} {S : SetI} {g cap : Nat} {w' : World} (h : B2 w ab lim T N rv R k cg x L0 A sv nv vi vr OL NL Ls C (some (lsRow v Cc)) wr) (hl : lim ≤ ab) (hg : wr.grownBy w' sv.ownBlock)
    (hown : w'.ownsRow (ab + 1) 84 1 (.slice (some ⟨g, 0, none⟩) (OL.length + 1) cap) (OL.length + 1) ((List.range OL.length).map vi ++ [v])) (hat : sv.ownBlock = some g ∨ g = wr.heap.size)
    (hv : visit T R Ls k x = ((OL.length : Int), Ls ++ [S])) (hs : SOk R (OL ++ [Cc]) (Ls ++ [S])) (hfew : OL.length + 1 ≤ 150) :
    B2 w ab lim T N rv R k cg (x + 1) L0 (A ++ [(OL.length : Int)]) (.slice (some ⟨g, 0, none⟩) (OL.length + 1) cap) nv (fun i => if i = OL.length then v else vi i) vr (OL ++ [Cc]) NL (Ls ++ [S]) C none (w'.setCell ⟨ab, 6, none⟩ (.slice (some ⟨g, 0, none⟩) (OL.length + 1) cap)) :=
  ⟨(h.bc.grow hl hg (fun b hb => by have := (h.owns.lt (i := Bx.st) rfl hb).1; omega)).set6 hl _,
    (h.owns.pushSt hg hown (fun g' hg' => by simp only [Value.ownBlock, Option.some.injEq] at hg'; subst hg'; exact hat)).setBelow (a := ⟨ab, 6, none⟩) (by simp) _, hs, row_next h.row hv, by simp; have := h.lt; omega, by simpa using hfew, h.len⟩

theorem set_at {A : List Int} {x m : Nat} {z : Int} (hA : A.length = x) (hm : x < m) : (A ++ List.replicate (m - x) 0).set x z = A ++ z :: List.replicate (m - (x + 1)) 0 := by
  obtain ⟨d, hd⟩ : ∃ d, m - x = d + 1 := ⟨m - x - 1, by omega⟩
  rw [hd, show m - (x + 1) = d by omega, List.set_append_right _ _ (by omega), hA, Nat.sub_self, List.replicate_succ, List.set_cons_zero]
theorem set_again {A B : List Int} {x : Nat} {y z : Int} (hA : A.length = x) : (A ++ y :: B).set x z = A ++ z :: B := by
  rw [List.set_append_right _ _ (by omega), hA, Nat.sub_self, List.set_cons_zero]
theorem get_at {A B : List Int} {x : Nat} {y : Int} (hA : A.length = x) : (A ++ y :: B).getD x 0 = y := by subst hA; simp [List.getD]
theorem snoc_at {A B : List Int} {y : Int} : A ++ y :: B = (A ++ [y]) ++ B := by simp
end

theorem right_sym {T N : Nat} {R : List Ru} (hf : Fine T N R) (hT : T ≤ 8) (hN : N ≤ 12) {r : Nat} (hr : r ≤ R.length) : ∀ s ∈ rightF R r, 0 ≤ s.2 ∧ s.2 ≤ 1000 := fun s hs => by
  unfold rightF at hs
  split at hs
  · simp only [List.mem_singleton] at hs
    subst hs
    simp
  · have hm : R.getD r (0, []) ∈ R := by simp [List.getD, show r < R.length by omega]
    obtain ⟨t, v⟩ := s
    cases t with
    | true => have := hf.term _ hm _ hs rfl; simp only at this ⊢; omega
    | false => have := hf.name _ hm _ hs rfl; simp only at this ⊢; omega

theorem item_len {R : List Ru} {OL : List (List It)} {Ls : List SetI} (h : SOk R OL Ls) (hR : R.length ≤ 40) (h8 : ∀ r, r ≤ R.length → (rightF R r).length ≤ 8) {i : Nat} (hi : i < OL.length) : (OL.getD i []).length ≤ 369 := by
  have := ok_len h8 (h.rep i hi).nod (h.ok i hi)
  omega

theorem Try.infoItems : (Try.prog.info? 84).map (fun i => (i.zero, i.size, i.bytes)) = some (some (.slice none 0 0), 1, 24) := by kernel_rfl
theorem Try.infoInts : (Try.prog.info? 25).map (fun i => (i.zero, i.size, i.bytes)) = some (some (.slice none 0 0), 1, 24) := by kernel_rfl

set_option maxRecDepth 100000 in
set_option maxHeartbeats 12800000 in
theorem build6_any {w : World} {lim ab T N : Nat} {rv : Value} {R : List Ru} (hA : AutoG w lim ab T N rv R) (hl : lim ≤ ab) (hfr : ∀ o, w.frozen? ⟨ab, o, none⟩ = false) (h6 : w.cell? ⟨ab, 6, none⟩ = some (.slice none 0 0)) (h7 : w.cell? ⟨ab, 7, none⟩ = some (.slice none 0 0))
    (hT : T ≤ 8) (hN1 : 1 ≤ N) (hN : N ≤ 12) (hR : R.length ≤ 40) (hf : Fine T N R) (h8 : ∀ r, r ≤ R.length → (rightF R r).length ≤ 8) :
    Calls Try.prog 13 #[.pointer (some ⟨ab, 0, none⟩)] w fun e w' =>
      (e = .returned (.bool false) ∧ Below ab w w' ∧ More T N R 150) ∨
      (e = .returned (.bool true) ∧ ∃ sv nv vi vr OL NL Ls, B1 w ab lim T N rv R OL.length sv nv vi vr OL NL Ls w') := by
  have hBC0 : BC w ab lim T N rv R (.slice none 0 0) (.slice none 0 0) w := ⟨Below.refl _ _, hA, fun _ _ _ => rfl, hfr, h6, h7⟩
  have HF : Hid (Fine T N R) := hf
  have H8 : Hid (∀ r, r ≤ R.length → (rightF R r).length ≤ 8) := h8
  have a0 := hA.t
  have a1 := hA.n
  obtain ⟨ra, rc, hrv⟩ := hA.rules.1
  subst hrv
  have hw : IntKind.i64.wrap ((T : Int) + (N : Int)) = (T : Int) + (N : Int) := IntWalk.i64_in _ (by omega)
  have HBC0 : Hid (BC w ab lim T N (.slice ra R.length rc) R (.slice none 0 0) (.slice none 0 0) w) := hBC0
  clear hA hfr hf h8 h6 h7 hBC0
  go_enter Try.func13, Try.ntmps13
  go_wp2_with fail
  go_big_quiet (fail)
  clear a0 a1 hw
  have HBC1 : Hid (BC w ab lim T N (.slice ra R.length rc) R (.slice none 0 0) (.slice none 0 0) (w.drewN nq)) := HBC0.out.drewN nq
  clear HBC0
  generalize w.drewN nq = W0 at HBC1 ⊢
  obtain ⟨W1, hW1⟩ : ∃ W1, W1 = W0.alloc (.cells #[.int .i64 R.length, .int .i64 0] 87) := ⟨_, rfl⟩
  have hb01 : Below W0.heap.size W0 W1 := by rw [hW1]; exact (Below.refl _ _).alloc (Nat.le_refl _) _
  have hBC1 := HBC1.out.later hl hb01
  have hI1 : ItemsAt W1 W1.heap.size (.slice (some ⟨W0.heap.size, 0, none⟩) 1 1) [(R.length, 0)] := by
    refine ⟨⟨_, _, rfl⟩, fun k hk => ?_⟩
    obtain rfl : k = 0 := by simpa using hk
    exact ⟨W0.heap.size, 0, 1, rfl, by rw [hW1]; simp, by rw [hW1]; simp [go_sem], by rw [hW1]; simp [go_sem]⟩
  have call := closed6_any hBC1.auto hI1 (by simp) (by simp) (fun i hi => by simp only [List.mem_singleton] at hi; rw [hi]; exact Nat.le_refl _) (by simp) hR H8.out
  have a2 := HBC1.out.auto.r
  have HBC2 : Hid (BC w ab lim T N (.slice ra R.length rc) R (.slice none 0 0) (.slice none 0 0) W1) := hBC1
  have hltW : ab < W1.heap.size := hBC1.auto.lt
  rw [hW1] at call
  simp only [World.size_alloc] at call
  clear hBC1 hI1 hb01 HBC1
  go_wp2_with
    (go_at_call 27; refine call.mono ?_; rintro e w2 ⟨g, cap, O, rfl, hrow, hB2, hnd, hmem, hlen, hfst⟩
     have HC : Hid (RowIt w2 W1.heap.size g cap O ∧ Below W1.heap.size W1 w2 ∧ O.Nodup ∧ (∀ i, i ∈ O ↔ Cl R (fun i => i ∈ [(R.length, 0)]) i) ∧ O.getD 0 (0, 0) = (R.length, 0)) := ⟨by rw [hW1]; simpa using hrow, by rw [hW1]; simpa using hB2, hnd, hmem, hfst⟩
     have c6 : w2.cell? ⟨ab, 6, none⟩ = some (.slice none 0 0) := (HBC2.out.later hl HC.out.2.1).c6
     have f6 : w2.frozen? ⟨ab, 6, none⟩ = false := (HBC2.out.later hl HC.out.2.1).fro 6
     have hlt2 : ab < w2.heap.size := (HBC2.out.later hl HC.out.2.1).auto.lt
     clear hrow hB2 hnd hmem hlen hfst call)
  have HS : Hid (B1 w ab lim T N (.slice ra R.length rc) R 0 (.slice (some ⟨w2.heap.size, 0, none⟩) 1 1) (.slice none 0 0) (fun _ => .slice (some ⟨g, 0, none⟩) O.length cap) (fun _ => .slice none 0 0) [O] [] [Cl R fun i => i = (R.length, 0)] ((w2.setCell ⟨ab, 6, none⟩ (.slice (some ⟨w2.heap.size, 0, none⟩) 1 1)).alloc (.cells #[.slice (some ⟨g, 0, none⟩) O.length cap] 84))) := by
    obtain ⟨h1, h2, h3, h4, h5⟩ := HC.out
    have e : (fun i : It => i ∈ [(R.length, 0)]) = fun i => i = (R.length, 0) := by funext i; simp
    rw [e] at h4
    exact ⟨((HBC2.out.later hl h2).set6 hl _).later hl ((Below.refl _ _).alloc (Nat.le_refl _) _), owns_start (own_mono h1 hltW) (by simp) _ hlt2, sok_start h3 h4 h5, rfl, Nat.zero_le _, by simp, by simp⟩
  generalize ((w2.setCell ⟨ab, 6, none⟩ (.slice (some ⟨w2.heap.size, 0, none⟩) 1 1)).alloc (.cells #[.slice (some ⟨g, 0, none⟩) O.length cap] 84)) = W3 at HS ⊢
  clear HC c6 f6 hlt2 hltW HBC2 a2
  go_loopw [4] (fun s4 wr => ∃ (k : Nat) (sv nv : Value) (vi vr : Nat → Value) (OL : List (List It)) (NL : List (List Int)) (Ls : List SetI), s4 = .int .i64 k ∧ B1 w ab lim T N (.slice ra R.length rc) R k sv nv vi vr OL NL Ls wr) (fun s _ => 151 - (intOf s).toNat)
  case atStart => exact ⟨0, _, _, _, _, _, _, _, rfl, HS.out⟩
  case round =>
    clear HS
    obtain ⟨k, sv, nv, vi, vr, OL, NL, L0, rfl, hB⟩ := hrel
    have HB : Hid (B1 w ab lim T N (.slice ra R.length rc) R k sv nv vi vr OL NL L0 wr) := hB
    have hfew := hB.few
    have hle := hB.le
    obtain ⟨g6, cap6, hsv, _, _⟩ := hB.owns.stForm hB.pos
    have c6 := hB.bc.c6
    rw [hsv] at c6
    clear hB
    by_cases hlt : k < OL.length
    · have mkN : ∀ u : World, (Instr.makeSlice 25 (.int .i64 ((T : Int) + (N : Int))) (.int .i64 ((T : Int) + (N : Int)))).run Try.prog u = .ok (.slice (some ⟨u.heap.size, 0, none⟩) (T + N) (T + N)) (u.alloc (.cells (madeCells #[.int .i64 0] (T + N)) 3)) := fun u => by
        have := make_ints (T + N) (by omega) u
        simpa using this
      have HS2 : Hid (B2 w ab lim T N (.slice ra R.length rc) R k wr.heap.size 0 L0 [] sv nv vi vr OL NL L0 (List.replicate (T + N) 0) none (wr.alloc (.cells (madeCells #[.int .i64 0] (T + N)) 3))) :=
        ⟨HB.out.bc.later hl ((Below.refl _ _).alloc (Nat.le_refl _) _), HB.out.owns.newCur (by unfold maxLen; omega) HB.out.bc.auto.lt, HB.out.sok, rfl, hlt, hfew, by simp⟩
      go_wp2_with fail
      clear mkN c6 hsv
      obtain ⟨cg, hcg⟩ : ∃ cg, wr.heap.size = cg := ⟨_, rfl⟩
      have HAll : Hid (allN T N R k = (NL, L0) ∧ k < L0.length) := ⟨HB.out.all, by rw [← HB.out.sok.len]; exact hlt⟩
      rw [hcg] at HS2 ⊢
      clear HB
      generalize (wr.alloc (.cells (madeCells #[.int .i64 0] (T + N)) 3)) = W4 at HS2 ⊢
      go_loopw [6] (fun s6 wq => ∃ (x : Nat) (A : List Int) (sv nv : Value) (vi vr : Nat → Value) (OL : List (List It)) (Ls : List SetI), s6 = .int .i64 x ∧ x ≤ T + N ∧ B2 w ab lim T N (.slice ra R.length rc) R k cg x L0 A sv nv vi vr OL NL Ls (A ++ List.replicate (T + N - x) 0) none wq) (fun s _ => T + N - (intOf s).toNat)
      case atStart => exact ⟨0, [], _, _, _, _, _, _, rfl, Nat.zero_le _, by simpa using HS2.out⟩
      case round =>
        clear HS2
        obtain ⟨x, A, sv, nv, vi, vr, OL, Ls, rfl, hx, hB⟩ := hrel
        have HB : Hid (B2 w ab lim T N (.slice ra R.length rc) R k cg x L0 A sv nv vi vr OL NL Ls (A ++ List.replicate (T + N - x) 0) none wr) := hB
        have hAl : A.length = x := by have := row_len (T := T) (R := R) k x L0; rw [hB.row] at this; exact this
        have HAl : Hid (A.length = x) := hAl
        by_cases hxlt : x < T + N
        · obtain ⟨c1, c2, _⟩ := hB.owns.curCell hB.len hxlt
          have i0 : (0 : Int) ≤ (x : Int) := Int.natCast_nonneg _
          have i1 : (x : Int) < ((T + N : Nat) : Int) := by omega
          have i2 : (x : Int) < (T : Int) + (N : Int) := by omega
          have HS3 : Hid (B2 w ab lim T N (.slice ra R.length rc) R k cg x L0 A sv nv vi vr OL NL Ls (A ++ -1 :: List.replicate (T + N - (x + 1)) 0) (some (lsRow (.slice none 0 0) [])) (wr.setCell ⟨cg, x, none⟩ (.int .i64 (-1)))) := by
            have := (hB.setCur hl hxlt (-1)).nilLs
            rw [set_at hAl hxlt] at this
            exact this
          have hltO := hB.lt
          obtain ⟨Ok, hOk⟩ : ∃ z, OL.getD k [] = z := ⟨_, rfl⟩
          have HOk : Hid (OL.getD k [] = Ok) := hOk
          have hO369 := item_len hB.sok hR H8.out hB.lt
          rw [hOk] at hO369
          obtain ⟨y0, hy0⟩ : ∃ y, (A ++ List.replicate (T + N - x) 0).getD x 0 = y := ⟨_, rfl⟩
          rw [hy0] at c1
          clear hB hy0 hOk
          go_wp2_with fail
          clear c1 c2
          generalize (wr.setCell ⟨cg, x, none⟩ (.int .i64 (-1))) = W5 at HS3 ⊢
          clear HB
          go_loopw [7, 8] (fun s7 s8 wj => ∃ (j : Nat) (lv : Value), s7 = lv ∧ s8 = .int .i64 j ∧ j ≤ Ok.length ∧ B2 w ab lim T N (.slice ra R.length rc) R k cg x L0 A sv nv vi vr OL NL Ls (A ++ -1 :: List.replicate (T + N - (x + 1)) 0) (some (lsRow lv (kernL T R Ok x j))) wj) (fun _ s _ => Ok.length - (intOf s).toNat)
          case atStart => exact ⟨0, _, rfl, rfl, Nat.zero_le _, by simpa [kernL] using HS3.out⟩
          case round =>
            clear HS3
            obtain ⟨j, lv, hlv, rfl, hj, hB⟩ := hrel
            have hlv' := hlv.symm
            subst hlv'
            clear hlv
            have HB : Hid (B2 w ab lim T N (.slice ra R.length rc) R k cg x L0 A sv nv vi vr OL NL Ls (A ++ -1 :: List.replicate (T + N - (x + 1)) 0) (some (lsRow lv (kernL T R Ok x j))) wr) := hB
            obtain ⟨sg, scap, ia, ic, hsv, c6, ck, hI⟩ := hB.items hB.lt
            rw [HOk.out] at ck hI
            have k0 : (0 : Int) ≤ (k : Int) := Int.natCast_nonneg _
            have k1 : (k : Int) < (OL.length : Int) := by omega
            by_cases hjlt : j < Ok.length
            · obtain ⟨⟨r, d⟩, hrd⟩ : ∃ z, Ok.getD j (0, 0) = z := ⟨_, rfl⟩
              have hmem : (r, d) ∈ Ok := by rw [← hrd]; exact getD_in hjlt
              have hok := hB.sok.ok k hB.lt _ (by rw [HOk.out]; exact hmem)
              have hrR : r ≤ R.length := hok.1
              have HYes : Hid (nextIs T R (r, d) x → kernL T R Ok x (j + 1) = kernL T R Ok x j ++ [(r, d + 1)]) := kernL_yes hjlt hrd
              have HNo : Hid (¬ nextIs T R (r, d) x → kernL T R Ok x (j + 1) = kernL T R Ok x j) := kernL_no hjlt hrd
              obtain ⟨ib, io, ic', hve, hib, k3, k4⟩ := hI.2 j hjlt
              cases hve
              rw [hrd] at k3 k4
              simp only at k3 k4
              have k4' : wr.cell? ⟨ib, io + j * 2 + 1, none⟩ = some (.int .i64 d) := by rw [Nat.add_assoc]; exact k4
              have j0 : (0 : Int) ≤ (j : Int) := Int.natCast_nonneg _
              have j1 : (j : Int) < (Ok.length : Int) := by omega
              obtain ⟨W, hW⟩ : ∃ W, W = wr.alloc (.cells #[.int .i64 r, .int .i64 d] 87) := ⟨_, rfl⟩
              have hbW : Below wr.heap.size wr W := by rw [hW]; exact (Below.refl _ _).alloc (Nat.le_refl _) _
              have hBW := hB.later hl hbW
              have HBW : Hid (B2 w ab lim T N (.slice ra R.length rc) R k cg x L0 A sv nv vi vr OL NL Ls (A ++ -1 :: List.replicate (T + N - (x + 1)) 0) (some (lsRow lv (kernL T R Ok x j))) W) := hBW
              have q0 : W.cell? ⟨wr.heap.size, 0, none⟩ = some (.int .i64 r) := by rw [hW]; simp [go_sem]
              have q1 : W.cell? ⟨wr.heap.size, 1, none⟩ = some (.int .i64 d) := by rw [hW]; simp [go_sem]
              have hWs : wr.heap.size < W.heap.size := by rw [hW]; simp
              have call := right6_any hBW.bc.auto hrR
              have hsym := right_sym HF.out hT hN hrR
              have h8' := H8.out r hrR
              obtain ⟨Rt, hRt⟩ : ∃ z, rightF R r = z := ⟨_, rfl⟩
              have HRt : Hid (rightF R r = Rt) := hRt
              rw [hRt] at call hsym h8'
              rw [hW] at call
              clear hB hBW hI hrd hmem hok k4 hbW hRt
              by_cases hd : d < Rt.length
              · have e1 : (d : Int) < (Rt.length : Int) := by omega
                have d0 : (0 : Int) ≤ (d : Int) := Int.natCast_nonneg _
                have hge : Rt[d]? = some (Rt.getD d (false, 0)) := by simp [List.getD, hd]
                have hms : Rt.getD d (false, 0) ∈ Rt := by simp [List.getD, hd]
                have hsr := hsym _ hms
                obtain ⟨⟨t, v⟩, htv⟩ : ∃ z, Rt.getD d (false, 0) = z := ⟨_, rfl⟩
                rw [htv] at hge hsr
                obtain ⟨y, hy⟩ : ∃ y, numF T (t, v) = y := ⟨_, rfl⟩
                have HNx : Hid (nextIs T R (r, d) x ↔ y = (x : Int)) := by
                  show nextIs T R (r, d) x ↔ y = (x : Int)
                  unfold nextIs
                  simp only
                  rw [HRt.out, hge]
                  constructor
                  · rintro ⟨s, e, h⟩
                    cases e
                    rw [← hy]; exact h
                  · intro h
                    exact ⟨_, rfl, by rw [hy]; exact h⟩
                have HTV : Hid (Rt.getD d (false, 0) = (t, v)) := htv
                have HY : Hid (numF T (t, v) = y) := hy
                clear hge hms htv hy hsym
                by_cases hyx : y = (x : Int)
                · have HK : Hid (kernL T R Ok x (j + 1) = kernL T R Ok x j ++ [(r, d + 1)]) := HYes.out (HNx.out.2 hyx)
                  have hLl : (kernL T R Ok x j).length ≤ 369 := Nat.le_trans kernL_len hO369
                  have e2 : (y == (x : Int)) = true := by simpa using hyx
                  have hw1 : IntKind.i64.wrap ((d : Int) + 1) = (d : Int) + 1 := IntWalk.i64_in _ (by omega)
                  obtain ⟨i0', hi0, hz0, hz1, hz2⟩ := info_parts Try.infoItem
                  obtain ⟨L, hL⟩ : ∃ L, kernL T R Ok x j = L := ⟨_, rfl⟩
                  rw [hL] at HBW HK hLl
                  have n1 : L.length + 1 ≤ maxLen := by unfold maxLen; omega
                  have n2 : (L.length + 1) * 16 ≤ 140737488355328 := by omega
                  clear HYes HNo HNx HB hL hyx
                  go_wp2_with
                    (first
                     | (go_at_call 28; refine call.mono ?_; rintro e w2 ⟨la, lc', rfl, hsy, _, hB2⟩
                        rw [← hW] at hB2
                        obtain ⟨sb, so, sc, hse, s1, s2⟩ := hsy.2 d hd
                        cases hse
                        rw [HTV.out] at s1 s2
                        simp only at s1 s2
                        have u0 := (hB2.cell (p := ⟨wr.heap.size, 0, none⟩) hWs).trans q0
                        have u1 := (hB2.cell (p := ⟨wr.heap.size, 1, none⟩) hWs).trans q1
                        have hBr := HBW.out.later hl hB2
                        have hs2 : wr.heap.size < w2.heap.size := Nat.lt_of_lt_of_le hWs hB2.size
                        have num := number6_any (s := (t, v)) hBr.bc.auto hsr (by omega)
                        rw [HY.out] at num
                        simp only at num
                        have HBr : Hid (B2 w ab lim T N (.slice ra R.length rc) R k cg x L0 A sv nv vi vr OL NL Ls (A ++ -1 :: List.replicate (T + N - (x + 1)) 0) (some (lsRow lv L)) w2) := hBr
                        clear hB2 hsy hBr)
                     | (go_at_call 29; refine num.mono ?_; rintro e w3 ⟨rfl, hB3⟩
                        have v0 := (hB3.cell (p := ⟨wr.heap.size, 0, none⟩) hs2).trans u0
                        have v1 := (hB3.cell (p := ⟨wr.heap.size, 1, none⟩) hs2).trans u1
                        have hBn := (HBr.out.later hl hB3).later hl ((Below.refl _ _).alloc (Nat.le_refl _) (.cells #[.int .i64 r, .int .i64 ((d : Int) + 1)] 87))
                        have own5 : (w3.alloc (.cells #[.int .i64 r, .int .i64 ((d : Int) + 1)] 87)).ownsRow (ab + 1) 87 2 lv L.length (flatI L) := hBn.owns.own .ls _ rfl
                        have hnw5 := World.news_of_block (cs := #[.int .i64 r, .int .i64 ((d : Int) + 1)]) (t := 87) (fr := (0, 0)) (heap_alloc_new w3 (.cells #[.int .i64 r, .int .i64 ((d : Int) + 1)] 87))
                        have hab5 : ab + 1 ≤ w3.heap.size + 1 := by have := hBn.bc.auto.lt; simp at this; omega
                        have HBn : Hid (B2 w ab lim T N (.slice ra R.length rc) R k cg x L0 A sv nv vi vr OL NL Ls (A ++ -1 :: List.replicate (T + N - (x + 1)) 0) (some (lsRow lv L)) (w3.alloc (.cells #[.int .i64 r, .int .i64 ((d : Int) + 1)] 87))) := hBn
                        clear hB3 hBn s1 s2 u0 u1)
                     | (at_builtin
                        refine wpList_append_lies _ rfl _ _ _ rfl (ab + 1) 87 i0' _ 2 16 Try.underlying84 hi0 hz0 hz1 hz2 rfl (by omega) lv L.length (flatI L) rfl own5
                          ⟨w3.heap.size, 0, none⟩ 1 1 [.int .i64 r, .int .i64 ((d : Int) + 1)] rfl rfl hnw5 (by simp [Value.oneCell']) (by omega) n1 n2 (by simpa using hab5) (w3.heap.size + 1) (by simp) ?_
                        intro g6 cap6 w6 hown6 hgrow6 hat6 hlt6))
                  have HB6 : Hid (B2 w ab lim T N (.slice ra R.length rc) R k cg x L0 A sv nv vi vr OL NL Ls (A ++ -1 :: List.replicate (T + N - (x + 1)) 0) (some (lsRow (.slice (some ⟨g6, 0, none⟩) (L.length + 1) cap6) (L ++ [(r, d + 1)]))) w6) := HBn.out.pushLs hl hgrow6 (by simpa using hown6) (by simpa using hat6)
                  clear hown6 hgrow6 hat6 hlt6 own5 hnw5 hi0 hz0 hz1 hz2 n1 n2
                  go_roundw
                  case rel => exact ⟨j + 1, _, rfl, by go_num, by omega, by rw [HK.out]; exact HB6.out⟩
                  case measure => simp [intOf]; omega
                · have HK : Hid (kernL T R Ok x (j + 1) = kernL T R Ok x j) := HNo.out (fun h => hyx (HNx.out.1 h))
                  have e2 : (y == (x : Int)) = false := by simpa using hyx
                  clear HYes HNo HNx HB hyx
                  go_wp2_with
                    (first
                     | (go_at_call 28; refine call.mono ?_; rintro e w2 ⟨la, lc', rfl, hsy, _, hB2⟩
                        rw [← hW] at hB2
                        obtain ⟨sb, so, sc, hse, s1, s2⟩ := hsy.2 d hd
                        cases hse
                        rw [HTV.out] at s1 s2
                        simp only at s1 s2
                        have u0 := (hB2.cell (p := ⟨wr.heap.size, 0, none⟩) hWs).trans q0
                        have u1 := (hB2.cell (p := ⟨wr.heap.size, 1, none⟩) hWs).trans q1
                        have hBr := HBW.out.later hl hB2
                        have hs2 : wr.heap.size < w2.heap.size := Nat.lt_of_lt_of_le hWs hB2.size
                        have num := number6_any (s := (t, v)) hBr.bc.auto hsr (by omega)
                        rw [HY.out] at num
                        simp only at num
                        have HBr : Hid (B2 w ab lim T N (.slice ra R.length rc) R k cg x L0 A sv nv vi vr OL NL Ls (A ++ -1 :: List.replicate (T + N - (x + 1)) 0) (some (lsRow lv (kernL T R Ok x j))) w2) := hBr
                        clear hB2 hsy hBr)
                     | (go_at_call 29; refine num.mono ?_; rintro e w3 ⟨rfl, hB3⟩
                        have HBn : Hid (B2 w ab lim T N (.slice ra R.length rc) R k cg x L0 A sv nv vi vr OL NL Ls (A ++ -1 :: List.replicate (T + N - (x + 1)) 0) (some (lsRow lv (kernL T R Ok x j))) w3) := HBr.out.later hl hB3
                        clear hB3 s1 s2 u0 u1))
                  go_roundw
                  case rel => exact ⟨j + 1, _, rfl, by go_num, by omega, by rw [HK.out]; exact HBn.out⟩
                  case measure => simp [intOf]; omega
              · have e1 : decide ((d : Int) < (Rt.length : Int)) = false := decide_eq_false (by omega)
                have HK : Hid (kernL T R Ok x (j + 1) = kernL T R Ok x j) := HNo.out (fun h => by
                  obtain ⟨s, h1, _⟩ := h
                  simp only at h1
                  rw [HRt.out, List.getElem?_eq_none (by omega)] at h1
                  cases h1)
                clear HYes HNo HB hsym
                go_wp2_with
                  (go_at_call 28; refine call.mono ?_; rintro e w2 ⟨la, lc', rfl, _, _, hB2⟩
                   rw [← hW] at hB2
                   have u1 := (hB2.cell (p := ⟨wr.heap.size, 1, none⟩) hWs).trans q1
                   have HBr : Hid (B2 w ab lim T N (.slice ra R.length rc) R k cg x L0 A sv nv vi vr OL NL Ls (A ++ -1 :: List.replicate (T + N - (x + 1)) 0) (some (lsRow lv (kernL T R Ok x j))) w2) := HBW.out.later hl hB2
                   clear hB2)
                go_roundw
                case rel => exact ⟨j + 1, _, rfl, by go_num, by omega, by rw [HK.out]; exact HBr.out⟩
                case measure => simp [intOf]; omega
            · obtain rfl : j = Ok.length := by omega
              obtain ⟨la, lc, hlv⟩ : ∃ la lc, lv = .slice la (kernL T R Ok x Ok.length).length lc := own_form (hB.owns.own .ls _ rfl)
              have hLA := own_items (hB.owns.own .ls _ rfl)
              have hLl : (kernL T R Ok x Ok.length).length ≤ 369 := Nat.le_trans kernL_len hO369
              have hLn := kernL_nodup (T := T) (R := R) (x := x) (j := Ok.length) (hB.sok.rep k hB.lt).nod
              have hLo := kernL_ok (T := T) (x := x) (j := Ok.length) hB.sok hB.lt
              rw [HOk.out] at hLn hLo
              subst hlv
              have hcut : decide ((Ok.length : Int) < (Ok.length : Int)) = false := by simp
              have HRow : Hid (SOk R OL Ls ∧ k < OL.length) := ⟨hB.sok, hB.lt⟩
              have HKe : Hid (kernL T R (OL.getD k []) x (OL.getD k []).length = kernL T R Ok x Ok.length) := by show kernL T R (OL.getD k []) x (OL.getD k []).length = _; rw [HOk.out]
              obtain ⟨L, hL⟩ : ∃ L, kernL T R Ok x Ok.length = L := ⟨_, rfl⟩
              have hauto := hB.bc.auto
              simp only [lsRow] at hLA
              rw [hL] at HB HKe hLl hLn hLo hLA ⊢
              clear hB hI hsv
              by_cases hemp : L = []
              · subst hemp
                have HV : Hid (visit T R Ls k x = (-1, Ls)) := visit_nothing HRow.out.1 HRow.out.2 HKe.out
                have e0 : (((([] : List It).length : Nat) : Int) == 0) = true := by simp
                clear hLA hLn hLo hauto
                go_wp2_with fail
                go_roundw
                case rel =>
                  refine ⟨x + 1, A ++ [-1], sv, nv, vi, vr, OL, Ls, by go_num, by omega, ?_⟩
                  have := HB.out.next HV.out
                  rw [snoc_at (B := List.replicate (T + N - (x + 1)) 0)] at this
                  exact this
                case measure => simp [intOf]; omega
              · have hL0 : 0 < L.length := List.length_pos_iff.2 hemp
                have e0 : ((L.length : Int) == 0) = false := by simp; omega
                have call := closed6_any (ab := ab) hauto hLA hLn hemp (fun i hi => (hLo i hi).1) (by omega) hR H8.out
                have HNe : Hid (kernL T R (OL.getD k []) x (OL.getD k []).length ≠ []) := by show kernL T R (OL.getD k []) x (OL.getD k []).length ≠ []; rw [HKe.out]; exact hemp
                clear hLA hLn hLo hauto
                go_wp2_with
                  (go_at_call 27; refine call.mono ?_; rintro e w7 ⟨g7, cap7, Cc, rfl, hrow, hB2, hnd, hmem, hlen, _⟩
                   have HB7 : Hid (B2 w ab lim T N (.slice ra R.length rc) R k cg x L0 A sv nv vi vr OL NL Ls (A ++ -1 :: List.replicate (T + N - (x + 1)) 0) (some (lsRow (.slice (some ⟨g7, 0, none⟩) Cc.length cap7) Cc)) w7) := HB.out.freshLs hl hB2 hrow
                   have HC7 : Hid (Cc.Nodup ∧ ∀ i, i ∈ Cc ↔ Cl R (fun i => i ∈ L) i) := ⟨hnd, hmem⟩
                   have hCl : Cc.length ≤ 500 := by omega
                   clear hrow hB2 hnd hmem hlen call c6 ck)
                clear HB
                go_loopw [11] (fun s11 wn => ∃ (n : Nat) (z : Int), s11 = .int .i64 n ∧ n ≤ OL.length ∧ Found OL Cc n z ∧ B2 w ab lim T N (.slice ra R.length rc) R k cg x L0 A sv nv vi vr OL NL Ls (A ++ z :: List.replicate (T + N - (x + 1)) 0) (some (lsRow (.slice (some ⟨g7, 0, none⟩) Cc.length cap7) Cc)) wn) (fun s _ => OL.length - (intOf s).toNat)
                case atStart => exact ⟨0, -1, rfl, Nat.zero_le _, found_start _ _, HB7.out⟩
                case round =>
                  clear HB7
                  obtain ⟨n, z, rfl, hn, hF, hB⟩ := hrel
                  have HF4 : Hid (Found OL Cc n z) := hF
                  have hzr := hF.range
                  have HB : Hid (B2 w ab lim T N (.slice ra R.length rc) R k cg x L0 A sv nv vi vr OL NL Ls (A ++ z :: List.replicate (T + N - (x + 1)) 0) (some (lsRow (.slice (some ⟨g7, 0, none⟩) Cc.length cap7) Cc)) wr) := hB
                  have hfew4 := hB.few
                  by_cases hnlt : n < OL.length
                  · obtain ⟨sg, scap, na, nc, hsv, c6, cn, hI⟩ := hB.items hnlt
                    have hOn := item_len hB.sok hR H8.out hnlt
                    have hLs : ItemsAt wr wr.heap.size (.slice (some ⟨g7, 0, none⟩) Cc.length cap7) Cc := own_items (hB.owns.own .ls _ rfl)
                    obtain ⟨On, hon⟩ : ∃ y, OL.getD n [] = y := ⟨_, rfl⟩
                    have HOn : Hid (OL.getD n [] = On) := hon
                    rw [hon] at cn hI hOn
                    have call := alike6_any hI hLs (by omega) (by omega)
                    have n0 : (0 : Int) ≤ (n : Int) := Int.natCast_nonneg _
                    have n1 : (n : Int) < (OL.length : Int) := by omega
                    obtain ⟨b, hb⟩ : ∃ b, alikeF On Cc = b := ⟨_, rfl⟩
                    rw [hb] at call
                    have HAb : Hid (alikeF (OL.getD n []) Cc = b) := by show alikeF (OL.getD n []) Cc = b; rw [HOn.out]; exact hb
                    clear hB hI hLs hon hb hF hsv
                    cases b with
                    | true =>
                      have HFn : Hid (Found OL Cc (n + 1) (n : Int)) := Found.hit HAb.out
                      go_wp2_with
                        (go_at_call 30; refine call.mono ?_; rintro e w8 ⟨rfl, hB8⟩
                         have hB9 := HB.out.later hl hB8
                         obtain ⟨c1, c2, _⟩ := hB9.owns.curCell hB9.len hxlt
                         rw [get_at HAl.out] at c1
                         have HB9 : Hid (B2 w ab lim T N (.slice ra R.length rc) R k cg x L0 A sv nv vi vr OL NL Ls (A ++ z :: List.replicate (T + N - (x + 1)) 0) (some (lsRow (.slice (some ⟨g7, 0, none⟩) Cc.length cap7) Cc)) w8) := hB9
                         clear hB8 hB9)
                      go_roundw
                      case rel =>
                        refine ⟨n + 1, (n : Int), by go_num, by omega, HFn.out, ?_⟩
                        have := HB9.out.setCur hl hxlt (n : Int)
                        rw [set_again HAl.out] at this
                        exact this
                      case measure => simp [intOf]; omega
                    | false =>
                      have HFn : Hid (Found OL Cc (n + 1) z) := HF4.out.miss HAb.out
                      go_wp2_with
                        (go_at_call 30; refine call.mono ?_; rintro e w8 ⟨rfl, hB8⟩
                         have HB9 : Hid (B2 w ab lim T N (.slice ra R.length rc) R k cg x L0 A sv nv vi vr OL NL Ls (A ++ z :: List.replicate (T + N - (x + 1)) 0) (some (lsRow (.slice (some ⟨g7, 0, none⟩) Cc.length cap7) Cc)) w8) := HB.out.later hl hB8
                         clear hB8)
                      go_roundw
                      case rel => exact ⟨n + 1, z, by go_num, by omega, HFn.out, HB9.out⟩
                      case measure => simp [intOf]; omega
                  · obtain rfl : n = OL.length := by omega
                    obtain ⟨sg, scap, _, _, hsv, c6, _, _⟩ := hB.items hB.lt
                    subst hsv
                    obtain ⟨c1, c2, hcg1⟩ := hB.owns.curCell hB.len hxlt
                    rw [get_at HAl.out] at c1
                    have hcut4 : decide ((OL.length : Int) < (OL.length : Int)) = false := by simp
                    have hC7 : ∀ i, i ∈ Cc ↔ Cl R (fun i => i ∈ kernL T R (OL.getD k []) x (OL.getD k []).length) i := by rw [HKe.out]; exact HC7.out.2
                    have habs : cg ≠ ab := by omega
                    have habs' : ab ≠ cg := by omega
                    by_cases hz : z < 0
                    · obtain ⟨hV, hSk⟩ := visit_fresh HRow.out.1 HRow.out.2 HNe.out HC7.out.1 hC7 hF hz
                      have HV : Hid (visit T R Ls k x = ((OL.length : Int), Ls ++ [gotoS T R (Ls.getD k noS) x]) ∧ SOk R (OL ++ [Cc]) (Ls ++ [gotoS T R (Ls.getD k noS) x])) := ⟨hV, hSk⟩
                      have hBa := hB.setCur hl hxlt (OL.length : Int)
                      rw [set_again HAl.out] at hBa
                      have c6' := hBa.bc.c6
                      have hBb := hBa.later hl ((Below.refl _ _).alloc (Nat.le_refl _) (.cells #[.slice (some ⟨g7, 0, none⟩) Cc.length cap7] 84))
                      have own8 : ((wr.setCell ⟨cg, x, none⟩ (.int .i64 OL.length)).alloc (.cells #[.slice (some ⟨g7, 0, none⟩) Cc.length cap7] 84)).ownsRow (ab + 1) 84 1 (.slice (some ⟨sg, 0, none⟩) OL.length scap) OL.length ((List.range OL.length).map vi) := hBb.owns.own .st _ rfl
                      have hnw8 := World.news_of_block (cs := #[.slice (some ⟨g7, 0, none⟩) Cc.length cap7]) (t := 84) (fr := (0, 0)) (heap_alloc_new (wr.setCell ⟨cg, x, none⟩ (.int .i64 OL.length)) (.cells #[.slice (some ⟨g7, 0, none⟩) Cc.length cap7] 84))
                      simp only [World.size_setCell] at hnw8
                      have hab8 : ab + 1 ≤ wr.heap.size + 1 := by have := hB.bc.auto.lt; omega
                      have HB8 : Hid (B2 w ab lim T N (.slice ra R.length rc) R k cg x L0 A (.slice (some ⟨sg, 0, none⟩) OL.length scap) nv vi vr OL NL Ls (A ++ (OL.length : Int) :: List.replicate (T + N - (x + 1)) 0) (some (lsRow (.slice (some ⟨g7, 0, none⟩) Cc.length cap7) Cc)) ((wr.setCell ⟨cg, x, none⟩ (.int .i64 OL.length)).alloc (.cells #[.slice (some ⟨g7, 0, none⟩) Cc.length cap7] 84))) := hBb
                      obtain ⟨i8, hi8, hz8, hz9, hz10⟩ := info_parts Try.infoItems
                      have m1 : OL.length + 1 ≤ maxLen := by unfold maxLen; omega
                      have m2 : (OL.length + 1) * 24 ≤ 140737488355328 := by omega
                      clear hB hF hC7 hBa hBb hV hSk
                      by_cases hbig : 150 < OL.length + 1
                      · have e150 : (150 : Int) < (OL.length : Int) + 1 := by omega
                        go_wp2_with
                          (at_builtin
                           refine wpList_append_lies _ rfl _ _ _ rfl (ab + 1) 84 i8 _ 1 24 Try.underlying67 hi8 hz8 hz9 hz10 rfl (by omega) (.slice (some ⟨sg, 0, none⟩) OL.length scap) OL.length ((List.range OL.length).map vi) rfl own8
                             ⟨wr.heap.size, 0, none⟩ 1 1 [.slice (some ⟨g7, 0, none⟩) Cc.length cap7] rfl rfl hnw8 (by simp [Value.oneCell']) (by omega) m1 m2 (by simpa using hab8) (wr.heap.size + 1) (by simp) ?_
                           intro g8 cap8 w8 hown8 hgrow8 hat8 hlt8
                           have hbc8 := HB8.out.bc.grow hl hgrow8 (fun b hb => by have := (HB8.out.owns.lt (i := Bx.st) rfl hb).1; omega)
                           have c68 := hbc8.c6
                           have f68 := hbc8.fro 6
                           have HBel : Hid (Below ab w w8) := hbc8.below
                           clear hbc8)
                        go_ret
                        refine .inl ⟨rfl, HBel.out.setCell (by simp) _, k, x + 1, by rw [HAll.out.1]; exact HAll.out.2, by omega, ?_⟩
                        rw [HAll.out.1, row_next HB8.out.row HV.out.1]
                        have := HB8.out.sok.len
                        simp only [List.length_append, List.length_cons, List.length_nil]
                        omega
                      · have e150 : decide ((150 : Int) < (OL.length : Int) + 1) = false := decide_eq_false (by omega)
                        go_wp2_with
                          (at_builtin
                           refine wpList_append_lies _ rfl _ _ _ rfl (ab + 1) 84 i8 _ 1 24 Try.underlying67 hi8 hz8 hz9 hz10 rfl (by omega) (.slice (some ⟨sg, 0, none⟩) OL.length scap) OL.length ((List.range OL.length).map vi) rfl own8
                             ⟨wr.heap.size, 0, none⟩ 1 1 [.slice (some ⟨g7, 0, none⟩) Cc.length cap7] rfl rfl hnw8 (by simp [Value.oneCell']) (by omega) m1 m2 (by simpa using hab8) (wr.heap.size + 1) (by simp) ?_
                           intro g8 cap8 w8 hown8 hgrow8 hat8 hlt8
                           have hbc8 := HB8.out.bc.grow hl hgrow8 (fun b hb => by have := (HB8.out.owns.lt (i := Bx.st) rfl hb).1; omega)
                           have c68 := hbc8.c6
                           have f68 := hbc8.fro 6
                           have HBel : Hid (Below ab w w8) := hbc8.below
                           clear hbc8)
                        go_roundw
                        case rel =>
                          have := HB8.out.nextNew hl hgrow8 hown8 (by simpa using hat8) HV.out.1 HV.out.2 (by omega)
                          rw [snoc_at (B := List.replicate (T + N - (x + 1)) 0)] at this
                          exact ⟨x + 1, _, _, _, _, _, _, _, by go_num, by omega, this⟩
                        case measure => simp [intOf]; omega
                    · have hz' : decide (z < 0) = false := decide_eq_false hz
                      have HV : Hid (visit T R Ls k x = (z, Ls)) := visit_there HRow.out.1 HRow.out.2 HNe.out HC7.out.1 hC7 hF (by omega)
                      have e150 : decide ((150 : Int) < (OL.length : Int)) = false := decide_eq_false (by omega)
                      clear hB hF hC7
                      go_wp2_with fail
                      go_roundw
                      case rel =>
                        have := HB.out.next HV.out
                        rw [snoc_at (B := List.replicate (T + N - (x + 1)) 0)] at this
                        exact ⟨x + 1, _, _, _, _, _, _, _, by go_num, by omega, this⟩
                      case measure => simp [intOf]; omega
        · obtain rfl : x = T + N := by omega
          have hB' : B2 w ab lim T N (.slice ra R.length rc) R k cg (T + N) L0 A sv nv vi vr OL NL Ls A none wr := by
            have := hB
            simpa using this
          have c7 := hB'.bc.c7
          have hBb := hB'.later hl ((Below.refl _ _).alloc (Nat.le_refl _) (.cells #[.slice (some ⟨cg, 0, none⟩) (T + N) (T + N)] 25))
          have own9 : (wr.alloc (.cells #[.slice (some ⟨cg, 0, none⟩) (T + N) (T + N)] 25)).ownsRow (ab + 1) 25 1 nv NL.length ((List.range NL.length).map vr) := hBb.owns.own .nx _ rfl
          have hnw9 := World.news_of_block (cs := #[.slice (some ⟨cg, 0, none⟩) (T + N) (T + N)]) (t := 25) (fr := (0, 0)) (heap_alloc_new wr (.cells #[.slice (some ⟨cg, 0, none⟩) (T + N) (T + N)] 25))
          have hab9 : ab + 1 ≤ wr.heap.size + 1 := by have := hB'.bc.auto.lt; omega
          have HB9 : Hid (B2 w ab lim T N (.slice ra R.length rc) R k cg (T + N) L0 A sv nv vi vr OL NL Ls A none (wr.alloc (.cells #[.slice (some ⟨cg, 0, none⟩) (T + N) (T + N)] 25))) := hBb
          have hNl : NL.length = k := by have := all_len (T := T) (N := N) (R := R) k; rw [HAll.out.1] at this; exact this
          have hk150 : NL.length ≤ 150 := by have := hB'.lt; have := hB'.few; omega
          obtain ⟨i9, hi9, hz8, hz9, hz10⟩ := info_parts Try.infoInts
          have m1 : NL.length + 1 ≤ maxLen := by unfold maxLen; omega
          have m2 : (NL.length + 1) * 24 ≤ 140737488355328 := by omega
          have hcut2 : decide (((T + N : Nat) : Int) < (T : Int) + (N : Int)) = false := decide_eq_false (by omega)
          clear hB hB' hBb HB
          go_wp2_with
            (at_builtin
             refine wpList_append_lies _ rfl _ _ _ rfl (ab + 1) 25 i9 _ 1 24 Try.underlying36 hi9 hz8 hz9 hz10 rfl (by omega) nv NL.length ((List.range NL.length).map vr) rfl own9
               ⟨wr.heap.size, 0, none⟩ 1 1 [.slice (some ⟨cg, 0, none⟩) (T + N) (T + N)] rfl rfl hnw9 (by simp [Value.oneCell']) (by omega) m1 m2 (by simpa using hab9) (wr.heap.size + 1) (by simp) ?_
             intro g9 cap9 w9 hown9 hgrow9 hat9 hlt9
             have hbc9 := HB9.out.bc.grow hl hgrow9 (fun b hb => by have := (HB9.out.owns.lt (i := Bx.nx) rfl hb).1; omega)
             have c79 := hbc9.c7
             have f79 := hbc9.fro 7
             have HBc9 : Hid (BC w ab lim T N (.slice ra R.length rc) R sv nv w9) := hbc9
             clear hbc9)
          go_roundw
          case rel =>
            have hAN : allN T N R (k + 1) = (NL ++ [A], Ls) := by
              have e : allN T N R (k + 1) = allS T N R k (allN T N R k) := rfl
              rw [e, HAll.out.1, allS]
              simp only
              rw [HB9.out.row]
            have hP := HB9.out.owns.pushNx (C := A) hgrow9 hown9 (fun g' hg' => by simp only [Value.ownBlock, Option.some.injEq] at hg'; subst hg'; simpa using hat9)
            rw [hNl] at hP
            exact ⟨k + 1, sv, _, vi, _, OL, NL ++ [A], Ls, by go_num, HBc9.out.set7 hl _, hP.setBelow (a := ⟨ab, 7, none⟩) (by simp) _, HB9.out.sok, hAN, HB9.out.lt, HB9.out.few, by have := HB9.out.lt; omega⟩
          case measure => simp [intOf]; omega
    · obtain rfl : k = OL.length := by omega
      go_wp2_with fail
      go_ret
      exact .inr ⟨rfl, sv, nv, vi, vr, OL, NL, L0, HB.out⟩

end Go.Proofs.Ytkkcmcckdaobmaa
