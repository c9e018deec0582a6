/- The contract of package table's closed. -/
import Derived.Test.YtobegekmgoiopaaTkSort
import Derived.Laws.AppendOwnNone
namespace Go.Proofs.Ytobegekmgoiopaa
open Go.RowKit

theorem tkI_news {w : World} {lim b o c : Nat} {L : List It} (h : ItemsAt w lim (.slice (some ⟨b, o, none⟩) L.length c) L) : ∀ j u, (L.flatMap tkI)[j]? = some u → w.cell? ((⟨b, o, none⟩ : Addr).add j) = some u := fun j u hu => by
  have hadd : (⟨b, o, none⟩ : Addr).add j = ⟨b, o + j, none⟩ := by unfold Addr.add; split <;> simp_all
  rw [hadd]
  have hj : j < L.length * 2 := by rw [← tkI_len]; exact (List.getElem?_eq_some_iff.1 hu).1
  obtain ⟨k, hk⟩ : ∃ k, j = k * 2 ∨ j = k * 2 + 1 := ⟨j / 2, by omega⟩
  have hkl : k < L.length := by omega
  obtain ⟨b', o', c', e, _, h1, h2⟩ := h.2 k hkl
  cases e
  rcases hk with rfl | rfl
  · rw [h1]
    have := tkI_get (k := 0) hkl (by omega)
    rw [Nat.add_zero, hu] at this
    exact this.symm
  · rw [h2]
    have := tkI_get (k := 1) hkl (by omega)
    rw [hu] at this
    exact this.symm
theorem tkI_one (L : List It) : ∀ u ∈ L.flatMap tkI, u.oneCell' = true := fun u hu => by
  simp only [tkI, List.mem_flatMap, List.mem_cons, List.not_mem_nil, or_false] at hu
  obtain ⟨i, _, rfl | rfl⟩ := hu <;> rfl

set_option maxRecDepth 100000 in
set_option maxHeartbeats 1600000 in
theorem tk_clone {w : World} {lim : Nat} {bv : Value} {l : List It} (h : ItemsAt w lim bv l) (hlim : lim ≤ w.heap.size) (h0 : 0 < l.length) (hl : l.length ≤ 1000) :
    Calls Try.prog 72 #[bv] w fun e w' => ∃ g cap, e = .returned (.slice (some ⟨g, 0, none⟩) l.length cap) ∧ w'.ownsRow w.heap.size 121 2 (.slice (some ⟨g, 0, none⟩) l.length cap) l.length (l.flatMap tkI) ∧ Below w.heap.size w w' := by
  obtain ⟨lb, lo, lc, hbv, _⟩ := h.2 0 h0
  subst hbv
  have hLA := h.below ((Below.refl _ w).alloc hlim (.cells #[] 121))
  have own0 := World.ownsRow_lit (base := w.heap.size) (e := 121) (size := 2) w #[] 0 (Nat.le_refl _) (by unfold maxLen; omega) rfl
  obtain ⟨i0, hi0, hz0, hz1, hz2⟩ := info_parts Try.infoIt
  have n1 : 0 + l.length ≤ maxLen := by unfold maxLen; omega
  have n2 : (0 + l.length) * 16 ≤ 140737488355328 := by omega
  have hnw := tkI_news hLA
  have q22 : ∀ (w : World) (a : Option Addr) (n c n' c' : Nat), (binOp .eql 122 (.slice a n c) (.slice none n' c')).run Try.prog w = .ok (.bool a.isNone) w := fun w a n c n' c' => Lib.run_eql_slice_nil w _ _ a n c n' c' Try.underlying122
  clear h hLA
  go_enter Try.func72, Try.ntmps72
  go_wp2_with
    (at_builtin
     (refine wpList_append_lies _ rfl _ _ _ rfl w.heap.size 121 i0 _ 2 16 Try.underlying122 hi0 hz0 hz1 hz2 rfl (by omega) (.slice (some ⟨w.heap.size, 0, none⟩) 0 0) 0 [] rfl own0 ⟨lb, lo, none⟩ l.length lc (l.flatMap tkI) rfl (tkI_len l) hnw (tkI_one l) h0 n1 n2 (by simp) (w.heap.size + 1) (by simp) ?_)
     intro g1 cap1 w1 hown1 hgrow1 hat1 hlt1)
  go_ret
  rw [Nat.zero_add] at *
  refine ⟨g1, cap1, rfl, by simpa using hown1, ((Below.refl _ _).alloc (Nat.le_refl _) _).grown hgrow1 (by simp) (fun k hk => by simp only [Value.ownBlock, Option.some.injEq] at hk; omega)⟩

/-! ### Plain: closing a list of items, names that are done marked -/

/-- O: the items so far, of those below i all that they ask for is there; dn: the names whose rules are there. -/
structure CDk (R : List Ru) (l O : List It) (dn : List Bool) (i : Nat) : Prop where
  pre : ∃ E, O = l ++ E ∧ ∀ x ∈ E, ∃ q, q < R.length ∧ x = (q, 0)
  nod : O.Nodup
  snd : ∀ x ∈ O, Cl R (· ∈ l) x
  cls : ∀ j, j < i → j < O.length → ∀ n : Nat, (rightF R (O.getD j (0, 0)).1)[(O.getD j (0, 0)).2]? = some (false, (n : Int)) → dn.getD n false = true
  don : ∀ n : Nat, dn.getD n false = true → ∀ q, q < R.length → (R.getD q (0, [])).1 = (n : Int) → (q, 0) ∈ O
  new : ∀ q, q < R.length → (q, 0) ∈ O → ∃ n : Nat, (R.getD q (0, [])).1 = n ∧ dn.getD n false = true

section
variable {R : List Ru} {l O : List It} {dn : List Bool} {i : Nat}

theorem cdk_start {N : Nat} (hl : l.Nodup) (h0 : ∀ x ∈ l, x.2 = 0 → x.1 = R.length) : CDk R l l (List.replicate N false) 0 := by
  refine ⟨⟨[], by simp, fun x hx => by cases hx⟩, hl, fun x hx => .base hx, fun j hj => absurd hj (Nat.not_lt_zero _), fun n hn => ?_, fun q hq hm => ?_⟩
  · exfalso
    rw [List.getD, List.getElem?_replicate] at hn
    split at hn <;> simp at hn
  · have := h0 _ hm rfl
    simp only at this
    omega

theorem CDk.len (h : CDk R l O dn i) : O.length ≤ l.length + R.length := by
  obtain ⟨E, rfl, hE⟩ := h.pre
  have hn : E.Nodup := (List.nodup_append.1 h.nod).2.1
  have := nodup_sub_length (B := (List.range R.length).map fun q => ((q, 0) : It)) hn fun x hx => by
    obtain ⟨q, hq, rfl⟩ := hE x hx
    exact List.mem_map.2 ⟨q, List.mem_range.2 hq, rfl⟩
  simp only [List.length_map, List.length_range] at this
  simp only [List.length_append]
  omega

theorem CDk.skip (h : CDk R l O dn i) (hs : ∀ n : Nat, (rightF R (O.getD i (0, 0)).1)[(O.getD i (0, 0)).2]? = some (false, (n : Int)) → dn.getD n false = true) : CDk R l O dn (i + 1) :=
  ⟨h.pre, h.nod, h.snd, fun j hj hjl n hn => by
    rcases Nat.lt_succ_iff_lt_or_eq.1 hj with hj | rfl
    · exact h.cls j hj hjl n hn
    · exact hs n hn, h.don, h.new⟩

theorem mem_ruleI {m : Int} {k : Nat} {x : It} : x ∈ ruleI R m k ↔ ∃ q, q < k ∧ (R.getD q (0, [])).1 = m ∧ x = (q, 0) := by
  unfold ruleI
  rw [List.mem_map]
  constructor
  · rintro ⟨q, hq, rfl⟩
    rw [List.mem_filter, List.mem_range] at hq
    exact ⟨q, hq.1, by simpa using hq.2, rfl⟩
  · rintro ⟨q, h1, h2, rfl⟩
    exact ⟨q, List.mem_filter.2 ⟨List.mem_range.2 h1, by simpa using h2⟩, rfl⟩
theorem ruleI_nodup (m : Int) (k : Nat) : (ruleI R m k).Nodup := by
  unfold ruleI
  have h1 : ((List.range k).filter fun n => decide ((R.getD n (0, [])).1 = m)).Nodup := List.nodup_range.sublist List.filter_sublist
  generalize ((List.range k).filter fun n => decide ((R.getD n (0, [])).1 = m)) = A at h1
  induction A with
  | nil => simp
  | cons a A ih =>
    rw [List.nodup_cons] at h1
    rw [List.map_cons, List.nodup_cons]
    refine ⟨fun hm => ?_, ih h1.2⟩
    obtain ⟨b, hb, e⟩ := List.mem_map.1 hm
    simp only [Prod.mk.injEq, and_true] at e
    exact h1.1 (e ▸ hb)

theorem getD_set {L : List Bool} {n m : Nat} (hn : n < L.length) : (L.set n true).getD m false = if m = n then true else L.getD m false := by
  by_cases h : m = n
  · subst h; simp [List.getD, hn]
  · simp [List.getD, List.getElem?_set_ne (fun e => h e.symm), h]

theorem CDk.add (h : CDk R l O dn i) (hi : i < O.length) {n : Nat} (hs : (rightF R (O.getD i (0, 0)).1)[(O.getD i (0, 0)).2]? = some (false, (n : Int))) (hn : n < dn.length) (hd : dn.getD n false = false) : CDk R l (O ++ ruleI R n R.length) (dn.set n true) (i + 1) := by
  have get : ∀ j, j < O.length → (O ++ ruleI R n R.length).getD j (0, 0) = O.getD j (0, 0) := fun j hj => by simp [List.getD, List.getElem?_append_left hj]
  have hO : O.getD i (0, 0) ∈ O := by simp [List.getD, hi]
  have up : ∀ m, dn.getD m false = true → (dn.set n true).getD m false = true := fun m hm => by rw [getD_set hn]; split <;> simp_all
  have hnew : ∀ x ∈ ruleI R n R.length, x ∉ O := fun x hx hxO => by
    obtain ⟨q, hq, hL, rfl⟩ := mem_ruleI.1 hx
    obtain ⟨m, h1, h2⟩ := h.new q hq hxO
    rw [hL] at h1
    have : m = n := by omega
    rw [this, hd] at h2
    cases h2
  -- an item among the new ones has nothing read, and its name is done or not: it is looked at later
  refine ⟨?_, ?_, fun x hx => ?_, fun j hj hjl m hm => ?_, fun m hm q hq hL => ?_, fun q hq hx => ?_⟩
  · obtain ⟨E, hE, hE2⟩ := h.pre
    refine ⟨E ++ ruleI R n R.length, by rw [hE, List.append_assoc], fun x hx => ?_⟩
    rcases List.mem_append.1 hx with hx | hx
    · exact hE2 x hx
    · obtain ⟨q, hq, _, rfl⟩ := mem_ruleI.1 hx
      exact ⟨q, hq, rfl⟩
  · rw [List.nodup_append]
    exact ⟨h.nod, ruleI_nodup _ _, fun a ha b hb e => hnew b hb (e ▸ ha)⟩
  · rcases List.mem_append.1 hx with hx | hx
    · exact h.snd x hx
    · obtain ⟨q, hq, hL, rfl⟩ := mem_ruleI.1 hx
      exact .step (h.snd _ hO) hs hq hL
  · rw [get j (by omega)] at hm
    rcases Nat.lt_succ_iff_lt_or_eq.1 hj with hj | rfl
    · exact up m (h.cls j hj (by omega) m hm)
    · rw [hs] at hm
      simp only [Option.some.injEq, Prod.mk.injEq, true_and] at hm
      have : m = n := by omega
      subst this
      rw [getD_set hn, if_pos rfl]
  · rw [getD_set hn] at hm
    split at hm
    · rename_i e
      subst e
      exact List.mem_append_right _ (mem_ruleI.2 ⟨q, hq, hL, rfl⟩)
    · exact List.mem_append_left _ (h.don m hm q hq hL)
  · rcases List.mem_append.1 hx with hx | hx
    · obtain ⟨m, h1, h2⟩ := h.new q hq hx
      exact ⟨m, h1, up m h2⟩
    · obtain ⟨q', hq', hL, e⟩ := mem_ruleI.1 hx
      cases e
      exact ⟨n, hL, by rw [getD_set hn, if_pos rfl]⟩

theorem CDk.all (h : CDk R l O dn i) (hi : O.length ≤ i) (hsy : ∀ r, r ≤ R.length → ∀ s ∈ rightF R r, s.1 = false → 0 ≤ s.2) (hv : ∀ x ∈ l, x.1 ≤ R.length) : ∀ x, x ∈ O ↔ Cl R (· ∈ l) x := fun x => by
  refine ⟨h.snd x, fun hc => ?_⟩
  have hR : ∀ x, Cl R (· ∈ l) x → x.1 ≤ R.length := fun x hx => by
    induction hx with
    | base hb => exact hv _ hb
    | step _ _ h2 _ _ => exact Nat.le_of_lt h2
  induction hc with
  | base hb =>
    obtain ⟨E, rfl, _⟩ := h.pre
    exact List.mem_append_left _ hb
  | step hc h1 h2 h3 ih =>
    rename_i r d n m
    obtain ⟨j, hj, he⟩ := List.getElem_of_mem ih
    have e : O.getD j (0, 0) = O[j] := by simp [List.getD, hj]
    have hm : 0 ≤ m := hsy r (hR _ hc) (false, m) (List.mem_of_getElem? h1) rfl
    obtain ⟨k, rfl⟩ : ∃ k : Nat, m = k := ⟨m.toNat, by omega⟩
    exact h.don k (h.cls j (by omega) hj k (by rw [e, he]; exact h1)) n h2 h3
end

/-! ### The walk -/

def P2 (ov : Value) (O : List It) (dg N : Nat) (dn : List Bool) : Bool → Option Row
  | false => some ⟨ov, 121, 2, O.length, O.flatMap tkI⟩
  | true => some ⟨.slice (some ⟨dg, 0, none⟩) N N, 4, 1, N, dn.map Value.bool⟩

theorem p2_items {ov ov' : Value} {O O' : List It} {dg N : Nat} {dn : List Bool} : upd (P2 ov O dg N dn) false ⟨ov', 121, 2, O'.length, O'.flatMap tkI⟩ = P2 ov' O' dg N dn := by
  funext i
  cases i <;> simp [upd, P2]
theorem p2_done {ov : Value} {O : List It} {dg N n : Nat} {dn : List Bool} : upd (P2 ov O dg N dn) true ⟨.slice (some ⟨dg, 0, none⟩) N N, 4, 1, N, (dn.map Value.bool).set n (.bool true)⟩ = P2 ov O dg N (dn.set n true) := by
  funext i
  cases i <;> simp [upd, P2, List.map_set]

set_option maxRecDepth 100000 in
set_option maxHeartbeats 6400000 in
theorem tk_closed {w : World} {lim ab T N : Nat} {rv bv : Value} {R : List Ru} {l : List It} (hA : AutoG w lim ab T N rv R) (hI : ItemsAt w w.heap.size bv l) (hnd : l.Nodup) (h0 : 0 < l.length) (hl : l.length ≤ 500) (hok : ∀ x ∈ l, OkIt R x) (hz : ∀ x ∈ l, x.2 = 0 → x.1 = R.length) (hR : R.length ≤ 40)
    (hsy : ∀ r, r ≤ R.length → ∀ s ∈ rightF R r, s.1 = false → 0 ≤ s.2 ∧ s.2 < (N : Int)) (hN : N ≤ 12) :
    Calls Try.prog 61 #[.pointer (some ⟨ab, 0, none⟩), bv] w fun e w' => ∃ (g cap : Nat) (C : List It), e = .returned (.slice (some ⟨g, 0, none⟩) C.length cap) ∧ w'.ownsRow w.heap.size 121 2 (.slice (some ⟨g, 0, none⟩) C.length cap) C.length (C.flatMap tkI) ∧ C.Pairwise ltI ∧ (∀ i, i ∈ C ↔ Cl R (· ∈ l) i) ∧ C.length ≤ 600 ∧ Below w.heap.size w w' := by
  have cl := tk_clone hI (Nat.le_refl _) h0 (by omega)
  have HA : Hid (AutoG w lim ab T N rv R) := hA
  have HOk : Hid (∀ x ∈ l, OkIt R x) := hok
  have HSy : Hid (∀ r, r ≤ R.length → ∀ s ∈ rightF R r, s.1 = false → 0 ≤ s.2 ∧ s.2 < (N : Int)) := hsy
  have HC0 : Hid (CDk R l l (List.replicate N false) 0) := cdk_start hnd hz
  clear hA hI hnd hok hz hsy
  go_enter Try.func61, Try.ntmps61
  have mkB := make_bools N (by omega)
  go_wp2_with
    (go_at_call 72; refine cl.mono ?_; rintro e w1 ⟨g1, cap1, rfl, hrow1, hB1⟩
     have a1 := (HA.out.later hB1).n
     have HB1 : Hid (Below w.heap.size w w1) := hB1
     have HR1 : Hid (w1.ownsRow w.heap.size 121 2 (.slice (some ⟨g1, 0, none⟩) l.length cap1) l.length (l.flatMap tkI)) := hrow1
     clear hB1 hrow1 cl)
  have HB2 : Hid (Below w.heap.size w (w1.alloc (.cells (madeCells #[.bool false] N) 4))) := HB1.out.alloc HB1.out.size _
  have HO2 : Hid (Owns (w1.alloc (.cells (madeCells #[.bool false] N) 4)) w.heap.size (P2 (.slice (some ⟨g1, 0, none⟩) l.length cap1) l w1.heap.size N (List.replicate N false))) := by
    have hb := (row_made w1 (N := N) (by unfold maxLen; omega)).mono HB1.out.size
    have hi := HR1.out.alloc (.cells (madeCells #[.bool false] N) 4)
    refine ⟨fun i r hr => ?_, fun i j a b hij ha hb' g h1 h2 => ?_⟩
    · cases i <;> simp only [P2, Option.some.injEq] at hr <;> subst hr
      · exact hi
      · exact hb
    · have hlt := (HR1.out.lt g1 rfl).2
      cases i <;> cases j <;> simp only [P2, Option.some.injEq] at ha hb' <;> subst ha <;> subst hb' <;> simp only [Value.ownBlock, Option.some.injEq] at h1 h2
      · exact hij rfl
      · omega
      · omega
      · exact hij rfl
  generalize w1.alloc (.cells (madeCells #[.bool false] N) 4) = W2 at HB2 HO2 ⊢
  obtain ⟨dg, hdg⟩ : ∃ dg, w1.heap.size = dg := ⟨_, rfl⟩
  rw [hdg] at HO2 ⊢
  clear hdg mkB a1 HB1 HR1
  go_loopw [5, 7] (fun s5 s7 wr => ∃ (i g cap : Nat) (O : List It) (dn : List Bool), s5 = .slice (some ⟨g, 0, none⟩) O.length cap ∧ s7 = .int .i64 i ∧ i ≤ O.length ∧ Below w.heap.size w wr ∧ Owns wr w.heap.size (P2 (.slice (some ⟨g, 0, none⟩) O.length cap) O dg N dn) ∧ CDk R l O dn i) (fun _ s _ => l.length + R.length + 1 - (intOf s).toNat)
  case atStart => exact ⟨0, g1, cap1, l, _, rfl, rfl, Nat.zero_le _, HB2.out, HO2.out, HC0.out⟩
  case round =>
    clear HB2 HO2 HC0
    obtain ⟨i, g, cap, O, dn, rfl, rfl, hi, hB, hO, hC⟩ := hrel
    have HB : Hid (Below w.heap.size w wr) := hB
    have HO : Hid (Owns wr w.heap.size (P2 (.slice (some ⟨g, 0, none⟩) O.length cap) O dg N dn)) := hO
    have HC : Hid (CDk R l O dn i) := hC
    have hlen := hC.len
    have hrow : wr.ownsRow w.heap.size 121 2 (.slice (some ⟨g, 0, none⟩) O.length cap) O.length (O.flatMap tkI) := hO.own false _ rfl
    by_cases hlt : i < O.length
    · obtain ⟨b', o', c', hve, _, q0, q1⟩ := (tk_items hrow rfl).2 i hlt
      cases hve
      simp only [Nat.zero_add] at q0 q1
      obtain ⟨⟨a, b⟩, hab⟩ : ∃ x, O.getD i (0, 0) = x := ⟨_, rfl⟩
      rw [hab] at q0 q1
      simp only at q0 q1
      have hmem : (a, b) ∈ O := by rw [← hab]; simp [List.getD, hlt]
      have ok := cl_ok HOk.out (hC.snd _ hmem)
      have hAr := HA.out.below hB HA.out.le HA.out.lt
      have i0 : (0 : Int) ≤ (i : Int) := Int.natCast_nonneg _
      have i1 : (i : Int) < (O.length : Int) := by omega
      have HAB : Hid (O.getD i (0, 0) = (a, b)) := hab
      have HAr : Hid (AutoG wr lim ab T N rv R) := hAr
      have hdr : wr.ownsRow w.heap.size 4 1 (.slice (some ⟨dg, 0, none⟩) N N) N (dn.map Value.bool) := hO.own true _ rfl
      have hdl : dn.length = N := by have := hdr.1; simpa using this
      cases hnx : (rightF R a)[b]? with
      | none =>
        have nx := tk_next_none (a := a) (b := b) hAr ok.1 (by have := List.getElem?_eq_none_iff.1 hnx; have h2 : b ≤ (rightF R a).length := ok.2; omega)
        have HS : Hid (CDk R l O dn (i + 1)) := hC.skip fun n hn => by rw [hab] at hn; simp only at hn; rw [hnx] at hn; cases hn
        clear hB hO hC hab hmem ok hAr hdr hdl hrow
        go_wp2_with
          (go_at_call 65; refine nx.mono ?_; rintro e w2 ⟨rfl, hB2⟩)
        go_roundw
        case rel =>
          have hb := hB2.alloc hB2.size (.cells #[.bool false, .int .i64 0] 102)
          exact ⟨i + 1, g, cap, O, dn, rfl, by go_num, by omega, HB.out.trans (hb.mono HB.out.size), HO.out.below hb (Nat.le_refl _), HS.out⟩
        case measure => simp [intOf]; omega
      | some s =>
        have nx := tk_next_some hAr ok.1 hnx
        have hss := HSy.out a ok.1 s (List.mem_of_getElem? hnx)
        obtain ⟨sb, sv⟩ := s
        simp only at hss nx
        cases sb with
        | true =>
          have HS : Hid (CDk R l O dn (i + 1)) := hC.skip fun n hn => by rw [hab] at hn; simp only at hn; rw [hnx] at hn; cases hn
          clear hB hO hC hab hmem ok hAr hdr hdl hrow hss
          go_wp2_with
            (go_at_call 65; refine nx.mono ?_; rintro e w2 ⟨rfl, hB2⟩)
          go_roundw
          case rel =>
            have hb := hB2.alloc hB2.size (.cells #[.bool true, .int .i64 sv] 102)
            exact ⟨i + 1, g, cap, O, dn, rfl, by go_num, by omega, HB.out.trans (hb.mono HB.out.size), HO.out.below hb (Nat.le_refl _), HS.out⟩
          case measure => simp [intOf]; omega
        | false =>
          obtain ⟨n0, n1⟩ := hss rfl
          obtain ⟨n, rfl⟩ : ∃ n : Nat, sv = n := ⟨sv.toNat, by omega⟩
          have hnN : n < N := by omega
          have n2 : (n : Int) < (N : Int) := by omega
          have dcell : wr.cell? ⟨dg, n, none⟩ = some (.bool (dn.getD n false)) := by
            rw [hdr.cellAt n (by omega)]
            simp [List.getD, show n < dn.length by omega]
          have dfro : wr.frozen? ⟨dg, n, none⟩ = false := hdr.frozenAt n
          have hdgl : dg < wr.heap.size := (hdr.lt dg rfl).2
          have hdgB : w.heap.size ≤ dg := (hdr.lt dg rfl).1
          cases hd : dn.getD n false with
          | true =>
            rw [hd] at dcell
            have HS : Hid (CDk R l O dn (i + 1)) := hC.skip fun m hm => by
              rw [hab] at hm
              simp only at hm
              rw [hnx] at hm
              simp only [Option.some.injEq, Prod.mk.injEq, true_and] at hm
              have : m = n := by omega
              rw [this]
              exact hd
            clear hB hO hC hab hmem ok hAr hdr hdl hrow hss hd dfro
            go_wp2_with
              (go_at_call 65; refine nx.mono ?_; rintro e w2 ⟨rfl, hB2⟩
               have dc2 := (hB2.cell (p := ⟨dg, n, none⟩) hdgl).trans dcell
               have dl2 : dg < w2.heap.size := Nat.lt_of_lt_of_le hdgl hB2.size
               have HB2 : Hid (Below wr.heap.size wr w2) := hB2
               clear hB2)
            go_roundw
            case rel =>
              have hb := HB2.out.alloc HB2.out.size (.cells #[.bool false, .int .i64 n] 102)
              exact ⟨i + 1, g, cap, O, dn, rfl, by go_num, by omega, HB.out.trans (hb.mono HB.out.size), HO.out.below hb (Nat.le_refl _), HS.out⟩
            case measure => simp [intOf]; omega
          | false =>
            rw [hd] at dcell
            have HS : Hid (CDk R l (O ++ ruleI R n R.length) (dn.set n true) (i + 1)) := hC.add hlt (by rw [hab]; exact hnx) (by omega) hd
            obtain ⟨RI, hRI⟩ : ∃ RI, ruleI R n R.length = RI := ⟨_, rfl⟩
            have hRIl : RI.length ≤ 40 := by rw [← hRI]; exact Nat.le_trans (ruleI_len _ _ _) hR
            have HRI : Hid (ruleI R n R.length = RI) := hRI
            rw [hRI] at HS
            have hOg : Owns (wr.setCell ⟨dg, n, none⟩ (.bool true)) w.heap.size (P2 (.slice (some ⟨g, 0, none⟩) O.length cap) O dg N (dn.set n true)) := by
              have := hO.store (i := true) (g := dg) (n := N) (cap := N) (e := 4) (size := 1) (xs := dn.map Value.bool) rfl n (.bool true)
              rw [p2_done] at this
              exact this
            -- the same in whatever comes of wr above it
            have HStep : Hid (∀ w2, Below wr.heap.size wr w2 → Owns ((w2.setCell ⟨dg, n, none⟩ (.bool true)).alloc (.cells #[.bool false, .int .i64 n] 102)) w.heap.size (P2 (.slice (some ⟨g, 0, none⟩) O.length cap) O dg N (dn.set n true)) ∧
                Below w.heap.size w ((w2.setCell ⟨dg, n, none⟩ (.bool true)).alloc (.cells #[.bool false, .int .i64 n] 102))) := fun w2 hB2 => by
              have h1 := HO.out.below hB2 (Nat.le_refl _)
              have h2 := h1.store (i := true) (g := dg) (n := N) (cap := N) (e := 4) (size := 1) (xs := dn.map Value.bool) rfl n (.bool true)
              rw [p2_done] at h2
              have h3 : Below w.heap.size w w2 := HB.out.trans (hB2.mono HB.out.size)
              exact ⟨h2.alloc _, (h3.setCell (by simp only; omega) _).alloc (by simpa using h3.size) _⟩
            obtain ⟨i0', hi0, hz0, hz1, hz2⟩ := info_parts Try.infoIt
            have m1 : O.length + RI.length ≤ maxLen := by unfold maxLen; omega
            have m2 : (O.length + RI.length) * 16 ≤ 140737488355328 := by omega
            clear hB hO hC hab hmem ok hAr hdr hdl hrow hss hd hRI hOg
            by_cases hnil : RI = []
            · subst hnil
              simp only [List.append_nil] at HS
              go_wp2_with
                (first
                 | (go_at_call 65; refine nx.mono ?_; rintro e w2 ⟨rfl, hB2⟩
                    have dc2 := (hB2.cell (p := ⟨dg, n, none⟩) hdgl).trans dcell
                    have df2 := (hB2.frozen (p := ⟨dg, n, none⟩) hdgl).trans dfro
                    have dl2 : dg < w2.heap.size := Nat.lt_of_lt_of_le hdgl hB2.size
                    obtain ⟨hO4, hB4⟩ := HStep.out w2 hB2
                    have HO4 : Hid (Owns ((w2.setCell ⟨dg, n, none⟩ (.bool true)).alloc (.cells #[.bool false, .int .i64 n] 102)) w.heap.size (P2 (.slice (some ⟨g, 0, none⟩) O.length cap) O dg N (dn.set n true))) := hO4
                    have HB4 : Hid (Below w.heap.size w ((w2.setCell ⟨dg, n, none⟩ (.bool true)).alloc (.cells #[.bool false, .int .i64 n] 102))) := hB4
                    have rul := tk_rulesOf (m := (n : Int)) (HA.out.below hB4 HA.out.le HA.out.lt) hR
                    rw [HRI.out] at rul
                    clear hB2 hO4 hB4 nx)
                 | (go_at_call 68; refine rul.mono ?_; rintro e w5 ⟨rv5, rfl, hrow5, hB5, hn5⟩
                    obtain rfl := hn5 (by trivial)
                    have own5 : w5.ownsRow w.heap.size 121 2 (.slice (some ⟨g, 0, none⟩) O.length cap) O.length (O.flatMap tkI) := (HO4.out.below hB5 (Nat.le_refl _)).own false _ rfl
                    have HB5 : Hid (Below w.heap.size w w5 ∧ Owns w5 w.heap.size (P2 (.slice (some ⟨g, 0, none⟩) O.length cap) O dg N (dn.set n true))) := ⟨HB4.out.trans (hB5.mono HB4.out.size), HO4.out.below hB5 (Nat.le_refl _)⟩
                    clear hrow5 hB5 hn5 rul)
                 | (at_builtin
                    (refine wpList_append_own_none rfl _ _ _ rfl w.heap.size 121 i0' 2 Try.underlying122 hi0 (.slice (some ⟨g, 0, none⟩) O.length cap) O.length (O.flatMap tkI) rfl own5 rfl ?_)))
              go_roundw
              case rel => exact ⟨i + 1, g, cap, O, dn.set n true, rfl, by go_num, by omega, HB5.out.1, HB5.out.2, HS.out⟩
              case measure => simp [intOf]; omega
            · have hpos : 0 < RI.length := List.length_pos_iff.2 hnil
              clear hnil
              go_wp2_with
                (first
                 | (go_at_call 65; refine nx.mono ?_; rintro e w2 ⟨rfl, hB2⟩
                    have dc2 := (hB2.cell (p := ⟨dg, n, none⟩) hdgl).trans dcell
                    have df2 := (hB2.frozen (p := ⟨dg, n, none⟩) hdgl).trans dfro
                    have dl2 : dg < w2.heap.size := Nat.lt_of_lt_of_le hdgl hB2.size
                    obtain ⟨hO4, hB4⟩ := HStep.out w2 hB2
                    have HO4 : Hid (Owns ((w2.setCell ⟨dg, n, none⟩ (.bool true)).alloc (.cells #[.bool false, .int .i64 n] 102)) w.heap.size (P2 (.slice (some ⟨g, 0, none⟩) O.length cap) O dg N (dn.set n true))) := hO4
                    have HB4 : Hid (Below w.heap.size w ((w2.setCell ⟨dg, n, none⟩ (.bool true)).alloc (.cells #[.bool false, .int .i64 n] 102))) := hB4
                    have rul := tk_rulesOf (m := (n : Int)) (HA.out.below hB4 HA.out.le HA.out.lt) hR
                    rw [HRI.out] at rul
                    clear hB2 hO4 hB4 nx)
                 | (go_at_call 68; refine rul.mono ?_; rintro e w5 ⟨rv5, rfl, hrow5, hB5, -⟩
                    obtain ⟨rg, rcap, hrv5, _, _⟩ := hrow5.form hpos
                    subst hrv5
                    have own5 : w5.ownsRow w.heap.size 121 2 (.slice (some ⟨g, 0, none⟩) O.length cap) O.length (O.flatMap tkI) := (HO4.out.below hB5 (Nat.le_refl _)).own false _ rfl
                    have hnw5 := tkI_news (tk_items hrow5 rfl)
                    have HB5 : Hid (Below w.heap.size w w5 ∧ Owns w5 w.heap.size (P2 (.slice (some ⟨g, 0, none⟩) O.length cap) O dg N (dn.set n true))) := ⟨HB4.out.trans (hB5.mono HB4.out.size), HO4.out.below hB5 (Nat.le_refl _)⟩
                    have hsz5 : w.heap.size ≤ w5.heap.size := HB5.out.1.size
                    clear hrow5 hB5 rul)
                 | (at_builtin
                    (refine wpList_append_lies _ rfl _ _ _ rfl w.heap.size 121 i0' _ 2 16 Try.underlying122 hi0 hz0 hz1 hz2 rfl (by omega) (.slice (some ⟨g, 0, none⟩) O.length cap) O.length (O.flatMap tkI) rfl own5 ⟨rg, 0, none⟩ RI.length rcap (RI.flatMap tkI) rfl (tkI_len RI) hnw5 (tkI_one RI) hpos m1 m2 hsz5 w5.heap.size rfl ?_)
                    intro g6 cap6 w6 hown6 hgrow6 hat6 hlt6))
              go_roundw
              case rel =>
                have hB6 : Below w.heap.size w w6 := HB5.out.1.grown hgrow6 HB5.out.1.size (fun j hj => (own5.lt j hj).1)
                have h6 := HB5.out.2.turn (i := false) (r' := ⟨.slice (some ⟨g6, 0, none⟩) (O.length + RI.length) cap6, 121, 2, (O ++ RI).length, (O ++ RI).flatMap tkI⟩) rfl hgrow6 (by rw [List.length_append, List.flatMap_append]; exact hown6) (fun g' hg' => by simp only [Value.ownBlock, Option.some.injEq] at hg'; subst hg'; exact hat6)
                rw [p2_items] at h6
                refine ⟨i + 1, g6, cap6, O ++ RI, dn.set n true, by rw [List.length_append], by go_num, by rw [List.length_append]; omega, hB6, by rw [List.length_append]; exact h6, HS.out⟩
              case measure => simp [intOf]; omega
    · obtain rfl : i = O.length := by omega
      have srt := tk_sort hrow (by omega) hC.nod
      have HAll : Hid (∀ x, x ∈ O ↔ Cl R (· ∈ l) x) := hC.all (Nat.le_refl _) (fun r hr s hs he => (HSy.out r hr s hs he).1) (fun x hx => (HOk.out x hx).1)
      clear hB hO hC hrow
      go_wp2_with
        (go_at_call 73; refine srt.mono ?_; rintro e w2 ⟨rfl, C, hCl, hCs, hCm, hCo, hCg⟩)
      go_ret
      rw [← hCl] at hCo
      refine ⟨g, cap, C, by rw [hCl]; rfl, hCo, hCs, fun x => (hCm x).trans (HAll.out x), by omega, ?_⟩
      exact HB.out.grown hCg HB.out.size (fun j hj => by
        simp only [Option.some.injEq] at hj
        subst hj
        have := (HO.out.own false _ rfl).lt g rfl
        exact this.1)

end Go.Proofs.Ytobegekmgoiopaa
