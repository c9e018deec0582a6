import Derived.Test.YtobegekmgoiopaaBuildMathAndMayFine
import Derived.Test.YtobegekmgoiopaaChartMemAndChartBegin
import Derived.Test.YtobegekmgoiopaaTkLookAndRowI
import Derived.Deep.CutRange
/- The contracts of slices.Index and slices.Contains, of numbers. -/
namespace Go.Proofs.Ytobegekmgoiopaa
open Go.RowKit

set_option maxRecDepth 100000 in
set_option maxHeartbeats 1600000 in
theorem index_any {w : World} {lim : Nat} {sv : Value} {L : List Int} (h : ListAt w lim sv L) (hl : L.length ≤ 1000000) (x : Int) :
    Calls Try.prog 42 #[sv, .int .i64 x] w fun e w' => (∃ r : Int, e = .returned (.int .i64 r) ∧ (0 ≤ r ↔ x ∈ L)) ∧ w' = w := by
  obtain ⟨sa, sc, hsv⟩ := h.1
  subst hsv
  have HL : Hid (ListAt w lim (.slice sa L.length sc) L) := h
  clear h
  go_enter Try.func42, Try.ntmps42
  go_wp2_with fail
  go_loop [8] (fun s => ∃ k : Nat, s = .int .i64 k ∧ k ≤ L.length ∧ x ∉ L.take k) (fun s => L.length - (intOf s).toNat)
  case atStart => exact ⟨0, rfl, Nat.zero_le _, by simp⟩
  case round =>
    obtain ⟨k, rfl, hk, hn⟩ := hrel
    by_cases hlt : k < L.length
    · obtain ⟨b, o, sc', he, _, c1⟩ := HL.out.2 k hlt
      injection he with ha _ hc
      subst ha
      subst hc
      obtain ⟨y, hy⟩ : ∃ y, L.getD k 0 = y := ⟨_, rfl⟩
      rw [hy] at c1
      have hyk : L[k] = y := by rw [← hy]; simp [List.getD, hlt]
      have HT : Hid (L.take (k + 1) = L.take k ++ [y]) := by show L.take (k + 1) = _; rw [List.take_succ_eq_append_getElem hlt, hyk]
      have HM : Hid (y ∈ L) := by show y ∈ L; rw [← hyk]; exact List.getElem_mem hlt
      have HN : Hid (x ∉ L.take k) := hn
      have i0 : (0 : Int) ≤ (k : Int) := Int.natCast_nonneg _
      have i1 : (k : Int) < (L.length : Int) := by omega
      clear hn hy hyk
      by_cases hxy : x = y
      · subst hxy
        go_wp2_with fail
        go_ret
        exact ⟨⟨k, rfl, fun _ => HM.out, fun _ => i0⟩, rfl⟩
      · have hb : (x == y) = false := by simpa using hxy
        go_wp2_with fail
        go_round
        case rel => exact ⟨k + 1, by go_num, by omega, by rw [HT.out]; simp only [List.mem_append, List.mem_singleton, not_or]; exact ⟨HN.out, hxy⟩⟩
        case measure => simp [intOf]; omega
    · have HN : Hid (x ∉ L) := by
        show x ∉ L
        rw [List.take_of_length_le (by omega)] at hn
        exact hn
      clear hn
      go_wp2_with fail
      go_ret
      exact ⟨⟨-1, rfl, fun h => by omega, fun h => absurd h HN.out⟩, rfl⟩

set_option maxRecDepth 100000 in
set_option maxHeartbeats 1600000 in
theorem contains_any {w : World} {lim : Nat} {sv : Value} {L : List Int} (h : ListAt w lim sv L) (hl : L.length ≤ 1000000) (x : Int) :
    Calls Try.prog 26 #[sv, .int .i64 x] w fun e w' => e = .returned (.bool (decide (x ∈ L))) ∧ w' = w := by
  have ix := index_any h hl x
  clear h
  by_cases hx : x ∈ L
  · rw [decide_eq_true hx]
    go_enter Try.func26, Try.ntmps26
    go_wp2_with (go_at_call 42; refine ix.mono ?_; rintro e w1 ⟨⟨r, rfl, hr⟩, rfl⟩; have h0 : 0 ≤ r := hr.2 hx; clear hr)
    go_ret
    exact ⟨rfl, rfl⟩
  · rw [decide_eq_false hx]
    go_enter Try.func26, Try.ntmps26
    go_wp2_with (go_at_call 42; refine ix.mono ?_; rintro e w1 ⟨⟨r, rfl, hr⟩, rfl⟩; have h0 : decide (0 ≤ r) = false := decide_eq_false (fun h => hx (hr.1 h)); clear hr)
    go_ret
    exact ⟨rfl, rfl⟩

end Go.Proofs.Ytobegekmgoiopaa

/- The contract of recog's end. -/
namespace Go.Proofs.Ytobegekmgoiopaa
open Go.RowKit

section
variable {w : World} {B nm : Nat} {d : Ad} {v : CM} {st : ChS}

theorem ChM.mono {nm' : Nat} (h : ChM w B d v st nm) (hn : nm ≤ nm') : ChM w B d v st nm' :=
  ⟨h.own, h.mapI, h.mapW.mono hn, h.mapE.mono hn, h.nilW, h.nilE, h.ne1, h.ne2, h.ne3, h.ge⟩

theorem look_E (h : ChM w B d v st nm) {s : Spt} (h0 : 0 ≤ s.1) (h1 : s.1 ≤ 1000) (h2 : s.2 ≤ 1000) (hn : nm ≤ 1000000) : (Instr.lookup 72 (.map (some d.me)) (spV s) false).run Try.prog w = .ok (v.VE s) w := by
  obtain ⟨l, hl⟩ := key_sp h0 h1 h2
  have := mapAt_look h.mapE false (by unfold maxLen; omega) spLaw Try.underlying72 (zero_ints w) spV_inj hl
  rw [this]
  by_cases hi : (st.E s).length = 0
  · simp [inV, hi, h.nilE s hi]
  · simp [inV, hi]

theorem look_W (h : ChM w B d v st nm) {s : Spt} (h0 : 0 ≤ s.1) (h1 : s.1 ≤ 1000) (h2 : s.2 ≤ 1000) (hn : nm ≤ 1000000) : (Instr.lookup 71 (.map (some d.mw)) (spV s) false).run Try.prog w = .ok (v.VW s) w := by
  obtain ⟨l, hl⟩ := key_sp h0 h1 h2
  have := mapAt_look h.mapW false (by unfold maxLen; omega) spLaw Try.underlying71 (zero_items w) spV_inj hl
  rw [this]
  by_cases hi : (st.W s).length = 0
  · simp [inV, hi, h.nilW s hi]
  · simp [inV, hi]

theorem inV_E (h : ChM w B d v st nm) (s : Spt) : (inV st.E v.VE s).getD (.slice none 0 0) = v.VE s := by
  by_cases hi : (st.E s).length = 0
  · simp [inV, hi, h.nilE s hi]
  · simp [inV, hi]
theorem inV_W (h : ChM w B d v st nm) (s : Spt) : (inV st.W v.VW s).getD (.slice none 0 0) = v.VW s := by
  by_cases hi : (st.W s).length = 0
  · simp [inV, hi, h.nilW s hi]
  · simp [inV, hi]

/-- The entry of the ends is taken; a store to it later. -/
theorem entry_E (h : ChM w B d v st nm) {s : Spt} (h0 : 0 ≤ s.1) (h1 : s.1 ≤ 1000) (h2 : s.2 ≤ 1000) (hn : nm ≤ 1000000) :
    ∃ (z : Nat) (w1 : World), (Instr.mapEntry 72 (.map (some d.me)) (spV s)).run Try.prog w = .ok (.tuple #[v.VE s, .int .i64 z]) w1 ∧ w.grownBy w1 (some d.me) ∧ w1.heap.size = w.heap.size ∧
      ∀ (w2 : World) (val : Value), w2.heap[d.me]? = w1.heap[d.me]? → ∃ w3, (Instr.entryStore 72 (.map (some d.me)) (.int .i64 z) val).run Try.prog w2 = .ok () w3 ∧ MapAt Try.prog 78 spV w3 d.me (nm + 1) (setM (inV st.E v.VE) s val) ∧ w2.grownBy w3 (some d.me) ∧ w3.heap.size = w2.heap.size := by
  obtain ⟨l, hl⟩ := key_sp h0 h1 h2
  obtain ⟨z, w1, e1, e2, e3, e4⟩ := mapAt_entry h.mapE (by unfold maxLen; omega) spLaw Try.underlying72 zero_ints spV_inj hl
  rw [inV_E h] at e1
  exact ⟨z, w1, e1, e2, e3, e4⟩

theorem entry_W (h : ChM w B d v st nm) {s : Spt} (h0 : 0 ≤ s.1) (h1 : s.1 ≤ 1000) (h2 : s.2 ≤ 1000) (hn : nm ≤ 1000000) :
    ∃ (z : Nat) (w1 : World), (Instr.mapEntry 71 (.map (some d.mw)) (spV s)).run Try.prog w = .ok (.tuple #[v.VW s, .int .i64 z]) w1 ∧ w.grownBy w1 (some d.mw) ∧ w1.heap.size = w.heap.size ∧
      ∀ (w2 : World) (val : Value), w2.heap[d.mw]? = w1.heap[d.mw]? → ∃ w3, (Instr.entryStore 71 (.map (some d.mw)) (.int .i64 z) val).run Try.prog w2 = .ok () w3 ∧ MapAt Try.prog 78 spV w3 d.mw (nm + 1) (setM (inV st.W v.VW) s val) ∧ w2.grownBy w3 (some d.mw) ∧ w3.heap.size = w2.heap.size := by
  obtain ⟨l, hl⟩ := key_sp h0 h1 h2
  obtain ⟨z, w1, e1, e2, e3, e4⟩ := mapAt_entry h.mapW (by unfold maxLen; omega) spLaw Try.underlying71 zero_items spV_inj hl
  rw [inV_W h] at e1
  exact ⟨z, w1, e1, e2, e3, e4⟩

theorem ends_list (h : ChM w B d v st nm) (s : Spt) : ListAt w w.heap.size (v.VE s) ((st.E s).map fun j : Nat => (j : Int)) := by
  have ho := h.own.own (.en s) _ rfl
  simp only at ho
  obtain ⟨a, c, hv⟩ := own_form ho
  refine ⟨⟨a, c, by simpa using hv⟩, fun p hp => ?_⟩
  have hp' : p < (st.E s).length := by simpa using hp
  obtain ⟨g, cap, hg, _, hlt⟩ := ho.form (by omega)
  refine ⟨g, 0, cap, by simpa using hg, hlt, ?_⟩
  rw [Nat.zero_add]
  have := row_num ho hg hp' rfl
  rw [this]
  simp [List.getD, hp']
end

set_option maxRecDepth 100000 in
set_option maxHeartbeats 3200000 in
theorem end_old {w : World} {B nm : Nat} {d : Ad} {v : CM} {st : ChS} (h : ChM w B d v st nm) {n : Int} {p j : Nat} (h0 : 0 ≤ n) (h1 : n ≤ 1000) (h2 : p ≤ 1000) (hn : nm ≤ 1000000) (hE : (st.E (n, p)).length ≤ 1000000) (hin : j ∈ st.E (n, p)) :
    Calls Try.prog 39 #[.pointer (some ⟨d.ca, 0, none⟩), .agg #[.int .i64 n, .int .i64 p], .int .i64 j] w fun r w' => r = .returned (.tuple #[]) ∧ ChM w' B d v st nm ∧ Goes d v v w w' := by
  have k1 := h.alloc (.cells #[.int .i64 n, .int .i64 p] 78)
  have c7 := (k1.cell (i := 7) rfl (by omega)).1
  have l1 := look_E k1.drew (s := (n, p)) h0 h1 h2 hn
  unfold spV at l1
  simp only at l1
  have ct := contains_any (ends_list k1.drew (n, p)) (by simpa using hE) j
  rw [decide_eq_true (List.mem_map.2 ⟨j, hin, rfl⟩)] at ct
  obtain ⟨ev, hev⟩ : ∃ ev, v.VE (n, p) = ev := ⟨_, rfl⟩
  rw [hev] at l1 ct
  have HH : Hid (ChM w B d v st nm) := h
  clear h k1 hin hev
  go_enter Try.func39, Try.ntmps39
  go_wp2_with fail
  refine wp_region_tail 7 (by kernel_rfl) (by kernel_rfl) ?_
  simp only [List.take_succ_cons, List.take_zero, List.drop_succ_cons, List.drop_zero]
  repeat still_step
  refine wpStill_nil ?_
  go_wp2_with (go_at_call 26; refine ct.mono ?_; rintro r w1 ⟨rfl, rfl⟩)
  refine bodyPost_ret (v := .tuple #[]) (results_none Try.results39 _ _ _) rfl ?_
  have hb : Below w.heap.size w ((w.alloc (.cells #[.int .i64 n, .int .i64 p] 78)).drew) := ((Below.refl _ _).alloc (Nat.le_refl _) _).drew
  exact ⟨rfl, HH.out.below hb, Goes.ofBelow hb⟩

theorem onW_step {j : Nat} {L : List Itm} {st : ChS} {k : Nat} {it : Itm} (hk : k < L.length) (hit : L.getD k ⟨0, 0, 0, 0⟩ = it) : onW j (L.take (k + 1)) st = putF (onW j (L.take k) st) (adv it j) := by
  have : L[k] = it := by rw [← hit]; simp [List.getD, hk]
  unfold onW
  rw [List.take_succ_eq_append_getElem hk, List.foldl_append, this]
  rfl
theorem onE_step {it : Itm} {L : List Nat} {st : ChS} {k : Nat} {j : Nat} (hk : k < L.length) (hj : L.getD k 0 = j) : onE it (L.take (k + 1)) st = putF (onE it (L.take k) st) (adv it j) := by
  have : L[k] = j := by rw [← hj]; simp [List.getD, hk]
  unfold onE
  rw [List.take_succ_eq_append_getElem hk, List.foldl_append, this]
  rfl
theorem len_onW (j : Nat) : ∀ (L : List Itm) (st : ChS), (onW j L st).I.length ≤ st.I.length + L.length ∧ (onW j L st).O.length ≤ st.O.length + L.length := by
  intro L
  induction L with
  | nil => intro st; exact ⟨Nat.le_refl _, Nat.le_refl _⟩
  | cons it L ih =>
    intro st
    have h1 := ih (putF st (adv it j))
    have h2 := len_put st (adv it j)
    show (onW j L (putF st (adv it j))).I.length ≤ _ ∧ (onW j L (putF st (adv it j))).O.length ≤ _
    simp only [List.length_cons]
    omega
theorem len_onE (it : Itm) : ∀ (L : List Nat) (st : ChS), (onE it L st).I.length ≤ st.I.length + L.length ∧ (onE it L st).O.length ≤ st.O.length + L.length := by
  intro L
  induction L with
  | nil => intro st; exact ⟨Nat.le_refl _, Nat.le_refl _⟩
  | cons j L ih =>
    intro st
    have h1 := ih (putF st (adv it j))
    have h2 := len_put st (adv it j)
    show (onE it L (putF st (adv it j))).I.length ≤ _ ∧ (onE it L (putF st (adv it j))).O.length ≤ _
    simp only [List.length_cons]
    omega

set_option maxRecDepth 100000 in
set_option maxHeartbeats 3200000 in
theorem end_new {w : World} {B nm : Nat} {d : Ad} {v : CM} {st : ChS} (h : ChM w B d v st nm) {n : Int} {p j : Nat} (h0 : 0 ≤ n) (h1 : n ≤ 1000) (h2 : p ≤ 1000) (hn : nm + 1 ≤ 1000000) (hE : (st.E (n, p)).length ≤ 1000000) (hin : j ∉ st.E (n, p))
    (hS : ∀ it ∈ st.W (n, p), Small (adv it j)) (hI : st.I.length + (st.W (n, p)).length ≤ 1000000) (hO : st.O.length + (st.W (n, p)).length ≤ 1000000) :
    Calls Try.prog 39 #[.pointer (some ⟨d.ca, 0, none⟩), .agg #[.int .i64 n, .int .i64 p], .int .i64 j] w fun r w' => r = .returned (.tuple #[]) ∧ ∃ v', ChM w' B d v' (onW j (st.W (n, p)) (addE (n, p) j st)) (nm + 1) ∧ Goes d v v' w w' := by
  have k1 := h.alloc (.cells #[.int .i64 n, .int .i64 p] 78)
  have c7 := (k1.cell (i := 7) rfl (by omega)).1
  have l1 := look_E k1.drew (s := (n, p)) h0 h1 h2 (by omega)
  unfold spV at l1
  simp only at l1
  have ct := contains_any (ends_list k1.drew (n, p)) (by simpa using hE) j
  have hni : ¬ ((j : Int) ∈ (st.E (n, p)).map fun j : Nat => (j : Int)) := fun hm => by
    obtain ⟨x, hx, e⟩ := List.mem_map.1 hm
    have hxj : x = j := by omega
    exact hin (hxj ▸ hx)
  rw [decide_eq_false hni] at ct
  clear hni
  obtain ⟨ev, hev⟩ : ∃ ev, v.VE (n, p) = ev := ⟨_, rfl⟩
  rw [hev] at l1 ct
  have HEV : Hid (v.VE (n, p) = ev) := hev
  obtain ⟨st1, hst1⟩ : ∃ st1, addE (n, p) j st = st1 := ⟨_, rfl⟩
  obtain ⟨LW, hLW⟩ : ∃ LW, st.W (n, p) = LW := ⟨_, rfl⟩
  have HW1 : Hid (st1.W (n, p) = LW) := by show st1.W (n, p) = LW; rw [← hst1]; exact hLW
  have hI1 : st1.I.length = st.I.length := by rw [← hst1]; rfl
  have hO1 : st1.O.length = st.O.length := by rw [← hst1]; rfl
  have HST1 : Hid (addE (n, p) j st = st1) := hst1
  rw [hst1, hLW]
  rw [hLW] at hS hI hO
  rw [← hI1] at hI
  rw [← hO1] at hO
  clear hst1 hLW hI1 hO1
  have HK1 : Hid (ChM ((w.alloc (.cells #[.int .i64 n, .int .i64 p] 78)).drew) B d v st nm) := k1.drew
  have HL : Hid (Loc2 ((w.alloc (.cells #[.int .i64 n, .int .i64 p] 78)).drew) d v w.heap.size n p 78) := Loc2.mk h n p 78
  have HB : Hid (Goes d v v w ((w.alloc (.cells #[.int .i64 n, .int .i64 p] 78)).drew)) := Goes.ofBelow (((Below.refl _ _).alloc (Nat.le_refl _) _).drew)
  have HS : Hid (∀ it ∈ LW, Small (adv it j)) := hS
  clear h k1 hin hev hS
  go_enter Try.func39, Try.ntmps39
  go_wp2_with fail
  go_cut [15] from 7 (fun s15 wx => s15 = .bool false ∧ wx = (w.alloc (.cells #[.int .i64 n, .int .i64 p] 78)).drew)
  case first =>
    refine wp_region_tail 7 (by kernel_rfl) (by kernel_rfl) ?_
    simp only [List.take_succ_cons, List.take_zero, List.drop_succ_cons, List.drop_zero]
    repeat still_step
    refine wpStill_nil ?_
    go_wp2_with (go_at_call 26; refine ct.mono ?_; rintro r w1 ⟨rfl, rfl⟩)
    go_meet
    case rel => exact ⟨rfl, rfl⟩
  case rest =>
    obtain ⟨rfl, hwc⟩ := hcut
    rw [← hwc] at HK1 HL HB
    clear hwc l1 ct c7
    have k2 := HK1.out
    have c7 := (k2.cell (i := 7) rfl (by omega)).1
    have k3 := k2.alloc (.cells #[.int .i64 j] 3)
    have d7 := (k3.cell (i := 7) rfl (by omega)).1
    obtain ⟨b0, b1⟩ := HL.out.cells
    have b0' : (wc.alloc (.cells #[.int .i64 j] 3)).cell? ⟨w.heap.size, 0, none⟩ = some (.int .i64 n) := (World.cell?_alloc_past _ _ _ HL.out.2.2).trans b0
    have b1' : (wc.alloc (.cells #[.int .i64 j] 3)).cell? ⟨w.heap.size, 1, none⟩ = some (.int .i64 p) := (World.cell?_alloc_past _ _ _ HL.out.2.2).trans b1
    obtain ⟨z, w5, e5, g5, s5, st5⟩ := entry_E k3.drew (s := (n, p)) h0 h1 h2 (by omega)
    unfold spV at e5
    simp only at e5
    rw [HEV.out] at e5
    have ho := k3.own.own (.en (n, p)) _ rfl
    simp only [HEV.out] at ho
    obtain ⟨ea, ec, hev⟩ := own_form ho
    have hoff : ev.ownBlock ≠ some d.me := by have := k3.off (.inr (.inr rfl)) (i := .en (n, p)) rfl; simpa [HEV.out] using this
    have own5 : w5.ownsRow B 3 1 ev (st.E (n, p)).length ((st.E (n, p)).map fun j : Nat => Value.int .i64 j) := ho.drew.kept g5 (.inr hoff)
    have hnew : w5.heap[wc.heap.size]? = some (.cells #[.int .i64 j] 3) := by
      rw [g5.block wc.heap.size (by simp) (fun e => by have := k2.mapE.lt; simp at e; omega)]
      exact heap_alloc_new _ _
    subst hev
    have hme5 : some d.me ≠ (Value.slice ea (st.E (n, p)).length ec).ownBlock := fun e => hoff e.symm
    have hlt5 : d.me < w5.heap.size := by rw [s5]; exact k3.mapE.lt
    have hn1 : (st.E (n, p)).length + 1 ≤ maxLen := by unfold maxLen; omega
    have hn2 : ((st.E (n, p)).length + 1) * 8 ≤ 140737488355328 := by omega
    have hB5 : B ≤ w5.heap.size := by have := k3.ge.2.2; omega
    have hs5 : w5.heap.size = wc.heap.size + 1 := by rw [s5]; simp
    obtain ⟨i0, hi0, hz0, hz1, hz2⟩ := info_parts Try.infoInt
    have HK3 : Hid (ChM ((wc.alloc (.cells #[.int .i64 j] 3)).drew) B d v st nm) := k3.drew
    have HG5 : Hid (World.grownBy ((wc.alloc (.cells #[.int .i64 j] 3)).drew) w5 (some d.me)) := g5
    have HST : Hid (∀ (w2 : World) (val : Value), w2.heap[d.me]? = w5.heap[d.me]? → ∃ w3, (Instr.entryStore 72 (.map (some d.me)) (.int .i64 z) val).run Try.prog w2 = .ok () w3 ∧ MapAt Try.prog 78 spV w3 d.me (nm + 1) (setM (inV st.E v.VE) (n, p) val) ∧ w2.grownBy w3 (some d.me) ∧ w3.heap.size = w2.heap.size) := st5
    have HS5 : Hid (w5.heap.size = ((wc.alloc (.cells #[.int .i64 j] 3)).drew).heap.size) := s5
    clear k2 k3 ho g5 st5 hoff s5
    go_wp2_with fail
    go_cut [] from 7 (fun wx => ∃ ve', ChM wx B d { v with VE := setS v.VE (n, p) ve' } (addE (n, p) j st) (nm + 1) ∧ Goes d v { v with VE := setS v.VE (n, p) ve' } wc wx)
    case first =>
      go_region_law
        ((refine step_append_lies _ (by rfl) _ _ _ (by rfl) B 3 i0 _ 1 8 Try.underlying25 hi0 hz0 hz1 hz2 rfl (by omega) (.slice ea (st.E (n, p)).length ec) (st.E (n, p)).length ((st.E (n, p)).map fun j : Nat => Value.int .i64 j) (by rfl) own5
            ⟨wc.heap.size, 0, none⟩ 1 1 [.int .i64 j] (by rfl) (by rfl) (World.news_of_block (cs := #[.int .i64 j]) (t := 3) (fr := (0, 0)) hnew) (by simp [Value.oneCell'])
            (by omega) hn1 hn2 hB5 (wc.heap.size + 1) hs5 ?_; intro g cap w6 hown6 hgrow6 hat6 hlt6; obtain ⟨w7, e7, m7, g7, s7⟩ := HST.out w6 (.slice (some ⟨g, 0, none⟩) ((st.E (n, p)).length + 1) cap) (hgrow6.block d.me hlt5 hme5)))
      all_goals
        go_wp2_with fail
        go_meet
        case rel =>
          have hat' : ∀ g', (Value.slice (some ⟨g, 0, none⟩) ((st.E (n, p)).length + 1) cap).ownBlock = some g' → (v.VE (n, p)).ownBlock = some g' ∨ g' = ((wc.alloc (.cells #[.int .i64 j] 3)).drew).heap.size := fun g' hg' => by
            obtain rfl : g = g' := by simpa [Value.ownBlock] using hg'
            rw [HEV.out]
            rcases hat6 with h5 | h5
            · exact .inl h5
            · exact .inr (by simpa using h5)
          have r := HK3.out.addE (j := j) HG5.out HS5.out (by rw [HEV.out]; exact hgrow6) (by simpa using hown6) hat' g7 m7
          exact ⟨_, r.1, (Goes.ofBelow (((Below.refl _ _).alloc (Nat.le_refl _) _).drew)).trans r.2⟩
    case rest =>
      obtain ⟨ve', k6, g6⟩ := hcut
      obtain ⟨v6, hv6⟩ : ∃ v6, ({ v with VE := setS v.VE (n, p) ve' } : CM) = v6 := ⟨_, rfl⟩
      rw [hv6] at k6 g6
      have HL6 : Hid (Loc2 wc d v6 w.heap.size n p 78) := HL.out.goes g6
      have HG6 : Hid (Goes d v v6 w wc) := HB.out.trans g6
      clear hi0 hz0 hz1 hz2 own5 hnew hme5 hlt5 hn1 hn2 hB5 hs5 HK3 HG5 HST HS5 e5 c7 d7 b0 b1 b0' b1' HL HB HK1 HEV g6 hv6
      rw [HST1.out] at k6
      clear HST1
      have HK6 : Hid (ChM wc B d v6 st1 (nm + 1)) := k6
      have c6 := (k6.cell (i := 6) rfl (by omega)).1
      obtain ⟨b0, b1⟩ := HL6.out.cells
      have l6 := look_W k6.drew (s := (n, p)) h0 h1 h2 hn
      unfold spV at l6
      simp only at l6
      have ho := k6.own.own (.wt (n, p)) _ rfl
      simp only [HW1.out] at ho
      obtain ⟨wa, wk, hwv⟩ := own_form ho
      rw [hwv] at l6
      have HWV : Hid (v6.VW (n, p) = .slice wa LW.length wk) := hwv
      clear k6 ho hwv
      go_wp2_with fail
      go_region
      go_wp2_with fail
      clear l6 c6 b0 b1
      go_loopw [34] (fun s wr => ∃ (k : Nat) (ov' : Value), s = .int .i64 k ∧ k ≤ LW.length ∧ ChM wr B d { v6 with ov := ov' } (onW j (LW.take k) st1) (nm + 1) ∧ Goes d v6 { v6 with ov := ov' } wc wr) (fun s _ => LW.length - (intOf s).toNat)
      case atStart => exact ⟨0, v6.ov, rfl, Nat.zero_le _, HK6.out.drew, (Goes.refl _ _ _).drew⟩
      case round =>
        obtain ⟨k, ov1, rfl, hk, hC, hG⟩ := hrel
        have HG : Hid (Goes d v6 { v6 with ov := ov1 } wc wr) := hG
        by_cases hlt : k < LW.length
        · have hWk : (onW j (LW.take k) st1).W (n, p) = LW := by rw [(Puts.onW (Q := fun _ => True) (L := LW.take k) (st := st1) (j := j) fun _ _ => trivial).W]; exact HW1.out
          have ho := hC.own.own (.wt (n, p)) _ rfl
          simp only [hWk] at ho
          obtain ⟨g, cap, hg, _, hglt⟩ := ho.form (by omega)
          have hg' : v6.VW (n, p) = .slice (some ⟨g, 0, none⟩) LW.length cap := hg
          have hwv := HWV.out
          rw [hg'] at hwv
          injection hwv with hwa _ hwk
          subst hwa
          subst hwk
          obtain ⟨it, hit⟩ : ∃ it, LW.getD k ⟨0, 0, 0, 0⟩ = it := ⟨_, rfl⟩
          obtain ⟨q0, q1, q2, q3⟩ := row_item ho hg hlt hit
          have hmem : it ∈ LW := by rw [← hit]; simp [List.getD, hlt]
          have hsm := HS.out it hmem
          have HE : Hid (onW j (LW.take (k + 1)) st1 = putF (onW j (LW.take k) st1) (adv it j)) := onW_step hlt hit
          have hlen := len_onW j (LW.take k) st1
          rw [List.length_take, Nat.min_eq_left hk] at hlen
          obtain ⟨ra, rb, rc, re⟩ := it
          simp only at q0 q1 q2 q3
          have on := readOn_any (hC.alloc (.cells #[.int .i64 ra, .int .i64 rb, .int .i64 rc, .int .i64 re] 80)) (a := ra) (b := rb) (c := rc) (e := re) (j := j) hsm (by omega) (by omega)
          have i0 : (0 : Int) ≤ (k : Int) := Int.natCast_nonneg _
          have i1 : (k : Int) < (LW.length : Int) := by omega
          clear hC hG ho hg hg' hit hmem hsm hlen hWk
          go_wp2_with (go_at_call 41; refine on.mono ?_; rintro r w1 ⟨rfl, ov2, h3, h4⟩)
          go_roundw
          case rel => exact ⟨k + 1, ov2, by go_num, by omega, by rw [HE.out]; exact h3, (HG.out.alloc _).trans h4⟩
          case measure => simp [intOf]; omega
        · obtain rfl : k = LW.length := by omega
          rw [List.take_length] at hC
          have HC : Hid (ChM wr B d { v6 with ov := ov1 } (onW j LW st1) (nm + 1)) := hC
          clear hC hG
          go_wp2_with fail
          go_end0
          exact ⟨rfl, _, HC.out, HG6.out.trans HG.out⟩

theorem end_any {w : World} {B nm : Nat} {d : Ad} {v : CM} {st : ChS} (h : ChM w B d v st nm) {n : Int} {p j : Nat} (h0 : 0 ≤ n) (h1 : n ≤ 1000) (h2 : p ≤ 1000) (hn : nm + 1 ≤ 1000000) (hE : (st.E (n, p)).length ≤ 1000000)
    (hS : ∀ it ∈ st.W (n, p), Small (adv it j)) (hI : st.I.length + (st.W (n, p)).length ≤ 1000000) (hO : st.O.length + (st.W (n, p)).length ≤ 1000000) :
    Calls Try.prog 39 #[.pointer (some ⟨d.ca, 0, none⟩), .agg #[.int .i64 n, .int .i64 p], .int .i64 j] w fun r w' => r = .returned (.tuple #[]) ∧ ∃ v', ChM w' B d v' (endF (n, p) j st) (nm + 1) ∧ Goes d v v' w w' := by
  unfold endF
  split
  · rename_i hin
    exact (end_old h h0 h1 h2 (by omega) hE hin).mono fun r w' ⟨a, b, c⟩ => ⟨a, v, b.mono (Nat.le_succ _), c⟩
  · rename_i hin
    exact end_new h h0 h1 h2 hn hE hin hS hI hO

end Go.Proofs.Ytobegekmgoiopaa

/- The contract of recog's wait. -/
namespace Go.Proofs.Ytobegekmgoiopaa
open Go.RowKit

/-- A local block that holds an item. -/
def LocI (w : World) (d : Ad) (v : CM) (b : Nat) (it : Itm) : Prop := w.heap[b]? = some (.cells #[.int .i64 it.rule, .int .i64 it.read, .int .i64 it.fr, .int .i64 it.upto] 80) ∧ ¬ Kc d v b ∧ b < w.heap.size
theorem LocI.goes {w w' : World} {d : Ad} {v v' : CM} {b : Nat} {it : Itm} (h : LocI w d v b it) (g : Goes d v v' w w') : LocI w' d v' b it := by
  obtain ⟨h1, h2, h3⟩ := g.far h.2.2 h.2.1
  exact ⟨h1.trans h.1, h2, h3⟩
theorem LocI.cells {w : World} {d : Ad} {v : CM} {b : Nat} {it : Itm} (h : LocI w d v b it) :
    w.cell? ⟨b, 0, none⟩ = some (.int .i64 it.rule) ∧ w.cell? ⟨b, 1, none⟩ = some (.int .i64 it.read) ∧ w.cell? ⟨b, 2, none⟩ = some (.int .i64 it.fr) ∧ w.cell? ⟨b, 3, none⟩ = some (.int .i64 it.upto) := by
  refine ⟨?_, ?_, ?_, ?_⟩ <;> simp [World.cell?, h.1]

set_option maxRecDepth 100000 in
set_option maxHeartbeats 6400000 in
theorem wait_any {w : World} {B nm : Nat} {d : Ad} {v : CM} {st : ChS} {R : List Ru} (h : ChM w B d v st nm) (hr : RulesAt w B d.rv R) {n : Int} {p a b c e : Nat} (h0 : 0 ≤ n) (h1 : n ≤ 1000) (h2 : p ≤ 1000) (hn : nm + 1 ≤ 1000000) (hR : R.length ≤ 40)
    (hS : ∀ j ∈ st.E (n, p), Small (adv ⟨a, b, c, e⟩ j)) (hI : st.I.length + 40 + (st.E (n, p)).length ≤ 1000000) (hO : st.O.length + 40 + (st.E (n, p)).length ≤ 1000000) (hWl : (st.W (n, p)).length ≤ 1000000) :
    Calls Try.prog 40 #[.pointer (some ⟨d.ca, 0, none⟩), .agg #[.int .i64 n, .int .i64 p], .agg #[.int .i64 a, .int .i64 b, .int .i64 c, .int .i64 e]] w fun r w' => r = .returned (.tuple #[]) ∧ ∃ v', ChM w' B d v' (waitF R (n, p) ⟨a, b, c, e⟩ st) (nm + 1) ∧ Goes d v v' w w' := by
  obtain ⟨st1, hst1⟩ : ∃ st1, (if st.W (n, p) = [] then beginF R (n, p) R.length st else st) = st1 := ⟨_, rfl⟩
  obtain ⟨LE, hLE⟩ : ∃ LE, st.E (n, p) = LE := ⟨_, rfl⟩
  obtain ⟨LW, hLW⟩ : ∃ LW, st.W (n, p) = LW := ⟨_, rfl⟩
  have hp1 : Puts (fun _ => True) st st1 := by
    rw [← hst1]
    split
    · exact Puts.begin fun _ _ _ => trivial
    · exact Puts.refl _ _
  have hlen : st1.I.length ≤ st.I.length + 40 ∧ st1.O.length ≤ st.O.length + 40 := by
    rw [← hst1]
    split
    · have := len_begin R (n, p) st R.length; omega
    · omega
  have HW1 : Hid (st1.W (n, p) = LW) := by show st1.W (n, p) = LW; rw [hp1.W]; exact hLW
  have HE1 : Hid (st1.E (n, p) = LE) := by show st1.E (n, p) = LE; rw [hp1.E]; exact hLE
  have HST1 : Hid ((if st.W (n, p) = [] then beginF R (n, p) R.length st else st) = st1) := hst1
  have hgoal : waitF R (n, p) ⟨a, b, c, e⟩ st = onE ⟨a, b, c, e⟩ LE (addW (n, p) ⟨a, b, c, e⟩ st1) := by
    unfold waitF
    simp only [hst1, hLE]
  rw [hgoal]
  obtain ⟨st2, hst2⟩ : ∃ st2, addW (n, p) ⟨a, b, c, e⟩ st1 = st2 := ⟨_, rfl⟩
  have HE2 : Hid (st2.E (n, p) = LE) := by show st2.E (n, p) = LE; rw [← hst2]; exact HE1.out
  have hI2 : st2.I.length + LE.length ≤ 1000000 := by
    rw [hLE] at hI
    have : st2.I.length = st1.I.length := by rw [← hst2]; rfl
    omega
  have hO2 : st2.O.length + LE.length ≤ 1000000 := by
    rw [hLE] at hO
    have : st2.O.length = st1.O.length := by rw [← hst2]; rfl
    omega
  have HST2 : Hid (addW (n, p) ⟨a, b, c, e⟩ st1 = st2) := hst2
  rw [hst2]
  rw [hLE] at hS hI hO
  rw [hLW] at hWl
  have k1 := (h.alloc (.cells #[.int .i64 n, .int .i64 p] 78)).alloc (.cells #[.int .i64 a, .int .i64 b, .int .i64 c, .int .i64 e] 80)
  have hL0 : Loc2 (((w.alloc (.cells #[.int .i64 n, .int .i64 p] 78)).alloc (.cells #[.int .i64 a, .int .i64 b, .int .i64 c, .int .i64 e] 80)).drew) d v w.heap.size n p 78 := (Loc2.mk h n p 78).goes (((Goes.refl d v _).alloc _).drew)
  have hLI0 : LocI (((w.alloc (.cells #[.int .i64 n, .int .i64 p] 78)).alloc (.cells #[.int .i64 a, .int .i64 b, .int .i64 c, .int .i64 e] 80)).drew) d v (w.heap.size + 1) ⟨a, b, c, e⟩ := by
    refine ⟨?_, fun hk => by have := (h.kc hk).2; omega, by simp⟩
    have := heap_alloc_new (w.alloc (.cells #[.int .i64 n, .int .i64 p] 78)) (.cells #[.int .i64 a, .int .i64 b, .int .i64 c, .int .i64 e] 80)
    simp only [World.size_alloc] at this
    exact this
  have c6 := (k1.cell (i := 6) rfl (by omega)).1
  have l1 := look_W k1.drew (s := (n, p)) h0 h1 h2 (by omega)
  unfold spV at l1
  simp only at l1
  have ho := k1.own.own (.wt (n, p)) _ rfl
  simp only [hLW] at ho
  obtain ⟨wa, wk, hwv⟩ := own_form ho
  rw [hwv] at l1
  have HWV : Hid (v.VW (n, p) = .slice wa LW.length wk) := hwv
  have HK1 : Hid (ChM (((w.alloc (.cells #[.int .i64 n, .int .i64 p] 78)).alloc (.cells #[.int .i64 a, .int .i64 b, .int .i64 c, .int .i64 e] 80)).drew) B d v st nm) := k1.drew
  have HL : Hid (Loc2 (((w.alloc (.cells #[.int .i64 n, .int .i64 p] 78)).alloc (.cells #[.int .i64 a, .int .i64 b, .int .i64 c, .int .i64 e] 80)).drew) d v w.heap.size n p 78) := hL0
  have HLI : Hid (LocI (((w.alloc (.cells #[.int .i64 n, .int .i64 p] 78)).alloc (.cells #[.int .i64 a, .int .i64 b, .int .i64 c, .int .i64 e] 80)).drew) d v (w.heap.size + 1) ⟨a, b, c, e⟩) := hLI0
  have hb1 : Below w.heap.size w (((w.alloc (.cells #[.int .i64 n, .int .i64 p] 78)).alloc (.cells #[.int .i64 a, .int .i64 b, .int .i64 c, .int .i64 e] 80)).drew) := (((Below.refl _ _).alloc (Nat.le_refl _) _).alloc (by simp) _).drew
  have HB : Hid (Goes d v v w (((w.alloc (.cells #[.int .i64 n, .int .i64 p] 78)).alloc (.cells #[.int .i64 a, .int .i64 b, .int .i64 c, .int .i64 e] 80)).drew)) := Goes.ofBelow hb1
  have HR : Hid (RulesAt (((w.alloc (.cells #[.int .i64 n, .int .i64 p] 78)).alloc (.cells #[.int .i64 a, .int .i64 b, .int .i64 c, .int .i64 e] 80)).drew) B d.rv R) := hr.below (h.goes_below (Goes.ofBelow (d := d) (v := v) hb1))
  have HS : Hid (∀ j ∈ LE, Small (adv ⟨a, b, c, e⟩ j)) := hS
  have hempty : st.W (n, p) = [] ↔ LW.length = 0 := by rw [hLW]; simp
  have HEm : Hid (st.W (n, p) = [] ↔ LW.length = 0) := hempty
  obtain ⟨z, hz⟩ : ∃ z, ((LW.length : Int) == 0) = z := ⟨_, rfl⟩
  have HZ : Hid (z = true ↔ LW.length = 0) := by show z = true ↔ LW.length = 0; rw [← hz]; simp
  clear h k1 hS hst1 hst2 hLE hLW hp1 hgoal ho hwv hb1 hr hL0 hLI0 hempty
  go_enter Try.func40, Try.ntmps40
  go_wp2_with fail
  go_cut [15] from 7 (fun s15 wx => s15 = .bool z ∧ wx = ((w.alloc (.cells #[.int .i64 n, .int .i64 p] 78)).alloc (.cells #[.int .i64 a, .int .i64 b, .int .i64 c, .int .i64 e] 80)).drew)
  case first =>
    go_region
    go_wp2_with fail
    go_meet
    case rel => exact ⟨rfl, rfl⟩
  case rest =>
    obtain ⟨rfl, hwc⟩ := hcut
    rw [← hwc] at HK1 HL HLI HB HR
    clear hwc l1 c6 hz
    obtain ⟨b0, b1⟩ := HL.out.cells
    go_upto_if 15 with fail
    go_cut [] from 7 (fun wx => ∃ ov1, ChM wx B d { v with ov := ov1 } st1 nm ∧ Goes d v { v with ov := ov1 } wc wx)
    case first =>
      cases z with
      | true =>
        have hE : st1 = beginF R (n, p) R.length st := by rw [← HST1.out, if_pos (HEm.out.2 (HZ.out.1 rfl))]
        have bg := begin_any HK1.out HR.out (n := n) (p := p) hR h2 (by omega) (by omega)
        rw [← hE] at bg
        clear hE
        go_wp2_with (go_at_call 24; refine bg.mono ?_; rintro r w1 ⟨rfl, ov1, h3, h4⟩)
        go_meet
        case rel => exact ⟨ov1, h3, h4⟩
      | false =>
        have hne : ¬ st.W (n, p) = [] := fun e => by have := HZ.out.2 (HEm.out.1 e); cases this
        have HE : Hid (st = st1) := by show st = st1; rw [← HST1.out, if_neg hne]
        clear hne
        go_wp2_with fail
        go_meet
        case rel => exact ⟨v.ov, by rw [← HE.out]; exact HK1.out, Goes.refl _ _ _⟩
    case rest =>
      obtain ⟨ov1, k2, g2⟩ := hcut
      obtain ⟨v2, hv2⟩ : ∃ v2, ({ v with ov := ov1 } : CM) = v2 := ⟨_, rfl⟩
      have HWV2 : Hid (v2.VW (n, p) = .slice wa LW.length wk) := by show v2.VW (n, p) = _; rw [← hv2]; exact HWV.out
      rw [hv2] at k2 g2
      have HL2 : Hid (Loc2 wc d v2 w.heap.size n p 78) := HL.out.goes g2
      have HLI2 : Hid (LocI wc d v2 (w.heap.size + 1) ⟨a, b, c, e⟩) := HLI.out.goes g2
      have HB2 : Hid (Goes d v v2 w wc) := HB.out.trans g2
      clear hv2 g2 HL HLI HB HR HK1 HWV HST1 HEm HZ b0 b1 hI hO hlen
      have c6 := (k2.cell (i := 6) rfl (by omega)).1
      have k3 := k2.alloc (.cells #[.int .i64 a, .int .i64 b, .int .i64 c, .int .i64 e] 80)
      have d6 := (k3.cell (i := 6) rfl (by omega)).1
      obtain ⟨b0, b1⟩ := HL2.out.cells
      obtain ⟨q0, q1, q2, q3⟩ := HLI2.out.cells
      simp only at q0 q1 q2 q3
      have b0' : (wc.alloc (.cells #[.int .i64 a, .int .i64 b, .int .i64 c, .int .i64 e] 80)).cell? ⟨w.heap.size, 0, none⟩ = some (.int .i64 n) := (World.cell?_alloc_past _ _ _ HL2.out.2.2).trans b0
      have b1' : (wc.alloc (.cells #[.int .i64 a, .int .i64 b, .int .i64 c, .int .i64 e] 80)).cell? ⟨w.heap.size, 1, none⟩ = some (.int .i64 p) := (World.cell?_alloc_past _ _ _ HL2.out.2.2).trans b1
      obtain ⟨z5, w5, e5, g5, s5, st5⟩ := entry_W k3.drew (s := (n, p)) h0 h1 h2 (by omega)
      unfold spV at e5
      simp only at e5
      rw [HWV2.out] at e5
      have ho := k3.own.own (.wt (n, p)) _ rfl
      simp only [HWV2.out, HW1.out] at ho
      have hoff : (Value.slice wa LW.length wk).ownBlock ≠ some d.mw := by have := k3.off (.inr (.inl rfl)) (i := .wt (n, p)) rfl; simpa [HWV2.out] using this
      have own5 : w5.ownsRow B 80 4 (.slice wa LW.length wk) LW.length (LW.flatMap itC) := ho.drew.kept g5 (.inr hoff)
      have hnew : w5.heap[wc.heap.size]? = some (.cells #[.int .i64 a, .int .i64 b, .int .i64 c, .int .i64 e] 80) := by
        rw [g5.block wc.heap.size (by simp) (fun e => by have := k2.mapW.lt; simp at e; omega)]
        exact heap_alloc_new _ _
      have hme5 : some d.mw ≠ (Value.slice wa LW.length wk).ownBlock := fun e => hoff e.symm
      have hlt5 : d.mw < w5.heap.size := by rw [s5]; exact k3.mapW.lt
      have hn1 : LW.length + 1 ≤ maxLen := by unfold maxLen; omega
      have hn2 : (LW.length + 1) * 32 ≤ 140737488355328 := by omega
      have hB5 : B ≤ w5.heap.size := by have := k3.ge.2.1; omega
      have hs5 : w5.heap.size = wc.heap.size + 1 := by rw [s5]; simp
      obtain ⟨i0, hi0, hz0, hz1, hz2⟩ := info_parts Try.infoItm
      have HK3 : Hid (ChM ((wc.alloc (.cells #[.int .i64 a, .int .i64 b, .int .i64 c, .int .i64 e] 80)).drew) B d v2 st1 nm) := k3.drew
      have HG5 : Hid (World.grownBy ((wc.alloc (.cells #[.int .i64 a, .int .i64 b, .int .i64 c, .int .i64 e] 80)).drew) w5 (some d.mw)) := g5
      have HST : Hid (∀ (w2 : World) (val : Value), w2.heap[d.mw]? = w5.heap[d.mw]? → ∃ w3, (Instr.entryStore 71 (.map (some d.mw)) (.int .i64 z5) val).run Try.prog w2 = .ok () w3 ∧ MapAt Try.prog 78 spV w3 d.mw (nm + 1) (setM (inV st1.W v2.VW) (n, p) val) ∧ w2.grownBy w3 (some d.mw) ∧ w3.heap.size = w2.heap.size) := st5
      have HS5 : Hid (w5.heap.size = ((wc.alloc (.cells #[.int .i64 a, .int .i64 b, .int .i64 c, .int .i64 e] 80)).drew).heap.size) := s5
      clear k2 k3 ho g5 st5 hoff s5
      go_wp2_with fail
      go_cut [] from 7 (fun wx => ∃ vw', ChM wx B d { v2 with VW := setS v2.VW (n, p) vw' } st2 (nm + 1) ∧ Goes d v2 { v2 with VW := setS v2.VW (n, p) vw' } wc wx)
      case first =>
        go_region_law
          ((refine step_append_lies _ (by rfl) _ _ _ (by rfl) B 80 i0 _ 4 32 Try.underlying73 hi0 hz0 hz1 hz2 rfl (by omega) (.slice wa LW.length wk) LW.length (LW.flatMap itC) (by rfl) own5
              ⟨wc.heap.size, 0, none⟩ 1 1 [.int .i64 a, .int .i64 b, .int .i64 c, .int .i64 e] (by rfl) (by rfl) (World.news_of_block (cs := #[.int .i64 a, .int .i64 b, .int .i64 c, .int .i64 e]) (t := 80) (fr := (0, 0)) hnew) (by simp [Value.oneCell'])
              (by omega) hn1 hn2 hB5 (wc.heap.size + 1) hs5 ?_; intro g cap w6 hown6 hgrow6 hat6 hlt6; obtain ⟨w7, e7, m7, g7, s7⟩ := HST.out w6 (.slice (some ⟨g, 0, none⟩) (LW.length + 1) cap) (hgrow6.block d.mw hlt5 hme5)))
        all_goals
          go_wp2_with fail
          go_meet
          case rel =>
            have hat' : ∀ g', (Value.slice (some ⟨g, 0, none⟩) (LW.length + 1) cap).ownBlock = some g' → (v2.VW (n, p)).ownBlock = some g' ∨ g' = ((wc.alloc (.cells #[.int .i64 a, .int .i64 b, .int .i64 c, .int .i64 e] 80)).drew).heap.size := fun g' hg' => by
              obtain rfl : g = g' := by simpa [Value.ownBlock] using hg'
              rw [HWV2.out]
              rcases hat6 with h5 | h5
              · exact .inl h5
              · exact .inr (by simpa using h5)
            have r := HK3.out.addW (it := ⟨a, b, c, e⟩) HG5.out HS5.out (by rw [HWV2.out]; exact hgrow6) (by rw [HW1.out]; simpa [List.flatMap_append, itC] using hown6) hat' g7 m7
            rw [HST2.out] at r
            exact ⟨_, r.1, (Goes.ofBelow (((Below.refl _ _).alloc (Nat.le_refl _) _).drew)).trans r.2⟩
      case rest =>
        obtain ⟨vw', k6, g6⟩ := hcut
        obtain ⟨v6, hv6⟩ : ∃ v6, ({ v2 with VW := setS v2.VW (n, p) vw' } : CM) = v6 := ⟨_, rfl⟩
        rw [hv6] at k6 g6
        have HL6 : Hid (Loc2 wc d v6 w.heap.size n p 78) := HL2.out.goes g6
        have HLI6 : Hid (LocI wc d v6 (w.heap.size + 1) ⟨a, b, c, e⟩) := HLI2.out.goes g6
        have HG6 : Hid (Goes d v v6 w wc) := HB2.out.trans g6
        clear hi0 hz0 hz1 hz2 own5 hnew hme5 hlt5 hn1 hn2 hB5 hs5 HK3 HG5 HST HS5 e5 c6 d6 b0 b1 b0' b1' q0 q1 q2 q3 HL2 HLI2 HB2 HWV2 g6 hv6 HST2 HE1 HW1
        have HK6 : Hid (ChM wc B d v6 st2 (nm + 1)) := k6
        have c7 := (k6.cell (i := 7) rfl (by omega)).1
        obtain ⟨b0, b1⟩ := HL6.out.cells
        have l6 := look_E k6.drew (s := (n, p)) h0 h1 h2 hn
        unfold spV at l6
        simp only at l6
        have ho := k6.own.own (.en (n, p)) _ rfl
        simp only [HE2.out] at ho
        obtain ⟨ea, ek, hev⟩ := own_form ho
        rw [hev] at l6
        have HEV : Hid (v6.VE (n, p) = .slice ea LE.length ek) := hev
        clear k6 ho hev
        go_wp2_with fail
        go_region
        go_wp2_with fail
        clear l6 c7 b0 b1
        go_loopw [37] (fun s wr => ∃ (k : Nat) (ov' : Value), s = .int .i64 k ∧ k ≤ LE.length ∧ ChM wr B d { v6 with ov := ov' } (onE ⟨a, b, c, e⟩ (LE.take k) st2) (nm + 1) ∧ Goes d v6 { v6 with ov := ov' } wc wr) (fun s _ => LE.length - (intOf s).toNat)
        case atStart => exact ⟨0, v6.ov, rfl, Nat.zero_le _, HK6.out.drew, (Goes.refl _ _ _).drew⟩
        case round =>
          obtain ⟨k, ov1, rfl, hk, hC, hG⟩ := hrel
          have HG : Hid (Goes d v6 { v6 with ov := ov1 } wc wr) := hG
          by_cases hlt : k < LE.length
          · have hEk : (onE ⟨a, b, c, e⟩ (LE.take k) st2).E (n, p) = LE := by rw [(Puts.onE (Q := fun _ => True) (L := LE.take k) (st := st2) (it := ⟨a, b, c, e⟩) fun _ _ => trivial).E]; exact HE2.out
            have ho := hC.own.own (.en (n, p)) _ rfl
            simp only [hEk] at ho
            obtain ⟨g, cap, hg, _, hglt⟩ := ho.form (by omega)
            have hg' : v6.VE (n, p) = .slice (some ⟨g, 0, none⟩) LE.length cap := hg
            have hev := HEV.out
            rw [hg'] at hev
            injection hev with hea _ hek
            subst hea
            subst hek
            obtain ⟨j, hj⟩ : ∃ j, LE.getD k 0 = j := ⟨_, rfl⟩
            have q0 := row_num ho hg hlt hj
            obtain ⟨p0, p1, p2, p3⟩ := (HLI6.out.goes hG).cells
            simp only at p0 p1 p2 p3
            have hmem : j ∈ LE := by rw [← hj]; simp [List.getD, hlt]
            have hsm := HS.out j hmem
            have HE : Hid (onE ⟨a, b, c, e⟩ (LE.take (k + 1)) st2 = putF (onE ⟨a, b, c, e⟩ (LE.take k) st2) (adv ⟨a, b, c, e⟩ j)) := onE_step hlt hj
            have hlen := len_onE ⟨a, b, c, e⟩ (LE.take k) st2
            rw [List.length_take, Nat.min_eq_left hk] at hlen
            have on := readOn_any hC (a := a) (b := b) (c := c) (e := e) (j := j) hsm (by omega) (by omega)
            have i0 : (0 : Int) ≤ (k : Int) := Int.natCast_nonneg _
            have i1 : (k : Int) < (LE.length : Int) := by omega
            clear hC hG ho hg hg' hj hmem hsm hlen hEk
            go_wp2_with (go_at_call 41; refine on.mono ?_; rintro r w1 ⟨rfl, ov2, h3, h4⟩)
            go_roundw
            case rel => exact ⟨k + 1, ov2, by go_num, by omega, by rw [HE.out]; exact h3, HG.out.trans h4⟩
            case measure => simp [intOf]; omega
          · obtain rfl : k = LE.length := by omega
            rw [List.take_length] at hC
            have HC : Hid (ChM wr B d { v6 with ov := ov1 } (onE ⟨a, b, c, e⟩ LE st2) (nm + 1)) := hC
            clear hC hG
            go_wp2_with fail
            go_end0
            exact ⟨rfl, _, HC.out, HG6.out.trans HG.out⟩

end Go.Proofs.Ytobegekmgoiopaa
