/- The contracts of recog's put and readOn. -/
import Derived.Test.YtgkikliaadjmiaaChartMem
import Derived.RegionTactic
import Derived.Deep.RegionLaw
namespace Go.Proofs.Ytgkikliaadjmiaa
open Go.RowKit

/-- Numbers of an item that a key may bear. -/
structure Small (it : Itm) : Prop where
  a : it.rule ≤ 1000
  b : it.read ≤ 1000
  c : it.fr ≤ 1000
  e : it.upto ≤ 1000

theorem look_I {w : World} {B nm : Nat} {d : Ad} {v : CM} {st : ChS} (h : ChM w B d v st nm) {it : Itm} (hs : Small it) (hI : st.I.length ≤ 1000000) :
    (Instr.lookup 48 (.map (some d.mi)) (itV it) true).run Try.prog w = .ok (.tuple #[.agg #[], .bool (decide (it ∈ st.I))]) w := by
  obtain ⟨l, hl⟩ := key_it hs.a hs.b hs.c hs.e
  have := mapAt_look h.mapI true (by unfold maxLen; omega) itLaw Try.underlying48 (zero_none w) itV_inj hl
  rw [this]
  by_cases hi : it ∈ st.I <;> simp [inI, hi]

theorem put_I {w : World} {B nm : Nat} {d : Ad} {v : CM} {st : ChS} (h : ChM w B d v st nm) {it : Itm} (hs : Small it) :
    ∃ w', (Instr.mapUpdate 48 (.map (some d.mi)) (itV it) (.agg #[])).run Try.prog w = .ok () w' ∧ ChM w' B d v { st with I := st.I ++ [it] } nm ∧ Goes d v v w w' := by
  obtain ⟨l, hl⟩ := key_it hs.a hs.b hs.c hs.e
  obtain ⟨w', h1, h2, h3, _⟩ := mapAt_update h.mapI itLaw Try.underlying48 itV_inj hl (.agg #[])
  obtain ⟨h4, h5⟩ := h.addI h3 h2
  exact ⟨w', h1, h4, h5⟩

set_option maxRecDepth 100000 in
set_option maxHeartbeats 1600000 in
theorem put_old {w : World} {B nm : Nat} {d : Ad} {v : CM} {st : ChS} (h : ChM w B d v st nm) {a b c e : Nat} (hs : Small ⟨a, b, c, e⟩) (hI : st.I.length ≤ 1000000) (hin : (⟨a, b, c, e⟩ : Itm) ∈ st.I) :
    Calls Try.prog 17 #[.pointer (some ⟨d.ca, 0, none⟩), .agg #[.int .i64 a, .int .i64 b, .int .i64 c, .int .i64 e]] w fun e w' => e = .returned (.tuple #[]) ∧ ChM w' B d v st nm ∧ Goes d v v w w' := by
  have h1 := h.alloc (.cells #[.int .i64 a, .int .i64 b, .int .i64 c, .int .i64 e] 58)
  have h2 := h1.alloc (.cells #[] 67)
  have l1 := look_I h1.drew hs hI
  have l2 := look_I h2.drew hs hI
  have c4 := (h1.cell (i := 4) rfl (by omega)).1
  have d4 := (h2.cell (i := 4) rfl (by omega)).1
  rw [decide_eq_true hin] at l1 l2
  unfold itV at l1 l2
  simp only at l1 l2
  have HH : Hid (ChM w B d v st nm) := h
  clear h h1 h2 hin
  go_enter Try.func17, Try.ntmps17
  go_wp2_with fail
  go_region
  all_goals
    go_wp2_with fail
    refine bodyPost_ret (v := .tuple #[]) (results_none Try.results17 _ _ _) rfl ?_
    have hb : Below w.heap.size w ((w.alloc (.cells #[.int .i64 a, .int .i64 b, .int .i64 c, .int .i64 e] 58)).alloc (.cells #[] 67)).drew := (((Below.refl _ _).alloc (Nat.le_refl _) _).alloc (by simp) _).drew
    exact ⟨rfl, HH.out.below hb, Goes.ofBelow hb⟩

set_option maxRecDepth 100000 in
set_option maxHeartbeats 3200000 in
theorem put_new {w : World} {B nm : Nat} {d : Ad} {v : CM} {st : ChS} (h : ChM w B d v st nm) {a b c e : Nat} (hs : Small ⟨a, b, c, e⟩) (hI : st.I.length ≤ 1000000) (hO : st.O.length ≤ 1000000) (hin : (⟨a, b, c, e⟩ : Itm) ∉ st.I) :
    Calls Try.prog 17 #[.pointer (some ⟨d.ca, 0, none⟩), .agg #[.int .i64 a, .int .i64 b, .int .i64 c, .int .i64 e]] w fun r w' => r = .returned (.tuple #[]) ∧ ∃ ov', ChM w' B d { v with ov := ov' } { st with I := st.I ++ [⟨a, b, c, e⟩], O := st.O ++ [⟨a, b, c, e⟩] } nm ∧ Goes d v { v with ov := ov' } w w' := by
  have h1 := h.alloc (.cells #[.int .i64 a, .int .i64 b, .int .i64 c, .int .i64 e] 58)
  have h2 := h1.alloc (.cells #[] 67)
  have l1 := look_I h1.drew hs hI
  have l2 := look_I h2.drew hs hI
  have c4 := (h1.cell (i := 4) rfl (by omega)).1
  have d4 := (h2.cell (i := 4) rfl (by omega)).1
  rw [decide_eq_false hin] at l1 l2
  unfold itV at l1 l2
  simp only at l1 l2
  have hb : Below w.heap.size w ((w.alloc (.cells #[.int .i64 a, .int .i64 b, .int .i64 c, .int .i64 e] 58)).alloc (.cells #[] 67)).drew := (((Below.refl _ _).alloc (Nat.le_refl _) _).alloc (by simp) _).drew
  obtain ⟨w3, u3, h3, g3⟩ := put_I h2.drew.drew hs
  unfold itV at u3
  simp only at u3
  have lb : ¬ Kc d v w.heap.size := fun hk => by have := (h.kc hk).2; omega
  have hbox : w3.heap[w.heap.size]? = some (.cells #[.int .i64 a, .int .i64 b, .int .i64 c, .int .i64 e] 58) := by
    rw [(g3.far (b := w.heap.size) (by simp; omega) lb).1]
    show ((w.alloc _).alloc _).heap[w.heap.size]? = _
    rw [(World.grownBy_alloc _ _ none).block _ (by simp) (by simp)]
    exact heap_alloc_new _ _
  have hsz3 : w.heap.size + 2 ≤ w3.heap.size := by have := g3.kept.size; simpa using this
  have HG : Hid (Goes d v v w w3) := (Goes.ofBelow hb.drew).trans g3
  have H3 : Hid (ChM w3 B d v { st with I := st.I ++ [⟨a, b, c, e⟩] } nm) := h3
  have b0 : w3.cell? ⟨w.heap.size, 0, none⟩ = some (.int .i64 a) := by simp [World.cell?, hbox]
  have b1 : w3.cell? ⟨w.heap.size, 1, none⟩ = some (.int .i64 b) := by simp [World.cell?, hbox]
  have b2 : w3.cell? ⟨w.heap.size, 2, none⟩ = some (.int .i64 c) := by simp [World.cell?, hbox]
  have b3 : w3.cell? ⟨w.heap.size, 3, none⟩ = some (.int .i64 e) := by simp [World.cell?, hbox]
  clear h h1 h2 hin h3 g3 hb hbox
  go_enter Try.func17, Try.ntmps17
  go_wp2_with fail
  go_region
  all_goals
    go_wp2_with fail
    clear l1 l2 c4
    go_region
    go_wp2_with fail
    clear u3 d4
    have h4 := H3.out.alloc (.cells #[.int .i64 a, .int .i64 b, .int .i64 c, .int .i64 e] 58)
    obtain ⟨oa, oc, hov⟩ := h4.own.slice (i := .op) rfl
    have hov' : v.ov = .slice oa st.O.length oc := hov
    have e5 := (H3.out.cell (i := 5) rfl (by omega)).1
    have f5 := (h4.cell (i := 5) rfl (by omega)).1
    rw [hov'] at e5 f5
    have own4 : ((w3.alloc (.cells #[.int .i64 a, .int .i64 b, .int .i64 c, .int .i64 e] 58)).drew).ownsRow B 58 4 (.slice oa st.O.length oc) st.O.length (st.O.flatMap itC) := by
      have := h4.own.own .op _ rfl
      simp only [hov'] at this
      exact this
    have hca : d.ca < w3.heap.size := (H3.out.kc (.inr (.inr (.inr (.inl rfl))))).2
    have hne : some d.ca ≠ (Value.slice oa st.O.length oc).ownBlock := fun e1 => h4.own.apart .ch .op _ _ (by simp) rfl rfl d.ca rfl (by show v.ov.ownBlock = _; rw [hov']; exact e1.symm)
    have f5f := (h4.cell (i := 5) rfl (by omega)).2
    have hn1 : st.O.length + 1 ≤ maxLen := by unfold maxLen; omega
    have hn2 : (st.O.length + 1) * 32 ≤ 140737488355328 := by omega
    have hB3 : B ≤ w3.heap.size := by have := H3.out.ge.1; have := H3.out.mapI.lt; omega
    have H4 : Hid (ChM (w3.alloc (.cells #[.int .i64 a, .int .i64 b, .int .i64 c, .int .i64 e] 58)).drew B d v { st with I := st.I ++ [⟨a, b, c, e⟩] } nm) := h4.drew
    have HV : Hid (v.ov = .slice oa st.O.length oc) := hov'
    obtain ⟨i0, hi0, hz0, hz1, hz2⟩ := info_parts Try.infoItm
    clear h4 hov hov' H3
    go_region_law
      ((refine step_append_lies _ (by rfl) _ _ _ (by rfl) B 58 i0 _ 4 32 Try.underlying51 hi0 hz0 hz1 hz2 rfl (by omega) (.slice oa st.O.length oc) st.O.length (st.O.flatMap itC) (by rfl) own4
          ⟨w3.heap.size, 0, none⟩ 1 1 [.int .i64 a, .int .i64 b, .int .i64 c, .int .i64 e] (by rfl) (by rfl) (World.news_of_block (cs := #[.int .i64 a, .int .i64 b, .int .i64 c, .int .i64 e]) (t := 58) (fr := (0, 0)) (heap_alloc_new w3 _)) (by simp [Value.oneCell'])
          (by omega) hn1 hn2 (by simp; omega) (w3.heap.size + 1) (by simp) ?_; intro g cap w5 hown5 hgrow hat hlt; have c5' := (hgrow.cell_far ⟨d.ca, 5, none⟩ (by simp; omega) hne).trans f5; have f5' := (hgrow.frozen_far ⟨d.ca, 5, none⟩ (by simp; omega) hne).trans f5f))
    all_goals
      go_wp2_with fail
      go_end0
      have hat' : ∀ g', (Value.slice (some ⟨g, 0, none⟩) (st.O.length + 1) cap).ownBlock = some g' → v.ov.ownBlock = some g' ∨ g' = ((w3.alloc (.cells #[.int .i64 a, .int .i64 b, .int .i64 c, .int .i64 e] 58)).drew).heap.size := fun g' hg' => by
        obtain rfl : g = g' := by simpa [Value.ownBlock] using hg'
        rw [HV.out]
        rcases hat with h5 | h5
        · exact .inl h5
        · exact .inr (by simpa using h5)
      have r := H4.out.opTurn (O' := st.O ++ [⟨a, b, c, e⟩]) (ov' := .slice (some ⟨g, 0, none⟩) (st.O.length + 1) cap) (by rw [HV.out]; exact hgrow) (by simpa [List.flatMap_append, itC] using hown5) hat'
      exact ⟨rfl, _, r.1, (HG.out.trans (Goes.ofBelow (((Below.refl _ _).alloc (Nat.le_refl _) _).drew))).trans r.2⟩

theorem ch_put_any {w : World} {B nm : Nat} {d : Ad} {v : CM} {st : ChS} (h : ChM w B d v st nm) {a b c e : Nat} (hs : Small ⟨a, b, c, e⟩) (hI : st.I.length ≤ 1000000) (hO : st.O.length ≤ 1000000) :
    Calls Try.prog 17 #[.pointer (some ⟨d.ca, 0, none⟩), .agg #[.int .i64 a, .int .i64 b, .int .i64 c, .int .i64 e]] w fun r w' => r = .returned (.tuple #[]) ∧ ∃ ov', ChM w' B d { v with ov := ov' } (putF st ⟨a, b, c, e⟩) nm ∧ Goes d v { v with ov := ov' } w w' := by
  unfold putF
  split
  · rename_i hin
    exact (put_old h hs hI hin).mono fun r w' ⟨h1, h2, h3⟩ => ⟨h1, v.ov, h2, h3⟩
  · rename_i hin
    exact put_new h hs hI hO hin

set_option maxRecDepth 100000 in
set_option maxHeartbeats 1600000 in
theorem readOn_any {w : World} {B nm : Nat} {d : Ad} {v : CM} {st : ChS} (h : ChM w B d v st nm) {a b c e j : Nat} (hs : Small (adv ⟨a, b, c, e⟩ j)) (hI : st.I.length ≤ 1000000) (hO : st.O.length ≤ 1000000) :
    Calls Try.prog 20 #[.pointer (some ⟨d.ca, 0, none⟩), .agg #[.int .i64 a, .int .i64 b, .int .i64 c, .int .i64 e], .int .i64 j] w fun r w' => r = .returned (.tuple #[]) ∧ ∃ ov', ChM w' B d { v with ov := ov' } (putF st (adv ⟨a, b, c, e⟩ j)) nm ∧ Goes d v { v with ov := ov' } w w' := by
  have hb1 := hs.b
  have hb2 : b + 1 ≤ 1000 := hb1
  have h1 := h.alloc (.cells #[.int .i64 a, .int .i64 ((b : Int) + 1), .int .i64 c, .int .i64 j] 58)
  have put := ch_put_any h1 (a := a) (b := b + 1) (c := c) (e := j) hs hI hO
  rw [show ((b + 1 : Nat) : Int) = (b : Int) + 1 from rfl] at put
  clear h h1
  go_enter Try.func20, Try.ntmps20
  go_wp2_with (go_at_call 17; refine put.mono ?_; rintro r w1 ⟨rfl, v', h2, h3⟩)
  go_end0
  exact ⟨rfl, v', h2, (Goes.ofBelow ((Below.refl _ _).alloc (Nat.le_refl _) _)).trans h3⟩

end Go.Proofs.Ytgkikliaadjmiaa
