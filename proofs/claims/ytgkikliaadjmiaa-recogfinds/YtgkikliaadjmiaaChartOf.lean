/- The contract of recog's chartOf. -/
import Derived.Test.YtgkikliaadjmiaaChartLook
import Derived.Deep.LoopGhost
import Derived.Carry
namespace Go.Proofs.Ytgkikliaadjmiaa
open Go.RowKit

def cm0 : CM := ⟨.slice none 0 0, fun _ => .slice none 0 0, fun _ => .slice none 0 0⟩
/-- Where the chart lies that is made ahead of block number k. -/
def adOf (k T N : Nat) (rv tv : Value) : Ad := ⟨k + 1 + 1 + 1, k, k + 1, k + 1 + 1, T, N, rv, tv⟩

theorem ch_start (w : World) (T N : Nat) (rv tv : Value) :
    ChM ((((w.alloc (.map #[] 0)).alloc (.map #[] 0)).alloc (.map #[] 0)).alloc (.cells #[.int .i64 T, .int .i64 N, rv, tv, .map (some w.heap.size), .slice none 0 0, .map (some (w.heap.size + 1)), .map (some (w.heap.size + 1 + 1))] 53)) w.heap.size (adOf w.heap.size T N rv tv) cm0 cs0 0 := by
  have m1 := mapAt_made w Try.prog 58 itV
  have m2 := mapAt_made (w.alloc (.map #[] 0)) Try.prog 56 spV
  have m3 := mapAt_made ((w.alloc (.map #[] 0)).alloc (.map #[] 0)) Try.prog 56 spV
  simp only [World.size_alloc] at m2 m3
  have eI : (fun _ => none) = inI ([] : List Itm) := by funext x; simp [inI]
  have eW : (fun _ => none) = inV cs0.W cm0.VW := by funext x; simp [inV, cs0]
  have eE : (fun _ => none) = inV cs0.E cm0.VE := by funext x; simp [inV, cs0]
  refine ⟨⟨fun i r hr => ?_, fun i j x y hij hx hy g h1 h2 => ?_⟩, (((m1.alloc _).alloc _).alloc _).congr eI, ((m2.alloc _).alloc _).congr eW, (m3.alloc _).congr eE, fun _ _ => rfl, fun _ _ => rfl, by simp only [adOf]; omega, by simp only [adOf]; omega, by simp only [adOf]; omega, by simp only [adOf]; omega⟩
  · cases i <;> simp only [Pc, Option.some.injEq] at hr <;> subst hr
    · have := World.ownsRow_lit (base := w.heap.size) (e := 53) (size := 8) (((w.alloc (.map #[] 0)).alloc (.map #[] 0)).alloc (.map #[] 0)) #[.int .i64 T, .int .i64 N, rv, tv, .map (some w.heap.size), .slice none 0 0, .map (some (w.heap.size + 1)), .map (some (w.heap.size + 1 + 1))] 1 (by simp; omega) (by unfold maxLen; omega) rfl
      simp only [World.size_alloc] at this
      exact this
    · exact World.ownsRow_nil _ _ _ _
    · exact World.ownsRow_nil _ _ _ _
    · exact World.ownsRow_nil _ _ _ _
  · cases i <;> cases j <;> simp only [Pc, Option.some.injEq] at hx hy <;> subst hx <;> subst hy <;> first | exact hij rfl | (cases h2; done) | (cases h1; done)

/-- What holds whenever the chart's loop begins anew. -/
structure RdC (R : List Ru) (tok : List Int) (B : Nat) (d : Ad) (W : World) (st : ChS) (v : CM) (nm : Nat) (wq : World) : Prop where
  m : ChM wq B d v st nm
  nc : nm ≤ st.c
  c : Cht R tok (fun _ => False) st
  b : Bnd st
  g : Begun R st (0, 0)
  below : Below B W wq

theorem Bnd.small {st : ChS} (h : Bnd st) : st.I.length ≤ 345960 ∧ st.O.length ≤ 345960 ∧ st.c ≤ 345960 := by
  have := h.fit
  have := h.cnt
  omega

set_option maxRecDepth 100000 in
set_option maxHeartbeats 6400000 in
theorem chartOf_any {w : World} {T N : Nat} {rv tv : Value} {R : List Ru} {tok : List Int} (hr : RulesAt w w.heap.size rv R) (ht : ListAt w w.heap.size tv tok) (hm : mayB T N R = true) (htl : tok.length ≤ 30) :
    Calls Try.prog 9 #[.agg #[.int .i64 T, .int .i64 N, rv], tv] w fun r w' => ∃ d v st nm, r = .returned (.pointer (some ⟨d.ca, 0, none⟩)) ∧ d.tv = tv ∧ ChM w' (w.heap.size + 1) d v st nm ∧ nm ≤ 1000000 ∧ (st.E (0, 0)).length ≤ 1000000 ∧ (tok.length ∈ st.E (0, 0) ↔ Der R 0 tok) ∧ Below w.heap.size w w' := by
  obtain ⟨hT, hN1, hN, hRl, hfine⟩ := may_fine hm
  obtain ⟨ra, rc, hrv⟩ := hr.1
  obtain ⟨ta, tc, htv⟩ := ht.1
  obtain ⟨rl, hrl⟩ : ∃ rl, R.length = rl := ⟨_, rfl⟩
  obtain ⟨tl, htl'⟩ : ∃ tl, tok.length = tl := ⟨_, rfl⟩
  have HTL : Hid (tok.length = tl) := htl'
  rw [hrl] at hrv
  rw [htl'] at htv
  clear hrl htl'
  subst hrv
  subst htv
  obtain ⟨rv, hrv⟩ : ∃ rv, Value.slice ra rl rc = rv := ⟨_, rfl⟩
  obtain ⟨tv, htv⟩ : ∃ tv, Value.slice ta tl tc = tv := ⟨_, rfl⟩
  rw [hrv] at hr
  rw [htv] at ht
  have hall : ∀ it, ItOk R tok it → it ∈ chAllIt := fun it h => h.all hRl (fun q hq => (hfine q hq).2.2.1) htl
  have hst := ch_start (w.alloc (.cells #[.int .i64 T, .int .i64 N, rv] 24)) T N rv tv
  simp only [World.size_alloc] at hst
  obtain ⟨d, hd⟩ : ∃ d, adOf (w.heap.size + 1) T N rv tv = d := ⟨_, rfl⟩
  have hca : d.ca = w.heap.size + 1 + 1 + 1 + 1 := by rw [← hd]; rfl
  have hdr : d.rv = rv := by rw [← hd]; rfl
  have hdt : d.tv = tv := by rw [← hd]; rfl
  rw [hd] at hst
  obtain ⟨W5, hW5⟩ : ∃ W5, (((((w.alloc (.cells #[.int .i64 T, .int .i64 N, rv] 24)).alloc (.map #[] 0)).alloc (.map #[] 0)).alloc (.map #[] 0)).alloc (.cells #[.int .i64 T, .int .i64 N, rv, tv, .map (some (w.heap.size + 1)), .slice none 0 0, .map (some (w.heap.size + 1 + 1)), .map (some (w.heap.size + 1 + 1 + 1))] 53)) = W5 := ⟨_, rfl⟩
  rw [hW5] at hst
  have hb5 : Below w.heap.size w W5 := by rw [← hW5]; exact (((((Below.refl _ _).alloc (Nat.le_refl _) _).alloc (by simp) _).alloc (by simp; omega) _).alloc (by simp; omega) _).alloc (by simp; omega) _
  have bg := begin_any hst (R := R) (n := 0) (p := 0) (by rw [hdr]; exact (hr.below hb5).mono (by omega)) hRl (by omega) (by simp [cs0]) (by simp [cs0])
  rw [show ((0 : Nat) : Int) = 0 from rfl, hca] at bg
  have HRT : Hid (∀ wq, Below (w.heap.size + 1) W5 wq → RulesAt wq (w.heap.size + 1) d.rv R ∧ ListAt wq (w.heap.size + 1) d.tv tok ∧ Below w.heap.size w wq) := fun wq hb => by
    rw [hdr, hdt]
    have h5 : Below w.heap.size w wq := hb5.trans (hb.mono (by omega))
    exact ⟨(hr.below h5).mono (by omega), (ht.below h5).mono (by omega), h5⟩
  have HS : Hid (ChM W5 (w.heap.size + 1) d cm0 cs0 0) := hst
  have HALL : Hid (∀ it, ItOk R tok it → it ∈ chAllIt) := hall
  have HFI : Hid (∀ i, i < R.length → 0 ≤ (R.getD i (0, [])).1 ∧ (R.getD i (0, [])).1 < (N : Int) ∧ (R.getD i (0, [])).2.length ≤ 8 ∧ ∀ s ∈ (R.getD i (0, [])).2, 0 ≤ s.2 ∧ s.2 < if s.1 then (T : Int) else (N : Int)) := hfine
  have HDT : Hid (d.tv = tv) := hdt
  have HW5 : Hid ((((((w.alloc (.cells #[.int .i64 T, .int .i64 N, rv] 24)).alloc (.map #[] 0)).alloc (.map #[] 0)).alloc (.map #[] 0)).alloc (.cells #[.int .i64 T, .int .i64 N, rv, tv, .map (some (w.heap.size + 1)), .slice none 0 0, .map (some (w.heap.size + 1 + 1)), .map (some (w.heap.size + 1 + 1 + 1))] 53)) = W5) := hW5
  clear hr ht hm hst hall hd hdr hdt hb5 hW5 hfine
  rw [← hrv, ← htv] at HW5
  rw [← htv] at HDT
  clear hrv htv rv tv
  have hmm := @run_makeMap Try.prog
  go_enter Try.func9, Try.ntmps9
  go_upto_region 2 with fail
  clear hmm
  have HCA : Hid (w.heap.size + 1 + 1 + 1 + 1 = d.ca) := hca.symm
  clear hca
  go_cut [5] from 6 (fun s5 wx => s5 = .pointer (some ⟨d.ca, 0, none⟩) ∧ ∃ v st nm, RdC R tok (w.heap.size + 1) d W5 st v nm wx)
  case first =>
    rw [HW5.out]
    go_wp2_with (go_at_call 12; refine bg.mono ?_; rintro r w1 ⟨rfl, ov', h3, h4⟩)
    go_meet
    case rel =>
      obtain ⟨s1, s2, s3⟩ := cht_start R tok
      exact ⟨by rw [HCA.out], _, _, 0, h3, Nat.zero_le _, s1, bnd_start HALL.out, s2, HS.out.goes_below h4⟩
  case rest =>
    obtain ⟨rfl, v0, st0, nm0, hRd⟩ := hcut
    have HRD : Hid (RdC R tok (w.heap.size + 1) d W5 st0 v0 nm0 wc) := hRd
    clear hRd bg HS HW5 HCA
    go_wp2_with fail
    go_loopg [] (2 * chTogo st0.I + st0.O.length) (fun n wq => ∃ v st nm, n = 2 * chTogo st.I + st.O.length ∧ RdC R tok (w.heap.size + 1) d W5 st v nm wq)
    case atStart => exact ⟨v0, st0, nm0, rfl, HRD.out⟩
    case round =>
      clear HRD
      obtain ⟨v, st, nm, hgk, hRd⟩ := hrel
      have HRD : Hid (RdC R tok (w.heap.size + 1) d W5 st v nm wr) := hRd
      have HGK : Hid (gk = 2 * chTogo st.I + st.O.length) := hgk
      obtain ⟨oa, oc, hov⟩ := hRd.m.own.slice (i := .op) rfl
      have hov' : v.ov = .slice oa st.O.length oc := hov
      have c5 := (hRd.m.cell (i := 5) rfl (by omega)).1
      obtain ⟨sI, sO, sc⟩ := hRd.b.small
      by_cases hO : 0 < st.O.length
      · obtain ⟨g, cap, hgv, _, hglt⟩ := hRd.m.own.form (i := .op) rfl hO
        have hgv' : v.ov = .slice (some ⟨g, 0, none⟩) st.O.length cap := hgv
        obtain ⟨k, hk⟩ : ∃ k, st.O.length = k + 1 := ⟨st.O.length - 1, by omega⟩
        have ho := hRd.m.own.own .op _ rfl
        simp only at ho
        obtain ⟨it, hit⟩ : ∃ it, lastO st = it := ⟨_, rfl⟩
        have hit' : st.O.getD k ⟨0, 0, 0, 0⟩ = it := by rw [← hit]; unfold lastO; rw [hk]; rfl
        obtain ⟨q0, q1, q2, q3⟩ := row_item ho hgv' (i := k) (by omega) hit'
        have hcap : k + 1 ≤ cap := by
          rw [hgv'] at ho
          rcases ho.2 with ⟨e, _⟩ | ⟨g', cap', cur, e, _, _, h4, _⟩
          · cases e
          · injection e with _ _ e3
            omega
        obtain ⟨pin, pc⟩ := hRd.c.pop hO
        rw [hit] at pin pc
        have hok := hRd.c.ok it pin
        have hlk := pc.look pin
        have hless := look_less hRd.b hRd.c hO HALL.out
        rw [hit] at hless
        obtain ⟨hR1, hT1, _⟩ := HRT.out wr hRd.below
        obtain ⟨pm0, pg⟩ := hRd.m.pop hgv' hO
        rw [hk] at pm0 pg
        rw [show k + 1 - 1 = k from rfl] at pm0 pg
        have pm := pm0.alloc (.cells #[.int .i64 it.rule, .int .i64 it.read, .int .i64 it.fr, .int .i64 it.upto] 58)
        have hca : d.ca < wr.heap.size := (hRd.m.kc (.inr (.inr (.inr (.inl rfl))))).2
        have pb := hRd.m.goes_below (pg.alloc (.cells #[.int .i64 it.rule, .int .i64 it.read, .int .i64 it.fr, .int .i64 it.upto] 58))
        have wl : ∀ s, ((popF st).W s).length ≤ 345960 := fun s => by have := hRd.b.wl s; show (st.W s).length ≤ _; omega
        have el : ∀ s, ((popF st).E s).length ≤ 345960 := fun s => by have := hRd.b.el s; show (st.E s).length ≤ _; omega
        have hfr : it.fr ≤ 30 ∧ it.upto ≤ 30 := by have := hok.le; have := hok.len; omega
        have hrd := hok.read
        have h8 := (HFI.out _ hok.rule).2.2.1
        have hru := hok.rule
        have lk := look_any (R := R) (tok := tok) pm (hR1.below pb) (hT1.below pb) (a := it.rule) (b := it.read) (c := it.fr) (e := it.upto)
          ⟨hok.rule, hok.read, hfr.1, hfr.2, hRl, h8, (HFI.out _ hok.rule).1, by have := (HFI.out _ hok.rule).2.1; show (R.getD it.rule (0, [])).1 ≤ 1000; omega, fun s hs => by have := (HFI.out _ hok.rule).2.2.2 s hs; split at this <;> omega, htl⟩ (by have := hRd.nc; omega) sI (by show st.O.dropLast.length ≤ _; simp; omega) wl el
          (fun s x hx => by
            obtain ⟨a1, a2, _⟩ := pc.wok s x hx
            have o1 := hRd.c.ok x a1
            have := o1.rule
            have := (HFI.out _ o1.rule).2.2.1
            have := o1.le
            have := o1.len
            unfold rightOf at a2
            exact ⟨by simp only [adv]; omega, by simp only [adv]; omega, by simp only [adv]; omega, by simp only [adv]; omega⟩)
          (fun s j hj => by
            obtain ⟨_, a2, _⟩ := pc.eok s j hj
            unfold rightOf at hrd
            exact ⟨by simp only [adv]; omega, by simp only [adv]; omega, by simp only [adv]; omega, by simp only [adv]; omega⟩)
        have HLK : Hid (Cht R tok (fun _ => False) (chLookF R tok it (popF st))) := hlk
        have HLS : Hid (Less st (chLookF R tok it (popF st))) := hless
        have HPB : Hid (Below (w.heap.size + 1) wr ((wr.setCell ⟨d.ca, 5, none⟩ (.slice (some ⟨g, 0, none⟩) k cap)).alloc (.cells #[.int .i64 it.rule, .int .i64 it.read, .int .i64 it.fr, .int .i64 it.upto] 58))) := pb
        have HPM : Hid (ChM ((wr.setCell ⟨d.ca, 5, none⟩ (.slice (some ⟨g, 0, none⟩) k cap)).alloc (.cells #[.int .i64 it.rule, .int .i64 it.read, .int .i64 it.fr, .int .i64 it.upto] 58)) (w.heap.size + 1) d { v with ov := .slice (some ⟨g, 0, none⟩) k cap } (popF st) nm) := pm
        have f5 := (hRd.m.cell (i := 5) rfl (by omega)).2
        rw [hgv', hk] at c5
        have i0 : (0 : Int) ≤ (k : Int) := Int.natCast_nonneg _
        have i1 : (k : Int) < (k : Int) + 1 := by omega
        have i2 : (k : Int) ≤ (cap : Int) := by omega
        have hkb : k ≤ 345960 := by omega
        obtain ⟨ra', rb', rc', re'⟩ := it
        simp only at q0 q1 q2 q3 lk HPB HPM
        clear hRd hgk hov hov' hgv hgv' ho hit hit' pin pc hok hlk hless hR1 hT1 pm pm0 pg pb wl el hfr hrd h8 hru hO hcap hglt
        go_wp2_with (go_at_call 13; refine lk.mono ?_; rintro r w1 ⟨rfl, v', h3, h4⟩)
        go_roundg (2 * chTogo (chLookF R tok ⟨ra', rb', rc', re'⟩ (popF st)).I + (chLookF R tok ⟨ra', rb', rc', re'⟩ (popF st)).O.length)
        case measure => rw [HGK.out]; exact HLS.out.less
        case rel =>
          exact ⟨v', _, nm + 1, rfl, h3, by rw [HLS.out.c]; have := HRD.out.nc; omega, HLK.out, HLS.out.bnd, fun q hq he => HLS.out.mono _ (HRD.out.g q hq he), (HRD.out.below.trans HPB.out).trans (HPM.out.goes_below h4)⟩
      · have hO0 : st.O.length = 0 := by omega
        rw [hov', hO0] at c5
        have HO : Hid (st.O = []) := List.length_eq_zero_iff.1 hO0
        clear hRd hgk hov hov' hO hO0
        go_wp2_with fail
        go_ret
        refine ⟨d, v, st, nm, rfl, HDT.out, HRD.out.m, by have := HRD.out.nc; omega, by have := HRD.out.b.el (0, 0); omega, ?_, (HRT.out wr HRD.out.below).2.2⟩
        exact HRD.out.c.tells HO.out HRD.out.g

end Go.Proofs.Ytgkikliaadjmiaa
