import Derived.Test.YtinmafbaapoloaaClMathAndVisitMath
import Derived.Test.YtinmafbaapoloaaMathAndAuto6
/- Plain: where states go on (F1): of all states that were found; and lookaheads (F2) as the least sets. -/
namespace Go.Proofs.Ytinmafbaapoloaa
open Classical

section
variable {T N : Nat} {R : List Ru}

/-- From the state k by the symbol x one comes to z. -/
structure GoOk (T : Nat) (R : List Ru) (Ls : List SetI) (k x : Nat) (z : Int) : Prop where
  some : (∃ i, Ls.getD k noS i ∧ nextIs T R i x) → ∃ n : Nat, z = n ∧ n < Ls.length ∧ Ls.getD n noS = gotoS T R (Ls.getD k noS) x
  none : (¬ ∃ i, Ls.getD k noS i ∧ nextIs T R i x) → z = -1

theorem getD_pre {L E : List SetI} {n : Nat} (h : n < L.length) : (L ++ E).getD n noS = L.getD n noS := by simp [List.getD, List.getElem?_append_left h]

theorem GoOk.more {Ls : List SetI} {k x : Nat} {z : Int} (h : GoOk T R Ls k x z) (hk : k < Ls.length) (E : List SetI) : GoOk T R (Ls ++ E) k x z := by
  refine ⟨fun hx => ?_, fun hx => ?_⟩
  · rw [getD_pre hk] at hx ⊢
    obtain ⟨n, h1, h2, h3⟩ := h.some hx
    exact ⟨n, h1, by simp; omega, by rw [getD_pre h2]; exact h3⟩
  · rw [getD_pre hk] at hx
    exact h.none hx

theorem visit_go {L : List SetI} {k x : Nat} (hk : k < L.length) : GoOk T R (visit T R L k x).2 k x (visit T R L k x).1 := by
  unfold visit
  by_cases h : ∃ i, L.getD k noS i ∧ nextIs T R i x
  · rw [if_pos h]
    by_cases h2 : ∃ n, n < L.length ∧ L.getD n noS = gotoS T R (L.getD k noS) x
    · rw [dif_pos h2]
      exact ⟨fun _ => ⟨_, rfl, (Classical.choose_spec h2).1, (Classical.choose_spec h2).2⟩, fun hn => absurd h hn⟩
    · rw [dif_neg h2]
      refine ⟨fun _ => ⟨L.length, rfl, by simp, ?_⟩, fun hn => ?_⟩
      · rw [getD_pre hk]; simp [List.getD]
      · rw [getD_pre hk] at hn; exact absurd h hn
  · rw [if_neg h]
    exact ⟨fun hh => absurd hh h, fun _ => rfl⟩

theorem row_go {L : List SetI} {k : Nat} (hk : k < L.length) (x : Nat) : ∀ y, y < x → GoOk T R (rowN T R k x L).2 k y ((rowN T R k x L).1.getD y 0) := by
  induction x with
  | zero => intro y hy; exact absurd hy (Nat.not_lt_zero _)
  | succ x ih =>
    intro y hy
    have e : rowN T R k (x + 1) L = rowS T R k x (rowN T R k x L) := rfl
    obtain ⟨E, hE⟩ := row_pre (T := T) (R := R) k x L
    have hk' : k < (rowN T R k x L).2.length := by rw [hE, List.length_append]; omega
    have hl := row_len (T := T) (R := R) k x L
    rw [e, rowS]
    simp only
    rcases Nat.lt_succ_iff_lt_or_eq.1 hy with hy | rfl
    · obtain ⟨F, hF⟩ := visit_pre (T := T) (R := R) (rowN T R k x L).2 k x
      rw [hF]
      have := (ih y hy).more hk' F
      have e2 : ((rowN T R k x L).1 ++ [(visit T R (rowN T R k x L).2 k x).1]).getD y 0 = (rowN T R k x L).1.getD y 0 := by simp [List.getD, List.getElem?_append_left (show y < (rowN T R k x L).1.length by omega)]
      rw [e2]
      exact this
    · have e2 : ((rowN T R k y L).1 ++ [(visit T R (rowN T R k y L).2 k y).1]).getD y 0 = (visit T R (rowN T R k y L).2 k y).1 := by
        rw [List.getD, List.getElem?_append_right (by omega), hl]; simp
      rw [e2]
      exact visit_go hk'

theorem all_pre (j k : Nat) (h : j ≤ k) : ∃ E, (allN T N R k).2 = (allN T N R j).2 ++ E := by
  induction h with
  | refl => exact ⟨[], by simp⟩
  | step _ ih =>
    rename_i m _
    obtain ⟨E, hE⟩ := ih
    obtain ⟨F, hF⟩ := row_pre (T := T) (R := R) m (T + N) (allN T N R m).2
    have e : allN T N R (m + 1) = allS T N R m (allN T N R m) := rfl
    exact ⟨E ++ F, by rw [e, allS]; simp only; rw [hF, hE, List.append_assoc]⟩

/-- Of all states done: where they go on. -/
theorem all_go {K : Nat} (hK : ∀ k, k < K → k < (allN T N R k).2.length) : ∀ k, k < K → ∀ x, x < T + N → ((allN T N R K).1.getD k []).length = T + N ∧ GoOk T R (allN T N R K).2 k x (((allN T N R K).1.getD k []).getD x 0) := by
  induction K with
  | zero => intro k hk; exact absurd hk (Nat.not_lt_zero _)
  | succ K ih =>
    intro k hk x hx
    have e : allN T N R (K + 1) = allS T N R K (allN T N R K) := rfl
    have hl := all_len (T := T) (N := N) (R := R) K
    obtain ⟨F, hF⟩ := row_pre (T := T) (R := R) K (T + N) (allN T N R K).2
    rw [e, allS]
    simp only
    rcases Nat.lt_succ_iff_lt_or_eq.1 hk with hk | rfl
    · obtain ⟨h1, h2⟩ := ih (fun k hk => hK k (by omega)) k hk x hx
      have e2 : ((allN T N R K).1 ++ [(rowN T R K (T + N) (allN T N R K).2).1]).getD k [] = (allN T N R K).1.getD k [] := by simp [List.getD, List.getElem?_append_left (show k < (allN T N R K).1.length by omega)]
      have hkl : k < (allN T N R K).2.length := Nat.lt_of_lt_of_le (hK k (by omega)) (all_le (by omega))
      rw [e2, hF]
      exact ⟨h1, h2.more hkl F⟩
    · have e2 : ((allN T N R k).1 ++ [(rowN T R k (T + N) (allN T N R k).2).1]).getD k [] = (rowN T R k (T + N) (allN T N R k).2).1 := by
        rw [List.getD, List.getElem?_append_right (by omega), hl]; simp
      rw [e2]
      exact ⟨row_len _ _ _, row_go (hK k (by omega)) (T + N) x hx⟩

/-- Where there are just K states, each of them is there when its turn comes. -/
theorem whole_reach {K : Nat} (h : Whole T N R K) : ∀ k, k < K → k < (allN T N R k).2.length := by
  intro k hk
  refine Classical.byContradiction fun hn => ?_
  have hfix : ∀ j, k ≤ j → (allN T N R j).2.length ≤ k := by
    intro j hj
    induction hj with
    | refl => omega
    | step hj ih =>
      rename_i j
      have e : allN T N R (j + 1) = allS T N R j (allN T N R j) := rfl
      have hno : ∀ y L, L.length ≤ k → (rowN T R j y L).2 = L := by
        intro y L hL
        induction y with
        | zero => rfl
        | succ y ihy =>
          have e2 : rowN T R j (y + 1) L = rowS T R j y (rowN T R j y L) := rfl
          rw [e2, rowS]
          simp only
          rw [ihy, visit_none]
          rintro ⟨i, hi, _⟩
          rw [List.getD, List.getElem?_eq_none (by have hj' : k ≤ j := hj; omega)] at hi
          exact hi
      rw [e, allS]
      simp only
      rw [hno _ _ ih]
      exact ih
  have := hfix K (by omega)
  unfold Whole at h
  omega

/-- Each state is what closes something. -/
def ClosedS (R : List Ru) (S : SetI) : Prop := ∃ S0, S = Cl R S0
theorem visit_closed {L : List SetI} {k x : Nat} (h : ∀ S ∈ L, ClosedS R S) : ∀ S ∈ (visit T R L k x).2, ClosedS R S := by
  unfold visit
  split
  · split
    · exact h
    · intro S hS
      rcases List.mem_append.1 hS with hS | hS
      · exact h S hS
      · simp only [List.mem_singleton] at hS
        exact ⟨_, hS⟩
  · exact h
theorem all_closed (k : Nat) : ∀ S ∈ (allN T N R k).2, ClosedS R S := by
  induction k with
  | zero => intro S hS; simp only [allN, loopN, List.mem_singleton] at hS; exact ⟨_, hS⟩
  | succ k ih =>
    have e : allN T N R (k + 1) = allS T N R k (allN T N R k) := rfl
    rw [e, allS]
    simp only
    have : ∀ x L, (∀ S ∈ L, ClosedS R S) → ∀ S ∈ (rowN T R k x L).2, ClosedS R S := by
      intro x L hL
      induction x with
      | zero => exact hL
      | succ x ihx =>
        have e : rowN T R k (x + 1) L = rowS T R k x (rowN T R k x L) := rfl
        rw [e, rowS]
        exact visit_closed ihx
    exact this _ _ ih

/-- A state holds what closes it. -/
theorem closed_step {S : SetI} (h : ClosedS R S) {i : It} (hi : S i) {m : Int} (h1 : (rightF R i.1)[i.2]? = some (false, m)) {n : Nat} (h2 : n < R.length) (h3 : (R.getD n (0, [])).1 = m) : S (n, 0) := by
  obtain ⟨S0, rfl⟩ := h
  exact Cl.step (r := i.1) (d := i.2) hi h1 h2 h3

/-- An item that is read on is in the next state. -/
theorem goto_item {S : SetI} {i : It} (hi : S i) {s : Sy} {x : Nat} (h1 : (rightF R i.1)[i.2]? = some s) (h2 : numF T s = x) : gotoS T R S x (i.1, i.2 + 1) := Cl.base ⟨i, hi, ⟨s, h1, h2⟩, rfl⟩
end

/-! ### Lookaheads -/

/-- beg, nul: what symbols may begin with; whether they may be nothing. -/
inductive LookP (T : Nat) (R : List Ru) (beg : List Sy → Nat → Bool) (nul : List Sy → Bool) (NL : List (List Int)) (Ls : List SetI) : Nat → It → Nat → Prop
  | start : LookP T R beg nul NL Ls 0 (R.length, 0) T
  | on {k : Nat} {i : It} {t : Nat} {s : Sy} {n : Nat} (h : LookP T R beg nul NL Ls k i t) (h1 : (rightF R i.1)[i.2]? = some s) (h2 : (NL.getD k []).getD (numF T s).toNat 0 = (n : Int)) : LookP T R beg nul NL Ls n (i.1, i.2 + 1) t
  | begins {k : Nat} {i : It} {t : Nat} {m : Int} {n : Nat} (hk : k < Ls.length) (h : Ls.getD k noS i) (h1 : (rightF R i.1)[i.2]? = some (false, m)) (h2 : n < R.length) (h3 : (R.getD n (0, [])).1 = m) (ht : t ≤ T) (h4 : beg ((rightF R i.1).drop (i.2 + 1)) t = true) : LookP T R beg nul NL Ls k (n, 0) t
  | nothing {k : Nat} {i : It} {t : Nat} {m : Int} {n : Nat} (h : LookP T R beg nul NL Ls k i t) (h1 : (rightF R i.1)[i.2]? = some (false, m)) (h2 : n < R.length) (h3 : (R.getD n (0, [])).1 = m) (h4 : nul ((rightF R i.1).drop (i.2 + 1)) = true) : LookP T R beg nul NL Ls k (n, 0) t

end Go.Proofs.Ytinmafbaapoloaa

/- The contract of pollardingref6's behind. -/
namespace Go.Proofs.Ytinmafbaapoloaa
open Go.RowKit

/-- May a term (or the end) begin symbols; may they all be nothing? -/
def behF (Nu : List Bool) (Fi : List (List Bool)) (T t : Nat) : List Sy → Bool × Bool
  | [] => (false, true)
  | (true, v) :: _ => (decide (v = (t : Int)), false)
  | (false, v) :: l => if decide (t < T) && (Fi.getD v.toNat []).getD t false then (true, false) else if Nu.getD v.toNat false then behF Nu Fi T t l else (false, false)

set_option maxRecDepth 100000 in
set_option maxHeartbeats 1600000 in
theorem behind6_any {w : World} {ab T N t : Nat} {nv fv lv : Value} {Nu : List Bool} {Fi : List (List Bool)} {l : List Sy} (a0 : w.cell? ⟨ab, 0, none⟩ = some (.int .i64 T)) (a3 : w.cell? ⟨ab, 3, none⟩ = some nv) (a4 : w.cell? ⟨ab, 4, none⟩ = some fv)
    (hn : BoolsAt w nv Nu) (hfi : MatAt w fv Fi) (hl : SymsAt w lv l) (hN : Nu.length = N) (hF : Fi.length = N) (hFl : ∀ i, i < N → (Fi.getD i []).length = T) (ht : t ≤ T) (hin : ∀ s ∈ l, s.1 = false → 0 ≤ s.2 ∧ s.2 < (N : Int)) (h8 : l.length ≤ 1000) :
    Calls Try.prog 58 #[.pointer (some ⟨ab, 0, none⟩), lv, .int .i64 t] w fun e w' => e = .returned (.tuple #[.bool (behF Nu Fi T t l).1, .bool (behF Nu Fi T t l).2]) ∧ ∃ m, w' = w.drewN m := by
  obtain ⟨na, nc, hnv⟩ := hn.1
  obtain ⟨fa, fc, hfv⟩ := hfi.1
  obtain ⟨la, lc, hlv, _⟩ := hl.1
  subst hnv
  subst hfv
  subst hlv
  have HN : Hid (BoolsAt w (.slice na Nu.length nc) Nu) := hn
  have HFi : Hid (MatAt w (.slice fa Fi.length fc) Fi) := hfi
  have HL : Hid (SymsAt w (.slice la l.length lc) l) := hl
  have HI : Hid (∀ s ∈ l, s.1 = false → 0 ≤ s.2 ∧ s.2 < (N : Int)) := hin
  have HFl : Hid (∀ i, i < N → (Fi.getD i []).length = T) := hFl
  have HA : Hid (w.cell? ⟨ab, 0, none⟩ = some (.int .i64 T) ∧ w.cell? ⟨ab, 3, none⟩ = some (.slice na Nu.length nc) ∧ w.cell? ⟨ab, 4, none⟩ = some (.slice fa Fi.length fc)) := ⟨a0, a3, a4⟩
  have HNF : Hid (Nu.length = N ∧ Fi.length = N) := ⟨hN, hF⟩
  clear hn hfi hl hin hFl a0 a3 a4 hN hF
  go_enter Try.func58, Try.ntmps58
  go_wp2_with fail
  go_loopw [8] (fun s wr => ∃ k m : Nat, s = .int .i64 k ∧ k ≤ l.length ∧ wr = w.drewN m ∧ behF Nu Fi T t l = behF Nu Fi T t (l.drop k)) (fun s _ => l.length - (intOf s).toNat)
  case atStart => exact ⟨0, 0, rfl, Nat.zero_le _, rfl, rfl⟩
  case round =>
    obtain ⟨k, m, rfl, hk, rfl, hb⟩ := hrel
    have HB : Hid (behF Nu Fi T t l = behF Nu Fi T t (l.drop k)) := hb
    obtain ⟨a0, a3, a4⟩ := HA.out
    clear hb
    by_cases hlt : k < l.length
    · obtain ⟨b, o, c, hve, k1, k2⟩ := HL.out.2 k hlt
      cases hve
      have hmem : l.getD k (false, 0) ∈ l := by simp [List.getD, hlt]
      have hr := HI.out _ hmem
      have hdrop : l.drop k = l.getD k (false, 0) :: l.drop (k + 1) := by rw [List.drop_eq_getElem_cons hlt]; simp [List.getD, hlt]
      obtain ⟨⟨x, v⟩, hs⟩ : ∃ x, l.getD k (false, 0) = x := ⟨_, rfl⟩
      rw [hs] at k1 k2 hr hdrop
      simp only at k1 k2
      have HD : Hid (l.drop k = (x, v) :: l.drop (k + 1)) := hdrop
      have i0 : (0 : Int) ≤ (k : Int) := Int.natCast_nonneg _
      have i1 : (k : Int) < (l.length : Int) := by omega
      clear hmem hs hdrop
      cases x with
      | true =>
        have HE : Hid (behF Nu Fi T t l = (decide (v = (t : Int)), false)) := by show behF Nu Fi T t l = _; rw [HB.out, HD.out]; rfl
        clear hr
        obtain ⟨z, hz⟩ : ∃ z, (v == (t : Int)) = z := ⟨_, rfl⟩
        have HZ : Hid (decide (v = (t : Int)) = z) := by show decide (v = (t : Int)) = z; rw [← hz, Bool.eq_iff_iff]; simp
        go_wp2_with fail
        refine bodyPost_ret (v := .tuple #[.bool z, .bool false]) (by simp [results, Try.results58, go_sem]) rfl ⟨by rw [HE.out, HZ.out], m, rfl⟩
      | false =>
        have hv : 0 ≤ v ∧ v < (N : Int) := hr rfl
        clear hr
        obtain ⟨y, rfl⟩ : ∃ y : Nat, v = y := ⟨v.toNat, by omega⟩
        obtain ⟨g1, o1, c1, hv1, d1⟩ := HN.out.2 y (by have := HNF.out.1; omega)
        cases hv1
        obtain ⟨g2, o2, c2, rv, hv2, d2, hrow⟩ := HFi.out.2 y (by have := HNF.out.2; omega)
        cases hv2
        obtain ⟨ra, rc, hrv⟩ := hrow.1
        have hrl := HFl.out y (by omega)
        rw [hrl] at hrv
        subst hrv
        have j0 : (0 : Int) ≤ (y : Int) := Int.natCast_nonneg _
        have j1 : (y : Int) < (Nu.length : Int) := by have := HNF.out.1; omega
        have j2 : (y : Int) < (Fi.length : Int) := by have := HNF.out.2; omega
        have j3 : (0 : Int) ≤ (t : Int) := Int.natCast_nonneg _
        obtain ⟨nu, hnu⟩ : ∃ z, Nu.getD y false = z := ⟨_, rfl⟩
        rw [hnu] at d1
        have HNu : Hid (Nu.getD y false = nu) := hnu
        clear hnu
        have HS : Hid (behF Nu Fi T t l = if decide (t < T) && (Fi.getD y []).getD t false then (true, false) else if Nu.getD y false then behF Nu Fi T t (l.drop (k + 1)) else (false, false)) := by show behF Nu Fi T t l = _; rw [HB.out, HD.out]; simp [behF]
        by_cases htT : t < T
        · have e1 : (t : Int) < (T : Int) := by omega
          obtain ⟨g3, o3, c3, hv3, d3⟩ := hrow.2 t (by omega)
          rw [hrl] at hv3
          cases hv3
          obtain ⟨fi, hfi'⟩ : ∃ z, (Fi.getD y []).getD t false = z := ⟨_, rfl⟩
          rw [hfi'] at d3
          have HFi' : Hid ((Fi.getD y []).getD t false = fi) := hfi'
          clear hfi' hrow hrl
          cases fi with
          | true =>
            have HE : Hid (behF Nu Fi T t l = (true, false)) := by show behF Nu Fi T t l = _; rw [HS.out, HFi'.out]; simp [htT]
            go_wp2_with fail
            go_big_quiet (fail)
            go_wp2_with fail
            refine bodyPost_ret (v := .tuple #[.bool true, .bool false]) (by simp [results, Try.results58, go_sem]) rfl ⟨by rw [HE.out], _, World.drewN_drewN _ _ _⟩
          | false =>
            have HS2 : Hid (behF Nu Fi T t l = if nu then behF Nu Fi T t (l.drop (k + 1)) else (false, false)) := by show behF Nu Fi T t l = _; rw [HS.out, HFi'.out, HNu.out]; simp
            cases nu with
            | true =>
              have HE : Hid (behF Nu Fi T t l = behF Nu Fi T t (l.drop (k + 1))) := HS2.out
              go_wp2_with fail
              go_big_quiet (fail)
              go_wp2_with fail
              go_big_quiet (fail)
              go_wp2_with fail
              go_roundw
              case rel => exact ⟨k + 1, _, by go_num, by omega, rfl, HE.out⟩
              case measure => simp [intOf]; omega
            | false =>
              have HE : Hid (behF Nu Fi T t l = (false, false)) := HS2.out
              go_wp2_with fail
              go_big_quiet (fail)
              go_wp2_with fail
              go_big_quiet (fail)
              go_wp2_with fail
              refine bodyPost_ret (v := .tuple #[.bool false, .bool false]) (by simp [results, Try.results58, go_sem]) rfl ⟨by rw [HE.out], _, by rw [World.drewN_drewN, World.drewN_drewN]⟩
        · have e1 : decide ((t : Int) < (T : Int)) = false := decide_eq_false (by omega)
          have HS2 : Hid (behF Nu Fi T t l = if nu then behF Nu Fi T t (l.drop (k + 1)) else (false, false)) := by show behF Nu Fi T t l = _; rw [HS.out, HNu.out]; simp [htT]
          clear hrow hrl
          cases nu with
          | true =>
            have HE : Hid (behF Nu Fi T t l = behF Nu Fi T t (l.drop (k + 1))) := HS2.out
            go_wp2_with fail
            go_big_quiet (fail)
            go_wp2_with fail
            go_big_quiet (fail)
            go_wp2_with fail
            go_roundw
            case rel => exact ⟨k + 1, _, by go_num, by omega, rfl, HE.out⟩
            case measure => simp [intOf]; omega
          | false =>
            have HE : Hid (behF Nu Fi T t l = (false, false)) := HS2.out
            go_wp2_with fail
            go_big_quiet (fail)
            go_wp2_with fail
            go_big_quiet (fail)
            go_wp2_with fail
            refine bodyPost_ret (v := .tuple #[.bool false, .bool false]) (by simp [results, Try.results58, go_sem]) rfl ⟨by rw [HE.out], _, by rw [World.drewN_drewN, World.drewN_drewN]⟩
    · have HE : Hid (behF Nu Fi T t l = (false, true)) := by show behF Nu Fi T t l = _; rw [HB.out, List.drop_of_length_le (by omega)]; rfl
      go_wp2_with fail
      refine bodyPost_ret (v := .tuple #[.bool false, .bool true]) (by simp [results, Try.results58, go_sem]) rfl ⟨by rw [HE.out], m, rfl⟩

end Go.Proofs.Ytinmafbaapoloaa

/- Plain: lookaheads that are spread, step by step, till nothing grows (F2). -/
namespace Go.Proofs.Ytinmafbaapoloaa

abbrev LkX := Nat × Nat → List Bool
abbrev LkS := LkX × Bool

/-- Nothing is lost; the mark tells whether something was won. -/
structure UpL (dom : Nat × Nat → Option Nat) (X Y : LkX) (g : Bool) : Prop where
  shp : ∀ p n, dom p = some n → (Y p).length = n
  up : ∀ p m, bit X p m = true → bit Y p m = true
  still : g = false → Y = X
  grew : g = true → ∃ p m n, dom p = some n ∧ m < n ∧ bit X p m = false ∧ bit Y p m = true
def SndL (dom : Nat × Nat → Option Nat) (Z : Nat × Nat → Nat → Prop) (X : LkX) : Prop := ∀ p n m, dom p = some n → m < n → bit X p m = true → Z p m

def putL (p : Nat × Nat) (t : Nat) (s : LkS) : LkS := if bit s.1 p t then s else (setX s.1 p t true, true)
/-- A step that tells whether it has won something, behind others. -/
def acc (F : Nat → LkX → LkS) (i : Nat) (s : LkS) : LkS := ((F i s.1).1, s.2 || (F i s.1).2)

section
variable {dom : Nat × Nat → Option Nat} {Z : Nat × Nat → Nat → Prop} {X Y W : LkX} {g h : Bool}

theorem UpL.refl (hs : ∀ p n, dom p = some n → (X p).length = n) : UpL dom X X false := ⟨hs, fun _ _ h => h, fun _ => rfl, fun h => (nomatch h)⟩
theorem UpL.trans (a : UpL dom X Y g) (b : UpL dom Y W h) : UpL dom X W (g || h) := by
  refine ⟨b.shp, fun p m hm => b.up p m (a.up p m hm), fun e => ?_, fun e => ?_⟩
  · rw [Bool.or_eq_false_iff] at e
    rw [b.still e.2, a.still e.1]
  · cases g with
    | true =>
      obtain ⟨p, m, n, h1, h2, h3, h4⟩ := a.grew rfl
      exact ⟨p, m, n, h1, h2, h3, b.up p m h4⟩
    | false =>
      obtain ⟨p, m, n, h1, h2, h3, h4⟩ := b.grew (by simpa using e)
      rw [a.still rfl] at h3
      exact ⟨p, m, n, h1, h2, h3, h4⟩

theorem putL_up {s : LkS} {p : Nat × Nat} {t n : Nat} (hu : UpL dom X s.1 s.2) (hd : dom p = some n) (ht : t < n) : UpL dom X (putL p t s).1 (putL p t s).2 ∧ bit (putL p t s).1 p t = true := by
  unfold putL
  cases hb : bit s.1 p t with
  | true => exact ⟨by simpa using hu, by simpa using hb⟩
  | false =>
    simp only [Bool.false_eq_true, if_false]
    have hl := hu.shp p n hd
    have hbs : ∀ q m, bit (setX s.1 p t true) q m = if q = p ∧ m = t then true else bit s.1 q m := fun q m => bit_set (by omega)
    refine ⟨⟨fun q k hq => by rw [len_set]; exact hu.shp q k hq, fun q m hm => ?_, fun e => (nomatch e), fun _ => ⟨p, t, n, hd, ht, ?_, by rw [hbs]; simp⟩⟩, by rw [hbs]; simp⟩
    · rw [hbs]
      split
      · rfl
      · exact hu.up q m hm
    · cases hx : bit X p t with
      | false => rfl
      | true => rw [hu.up p t hx] at hb; cases hb

theorem putL_snd {s : LkS} {p : Nat × Nat} {t n : Nat} (hu : UpL dom X s.1 s.2) (hd : dom p = some n) (ht : t < n) (hs : SndL dom Z s.1) (hz : Z p t) : SndL dom Z (putL p t s).1 := by
  unfold putL
  cases hb : bit s.1 p t with
  | true => simpa using hs
  | false =>
    simp only [Bool.false_eq_true, if_false]
    have hl := hu.shp p n hd
    intro q k m hq hm hbq
    rw [bit_set (by omega)] at hbq
    by_cases c : q = p ∧ m = t
    · rw [c.1, c.2]; exact hz
    · rw [if_neg c] at hbq; exact hs q k m hq hm hbq

theorem putL_mono {s : LkS} {p q : Nat × Nat} {t m n : Nat} (hl : dom p = some n) (ht : t < n) (hu : UpL dom X s.1 s.2) (hb : bit s.1 q m = true) : bit (putL p t s).1 q m = true := by
  unfold putL
  cases hc : bit s.1 p t with
  | true => simpa using hb
  | false =>
    simp only [Bool.false_eq_true, if_false]
    rw [bit_set (by have := hu.shp p n hl; omega)]
    split
    · rfl
    · exact hb

/-- Steps one after another: what is so of each is so of all; where nothing was won, each step, by itself, has won nothing. -/
theorem acc_up {F : Nat → LkX → LkS} {n : Nat} (hF : ∀ i, i < n → ∀ Y, (∀ p k, dom p = some k → (Y p).length = k) → UpL dom Y (F i Y).1 (F i Y).2) (hX : ∀ p k, dom p = some k → (X p).length = k) :
    UpL dom X (loopN n (acc F) (X, false)).1 (loopN n (acc F) (X, false)).2 ∧ ((loopN n (acc F) (X, false)).2 = false → ∀ i, i < n → (F i X).2 = false) := by
  induction n with
  | zero => exact ⟨UpL.refl hX, fun _ i hi => absurd hi (Nat.not_lt_zero _)⟩
  | succ n ih =>
    obtain ⟨h1, h2⟩ := ih fun i hi => hF i (by omega)
    have h3 := hF n (by omega) _ h1.shp
    refine ⟨h1.trans h3, fun e i hi => ?_⟩
    have e' : ((loopN n (acc F) (X, false)).2 || (F n (loopN n (acc F) (X, false)).1).2) = false := e
    rw [Bool.or_eq_false_iff] at e'
    rcases Nat.lt_succ_iff_lt_or_eq.1 hi with hi | rfl
    · exact h2 e'.1 i hi
    · have := h1.still e'.1
      rw [this] at e'
      exact e'.2

theorem acc_snd {F : Nat → LkX → LkS} {n : Nat} (hF : ∀ i, i < n → ∀ Y, (∀ p k, dom p = some k → (Y p).length = k) → UpL dom Y (F i Y).1 (F i Y).2) (hG : ∀ i, i < n → ∀ Y, (∀ p k, dom p = some k → (Y p).length = k) → SndL dom Z Y → SndL dom Z (F i Y).1)
    (hX : ∀ p k, dom p = some k → (X p).length = k) (hs : SndL dom Z X) : SndL dom Z (loopN n (acc F) (X, false)).1 := by
  induction n with
  | zero => exact hs
  | succ n ih =>
    have h1 := (acc_up (F := F) (n := n) (fun i hi => hF i (by omega)) hX).1
    exact hG n (by omega) _ h1.shp (ih (fun i hi => hF i (by omega)) (fun i hi => hG i (by omega)))

theorem acc_from {F : Nat → LkX → LkS} {n : Nat} (X : LkX) (g : Bool) : loopN n (acc F) (X, g) = ((loopN n (acc F) (X, false)).1, g || (loopN n (acc F) (X, false)).2) := by
  induction n with
  | zero => simp [loopN]
  | succ n ih =>
    have e : ∀ s, loopN (n + 1) (acc F) s = acc F n (loopN n (acc F) s) := fun _ => rfl
    rw [e, e, ih]
    simp [acc, Bool.or_assoc]
end

/-! ### One step -/

section
variable (OL : List (List It)) (NL : List (List Int)) (R : List Ru) (T : Nat) (Nu : List Bool) (Fi : List (List Bool))

/-- The state that an item is read on in; where it stands there. -/
def toN (k : Nat) (s : Sy) : Nat := ((NL.getD k []).getD (numF T s).toNat 0).toNat
def atN (n : Nat) (i : It) : Nat := (hasF (OL.getD n []) i).toNat
def itemN (k j : Nat) : It := (OL.getD k []).getD j (0, 0)
/-- The rules below q that close. -/
def closeN (k t : Nat) (m : Int) (q : Nat) (s : LkS) : LkS := loopN q (fun n s => if (R.getD n (0, [])).1 = m then putL (k, atN OL k (n, 0)) t s else s) s
/-- What is read on. -/
def onN (k j t : Nat) (s : Sy) (X : LkX) : LkS := if bit X (k, j) t then putL (toN NL T k s, atN OL (toN NL T k s) ((itemN OL k j).1, (itemN OL k j).2 + 1)) t (X, false) else (X, false)
def sprN (k j t : Nat) (X : LkX) : LkS :=
  match (rightF R (itemN OL k j).1)[(itemN OL k j).2]? with
  | none => (X, false)
  | some (true, v) => onN OL NL T k j t (true, v) X
  | some (false, m) =>
    if (behF Nu Fi T t ((rightF R (itemN OL k j).1).drop ((itemN OL k j).2 + 1))).1 || ((behF Nu Fi T t ((rightF R (itemN OL k j).1).drop ((itemN OL k j).2 + 1))).2 && bit X (k, j) t)
    then closeN OL R k t m R.length (onN OL NL T k j t (false, m) X) else onN OL NL T k j t (false, m) X
end

/-- What the steps lean on: the states, where they go on, how long the rows are. -/
structure AutoOk (T N : Nat) (R : List Ru) (OL : List (List It)) (NL : List (List Int)) (Ls : List SetI) (dom : Nat × Nat → Option Nat) : Prop where
  sok : SOk R OL Ls
  len : NL.length = OL.length
  go : ∀ k, k < OL.length → ∀ x, x < T + N → (NL.getD k []).length = T + N ∧ GoOk T R Ls k x ((NL.getD k []).getD x 0)
  cl : ∀ k, k < OL.length → ClosedS R (Ls.getD k noS)
  dom : ∀ k j, dom (k, j) = if k < OL.length ∧ j < (OL.getD k []).length then some (T + 1) else none
  num : ∀ r, r ≤ R.length → ∀ s ∈ rightF R r, 0 ≤ numF T s ∧ numF T s < (T : Int) + N

section
variable {T N : Nat} {R : List Ru} {OL : List (List It)} {NL : List (List Int)} {Ls : List SetI} {dom : Nat × Nat → Option Nat} {Nu : List Bool} {Fi : List (List Bool)} {k j t : Nat} {X : LkX}

theorem hasF_get {L : List It} {i : It} (h : i ∈ L) : (hasF L i).toNat < L.length ∧ L.getD (hasF L i).toNat (0, 0) = i ∧ hasF L i = ((hasF L i).toNat : Int) := by
  have h0 := hasF_mem.2 h
  refine ⟨?_, ?_, by omega⟩ <;>
  · unfold hasF at h0 ⊢
    cases hf : L.findIdx? (fun x => decide (x = i)) with
    | none => rw [hf] at h0; simp at h0
    | some q =>
      rw [List.findIdx?_eq_some_iff_getElem] at hf
      obtain ⟨h1, h2, _⟩ := hf
      simp only [Int.toNat_natCast]
      first
      | exact h1
      | (have e : L[q] = i := by simpa using h2
         simp [List.getD, h1, e])

theorem AutoOk.domOf (h : AutoOk T N R OL NL Ls dom) {i : It} (hk : k < OL.length) (hi : i ∈ OL.getD k []) : dom (k, atN OL k i) = some (T + 1) := by
  rw [h.dom, if_pos ⟨hk, (hasF_get hi).1⟩]
theorem AutoOk.item (h : AutoOk T N R OL NL Ls dom) (hk : k < OL.length) (hj : j < (OL.getD k []).length) : itemN OL k j ∈ OL.getD k [] ∧ Ls.getD k noS (itemN OL k j) ∧ OkIt R (itemN OL k j) := by
  have hm : itemN OL k j ∈ OL.getD k [] := getD_in hj
  exact ⟨hm, ((h.sok.rep k hk).mem _).1 hm, h.sok.ok k hk _ hm⟩
/-- Reading on: there is a state, and the item is in it. -/
theorem AutoOk.on (h : AutoOk T N R OL NL Ls dom) (hk : k < OL.length) (hj : j < (OL.getD k []).length) {s : Sy} (hs : (rightF R (itemN OL k j).1)[(itemN OL k j).2]? = some s) :
    (NL.getD k []).getD (numF T s).toNat 0 = ((toN NL T k s : Nat) : Int) ∧ toN NL T k s < OL.length ∧ ((itemN OL k j).1, (itemN OL k j).2 + 1) ∈ OL.getD (toN NL T k s) [] ∧ (numF T s).toNat < T + N ∧ ((numF T s).toNat : Int) = numF T s := by
  obtain ⟨h1, h2, h3⟩ := h.item hk hj
  have hn := h.num _ h3.1 s (List.mem_of_getElem? hs)
  have hx : (numF T s).toNat < T + N := by omega
  have hcast : ((numF T s).toNat : Int) = numF T s := by omega
  obtain ⟨hl, hg⟩ := h.go k hk _ hx
  obtain ⟨n, e1, e2, e3⟩ := hg.some ⟨_, h2, s, hs, hcast.symm⟩
  have et : toN NL T k s = n := by unfold toN; rw [e1]; simp
  rw [et, e1]
  have hn' : n < OL.length := by rw [h.sok.len]; exact e2
  refine ⟨rfl, hn', ((h.sok.rep n hn').mem _).2 ?_, hx, hcast⟩
  rw [e3]
  exact goto_item h2 hs hcast.symm
/-- Closing: the rule is in the state. -/
theorem AutoOk.close (h : AutoOk T N R OL NL Ls dom) (hk : k < OL.length) (hj : j < (OL.getD k []).length) {m : Int} (hs : (rightF R (itemN OL k j).1)[(itemN OL k j).2]? = some (false, m)) {n : Nat} (hn : n < R.length) (hL : (R.getD n (0, [])).1 = m) : (n, 0) ∈ OL.getD k [] :=
  ((h.sok.rep k hk).mem _).2 (closed_step (h.cl k hk) (h.item hk hj).2.1 hs hn hL)

theorem onN_up (h : AutoOk T N R OL NL Ls dom) (hk : k < OL.length) (hj : j < (OL.getD k []).length) (ht : t ≤ T) {s : Sy} (hs : (rightF R (itemN OL k j).1)[(itemN OL k j).2]? = some s) (hX : ∀ p n, dom p = some n → (X p).length = n) :
    UpL dom X (onN OL NL T k j t s X).1 (onN OL NL T k j t s X).2 ∧ (bit X (k, j) t = true → bit (onN OL NL T k j t s X).1 (toN NL T k s, atN OL (toN NL T k s) ((itemN OL k j).1, (itemN OL k j).2 + 1)) t = true) := by
  obtain ⟨_, h2, h3, _⟩ := h.on hk hj hs
  unfold onN
  cases hb : bit X (k, j) t with
  | true =>
    obtain ⟨p1, p2⟩ := putL_up (s := (X, false)) (t := t) (UpL.refl hX) (h.domOf h2 h3) (by omega)
    exact ⟨by simpa using p1, fun _ => by simpa using p2⟩
  | false => exact ⟨by simpa using UpL.refl hX, fun e => (nomatch e)⟩

theorem closeN_up (h : AutoOk T N R OL NL Ls dom) (hk : k < OL.length) (hj : j < (OL.getD k []).length) (ht : t ≤ T) {m : Int} (hs : (rightF R (itemN OL k j).1)[(itemN OL k j).2]? = some (false, m)) {s : LkS} (hu : UpL dom X s.1 s.2) (q : Nat) (hq : q ≤ R.length) :
    UpL dom X (closeN OL R k t m q s).1 (closeN OL R k t m q s).2 ∧ (∀ p y, bit s.1 p y = true → bit (closeN OL R k t m q s).1 p y = true) ∧ ∀ n, n < q → (R.getD n (0, [])).1 = m → bit (closeN OL R k t m q s).1 (k, atN OL k (n, 0)) t = true := by
  induction q with
  | zero => exact ⟨hu, fun _ _ hb => hb, fun n hn => absurd hn (Nat.not_lt_zero _)⟩
  | succ q ih =>
    obtain ⟨h1, h2, h3⟩ := ih (by omega)
    have e : closeN OL R k t m (q + 1) s = if (R.getD q (0, [])).1 = m then putL (k, atN OL k (q, 0)) t (closeN OL R k t m q s) else closeN OL R k t m q s := rfl
    rw [e]
    by_cases hL : (R.getD q (0, [])).1 = m
    · rw [if_pos hL]
      have hd := h.domOf hk (h.close hk hj hs (by omega) hL)
      obtain ⟨p1, p2⟩ := putL_up (t := t) h1 hd (by omega)
      refine ⟨p1, fun p y hb => putL_mono hd (by omega) h1 (h2 p y hb), fun n hn hLn => ?_⟩
      rcases Nat.lt_succ_iff_lt_or_eq.1 hn with hn | rfl
      · exact putL_mono hd (by omega) h1 (h3 n hn hLn)
      · exact p2
    · rw [if_neg hL]
      refine ⟨h1, h2, fun n hn hLn => ?_⟩
      rcases Nat.lt_succ_iff_lt_or_eq.1 hn with hn | rfl
      · exact h3 n hn hLn
      · exact absurd hLn hL

theorem sprN_up (h : AutoOk T N R OL NL Ls dom) (hk : k < OL.length) (hj : j < (OL.getD k []).length) (ht : t ≤ T) (hX : ∀ p n, dom p = some n → (X p).length = n) :
    UpL dom X (sprN OL NL R T Nu Fi k j t X).1 (sprN OL NL R T Nu Fi k j t X).2 := by
  unfold sprN
  split
  · exact UpL.refl hX
  · rename_i hs; exact (onN_up h hk hj ht hs hX).1
  · rename_i m hs
    have h1 := (onN_up h hk hj ht hs hX).1
    split
    · exact (closeN_up h hk hj ht hs h1 _ (Nat.le_refl _)).1
    · exact h1

/-- Where a step wins nothing, what it asks for is there. -/
theorem sprN_must (h : AutoOk T N R OL NL Ls dom) (hk : k < OL.length) (hj : j < (OL.getD k []).length) (ht : t ≤ T) (hX : ∀ p n, dom p = some n → (X p).length = n) (hz : (sprN OL NL R T Nu Fi k j t X).2 = false) {s : Sy} (hs : (rightF R (itemN OL k j).1)[(itemN OL k j).2]? = some s) :
    (bit X (k, j) t = true → bit X (toN NL T k s, atN OL (toN NL T k s) ((itemN OL k j).1, (itemN OL k j).2 + 1)) t = true) ∧
    ∀ n, n < R.length → s = (false, (R.getD n (0, [])).1) → ((behF Nu Fi T t ((rightF R (itemN OL k j).1).drop ((itemN OL k j).2 + 1))).1 = true ∨ ((behF Nu Fi T t ((rightF R (itemN OL k j).1).drop ((itemN OL k j).2 + 1))).2 = true ∧ bit X (k, j) t = true)) → bit X (k, atN OL k (n, 0)) t = true := by
  have hst := (sprN_up (Nu := Nu) (Fi := Fi) h hk hj ht hX).still hz
  obtain ⟨ou, om⟩ := onN_up h hk hj ht hs hX
  have main : (bit X (k, j) t = true → bit (sprN OL NL R T Nu Fi k j t X).1 (toN NL T k s, atN OL (toN NL T k s) ((itemN OL k j).1, (itemN OL k j).2 + 1)) t = true) ∧
    ∀ n, n < R.length → s = (false, (R.getD n (0, [])).1) → ((behF Nu Fi T t ((rightF R (itemN OL k j).1).drop ((itemN OL k j).2 + 1))).1 = true ∨ ((behF Nu Fi T t ((rightF R (itemN OL k j).1).drop ((itemN OL k j).2 + 1))).2 = true ∧ bit X (k, j) t = true)) → bit (sprN OL NL R T Nu Fi k j t X).1 (k, atN OL k (n, 0)) t = true := by
    unfold sprN
    rw [hs]
    obtain ⟨b, v⟩ := s
    cases b with
    | true =>
      simp only
      exact ⟨om, fun n _ e => (by cases e)⟩
    | false =>
      simp only
      obtain ⟨c1, c2, c3⟩ := closeN_up h hk hj ht hs ou R.length (Nat.le_refl _)
      split
      · exact ⟨fun hb => c2 _ _ (om hb), fun n hn e _ => c3 n hn (by cases e; rfl)⟩
      · rename_i hc
        refine ⟨om, fun n hn e hcond => absurd ?_ hc⟩
        rcases hcond with h1 | ⟨h1, h2⟩
        · rw [h1]; rfl
        · rw [h1, h2]; simp
  rw [hst] at main
  exact main

theorem sprN_snd {Z : Nat × Nat → Nat → Prop} (h : AutoOk T N R OL NL Ls dom) (hk : k < OL.length) (hj : j < (OL.getD k []).length) (ht : t ≤ T) (hX : ∀ p n, dom p = some n → (X p).length = n) (hs : SndL dom Z X)
    (hon : ∀ s, (rightF R (itemN OL k j).1)[(itemN OL k j).2]? = some s → Z (k, j) t → Z (toN NL T k s, atN OL (toN NL T k s) ((itemN OL k j).1, (itemN OL k j).2 + 1)) t)
    (hcl : ∀ n, n < R.length → (rightF R (itemN OL k j).1)[(itemN OL k j).2]? = some (false, (R.getD n (0, [])).1) → ((behF Nu Fi T t ((rightF R (itemN OL k j).1).drop ((itemN OL k j).2 + 1))).1 = true ∨ ((behF Nu Fi T t ((rightF R (itemN OL k j).1).drop ((itemN OL k j).2 + 1))).2 = true ∧ Z (k, j) t)) → Z (k, atN OL k (n, 0)) t) :
    SndL dom Z (sprN OL NL R T Nu Fi k j t X).1 := by
  have hdj : dom (k, j) = some (T + 1) := by rw [h.dom, if_pos ⟨hk, hj⟩]
  have on : ∀ s, (rightF R (itemN OL k j).1)[(itemN OL k j).2]? = some s → SndL dom Z (onN OL NL T k j t s X).1 := fun s hs' => by
    obtain ⟨_, h2, h3, _⟩ := h.on hk hj hs'
    unfold onN
    cases hb : bit X (k, j) t with
    | true =>
      have := putL_snd (s := (X, false)) (t := t) (UpL.refl hX) (h.domOf h2 h3) (by omega) hs (hon s hs' (hs (k, j) _ t hdj (by omega) hb))
      simpa using this
    | false => simpa using hs
  unfold sprN
  split
  · exact hs
  · rename_i hs'; exact on _ hs'
  · rename_i m hs'
    split
    · rename_i hc
      have hz : ∀ n, n < R.length → (R.getD n (0, [])).1 = m → Z (k, atN OL k (n, 0)) t := fun n hn hL => by
        refine hcl n hn (by rw [hL]; exact hs') ?_
        rw [Bool.or_eq_true, Bool.and_eq_true] at hc
        rcases hc with h1 | ⟨h1, h2⟩
        · exact .inl h1
        · exact .inr ⟨h1, hs (k, j) _ t hdj (by omega) h2⟩
      have : ∀ q, q ≤ R.length → SndL dom Z (closeN OL R k t m q (onN OL NL T k j t (false, m) X)).1 := by
        intro q
        induction q with
        | zero => intro _; exact on _ hs'
        | succ q ih =>
          intro hq
          have e : closeN OL R k t m (q + 1) (onN OL NL T k j t (false, m) X) = if (R.getD q (0, [])).1 = m then putL (k, atN OL k (q, 0)) t (closeN OL R k t m q (onN OL NL T k j t (false, m) X)) else closeN OL R k t m q (onN OL NL T k j t (false, m) X) := rfl
          rw [e]
          by_cases hL : (R.getD q (0, [])).1 = m
          · rw [if_pos hL]
            exact putL_snd (closeN_up h hk hj ht hs' (onN_up h hk hj ht hs' hX).1 q (by omega)).1 (h.domOf hk (h.close hk hj hs' (by omega) hL)) (by omega) (ih (by omega)) (hz q (by omega) hL)
          · rw [if_neg hL]; exact ih (by omega)
      exact this _ (Nat.le_refl _)
    · exact on _ hs'
end

end Go.Proofs.Ytinmafbaapoloaa

/- Plain: the least set that an operator holds, by rounds. No program, no memory. -/
namespace Go.Proofs.Ytinmafbaapoloaa
open Classical

/-- What so many rounds of an operator make. -/
def Lv (F : (Int → Prop) → Int → Prop) : Nat → Int → Prop
  | 0, _ => False
  | k + 1, n => F (Lv F k) n

/-- An operator that grows, on the numbers from 0 to below N. -/
structure Mono (N : Nat) (F : (Int → Prop) → Int → Prop) : Prop where
  mono : ∀ A B : Int → Prop, (∀ n, A n → B n) → ∀ n, F A n → F B n
  bound : ∀ A n, F A n → 0 ≤ n ∧ n < (N : Int)

theorem Lv_succ {N : Nat} {F : (Int → Prop) → Int → Prop} (h : Mono N F) : ∀ k n, Lv F k n → Lv F (k + 1) n := by
  intro k
  induction k with
  | zero => intro n hn; exact hn.elim
  | succ k ih => intro n hn; exact h.mono _ _ ih n hn

theorem Lv_le {N : Nat} {F : (Int → Prop) → Int → Prop} (h : Mono N F) {k m : Nat} (hkm : k ≤ m) : ∀ n, Lv F k n → Lv F m n := by
  induction hkm with
  | refl => intro n hn; exact hn
  | step _ ih => intro n hn; exact Lv_succ h _ n (ih n hn)

noncomputable def cnt (N : Nat) (A : Int → Prop) : Nat := ((List.range N).filter fun i => decide (A (i : Nat))).length

theorem cnt_le (N : Nat) (A : Int → Prop) : cnt N A ≤ N := by
  have := List.length_filter_le (fun i : Nat => decide (A i)) (List.range N)
  simpa [cnt] using this

theorem filter_lt {α : Type} (p q : α → Bool) (h : ∀ x, p x = true → q x = true) : ∀ (l : List α),
    (l.filter p).length ≤ (l.filter q).length ∧ ((∃ x ∈ l, q x = true ∧ p x = false) → (l.filter p).length < (l.filter q).length) := by
  intro l
  induction l with
  | nil => simp
  | cons a r ih =>
    obtain ⟨ih1, ih2⟩ := ih
    cases hp : p a with
    | true =>
      have hq := h a hp
      simp only [List.filter_cons, hp, hq, if_true, List.length_cons]
      refine ⟨by omega, ?_⟩
      rintro ⟨x, hx, h1, h2⟩
      have : x ∈ r := by
        rcases List.mem_cons.1 hx with rfl | hx
        · rw [hp] at h2; cases h2
        · exact hx
      have := ih2 ⟨x, this, h1, h2⟩
      omega
    | false =>
      cases hq : q a with
      | true =>
        simp only [List.filter_cons, hp, hq, if_true, List.length_cons, Bool.false_eq_true, if_false]
        exact ⟨by omega, fun _ => by omega⟩
      | false =>
        simp only [List.filter_cons, hp, hq, Bool.false_eq_true, if_false]
        refine ⟨ih1, ?_⟩
        rintro ⟨x, hx, h1, h2⟩
        have : x ∈ r := by
          rcases List.mem_cons.1 hx with rfl | hx
          · rw [hq] at h1; cases h1
          · exact hx
        exact ih2 ⟨x, this, h1, h2⟩

theorem cnt_lt {N : Nat} {A B : Int → Prop} (h : ∀ n, A n → B n) {n : Int} (h0 : 0 ≤ n) (h1 : n < (N : Int)) (hb : B n) (ha : ¬ A n) : cnt N A < cnt N B := by
  obtain ⟨k, rfl⟩ : ∃ k : Nat, n = k := ⟨n.toNat, by omega⟩
  refine (filter_lt (fun i : Nat => decide (A i)) (fun i : Nat => decide (B i)) (fun x hx => ?_) (List.range N)).2 ⟨k, List.mem_range.2 (by omega), ?_, ?_⟩
  · simp only [decide_eq_true_eq] at hx ⊢; exact h _ hx
  · simpa using hb
  · simpa using ha

/-- N rounds are enough. -/
theorem Lv_stop {N : Nat} {F : (Int → Prop) → Int → Prop} (h : Mono N F) : ∀ m n, Lv F m n → Lv F N n := by
  have ex : ∃ k, k ≤ N ∧ ∀ n, Lv F (k + 1) n → Lv F k n := by
    refine byContradiction fun hno => ?_
    have grow : ∀ k, k ≤ N + 1 → k ≤ cnt N (Lv F k) := by
      intro k
      induction k with
      | zero => intro _; exact Nat.zero_le _
      | succ k ih =>
        intro hk
        have h1 := ih (by omega)
        have h2 : ∃ n, Lv F (k + 1) n ∧ ¬ Lv F k n := by
          refine byContradiction fun hn => hno ⟨k, by omega, fun n hn' => byContradiction fun hc => hn ⟨n, hn', hc⟩⟩
        obtain ⟨n, h3, h4⟩ := h2
        have hb := h.bound _ n h3
        have := cnt_lt (Lv_succ h k) hb.1 hb.2 h3 h4
        omega
    have h1 := grow (N + 1) (Nat.le_refl _)
    have h2 := cnt_le N (Lv F (N + 1))
    omega
  obtain ⟨k, hk, hstop⟩ := ex
  have all : ∀ m n, Lv F m n → Lv F k n := by
    intro m
    induction m with
    | zero => intro n hn; exact hn.elim
    | succ m ih => intro n hn; exact hstop n (h.mono _ _ ih n hn)
  exact fun m n hn => Lv_le h hk n (all m n hn)

/-- What N rounds make is held. -/
theorem Lv_closed {N : Nat} {F : (Int → Prop) → Int → Prop} (h : Mono N F) : ∀ n, F (Lv F N) n → Lv F N n := fun n hn => Lv_stop h (N + 1) n hn

/-- .. and in whatever is held. -/
theorem Lv_least {F : (Int → Prop) → Int → Prop} (mono : ∀ A B : Int → Prop, (∀ n, A n → B n) → ∀ n, F A n → F B n) {A : Int → Prop} (hA : ∀ n, F A n → A n) : ∀ k n, Lv F k n → A n := by
  intro k
  induction k with
  | zero => intro n hn; exact hn.elim
  | succ k ih => intro n hn; exact hA n (mono _ _ ih n hn)

/-! ### Sets of grammars -/

/-- All symbols are names of A. -/
def AllN (A : Int → Prop) (l : List Sy) : Prop := ∀ s ∈ l, s.1 = false ∧ A s.2
def NullF (R : List Ru) (A : Int → Prop) (n : Int) : Prop := ∃ r ∈ R, r.1 = n ∧ AllN A r.2
/-- Symbols may begin with the term t, where names of A may, and those of Nu be nothing. -/
def Beg (Nu A : Int → Prop) (t : Int) (l : List Sy) : Prop := ∃ i s, l[i]? = some s ∧ ((s.1 = true ∧ s.2 = t) ∨ (s.1 = false ∧ A s.2)) ∧ AllN Nu (l.take i)
def FirstF (R : List Ru) (Nu : Int → Prop) (t : Int) (A : Int → Prop) (n : Int) : Prop := ∃ r ∈ R, r.1 = n ∧ Beg Nu A t r.2
def FollowF (R : List Ru) (Nu : Int → Prop) (Fi : Int → Int → Prop) (T t : Int) (A : Int → Prop) (n : Int) : Prop :=
  (n = 0 ∧ t = T) ∨ ∃ r ∈ R, ∃ k, r.2[k]? = some (false, n) ∧ ((t < T ∧ Beg Nu (Fi t) t (r.2.drop (k + 1))) ∨ (AllN Nu (r.2.drop (k + 1)) ∧ A r.1))

theorem AllN.mono {A B : Int → Prop} (h : ∀ n, A n → B n) {l : List Sy} (hl : AllN A l) : AllN B l := fun s hs => ⟨(hl s hs).1, h _ (hl s hs).2⟩
theorem Beg.mono {Nu A B : Int → Prop} {t : Int} (h : ∀ n, A n → B n) {l : List Sy} (hl : Beg Nu A t l) : Beg Nu B t l := by
  obtain ⟨i, s, h1, h2, h3⟩ := hl
  refine ⟨i, s, h1, ?_, h3⟩
  rcases h2 with h2 | ⟨h2, h4⟩
  · exact .inl h2
  · exact .inr ⟨h2, h _ h4⟩

theorem NullF_up (R : List Ru) (A B : Int → Prop) (h : ∀ n, A n → B n) (n : Int) (hn : NullF R A n) : NullF R B n := by
  obtain ⟨r, h1, h2, h3⟩ := hn
  exact ⟨r, h1, h2, h3.mono h⟩
theorem FirstF_up (R : List Ru) (Nu : Int → Prop) (t : Int) (A B : Int → Prop) (h : ∀ n, A n → B n) (n : Int) (hn : FirstF R Nu t A n) : FirstF R Nu t B n := by
  obtain ⟨r, h1, h2, h3⟩ := hn
  exact ⟨r, h1, h2, h3.mono h⟩
theorem FollowF_up (R : List Ru) (Nu : Int → Prop) (Fi : Int → Int → Prop) (T t : Int) (A B : Int → Prop) (h : ∀ n, A n → B n) (n : Int) (hn : FollowF R Nu Fi T t A n) : FollowF R Nu Fi T t B n := by
  rcases hn with hn | ⟨r, h1, k, h2, h3⟩
  · exact .inl hn
  · refine .inr ⟨r, h1, k, h2, ?_⟩
    rcases h3 with h3 | ⟨h3, h4⟩
    · exact .inl h3
    · exact .inr ⟨h3, h _ h4⟩

/-- What A1 says of a rule's names. -/
structure Fine (T N : Nat) (R : List Ru) : Prop where
  left : ∀ r ∈ R, 0 ≤ r.1 ∧ r.1 < (N : Int)
  name : ∀ r ∈ R, ∀ s ∈ r.2, s.1 = false → 0 ≤ s.2 ∧ s.2 < (N : Int)
  term : ∀ r ∈ R, ∀ s ∈ r.2, s.1 = true → 0 ≤ s.2 ∧ s.2 < (T : Int)
  some : 1 ≤ N

section
variable {T N : Nat} {R : List Ru} (h : Fine T N R)
include h

theorem NullF_mono : Mono N (NullF R) := ⟨fun A B => NullF_up R A B, fun A n hn => by obtain ⟨r, h1, rfl, _⟩ := hn; exact h.left r h1⟩
theorem FirstF_mono (Nu : Int → Prop) (t : Int) : Mono N (FirstF R Nu t) := ⟨fun A B => FirstF_up R Nu t A B, fun A n hn => by obtain ⟨r, h1, rfl, _⟩ := hn; exact h.left r h1⟩
theorem FollowF_mono (Nu : Int → Prop) (Fi : Int → Int → Prop) (t : Int) : Mono N (FollowF R Nu Fi T t) := ⟨fun A B => FollowF_up R Nu Fi T t A B, fun A n hn => by
  rcases hn with ⟨rfl, _⟩ | ⟨r, h1, k, h2, _⟩
  · have := h.some; omega
  · exact h.name r h1 _ (List.mem_of_getElem? h2) rfl⟩
end

/-- B1: Null, First, Follow. -/
def NullP (N : Nat) (R : List Ru) : Int → Prop := Lv (NullF R) N
def FirstP (N : Nat) (R : List Ru) (t : Int) : Int → Prop := Lv (FirstF R (NullP N R) t) N
def FollowP (T N : Nat) (R : List Ru) (t : Int) : Int → Prop := Lv (FollowF R (NullP N R) (FirstP N R) T t) N

end Go.Proofs.Ytinmafbaapoloaa
