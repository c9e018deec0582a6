/- The contract of pollardingref6's behind. -/
import Derived.Test.YtchpfdnifbdfpaaAuto6
namespace Go.Proofs.Ytchpfdnifbdfpaa
open Go.RowKit

/-- May a term (or the end) begin symbols; may they all be nothing? -/
def behF (Nu : List Bool) (Fi : List (List Bool)) (T t : Nat) : List Sy → Bool × Bool
  | [] => (false, true)
  | (true, v) :: _ => (decide (v = (t : Int)), false)
  | (false, v) :: l => if decide (t < T) && (Fi.getD v.toNat []).getD t false then (true, false) else if Nu.getD v.toNat false then behF Nu Fi T t l else (false, false)

set_option maxRecDepth 100000 in
set_option maxHeartbeats 1600000 in
theorem behind6_any {w : World} {ab T N t : Nat} {nv fv lv : Value} {Nu : List Bool} {Fi : List (List Bool)} {l : List Sy} (a0 : w.cell? ⟨ab, 0, none⟩ = some (.int .i64 T)) (a3 : w.cell? ⟨ab, 3, none⟩ = some nv) (a4 : w.cell? ⟨ab, 4, none⟩ = some fv)
    (hn : BoolsAt w nv Nu) (hfi : MatAt w fv Fi) (hl : SymsAt w lv l) (hN : Nu.length = N) (hF : Fi.length = N) (hFl : ∀ i, i < N → (Fi.getD i []).length = T) (ht : t ≤ T) (hin : ∀ s ∈ l, s.1 = false → 0 ≤ s.2 ∧ s.2 < (N : Int)) (h8 : l.length ≤ 1000) :
    Calls Try.prog 58 #[.pointer (some ⟨ab, 0, none⟩), lv, .int .i64 t] w fun e w' => e = .returned (.tuple #[.bool (behF Nu Fi T t l).1, .bool (behF Nu Fi T t l).2]) ∧ ∃ m, w' = w.drewN m := by
  obtain ⟨na, nc, hnv⟩ := hn.1
  obtain ⟨fa, fc, hfv⟩ := hfi.1
  obtain ⟨la, lc, hlv, _⟩ := hl.1
  subst hnv
  subst hfv
  subst hlv
  have HN : Hid (BoolsAt w (.slice na Nu.length nc) Nu) := hn
  have HFi : Hid (MatAt w (.slice fa Fi.length fc) Fi) := hfi
  have HL : Hid (SymsAt w (.slice la l.length lc) l) := hl
  have HI : Hid (∀ s ∈ l, s.1 = false → 0 ≤ s.2 ∧ s.2 < (N : Int)) := hin
  have HFl : Hid (∀ i, i < N → (Fi.getD i []).length = T) := hFl
  have HA : Hid (w.cell? ⟨ab, 0, none⟩ = some (.int .i64 T) ∧ w.cell? ⟨ab, 3, none⟩ = some (.slice na Nu.length nc) ∧ w.cell? ⟨ab, 4, none⟩ = some (.slice fa Fi.length fc)) := ⟨a0, a3, a4⟩
  have HNF : Hid (Nu.length = N ∧ Fi.length = N) := ⟨hN, hF⟩
  clear hn hfi hl hin hFl a0 a3 a4 hN hF
  go_enter Try.func58, Try.ntmps58
  go_wp2_with fail
  go_loopw [8] (fun s wr => ∃ k m : Nat, s = .int .i64 k ∧ k ≤ l.length ∧ wr = w.drewN m ∧ behF Nu Fi T t l = behF Nu Fi T t (l.drop k)) (fun s _ => l.length - (intOf s).toNat)
  case atStart => exact ⟨0, 0, rfl, Nat.zero_le _, rfl, rfl⟩
  case round =>
    obtain ⟨k, m, rfl, hk, rfl, hb⟩ := hrel
    have HB : Hid (behF Nu Fi T t l = behF Nu Fi T t (l.drop k)) := hb
    obtain ⟨a0, a3, a4⟩ := HA.out
    clear hb
    by_cases hlt : k < l.length
    · obtain ⟨b, o, c, hve, k1, k2⟩ := HL.out.2 k hlt
      cases hve
      have hmem : l.getD k (false, 0) ∈ l := by simp [List.getD, hlt]
      have hr := HI.out _ hmem
      have hdrop : l.drop k = l.getD k (false, 0) :: l.drop (k + 1) := by rw [List.drop_eq_getElem_cons hlt]; simp [List.getD, hlt]
      obtain ⟨⟨x, v⟩, hs⟩ : ∃ x, l.getD k (false, 0) = x := ⟨_, rfl⟩
      rw [hs] at k1 k2 hr hdrop
      simp only at k1 k2
      have HD : Hid (l.drop k = (x, v) :: l.drop (k + 1)) := hdrop
      have i0 : (0 : Int) ≤ (k : Int) := Int.natCast_nonneg _
      have i1 : (k : Int) < (l.length : Int) := by omega
      clear hmem hs hdrop
      cases x with
      | true =>
        have HE : Hid (behF Nu Fi T t l = (decide (v = (t : Int)), false)) := by show behF Nu Fi T t l = _; rw [HB.out, HD.out]; rfl
        clear hr
        obtain ⟨z, hz⟩ : ∃ z, (v == (t : Int)) = z := ⟨_, rfl⟩
        have HZ : Hid (decide (v = (t : Int)) = z) := by show decide (v = (t : Int)) = z; rw [← hz, Bool.eq_iff_iff]; simp
        go_wp2_with fail
        refine bodyPost_ret (v := .tuple #[.bool z, .bool false]) (by simp [results, Try.results58, go_sem]) rfl ⟨by rw [HE.out, HZ.out], m, rfl⟩
      | false =>
        have hv : 0 ≤ v ∧ v < (N : Int) := hr rfl
        clear hr
        obtain ⟨y, rfl⟩ : ∃ y : Nat, v = y := ⟨v.toNat, by omega⟩
        obtain ⟨g1, o1, c1, hv1, d1⟩ := HN.out.2 y (by have := HNF.out.1; omega)
        cases hv1
        obtain ⟨g2, o2, c2, rv, hv2, d2, hrow⟩ := HFi.out.2 y (by have := HNF.out.2; omega)
        cases hv2
        obtain ⟨ra, rc, hrv⟩ := hrow.1
        have hrl := HFl.out y (by omega)
        rw [hrl] at hrv
        subst hrv
        have j0 : (0 : Int) ≤ (y : Int) := Int.natCast_nonneg _
        have j1 : (y : Int) < (Nu.length : Int) := by have := HNF.out.1; omega
        have j2 : (y : Int) < (Fi.length : Int) := by have := HNF.out.2; omega
        have j3 : (0 : Int) ≤ (t : Int) := Int.natCast_nonneg _
        obtain ⟨nu, hnu⟩ : ∃ z, Nu.getD y false = z := ⟨_, rfl⟩
        rw [hnu] at d1
        have HNu : Hid (Nu.getD y false = nu) := hnu
        clear hnu
        have HS : Hid (behF Nu Fi T t l = if decide (t < T) && (Fi.getD y []).getD t false then (true, false) else if Nu.getD y false then behF Nu Fi T t (l.drop (k + 1)) else (false, false)) := by show behF Nu Fi T t l = _; rw [HB.out, HD.out]; simp [behF]
        by_cases htT : t < T
        · have e1 : (t : Int) < (T : Int) := by omega
          obtain ⟨g3, o3, c3, hv3, d3⟩ := hrow.2 t (by omega)
          rw [hrl] at hv3
          cases hv3
          obtain ⟨fi, hfi'⟩ : ∃ z, (Fi.getD y []).getD t false = z := ⟨_, rfl⟩
          rw [hfi'] at d3
          have HFi' : Hid ((Fi.getD y []).getD t false = fi) := hfi'
          clear hfi' hrow hrl
          cases fi with
          | true =>
            have HE : Hid (behF Nu Fi T t l = (true, false)) := by show behF Nu Fi T t l = _; rw [HS.out, HFi'.out]; simp [htT]
            go_wp2_with fail
            go_big_quiet (fail)
            go_wp2_with fail
            refine bodyPost_ret (v := .tuple #[.bool true, .bool false]) (by simp [results, Try.results58, go_sem]) rfl ⟨by rw [HE.out], _, World.drewN_drewN _ _ _⟩
          | false =>
            have HS2 : Hid (behF Nu Fi T t l = if nu then behF Nu Fi T t (l.drop (k + 1)) else (false, false)) := by show behF Nu Fi T t l = _; rw [HS.out, HFi'.out, HNu.out]; simp
            cases nu with
            | true =>
              have HE : Hid (behF Nu Fi T t l = behF Nu Fi T t (l.drop (k + 1))) := HS2.out
              go_wp2_with fail
              go_big_quiet (fail)
              go_wp2_with fail
              go_big_quiet (fail)
              go_wp2_with fail
              go_roundw
              case rel => exact ⟨k + 1, _, by go_num, by omega, rfl, HE.out⟩
              case measure => simp [intOf]; omega
            | false =>
              have HE : Hid (behF Nu Fi T t l = (false, false)) := HS2.out
              go_wp2_with fail
              go_big_quiet (fail)
              go_wp2_with fail
              go_big_quiet (fail)
              go_wp2_with fail
              refine bodyPost_ret (v := .tuple #[.bool false, .bool false]) (by simp [results, Try.results58, go_sem]) rfl ⟨by rw [HE.out], _, by rw [World.drewN_drewN, World.drewN_drewN]⟩
        · have e1 : decide ((t : Int) < (T : Int)) = false := decide_eq_false (by omega)
          have HS2 : Hid (behF Nu Fi T t l = if nu then behF Nu Fi T t (l.drop (k + 1)) else (false, false)) := by show behF Nu Fi T t l = _; rw [HS.out, HNu.out]; simp [htT]
          clear hrow hrl
          cases nu with
          | true =>
            have HE : Hid (behF Nu Fi T t l = behF Nu Fi T t (l.drop (k + 1))) := HS2.out
            go_wp2_with fail
            go_big_quiet (fail)
            go_wp2_with fail
            go_big_quiet (fail)
            go_wp2_with fail
            go_roundw
            case rel => exact ⟨k + 1, _, by go_num, by omega, rfl, HE.out⟩
            case measure => simp [intOf]; omega
          | false =>
            have HE : Hid (behF Nu Fi T t l = (false, false)) := HS2.out
            go_wp2_with fail
            go_big_quiet (fail)
            go_wp2_with fail
            go_big_quiet (fail)
            go_wp2_with fail
            refine bodyPost_ret (v := .tuple #[.bool false, .bool false]) (by simp [results, Try.results58, go_sem]) rfl ⟨by rw [HE.out], _, by rw [World.drewN_drewN, World.drewN_drewN]⟩
    · have HE : Hid (behF Nu Fi T t l = (false, true)) := by show behF Nu Fi T t l = _; rw [HB.out, List.drop_of_length_le (by omega)]; rfl
      go_wp2_with fail
      refine bodyPost_ret (v := .tuple #[.bool false, .bool true]) (by simp [results, Try.results58, go_sem]) rfl ⟨by rw [HE.out], m, rfl⟩

end Go.Proofs.Ytchpfdnifbdfpaa
