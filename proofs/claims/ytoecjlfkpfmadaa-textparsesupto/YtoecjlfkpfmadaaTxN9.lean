/- The contract of pollardingref9's Number. -/
import Derived.Test.YtoecjlfkpfmadaaTxFr
import Derived.Test.YtoecjlfkpfmadaaRows
import Derived.WalkKit
import Derived.WalkSpells
import Derived.BigGuard
import Derived.Deep.Cut
namespace Go.Proofs.Ytoecjlfkpfmadaa
open Go.RowKit

def valD (l : List UInt8) : Nat := l.foldl (fun n c => n * 10 + (c.toNat - 48)) 0
/-- A number of up to four digits. -/
def numR (s : List UInt8) : Bool := decide (1 ≤ s.length) && decide (s.length ≤ 4) && !(s.getD 0 0 == 48 && decide (1 < s.length)) && s.all isD
/-- What it tells: the number, or 0. -/
def numV (s : List UInt8) : Nat := if numR s = true then valD s else 0
theorem valD_next {s : List UInt8} {i : Nat} (h : i < s.length) : valD (s.take (i + 1)) = valD (s.take i) * 10 + ((s.getD i 0).toNat - 48) := by
  unfold valD
  rw [List.take_succ_eq_append_getElem h, List.foldl_append]
  simp [List.getD, h]
theorem valD_lt : ∀ {s : List UInt8}, s.all isD = true → valD s < 10 ^ s.length := by
  intro s
  have key : ∀ (l : List UInt8) (n : Nat), l.all isD = true → l.foldl (fun n c => n * 10 + (c.toNat - 48)) n < (n + 1) * 10 ^ l.length := by
    intro l
    induction l with
    | nil => intro n _; simp
    | cons c l ih =>
      intro n h
      simp only [List.all_cons, Bool.and_eq_true, isD, decide_eq_true_eq] at h
      have := ih (n * 10 + (c.toNat - 48)) h.2
      rw [List.foldl_cons, List.length_cons, Nat.pow_succ]
      refine Nat.lt_of_lt_of_le this ?_
      have h2 : n * 10 + (c.toNat - 48) + 1 ≤ (n + 1) * 10 := by omega
      calc (n * 10 + (c.toNat - 48) + 1) * 10 ^ l.length ≤ ((n + 1) * 10) * 10 ^ l.length := Nat.mul_le_mul_right _ h2
        _ = (n + 1) * (10 ^ l.length * 10) := by rw [Nat.mul_assoc, Nat.mul_comm 10]
  intro h
  unfold valD
  simpa using key s 0 h
theorem take_all {s : List UInt8} {i : Nat} (h : i < s.length) (ha : (s.take i).all isD = true) (hd : isD (s.getD i 0) = true) : (s.take (i + 1)).all isD = true := by
  rw [List.take_succ_eq_append_getElem h, List.all_append, ha]
  simpa [List.getD, h] using hd

section
variable {w : World} {s : List UInt8}
set_option maxRecDepth 100000 in
set_option maxHeartbeats 3200000 in
theorem number9_any (w : World) : Calls Try.prog 10 #[.string ⟨s.toArray⟩, .int .i64 4] w fun e w' => e = .returned (.tuple #[.int .i64 (numV s : Nat), .bool (numR s)]) ∧ w' = w := by
  by_cases h1 : s.length < 1
  · have hR : numR s = false := by
      simp only [numR, show decide (1 ≤ s.length) = false from decide_eq_false (by omega), Bool.false_and]
    have HR : Hid (numR s = false ∧ numV s = 0) := ⟨hR, by simp [numV, hR]⟩
    have d1 : decide ((s.length : Int) < 1) = true := decide_eq_true (by omega)
    clear hR
    go_enter Try.func10, Try.ntmps10
    go_wp2_with fail
    refine bodyPost_ret (v := .tuple #[.int .i64 0, .bool false]) (by simp [results, Try.results10, go_sem]) rfl ⟨by rw [HR.out.1, HR.out.2]; rfl, rfl⟩
  · by_cases h2 : 4 < s.length
    · have hR : numR s = false := by
        simp only [numR, show decide (s.length ≤ 4) = false from decide_eq_false (by omega), Bool.and_false, Bool.false_and]
      have d1 : decide ((s.length : Int) < 1) = false := decide_eq_false (by omega)
      have d2 : decide ((4 : Int) < (s.length : Int)) = true := decide_eq_true (by omega)
      have d3 : decide ((s.length : Int) > 4) = true := d2
      have HR : Hid (numR s = false ∧ numV s = 0) := ⟨hR, by simp [numV, hR]⟩
      clear hR
      go_enter Try.func10, Try.ntmps10
      go_wp2_with fail
      refine bodyPost_ret (v := .tuple #[.int .i64 0, .bool false]) (by simp [results, Try.results10, go_sem]) rfl ⟨by rw [HR.out.1, HR.out.2]; rfl, rfl⟩
    · obtain ⟨c, hc⟩ : ∃ c, s.getD 0 0 = c := ⟨_, rfl⟩
      have hb : (⟨s.toArray⟩ : ByteArray)[0]'(by simp [ByteArray.size]; omega) = c := by
        rw [← hc]
        simp [ByteArray.getElem_eq_getElem_data, List.getD]
        have : 0 < s.length := by omega
        simp [this]
      have d1 : decide ((s.length : Int) < 1) = false := decide_eq_false (by omega)
      have d2 : decide ((4 : Int) < (s.length : Int)) = false := decide_eq_false (by omega)
      have d3 : decide ((s.length : Int) > 4) = false := d2
      have j1 : (0 : Int) < (s.length : Int) := by omega
      have j2 : 0 < s.length := by omega
      by_cases hz : c.toNat = 48 ∧ 1 < s.length
      · have hc48 : (c == 48) = true := by
          have : c = 48 := UInt8.toNat_inj.1 hz.1
          simp [this]
        have hR : numR s = false := by
          simp only [numR, hc, hc48, decide_eq_true hz.2, Bool.and_self, Bool.not_true, Bool.and_false, Bool.false_and]
        have HR : Hid (numR s = false ∧ numV s = 0) := ⟨hR, by simp [numV, hR]⟩
        have z1 : (c.toNat : Int) = 48 := by omega
        have z2 : (1 : Int) < (s.length : Int) := by omega
        clear hR hc48 hc hz
        go_enter Try.func10, Try.ntmps10
        go_wp2_with fail
        refine bodyPost_ret (v := .tuple #[.int .i64 0, .bool false]) (by simp [results, Try.results10, go_sem]) rfl ⟨by rw [HR.out.1, HR.out.2]; rfl, rfl⟩
      · have HAll : Hid (numR s = s.all isD) := by
          show _ = _
          have hx : (c == 48 && decide (1 < s.length)) = false := by
            by_cases h : c = 48
            · have : ¬ 1 < s.length := fun h' => hz ⟨by rw [h]; rfl, h'⟩
              simp [this]
            · simp [h]
          simp only [numR, hc, hx, decide_eq_true (show 1 ≤ s.length by omega), decide_eq_true (show s.length ≤ 4 by omega), Bool.not_false, Bool.and_self, Bool.true_and]
        by_cases hz1 : c.toNat = 48
        · have z1 : (c.toNat : Int) = 48 := by omega
          have z2 : decide ((1 : Int) < (s.length : Int)) = false := decide_eq_false (by omega)
          have z3 : ¬ (1 : Int) < (s.length : Int) := by omega
          clear hz hz1
          go_enter Try.func10, Try.ntmps10
          go_wp2_with fail
          go_loopw [6, 7] (fun s6 s7 wr => ∃ i : Nat, s7 = .int .i64 i ∧ i ≤ s.length ∧ s6 = .int .i64 (valD (s.take i) : Nat) ∧ (s.take i).all isD = true ∧ wr = w) (fun _ v _ => s.length - (intOf v).toNat)
          case atStart => exact ⟨0, rfl, Nat.zero_le _, by simp [valD], by simp, rfl⟩
          case round =>
            obtain ⟨i, rfl, hi, rfl, ha, rfl⟩ := hrel
            have hv := valD_lt ha
            rw [List.length_take, Nat.min_eq_left hi] at hv
            have hv2 : valD (s.take i) < 10000 := Nat.lt_of_lt_of_le hv (Nat.pow_le_pow_right (by omega) (by omega : i ≤ 4) : 10 ^ i ≤ 10 ^ 4)
            by_cases hlt : i < s.length
            · have hnx := valD_next hlt
              obtain ⟨x, hx⟩ : ∃ x, s.getD i 0 = x := ⟨_, rfl⟩
              have hbx : (⟨s.toArray⟩ : ByteArray)[i]'(by simpa [ByteArray.size] using hlt) = x := by
                rw [← hx]
                simp [ByteArray.getElem_eq_getElem_data, List.getD, hlt]
              have k0 : (0 : Int) ≤ (i : Int) := Int.natCast_nonneg _
              have k1 : (i : Int) < (s.length : Int) := by omega
              obtain ⟨v, hvv⟩ : ∃ v, valD (s.take i) = v := ⟨_, rfl⟩
              rw [hvv] at hnx hv2 ⊢
              rw [hx] at hnx
              clear hb hc
              by_cases hd : isD x = true
              · have hta := take_all hlt ha (by rw [hx]; exact hd)
                have hD := hd
                simp only [isD, Bool.and_eq_true, decide_eq_true_eq] at hD
                have y1 : decide ((x.toNat : Int) < 48) = false := decide_eq_false (by omega)
                have y2 : decide ((57 : Int) < (x.toNat : Int)) = false := decide_eq_false (by omega)
                have y3 : decide ((x.toNat : Int) > 57) = false := y2
                have HN : Hid (valD (s.take (i + 1)) = v * 10 + (x.toNat - 48) ∧ (s.take (i + 1)).all isD = true) := ⟨hnx, hta⟩
                clear hnx hta hx ha hd hv hvv
                go_wp2_with fail
                go_roundw
                case rel => exact ⟨i + 1, by go_num, by omega, by rw [HN.out.1]; go_num, HN.out.2, by first | rfl | trivial⟩
                case measure => simp [intOf]; omega
              · have hn : s.all isD = false := by
                  rw [Bool.eq_false_iff]
                  intro h
                  have := List.all_eq_true.1 h (s[i]) (List.getElem_mem hlt)
                  rw [← hx] at hd
                  simp [List.getD, hlt] at hd
                  simp [this] at hd
                have HR : Hid (numR s = false ∧ numV s = 0) := by
                  have h1 := HAll.out
                  rw [hn] at h1
                  exact ⟨h1, by simp [numV, h1]⟩
                have hD : ¬ (48 ≤ x.toNat ∧ x.toNat ≤ 57) := by simpa [isD] using hd
                clear hnx hx ha hv hvv hn hd
                by_cases h48 : x.toNat < 48
                · have y1 : decide ((x.toNat : Int) < 48) = true := decide_eq_true (by omega)
                  go_wp2_with fail
                  refine bodyPost_ret (v := .tuple #[.int .i64 0, .bool false]) (by simp [results, Try.results10, go_sem]) rfl ⟨by rw [HR.out.1, HR.out.2]; rfl, rfl⟩
                · have y1 : decide ((x.toNat : Int) < 48) = false := decide_eq_false (by omega)
                  have y2 : decide ((57 : Int) < (x.toNat : Int)) = true := decide_eq_true (by omega)
                  have y3 : decide ((x.toNat : Int) > 57) = true := y2
                  go_wp2_with fail
                  refine bodyPost_ret (v := .tuple #[.int .i64 0, .bool false]) (by simp [results, Try.results10, go_sem]) rfl ⟨by rw [HR.out.1, HR.out.2]; rfl, rfl⟩
            · have hii : i = s.length := by omega
              rw [hii, List.take_length] at ha
              have HR : Hid (numR s = true ∧ numV s = valD (s.take i)) := by
                have h1 := HAll.out
                rw [ha] at h1
                exact ⟨h1, by simp [numV, h1, hii]⟩
              obtain ⟨v, hvv⟩ : ∃ v, valD (s.take i) = v := ⟨_, rfl⟩
              rw [hvv] at HR ⊢
              clear ha hv hv2 hii hvv hb hc
              go_wp2_with fail
              refine bodyPost_ret (v := .tuple #[.int .i64 (v : Nat), .bool true]) (by simp [results, Try.results10, go_sem]) rfl ⟨by rw [HR.out.1, HR.out.2], rfl⟩
        · have z1 : ¬ (c.toNat : Int) = 48 := by omega
          have z2 : ((c.toNat : Int) == 48) = false := by simpa using z1
          clear hz hz1
          go_enter Try.func10, Try.ntmps10
          go_wp2_with fail
          go_loopw [6, 7] (fun s6 s7 wr => ∃ i : Nat, s7 = .int .i64 i ∧ i ≤ s.length ∧ s6 = .int .i64 (valD (s.take i) : Nat) ∧ (s.take i).all isD = true ∧ wr = w) (fun _ v _ => s.length - (intOf v).toNat)
          case atStart => exact ⟨0, rfl, Nat.zero_le _, by simp [valD], by simp, rfl⟩
          case round =>
            obtain ⟨i, rfl, hi, rfl, ha, rfl⟩ := hrel
            have hv := valD_lt ha
            rw [List.length_take, Nat.min_eq_left hi] at hv
            have hv2 : valD (s.take i) < 10000 := Nat.lt_of_lt_of_le hv (Nat.pow_le_pow_right (by omega) (by omega : i ≤ 4) : 10 ^ i ≤ 10 ^ 4)
            by_cases hlt : i < s.length
            · have hnx := valD_next hlt
              obtain ⟨x, hx⟩ : ∃ x, s.getD i 0 = x := ⟨_, rfl⟩
              have hbx : (⟨s.toArray⟩ : ByteArray)[i]'(by simpa [ByteArray.size] using hlt) = x := by
                rw [← hx]
                simp [ByteArray.getElem_eq_getElem_data, List.getD, hlt]
              have k0 : (0 : Int) ≤ (i : Int) := Int.natCast_nonneg _
              have k1 : (i : Int) < (s.length : Int) := by omega
              obtain ⟨v, hvv⟩ : ∃ v, valD (s.take i) = v := ⟨_, rfl⟩
              rw [hvv] at hnx hv2 ⊢
              rw [hx] at hnx
              clear hb hc
              by_cases hd : isD x = true
              · have hta := take_all hlt ha (by rw [hx]; exact hd)
                have hD := hd
                simp only [isD, Bool.and_eq_true, decide_eq_true_eq] at hD
                have y1 : decide ((x.toNat : Int) < 48) = false := decide_eq_false (by omega)
                have y2 : decide ((57 : Int) < (x.toNat : Int)) = false := decide_eq_false (by omega)
                have y3 : decide ((x.toNat : Int) > 57) = false := y2
                have HN : Hid (valD (s.take (i + 1)) = v * 10 + (x.toNat - 48) ∧ (s.take (i + 1)).all isD = true) := ⟨hnx, hta⟩
                clear hnx hta hx ha hd hv hvv
                go_wp2_with fail
                go_roundw
                case rel => exact ⟨i + 1, by go_num, by omega, by rw [HN.out.1]; go_num, HN.out.2, by first | rfl | trivial⟩
                case measure => simp [intOf]; omega
              · have hn : s.all isD = false := by
                  rw [Bool.eq_false_iff]
                  intro h
                  have := List.all_eq_true.1 h (s[i]) (List.getElem_mem hlt)
                  rw [← hx] at hd
                  simp [List.getD, hlt] at hd
                  simp [this] at hd
                have HR : Hid (numR s = false ∧ numV s = 0) := by
                  have h1 := HAll.out
                  rw [hn] at h1
                  exact ⟨h1, by simp [numV, h1]⟩
                have hD : ¬ (48 ≤ x.toNat ∧ x.toNat ≤ 57) := by simpa [isD] using hd
                clear hnx hx ha hv hvv hn hd
                by_cases h48 : x.toNat < 48
                · have y1 : decide ((x.toNat : Int) < 48) = true := decide_eq_true (by omega)
                  go_wp2_with fail
                  refine bodyPost_ret (v := .tuple #[.int .i64 0, .bool false]) (by simp [results, Try.results10, go_sem]) rfl ⟨by rw [HR.out.1, HR.out.2]; rfl, rfl⟩
                · have y1 : decide ((x.toNat : Int) < 48) = false := decide_eq_false (by omega)
                  have y2 : decide ((57 : Int) < (x.toNat : Int)) = true := decide_eq_true (by omega)
                  have y3 : decide ((x.toNat : Int) > 57) = true := y2
                  go_wp2_with fail
                  refine bodyPost_ret (v := .tuple #[.int .i64 0, .bool false]) (by simp [results, Try.results10, go_sem]) rfl ⟨by rw [HR.out.1, HR.out.2]; rfl, rfl⟩
            · have hii : i = s.length := by omega
              rw [hii, List.take_length] at ha
              have HR : Hid (numR s = true ∧ numV s = valD (s.take i)) := by
                have h1 := HAll.out
                rw [ha] at h1
                exact ⟨h1, by simp [numV, h1, hii]⟩
              obtain ⟨v, hvv⟩ : ∃ v, valD (s.take i) = v := ⟨_, rfl⟩
              rw [hvv] at HR ⊢
              clear ha hv hv2 hii hvv hb hc
              go_wp2_with fail
              refine bodyPost_ret (v := .tuple #[.int .i64 (v : Nat), .bool true]) (by simp [results, Try.results10, go_sem]) rfl ⟨by rw [HR.out.1, HR.out.2], rfl⟩
end
end Go.Proofs.Ytoecjlfkpfmadaa
