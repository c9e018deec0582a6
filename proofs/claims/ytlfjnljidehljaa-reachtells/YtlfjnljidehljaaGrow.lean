/- The contract of the program's grow.PutAll, for whatever rows grow. -/
import Derived.Test.YtlfjnljidehljaaGrowPut
namespace Go.Proofs.Ytlfjnljidehljaa
open Go.RowKit

section
variable {ι : Type} [DecidableEq ι] {c : Tab ι} {gr : ι} {gb : Nat}

set_option maxRecDepth 100000 in
set_option maxHeartbeats 1600000 in
theorem putAll_gen {w : World} {B n nj : Nat} {i j : ι} {X : ι → List Bool} (h : Bt w B c X) (hM : Mark c gr gb) (hd : c.dom i = some n) (hdj : c.dom j = some nj) (hle : nj ≤ n) (hi : i ≠ gr) (hs : nj ≤ 1000) :
    Calls Try.prog 30 #[c.V i, c.V j, .func (.func 25) #[] #[.pointer (some ⟨gb, 0, none⟩)]] w fun e w' => e = .returned (.tuple #[]) ∧ Bt w' B c (putAllG gr i j nj X) ∧ Kept c.K w w' := by
  obtain ⟨ja, jc, hvj⟩ := Bt.slice h hdj
  obtain ⟨ia, ic, hvi⟩ := Bt.slice h hd
  have HB : Hid (Bt w B c X) := h
  have HM : Hid (Mark c gr gb) := hM
  have HV : Hid (c.V i = .slice ia n ic) := hvi
  have HJ : Hid (c.V j = .slice ja nj jc) := hvj
  rw [hvi, hvj]
  clear h hvi hvj hM
  go_enter Try.func30, Try.ntmps30
  go_wp2_with fail
  go_loopw [10] (fun s wr => ∃ k : Nat, s = .int .i64 k ∧ k ≤ nj ∧ Bt wr B c (putAllG gr i j k X) ∧ Kept c.K w wr) (fun s _ => nj - (intOf s).toNat)
  case atStart => exact ⟨0, rfl, Nat.zero_le _, HB.out, Kept.refl _ _⟩
  case round =>
    obtain ⟨k, rfl, hk, hB, hK⟩ := hrel
    have HB' : Hid (Bt wr B c (putAllG gr i j k X)) := hB
    have HK : Hid (Kept c.K w wr) := hK
    clear hB hK
    by_cases hlt : k < nj
    · obtain ⟨g, cap, hv, _, _⟩ := Bt.form HB'.out hdj (by omega)
      have hv' := HJ.out
      rw [hv] at hv'
      cases hv'
      obtain ⟨c1, _⟩ := Bt.cell HB'.out hdj hv hlt
      have j0 : (0 : Int) ≤ (k : Int) := Int.natCast_nonneg _
      have j1 : (k : Int) < (nj : Int) := by omega
      have put := put_gen HB'.out HM.out hd (m := k) (by omega) hi
      rw [HV.out] at put
      have HE : Hid (putAllG gr i j (k + 1) X = if bit (putAllG gr i j k X) j k then putG gr (putAllG gr i j k X) i k else putAllG gr i j k X) := rfl
      clear hv
      cases hb : bit (putAllG gr i j k X) j k with
      | true =>
        rw [hb] at c1 HE
        clear hb
        go_wp2_with (go_at_call 25; refine put.mono ?_; rintro e w2 ⟨rfl, hB2, hK2⟩)
        go_roundw
        case rel => exact ⟨k + 1, by go_num, by omega, by rw [HE.out]; exact hB2, HK.out.trans hK2⟩
        case measure => simp [intOf]; omega
      | false =>
        rw [hb] at c1 HE
        clear hb put
        go_wp2_with fail
        go_roundw
        case rel => exact ⟨k + 1, by go_num, by omega, by rw [HE.out]; exact HB'.out, HK.out⟩
        case measure => simp [intOf]; omega
    · obtain rfl : k = nj := by omega
      go_wp2_with fail
      go_end0
      exact ⟨rfl, HB'.out, HK.out⟩

end

end Go.Proofs.Ytlfjnljidehljaa
