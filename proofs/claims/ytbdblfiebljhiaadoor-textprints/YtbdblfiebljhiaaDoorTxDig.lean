/- The contracts of pollardingref9's Digits and symbol. -/
import Derived.Test.YtbdblfiebljhiaaDoorTxPut
import Derived.Test.YtbdblfiebljhiaaDoorTxMath
import Derived.Laws.Concat
import Derived.Laws.IdiomStrings
namespace Go.Proofs.YtbdblfiebljhiaaDoor
open Go.RowKit

/-- Two texts, one behind the other. -/
theorem txt_add {P : Program} (a b : List UInt8) (h : a.length + b.length ≤ 1000000) (w : World) : (Op.stringOp .add ⟨a.toArray⟩ ⟨b.toArray⟩).run P w = .ok (.string ⟨(a ++ b).toArray⟩) w := by
  refine (run_string_add_sum (P := P) (w := w) _ _ ?_).trans ?_
  · simp [ByteArray.size]; omega
  · rw [ByteArray.mk_append_mk]

theorem dig_cv (w : World) (n : Nat) : (convert 31 9 (.slice (some ⟨w.heap.size, 0, none⟩) 1 1)).run Tryd.prog (w.alloc (.cells #[.int .u8 (48 + (n : Int) % 10)] 5)) = .ok (.string ⟨[UInt8.ofNat (48 + n % 10)].toArray⟩) (w.alloc (.cells #[.int .u8 (48 + (n : Int) % 10)] 5)) := by
  refine run_convert_bytes_back (P := Tryd.prog) _ _ _ 5 ⟨w.heap.size, 0, none⟩ 1 [UInt8.ofNat (48 + n % 10)] Tryd.underlying31 Tryd.underlying5 Tryd.underlying9 ?_
  intro j hj
  have h0 : j = 0 := by simp at hj; omega
  subst h0
  have := World.cell?_alloc_mark w #[.int .u8 (48 + (n : Int) % 10)] 5 (0, 0) 0
  show World.cell? _ ⟨w.heap.size, 0 + ((0 : Nat) : Int).toNat, none⟩ = _
  refine this.trans ?_
  have e : ((UInt8.ofNat (48 + n % 10)).toNat : Int) = 48 + (n : Int) % 10 := by
    rw [UInt8.toNat_ofNat']
    omega
  simp only [List.getElem_cons_zero, e]
  rfl

set_option maxRecDepth 100000 in
set_option maxHeartbeats 3200000 in
theorem digits_one (n : Nat) (w : World) (h10 : n < 10) : Calls Tryd.prog 13 #[.int .i64 n] w fun e w' => e = .returned (.string ⟨(Lib.decDigits n).toArray⟩) ∧ Below w.heap.size w w' := by
  have d1 : decide (n < 10) = true := decide_eq_true h10
  have d2 : decide ((n : Int) < 10) = true := decide_eq_true (by omega)
  have hcv := dig_cv w n
  obtain ⟨x, hx⟩ : ∃ x, x = [UInt8.ofNat (48 + n % 10)] := ⟨_, rfl⟩
  rw [← hx] at hcv
  have HX : Hid (Lib.decDigits n = x) := by
    show _ = _
    rw [hx, dec_one h10, Nat.mod_eq_of_lt h10]
  clear hx
  go_enter Tryd.func13, Tryd.ntmps13
  go_wp2_with fail
  go_ret
  refine ⟨by rw [HX.out]; rfl, (Below.refl _ _).alloc (Nat.le_refl _) _⟩

set_option maxRecDepth 100000 in
set_option maxHeartbeats 3200000 in
theorem digits_two (n : Nat) (w : World) (h10 : ¬ n < 10) (h100 : n < 100) : Calls Tryd.prog 13 #[.int .i64 n] w fun e w' => e = .returned (.string ⟨(Lib.decDigits n).toArray⟩) ∧ Below w.heap.size w w' := by
  have d1 : decide (n < 10) = false := decide_eq_false h10
  have d2 : decide ((n : Int) < 10) = false := decide_eq_false (by omega)
  have hcv := dig_cv w n
  have one := digits_one (n / 10) (w.alloc (.cells #[.int .u8 (48 + (n : Int) % 10)] 5)) (by omega)
  obtain ⟨x, hx⟩ : ∃ x, x = [UInt8.ofNat (48 + n % 10)] := ⟨_, rfl⟩
  obtain ⟨y, hy⟩ : ∃ y, y = Lib.decDigits (n / 10) := ⟨_, rfl⟩
  rw [← hx] at hcv
  rw [← hy] at one
  have hly : y.length ≤ 2 := by rw [hy]; exact dec_len (by omega)
  have hlx : x.length ≤ 2 := by rw [hx]; simp
  have add := txt_add (P := Tryd.prog) y x (by omega)
  have HX : Hid (Lib.decDigits n = y ++ x) := by
    show _ = _
    rw [hx, hy, dec_two h10]
  clear hx hy
  go_enter Tryd.func13, Tryd.ntmps13
  go_wp2_with
    (go_at_call 13; refine one.mono ?_; rintro e w2 ⟨rfl, hB⟩)
  go_ret
  refine ⟨by rw [HX.out]; rfl, ?_⟩
  exact ((Below.refl _ _).alloc (Nat.le_refl _) _).trans (hB.mono (by simp))

theorem digits_any (n : Nat) (w : World) (h : n < 100) : Calls Tryd.prog 13 #[.int .i64 n] w fun e w' => e = .returned (.string ⟨(Lib.decDigits n).toArray⟩) ∧ Below w.heap.size w w' := by
  by_cases h10 : n < 10
  · exact digits_one n w h10
  · exact digits_two n w h10 h

set_option maxRecDepth 100000 in
set_option maxHeartbeats 3200000 in
theorem sym_text (t : Bool) (n : Nat) (w : World) (h : n < 100) : Calls Tryd.prog 14 #[.agg #[.bool t, .int .i64 n]] w fun e w' => e = .returned (.string ⟨((if t then 116 else 110) :: Lib.decDigits n : List UInt8).toArray⟩) ∧ Below w.heap.size w w' := by
  have one := digits_any n (w.alloc (.cells #[.bool t, .int .i64 n] 45)) h
  have hl := dec_len h
  obtain ⟨y, hy⟩ : ∃ y, y = Lib.decDigits n := ⟨_, rfl⟩
  rw [← hy] at one hl ⊢
  clear hy
  have HB : Hid (Below w.heap.size w (w.alloc (.cells #[.bool t, .int .i64 n] 45))) := (Below.refl _ _).alloc (Nat.le_refl _) _
  cases t with
  | true =>
    have add := txt_add (P := Tryd.prog) [116] y (by simp; omega)
    go_enter Tryd.func14, Tryd.ntmps14
    go_wp2_with
      (go_at_call 13; refine one.mono ?_; rintro e w2 ⟨rfl, hB⟩)
    go_ret
    exact ⟨rfl, HB.out.trans (hB.mono HB.out.size)⟩
  | false =>
    have add := txt_add (P := Tryd.prog) [110] y (by simp; omega)
    go_enter Tryd.func14, Tryd.ntmps14
    go_wp2_with
      (go_at_call 13; refine one.mono ?_; rintro e w2 ⟨rfl, hB⟩)
    go_ret
    exact ⟨rfl, HB.out.trans (hB.mono HB.out.size)⟩

end Go.Proofs.YtbdblfiebljhiaaDoor
