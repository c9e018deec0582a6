/- The contract of pollardingref9's reads. -/
import Derived.Test.YtoecjlfkpfmadaaTxSp
namespace Go.Proofs.Ytoecjlfkpfmadaa
open Go.RowKit

/-- A symbol as text: whether it is one; which. -/
def rdB (s : List UInt8) : Bool := s.getD 0 0 == 116 || s.getD 0 0 == 110
def rdOk (s : List UInt8) : Bool := rdB s && numR (s.drop 1)
def rdT (s : List UInt8) : Bool := s.getD 0 0 == 116
def rdN (s : List UInt8) : Nat := if rdB s = true then numV (s.drop 1) else 0
theorem ext_one9 (s : List UInt8) : (⟨s.toArray⟩ : ByteArray).extract 1 s.length = ⟨(s.drop 1).toArray⟩ := by
  rw [ext_mid9, List.take_length]

section
variable {s : List UInt8}
set_option maxRecDepth 100000 in
set_option maxHeartbeats 3200000 in
theorem reads9_any (w : World) (s : List UInt8) (hs : s.length ≤ 2000000) : Calls Try.prog 11 #[.string ⟨s.toArray⟩] w fun e w' => e = .returned (.tuple #[.agg #[.bool (rdT s), .int .i64 (rdN s : Nat)], .bool (rdOk s)]) ∧ Below w.heap.size w w' := by
  obtain ⟨p, hp⟩ : ∃ x, w.heap.size = x := ⟨_, rfl⟩
  obtain ⟨W1, hW1⟩ : ∃ V, w.alloc (.cells #[.bool false, .int .i64 0] 40) = V := ⟨_, rfl⟩
  have hx := heap_alloc_new w (.cells #[.bool false, .int .i64 0] 40)
  rw [hW1, hp] at hx
  have hB1 : Below p w W1 := by rw [← hW1, ← hp]; exact (Below.refl _ _).alloc (Nat.le_refl _) _
  have HF : Hid (∀ (t : Bool) (n : Nat), ((W1.setCell ⟨p, 0, none⟩ (.bool t)).setCell ⟨p, 1, none⟩ (.int .i64 n)).cell? ⟨p, 0, none⟩ = some (.bool t) ∧ ((W1.setCell ⟨p, 0, none⟩ (.bool t)).setCell ⟨p, 1, none⟩ (.int .i64 n)).cell? ⟨p, 1, none⟩ = some (.int .i64 n) ∧ Below p w ((W1.setCell ⟨p, 0, none⟩ (.bool t)).setCell ⟨p, 1, none⟩ (.int .i64 n))) := fun t n => by
    have hy := Lib.heap_setCell_same (i := 1) (Lib.heap_setCell_same (i := 0) hx (.bool t)) (.int .i64 n)
    exact ⟨cell_bk9 hy rfl, cell_bk9 hy rfl, (hB1.setCell (Nat.le_refl _) _).setCell (Nat.le_refl _) _⟩
  have c0 := cell_bk9 (i := 0) hx rfl
  have c1 := cell_bk9 (i := 1) hx rfl
  have f0 := frozen_bk9 (i := 0) hx
  have f1 := frozen_bk9 (i := 1) hx
  clear hx hB1
  rw [hp]
  by_cases h1 : s.length < 1
  · have hs0 : s = [] := List.eq_nil_of_length_eq_zero (by omega)
    have d1 : decide ((s.length : Int) < 1) = true := decide_eq_true (by omega)
    have HR : Hid (rdT s = false ∧ rdN s = 0 ∧ rdOk s = false) := by
      subst hs0
      exact ⟨by decide, by decide, by decide⟩
    clear hs0 h1 hs
    go_enter Try.func11, Try.ntmps11
    go_wp2_with fail
    obtain ⟨x0, x1, hB⟩ := HF.out false 0
    refine bodyPost_ret (v := .tuple #[.agg #[.bool false, .int .i64 0], .bool false]) (by simp [results, Try.results11, go_sem] at x0 x1 ⊢; simp [x0, x1]) rfl ⟨by rw [HR.out.1, HR.out.2.1, HR.out.2.2]; rfl, hB⟩
  · have d1 : decide ((s.length : Int) < 1) = false := decide_eq_false (by omega)
    have j1 : (0 : Int) < (s.length : Int) := by omega
    have j2 : 0 < s.length := by omega
    have j3 : (1 : Int) ≤ (s.length : Int) := by omega
    obtain ⟨c, hc⟩ : ∃ c, s.getD 0 0 = c := ⟨_, rfl⟩
    have hb : (⟨s.toArray⟩ : ByteArray)[0]'(by simpa [ByteArray.size] using j2) = c := by
      rw [← hc]
      simp [ByteArray.getElem_eq_getElem_data, List.getD, j2]
    have nu := number9_any (s := s.drop 1) W1
    have hex := ext_one9 s
    by_cases hcc : c = 116
    · skip
      have HR : Hid (rdT s = true ∧ rdN s = numV (s.drop 1) ∧ rdOk s = numR (s.drop 1)) := by
        show _ ∧ _ ∧ _
        simp only [rdT, rdN, rdOk, rdB, hc, hcc]
        exact ⟨by decide, by simp, by simp⟩
      have z1 : (c.toNat : Int) = 116 := by rw [hcc]; rfl
      obtain ⟨nv, hnv⟩ : ∃ x, numV (s.drop 1) = x := ⟨_, rfl⟩
      obtain ⟨nr, hnr⟩ : ∃ x, numR (s.drop 1) = x := ⟨_, rfl⟩
      rw [hnv, hnr] at HR nu
      obtain ⟨tl, htl⟩ : ∃ x, s.drop 1 = x := ⟨_, rfl⟩
      rw [htl] at nu hex
      clear hc hcc hnv hnr htl
      go_enter Try.func11, Try.ntmps11
      go_wp2_with
        (go_at_call 10; refine nu.mono ?_; rintro e w2 ⟨rfl, h2⟩; obtain rfl : W1 = w2 := h2.symm; clear nu)
      obtain ⟨x0, x1, hB⟩ := HF.out true nv
      refine bodyPost_ret (v := .tuple #[.agg #[.bool true, .int .i64 (nv : Nat)], .bool nr]) (by simp [results, Try.results11, go_sem] at x0 x1 ⊢; simp [x0, x1]) rfl ⟨by rw [HR.out.1, HR.out.2.1, HR.out.2.2], hB⟩
    · by_cases hcd : c = 110
      · have hcc' := hcc
        clear hcc
        have hcc := hcd
        clear hcd
        have HR : Hid (rdT s = false ∧ rdN s = numV (s.drop 1) ∧ rdOk s = numR (s.drop 1)) := by
          show _ ∧ _ ∧ _
          simp only [rdT, rdN, rdOk, rdB, hc, hcc]
          exact ⟨by decide, by simp, by simp⟩
        have z3 : ¬ (c.toNat : Int) = 116 := by rw [hcc]; decide
        have z4 : ((c.toNat : Int) == 116) = false := by simpa using z3
        have z5 : ((c.toNat : Int) != 116) = true := by simpa using z3
        have z1 : (c.toNat : Int) = 110 := by rw [hcc]; rfl
        obtain ⟨nv, hnv⟩ : ∃ x, numV (s.drop 1) = x := ⟨_, rfl⟩
        obtain ⟨nr, hnr⟩ : ∃ x, numR (s.drop 1) = x := ⟨_, rfl⟩
        rw [hnv, hnr] at HR nu
        obtain ⟨tl, htl⟩ : ∃ x, s.drop 1 = x := ⟨_, rfl⟩
        rw [htl] at nu hex
        clear hc hcc hnv hnr htl
        go_enter Try.func11, Try.ntmps11
        go_wp2_with
          (go_at_call 10; refine nu.mono ?_; rintro e w2 ⟨rfl, h2⟩; obtain rfl : W1 = w2 := h2.symm; clear nu)
        obtain ⟨x0, x1, hB⟩ := HF.out false nv
        refine bodyPost_ret (v := .tuple #[.agg #[.bool false, .int .i64 (nv : Nat)], .bool nr]) (by simp [results, Try.results11, go_sem] at x0 x1 ⊢; simp [x0, x1]) rfl ⟨by rw [HR.out.1, HR.out.2.1, HR.out.2.2], hB⟩
      · have n1 : ¬ c.toNat = 116 := fun e => hcc (UInt8.toNat_inj.1 e)
        have n2 : ¬ c.toNat = 110 := fun e => hcd (UInt8.toNat_inj.1 e)
        have z1 : ¬ (c.toNat : Int) = 116 := by omega
        have z2 : ¬ (c.toNat : Int) = 110 := by omega
        have z3 : ((c.toNat : Int) == 116) = false := by simpa using z1
        have z4 : ((c.toNat : Int) == 110) = false := by simpa using z2
        have z5 : ((c.toNat : Int) != 116) = true := by simpa using z1
        have z6 : ((c.toNat : Int) != 110) = true := by simpa using z2
        have HR : Hid (rdT s = false ∧ rdN s = 0 ∧ rdOk s = false) := by
          have hb : rdB s = false := by unfold rdB; rw [hc]; simp [hcc, hcd]
          exact ⟨by unfold rdT; rw [hc]; simp [hcc], by simp [rdN, hb], by simp [rdOk, hb]⟩
        clear hcc hcd n1 n2 hc nu hex
        go_enter Try.func11, Try.ntmps11
        go_wp2_with fail
        obtain ⟨x0, x1, hB⟩ := HF.out false 0
        refine bodyPost_ret (v := .tuple #[.agg #[.bool false, .int .i64 0], .bool false]) (by simp [results, Try.results11, go_sem] at x0 x1 ⊢; simp [x0, x1]) rfl ⟨by rw [HR.out.1, HR.out.2.1, HR.out.2.2]; rfl, hB⟩
end
end Go.Proofs.Ytoecjlfkpfmadaa
