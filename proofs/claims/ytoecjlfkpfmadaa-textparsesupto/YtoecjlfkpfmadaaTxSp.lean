/- The contract of pollardingref9's split. -/
import Derived.Test.YtoecjlfkpfmadaaTxN9
import Derived.Deep.AppendLies
import Derived.Laws.AppendOwnNone
namespace Go.Proofs.Ytoecjlfkpfmadaa
open Go.RowKit

/-- The parts of a text between bytes c. -/
def splitB (c : UInt8) : List UInt8 → List (List UInt8)
  | [] => [[]]
  | b :: l => if b == c then [] :: splitB c l else ((b :: (splitB c l).headD []) :: (splitB c l).tail)
theorem splitB_none {c : UInt8} : ∀ {u : List UInt8}, (∀ b ∈ u, b ≠ c) → splitB c u = [u]
  | [], _ => rfl
  | b :: l, h => by
    have hb : (b == c) = false := by simpa using h b (List.mem_cons_self ..)
    rw [splitB, hb, splitB_none fun x hx => h x (List.mem_cons_of_mem _ hx)]
    simp
theorem splitB_cut {c : UInt8} {r : List UInt8} : ∀ {u : List UInt8}, (∀ b ∈ u, b ≠ c) → splitB c (u ++ c :: r) = u :: splitB c r
  | [], _ => by simp [splitB]
  | b :: l, h => by
    have hb : (b == c) = false := by simpa using h b (List.mem_cons_self ..)
    rw [List.cons_append, splitB, hb, splitB_cut fun x hx => h x (List.mem_cons_of_mem _ hx)]
    simp
theorem splitB_len (c : UInt8) : ∀ s : List UInt8, (splitB c s).length ≤ s.length + 1
  | [] => by simp [splitB]
  | b :: l => by
    have := splitB_len c l
    rw [splitB]
    split
    · simp; omega
    · simp; omega
def strV9 (P : List (List UInt8)) : List Value := P.map fun l => .string ⟨l.toArray⟩
theorem Try.infoStr9 : (Try.prog.info? 9).map (fun i => (i.zero, i.size, i.bytes)) = some (some (.string ⟨#[]⟩), 1, 16) := by kernel_rfl
theorem ext_mid9 (s : List UInt8) (f i : Nat) : (⟨s.toArray⟩ : ByteArray).extract f i = ⟨((s.take i).drop f).toArray⟩ := by
  apply ByteArray.ext
  simp [ByteArray.data_extract, List.drop_take]

/-- What has been parted up to i, the current part from f on. -/
structure SpI (s : List UInt8) (c : UInt8) (P : List (List UInt8)) (f i : Nat) : Prop where
  le : f ≤ i
  len : P.length ≤ i
  all : splitB c s = P ++ splitB c (s.drop f)
  no : ∀ b ∈ (s.take i).drop f, b ≠ c
section
variable {s : List UInt8} {c : UInt8} {P : List (List UInt8)} {f i : Nat}
theorem mid_on (hf : f ≤ i) (hi : i < s.length) : (s.take (i + 1)).drop f = (s.take i).drop f ++ [s.getD i 0] := by
  rw [List.take_succ_eq_append_getElem hi, List.drop_append_of_le_length (by simp; omega)]
  simp [List.getD, hi]
theorem SpI.go (h : SpI s c P f i) (hi : i < s.length) (hc : s.getD i 0 ≠ c) : SpI s c P f (i + 1) := by
  refine ⟨by have := h.le; omega, by have := h.len; omega, h.all, fun b hb => ?_⟩
  rw [mid_on h.le hi, List.mem_append, List.mem_singleton] at hb
  rcases hb with hb | hb
  · exact h.no b hb
  · rw [hb]; exact hc
theorem drop_mid (hf : f ≤ i) (hi : i ≤ s.length) : s.drop f = (s.take i).drop f ++ s.drop i := by
  conv => lhs; rw [← List.take_append_drop i s]
  rw [List.drop_append_of_le_length (by simp; omega)]
theorem SpI.cut (h : SpI s c P f i) (hi : i < s.length) (hc : s.getD i 0 = c) : SpI s c (P ++ [(s.take i).drop f]) (i + 1) (i + 1) := by
  refine ⟨Nat.le_refl _, by simp; exact h.len, ?_, fun b hb => by simp at hb⟩
  rw [h.all, drop_mid h.le (Nat.le_of_lt hi), List.drop_eq_getElem_cons hi, show s[i] = c by rw [← hc]; simp [List.getD, hi], splitB_cut h.no]
  simp
theorem SpI.last (h : SpI s c P f i) (hi : i = s.length) : splitB c s = P ++ [(s.take i).drop f] := by
  have h1 := h.no
  rw [hi, List.take_length] at h1
  rw [h.all, splitB_none h1, hi, List.take_length]

set_option maxRecDepth 100000 in
set_option maxHeartbeats 3200000 in
theorem split_any (w : World) (s : List UInt8) (c : UInt8) (hs : s.length ≤ 2000000) : Calls Try.prog 9 #[.string ⟨s.toArray⟩, .int .u8 (c.toNat : Int)] w fun e w' => ∃ v, e = .returned v ∧ w'.ownsRow w.heap.size 9 1 v (splitB c s).length (strV9 (splitB c s)) ∧ Below w.heap.size w w' := by
  go_enter Try.func9, Try.ntmps9
  go_wp2_with fail
  go_loopw [5, 6, 7] (fun s5 s6 s7 wr => ∃ (lv : Value) (P : List (List UInt8)) (f i : Nat), lv = s5 ∧ s6 = .int .i64 f ∧ s7 = .int .i64 i ∧ ((i ≤ s.length ∧ SpI s c P f i) ∨ (i = s.length + 1 ∧ P = splitB c s)) ∧ wr.ownsRow w.heap.size 9 1 lv P.length (strV9 P) ∧ Below w.heap.size w wr) (fun _ _ v _ => s.length + 1 - (intOf v).toNat)
  case atStart => exact ⟨_, [], 0, 0, rfl, rfl, rfl, .inl ⟨Nat.zero_le _, ⟨Nat.le_refl _, by simp, by simp, fun b hb => by simp at hb⟩⟩, World.ownsRow_nil .., Below.refl _ _⟩
  case round =>
    obtain ⟨lv, P, f, i, rfl, rfl, rfl, hI, hO, hB⟩ := hrel
    have HO : Hid (wr.ownsRow w.heap.size 9 1 lv P.length (strV9 P) ∧ Below w.heap.size w wr) := ⟨hO, hB⟩
    clear hO hB
    rcases hI with ⟨hi, hI⟩ | ⟨hi, hP⟩
    · have HI : Hid (SpI s c P f i) := hI
      have hfi := hI.le
      clear hI
      have d1 : decide ((i : Int) ≤ (s.length : Int)) = true := decide_eq_true (by omega)
      by_cases hl : i = s.length
      · have e1 : ((i : Int) == (s.length : Int)) = true := by simp [hl]
        have HL : Hid (i = s.length) := hl
        clear hl
        have own5 := (HO.out.1).alloc (.cells #[.string ⟨((s.take i).drop f).toArray⟩] 9)
        have hb5 : w.heap.size ≤ (wr.alloc (.cells #[.string ⟨((s.take i).drop f).toArray⟩] 9)).heap.size := by have := HO.out.2.size; simp; omega
        have hnw := World.news_of_block (cs := #[.string ⟨((s.take i).drop f).toArray⟩]) (t := 9) (fr := (0, 0)) (heap_alloc_new wr (.cells #[.string ⟨((s.take i).drop f).toArray⟩] 9))
        obtain ⟨i5, hi5, hz5, hz6, hz7⟩ := info_parts Try.infoStr9
        have m1 : P.length + 1 ≤ maxLen := by unfold maxLen; have := HI.out.len; omega
        have m2 : (P.length + 1) * 16 ≤ 140737488355328 := by have := HI.out.len; omega
        have hex := ext_mid9 s f i
        have q1 : (0 : Int) ≤ (f : Int) := by omega
        have q2 : (f : Int) ≤ (i : Int) := by have := HI.out.le; omega
        have q3 : (i : Int) ≤ (s.length : Int) := by omega
        have HB : Hid (Below w.heap.size w (wr.alloc (.cells #[.string ⟨((s.take i).drop f).toArray⟩] 9))) := HO.out.2.alloc HO.out.2.size _
        obtain ⟨pt, hpt⟩ : ∃ x, (s.take i).drop f = x := ⟨_, rfl⟩
        rw [hpt] at own5 hb5 hnw hex HB
        have HP : Hid ((s.take i).drop f = pt) := hpt
        clear hpt
        go_wp2_with
          (at_builtin
           refine wpList_append_lies _ rfl _ _ _ rfl w.heap.size 9 i5 _ 1 16 Try.underlying35 hi5 hz5 hz6 hz7 rfl (by omega) lv P.length (strV9 P) rfl own5
             ⟨wr.heap.size, 0, none⟩ 1 1 [.string ⟨pt.toArray⟩] rfl rfl hnw (by simp [Value.oneCell']) (by omega) m1 m2 hb5 (wr.heap.size + 1) (by simp) ?_
           intro g9 cap9 w9 hown9 hgrow9 hat9 hlt9
           have H9 : Hid (w9.ownsRow w.heap.size 9 1 (.slice (some ⟨g9, 0, none⟩) (P.length + 1) cap9) (P.length + 1) (strV9 P ++ [.string ⟨pt.toArray⟩]) ∧ Below w.heap.size w w9) := ⟨hown9, HB.out.grown hgrow9 hb5 fun k hk => (own5.lt k hk).1⟩
           clear hown9 hgrow9 hat9 hlt9 own5 hb5 hnw hi5 hz5 hz6 hz7 m1 m2)
        go_roundw
        case rel =>
          refine ⟨_, P ++ [pt], i + 1, i + 1, rfl, by go_num, by go_num, .inr ⟨by rw [HL.out], ?_⟩, ?_, H9.out.2⟩
          · rw [← HP.out]; exact (HI.out.last HL.out).symm
          · have := H9.out.1
            simpa [strV9] using this
        case measure => simp [intOf]; omega
      · have hlt : i < s.length := by omega
        have e1 : ((i : Int) == (s.length : Int)) = false := by simp; omega
        obtain ⟨x, hx⟩ : ∃ x, s.getD i 0 = x := ⟨_, rfl⟩
        have hbx : (⟨s.toArray⟩ : ByteArray)[i]'(by simpa [ByteArray.size] using hlt) = x := by
          rw [← hx]
          simp [ByteArray.getElem_eq_getElem_data, List.getD, hlt]
        have k0 : (0 : Int) ≤ (i : Int) := Int.natCast_nonneg _
        have k1 : (i : Int) < (s.length : Int) := by omega
        by_cases hc : x = c
        · have HX : Hid (s.getD i 0 = c) := hx.trans hc
          subst hc
          clear hx hl
          have own5 := (HO.out.1).alloc (.cells #[.string ⟨((s.take i).drop f).toArray⟩] 9)
          have hb5 : w.heap.size ≤ (wr.alloc (.cells #[.string ⟨((s.take i).drop f).toArray⟩] 9)).heap.size := by have := HO.out.2.size; simp; omega
          have hnw := World.news_of_block (cs := #[.string ⟨((s.take i).drop f).toArray⟩]) (t := 9) (fr := (0, 0)) (heap_alloc_new wr (.cells #[.string ⟨((s.take i).drop f).toArray⟩] 9))
          obtain ⟨i5, hi5, hz5, hz6, hz7⟩ := info_parts Try.infoStr9
          have m1 : P.length + 1 ≤ maxLen := by unfold maxLen; have := HI.out.len; omega
          have m2 : (P.length + 1) * 16 ≤ 140737488355328 := by have := HI.out.len; omega
          have hex := ext_mid9 s f i
          have q1 : (0 : Int) ≤ (f : Int) := by omega
          have q2 : (f : Int) ≤ (i : Int) := by have := HI.out.le; omega
          have q3 : (i : Int) ≤ (s.length : Int) := by omega
          have HB : Hid (Below w.heap.size w (wr.alloc (.cells #[.string ⟨((s.take i).drop f).toArray⟩] 9))) := HO.out.2.alloc HO.out.2.size _
          obtain ⟨pt, hpt⟩ : ∃ x, (s.take i).drop f = x := ⟨_, rfl⟩
          rw [hpt] at own5 hb5 hnw hex HB
          have HP : Hid ((s.take i).drop f = pt) := hpt
          clear hpt
          go_wp2_with
            (at_builtin
             refine wpList_append_lies _ rfl _ _ _ rfl w.heap.size 9 i5 _ 1 16 Try.underlying35 hi5 hz5 hz6 hz7 rfl (by omega) lv P.length (strV9 P) rfl own5
               ⟨wr.heap.size, 0, none⟩ 1 1 [.string ⟨pt.toArray⟩] rfl rfl hnw (by simp [Value.oneCell']) (by omega) m1 m2 hb5 (wr.heap.size + 1) (by simp) ?_
             intro g9 cap9 w9 hown9 hgrow9 hat9 hlt9
             have H9 : Hid (w9.ownsRow w.heap.size 9 1 (.slice (some ⟨g9, 0, none⟩) (P.length + 1) cap9) (P.length + 1) (strV9 P ++ [.string ⟨pt.toArray⟩]) ∧ Below w.heap.size w w9) := ⟨hown9, HB.out.grown hgrow9 hb5 fun k hk => (own5.lt k hk).1⟩
             clear hown9 hgrow9 hat9 hlt9 own5 hb5 hnw hi5 hz5 hz6 hz7 m1 m2)
          go_roundw
          case rel =>
            refine ⟨_, P ++ [pt], i + 1, i + 1, rfl, by go_num, by go_num, .inl ⟨by omega, ?_⟩, ?_, H9.out.2⟩
            · rw [← HP.out]; exact HI.out.cut hlt HX.out
            · have := H9.out.1
              simpa [strV9] using this
          case measure => simp [intOf]; omega
        · have HX : Hid (s.getD i 0 ≠ c) := by rw [hx]; exact hc
          have z1 : ¬ (x.toNat : Int) = (c.toNat : Int) := fun e => hc (UInt8.toNat_inj.1 (by omega))
          have z2 : ((x.toNat : Int) == (c.toNat : Int)) = false := by simpa using z1
          clear hx hl hc
          go_wp2_with fail
          go_roundw
          case rel => exact ⟨_, P, f, i + 1, rfl, rfl, by go_num, .inl ⟨by omega, HI.out.go hlt HX.out⟩, HO.out.1, HO.out.2⟩
          case measure => simp [intOf]; omega
    · have d1 : decide ((i : Int) ≤ (s.length : Int)) = false := decide_eq_false (by omega)
      have HP : Hid (P = splitB c s) := hP
      clear hP
      go_wp2_with fail
      go_ret
      exact ⟨_, rfl, by rw [← HP.out]; exact HO.out.1, HO.out.2⟩
end
end Go.Proofs.Ytoecjlfkpfmadaa
