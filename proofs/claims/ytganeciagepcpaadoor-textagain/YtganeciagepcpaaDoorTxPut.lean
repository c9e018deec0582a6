/- The contracts of package text's put (the closure in Print) and mark. -/
import Derived.Test.YtganeciagepcpaaDoorTxBu
import Derived.Test.YtganeciagepcpaaDoorOwns
import Derived.Test.YtganeciagepcpaaDoorBits
import Derived.Test.YtganeciagepcpaaDoorHeldMix
namespace Go.Proofs.YtganeciagepcpaaDoor
open Go.RowKit

theorem cell_bk {w : World} {b i : Nat} {cs : Array Value} {ty : TypeId} {f : Nat × Nat} {u : Value} (h : w.heap[b]? = some (.cells cs ty f)) (hu : cs[i]? = some u) : w.cell? ⟨b, i, none⟩ = some u := by
  unfold World.cell?
  simp [h, hu]
theorem StillI.con9 {P : Program} {ops : Array Oper} {S : World → Prop} {K : Act → Prop} {i : Nat} {o : Oper} {l : List Nat} {a : Act} {v : Value} (ho : ops.toList[i]? = some o) (hw : Region.wanted o (yielded ops a.tmps) = true) (hy : ∀ w, S w → (execOp a.eval o).run P w = .ok (.value v) w) (h : StillI P ops S K l (a.put o.dst v)) : StillI P ops S K (i :: l) a :=
  StillI.cons (by simpa using ho) hw hy h
/-- Texts, as a row of strings. -/
def strV (S : List (List UInt8)) : List Value := S.map fun l => .string ⟨l.toArray⟩
theorem strV_get {S : List (List UInt8)} {k : Nat} (h : k < S.length) : (strV S).toArray[k]? = some (.string ⟨S[k].toArray⟩) := by simp [strV, h]

section
variable {w : World} {B b sb : Nat} {S : List (List UInt8)} {acc : List UInt8}

set_option maxRecDepth 100000 in
set_option maxHeartbeats 3200000 in
theorem put_all (hI : Lib.IsBuilderF 39 5 B b (Lib.byteCells acc) w) (hsb : w.heap[sb]? = some (.cells (strV S).toArray 9 (0, 0))) (hne : sb ≠ b) (hBw : B ≤ w.heap.size) (hlen : acc.length + S.flatten.length ≤ 1000000) (hSl : S.length ≤ 1000) :
    Calls Tryd.prog 8 #[.slice (some ⟨sb, 0, none⟩) S.length S.length, .pointer (some ⟨b, 0, none⟩)] w fun e w' => e = .returned (.tuple #[]) ∧ Lib.IsBuilderF 39 5 B b (Lib.byteCells (acc ++ S.flatten)) w' ∧ Below B w w' ∧ Lib.OthersKept 5 (some b) w w' := by
  have HI : Hid (Lib.IsBuilderF 39 5 B b (Lib.byteCells acc) w) := hI
  have HSb : Hid (∀ wq, Lib.OthersKept 5 (some b) w wq → wq.heap[sb]? = some (.cells (strV S).toArray 9 (0, 0))) := fun wq hq => hq sb _ hsb (fun e => hne (Option.some.inj e)) (fun _ _ e => by cases e)
  have HL : Hid (acc.length + S.flatten.length ≤ 1000000 ∧ B ≤ w.heap.size) := ⟨hlen, hBw⟩
  clear hI hsb hne hBw hlen
  go_enter Tryd.func8, Tryd.ntmps8
  go_wp2_with fail
  go_loopw [7] (fun s7 wr => ∃ k : Nat, s7 = .int .i64 k ∧ k ≤ S.length ∧ Lib.IsBuilderF 39 5 B b (Lib.byteCells (acc ++ (S.take k).flatten)) wr ∧ Below B w wr ∧ Lib.OthersKept 5 (some b) w wr) (fun s _ => S.length - (intOf s).toNat)
  case atStart => exact ⟨0, rfl, Nat.zero_le _, by rw [List.take_zero, List.flatten_nil, List.append_nil]; exact HI.out, Below.refl _ _, Lib.OthersKept.refl _ _ _⟩
  case round =>
    obtain ⟨k, rfl, hk, hI, hB, hO⟩ := hrel
    have HR : Hid (Lib.IsBuilderF 39 5 B b (Lib.byteCells (acc ++ (S.take k).flatten)) wr ∧ Below B w wr ∧ Lib.OthersKept 5 (some b) w wr) := ⟨hI, hB, hO⟩
    have hcell := HSb.out wr hO
    clear hI hB hO
    by_cases hlt : k < S.length
    · have c1 : wr.cell? ⟨sb, k, none⟩ = some (.string ⟨S[k].toArray⟩) := cell_bk hcell (strV_get hlt)
      have hsum : (S.take (k + 1)).flatten = (S.take k).flatten ++ S[k] := by rw [List.take_succ_eq_append_getElem hlt, List.flatten_append]; simp
      have hle : (S.take (k + 1)).flatten.length ≤ S.flatten.length := by
        have e : S.flatten = (S.take (k + 1)).flatten ++ (S.drop (k + 1)).flatten := by rw [← List.flatten_append, List.take_append_drop]
        rw [e, List.length_append]
        omega
      obtain ⟨x, hx⟩ : ∃ x, S[k] = x := ⟨_, rfl⟩
      rw [hx] at c1 hsum
      have hsz : (⟨x.toArray⟩ : ByteArray).size = x.length := by simp [ByteArray.size]
      have wrt := bu_write B b _ ⟨x.toArray⟩ wr HR.out.1 (by rw [Lib.byteCells_length, hsz, List.length_append]; rw [hsum, List.length_append] at hle; have := HL.out.1; omega) (Nat.le_trans HL.out.2 HR.out.2.1.size)
      have HS : Hid ((S.take (k + 1)).flatten = (S.take k).flatten ++ x) := hsum
      obtain ⟨xs, hxs⟩ : ∃ z, (⟨x.toArray⟩ : ByteArray) = z := ⟨_, rfl⟩
      have HX : Hid (Lib.strCells xs = Lib.byteCells x) := by
        show Lib.strCells xs = _
        rw [← hxs, Lib.strCells_eq]
      rw [hxs] at c1 wrt
      have i0 : (0 : Int) ≤ (k : Int) := Int.natCast_nonneg _
      have i1 : (k : Int) < (S.length : Int) := by omega
      clear hcell hsum hle hx hsz hxs
      go_wp2_with
        (go_at_call 9; refine wrt.mono ?_; rintro e w2 ⟨rfl, h1, h2, h3⟩
         have HW : Hid (Lib.BuilderAtF 39 5 B b (.pointer (some ⟨b, 0, none⟩)) (Lib.byteCells (acc ++ (S.take k).flatten) ++ Lib.strCells xs) w2 ∧ Below B wr w2 ∧ Lib.OthersKept 5 (some b) wr w2) := ⟨h1, h2, h3⟩
         clear wrt h1 h2 h3)
      go_roundw
      case rel =>
        refine ⟨k + 1, by go_num, by omega, ?_, HR.out.2.1.trans HW.out.2.1, HR.out.2.2.trans HW.out.2.2⟩
        have h1 := HW.out.1
        rw [HX.out, ← Lib.byteCells_append] at h1
        rw [HS.out, ← List.append_assoc]
        exact .inr h1
      case measure => simp [intOf]; omega
    · have hkk : k = S.length := by omega
      clear hcell
      go_wp2_with fail
      go_end0
      refine ⟨rfl, ?_, HR.out.2⟩
      have h1 := HR.out.1
      rw [hkk, List.take_length] at h1
      exact h1
end

set_option maxRecDepth 100000 in
theorem mark_any {w : World} {t : Bool} {v : Int} : Calls Tryd.prog 11 #[.agg #[.bool t, .int .i64 v]] w fun e w' => e = .returned (.string ⟨[if t then 116 else 110].toArray⟩) ∧ Below w.heap.size w w' := by
  have HB : Hid (Below w.heap.size w (w.alloc (.cells #[.bool t, .int .i64 v] 51))) := (Below.refl _ _).alloc (Nat.le_refl _) _
  cases t with
  | true =>
    go_enter Tryd.func11, Tryd.ntmps11
    go_wp2_with fail
    go_ret
    exact ⟨rfl, HB.out⟩
  | false =>
    go_enter Tryd.func11, Tryd.ntmps11
    go_wp2_with fail
    go_ret
    exact ⟨rfl, HB.out⟩

end Go.Proofs.YtganeciagepcpaaDoor
