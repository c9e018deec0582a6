/- How what is known of parts lies in memory while pollardingref5.Has makes it. No walk. -/
import Derived.Test.YthmdlaappenjgaaYields5
namespace Go.Proofs.Ythmdlaappenjgaa
open Go.RowKit

inductive Kx where
  | top
  | head (i : Nat)
  | row (i j : Nat)
  deriving DecidableEq

def hv (kg n i : Nat) : Value := .slice (some ⟨kg + 1 + i * (n + 2), 0, none⟩) (n + 1) (n + 1)
def rvK (kg n N i j : Nat) : Value := .slice (some ⟨kg + 1 + i * (n + 2) + 1 + j, 0, none⟩) N N
def topL (kg n I : Nat) : List Value := (List.range (n + 1)).map fun i => if i < I then hv kg n i else .slice none 0 0
def headL' (kg n N I J i : Nat) : List Value := (List.range (n + 1)).map fun j => if i + 1 < I ∨ j < J then rvK kg n N i j else .slice none 0 0

/-- I heads are made, and J rows of the last one. -/
def Pk (kg n N I J : Nat) : Kx → Option Row
  | .top => some ⟨.slice (some ⟨kg, 0, none⟩) (n + 1) (n + 1), 36, 1, n + 1, topL kg n I⟩
  | .head i => if i < I then some ⟨hv kg n i, 37, 1, n + 1, headL' kg n N I J i⟩ else none
  | .row i j => if i < I ∧ j ≤ n ∧ (i + 1 < I ∨ j < J) then some ⟨rvK kg n N i j, 4, 1, N, (List.replicate N false).map Value.bool⟩ else none

theorem Try.infoMat : (Try.prog.info? 36).map (fun i => (i.zero, i.size, i.bytes)) = some (some (.slice none 0 0), 1, 24) := by kernel_rfl
theorem Try.infoBoolsK : (Try.prog.info? 37).map (fun i => (i.zero, i.size, i.bytes)) = some (some (.slice none 0 0), 1, 24) := by kernel_rfl
theorem make_tops (n : Nat) (hn : n ≤ 1000000) (u : World) : (Instr.makeSlice 35 (.int .i64 n) (.int .i64 n)).run Try.prog u = .ok (.slice (some ⟨u.heap.size, 0, none⟩) n n) (u.alloc (.cells (madeCells #[.slice none 0 0] n) 36)) := by
  obtain ⟨i0, hi, hz0, hz1, hz2⟩ := info_parts Try.infoMat
  have h := run_make (P := Try.prog) u 35 36 i0 (.slice none 0 0) Try.underlying35 hi hz0 .i64 .i64 n n (by omega) (Int.le_refl _) (by rw [hz2]; omega) (by omega)
  simpa [hz1, Value.cells] using h
theorem make_heads (n : Nat) (hn : n ≤ 1000000) (u : World) : (Instr.makeSlice 36 (.int .i64 n) (.int .i64 n)).run Try.prog u = .ok (.slice (some ⟨u.heap.size, 0, none⟩) n n) (u.alloc (.cells (madeCells #[.slice none 0 0] n) 37)) := by
  obtain ⟨i0, hi, hz0, hz1, hz2⟩ := info_parts Try.infoBoolsK
  have h := run_make (P := Try.prog) u 36 37 i0 (.slice none 0 0) Try.underlying36 hi hz0 .i64 .i64 n n (by omega) (Int.le_refl _) (by rw [hz2]; omega) (by omega)
  simpa [hz1, Value.cells] using h

section
variable {w : World} {kg n N I J : Nat}

theorem pk_start (w : World) (n N : Nat) (hn : n + 1 ≤ maxLen) : Owns (w.alloc (.cells (madeCells #[.slice none 0 0] (n + 1)) 36)) w.heap.size (Pk w.heap.size n N 0 (n + 1)) := by
  refine ⟨fun i r hr => ?_, fun i j a b hij ha hb => ?_⟩
  · cases i with
    | top =>
      simp only [Pk, Option.some.injEq] at hr
      subst hr
      have := World.ownsRow_lit (base := w.heap.size) (e := 36) (size := 1) w (madeCells #[.slice none 0 0] (n + 1)) (n + 1) (Nat.le_refl _) hn (by simp [size_madeCells])
      rw [toList_madeCells_one] at this
      have e : topL w.heap.size n 0 = List.replicate (n + 1) (.slice none 0 0) := by
        unfold topL
        refine List.ext_getElem (by simp) fun i h1 h2 => ?_
        simp
      show World.ownsRow _ _ _ _ _ _ (topL w.heap.size n 0)
      rw [e]
      exact this
    | head i => simp [Pk] at hr
    | row i j => simp [Pk] at hr
  · cases i <;> simp [Pk] at ha
    cases j <;> simp [Pk] at hb
    exact absurd rfl hij

/-- A new head. -/
theorem pk_head (h : Owns w kg (Pk kg n N I (n + 1))) (hs : w.heap.size = kg + 1 + I * (n + 2)) (hI : I ≤ n) (hn : n + 1 ≤ maxLen) :
    Owns ((w.alloc (.cells (madeCells #[.slice none 0 0] (n + 1)) 37)).setCell ⟨kg, I, none⟩ (.slice (some ⟨w.heap.size, 0, none⟩) (n + 1) (n + 1))) kg (Pk kg n N (I + 1) 0) := by
  have hown := World.ownsRow_lit (base := kg) (e := 37) (size := 1) w (madeCells #[.slice none 0 0] (n + 1)) (n + 1) (by omega) hn (by simp [size_madeCells])
  rw [toList_madeCells_one] at hown
  have h1 := h.new (.head I) (r := ⟨.slice (some ⟨w.heap.size, 0, none⟩) (n + 1) (n + 1), 37, 1, n + 1, List.replicate (n + 1) (.slice none 0 0)⟩) (World.grownBy_alloc w _ none) hown (fun g hg => by simpa [Value.ownBlock] using hg.symm)
  have h2 := h1.store (i := .top) (g := kg) (n := n + 1) (cap := n + 1) (e := 36) (size := 1) (xs := topL kg n I) (by rw [upd_other _ (by simp)]; rfl) I (.slice (some ⟨w.heap.size, 0, none⟩) (n + 1) (n + 1))
  have e : upd (upd (Pk kg n N I (n + 1)) (.head I) ⟨.slice (some ⟨w.heap.size, 0, none⟩) (n + 1) (n + 1), 37, 1, n + 1, List.replicate (n + 1) (.slice none 0 0)⟩) .top ⟨.slice (some ⟨kg, 0, none⟩) (n + 1) (n + 1), 36, 1, n + 1, (topL kg n I).set I (.slice (some ⟨w.heap.size, 0, none⟩) (n + 1) (n + 1))⟩ = Pk kg n N (I + 1) 0 := by
    funext x
    cases x with
    | top =>
      rw [upd_same]
      simp only [Pk]
      congr 2
      unfold topL
      refine List.ext_getElem (by simp) fun i h1 h2 => ?_
      simp only [List.length_set, List.length_map, List.length_range] at h1
      by_cases hi : i = I
      · subst hi
        simp [hv, hs]
      · rw [List.getElem_set_ne (fun e => hi e.symm)]
        simp only [List.getElem_map, List.getElem_range]
        by_cases hlt : i < I
        · rw [if_pos hlt, if_pos (by omega)]
        · rw [if_neg hlt, if_neg (by omega)]
    | head i =>
      rw [upd_other _ (by simp)]
      by_cases hi : i = I
      · subst hi
        rw [upd_same]
        simp only [Pk, if_pos (Nat.lt_succ_self i), hv, hs]
        congr 2
        unfold headL'
        refine (List.ext_getElem (by simp) fun j h1 h2 => ?_).symm
        simp
      · rw [upd_other _ (fun e => hi (by cases e; rfl))]
        simp only [Pk]
        by_cases hlt : i < I
        · rw [if_pos hlt, if_pos (by omega)]
          congr 2
          unfold headL'
          refine List.map_congr_left fun j hj => ?_
          have hj' : j < n + 1 := List.mem_range.1 hj
          rw [if_pos (.inr hj'), if_pos (.inl (by omega))]
        · rw [if_neg hlt, if_neg (by omega)]
    | row i j =>
      rw [upd_other _ (by simp), upd_other _ (by simp)]
      simp only [Pk]
      by_cases hlt : i < I ∧ j ≤ n
      · rw [if_pos ⟨hlt.1, hlt.2, .inr (by omega)⟩, if_pos ⟨by omega, hlt.2, .inl (by omega)⟩]
      · rw [if_neg (fun e => hlt ⟨e.1, e.2.1⟩), if_neg (fun e => by
          rcases e.2.2 with e2 | e2
          · exact hlt ⟨by omega, e.2.1⟩
          · omega)]
  rw [e] at h2
  exact h2

/-- A new row. -/
theorem pk_row (h : Owns w kg (Pk kg n N (I + 1) J)) (hs : w.heap.size = kg + 1 + I * (n + 2) + 1 + J) (hJ : J ≤ n) (hN : N ≤ maxLen) :
    Owns ((w.alloc (.cells (madeCells #[.bool false] N) 4)).setCell ⟨kg + 1 + I * (n + 2), J, none⟩ (.slice (some ⟨w.heap.size, 0, none⟩) N N)).drew kg (Pk kg n N (I + 1) (J + 1)) := by
  have hown := World.ownsRow_lit (base := kg) (e := 4) (size := 1) w (madeCells #[.bool false] N) N (by omega) hN (by simp [size_madeCells])
  rw [toList_madeCells_one] at hown
  have h1 := h.new (.row I J) (r := ⟨.slice (some ⟨w.heap.size, 0, none⟩) N N, 4, 1, N, (List.replicate N false).map Value.bool⟩) (World.grownBy_alloc w _ none) (by simpa using hown) (fun g hg => by simpa [Value.ownBlock] using hg.symm)
  have h2 := h1.store (i := .head I) (g := kg + 1 + I * (n + 2)) (n := n + 1) (cap := n + 1) (e := 37) (size := 1) (xs := headL' kg n N (I + 1) J I) (by rw [upd_other _ (by simp)]; simp [Pk, hv]) J (.slice (some ⟨w.heap.size, 0, none⟩) N N)
  have e : upd (upd (Pk kg n N (I + 1) J) (.row I J) ⟨.slice (some ⟨w.heap.size, 0, none⟩) N N, 4, 1, N, (List.replicate N false).map Value.bool⟩) (.head I) ⟨.slice (some ⟨kg + 1 + I * (n + 2), 0, none⟩) (n + 1) (n + 1), 37, 1, n + 1, (headL' kg n N (I + 1) J I).set J (.slice (some ⟨w.heap.size, 0, none⟩) N N)⟩ = Pk kg n N (I + 1) (J + 1) := by
    funext x
    cases x with
    | top => rw [upd_other _ (by simp), upd_other _ (by simp)]; rfl
    | head i =>
      by_cases hi : i = I
      · subst hi
        rw [upd_same]
        simp only [Pk, if_pos (Nat.lt_succ_self i), hv]
        congr 2
        unfold headL'
        refine List.ext_getElem (by simp) fun j h1 h2 => ?_
        simp only [List.length_set, List.length_map, List.length_range] at h1
        by_cases hj : j = J
        · subst hj
          simp [rvK, hs]
        · rw [List.getElem_set_ne (fun e => hj e.symm)]
          simp only [List.getElem_map, List.getElem_range]
          by_cases hlt : j < J
          · rw [if_pos (.inr hlt), if_pos (.inr (by omega))]
          · rw [if_neg (by omega), if_neg (by omega)]
      · rw [upd_other _ (fun e => hi (by cases e; rfl)), upd_other _ (by simp)]
        simp only [Pk]
        by_cases hlt : i < I + 1
        · rw [if_pos hlt, if_pos hlt]
          congr 2
          unfold headL'
          refine List.map_congr_left fun j hj => ?_
          rw [if_pos (.inl (by omega)), if_pos (.inl (by omega))]
        · rw [if_neg hlt, if_neg hlt]
    | row i j =>
      rw [upd_other _ (by simp)]
      by_cases hij : i = I ∧ j = J
      · obtain ⟨rfl, rfl⟩ := hij
        rw [upd_same]
        simp only [Pk]
        rw [if_pos ⟨by omega, hJ, .inr (by omega)⟩]
        simp [rvK, hs]
      · rw [upd_other _ (fun e => hij (by cases e; exact ⟨rfl, rfl⟩))]
        simp only [Pk]
        by_cases hc : i < I + 1 ∧ j ≤ n ∧ (i + 1 < I + 1 ∨ j < J)
        · rw [if_pos hc, if_pos ⟨hc.1, hc.2.1, by rcases hc.2.2 with h | h; exact .inl h; exact .inr (by omega)⟩]
        · rw [if_neg hc, if_neg (fun e => hc ⟨e.1, e.2.1, by
            rcases e.2.2 with h | h
            · exact .inl h
            · by_cases hiI : i = I
              · exact .inr (by have : j ≠ J := fun e2 => hij ⟨hiI, e2⟩; omega)
              · exact .inl (by have := e.1; omega)⟩)]
  rw [e] at h2
  exact h2.drew
end

end Go.Proofs.Ythmdlaappenjgaa
