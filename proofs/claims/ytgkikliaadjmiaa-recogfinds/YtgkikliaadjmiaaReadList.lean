/- A list that came in as data lies in memory as ListAt says. -/
import Derived.Test.YtgkikliaadjmiaaRead
namespace Go.Proofs.Ytgkikliaadjmiaa
open Go.ChangeShapes Go.WideShapes Go.ChangeAt Go.RowKit Go.Deep

section
variable {H : Type} {enc : TypeId × Value → H} {W : World} {n : Nat} {v : Value} {x : DataW H × List MemPlace}

/-- The numbers of a list. -/
theorem list_read (h : DataW.trod enc Try.prog W 0 (fun _ => true) true n 25 [v] = some x) : ∃ D : List Int, ListAt W W.heap.size v D := by
  rcases open_slice1 Try.underlying25 Try.cells3 h with ⟨hv, _⟩ | ⟨a, len, cap, m, n', V, D, Pl, hv, _, hl, _, hm, rfl, hx⟩
  · simp only [List.cons.injEq, and_true] at hv
    exact ⟨[], ⟨none, 0, hv⟩, fun p hp => by simp at hp⟩
  · simp only [List.cons.injEq, and_true] at hv
    simp only [if_true] at hm
    have each : ∀ i, i < len → ∃ k : Int, W.cell? (a.add i) = some (.int .i64 k) := fun i hi => by
      obtain ⟨h1, h2⟩ := hx i (by omega)
      obtain ⟨k, hk, _⟩ := DataW.trod_int Try.underlying3 h2
      simp only [List.cons.injEq, and_true] at hk
      exact ⟨k, by rw [h1, hk]⟩
    obtain ⟨f, hf⟩ := choose_lt each
    have hlen : ((List.range len).map f).length = len := by simp
    refine ⟨(List.range len).map f, ⟨some a, cap, by rw [hv, hlen]⟩, fun p hp => ?_⟩
    rw [hlen] at hp
    obtain ⟨b, o, rfl⟩ := plain_of_cell (hf 0 (by omega))
    have h1 := hf p hp
    rw [add_plain] at h1
    exact ⟨b, o, cap, by rw [hv, hlen], World.block_lt_of_cell? W _ h1, by rw [h1]; simp [List.getD, hp]⟩
end

end Go.Proofs.Ytgkikliaadjmiaa
