/- The contract of next, over a reader that lies in memory as Inv says. -/
import Derived.Test.YtkmdbhajoabggaaW1
import Derived.Test.YtkmdbhajoabggaaMem
namespace Go.Proofs.Ytkmdbhajoabggaa
open Go.RowKit

theorem getD_of_some {α : Type} {l : List α} {i : Nat} {x d : α} (h : l[i]? = some x) : l.getD i d = x := by simp [List.getD, h]

theorem next_inv {W : World} {B rb : Nat} {tv nv rv dv : Value} {w : World} {st : St} {yv sv : Value} {R : List Ru} {D : List Int} (n : Int)
    (h : Inv W B rb tv nv rv dv w st yv sv) (hr : RulesAt W B rv R) (hd : ListAt W B dv D) (hD : D.length ≤ 400) :
    Calls Try.prog 10 #[.pointer (some ⟨rb, 0, none⟩), .int .i64 n] w fun e w' =>
      (∃ q, nextF R D n st.pos = some q ∧ e = .returned (.int .i64 q) ∧ Inv W B rb tv nv rv dv w' { st with pos := st.pos + 1 } yv sv) ∨
      (nextF R D n st.pos = none ∧ e = .panicked gaveUp ∧ Weak W B rb w') := by
  have hr' := hr.below h.below
  have hd' := hd.below h.below
  by_cases hp : st.pos < D.length
  · obtain ⟨b, o, dc, rfl, hb, hc⟩ := hd'.2 _ hp
    obtain ⟨x, hx⟩ : ∃ x, D[st.pos]? = some x := ⟨D[st.pos], by simp [hp]⟩
    rw [getD_of_some hx] at hc
    by_cases hq : 0 ≤ x ∧ x < R.length
    · obtain ⟨q, rfl⟩ : ∃ q : Nat, x = q := ⟨x.toNat, by omega⟩
      have hq' : q < R.length := by omega
      obtain ⟨b2, o2, rc, qa, qc, rfl, hb2, k1, _, _⟩ := hr'.2 q hq'
      by_cases hn : (R.getD q (0, [])).1 = n
      · rw [hn] at k1
        refine (next_ok rb b o dc R.length rc b2 o2 st.pos q D.length n w h.c2 h.c3 h.c4 (h.fr 4) hp (by unfold maxLen; omega) hc hq' k1).mono ?_
        rintro e w' ⟨rfl, m, rfl⟩
        refine .inl ⟨q, by simp only [nextF, hx]; rw [if_pos hq]; simp only [Int.toNat_natCast]; rw [if_pos hn], rfl, ?_⟩
        have := (h.drewN m).setPos (st.pos + 1)
        simpa using this
      · refine (next_other rb b o dc R.length rc b2 o2 st.pos q D.length _ n w h.c2 h.c3 h.c4 hp hc hq' k1 hn).mono ?_
        rintro e w' ⟨rfl, m, rfl⟩
        exact .inr ⟨by simp only [nextF, hx]; rw [if_pos hq]; simp only [Int.toNat_natCast]; rw [if_neg hn], rfl, h.weak.drewN m⟩
    · obtain ⟨ra, rc, rfl⟩ := hr'.1
      refine (next_out rb b o dc R.length rc st.pos ra x D.length n w h.c2 h.c3 h.c4 hp hc hq).mono ?_
      rintro e w' ⟨rfl, m, rfl⟩
      exact .inr ⟨by simp only [nextF, hx]; rw [if_neg hq], rfl, h.weak.drewN m⟩
  · obtain ⟨da, dc, rfl⟩ := hd'.1
    refine (next_end rb D.length dc st.pos da n w h.c3 h.c4 (by omega)).mono ?_
    rintro e w' ⟨rfl, m, rfl⟩
    exact .inr ⟨by simp [nextF, List.getElem?_eq_none (show D.length ≤ st.pos by omega)], rfl, h.weak.drewN m⟩

theorem next_some {W : World} {B rb : Nat} {tv nv rv dv : Value} {w : World} {st : St} {yv sv : Value} {R : List Ru} {D : List Int} {n : Int} {q : Nat}
    (h : Inv W B rb tv nv rv dv w st yv sv) (hr : RulesAt W B rv R) (hd : ListAt W B dv D) (hD : D.length ≤ 400) (hq : nextF R D n st.pos = some q) :
    Calls Try.prog 10 #[.pointer (some ⟨rb, 0, none⟩), .int .i64 n] w fun e w' => e = .returned (.int .i64 q) ∧ Inv W B rb tv nv rv dv w' { st with pos := st.pos + 1 } yv sv := by
  refine (next_inv n h hr hd hD).mono ?_
  rintro e w' (⟨q', hq', rfl, hI⟩ | ⟨hq', _⟩)
  · rw [hq] at hq'
    cases hq'
    exact ⟨rfl, hI⟩
  · rw [hq] at hq'
    cases hq'

theorem next_none {W : World} {B rb : Nat} {tv nv rv dv : Value} {w : World} {st : St} {yv sv : Value} {R : List Ru} {D : List Int} {n : Int}
    (h : Inv W B rb tv nv rv dv w st yv sv) (hr : RulesAt W B rv R) (hd : ListAt W B dv D) (hD : D.length ≤ 400) (hq : nextF R D n st.pos = none) :
    Calls Try.prog 10 #[.pointer (some ⟨rb, 0, none⟩), .int .i64 n] w fun e w' => e = .panicked gaveUp ∧ Weak W B rb w' := by
  refine (next_inv n h hr hd hD).mono ?_
  rintro e w' (⟨q', hq', _⟩ | ⟨_, rfl, hW⟩)
  · rw [hq] at hq'
    cases hq'
  · exact ⟨rfl, hW⟩

end Go.Proofs.Ytkmdbhajoabggaa
