/- The contract of recog's begin. -/
import Derived.Test.YtgkikliaadjmiaaChartPut
import Derived.Deep.LoopGhost
namespace Go.Proofs.Ytgkikliaadjmiaa
open Go.RowKit

theorem len_put (st : ChS) (it : Itm) : (putF st it).I.length ≤ st.I.length + 1 ∧ (putF st it).O.length ≤ st.O.length + 1 := by
  unfold putF
  split <;> simp
theorem len_begin (R : List Ru) (s : Spt) (st : ChS) : ∀ k, (beginF R s k st).I.length ≤ st.I.length + k ∧ (beginF R s k st).O.length ≤ st.O.length + k := by
  intro k
  induction k with
  | zero => exact ⟨Nat.le_refl _, Nat.le_refl _⟩
  | succ k ih =>
    unfold beginF
    split
    · have := len_put (beginF R s k st) ⟨k, 0, s.2, s.2⟩; omega
    · omega

/-- A local block of two numbers. -/
def Loc2 (w : World) (d : Ad) (v : CM) (b : Nat) (x y : Int) (t : TypeId) : Prop := w.heap[b]? = some (.cells #[.int .i64 x, .int .i64 y] t) ∧ ¬ Kc d v b ∧ b < w.heap.size
theorem Loc2.goes {w w' : World} {d : Ad} {v v' : CM} {b : Nat} {x y : Int} {t : TypeId} (h : Loc2 w d v b x y t) (g : Goes d v v' w w') : Loc2 w' d v' b x y t := by
  obtain ⟨h1, h2, h3⟩ := g.far h.2.2 h.2.1
  exact ⟨h1.trans h.1, h2, h3⟩
theorem Loc2.cells {w : World} {d : Ad} {v : CM} {b : Nat} {x y : Int} {t : TypeId} (h : Loc2 w d v b x y t) : w.cell? ⟨b, 0, none⟩ = some (.int .i64 x) ∧ w.cell? ⟨b, 1, none⟩ = some (.int .i64 y) := by
  constructor <;> simp [World.cell?, h.1]
theorem Loc2.mk {w : World} {B nm : Nat} {d : Ad} {v : CM} {st : ChS} (h : ChM w B d v st nm) (x y : Int) (t : TypeId) : Loc2 (w.alloc (.cells #[.int .i64 x, .int .i64 y] t)) d v w.heap.size x y t :=
  ⟨heap_alloc_new _ _, fun hk => by have := (h.kc hk).2; omega, by simp⟩

set_option maxRecDepth 100000 in
set_option maxHeartbeats 3200000 in
theorem begin_any {w : World} {B nm : Nat} {d : Ad} {v : CM} {st : ChS} {R : List Ru} (h : ChM w B d v st nm) (hr : RulesAt w B d.rv R) {n : Int} {p : Nat} (hR : R.length ≤ 40) (hp : p ≤ 1000) (hI : st.I.length + 40 ≤ 1000000) (hO : st.O.length + 40 ≤ 1000000) :
    Calls Try.prog 12 #[.pointer (some ⟨d.ca, 0, none⟩), .agg #[.int .i64 n, .int .i64 p]] w fun r w' => r = .returned (.tuple #[]) ∧ ∃ ov', ChM w' B d { v with ov := ov' } (beginF R (n, p) R.length st) nm ∧ Goes d v { v with ov := ov' } w w' := by
  obtain ⟨ra, rc, hrv⟩ := hr.1
  have h1 := h.alloc (.cells #[.int .i64 n, .int .i64 p] 56)
  have c2 := (h1.cell (i := 2) rfl (by omega)).1
  rw [hrv] at c2
  have HR : Hid (∀ wr v', Goes d v v' (w.alloc (.cells #[.int .i64 n, .int .i64 p] 56)) wr → RulesAt wr B (.slice ra R.length rc) R ∧ Loc2 wr d v' w.heap.size n p 56) := fun wr v' g => by
    refine ⟨?_, (Loc2.mk h n p 56).goes g⟩
    rw [← hrv]
    have hB := h1.goes_below g
    exact hr.below ((h.goes_below (Goes.ofBelow ((Below.refl _ _).alloc (Nat.le_refl _) _))).trans hB)
  have H1 : Hid (ChM (w.alloc (.cells #[.int .i64 n, .int .i64 p] 56)) B d v st nm) := h1
  clear h h1 hr
  go_enter Try.func12, Try.ntmps12
  go_wp2_with fail
  clear c2
  go_loopw [12] (fun s wr => ∃ (k : Nat) (ov' : Value), s = .int .i64 k ∧ k ≤ R.length ∧ ChM wr B d { v with ov := ov' } (beginF R (n, p) k st) nm ∧ Goes d v { v with ov := ov' } (w.alloc (.cells #[.int .i64 n, .int .i64 p] 56)) wr) (fun s _ => R.length - (intOf s).toNat)
  case atStart => exact ⟨0, v.ov, rfl, Nat.zero_le _, H1.out, Goes.refl _ _ _⟩
  case round =>
    obtain ⟨k, ov1, rfl, hk, hC, hG⟩ := hrel
    obtain ⟨v1, hv1⟩ : ∃ v1, ({ v with ov := ov1 } : CM) = v1 := ⟨_, rfl⟩
    rw [hv1] at hC hG
    have HV1 : Hid (({ v with ov := ov1 } : CM) = v1) := hv1
    clear hv1
    have HG : Hid (Goes d v v1 (w.alloc (.cells #[.int .i64 n, .int .i64 p] 56)) wr) := hG
    by_cases hlt : k < R.length
    · obtain ⟨hRw, hL⟩ := HR.out wr v1 hG
      obtain ⟨rb, ro, rc', qa, qc, hv, hb, k1, k2, _, _⟩ := hRw.2 k hlt
      injection hv with hva _ hvc
      subst hva
      subst hvc
      obtain ⟨⟨L, Rt⟩, hre⟩ : ∃ x, R.getD k (0, []) = x := ⟨_, rfl⟩
      rw [hre] at k1 k2
      simp only at k1 k2
      obtain ⟨rl, hrl⟩ : ∃ rl, Rt.length = rl := ⟨_, rfl⟩
      rw [hrl] at k2
      have k2' : wr.cell? ⟨rb, ro + k * 2 + 1, none⟩ = some (.slice qa rl qc) := by rw [Nat.add_assoc]; exact k2
      obtain ⟨l0, l1⟩ := hL.cells
      have m0 : (wr.alloc (.cells #[.int .i64 L, .slice qa rl qc] 31)).cell? ⟨w.heap.size, 0, none⟩ = some (.int .i64 n) := (World.cell?_alloc_past _ _ _ hL.2.2).trans l0
      have m1 : (wr.alloc (.cells #[.int .i64 L, .slice qa rl qc] 31)).cell? ⟨w.heap.size, 1, none⟩ = some (.int .i64 p) := (World.cell?_alloc_past _ _ _ hL.2.2).trans l1
      have i0 : (0 : Int) ≤ (k : Int) := Int.natCast_nonneg _
      have i1 : (k : Int) < (R.length : Int) := by omega
      have hlen := len_begin R (n, p) st k
      by_cases hLn : L = n
      · have put := ch_put_any (hC.alloc (.cells #[.int .i64 L, .slice qa rl qc] 31)) (a := k) (b := 0) (c := p) (e := p) ⟨by simp; omega, by simp, by simpa using hp, by simpa using hp⟩ (by omega) (by omega)
        have HE : Hid (beginF R (n, p) (k + 1) st = putF (beginF R (n, p) k st) ⟨k, 0, p, p⟩) := by
          show beginF R (n, p) (k + 1) st = _
          rw [beginF, hre]
          simp only [hLn, if_true]
        subst hLn
        rw [show ((0 : Nat) : Int) = 0 from rfl] at put
        have HC : Hid (Goes d v1 v1 wr (wr.alloc (.cells #[.int .i64 L, .slice qa rl qc] 31))) := (Goes.refl _ _ _).alloc _
        clear hC hG hRw hL k2 hre hrl hlen
        go_wp2_with (go_at_call 17; refine put.mono ?_; rintro r w1 ⟨rfl, v2, h2, h3⟩)
        go_roundw
        case rel => exact ⟨k + 1, v2, by go_num, by omega, by rw [HE.out]; rw [← HV1.out] at h2; exact h2, by rw [← HV1.out] at h3 HG HC; exact (HG.out.trans HC.out).trans h3⟩
        case measure => simp [intOf]; omega
      · have HE : Hid (beginF R (n, p) (k + 1) st = beginF R (n, p) k st) := by
          show beginF R (n, p) (k + 1) st = _
          rw [beginF, hre]
          simp only [hLn, if_false]
        have HC : Hid (ChM wr B d v1 (beginF R (n, p) k st) nm) := hC
        have hLn' : (L == n) = false := by simpa using hLn
        clear hC hG hRw hL k2 hre hrl hlen
        go_wp2_with fail
        go_roundw
        case rel => exact ⟨k + 1, ov1, by go_num, by omega, by rw [HE.out, HV1.out]; exact HC.out.alloc _, by rw [HV1.out]; exact HG.out.alloc _⟩
        case measure => simp [intOf]; omega
    · obtain rfl : k = R.length := by omega
      have HC : Hid (ChM wr B d v1 (beginF R (n, p) R.length st) nm) := hC
      clear hC hG
      go_wp2_with fail
      go_end0
      rw [← HV1.out] at HC HG
      exact ⟨rfl, ov1, HC.out, (Goes.ofBelow ((Below.refl _ _).alloc (Nat.le_refl _) _)).trans HG.out⟩

end Go.Proofs.Ytgkikliaadjmiaa
