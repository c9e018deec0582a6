/- The sorting of items: slices.SortFunc's contract laid at this program; cmp.Compare, cmp.Or; the closure that compares items. -/
import Derived.Shelf.SlSortCmp.WholeK
import Derived.Shelf.SlGeneric
import Derived.Ground.SlsfProg
import Derived.Test.YtobegekmgoiopaaTkFl
namespace Go.Proofs.Ytobegekmgoiopaa
open Go.Shelf
def Try.sortIt_ren : Go.Shelf.Ren := ⟨fun | 6 => 73 | 15 => 80 | 14 => 79 | 28 => 90 | 29 => 91 | 20 => 82 | 21 => 83 | 22 => 84 | 23 => 85 | 24 => 86 | 25 => 87 | 26 => 88 | 27 => 89 | 46 => 92 | 47 => 93 | 48 => 94 | 49 => 95 | 50 => 96 | 57 => 97 | n => n, fun | 22 => 122 | 24 => 121 | 25 => 156 | 3 => 3 | 39 => 162 | 0 => 0 | 53 => 130 | 55 => 172 | 4 => 4 | 46 => 165 | 45 => 164 | 50 => 159 | 5 => 5 | 9 => 9 | 66 => 173 | 70 => 177 | 76 => 179 | 77 => 180 | n => n, fun | n => n⟩
theorem Try.sortIt : Go.Proofs.SlLaysF0.n6 Try.prog Try.sortIt_ren := {
  mixed := by kernel_rfl
  f6 := ⟨Try.f73.name, by decide, Try.func73.trans (congrArg some (by kernel_rfl))⟩
  f14 := ⟨Try.f79.name, by decide, Try.func79.trans (congrArg some (by kernel_rfl))⟩
  f15 := Try.func80.trans (congrArg some (by kernel_rfl))
  f20 := ⟨Try.f82.name, by decide, Try.func82.trans (congrArg some (by kernel_rfl))⟩
  f21 := ⟨Try.f83.name, by decide, Try.func83.trans (congrArg some (by kernel_rfl))⟩
  f22 := ⟨Try.f84.name, by decide, Try.func84.trans (congrArg some (by kernel_rfl))⟩
  f23 := ⟨Try.f85.name, by decide, Try.func85.trans (congrArg some (by kernel_rfl))⟩
  f24 := ⟨Try.f86.name, by decide, Try.func86.trans (congrArg some (by kernel_rfl))⟩
  f25 := ⟨Try.f87.name, by decide, Try.func87.trans (congrArg some (by kernel_rfl))⟩
  f26 := ⟨Try.f88.name, by decide, Try.func88.trans (congrArg some (by kernel_rfl))⟩
  f27 := ⟨Try.f89.name, by decide, Try.func89.trans (congrArg some (by kernel_rfl))⟩
  f28 := Try.func90.trans (congrArg some (by kernel_rfl))
  f29 := Try.func91.trans (congrArg some (by kernel_rfl))
  f46 := ⟨Try.f92.name, by decide, Try.func92.trans (congrArg some (by kernel_rfl))⟩
  f47 := Try.func93.trans (congrArg some (by kernel_rfl))
  f48 := Try.func94.trans (congrArg some (by kernel_rfl))
  f49 := ⟨Try.f95.name, by decide, Try.func95.trans (congrArg some (by kernel_rfl))⟩
  f50 := ⟨Try.f96.name, by decide, Try.func96.trans (congrArg some (by kernel_rfl))⟩
  f57 := ⟨Try.f97.name, by decide, Try.func97.trans (congrArg some (by kernel_rfl))⟩
  t0 := Try.underlying0
  a0 := Try.isAgg0
  z0 := Try.sizeOf0
  v0 := Try.zeroValue0
  t3 := Try.underlying3
  a3 := Try.isAgg3
  z3 := Try.sizeOf3
  v3 := Try.zeroValue3
  t4 := Try.underlying4
  a4 := Try.isAgg4
  z4 := Try.sizeOf4
  v4 := Try.zeroValue4
  t5 := Try.underlying5
  a5 := Try.isAgg5
  z5 := Try.sizeOf5
  v5 := Try.zeroValue5
  t9 := Try.underlying9
  a9 := Try.isAgg9
  z9 := Try.sizeOf9
  v9 := Try.zeroValue9
  t22 := Try.underlying122
  a22 := Try.isAgg122
  z22 := Try.sizeOf122
  v22 := Try.zeroValue122
  t25 := Try.underlying156
  a25 := Try.isAgg156
  z25 := Try.sizeOf156
  v25 := Try.zeroValue156
  t39 := Try.underlying162
  a39 := Try.isAgg162
  z39 := Try.sizeOf162
  v39 := Try.zeroValue162
  t45 := Try.underlying164
  a45 := Try.isAgg164
  z45 := Try.sizeOf164
  v45 := Try.zeroValue164
  t46 := Try.underlying165
  a46 := Try.isAgg165
  z46 := Try.sizeOf165
  v46 := Try.zeroValue165
  t50 := Try.underlying159
  a50 := Try.isAgg159
  z50 := Try.sizeOf159
  v50 := Try.zeroValue159
  t53 := Try.underlying130
  a53 := Try.isAgg130
  z53 := Try.sizeOf130
  v53 := Try.zeroValue130
  t55 := Try.underlying172
  a55 := Try.isAgg172
  z55 := Try.sizeOf172
  v55 := Try.zeroValue172
  t66 := Try.underlying173
  a66 := Try.isAgg173
  z66 := Try.sizeOf173
  v66 := Try.zeroValue173
  t70 := Try.underlying177
  a70 := Try.isAgg177
  z70 := Try.sizeOf177
  v70 := Try.zeroValue177
  t76 := Try.underlying179
  a76 := Try.isAgg179
  z76 := Try.sizeOf179
  v76 := Try.zeroValue179
  t77 := Try.underlying180
  a77 := Try.isAgg180
  z77 := Try.sizeOf180
  v77 := Try.zeroValue180 }

open Go.RowKit

def cmpN (a b : Nat) : Int := if a < b then -1 else if b < a then 1 else 0
def cfI (x y : It) : Int := if cmpN x.1 y.1 = 0 then cmpN x.2 y.2 else cmpN x.1 y.1

theorem cfI_lt (x y : It) : ltOf cfI x y = true ↔ ltI x y := by
  unfold ltOf cfI cmpN ltI
  rw [decide_eq_true_eq]
  by_cases h1 : x.1 < y.1
  · simp [h1]
  · by_cases h2 : y.1 < x.1
    · have h3 : x.1 ≠ y.1 := by omega
      simp [h1, h2, h3]
    · have h3 : x.1 = y.1 := by omega
      by_cases h4 : x.2 < y.2
      · simp [h3, h4]
      · by_cases h5 : y.2 < x.2 <;> simp [h3, h4, h5]

set_option maxRecDepth 100000 in
theorem tk_cmp {w : World} (a b : Nat) : Calls Try.prog 76 #[.int .i64 a, .int .i64 b] w fun e w' => e = .returned (.int .i64 (cmpN a b)) ∧ w' = w := by
  have nan : ∀ (x : Nat) (W : World), Calls Try.prog 81 #[.int .i64 x] W fun e w' => e = .returned (.bool false) ∧ w' = W := fun x W => by
    go_enter Try.func81, Try.ntmps81
    go_wp2_with fail
    go_ret
    simp
  unfold cmpN
  by_cases h1 : a < b
  · rw [if_pos h1]
    have d1 : decide (a < b) = true := decide_eq_true h1
    go_enter Try.func76, Try.ntmps76
    go_wp2_with (go_at_call 81; refine (nan _ _).mono ?_; rintro e w' ⟨rfl, rfl⟩)
    go_ret
    exact ⟨rfl, rfl⟩
  · rw [if_neg h1]
    have d1 : decide (a < b) = false := decide_eq_false h1
    by_cases h2 : b < a
    · rw [if_pos h2]
      have d2 : decide (b < a) = true := decide_eq_true h2
      go_enter Try.func76, Try.ntmps76
      go_wp2_with (go_at_call 81; refine (nan _ _).mono ?_; rintro e w' ⟨rfl, rfl⟩)
      go_ret
      exact ⟨rfl, rfl⟩
    · rw [if_neg h2]
      have d2 : decide (b < a) = false := decide_eq_false h2
      go_enter Try.func76, Try.ntmps76
      go_wp2_with (go_at_call 81; refine (nan _ _).mono ?_; rintro e w' ⟨rfl, rfl⟩)
      go_ret
      exact ⟨rfl, rfl⟩

set_option maxRecDepth 100000 in
set_option maxHeartbeats 800000 in
theorem tk_or {w : World} {b : Nat} {x y : Int} (c0 : w.cell? ⟨b, 0, none⟩ = some (.int .i64 x)) (c1 : w.cell? ⟨b, 1, none⟩ = some (.int .i64 y)) :
    Calls Try.prog 75 #[.slice (some ⟨b, 0, none⟩) 2 2] w fun e w' => e = .returned (.int .i64 (if x = 0 then y else x)) ∧ w' = w := by
  obtain ⟨r, hr⟩ : ∃ r, (if x = 0 then y else x) = r := ⟨_, rfl⟩
  have HR : Hid ((x ≠ 0 → r = x) ∧ (x = 0 → r = y)) := ⟨fun h => by rw [← hr, if_neg h], fun h => by rw [← hr, if_pos h]⟩
  rw [hr]
  clear hr
  go_enter Try.func75, Try.ntmps75
  go_wp2_with fail
  go_loopw [8] (fun s wr => ∃ k : Nat, s = .int .i64 k ∧ k ≤ 2 ∧ wr = w ∧ (1 ≤ k → x = 0) ∧ (2 ≤ k → y = 0)) (fun s _ => 2 - (intOf s).toNat)
  case atStart => exact ⟨0, rfl, by omega, rfl, by omega, by omega⟩
  case round =>
    obtain ⟨k, rfl, hk, rfl, h1, h2⟩ := hrel
    have hcs : k = 0 ∨ k = 1 ∨ k = 2 := by omega
    rcases hcs with rfl | rfl | rfl
    · clear h1 h2
      by_cases hx : x = 0
      · have e1 : (x != 0) = false := by simpa using hx
        have HX : Hid (x = 0) := hx
        clear hx
        go_wp2_with fail
        go_roundw
        case rel => exact ⟨1, rfl, by omega, trivial, fun _ => HX.out, by omega⟩
        case measure => simp [intOf]
      · have e1 : (x != 0) = true := by simpa using hx
        have hx' := HR.out.1 hx
        clear hx HR
        subst hx'
        go_wp2_with fail
        go_ret
        exact ⟨rfl, rfl⟩
    · have hx := h1 (by omega)
      have hr := HR.out.2 hx
      have HX : Hid (x = 0) := hx
      clear h1 h2 hx HR
      subst hr
      by_cases hy : r = 0
      · have e1 : (r != 0) = false := by simpa using hy
        have HY : Hid (r = 0) := hy
        clear hy
        go_wp2_with fail
        go_roundw
        case rel => exact ⟨2, rfl, by omega, trivial, fun _ => HX.out, fun _ => HY.out⟩
        case measure => simp [intOf]
      · have e1 : (r != 0) = true := by simpa using hy
        clear hy
        go_wp2_with fail
        go_ret
        exact ⟨rfl, rfl⟩
    · have hx := h1 (by omega)
      have hy := h2 (by omega)
      have hr := HR.out.2 hx
      rw [hy] at hr
      clear h1 h2 HR
      subst hr
      go_wp2_with fail
      go_ret
      exact ⟨rfl, rfl⟩

set_option maxRecDepth 100000 in
set_option maxHeartbeats 3200000 in
/-- The closure that compares items: three blocks are laid. -/
theorem tk_closure (x y : It) (W : World) : Calls Try.prog 74 #[.agg #[.int .i64 x.1, .int .i64 x.2], .agg #[.int .i64 y.1, .int .i64 y.2]] W fun e w' => e = .returned (.int .i64 (cfI x y)) ∧ ∃ q os', w' = Go.Sort.grow (W.drewN q) os' := by
  obtain ⟨a, b⟩ := x
  obtain ⟨c, d⟩ := y
  simp only
  have HC : Hid (cfI (a, b) (c, d) = if cmpN a c = 0 then cmpN b d else cmpN a c) := rfl
  obtain ⟨p, hp⟩ : ∃ p, cmpN a c = p := ⟨_, rfl⟩
  obtain ⟨q, hq⟩ : ∃ q, cmpN b d = q := ⟨_, rfl⟩
  have c1 := fun w => tk_cmp (w := w) a c
  have c2 := fun w => tk_cmp (w := w) b d
  rw [hp, hq] at HC
  simp only [hp] at c1
  simp only [hq] at c2
  have co := fun (w : World) (b : Nat) c0 c1 => tk_or (w := w) (b := b) (x := p) (y := q) c0 c1
  obtain ⟨r, hr⟩ : ∃ r, (if p = 0 then q else p) = r := ⟨_, rfl⟩
  simp only [hr] at co
  rw [hr] at HC
  clear hp hq hr
  obtain ⟨W1, hW1⟩ : ∃ W1, (W.alloc (.cells #[.int .i64 a, .int .i64 b] 121)).alloc (.cells #[.int .i64 c, .int .i64 d] 121) = W1 := ⟨_, rfl⟩
  have b0 : W1.cell? ⟨W.heap.size, 0, none⟩ = some (.int .i64 a) := by rw [← hW1]; simp [go_sem]
  have b1 : W1.cell? ⟨W.heap.size, 1, none⟩ = some (.int .i64 b) := by rw [← hW1]; simp [go_sem]
  have b2 : W1.cell? ⟨W.heap.size + 1, 0, none⟩ = some (.int .i64 c) := by rw [← hW1]; simp [go_sem]
  have b3 : W1.cell? ⟨W.heap.size + 1, 1, none⟩ = some (.int .i64 d) := by rw [← hW1]; simp [go_sem]
  have HW1 : Hid (W1 = Go.Sort.grow W #[.cells #[.int .i64 a, .int .i64 b] 121, .cells #[.int .i64 c, .int .i64 d] 121]) := by
    show W1 = _
    rw [← hW1, Go.Sort.alloc_eq_grow, Go.Sort.alloc_eq_grow, Go.Sort.grow_grow]
    rfl
  have n0 := World.new_ne W1 _ b0
  have n1 := World.new_ne W1 _ b2
  go_enter Try.func74, Try.ntmps74
  go_wp2_with fail
  clear hW1
  go_region_held3 (fun w' => w'.cell? ⟨W.heap.size, 0, none⟩ = some (.int .i64 a) ∧ w'.cell? ⟨W.heap.size, 1, none⟩ = some (.int .i64 b) ∧ w'.cell? ⟨W.heap.size + 1, 0, none⟩ = some (.int .i64 c) ∧ w'.cell? ⟨W.heap.size + 1, 1, none⟩ = some (.int .i64 d)) (go_keep)
    (first
     | (go_at_call_of 76 (Value.int .i64 a); refine (c1 _).mono ?_; rintro e w' ⟨rfl, rfl⟩)
     | (go_at_call_of 76 (Value.int .i64 b); refine (c2 _).mono ?_; rintro e w' ⟨rfl, rfl⟩)
     | (go_at_call 75; refine (co _ _ (by simp [go_sem]) (by simp [go_sem])).mono ?_; rintro e w' ⟨rfl, rfl⟩))
  all_goals
    go_wp2_with fail
    go_ret
    refine ⟨by rw [HC.out]; rfl, 1, #[.cells #[.int .i64 a, .int .i64 b] 121, .cells #[.int .i64 c, .int .i64 d] 121] ++ #[.cells #[.int .i64 p, .int .i64 q] 3], ?_⟩
    rw [HW1.out, Go.Sort.alloc_eq_grow, Go.Sort.grow_grow]
    rfl

/-! ### What becomes of a row of items that is sorted -/

theorem flatK_list (d : Array It) : (Go.Sort.flatK tkI 2 d).toList = d.toList.flatMap tkI := by
  apply List.ext_getElem?
  intro t
  have hl := tkI_len d.toList
  by_cases ht : t < d.size * 2
  · have h1 : t / 2 < d.toList.length := by simp; omega
    have h2 := tkI_get (L := d.toList) (i := t / 2) (k := t % 2) h1 (by omega)
    rw [show t / 2 * 2 + t % 2 = t by omega] at h2
    rw [h2, Array.getElem?_toList]
    have h3 : t < (Go.Sort.flatK tkI 2 d).size := by simpa using ht
    rw [Array.getElem?_eq_getElem h3]
    have h4 := Go.Sort.get_flatK tkI 2 d t ht
    rw [getElem!_pos _ t h3] at h4
    rw [h4]
    have e : d[t / 2]! = d.toList.getD (t / 2) (0, 0) := by
      have h5 : t / 2 < d.size := by omega
      rw [getElem!_pos d (t / 2) h5]
      simp [List.getD, h5]
    rw [e]
    have h6 : t % 2 < (tkI (d.toList.getD (t / 2) (0, 0))).length := by simp [tkI]; omega
    rw [getElem!_pos (tkI (d.toList.getD (t / 2) (0, 0))) (t % 2) h6, List.getElem?_eq_getElem h6]
  · rw [List.getElem?_eq_none (by simp; omega), List.getElem?_eq_none (by rw [hl]; simp; omega)]

theorem row_holds {w : World} {base g cap : Nat} {L : List It} (h : w.ownsRow base 121 2 (.slice (some ⟨g, 0, none⟩) L.length cap) L.length (L.flatMap tkI)) : Go.Sort.HoldsK tkI 2 w g 0 L.toArray := by
  intro j hj
  have hj' : j < L.length * 2 := by simpa using hj
  refine ⟨?_, by rw [Nat.zero_add]; exact h.frozenAt j⟩
  rw [Nat.zero_add, h.cellAt j hj']
  have e : L.flatMap tkI = (Go.Sort.flatK tkI 2 L.toArray).toList := (flatK_list L.toArray).symm
  rw [e, Array.getElem?_toList, Array.getElem?_eq_getElem hj]
  rw [getElem!_pos _ j hj]
  rfl

theorem grown_sortedK {w : World} {g n : Nat} {os : Array Obj} (d : Array It) : w.grownBy (sortWorldK tkI 2 w g 0 n d os) (some g) := by
  unfold sortWorldK Go.Sort.putRowK
  refine ⟨rfl, rfl, rfl, by simp, fun k hk hne => ?_⟩
  rw [Go.Sort.heap_grow_old _ _ (by simpa using hk)]
  have : g ≠ k := fun e => hne (by rw [e])
  simp [Go.Sort.putRow, Go.Sort.mapBlock, Go.Sort.ahead, Array.getElem?_modify, this]

theorem own_sortedK {w : World} {base g cap n : Nat} {L : List It} {os : Array Obj} (h : w.ownsRow base 121 2 (.slice (some ⟨g, 0, none⟩) L.length cap) L.length (L.flatMap tkI)) {d : Array It} (hs : d.size = L.length) :
    (sortWorldK tkI 2 w g 0 n d os).ownsRow base 121 2 (.slice (some ⟨g, 0, none⟩) L.length cap) L.length (d.toList.flatMap tkI) := by
  refine ⟨by rw [tkI_len]; simp [hs], ?_⟩
  rcases h.2 with ⟨e, _⟩ | ⟨g', cap', cur, e, h2, h3, h4, h5, h6, h7⟩
  · cases e
  · injection e with e1 e2 e3
    injection e1 with e1
    injection e1 with e1
    subst e1
    subst e3
    have hg : g < w.heap.size := (Array.getElem?_eq_some_iff.1 h3).1
    refine .inr ⟨g, cap, Go.Sort.putCells id 0 (Go.Sort.flatK tkI 2 d) cur, rfl, h2, ?_, h4, h5, by simp [Go.Sort.putCells, h6], ?_⟩
    · unfold sortWorldK Go.Sort.putRowK
      rw [Go.Sort.heap_grow_old _ _ (by simpa using hg)]
      simp [Go.Sort.putRow, Go.Sort.mapBlock, Go.Sort.ahead, Array.getElem?_modify, h3, Go.Sort.onCells]
    · rw [← flatK_list]
      have hsz : (Go.Sort.flatK tkI 2 d).size = L.length * 2 := by simp [hs]
      apply List.ext_getElem?
      intro j
      by_cases hj : j < L.length * 2
      · have hjc : j < cur.size := by omega
        rw [List.getElem?_take_of_lt hj, Array.getElem?_toList, Array.getElem?_toList]
        unfold Go.Sort.putCells
        rw [Array.getElem?_mapIdx, Array.getElem?_eq_getElem hjc, Array.getElem?_eq_getElem (by omega : j < (Go.Sort.flatK tkI 2 d).size)]
        simp only [Option.map_some, Nat.zero_le, Nat.zero_add, true_and, Nat.sub_zero, id]
        rw [if_pos (by omega), getElem!_pos _ j (by omega)]
      · rw [List.getElem?_take_eq_none (by omega), List.getElem?_eq_none (by simp [hs]; omega)]

theorem tk_swo : Go.Sort.SWO (ltOf cfI) where
  irrefl x := by
    cases h : ltOf cfI x x with
    | false => rfl
    | true => exact absurd ((cfI_lt x x).1 h) (ltI_irrefl x)
  trans x y z h1 h2 := (cfI_lt x z).2 (ltI_trans x y z ((cfI_lt x y).1 h1) ((cfI_lt y z).1 h2))
  ntrans x y z h1 h2 := by
    cases h : ltOf cfI x z with
    | false => rfl
    | true =>
      have h3 := (cfI_lt x z).1 h
      have n1 : ¬ ltI x y := fun e => by rw [(cfI_lt x y).2 e] at h1; cases h1
      have n2 : ¬ ltI y z := fun e => by rw [(cfI_lt y z).2 e] at h2; cases h2
      unfold ltI at h3 n1 n2
      omega

theorem Try.itAgg : ∀ w, (isAgg 121).run Try.prog w = .ok true w := Try.isAgg121
theorem Try.itSize : ∀ w, (Go.sizeOf 121).run Try.prog w = .ok 2 w := Try.sizeOf121

/-- slices.SortFunc of items: what comes is sorted, and of the same items. -/
theorem tk_sort {w : World} {base g cap : Nat} {L : List It} (h : w.ownsRow base 121 2 (.slice (some ⟨g, 0, none⟩) L.length cap) L.length (L.flatMap tkI)) (hl : L.length ≤ 1000000) (hnd : L.Nodup) :
    Calls Try.prog 73 #[.slice (some ⟨g, 0, none⟩) L.length cap, .func (.func 74) #[] #[]] w fun e w' => e = .returned (.tuple #[]) ∧
      ∃ C : List It, C.length = L.length ∧ C.Pairwise ltI ∧ (∀ i, i ∈ C ↔ i ∈ L) ∧ w'.ownsRow base 121 2 (.slice (some ⟨g, 0, none⟩) L.length cap) L.length (C.flatMap tkI) ∧ w.grownBy w' (some g) := by
  have eg : ∀ args w, (callFunc 74 args).run Try.prog w = .ok (.enter 74 args) w := enters_of Try.func74 (by kernel_rfl) rfl
  have hcmp : CmpLays Try.prog 74 #[] tkI 2 cfI g 0 L.toArray.size w := fun _ _ _ _ x y => tk_closure x y _
  have hblk : g < w.heap.size := (h.lt g rfl).2
  have hcon := AnyQ.slices_SortFunc Try.sortIt 2 Try.itAgg Try.itSize tkI (fun _ => rfl) (fun x v hv => by simp [tkI] at hv; rcases hv with rfl | rfl <;> rfl) cfI tk_swo 74 #[] g 0 cap L.toArray w eg hcmp (row_holds h) hblk (by simp; omega)
  have hsz : L.toArray.size = L.length := by simp
  rw [hsz] at hcon
  refine Calls.mono hcon ?_
  rintro e w' ⟨rfl, d', n, os, ⟨hp1, _, hp3⟩, hs, rfl⟩
  have hds : d'.size = L.length := by rw [hp1]; simp
  have hperm : d'.toList.Perm L := by
    have e1 : d'.extract 0 L.length = d' := by rw [← hds]; simp
    have e2 : L.toArray.extract 0 L.length = L.toArray := by simp
    rw [e1, e2] at hp3
    simpa using hp3
  have hnd' : d'.toList.Nodup := hperm.symm.nodup hnd
  refine ⟨rfl, d'.toList, by simp [hds], ?_, fun i => hperm.mem_iff, own_sortedK h hds, grown_sortedK d'⟩
  rw [List.pairwise_iff_getElem]
  intro i j hi hj hij
  have h1 := hs i j (Nat.zero_le _) hij (by simpa [hds] using hj)
  have hi' : i < d'.size := by simpa using hi
  have hj' : j < d'.size := by simpa using hj
  rw [getElem!_pos d' i hi', getElem!_pos d' j hj'] at h1
  have n1 : ¬ ltI d'[j] d'[i] := fun e => by rw [(cfI_lt _ _).2 e] at h1; cases h1
  have n2 : d'[i] ≠ d'[j] := fun e => by
    have := (List.pairwise_iff_getElem.1 hnd') i j hi hj hij
    simp only [Array.getElem_toList] at this
    exact this e
  simp only [Array.getElem_toList]
  unfold ltI at n1 ⊢
  have n3 : ¬ (d'[i].1 = d'[j].1 ∧ d'[i].2 = d'[j].2) := fun e => n2 (Prod.ext e.1 e.2)
  omega

end Go.Proofs.Ytobegekmgoiopaa
