/- A map that a call has made, as a function of its keys: read, written, an entry of it taken and stored. No program. -/
import Derived.Test.YtgkikliaadjmiaaBits
import Derived.Maps.Keyed
import Derived.WideKeyEntry
import Derived.DeepKeys4
namespace Go.Proofs.Ytgkikliaadjmiaa
open Go.RowKit Go.MapKept
open Go.ChangeMaps (setBlock heap_setBlock_same heap_setBlock_other modify_eq_set)
open Go.WideMaps (KeyLaw)
open Go.WideElems (Fit rd rd_mk other_key entry_then_store)

section
variable {κ : Type} {P : Program} {k : TypeId} {enc : κ → Value}

/-- What a map's entries say. -/
structure MapIs (P : Program) (k : TypeId) (enc : κ → Value) (es : Array MapEntry) (clock n : Nat) (M : κ → Option Value) : Prop where
  stamped : Stamped es clock
  size : es.size ≤ n
  keys : ∀ x ∈ es.toList, ∃ l, keyOf P k x.key = some l
  here : ∀ x ∈ es.toList, ∃ s, x.key = enc s ∧ M s = some x.val
  all : ∀ s v, M s = some v → ∃ x ∈ es.toList, x.key = enc s

/-- Block b is a map of at most n entries, that says M. -/
def MapAt (P : Program) (k : TypeId) (enc : κ → Value) (w : World) (b n : Nat) (M : κ → Option Value) : Prop :=
  ∃ es clock, w.heap[b]? = some (.map es clock) ∧ MapIs P k enc es clock n M

def setM [DecidableEq κ] (M : κ → Option Value) (s : κ) (v : Value) : κ → Option Value := fun t => if t = s then some v else M t

theorem MapIs.fit {es : Array MapEntry} {clock n : Nat} {M : κ → Option Value} (h : MapIs P k enc es clock n M) (hn : n ≤ maxLen) : Fit (H := Unit) P k (fun _ => some (.nil, [])) es clock :=
  ⟨Nat.le_trans h.size hn, h.stamped, fun x hx => by obtain ⟨l, hl⟩ := h.keys x hx; exact ⟨_, rd_mk (born := x.born) hl rfl⟩⟩

theorem MapAt.lt {w : World} {b n : Nat} {M : κ → Option Value} (h : MapAt P k enc w b n M) : b < w.heap.size := by
  obtain ⟨es, clock, hb, _⟩ := h
  exact (Array.getElem?_eq_some_iff.1 hb).1

theorem MapAt.kept {w w' : World} {b n : Nat} {M : κ → Option Value} (h : MapAt P k enc w b n M) (hb : w'.heap[b]? = w.heap[b]?) : MapAt P k enc w' b n M := by
  obtain ⟨es, clock, h1, h2⟩ := h
  exact ⟨es, clock, hb.trans h1, h2⟩

theorem MapAt.alloc {w : World} {b n : Nat} {M : κ → Option Value} (h : MapAt P k enc w b n M) (o : Obj) : MapAt P k enc (w.alloc o) b n M :=
  h.kept ((World.grownBy_alloc w o none).block b h.lt (by simp))

theorem MapAt.mono {w : World} {b n n' : Nat} {M : κ → Option Value} (h : MapAt P k enc w b n M) (hn : n ≤ n') : MapAt P k enc w b n' M := by
  obtain ⟨es, clock, h1, h2⟩ := h
  exact ⟨es, clock, h1, ⟨h2.stamped, Nat.le_trans h2.size hn, h2.keys, h2.here, h2.all⟩⟩

theorem MapAt.congr {w : World} {b n : Nat} {M M' : κ → Option Value} (h : MapAt P k enc w b n M) (e : M = M') : MapAt P k enc w b n M' := e ▸ h

theorem MapAt.setCell {w : World} {b n : Nat} {M : κ → Option Value} (h : MapAt P k enc w b n M) {a : Addr} (ha : a.block ≠ b) (u : Value) : MapAt P k enc (w.setCell a u) b n M :=
  h.kept (Below.heap_setCell _ _ _ _ (fun e => ha e.symm))

theorem mapAt_made (w : World) (P : Program) (k : TypeId) (enc : κ → Value) : MapAt P k enc (w.alloc (.map #[] 0)) w.heap.size 0 (fun _ => none) :=
  ⟨#[], 0, (MapKept.heap_alloc w _).1, stamped_empty 0, by simp, by simp, by simp, fun _ _ h => by cases h⟩

theorem mapAt_look {w : World} {b n : Nat} {M : κ → Option Value} (h : MapAt P k enc w b n M) (c : Bool) (hn : n ≤ maxLen) (K : KeyLaw P k) {t e : TypeId} (ht : P.underlying t = some (.map k e)) {z : Value} (hz : (zeroValue e).run P w = .ok z w)
    (inj : ∀ s s', enc s = enc s' → s = s') {s : κ} {kl : Lit} (hkey : keyOf P k (enc s) = some kl) :
    (Instr.lookup t (.map (some b)) (enc s) c).run P w = .ok (if c then .tuple #[(M s).getD z, .bool (M s).isSome] else (M s).getD z) w := by
  obtain ⟨es, clock, hb, hM⟩ := h
  rcases Maps.fit_look c (Maps.Keyed.of_law K) ht hz hb (hM.fit hn) hkey with ⟨hrun, hno, _⟩ | ⟨e0, y, hmem, hk0, hrun, _⟩
  · have : M s = none := by
      cases hs : M s with
      | none => rfl
      | some v =>
        obtain ⟨x, hx, hxk⟩ := hM.all s v hs
        exact absurd hxk (hno x hx)
    rw [hrun, this]
    rfl
  · obtain ⟨s', h1, h2⟩ := hM.here e0 hmem
    have : s = s' := inj _ _ (hk0.symm.trans h1)
    subst this
    rw [hrun, h2]
    rfl

variable [DecidableEq κ]

theorem mapIs_update {w : World} {b n : Nat} {M : κ → Option Value} {es : Array MapEntry} {clock : Nat} (hb : w.heap[b]? = some (.map es clock)) (hM : MapIs P k enc es clock n M) (K : KeyLaw P k) {t e : TypeId} (ht : P.underlying t = some (.map k e))
    (inj : ∀ s s', enc s = enc s' → s = s') {s : κ} {kl : Lit} (hkey : keyOf P k (enc s) = some kl) (val : Value) :
    ∃ es' clock', (Instr.mapUpdate t (.map (some b)) (enc s) val).run P w = .ok () (setBlock w b (.map es' clock')) ∧ MapIs P k enc es' clock' (n + 1) (setM M s val) := by
  rcases K.find w hkey es.toList hM.keys with ⟨h1, h2⟩ | ⟨j, e0, h1, h2, h3⟩
  · refine ⟨es.push ⟨enc s, val, clock⟩, clock + 1, ?_, stamped_push hM.stamped h2, ?_, ?_, ?_, ?_⟩
    · simp [Instr.mapUpdate, run_underlying ht, MapKept.run_getObj_map hb, K.check w false hkey, h1, MapKept.run_setObj_map _ hb, Result.andThen, setBlock]
    · have := hM.size; simp; omega
    · intro x hx
      simp only [Array.toList_push, List.mem_append, List.mem_singleton] at hx
      rcases hx with hx | rfl
      · exact hM.keys x hx
      · exact ⟨_, hkey⟩
    · intro x hx
      simp only [Array.toList_push, List.mem_append, List.mem_singleton] at hx
      rcases hx with hx | rfl
      · obtain ⟨s', a, b⟩ := hM.here x hx
        have hne : s' ≠ s := fun e => h2 x hx (by rw [a, e])
        exact ⟨s', a, by simp [setM, hne, b]⟩
      · exact ⟨s, rfl, by simp [setM]⟩
    · intro s' v hv
      by_cases e1 : s' = s
      · subst e1
        exact ⟨⟨enc s', val, clock⟩, by simp, rfl⟩
      · simp only [setM, e1, if_false] at hv
        obtain ⟨x, hx, hk⟩ := hM.all s' v hv
        exact ⟨x, by simp [hx], hk⟩
  · have hj : es[j]? = some e0 := by simpa using h2
    have hjl : j < es.toList.length := (List.getElem?_eq_some_iff.1 h2).1
    have hkeyf : ∀ e', es[j]? = some e' → ({ e' with key := enc s, val := val } : MapEntry).key = e'.key := fun e' he' => by rw [hj] at he'; cases he'; exact h3.symm
    have hlist : (es.modify j (fun e' => { e' with key := enc s, val := val })).toList = es.toList.set j { e0 with key := enc s, val := val } := by rw [Array.toList_modify, modify_eq_set _ _ _ _ h2]
    have hpw := ((stamped_iff es clock).1 hM.stamped).2.2
    have who : ∀ x ∈ es.toList.set j { e0 with key := enc s, val := val }, x = { e0 with key := enc s, val := val } ∨ (x ∈ es.toList ∧ x.key ≠ enc s) := by
      intro x hx
      obtain ⟨i, hi, ex⟩ := List.getElem_of_mem hx
      rw [List.getElem_set] at ex
      split at ex
      · exact Or.inl ex.symm
      · rename_i hne
        have hi' : i < es.toList.length := by simpa using hi
        refine Or.inr ⟨ex ▸ List.getElem_mem hi', ?_⟩
        have ej : es.toList[j] = e0 := by
          have := List.getElem?_eq_getElem hjl
          rw [h2] at this
          exact (Option.some.inj this).symm
        have hd : es.toList[i].key ≠ es.toList[j].key := by
          rcases Nat.lt_or_ge i j with h | h
          · exact List.pairwise_iff_getElem.1 hpw i j hi' hjl h
          · exact fun e1 => List.pairwise_iff_getElem.1 hpw j i hjl hi' (by omega) e1.symm
        rw [ej] at hd
        rw [← h3, ← ex]
        exact hd
    refine ⟨es.modify j (fun e' => { e' with key := enc s, val := val }), clock, ?_, stamped_modify hM.stamped _ _ (fun _ _ => rfl) (fun e' _ he' => hkeyf e' he'), ?_, ?_, ?_, ?_⟩
    · simp [Instr.mapUpdate, run_underlying ht, MapKept.run_getObj_map hb, K.check w false hkey, h1, hj, h3, K.stays w hkey, MapKept.run_setObj_map _ hb, Result.andThen, setBlock]
    · have := hM.size; simp; omega
    · intro x hx
      rw [hlist] at hx
      rcases who x hx with rfl | ⟨hx', hne⟩
      · exact ⟨_, hkey⟩
      · exact hM.keys x hx'
    · intro x hx
      rw [hlist] at hx
      rcases who x hx with rfl | ⟨hx', hne⟩
      · exact ⟨s, rfl, by simp [setM]⟩
      · obtain ⟨s', a, b⟩ := hM.here x hx'
        have hs : s' ≠ s := fun e => hne (by rw [a, e])
        exact ⟨s', a, by simp [setM, hs, b]⟩
    · intro s' v hv
      rw [hlist]
      by_cases e1 : s' = s
      · subst e1
        exact ⟨{ e0 with key := enc s', val := val }, List.mem_iff_getElem.2 ⟨j, by simpa using hjl, by simp⟩, rfl⟩
      · simp only [setM, e1, if_false] at hv
        obtain ⟨x, hx, hk⟩ := hM.all s' v hv
        obtain ⟨i, hi, ex⟩ := List.getElem_of_mem hx
        have hij : j ≠ i := fun e2 => by
          subst e2
          have := List.getElem?_eq_getElem hi
          rw [h2] at this
          have ej := Option.some.inj this
          rw [← ex, ← ej, h3] at hk
          exact e1 (inj _ _ hk).symm
        exact ⟨x, List.mem_iff_getElem.2 ⟨i, by simpa using hi, by rw [List.getElem_set_ne hij]; exact ex⟩, hk⟩

theorem grown_setBlock {w : World} {b : Nat} {es : Array MapEntry} {clock : Nat} (hb : w.heap[b]? = some (.map es clock)) (o : Obj) : w.grownBy (setBlock w b o) (some b) :=
  ⟨rfl, rfl, rfl, by simp [setBlock], fun i _ hi => heap_setBlock_other hb _ (fun e => hi (by rw [e]))⟩

theorem mapAt_update {w : World} {b n : Nat} {M : κ → Option Value} (h : MapAt P k enc w b n M) (K : KeyLaw P k) {t e : TypeId} (ht : P.underlying t = some (.map k e))
    (inj : ∀ s s', enc s = enc s' → s = s') {s : κ} {kl : Lit} (hkey : keyOf P k (enc s) = some kl) (val : Value) :
    ∃ w', (Instr.mapUpdate t (.map (some b)) (enc s) val).run P w = .ok () w' ∧ MapAt P k enc w' b (n + 1) (setM M s val) ∧ w.grownBy w' (some b) ∧ w'.heap.size = w.heap.size := by
  obtain ⟨es, clock, hb, hM⟩ := h
  obtain ⟨es', clock', h1, h2⟩ := mapIs_update hb hM K ht inj hkey val
  exact ⟨_, h1, ⟨es', clock', heap_setBlock_same hb _, h2⟩, grown_setBlock hb _, by simp [setBlock]⟩

/-- An entry is taken, and stored to later, in whatever world in which the map is as the taking left it. -/
theorem mapAt_entry {w : World} {b n : Nat} {M : κ → Option Value} (h : MapAt P k enc w b n M) (hn : n ≤ maxLen) (K : KeyLaw P k) {t e : TypeId} (ht : P.underlying t = some (.map k e)) {z : Value} (hz : ∀ u : World, (zeroValue e).run P u = .ok z u)
    (inj : ∀ s s', enc s = enc s' → s = s') {s : κ} {kl : Lit} (hkey : keyOf P k (enc s) = some kl) :
    ∃ (st : Nat) (w1 : World), (Instr.mapEntry t (.map (some b)) (enc s)).run P w = .ok (.tuple #[(M s).getD z, goInt st]) w1 ∧ w.grownBy w1 (some b) ∧ w1.heap.size = w.heap.size ∧
      ∀ (w2 : World) (val : Value), w2.heap[b]? = w1.heap[b]? → ∃ w3, (Instr.entryStore t (.map (some b)) (goInt st) val).run P w2 = .ok () w3 ∧ MapAt P k enc w3 b (n + 1) (setM M s val) ∧ w2.grownBy w3 (some b) ∧ w3.heap.size = w2.heap.size := by
  obtain ⟨es, clock, hb, hM⟩ := h
  obtain ⟨v0, st, es1, clock1, hrun, hv0, hst⟩ := entry_then_store K ht hz hb (hM.fit hn) hkey
  have hv : v0 = (M s).getD z := by
    rcases hv0 with ⟨e0, hm, hk0, rfl⟩ | ⟨hno, rfl⟩
    · obtain ⟨s', a, b⟩ := hM.here e0 hm
      have : s = s' := inj _ _ (hk0.symm.trans a)
      subst this
      rw [b]
      rfl
    · cases hs : M s with
      | none => rfl
      | some v =>
        obtain ⟨x, hx, hxk⟩ := hM.all s v hs
        exact absurd hxk (hno x hx)
  subst hv
  refine ⟨st, _, hrun, grown_setBlock hb _, by simp [setBlock], fun w2 val hw2 => ?_⟩
  rw [heap_setBlock_same hb] at hw2
  obtain ⟨es', clock', h1, h2⟩ := hst w2 val hw2
  obtain ⟨es2, clock2, h3, h4⟩ := mapIs_update hb hM K ht inj hkey val
  rw [h2] at h3
  have h5 : setBlock w b (.map es' clock') = setBlock w b (.map es2 clock2) := by
    injection h3
  have h6 : (Obj.map es' clock') = .map es2 clock2 := by
    have a := heap_setBlock_same hb (.map es' clock')
    rw [h5, heap_setBlock_same hb] at a
    exact (Option.some.inj a).symm
  injection h6 with h7 h8
  subst h7
  subst h8
  exact ⟨_, h1, ⟨_, _, heap_setBlock_same hw2 _, h4⟩, grown_setBlock hw2 _, by simp [setBlock]⟩
end

section
variable {w w' : World}

theorem own_heap {base : Nat} {e : TypeId} {size n : Nat} {x : Value} {xs : List Value} (h : w.ownsRow base e size x n xs) (hh : ∀ g, x.ownBlock = some g → w'.heap[g]? = w.heap[g]?) : w'.ownsRow base e size x n xs := by
  refine ⟨h.1, ?_⟩
  rcases h.2 with h2 | ⟨g, cap, cur, rfl, h2, h3, h4⟩
  · exact .inl h2
  · exact .inr ⟨g, cap, cur, rfl, h2, (hh g rfl).trans h3, h4⟩

theorem own_no_map {base : Nat} {e : TypeId} {size n : Nat} {x : Value} {xs : List Value} (h : w.ownsRow base e size x n xs) {b : Nat} {es : Array MapEntry} {c : Nat} (hb : w.heap[b]? = some (.map es c)) : x.ownBlock ≠ some b := by
  rcases h.2 with ⟨rfl, _⟩ | ⟨g, cap, cur, rfl, h2, h3, h4⟩
  · intro e; cases e
  · intro e
    have : g = b := by simpa [Value.ownBlock] using e
    subst this
    rw [hb] at h3
    cases h3

theorem MapAt.isMap {κ : Type} {P : Program} {k : TypeId} {enc : κ → Value} {b n : Nat} {M : κ → Option Value} (h : MapAt P k enc w b n M) : ∃ es c, w.heap[b]? = some (.map es c) := by
  obtain ⟨es, c, hb, _⟩ := h
  exact ⟨es, c, hb⟩

theorem Owns.heap {ι : Type} {P : ι → Option Row} {base : Nat} (h : Owns w base P) (hh : ∀ i r g, P i = some r → r.v.ownBlock = some g → w'.heap[g]? = w.heap[g]?) : Owns w' base P :=
  ⟨fun i r hr => own_heap (h.own i r hr) fun g hg => hh i r g hr hg, h.apart⟩
end

end Go.Proofs.Ytgkikliaadjmiaa
