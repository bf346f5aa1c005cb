/- Maps that a call has made and that it ranges over, in an order that nobody knows. Conditions: as stated. -/
import Derived.Test.YteafkginhejllaaGreatDoorF8
import Derived.Laws.IdiomRangeMap
namespace Go.Proofs.YteafkginhejllaaGreatDoor
open Go.ChangeShapes Go.WideShapes Go.ChangeAt Go.RowKit
open Go.ChangeMaps
open Go.MapKept Go.Maps
section
set_option linter.unusedSectionVars false
variable {κ ν : Type} [DecidableEq κ] (kv : κ → Value) (vv : ν → Value)
/-- BLOCK b OF w IS A MAP WITH THESE ENTRIES, and each of them was born before the clock. -/
def OwnB (w : World) (b : Nat) (m : List (κ × ν)) : Prop :=
  ∃ es clock, w.heap[b]? = some (.map es clock) ∧ es.toList.map (fun e => (e.key, e.val)) = m.map (fun p => (kv p.1, vv p.2)) ∧ (∀ e ∈ es.toList, e.born < clock) ∧ (es.toList.map (·.born)).Nodup
variable {kv vv} {P : Program} {k : TypeId} {w : World} {b : Nat} {m : List (κ × ν)}
theorem OwnB.own (h : OwnB kv vv w b m) : OwnM kv vv w b m := by
  obtain ⟨es, c, h1, h2, _⟩ := h
  exact ⟨es, c, h1, h2⟩
theorem OwnB.lt (h : OwnB kv vv w b m) : b < w.heap.size := h.own.lt
theorem OwnB.same {w' : World} (h : OwnB kv vv w b m) (hb : w'.heap[b]? = w.heap[b]?) : OwnB kv vv w' b m := by
  obtain ⟨es, clock, h1, h2⟩ := h
  exact ⟨es, clock, hb.trans h1, h2⟩
theorem OwnB.below {w' : World} (h : OwnB kv vv w b m) (hb : Below w.heap.size w w') : OwnB kv vv w' b m := h.same (hb.block b h.lt)
theorem OwnB.made (w : World) : OwnB kv vv (w.alloc (.map #[] 0)) w.heap.size ([] : List (κ × ν)) :=
  ⟨#[], 0, (MapKept.heap_alloc w _).1, by simp, by simp, by simp⟩
/-- 'm[k] = v'. -/
theorem OwnB.store (h : OwnB kv vv w b m) (K : Key P k kv) (hu : (m.map Prod.fst).Nodup) {t e : TypeId} (ht : P.underlying t = some (.map k e)) (x : κ) (v : ν) :
    ∃ w', (Instr.mapUpdate t (.map (some b)) (kv x) (vv v)).run P w = .ok () w' ∧ OwnB kv vv w' b (putM x v m) ∧ w.grownBy w' (some b) ∧ w'.heap.size = w.heap.size := by
  obtain ⟨es, clock, hb, hm, ho, hn⟩ := h
  have hg : ∀ o, w.grownBy (setBlock w b o) (some b) := fun o => ⟨rfl, rfl, rfl, by simp [setBlock], fun i _ hi => heap_setBlock_other hb _ (fun e => hi (by rw [e]))⟩
  have hz : ∀ o, (setBlock w b o).heap.size = w.heap.size := fun o => by simp [setBlock]
  rcases find_list K w x es.toList m hm hu with ⟨h1, h2⟩ | ⟨j, e0, v0, h1, h3, h3k, h4, h5, h6⟩
  · refine ⟨setBlock w b (.map (es.push { key := kv x, val := vv v, born := clock }) (clock + 1)), ?_, ⟨_, _, heap_setBlock_same hb _, ?_, ?_, ?_⟩, hg _, hz _⟩
    · simp [Instr.mapUpdate, run_underlying ht, MapKept.run_getObj_map hb, K.check, h1, MapKept.run_setObj_map _ hb, setBlock, Result.andThen]
    · rw [putM_new x v m h2]; simp [hm]
    · intro e he
      simp only [Array.toList_push, List.mem_append, List.mem_singleton] at he
      rcases he with he | rfl
      · exact Nat.lt_succ_of_lt (ho e he)
      · exact Nat.lt_succ_self _
    · simp only [Array.toList_push, List.map_append, List.map_cons, List.map_nil]
      rw [List.nodup_append]
      refine ⟨hn, by simp, ?_⟩
      intro a ha c hc
      simp only [List.mem_singleton] at hc
      obtain ⟨e, he, rfl⟩ := List.mem_map.1 ha
      have := ho e he
      omega
  · have hj : es[j]? = some e0 := by rw [← Array.getElem?_toList]; exact h3
    refine ⟨setBlock w b (.map (es.modify j fun e => { e with key := kv x, val := vv v }) clock), ?_, ⟨_, _, heap_setBlock_same hb _, ?_, ?_, ?_⟩, hg _, hz _⟩
    · simp [Instr.mapUpdate, run_underlying ht, MapKept.run_getObj_map hb, K.check, h1, hj, h3k, K.stays, MapKept.run_setObj_map _ hb, setBlock, Result.andThen]
    · rw [put_at hu h6]
      have : (es.modify j fun e => { e with key := kv x, val := vv v }).toList = es.toList.modify j fun e => { e with key := kv x, val := vv v } := by simp
      rw [this, List.map_set, ← hm]
      apply List.ext_getElem?
      intro i
      simp only [List.getElem?_map, List.getElem?_modify, List.getElem?_set]
      by_cases hi : j = i
      · subst hi
        have hlt : j < es.size := (Array.getElem?_eq_some_iff.1 hj).1
        simp [hlt]
      · simp [hi]
    · intro e he
      have : (es.modify j fun e => { e with key := kv x, val := vv v }).toList = es.toList.modify j fun e => { e with key := kv x, val := vv v } := by simp
      rw [this] at he
      obtain ⟨i, hi⟩ := List.mem_iff_getElem?.1 he
      rw [List.getElem?_modify] at hi
      obtain ⟨e1, he1, rfl⟩ := Option.map_eq_some_iff.1 hi
      have := ho e1 (List.mem_of_getElem? he1)
      split <;> exact this
    · have : (es.modify j fun e => { e with key := kv x, val := vv v }).toList = es.toList.modify j fun e => { e with key := kv x, val := vv v } := by simp
      rw [this]
      have hq : (es.toList.modify j fun e => { e with key := kv x, val := vv v }).map (·.born) = es.toList.map (·.born) := by
        apply List.ext_getElem?
        intro i
        simp only [List.getElem?_map, List.getElem?_modify]
        cases es.toList[i]? with
        | none => rfl
        | some e1 => simp only [Option.map_some]; split <;> rfl
      rw [hq]; exact hn
/-! ### the range -/
variable (kv vv) in
/-- Block r of w is an iterator over the map in block b; these entries are still to come. -/
def IterM (w : World) (r b : Nat) (todo : List (κ × ν)) : Prop :=
  ∃ es clock since seen last, w.heap[b]? = some (.map es clock) ∧ w.heap[r]? = some (.mapIter (some b) since seen last) ∧ (∀ e ∈ es.toList, e.born < since) ∧ (since ≤ last ∧ since ≤ clock) ∧ (es.toList.map (·.born)).Nodup ∧
    (leftOf es seen).toList.map (fun e => (e.key, e.val)) = todo.map (fun p => (kv p.1, vv p.2))
theorem IterM.same {w' : World} {r : Nat} {todo : List (κ × ν)} (h : IterM kv vv w r b todo) (h1 : w'.heap[b]? = w.heap[b]?) (h2 : w'.heap[r]? = w.heap[r]?) : IterM kv vv w' r b todo := by
  obtain ⟨es, c, s, se, l, e1, e2, r⟩ := h
  exact ⟨es, c, s, se, l, h1.trans e1, h2.trans e2, r⟩
theorem IterM.lt {r : Nat} {todo : List (κ × ν)} (h : IterM kv vv w r b todo) : b < w.heap.size ∧ r < w.heap.size := by
  obtain ⟨es, c, s, se, l, e1, e2, _⟩ := h
  exact ⟨(Array.getElem?_eq_some_iff.1 e1).1, (Array.getElem?_eq_some_iff.1 e2).1⟩
theorem IterM.below {w' : World} {r : Nat} {todo : List (κ × ν)} (h : IterM kv vv w r b todo) (hb : Below w.heap.size w w') : IterM kv vv w' r b todo := h.same (hb.block _ h.lt.1) (hb.block _ h.lt.2)
/-- 'range m': the iterator is the heap's last block. -/
theorem OwnB.range (h : OwnB kv vv w b m) {t e : TypeId} (ht : P.underlying t = some (.map k e)) :
    ∃ w', (Instr.range t (.map (some b))).run P w = .ok (.pointer (some ⟨w.heap.size, 0, none⟩)) w' ∧ IterM kv vv w' w.heap.size b m ∧ Below w.heap.size w w' ∧ w'.heap.size = w.heap.size + 1 := by
  obtain ⟨es, clock, hb, hm, ho, hn⟩ := h
  refine ⟨_, run_range_map w t k e b es clock ht hb, ⟨es, clock, clock, #[], clock, ?_, heap_alloc_new w _, ho, ⟨Nat.le_refl _, Nat.le_refl _⟩, hn, ?_⟩, (Below.refl _ _).alloc (Nat.le_refl _) _, by simp⟩
  · rw [heap_alloc_old w _ (Array.getElem?_eq_some_iff.1 hb).1]; exact hb
  · have : leftOf es #[] = es := by unfold leftOf; simp
    rw [this]; exact hm
theorem erase_left {es : List MapEntry} {seen : Array Nat} (hn : (es.map (·.born)).Nodup) {i : Nat} {e : MapEntry} (he : (es.filter fun e => !seen.contains e.born)[i]? = some e) :
    es.filter (fun x => !(seen.push e.born).contains x.born) = (es.filter fun e => !seen.contains e.born).eraseIdx i := by
  have e1 : es.filter (fun x => !(seen.push e.born).contains x.born) = (es.filter fun e => !seen.contains e.born).filter fun x => !(x.born == e.born) := by
    rw [List.filter_filter]
    apply List.filter_congr
    intro x _
    simp only [Array.contains_push, Bool.not_or, Bool.and_comm]
  rw [e1]
  have hl : ((es.filter fun e => !seen.contains e.born).map (·.born)).Nodup := hn.sublist (List.filter_sublist.map _)
  generalize (es.filter fun e => !seen.contains e.born) = l at he hl
  clear e1 hn
  induction l generalizing i with
  | nil => simp at he
  | cons x r ih =>
    simp only [List.map_cons, List.nodup_cons] at hl
    cases i with
    | zero =>
      simp at he
      subst he
      rw [List.eraseIdx_cons_zero, List.filter_cons]
      simp only [beq_self_eq_true, Bool.not_true, Bool.false_eq_true, if_false]
      rw [List.filter_eq_self]
      intro y hy
      have : y.born ≠ x.born := fun h => hl.1 (h ▸ List.mem_map_of_mem hy)
      simpa using this
    | succ i =>
      have hr : r[i]? = some e := by simpa using he
      have hne : x.born ≠ e.born := fun h => hl.1 (h ▸ List.mem_map_of_mem (List.mem_of_getElem? hr))
      rw [List.eraseIdx_cons_succ, List.filter_cons]
      have : (!(x.born == e.born)) = true := by simpa using hne
      rw [if_pos this, ih hr hl.2]
theorem map_erase {α β : Type} (f : α → β) : ∀ (l : List α) (i : Nat), (l.eraseIdx i).map f = (l.map f).eraseIdx i
  | [], i => by simp
  | x :: r, 0 => by simp
  | x :: r, i + 1 => by simp [map_erase f r i]
/-- 'next': nothing is left; or one entry comes, whichever. -/
theorem IterM.next {r : Nat} {todo : List (κ × ν)} (h : IterM kv vv w r b todo) (hbr : b ≠ r) (ty : TypeId) :
    (todo = [] ∧ (Instr.next (.pointer (some ⟨r, 0, none⟩)) false ty).run P w = .ok (.tuple #[.bool false]) w) ∨
    ∃ i p w1, todo[i]? = some p ∧ (Instr.next (.pointer (some ⟨r, 0, none⟩)) false ty).run P w = .ok (.tuple #[.bool true, kv p.1, vv p.2]) w1 ∧ (Instr.entry (.pointer (some ⟨r, 0, none⟩))).run P w1 = .ok (.tuple #[kv p.1, vv p.2]) w1 ∧
      IterM kv vv w1 r b (todo.eraseIdx i) ∧ w.grownBy w1 (some r) ∧ w1.heap.size = w.heap.size := by
  obtain ⟨es, clock, since, seen, last, hb, hr, ho, ⟨hsl, hsc⟩, hn, hl⟩ := h
  have htest := next_test_false seen es since last ho hsl
  have hG : ∀ ww : World, ww.heap[r]? = some (.mapIter (some b) since seen last) → (getObj r).run P ww = .ok (.mapIter (some b) since seen last) ww := fun ww h => by simp only [getObj, Sem.run, h]
  have hGb : ∀ ww : World, ww.heap[b]? = some (.map es clock) → (getObj b).run P ww = .ok (.map es clock) ww := fun ww h => by simp only [getObj, Sem.run, h]
  have hmem : ∀ x ∈ (leftOf es seen).toList, x.born < since := fun x hx => ho x (by unfold leftOf at hx; simp at hx ⊢; exact hx.1)
  simp only [Instr.next, Sem.run_bind, hG w hr, hGb w hb, Result.andThen, htest, Bool.false_eq_true, if_false]
  have hLl : (leftOf es seen).toList = es.toList.filter fun e => !seen.contains e.born := by unfold leftOf; simp
  show _ ∨ _
  have hfold : (Array.filter (fun e => !seen.contains e.born) es) = leftOf es seen := rfl
  simp only [hfold]
  have hlen : (leftOf es seen).size = todo.length := by have := congrArg List.length hl; simpa using this
  obtain ⟨L, hL⟩ : ∃ L, leftOf es seen = L := ⟨_, rfl⟩
  rw [hL] at hmem hl hlen hLl
  simp only [hL]
  have e1 : L.filter (fun x => decide (x.born < since)) = L := Array.filter_eq_self.2 (fun x hx => by simpa using hmem x (by simpa using hx))
  have e2 : L.filter (fun x => decide (x.born ≥ since)) = #[] := by
    rw [Array.filter_eq_empty_iff]
    intro x hx
    have := hmem x (by simpa using hx)
    simp
    omega
  simp only [e1, e2, Array.append_empty]
  by_cases h0 : L.size = 0
  · left
    have : L = #[] := Array.eq_empty_of_size_eq_zero h0
    subst this
    refine ⟨List.eq_nil_of_length_eq_zero (by rw [← hlen]; rfl), ?_⟩
    simp [choose, Sem.run, Question.forced]
  · right
    have hne : L.isEmpty = false := by simp [Array.isEmpty, h0]
    simp only [hne, Bool.false_eq_true, if_false, Array.empty_append, Array.size_map]
    have hch : ∃ (j : Nat) (w1 : World), j < L.size ∧ (w1 = w ∨ w1 = w.drew) ∧ (choose (Question.mapNext L.size)).run P w = .ok j w1 := by
      by_cases hf : L.size ≤ 1
      · exact ⟨0, w, by omega, Or.inl rfl, by simp [choose, Sem.run, Question.forced, hf]⟩
      · exact ⟨_, w.drew, Nat.mod_lt _ (by omega), Or.inr rfl, by
          simp only [choose, Sem.run, Question.forced, decide_eq_true_eq, hf, if_false, Question.cut]
          rfl⟩
    obtain ⟨j, w1, hj, hw1, hrun⟩ := hch
    have hh : w1.heap = w.heap := by rcases hw1 with rfl | rfl <;> rfl
    have hos : w1.os = w.os ∧ w1.tape = w.tape ∧ w1.output = w.output := by rcases hw1 with rfl | rfl <;> exact ⟨rfl, rfl, rfl⟩
    have hgetL : L.toList[j]? = some L[j] := by simp [hj]
    obtain ⟨p, hp⟩ : ∃ p, todo[j]? = some p := ⟨_, List.getElem?_eq_getElem (by rw [← hlen]; exact hj)⟩
    have hkv : (L[j].key, L[j].val) = (kv p.1, vv p.2) := by
      have := congrArg (fun l => l[j]?) hl
      simpa [hgetL, hp, hj] using this
    obtain ⟨hk, hv⟩ := Prod.mk.inj hkv
    have hlt : r < w1.heap.size := by rw [hh]; exact (Array.getElem?_eq_some_iff.1 hr).1
    have hset : (setObj r (.mapIter (some b) since (seen.push L[j].born) clock)).run P w1 = .ok () { w1 with heap := w1.heap.setIfInBounds r (.mapIter (some b) since (seen.push L[j].born) clock) } := by
      simp only [setObj, Sem.run, hh, hr]
    obtain ⟨w2, hw2⟩ : ∃ w2 : World, w2 = { w1 with heap := w1.heap.setIfInBounds r (.mapIter (some b) since (seen.push L[j].born) clock) } := ⟨_, rfl⟩
    have hb2 : w2.heap[b]? = some (.map es clock) := by rw [hw2]; simp only [Array.getElem?_setIfInBounds, if_neg (fun h : r = b => hbr h.symm), hh, hb]
    have hr2 : w2.heap[r]? = some (.mapIter (some b) since (seen.push L[j].born) clock) := by rw [hw2]; simp only [Array.getElem?_setIfInBounds, if_true, if_pos hlt]
    refine ⟨j, p, w2, hp, ?_, ?_, ⟨es, clock, since, seen.push L[j].born, clock, hb2, hr2, ho, ⟨hsc, hsc⟩, hn, ?_⟩, ?_, ?_⟩
    · rw [hw2]
      simp only [hrun, Array.getElem?_map, Array.getElem?_eq_getElem hj, Option.map_some, Sem.run_bind, hset, Result.andThen, ← hk, ← hv]
      rfl
    · have hmemE : L[j] ∈ es.toList := by
        have : L[j] ∈ L.toList := by simp
        rw [hLl] at this
        exact (List.mem_filter.1 this).1
      have hf : es.find? (·.born == L[j].born) = some L[j] := by rw [← Array.find?_toList]; exact find_born L[j] es.toList hn hmemE
      simp only [Instr.entry, getObj, Sem.run_bind, Sem.run, hr2, hb2, Result.andThen, Array.back?_push, bne_self_eq_false, Bool.false_eq_true, if_false, hf, ← hk, ← hv]
      rfl
    · have hq := erase_left (seen := seen) hn (i := j) (e := L[j]) (by rw [← hLl]; exact hgetL)
      have : (leftOf es (seen.push L[j].born)).toList = (es.toList.filter fun e => !seen.contains e.born).eraseIdx j := by rw [← hq]; unfold leftOf; simp
      rw [this, ← hLl, map_erase, hl, map_erase]
    · refine ⟨by rw [hw2]; exact hos.1, by rw [hw2]; exact hos.2.1, by rw [hw2]; exact hos.2.2, by rw [hw2]; simp [hh], fun i _ hi => ?_⟩
      rw [hw2]
      simp only [Array.getElem?_setIfInBounds, if_neg (fun h : r = i => hi (by rw [h])), hh]
    · rw [hw2]; simp [hh]
end
end Go.Proofs.YteafkginhejllaaGreatDoor
