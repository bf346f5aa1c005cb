/- Sorted, then compacted, is the set of the list. Conditions: none. -/
import Derived.Lib.SlicesCompact
import Derived.Test.YtgaikipcoalcnaaSet
namespace Go.Proofs.Ytgaikipcoalcnaa
theorem asc_snoc : ∀ (l : List Int) (x : Int), Asc l → (∀ y ∈ l, y < x) → Asc (l ++ [x])
  | [], x, _, _ => ⟨by simp, trivial⟩
  | a :: l, x, h, hx => ⟨fun y hy => by
      rcases List.mem_append.1 hy with hy | hy
      · exact h.1 y hy
      · rw [List.mem_singleton.1 hy]; exact hx a (by simp), asc_snoc l x h.2 fun y hy => hx y (by simp [hy])⟩
theorem compact_upto (d : Array Int) (hs : ∀ i j, i ≤ j → j < d.size → d[i]! ≤ d[j]!) : ∀ m, m ≤ d.size → Asc (Lib.compactUpTo d m) ∧ ∀ n, n ∈ Lib.compactUpTo d m ↔ ∃ j, j < m ∧ d[j]! = n
  | 0, _ => ⟨by simp [Lib.compactUpTo, Asc], fun n => by simp [Lib.compactUpTo]⟩
  | m+1, h => by
    obtain ⟨h1, h2⟩ := compact_upto d hs m (by omega)
    rw [Lib.compactUpTo_succ]
    by_cases hk : Lib.keeps d m = true
    · rw [if_pos hk]
      refine ⟨asc_snoc _ _ h1 fun y hy => ?_, fun n => ?_⟩
      · obtain ⟨j, hj, rfl⟩ := (h2 y).1 hy
        have hne : d[m]! ≠ d[m-1]! := by
          unfold Lib.keeps at hk
          rcases of_decide_eq_true hk with h | h
          · omega
          · exact h
        have a := hs j (m-1) (by omega) (by omega)
        have b := hs (m-1) m (by omega) (by omega)
        omega
      · rw [List.mem_append, h2, List.mem_singleton]
        constructor
        · rintro (⟨j, hj, e⟩ | e)
          · exact ⟨j, by omega, e⟩
          · exact ⟨m, by omega, e.symm⟩
        · rintro ⟨j, hj, e⟩
          by_cases hjm : j = m
          · exact Or.inr (by rw [← e, hjm])
          · exact Or.inl ⟨j, by omega, e⟩
    · rw [if_neg hk, List.append_nil]
      refine ⟨h1, fun n => ?_⟩
      rw [h2]
      have hk' : m ≠ 0 ∧ d[m]! = d[m-1]! := by
        constructor
        · intro h0; exact hk (by simp [Lib.keeps, h0])
        · apply Classical.byContradiction; intro h0; exact hk (by simp [Lib.keeps, h0])
      constructor
      · rintro ⟨j, hj, e⟩; exact ⟨j, by omega, e⟩
      · rintro ⟨j, hj, e⟩
        by_cases hjm : j = m
        · exact ⟨m-1, by omega, by rw [← hk'.2, ← hjm]; exact e⟩
        · exact ⟨j, by omega, e⟩
theorem compact_sorted (l : List Int) : Lib.compact (l.mergeSort fun x y => decide (x ≤ y)) = mk l := by
  have hp := List.mergeSort_perm l fun x y => decide (x ≤ y)
  have hq := List.pairwise_mergeSort (le := fun x y : Int => decide (x ≤ y)) (by intro a b c; simp; omega) (by intro a b; simp; omega) l
  obtain ⟨s, hs⟩ : ∃ s, (l.mergeSort fun x y => decide (x ≤ y)) = s := ⟨_, rfl⟩
  rw [hs] at hp hq
  rw [hs]
  have hd : ∀ i j, i ≤ j → j < s.toArray.size → s.toArray[i]! ≤ s.toArray[j]! := by
    intro i j hij hj
    have hj' : j < s.length := by simpa using hj
    have hi' : i < s.length := by omega
    by_cases e : i = j
    · rw [e]; exact Int.le_refl _
    · have := List.pairwise_iff_getElem.1 hq i j hi' hj' (by omega)
      have := of_decide_eq_true this
      rw [getElem!_pos _ i (by simpa using hi'), getElem!_pos _ j hj]
      simpa using this
  obtain ⟨h1, h2⟩ := compact_upto s.toArray hd s.length (by simp)
  unfold Lib.compact
  refine mk_eq l _ h1 fun n => ?_
  rw [h2, ← hp.mem_iff]
  constructor
  · rintro ⟨j, hj, e⟩
    rw [getElem!_pos _ j (by simpa using hj)] at e
    rw [← e]
    simp
  · intro h
    obtain ⟨j, hj, e⟩ := List.getElem_of_mem h
    exact ⟨j, hj, by rw [getElem!_pos _ j (by simpa using hj)]; simpa using e⟩
end Go.Proofs.Ytgaikipcoalcnaa
