/- Plain mathematics: the map of joined ends, built from the last joint to the first. Conditions: none. -/
import Derived.Test.YthoodaldmfojaaaDoorMap7
namespace Go.Proofs.YthoodaldmfojaaaDoor
def mapJ (l : List (EndD × EndD)) : List (EndD × EndD) := l.foldl (fun m j => putM j.2 j.1 (putM j.1 j.2 m)) []
theorem mapJ_snoc (l : List (EndD × EndD)) (j : EndD × EndD) : mapJ (l ++ [j]) = putM j.2 j.1 (putM j.1 j.2 (mapJ l)) := by simp [mapJ]
theorem put_keys {κ ν : Type} [DecidableEq κ] (x : κ) (v : ν) : ∀ (m : List (κ × ν)) (y : κ), y ∈ (putM x v m).map Prod.fst ↔ y = x ∨ y ∈ m.map Prod.fst
  | [], y => by simp [putM]
  | (a, b) :: r, y => by
    unfold putM
    split
    · rename_i h
      subst h
      simp
    · simp only [List.map_cons, List.mem_cons, put_keys x v r y]
      grind
theorem put_len {κ ν : Type} [DecidableEq κ] (x : κ) (v : ν) : ∀ (m : List (κ × ν)), (putM x v m).length = if x ∈ m.map Prod.fst then m.length else m.length + 1
  | [] => by simp [putM]
  | (a, b) :: r => by
    unfold putM
    by_cases h : a = x
    · simp [h]
    · rw [if_neg h, List.length_cons, put_len x v r]
      by_cases h2 : x ∈ r.map Prod.fst
      · rw [if_pos h2, if_pos (by rw [List.map_cons]; exact List.mem_cons_of_mem _ h2)]; rfl
      · rw [if_neg h2, if_neg (by rw [List.map_cons, List.mem_cons, not_or]; exact ⟨fun e => h e.symm, h2⟩)]; rfl
theorem snoc_ind {α : Type} {p : List α → Prop} (h0 : p []) (h1 : ∀ l x, p l → p (l ++ [x])) (l : List α) : p l := by
  have : ∀ l : List α, p l.reverse := by
    intro l
    induction l with
    | nil => exact h0
    | cons x xs ih => rw [List.reverse_cons]; exact h1 _ _ ih
  have := this l.reverse
  rwa [List.reverse_reverse] at this
theorem endsJ_snoc (l : List (EndD × EndD)) (j : EndD × EndD) : endsJ (l ++ [j]) = endsJ l ++ [j.1, j.2] := by simp [endsJ]
theorem mapJ_keys (l : List (EndD × EndD)) : ((mapJ l).map Prod.fst).Nodup ∧ ∀ e, e ∈ (mapJ l).map Prod.fst ↔ e ∈ endsJ l := by
  induction l using snoc_ind with
  | h0 => simp [mapJ, endsJ]
  | h1 l j ih =>
    rw [mapJ_snoc, endsJ_snoc]
    refine ⟨(keys_put _ _ _ (keys_put _ _ _ ih.1).1).1, fun e => ?_⟩
    rw [put_keys, put_keys, ih.2, List.mem_append]
    simp only [List.mem_cons, List.mem_nil_iff, or_false]
    grind
theorem mapJ_len (l : List (EndD × EndD)) : (mapJ l).length ≤ 2 * l.length ∧ ((mapJ l).length = 2 * l.length ↔ (endsJ l).Nodup) := by
  induction l using snoc_ind with
  | h0 => simp [mapJ, endsJ]
  | h1 l j ih =>
    have hk := (mapJ_keys l).2
    rw [mapJ_snoc, endsJ_snoc, put_len, put_len, List.length_append, List.nodup_append]
    have e2 : j.2 ∈ (putM j.1 j.2 (mapJ l)).map Prod.fst ↔ j.2 = j.1 ∨ j.2 ∈ endsJ l := by rw [put_keys, hk]
    have e1 : j.1 ∈ (mapJ l).map Prod.fst ↔ j.1 ∈ endsJ l := hk _
    simp only [e1, e2, List.length_cons, List.length_nil, List.nodup_cons, List.mem_cons, List.mem_nil_iff, or_false, not_false_eq_true, List.nodup_nil, and_true]
    obtain ⟨i1, i2⟩ := ih
    by_cases h1 : j.1 ∈ endsJ l
    · rw [if_pos h1]
      constructor
      · split <;> omega
      · constructor
        · intro h; split at h <;> omega
        · intro h; exact absurd rfl (h.2.2 _ h1 _ (Or.inl rfl))
    · rw [if_neg h1]
      by_cases h2 : j.2 = j.1 ∨ j.2 ∈ endsJ l
      · rw [if_pos h2]
        constructor
        · omega
        · constructor
          · intro h; omega
          · intro h
            rcases h2 with h2 | h2
            · exact absurd h2.symm h.2.1
            · exact absurd rfl (h.2.2 _ h2 _ (Or.inr rfl))
      · rw [if_neg h2]
        rw [not_or] at h2
        constructor
        · omega
        · constructor
          · intro h
            refine ⟨i2.1 (by omega), fun e => h2.1 e.symm, fun a ha b hb => ?_⟩
            rcases hb with rfl | rfl
            · exact fun e => h1 (e ▸ ha)
            · exact fun e => h2.2 (e ▸ ha)
          · intro h
            have := i2.2 h.1
            omega
theorem ends_rev (js : List (EndD × EndD)) : (endsJ js.reverse).Nodup ↔ (endsJ js).Nodup :=
  List.Perm.nodup_iff (List.Perm.flatMap_right _ (List.reverse_perm js))
theorem mapJ_rev_len (js : List (EndD × EndD)) : decide ((mapJ js.reverse).length = 2 * js.length) = decide (endsJ js).Nodup := by
  rw [Bool.eq_iff_iff, decide_eq_true_eq, decide_eq_true_eq, ← ends_rev, ← (mapJ_len js.reverse).2, List.length_reverse]
theorem mapJ_look (e : EndD) : ∀ js : List (EndD × EndD), lookM e (mapJ js.reverse) = joinF e js
  | [] => rfl
  | (a, b) :: r => by
    rw [List.reverse_cons, mapJ_snoc, lookM_put, lookM_put, mapJ_look e r, joinF]
    by_cases ha : a = e
    · by_cases hb : b = e
      · simp [ha, hb]
      · simp [ha, hb]
    · by_cases hb : b = e
      · simp [ha, hb]
      · simp [ha, hb]
end Go.Proofs.YthoodaldmfojaaaDoor
