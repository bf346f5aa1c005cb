/- Plain mathematics for LayoutParts: how often each element has been found, and the points among the first elements. Conditions: none. -/
import Derived.Test.YthoodaldmfojaaaDoorLay7
namespace Go.Proofs.YthoodaldmfojaaaDoor
/-- What the counts are when all sections before s, and the members ms of s, have been counted. -/
def fcS (els : List ElD) (s : Int) (ms : List Int) (fc : List Int) : Prop :=
  fc.length = els.length ∧ ∀ (i : Nat) y, els[i]? = some y → fc[i]? = some (if y.sec < s then 1 else if (i : Int) ∈ ms then 1 else 0)
theorem members_mem {L : LayD} {s x : Int} (h : x ∈ membersS L s) : ∃ (i : Nat) (y : ElD), x = i ∧ L.els[i]? = some y ∧ y.sec = s := by
  unfold membersS at h
  split at h
  · obtain ⟨k, y, hy, hs, hx⟩ := (memG_mem s L.els 0 x).1 h
    exact ⟨k, y, by simpa using hx, hy, hs⟩
  · cases h
theorem mem_members {L : LayD} {s : Int} (hs : 0 ≤ s ∧ s < L.secs.length) {i : Nat} {y : ElD} (hy : L.els[i]? = some y) (h : y.sec = s) : (i : Int) ∈ membersS L s := by
  unfold membersS
  rw [if_pos hs]
  exact (memG_mem s L.els 0 i).2 ⟨i, y, hy, h, by simp⟩
theorem members_new {L : LayD} {s : Int} {j : Nat} {x : Int} (h : (membersS L s)[j]? = some x) : x ∉ (membersS L s).take j := by
  have hp : (membersS L s).Pairwise (· < ·) := by
    unfold membersS
    split
    · exact (memG_asc s L.els 0).1
    · exact List.Pairwise.nil
  intro hx
  obtain ⟨k, hk, he⟩ := List.getElem_of_mem hx
  obtain ⟨hj, hjx⟩ := List.getElem?_eq_some_iff.1 h
  rw [List.getElem_take] at he
  have hkj : k < j := by simp at hk; omega
  have := List.pairwise_iff_getElem.1 hp k j (by omega) hj hkj
  omega
theorem fc_start (els : List ElD) (s : Int) (h : ∀ y ∈ els, s ≤ y.sec) : fcS els s [] (List.replicate els.length 0) := by
  refine ⟨by simp, fun i y hy => ?_⟩
  have hi := (List.getElem?_eq_some_iff.1 hy).1
  have := h y (List.mem_of_getElem? hy)
  rw [List.getElem?_replicate, if_pos hi, if_neg (by omega)]; simp
theorem fc_step {els : List ElD} {s : Int} {ms fc : List Int} {i : Nat} {y : ElD} (h : fcS els s ms fc) (hy : els[i]? = some y) (hs : y.sec = s) (hn : (i : Int) ∉ ms) : fc[i]? = some 0 ∧ fcS els s (ms ++ [(i : Int)]) (fc.set i 1) := by
  have h0 := h.2 i y hy
  rw [if_neg (by omega), if_neg hn] at h0
  refine ⟨h0, by simp [h.1], fun k z hz => ?_⟩
  have hk := h.2 k z hz
  rw [List.getElem?_set]
  by_cases e : i = k
  · subst e
    rw [hy] at hz
    obtain rfl := Option.some.inj hz
    have hi : i < fc.length := (List.getElem?_eq_some_iff.1 h0).1
    rw [if_pos rfl, if_pos hi, if_neg (by omega), if_pos (by simp)]
  · rw [if_neg e, hk]
    have e2 : ((k : Int) ∈ ms ++ [(i : Int)]) ↔ (k : Int) ∈ ms := by simp; omega
    by_cases c1 : z.sec < s
    · simp [c1]
    · by_cases c2 : (k : Int) ∈ ms
      · rw [if_neg c1, if_neg c1, if_pos c2, if_pos (e2.2 c2)]
      · rw [if_neg c1, if_neg c1, if_neg c2, if_neg (fun hh => c2 (e2.1 hh))]
theorem fc_next {L : LayD} {s : Int} {fc : List Int} (hs : 0 ≤ s ∧ s < L.secs.length) (h : fcS L.els s (membersS L s) fc) : fcS L.els (s + 1) [] fc := by
  refine ⟨h.1, fun i y hy => ?_⟩
  rw [h.2 i y hy]
  by_cases c1 : y.sec < s
  · rw [if_pos c1, if_pos (by omega)]
  · by_cases c2 : y.sec = s
    · rw [if_neg c1, if_pos (mem_members hs hy c2), if_pos (by omega)]
    · have c3 : (i : Int) ∉ membersS L s := fun hm => by
        obtain ⟨k, z, hk, hz, hzs⟩ := members_mem hm
        have : i = k := by omega
        subst this
        rw [hy] at hz
        obtain rfl := Option.some.inj hz
        exact c2 hzs
      rw [if_neg c1, if_neg c3, if_neg (by omega)]; simp
theorem sum_set : ∀ (fc : List Int) (i : Nat), fc[i]? = some 0 → (fc.set i 1).sum = fc.sum + 1
  | [], i, h => by simp at h
  | x :: xs, 0, h => by simp at h; subst h; simp; omega
  | x :: xs, i + 1, h => by
    have := sum_set xs i (by simpa using h)
    simp only [List.set_cons_succ, List.sum_cons, this]; omega
theorem sum_ones : ∀ (fc : List Int), (∀ x ∈ fc, x = 1) → fc.sum = fc.length
  | [], _ => rfl
  | x :: xs, h => by
    have h1 := h x (by simp)
    have := sum_ones xs fun y hy => h y (by simp [hy])
    simp only [List.sum_cons, List.length_cons, this, h1]; omega
theorem fc_end {els : List ElD} {s : Int} {fc : List Int} (h : fcS els s [] fc) (hs : ∀ y ∈ els, y.sec < s) : fc.sum = els.length ∧ ∀ i, i < els.length → fc[i]? = some 1 := by
  have one : ∀ i, i < els.length → fc[i]? = some 1 := fun i hi => by
    rw [h.2 i _ (List.getElem?_eq_getElem hi), if_pos (hs _ (List.getElem_mem hi))]
  refine ⟨?_, one⟩
  rw [sum_ones fc fun x hx => ?_, h.1]
  obtain ⟨i, hi, rfl⟩ := List.getElem_of_mem hx
  have := one i (by rw [← h.1]; exact hi)
  rw [List.getElem?_eq_getElem hi] at this
  exact Option.some.inj this
theorem point_split : ∀ (els : List ElD) (i k : Nat), pointF i els = pointF i (els.take k) ++ pointF (i + k) (els.drop k)
  | [], i, k => by simp [pointF]
  | x :: xs, i, 0 => by simp [pointF]
  | x :: xs, i, k + 1 => by
    have ih := point_split xs (i + 1) k
    rw [List.take_succ_cons, List.drop_succ_cons, pointF, pointF, ih, show i + (k + 1) = i + 1 + k by omega]
    split <;> simp
theorem point_take : ∀ (els : List ElD) (i k : Nat) (y : ElD), els[k]? = some y → pointF i (els.take (k + 1)) = pointF i (els.take k) ++ (if y.kind = 2 then [((i + k : Nat) : Int)] else [])
  | [], i, k, y, h => by simp at h
  | x :: xs, i, 0, y, h => by
    simp at h; subst h
    simp only [List.take_succ_cons, List.take_zero, pointF, Nat.add_zero]
    split <;> simp
  | x :: xs, i, k + 1, y, h => by
    have ih := point_take xs (i + 1) k y (by simpa using h)
    rw [List.take_succ_cons, List.take_succ_cons, pointF, pointF, ih, show i + (k + 1) = i + 1 + k by omega]
    split <;> simp
end Go.Proofs.YthoodaldmfojaaaDoor
