/- Plain mathematics of the passages: the table of them, what is found in it, and what the chapter says of both. Conditions: none. -/
namespace Go.Proofs.YtdnadlpkeinnfaaDoor
abbrev Row4 := Int × Int × Int × Int
def tab : List Row4 := [(1,0,1,0),(1,1,0,0),(2,0,1,1),(2,0,2,2),(2,1,0,1),(2,2,0,2),(3,0,1,0),(3,1,0,0),(3,2,3,0),(3,3,2,0)]
def sidesS (k : Int) : Int := if k = 1 then 2 else if k = 2 then 3 else if k = 3 then 4 else 0
def facing (k i : Int) : Bool := k == 2 && i == 0
def outF (k i p : Int) : List Row4 → Int × Bool
  | [] => (0, false)
  | (a, b, c, d) :: rs => if a = k ∧ b = i ∧ (d = 0 ∨ d = p) then (c, true) else outF k i p rs
def needF (k i o : Int) : List Row4 → Int × Bool
  | [] => (0, false)
  | (a, b, c, d) :: rs => if a = k ∧ b = i ∧ c = o then (d, true) else needF k i o rs
def legsF (k i : Int) : List Row4 → List Int
  | [] => []
  | (a, b, c, _) :: rs => if a = k ∧ b = i then c :: legsF k i rs else legsF k i rs
/-- What the reference says. -/
def needR (k i o : Int) : Int × Bool :=
  if k = 1 ∨ k = 3 then (0, (min i o == 0 && max i o == 1) || (k == 3 && min i o == 2 && max i o == 3))
  else if k = 2 ∧ min i o = 0 ∧ max i o = 1 then (1, true)
  else if k = 2 ∧ min i o = 0 ∧ max i o = 2 then (2, true)
  else (0, false)
def outG (k i p : Int) : List Int → Int × Bool
  | [] => (0, false)
  | o :: os => if (needR k i o).2 = true ∧ ((needR k i o).1 = 0 ∨ (needR k i o).1 = p) then (o, true) else outG k i p os
def legsG (k i : Int) : List Int → List Int
  | [] => []
  | o :: os => if (needR k i o).2 = true then o :: legsG k i os else legsG k i os
theorem cls3 (k : Int) : k = 1 ∨ k = 2 ∨ k = 3 ∨ (k ≠ 1 ∧ k ≠ 2 ∧ k ≠ 3) := by omega
theorem cls4 (i : Int) : i = 0 ∨ i = 1 ∨ i = 2 ∨ i = 3 ∨ (i < 0 ∨ 3 < i) := by omega
theorem need_none (k i o : Int) (h : (k ≠ 1 ∧ k ≠ 2 ∧ k ≠ 3) ∨ (i < 0 ∨ 3 < i) ∨ (o < 0 ∨ 3 < o)) : needF k i o tab = (0, false) := by
  simp only [needF, tab]
  repeat rw [if_neg (by omega)]
theorem needR_none (k i o : Int) (h : (k ≠ 1 ∧ k ≠ 2 ∧ k ≠ 3) ∨ (i < 0 ∨ 3 < i) ∨ (o < 0 ∨ 3 < o)) : needR k i o = (0, false) := by
  simp only [needR]
  by_cases h13 : k = 1 ∨ k = 3
  · rw [if_pos h13]
    have h1 : (min i o == 0 && max i o == 1) = false := by
      rw [Bool.eq_false_iff]; intro hh; simp at hh; omega
    have h2 : (k == 3 && min i o == 2 && max i o == 3) = false := by
      rw [Bool.eq_false_iff]; intro hh; simp at hh; omega
    rw [h1, h2]; rfl
  · rw [if_neg h13, if_neg (by omega), if_neg (by omega)]
theorem need_eq (k i o : Int) : needR k i o = needF k i o tab := by
  by_cases h : (k ≠ 1 ∧ k ≠ 2 ∧ k ≠ 3) ∨ (i < 0 ∨ 3 < i) ∨ (o < 0 ∨ 3 < o)
  · rw [needR_none k i o h, need_none k i o h]
  · rcases cls3 k with rfl | rfl | rfl | hk <;> try omega
    all_goals rcases cls4 i with rfl | rfl | rfl | rfl | hi <;> try omega
    all_goals rcases cls4 o with rfl | rfl | rfl | rfl | ho <;> first | omega | decide
theorem out_none (k i p : Int) (h : (k ≠ 1 ∧ k ≠ 2 ∧ k ≠ 3) ∨ (i < 0 ∨ 3 < i)) : outF k i p tab = (0, false) := by
  simp only [outF, tab]
  repeat rw [if_neg (by omega)]
theorem outG_none (k i p : Int) (h : (k ≠ 1 ∧ k ≠ 2 ∧ k ≠ 3) ∨ (i < 0 ∨ 3 < i)) : ∀ os, outG k i p os = (0, false)
  | [] => rfl
  | o :: os => by
    have e := needR_none k i o (by omega)
    rw [outG, e, outG_none k i p h os]; simp
theorem out_eq (k i p : Int) : outG k i p [0, 1, 2, 3] = outF k i p tab := by
  by_cases h : (k ≠ 1 ∧ k ≠ 2 ∧ k ≠ 3) ∨ (i < 0 ∨ 3 < i)
  · rw [outG_none k i p h, out_none k i p h]
  · rcases cls3 k with rfl | rfl | rfl | hk <;> try omega
    all_goals rcases cls4 i with rfl | rfl | rfl | rfl | hi <;> try omega
    all_goals simp [outG, need_eq, needF, outF, tab]
theorem legs_eq (k i : Int) : legsG k i [0, 1, 2, 3] = legsF k i tab := by
  by_cases h : (k ≠ 1 ∧ k ≠ 2 ∧ k ≠ 3) ∨ (i < 0 ∨ 3 < i)
  · have e : ∀ os, legsG k i os = [] := by
      intro os
      induction os with
      | nil => rfl
      | cons o os ih => have e := needR_none k i o (by omega); rw [legsG, e, ih]; simp
    rw [e]
    simp only [legsF, tab]
    repeat rw [if_neg (by omega)]
  · rcases cls3 k with rfl | rfl | rfl | hk <;> try omega
    all_goals rcases cls4 i with rfl | rfl | rfl | rfl | hi <;> first | omega | decide
theorem need_sym (k i o : Int) : needF k i o tab = needF k o i tab := by
  rw [← need_eq, ← need_eq]; simp only [needR, Int.min_comm i o, Int.max_comm i o]
/-- A passage that is possible leads to another side that exists, and back. -/
theorem out_back (k i p : Int) (h : (outF k i p tab).2 = true) :
    outF k (outF k i p tab).1 p tab = (i, true) ∧ (outF k i p tab).1 ≠ i ∧ 0 ≤ (outF k i p tab).1 ∧ (outF k i p tab).1 < sidesS k := by
  by_cases h' : (k ≠ 1 ∧ k ≠ 2 ∧ k ≠ 3) ∨ (i < 0 ∨ 3 < i)
  · rw [out_none k i p h'] at h; cases h
  · rcases cls3 k with rfl | rfl | rfl | hk <;> try omega
    all_goals rcases cls4 i with rfl | rfl | rfl | rfl | hi <;> try omega
    all_goals first
      | (simp [outF, tab, sidesS] at h ⊢; done)
      | (by_cases p1 : p = 1
         · subst p1; revert h; decide
         · by_cases p2 : p = 2
           · subst p2; revert h; decide
           · have q1 : ¬ ((1 : Int) = p) := by omega
             have q2 : ¬ ((2 : Int) = p) := by omega
             simp [outF, tab, q1, q2] at h)
/-- Two sides never lead to the same side. -/
theorem out_inj (k i o p : Int) (h1 : (outF k i p tab).2 = true) (h2 : (outF k o p tab).2 = true) (h : (outF k i p tab).1 = (outF k o p tab).1) : i = o := by
  have a := (out_back k i p h1).1
  have b := (out_back k o p h2).1
  rw [h, b] at a
  exact (congrArg Prod.fst a).symm
/-- A passage is possible in a position exactly if it needs this position, or none. -/
theorem out_need (k i o p : Int) : ((outF k i p tab).2 = true ∧ (outF k i p tab).1 = o) ↔ ((needF k i o tab).2 = true ∧ ((needF k i o tab).1 = 0 ∨ (needF k i o tab).1 = p)) := by
  by_cases h' : (k ≠ 1 ∧ k ≠ 2 ∧ k ≠ 3) ∨ (i < 0 ∨ 3 < i)
  · rw [out_none k i p h', need_none k i o (by omega)]; simp
  · by_cases ho : o < 0 ∨ 3 < o
    · rw [need_none k i o (by omega)]
      constructor
      · rintro ⟨h1, h2⟩
        have := out_back k i p h1
        have h4 : sidesS k ≤ 4 := by unfold sidesS; split <;> (try split) <;> (try split) <;> omega
        omega
      · rintro ⟨h1, _⟩; cases h1
    · rcases cls3 k with rfl | rfl | rfl | hk <;> try omega
      all_goals rcases cls4 i with rfl | rfl | rfl | rfl | hi <;> try omega
      all_goals rcases cls4 o with rfl | rfl | rfl | rfl | hi <;> try omega
      all_goals first
        | (simp [outF, needF, tab]; done)
        | (by_cases p1 : p = 1
           · subst p1; decide
           · by_cases p2 : p = 2
             · subst p2; decide
             · have q1 : ¬ ((1 : Int) = p) := by omega
               have q2 : ¬ ((2 : Int) = p) := by omega
               simp [outF, needF, tab, q1, q2])
theorem mem_legs (k i o : Int) : ∀ rs, (o ∈ legsF k i rs) ↔ (needF k i o rs).2 = true
  | [] => by simp [legsF, needF]
  | (a, b, c, d) :: rs => by
    have ih := mem_legs k i o rs
    unfold legsF needF
    by_cases h : a = k ∧ b = i
    · rw [if_pos h]
      by_cases hc : c = o
      · rw [if_pos ⟨h.1, h.2, hc⟩]; simp [hc]
      · rw [if_neg (fun hh => hc hh.2.2)]; simp [ih, Ne.symm hc]
    · rw [if_neg h, if_neg (fun hh => h ⟨hh.1, hh.2.1⟩)]; exact ih
def legsN (k i : Int) : Nat := if i < 0 ∨ sidesS k ≤ i then 0 else if facing k i = true then 2 else 1
theorem legs_len (k i : Int) : (legsF k i tab).length = legsN k i := by
  by_cases h' : (k ≠ 1 ∧ k ≠ 2 ∧ k ≠ 3) ∨ (i < 0 ∨ 3 < i)
  · have e : legsF k i tab = [] := by
      simp only [legsF, tab]
      repeat rw [if_neg (by omega)]
    rw [e, legsN, if_pos]; rfl
    unfold sidesS; split <;> (try split) <;> (try split) <;> omega
  · rcases cls3 k with rfl | rfl | rfl | hk <;> try omega
    all_goals rcases cls4 i with rfl | rfl | rfl | rfl | hi <;> first | omega | decide
theorem legs_most (k i : Int) : (legsF k i tab).length ≤ 2 := by
  rw [legs_len]; unfold legsN; split <;> (try split) <;> omega
end Go.Proofs.YtdnadlpkeinnfaaDoor
