/- What the program reads; contracts of rail.Sides, within, isIndex. Conditions: what the program reads (GW); a length that is one. -/
import Derived.Test.YthoodaldmfojaaaDoorFew7
import Derived.Laws.Rows
namespace Go.Proofs.YthoodaldmfojaaaDoor
open Go.ChangeShapes Go.WideShapes Go.ChangeAt Go.RowKit
def sideC : Array Value := #[.int .i64 0, .int .i64 2, .int .i64 3, .int .i64 4]
/-- WHAT THE PROGRAM READS: its table. -/
def GW (w : World) : Prop := ∃ t fr, w.heap[0]? = some (.cells sideC t fr)
theorem GW.below {w w' : World} (h : GW w) (hb : Below w.heap.size w w') : GW w' := by
  obtain ⟨t, fr, h0⟩ := h
  exact ⟨t, fr, by rw [hb.block _ (Array.getElem?_eq_some_iff.1 h0).1]; exact h0⟩
theorem GW.side {w : World} (h : GW w) (j : Nat) (x : Value) (hx : sideC[j]? = some x) : w.cell? ⟨0, j, none⟩ = some x := by
  obtain ⟨t, fr, h0⟩ := h
  rw [cell_of_row w _ j sideC t fr h0]; exact hx
theorem sides_any (k : Int) (w : World) (hG : GW w) : Calls Tryd.prog 58 #[.int .i64 k] w fun e w' => e = .returned (.int .i64 (sidesS k)) ∧ w = w' := by
  by_cases h : k < 0 ∨ 4 ≤ k
  · have e : sidesS k = 0 := by unfold sidesS; rw [if_neg (by omega), if_neg (by omega), if_neg (by omega)]
    rw [e]
    rcases h with h | h
    · go_enter Tryd.func58, Tryd.ntmps58
      go_wp2
      go_ret
      exact ⟨rfl, rfl⟩
    · have h0 : ¬ (k < 0) := by omega
      go_enter Tryd.func58, Tryd.ntmps58
      go_wp2
      go_ret
      exact ⟨rfl, rfl⟩
  · have c0 := hG.side 0 _ rfl
    have c1 := hG.side 1 _ rfl
    have c2 := hG.side 2 _ rfl
    have c3 := hG.side 3 _ rfl
    have hk : k = 0 ∨ k = 1 ∨ k = 2 ∨ k = 3 := by omega
    clear h
    rcases hk with rfl | rfl | rfl | rfl
    all_goals
      go_enter Tryd.func58, Tryd.ntmps58
      go_wp2
      go_ret
      exact ⟨rfl, rfl⟩
def wiB (n lo hi : Int) : Bool := decide (lo ≤ n) && decide (n ≤ hi)
theorem within_any (n lo hi : Int) (w : World) : Calls Tryd.prog 44 #[.int .i64 n, .int .i64 lo, .int .i64 hi] w fun e w' => e = .returned (.bool (wiB n lo hi)) ∧ w = w' := by
  unfold wiB
  by_cases h : lo ≤ n
  · have t1 : decide (lo ≤ n) = true := by simpa using h
    rw [t1]
    clear h
    cases h2 : decide (n ≤ hi) <;>
    · go_enter Tryd.func44, Tryd.ntmps44
      go_wp2
      go_ret
      exact ⟨rfl, rfl⟩
  · have t1 : decide (lo ≤ n) = false := by simpa using h
    rw [t1]
    clear h
    go_enter Tryd.func44, Tryd.ntmps44
    go_wp2
    go_ret
    exact ⟨rfl, rfl⟩
theorem isIndex_any (n k : Int) (w : World) (h0 : 0 ≤ k) (h1 : k ≤ 9223372036854775807) : Calls Tryd.prog 38 #[.int .i64 n, .int .i64 k] w fun e w' => e = .returned (.bool (decide (0 ≤ n) && decide (n < k))) ∧ w = w' := by
  have E : wiB n 0 (k - 1) = (decide (0 ≤ n) && decide (n < k)) := by
    unfold wiB
    by_cases h : n < k <;> simp [h] <;> omega
  rw [← E]
  clear E
  have K := fun ww => within_any n 0 (k - 1) ww
  obtain ⟨q, hq⟩ : ∃ q, wiB n 0 (k - 1) = q := ⟨_, rfl⟩
  rw [hq]
  simp only [hq] at K
  clear hq
  go_enter Tryd.func38, Tryd.ntmps38
  go_wp2_with (go_at_call 44; refine (K _).mono ?_; rintro e w' ⟨rfl, rfl⟩)
  go_ret
  exact ⟨rfl, rfl⟩
end Go.Proofs.YthoodaldmfojaaaDoor
