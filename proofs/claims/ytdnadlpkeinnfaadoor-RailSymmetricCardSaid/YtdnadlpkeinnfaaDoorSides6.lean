/- Contracts of rail.Sides, rail.Facing and their references. Condition: what the program reads (GW). -/
import Derived.Test.YtdnadlpkeinnfaaDoorGlob6
namespace Go.Proofs.YtdnadlpkeinnfaaDoor
open Go.ChangeShapes Go.WideShapes Go.ChangeAt Go.RowKit
theorem sides_any (k : Int) (w : World) (hG : GW w) : Calls Tryd.prog 8 #[.int .i64 k] w fun e w' => e = .returned (.int .i64 (sidesS k)) ∧ w = w' := by
  by_cases h : k < 0 ∨ 4 ≤ k
  · have e : sidesS k = 0 := by unfold sidesS; rw [if_neg (by omega), if_neg (by omega), if_neg (by omega)]
    rw [e]
    rcases h with h | h
    · go_enter Tryd.func8, Tryd.ntmps8
      go_wp2
      go_ret
      exact ⟨rfl, rfl⟩
    · have h0 : ¬ (k < 0) := by omega
      go_enter Tryd.func8, Tryd.ntmps8
      go_wp2
      go_ret
      exact ⟨rfl, rfl⟩
  · have c0 := hG.side 0 _ rfl
    have c1 := hG.side 1 _ rfl
    have c2 := hG.side 2 _ rfl
    have c3 := hG.side 3 _ rfl
    have hk : k = 0 ∨ k = 1 ∨ k = 2 ∨ k = 3 := by omega
    clear h
    rcases hk with rfl | rfl | rfl | rfl
    all_goals
      go_enter Tryd.func8, Tryd.ntmps8
      go_wp2
      go_ret
      exact ⟨rfl, rfl⟩
theorem rsides_any (k : Int) (w : World) : Calls Tryd.prog 9 #[.int .i64 k] w fun e w' => e = .returned (.int .i64 (sidesS k)) ∧ w = w' := by
  rcases cls3 k with rfl | rfl | rfl | ⟨h1, h2, h3⟩
  · go_enter Tryd.func9, Tryd.ntmps9
    go_wp2
    go_ret
    exact ⟨rfl, rfl⟩
  · go_enter Tryd.func9, Tryd.ntmps9
    go_wp2
    go_ret
    exact ⟨rfl, rfl⟩
  · go_enter Tryd.func9, Tryd.ntmps9
    go_wp2
    go_ret
    exact ⟨rfl, rfl⟩
  have e : sidesS k = 0 := by unfold sidesS; rw [if_neg h1, if_neg h2, if_neg h3]
  rw [e]
  have b1 : (k == 1) = false := by simpa using h1
  have b2 : (k == 2) = false := by simpa using h2
  have b3 : (k == 3) = false := by simpa using h3
  go_enter Tryd.func9, Tryd.ntmps9
  go_wp2
  go_ret
  exact ⟨rfl, rfl⟩
theorem facing_of {k i : Int} {b : Bool} (F : FuncId) (w : World) (h : facing k i = b) (g : Calls Tryd.prog F #[.int .i64 k, .int .i64 i] w fun e w' => e = .returned (.bool b) ∧ w = w') :
    Calls Tryd.prog F #[.int .i64 k, .int .i64 i] w fun e w' => e = .returned (.bool (facing k i)) ∧ w = w' := by rw [h]; exact g
theorem facing_any (k i : Int) (w : World) : Calls Tryd.prog 13 #[.int .i64 k, .int .i64 i] w fun e w' => e = .returned (.bool (facing k i)) ∧ w = w' := by
  unfold facing
  cases hk : (k == 2)
  · go_enter Tryd.func13, Tryd.ntmps13
    go_wp2
    go_ret
    exact ⟨rfl, rfl⟩
  · go_enter Tryd.func13, Tryd.ntmps13
    go_wp2
    go_ret
    exact ⟨by simp, rfl⟩
theorem rfacing_any (k i : Int) (w : World) : Calls Tryd.prog 14 #[.int .i64 k, .int .i64 i] w fun e w' => e = .returned (.bool (facing k i)) ∧ w = w' := by
  unfold facing
  cases hk : (k == 2)
  · go_enter Tryd.func14, Tryd.ntmps14
    go_wp2
    go_ret
    exact ⟨rfl, rfl⟩
  · go_enter Tryd.func14, Tryd.ntmps14
    go_wp2
    go_ret
    exact ⟨by simp, rfl⟩
end Go.Proofs.YtdnadlpkeinnfaaDoor
