/- Contract of the reference's Need. Conditions: none. -/
import Derived.Test.YtdnadlpkeinnfaaDoorLegs6
namespace Go.Proofs.YtdnadlpkeinnfaaDoor
open Go.ChangeShapes Go.WideShapes Go.ChangeAt Go.RowKit
def needM (k lo hi : Int) : Int × Bool :=
  if k = 1 ∨ k = 3 then (0, (lo == 0 && hi == 1) || (k == 3 && lo == 2 && hi == 3))
  else if k = 2 ∧ lo = 0 ∧ hi = 1 then (1, true)
  else if k = 2 ∧ lo = 0 ∧ hi = 2 then (2, true)
  else (0, false)
theorem needM_eq (k i o : Int) : needR k i o = needM k (min i o) (max i o) := rfl
theorem run_min_int {P : Program} (w : World) (ts : Array TypeId) (t : TypeId) (x y : Int) : (Builtin.min_ ts t #[.int .i64 x, .int .i64 y]).run P w = .ok (.int .i64 (min x y)) w := by
  have e : (if y < x then y else x) = min x y := by omega
  simp [Builtin.min_, Builtin.min2, e]
theorem run_max_int {P : Program} (w : World) (ts : Array TypeId) (t : TypeId) (x y : Int) : (Builtin.max_ ts t #[.int .i64 x, .int .i64 y]).run P w = .ok (.int .i64 (max x y)) w := by
  have e : (if y > x then y else x) = max x y := by omega
  simp [Builtin.max_, Builtin.max2, e]
set_option maxRecDepth 100000 in
set_option maxHeartbeats 4000000 in
theorem rneed_any (k i o : Int) (w : World) : Calls Tryd.prog 19 #[.int .i64 k, .int .i64 i, .int .i64 o] w fun e w' => e = .returned (outV (needF k i o tab)) ∧ w = w' := by
  rw [← need_eq, needM_eq]
  have M1 : ∀ ww : World, (Builtin.min_ #[3, 3] 3 #[.int .i64 i, .int .i64 o]).run Tryd.prog ww = .ok (.int .i64 (min i o)) ww := fun ww => run_min_int ww _ _ i o
  have M2 : ∀ ww : World, (Builtin.max_ #[3, 3] 3 #[.int .i64 i, .int .i64 o]).run Tryd.prog ww = .ok (.int .i64 (max i o)) ww := fun ww => run_max_int ww _ _ i o
  obtain ⟨lo, hlo⟩ : ∃ lo, min i o = lo := ⟨_, rfl⟩
  obtain ⟨hi, hhi⟩ : ∃ hi, max i o = hi := ⟨_, rfl⟩
  rw [hlo] at M1 ⊢
  rw [hhi] at M2 ⊢
  clear hlo hhi
  rcases cls3 k with rfl | rfl | rfl | ⟨h1, h2, h3⟩
  · cases b0 : (lo == 0) <;> cases b1 : (hi == 1)
    all_goals
      go_enter Tryd.func19, Tryd.ntmps19
      go_wp2
      go_ret2
      exact ⟨by simp [needM, outV, b0, b1], rfl⟩
  · cases b0 : (lo == 0) <;> cases b1 : (hi == 1) <;> cases b2 : (hi == 2)
    all_goals
      go_enter Tryd.func19, Tryd.ntmps19
      go_wp2
      go_ret2
      exact ⟨by simp at b0 b1 b2; simp [needM, outV, b0, b1, b2], rfl⟩
  · cases b0 : (lo == 0) <;> cases b1 : (hi == 1) <;> cases b2 : (lo == 2) <;> cases b3 : (hi == 3)
    all_goals
      go_enter Tryd.func19, Tryd.ntmps19
      go_wp2
      go_ret2
      exact ⟨by simp [needM, outV, b0, b1, b2, b3], rfl⟩
  · have b1 : (k == 1) = false := by simpa using h1
    have b2 : (k == 2) = false := by simpa using h2
    have b3 : (k == 3) = false := by simpa using h3
    have e : needM k lo hi = (0, false) := by simp [needM, h1, h2, h3]
    rw [e]
    go_enter Tryd.func19, Tryd.ntmps19
    go_wp2
    go_ret2
    exact ⟨rfl, rfl⟩
end Go.Proofs.YtdnadlpkeinnfaaDoor
