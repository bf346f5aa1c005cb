/- The walks of the six statements of layer 1: each returns true and changes nothing that was there. -/
import Derived.Test.YtnpmndophocgmaaNum
namespace Go.Proofs.Ytnpmndophocgmaa
open Go.ChangeShapes Go.WideShapes Go.ChangeAt Go.RowKit
theorem root_99 {r : Int} (h : IsRoot 99 r) : r = 9 := by
  obtain ⟨h0, h1, _, h3⟩ := h
  obtain ⟨h4, h5⟩ := h3 (by omega)
  have a : r < 10 := by
    by_cases hc : r < 10
    · exact hc
    · have : 10 * 10 ≤ r * r := Int.mul_le_mul (by omega) (by omega) (by omega) (by omega)
      omega
  have b : 9 ≤ r := by
    by_cases hc : 9 ≤ r
    · exact hc
    · have : (r+1) * (r+1) ≤ 9 * 9 := Int.mul_le_mul (by omega) (by omega) (by omega) (by omega)
      omega
  omega
theorem alive_ints : ∀ n ∈ ([9223372036854775807, 1, -2] : List Int), I64 n := by
  intro n hn
  simp at hn
  rcases hn with rfl | rfl | rfl <;> constructor <;> omega
set_option maxHeartbeats 400000 in
theorem alive_any (w : World) : Calls Try.prog 13 #[] w fun e w' => e = .returned (.bool true) ∧ Below w.heap.size w w' := by
  have f1 : flq (-7) 2 = -4 := by decide
  have f2 : fle (-7) 2 = 0 := by decide
  have f3 : ceq (-7) 2 = -3 := by decide
  have f4 : clampI 5 1 3 = 3 := by decide
  have f5 := Lib.hid (show clamp64 ([9223372036854775807, 1, -2] : List Int).sum = 9223372036854775806 by decide)
  go_enter Try.func13, Try.ntmps13
  go_wp2_with fail
  refine (floor_any _ _ (by omega) (by omega) (by omega) (by omega) _).mono ?_
  rintro e w' ⟨rfl, rfl⟩
  go_wp2_with fail
  refine (ceil_any _ _ (by omega) (by omega) (by omega) (by omega) _).mono ?_
  rintro e w' ⟨rfl, rfl⟩
  go_wp2_with fail
  refine (root_any _ (by omega) (by omega) _).mono ?_
  rintro e w' ⟨r, rfl, hr, rfl⟩
  obtain rfl := root_99 hr
  clear hr
  go_wp2_with fail
  refine (clamp_any _ _ _ _).mono ?_
  rintro e w' ⟨rfl, rfl⟩
  go_wp2_with fail
  refine (sum_any _ [9223372036854775807, 1, -2] _ (RS.new _ _ _ _ _ _ rfl rfl (by decide)) (by decide) alive_ints).mono ?_
  rintro e w' ⟨rfl, rfl⟩
  rw [f5.out]
  go_wp2
  go_ret
  exact ⟨rfl, (Below.refl _ _).alloc (Nat.le_refl _) _⟩
set_option maxHeartbeats 400000 in
theorem floors_any (a b : Int) (h1 : I64 a) (h2 : I64 b) (w : World) :
    Calls Try.prog 3 #[.int .i64 a, .int .i64 b] w fun e w' => e = .returned (.bool true) ∧ Below w.heap.size w w' := by
  obtain ⟨a1, a2⟩ := h1
  obtain ⟨b1, b2⟩ := h2
  go_enter Try.func3, Try.ntmps3
  go_wp2_with fail
  refine (floor_any _ _ a1 a2 b1 b2 _).mono ?_
  rintro e w' ⟨rfl, rfl⟩
  go_wp2_with fail
  refine (rfloor_any _ _ a1 a2 b1 b2 _).mono ?_
  rintro e w' ⟨rfl, rfl⟩
  go_wp2_with fail
  refine (ceil_any _ _ a1 a2 b1 b2 _).mono ?_
  rintro e w' ⟨rfl, rfl⟩
  go_wp2_with fail
  refine (rceil_any _ _ a1 a2 b1 b2 _).mono ?_
  rintro e w' ⟨rfl, rfl⟩
  go_wp2_with fail
  refine (alive_any _).mono ?_
  rintro e w' ⟨rfl, hb⟩
  go_wp2
  go_ret
  exact ⟨rfl, hb⟩
theorem wrap64_sub (a x : Int) : wrap64 (a - wrap64 x) = wrap64 (a - x) := by unfold wrap64; omega
theorem rest_spec (a b : Int) (h1 : -9223372036854775808 ≤ a) (h2 : a ≤ 9223372036854775807) (h3 : -9223372036854775808 ≤ b) (h4 : b ≤ 9223372036854775807) (hz : fle a b = 0) :
    ∃ R, wrap64 (a - wrap64 (flq a b * b)) = R ∧ (0 < b ∧ 0 ≤ R ∧ R < b ∨ b < 0 ∧ b < R ∧ R ≤ 0) ∧ (R = 0 ∧ ceq a b = flq a b ∨ R ≠ 0 ∧ ceq a b = flq a b + 1) ∧ -9223372036854775808 ≤ flq a b ∧ flq a b ≤ 9223372036854775807 ∧ -9223372036854775808 ≤ ceq a b ∧ ceq a b ≤ 9223372036854775807 := by
  have hb : b ≠ 0 := by intro h; simp [fle, h] at hz
  have hm : ¬ (a = -9223372036854775808 ∧ b = -1) := by intro h; simp [fle, h] at hz
  have T1 := tdiv_lo a b h1 h2 hb
  have T := tdiv_bounds a b h1 h2 hb hm
  have Q : flq a b = if a.tmod b ≠ 0 ∧ ¬ (a < 0 ↔ b < 0) then a.tdiv b - 1 else a.tdiv b := by simp [flq, hb, hm]
  have C : ceq a b = if a.tmod b ≠ 0 then flq a b + 1 else flq a b := by simp [ceq, hz]
  have E := Int.tmod_add_mul_tdiv a b
  have A : a.tmod b < 0 → a < 0 := fun h => by
    by_cases ha : a < 0
    · exact ha
    · have := Int.tmod_nonneg b (show 0 ≤ a by omega); omega
  have B : 0 < a.tmod b → 0 < a := fun h => by
    by_cases ha : 0 < a
    · exact ha
    · have := Int.tmod_nonneg b (show 0 ≤ -a by omega); rw [Int.neg_tmod] at this; omega
  have L : (a.tmod b).natAbs < b.natAbs := by
    rw [Int.natAbs_tmod]; exact Nat.mod_lt _ (by omega)
  have key : ∀ R : Int, flq a b * b = a - R → -9223372036854775808 ≤ R → R ≤ 9223372036854775807 → wrap64 (a - wrap64 (flq a b * b)) = R := by
    intro R h x y
    rw [wrap64_sub, h]; unfold wrap64; omega
  by_cases hr : a.tmod b = 0
  · refine ⟨0, key 0 ?_ (by omega) (by omega), by omega, Or.inl ⟨rfl, by rw [C, if_neg (by simp [hr])]⟩, ?_⟩
    · rw [Q, if_neg (by simp [hr]), Int.mul_comm]; omega
    · rw [C, if_neg (by simp [hr]), Q, if_neg (by simp [hr])]; omega
  · have T1 := T1 hr
    by_cases hs : (a < 0 ↔ b < 0)
    · refine ⟨a.tmod b, key _ ?_ (by omega) (by omega), by omega, Or.inr ⟨hr, by rw [C, if_pos (by simp [hr])]⟩, ?_⟩
      · rw [Q, if_neg (by simp [hs]), Int.mul_comm]; omega
      · rw [C, if_pos (by simp [hr]), Q, if_neg (by simp [hs])]; omega
    · refine ⟨a.tmod b + b, key _ ?_ (by omega) (by omega), by omega, Or.inr ⟨by omega, by rw [C, if_pos (by simp [hr])]⟩, ?_⟩
      · rw [Q, if_pos ⟨hr, hs⟩, Int.mul_comm, Int.mul_sub]; omega
      · rw [C, if_pos (by simp [hr]), Q, if_pos ⟨hr, hs⟩]; omega
theorem fle_ne {a b : Int} (h : fle a b ≠ 0) : (b = 0 ∨ a = -9223372036854775808 ∧ b = -1) ∧ flq a b = 0 ∧ ceq a b = 0 := by
  by_cases hb : b = 0
  · simp [hb, flq, ceq, fle]
  · by_cases hm : a = -9223372036854775808 ∧ b = -1
    · simp [hm, flq, ceq, fle]
    · simp [fle, hb, hm] at h
theorem fle_z {a b : Int} (h : fle a b = 0) : b ≠ 0 ∧ ¬ (a = -9223372036854775808 ∧ b = -1) := by
  constructor
  · intro h'; simp [fle, h'] at h
  · intro h'; simp [fle, h'] at h
set_option maxHeartbeats 1000000 in
theorem rests_any (a b : Int) (h1 : I64 a) (h2 : I64 b) (w : World) :
    Calls Try.prog 4 #[.int .i64 a, .int .i64 b] w fun e w' => e = .returned (.bool true) ∧ Below w.heap.size w w' := by
  obtain ⟨a1, a2⟩ := h1
  obtain ⟨b1, b2⟩ := h2
  by_cases hz : fle a b = 0
  · obtain ⟨R, hR, hr1, hr2, q1, q2, q3, q4⟩ := rest_spec a b a1 a2 b1 b2 hz
    obtain ⟨z1, z2⟩ := fle_z hz
    have e1 : (b == 0) = false := by simp [z1]
    have e2 : ((a == -9223372036854775808) = true ∧ (b == -1) = false) ∨ (a == -9223372036854775808) = false := by simp; omega
    clear z2
    have y3 : ((R == 0) = true ∧ (ceq a b == flq a b) = true ∨ (R == 0) = false ∧ (ceq a b == flq a b) = false) := by
      rcases hr2 with ⟨y1, y2⟩ | ⟨y1, y2⟩
      · left; simp [y1, y2]
      · right; simp [y1, y2]; omega
    have y4 : ceq a b - flq a b ≤ 1 := by omega
    have y5 : flq a b ≤ ceq a b := by omega
    clear hr2
    rcases hr1 with ⟨x1, x2, x3⟩ | ⟨x1, x2, x3⟩
    all_goals
    rcases y3 with ⟨y1, y2⟩ | ⟨y1, y2⟩
    all_goals
    rcases e2 with ⟨e2, e3⟩ | e2
    all_goals
      go_enter Try.func4, Try.ntmps4
      go_wp2_with fail
      refine (floor_any _ _ a1 a2 b1 b2 _).mono ?_
      rintro e w' ⟨rfl, rfl⟩
      go_wp2_with fail
      refine (ceil_any _ _ a1 a2 b1 b2 _).mono ?_
      rintro e w' ⟨rfl, rfl⟩
      go_wp2_with fail
      refine (alive_any _).mono ?_
      rintro e w' ⟨rfl, hb⟩
      go_wp2
      go_ret
      exact ⟨rfl, hb⟩
  · obtain ⟨h0, h5, h6⟩ := fle_ne hz
    have e3 : (fle a b != 0) = true := by simp [hz]
    clear hz
    rcases h0 with rfl | ⟨rfl, rfl⟩
    all_goals
      go_enter Try.func4, Try.ntmps4
      go_wp2_with fail
      refine (floor_any _ _ a1 a2 b1 b2 _).mono ?_
      rintro e w' ⟨rfl, rfl⟩
      go_wp2_with fail
      refine (ceil_any _ _ a1 a2 b1 b2 _).mono ?_
      rintro e w' ⟨rfl, rfl⟩
      go_wp2_with fail
      refine (alive_any _).mono ?_
      rintro e w' ⟨rfl, hb⟩
      go_wp2
      go_ret
      exact ⟨rfl, hb⟩

set_option maxHeartbeats 1000000 in
theorem roots_any (n : Int) (h1 : I64 n) (w : World) :
    Calls Try.prog 5 #[.int .i64 n] w fun e w' => e = .returned (.bool true) ∧ Below w.heap.size w w' := by
  obtain ⟨a1, a2⟩ := h1
  by_cases hn : n < 0
  · go_enter Try.func5, Try.ntmps5
    go_wp2_with fail
    refine (root_any _ a1 a2 _).mono ?_
    rintro e w' ⟨r, rfl, ⟨r0, r1, r2, r3⟩, rfl⟩
    obtain rfl := r2 hn
    clear r2 r3
    go_wp2_with fail
    refine (alive_any _).mono ?_
    rintro e w' ⟨rfl, hb⟩
    go_wp2
    go_ret
    exact ⟨rfl, hb⟩
  · go_enter Try.func5, Try.ntmps5
    go_wp2_with fail
    refine (root_any _ a1 a2 _).mono ?_
    rintro e w' ⟨r, rfl, ⟨r0, r1, r2, r3⟩, rfl⟩
    obtain ⟨r3, r4⟩ := r3 (by omega)
    have m0 : 0 ≤ r * r := Int.mul_nonneg r0 r0
    have d : n / (r+1) < r + 1 := Int.ediv_lt_of_lt_mul (by omega) r4
    have d0 := Int.ediv_le_self (r+1) (show 0 ≤ n by omega)
    clear r2 r4
    go_wp2_with fail
    refine (alive_any _).mono ?_
    rintro e w' ⟨rfl, hb⟩
    go_wp2
    go_ret
    exact ⟨rfl, hb⟩
set_option maxHeartbeats 1000000 in
theorem clamps_any (n lo hi : Int) (w : World) :
    Calls Try.prog 6 #[.int .i64 n, .int .i64 lo, .int .i64 hi] w fun e w' => e = .returned (.bool true) ∧ Below w.heap.size w w' := by
  have c : ((clampI n lo hi == n) = true) ∨ ((clampI n lo hi == n) = false) ∧ ((clampI n lo hi == lo) = true) ∨ ((clampI n lo hi == n) = false) ∧ ((clampI n lo hi == lo) = false) ∧ ((clampI n lo hi == hi) = true) := by
    simp [clampI]; omega
  rcases c with c1 | ⟨c1, c2⟩ | ⟨c1, c2, c3⟩
  all_goals
    go_enter Try.func6, Try.ntmps6
    go_wp2_with fail
    refine (clamp_any _ _ _ _).mono ?_
    rintro e w' ⟨rfl, rfl⟩
    go_wp2_with fail
    refine (rclamp_any _ _ _ _).mono ?_
    rintro e w' ⟨rfl, rfl⟩
    go_wp2_with fail
    refine (alive_any _).mono ?_
    rintro e w' ⟨rfl, hb⟩
    go_wp2
    go_ret
    exact ⟨rfl, hb⟩
set_option maxHeartbeats 1000000 in
theorem sums_any (v : Value) (l : List Int) (w : World) (hv : RS w v (intsV l)) (hi : ∀ n ∈ l, I64 n) :
    Calls Try.prog 7 #[v] w fun e w' => e = .returned (.bool true) ∧ Below w.heap.size w w' := by
  have hv' := hv
  obtain ⟨a, cap, rfl, hm, hc⟩ := hv'
  have HV := Lib.hid hv
  have HI := Lib.hid hi
  clear hv hi hc
  simp only [intsV, List.length_map] at hm HV ⊢
  by_cases hl : 300 < l.length
  · have hl' : (300 : Int) < (l.length : Int) := by omega
    go_enter Try.func7, Try.ntmps7
    go_wp2_with fail
    refine (alive_any _).mono ?_
    rintro e w' ⟨rfl, hb⟩
    go_wp2
    go_ret
    exact ⟨rfl, hb⟩
  · have hl' : ¬ ((300 : Int) < (l.length : Int)) := by omega
    go_enter Try.func7, Try.ntmps7
    go_wp2_with fail
    refine (sum_any _ l _ HV.out (by omega) HI.out).mono ?_
    rintro e w' ⟨rfl, rfl⟩
    go_wp2_with fail
    refine (rsum_any _ l _ HV.out (by omega) HI.out).mono ?_
    rintro e w' ⟨rfl, rfl⟩
    go_wp2_with fail
    refine (alive_any _).mono ?_
    rintro e w' ⟨rfl, hb⟩
    go_wp2
    go_ret
    exact ⟨rfl, hb⟩
end Go.Proofs.Ytnpmndophocgmaa
