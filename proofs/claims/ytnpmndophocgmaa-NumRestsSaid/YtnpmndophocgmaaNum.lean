/- Contracts of num and its reference: Floor, Ceil, Root, Clamp, Sum. Conditions: the arguments are ints; lists of at most 300 numbers. -/
import Derived.Test.YtnpmndophocgmaaRows
import Derived.Test.YtnpmndophocgmaaLib
namespace Go.Proofs.Ytnpmndophocgmaa
open Go.ChangeShapes Go.WideShapes Go.ChangeAt Go.RowKit
def flq (a b : Int) : Int := if b = 0 then 0 else if a = -9223372036854775808 ∧ b = -1 then 0 else if a.tmod b ≠ 0 ∧ ¬ (a < 0 ↔ b < 0) then a.tdiv b - 1 else a.tdiv b
def fle (a b : Int) : Int := if b = 0 then 1 else if a = -9223372036854775808 ∧ b = -1 then 17 else 0
def ceq (a b : Int) : Int := if fle a b = 0 ∧ a.tmod b ≠ 0 then flq a b + 1 else flq a b
theorem tdiv_big (a b : Int) (hb : b ≠ 0) (h1 : b ≠ 1) (h2 : b ≠ -1) : -a.natAbs ≤ 2 * a.tdiv b ∧ 2 * a.tdiv b ≤ a.natAbs := by
  have h := Int.natAbs_tdiv a b
  have : a.natAbs / b.natAbs ≤ a.natAbs / 2 := Nat.div_le_div_left (by omega) (by omega)
  rw [show a.natAbs.div b.natAbs = a.natAbs / b.natAbs from rfl] at h
  omega
theorem tdiv_bounds (a b : Int) (h1 : -9223372036854775808 ≤ a) (h2 : a ≤ 9223372036854775807) (hb : b ≠ 0) (hm : ¬ (a = -9223372036854775808 ∧ b = -1)) :
   -9223372036854775808 ≤ a.tdiv b ∧ a.tdiv b ≤ 9223372036854775807 := by
  by_cases h3 : b = -1
  · subst h3; simp at *; omega
  by_cases h4 : b = 1
  · subst h4; simp at *; omega
  have := tdiv_big a b hb h4 h3
  omega
theorem tdiv_lo (a b : Int) (h1 : -9223372036854775808 ≤ a) (h2 : a ≤ 9223372036854775807) (hb : b ≠ 0) (hr : a.tmod b ≠ 0) :
   -9223372036854775807 ≤ a.tdiv b ∧ a.tdiv b < 9223372036854775807 := by
  by_cases h3 : b = -1
  · subst h3; simp at hr
  by_cases h4 : b = 1
  · subst h4; simp at hr
  have := tdiv_big a b hb h4 h3
  omega
set_option maxHeartbeats 400000 in
theorem floor_any (a b : Int) (h1 : -9223372036854775808 ≤ a) (h2 : a ≤ 9223372036854775807) (h3 : -9223372036854775808 ≤ b) (h4 : b ≤ 9223372036854775807)(w : World) :
    Calls Try.prog 9 #[.int .i64 a, .int .i64 b] w fun e w' => e = .returned (.tuple #[.int .i64 (flq a b), .int .i64 (fle a b)]) ∧ w = w' := by
  by_cases hb : b = 0
  · subst hb
    go_enter Try.func9, Try.ntmps9
    go_wp2
    go_ret2
    exact ⟨rfl, rfl⟩
  by_cases hm : a = -9223372036854775808 ∧ b = -1
  · obtain ⟨rfl, rfl⟩ := hm
    go_enter Try.func9, Try.ntmps9
    go_wp2
    go_ret2
    exact ⟨rfl, rfl⟩
  have e1 : (b == 0) = false := by simp [hb]
  have e2 : ((a == -9223372036854775808) = true ∧ (b == -1) = false) ∨ (a == -9223372036854775808) = false := by simp; omega
  have T := tdiv_bounds a b h1 h2 hb hm
  have T1 := tdiv_lo a b h1 h2 hb
  obtain ⟨t1, t2⟩ := T
  have E : fle a b = 0 := by simp [fle, hb, hm]
  have Q : flq a b = if a.tmod b ≠ 0 ∧ ¬ (a < 0 ↔ b < 0) then a.tdiv b - 1 else a.tdiv b := by simp [flq, hb, hm]
  replace E := Lib.hid E
  replace Q := Lib.hid Q
  clear hm
  by_cases hr : a.tmod b = 0
  · clear T1
    rcases e2 with ⟨e2, e3⟩ | e2
    all_goals
      go_enter Try.func9, Try.ntmps9
      go_wp2
      go_ret2
      exact ⟨ret2_int (by rw [Q.out, if_neg (by omega)]) E.out.symm, rfl⟩
  · have r1 : (a.tmod b != 0) = true := by simp [hr]
    replace T1 := T1 hr
    obtain ⟨t3, t4⟩ := T1
    have C : ((decide (a < 0) == decide (b < 0)) = true ∧ (a < 0 ↔ b < 0)) ∨ ((decide (a < 0) == decide (b < 0)) = false ∧ ¬ (a < 0 ↔ b < 0)) := by
      by_cases x : a < 0 <;> by_cases y : b < 0 <;> simp [x, y]
    rcases e2 with ⟨e2, e3⟩ | e2
    all_goals
    rcases C with ⟨C, C'⟩ | ⟨C, C'⟩
    all_goals
      replace C' := Lib.hid C'
      go_enter Try.func9, Try.ntmps9
      go_wp2
      go_ret2
      first
       | exact ⟨ret2_int (by rw [Q.out, if_neg (by have := C'.out; omega)]) E.out.symm, rfl⟩
       | exact ⟨ret2_int (by rw [Q.out, if_pos ⟨hr, C'.out⟩]) E.out.symm, rfl⟩
set_option maxHeartbeats 400000 in
theorem rfloor_any (a b : Int) (h1 : -9223372036854775808 ≤ a) (h2 : a ≤ 9223372036854775807) (h3 : -9223372036854775808 ≤ b) (h4 : b ≤ 9223372036854775807)(w : World) :
    Calls Try.prog 10 #[.int .i64 a, .int .i64 b] w fun e w' => e = .returned (.tuple #[.int .i64 (flq a b), .int .i64 (fle a b)]) ∧ w = w' := by
  by_cases hb : b = 0
  · subst hb
    go_enter Try.func10, Try.ntmps10
    go_wp2
    go_ret2
    exact ⟨rfl, rfl⟩
  by_cases hm : a = -9223372036854775808 ∧ b = -1
  · obtain ⟨rfl, rfl⟩ := hm
    go_enter Try.func10, Try.ntmps10
    go_wp2
    go_ret2
    exact ⟨rfl, rfl⟩
  have e1 : (b == 0) = false := by simp [hb]
  have e2 : ((a == -9223372036854775808) = true ∧ (b == -1) = false) ∨ (a == -9223372036854775808) = false := by simp; omega
  have T := tdiv_bounds a b h1 h2 hb hm
  have T1 := tdiv_lo a b h1 h2 hb
  obtain ⟨t1, t2⟩ := T
  have E : fle a b = 0 := by simp [fle, hb, hm]
  have Q : flq a b = if a.tmod b ≠ 0 ∧ ¬ (a < 0 ↔ b < 0) then a.tdiv b - 1 else a.tdiv b := by simp [flq, hb, hm]
  replace E := Lib.hid E
  replace Q := Lib.hid Q
  clear hm
  by_cases hr : a.tmod b = 0
  · clear T1
    rcases e2 with ⟨e2, e3⟩ | e2
    all_goals
      go_enter Try.func10, Try.ntmps10
      go_wp2
      go_ret2
      exact ⟨ret2_int (by rw [Q.out, if_neg (by omega)]) E.out.symm, rfl⟩
  · have r1 : (a.tmod b != 0) = true := by simp [hr]
    replace T1 := T1 hr
    obtain ⟨t3, t4⟩ := T1
    have C : ((decide (a < 0) == decide (b < 0)) = true ∧ (a < 0 ↔ b < 0)) ∨ ((decide (a < 0) == decide (b < 0)) = false ∧ ¬ (a < 0 ↔ b < 0)) := by
      by_cases x : a < 0 <;> by_cases y : b < 0 <;> simp [x, y]
    rcases e2 with ⟨e2, e3⟩ | e2
    all_goals
    rcases C with ⟨C, C'⟩ | ⟨C, C'⟩
    all_goals
      replace C' := Lib.hid C'
      go_enter Try.func10, Try.ntmps10
      go_wp2
      go_ret2
      first
       | exact ⟨ret2_int (by rw [Q.out, if_neg (by have := C'.out; omega)]) E.out.symm, rfl⟩
       | exact ⟨ret2_int (by rw [Q.out, if_pos ⟨hr, C'.out⟩]) E.out.symm, rfl⟩

set_option maxHeartbeats 400000 in
theorem ceil_any (a b : Int) (h1 : -9223372036854775808 ≤ a) (h2 : a ≤ 9223372036854775807) (h3 : -9223372036854775808 ≤ b) (h4 : b ≤ 9223372036854775807)(w : World) :
    Calls Try.prog 11 #[.int .i64 a, .int .i64 b] w fun e w' => e = .returned (.tuple #[.int .i64 (ceq a b), .int .i64 (fle a b)]) ∧ w = w' := by
  by_cases hz : fle a b = 0
  · have hb : b ≠ 0 := by intro h; simp [fle, h] at hz
    have hm : ¬ (a = -9223372036854775808 ∧ b = -1) := by intro h; simp [fle, h] at hz
    have T1 := tdiv_lo a b h1 h2 hb
    have T := tdiv_bounds a b h1 h2 hb hm
    obtain ⟨t1, t2⟩ := T
    have F1 : (fle a b != 0) = false := by simp [hz]
    have Q := Lib.hid (show flq a b = if a.tmod b ≠ 0 ∧ ¬ (a < 0 ↔ b < 0) then a.tdiv b - 1 else a.tdiv b by simp [flq, hb, hm])
    have Z := Lib.hid hz
    by_cases hr : a.tmod b = 0
    · have C := Lib.hid (show ceq a b = flq a b by simp [ceq, hr])
      clear hz hm T1
      go_enter Try.func11, Try.ntmps11
      go_wp2_with fail
      refine (floor_any a b h1 h2 h3 h4 _).mono ?_
      rintro e w' ⟨rfl, rfl⟩
      go_wp2
      go_ret2
      exact ⟨ret2_int C.out.symm (by rw [Z.out]), rfl⟩
    · have C := Lib.hid (show ceq a b = flq a b + 1 by simp [ceq, hr, hz])
      have r1 : (a.tmod b != 0) = true := by simp [hr]
      have hq : -9223372036854775808 ≤ flq a b + 1 ∧ flq a b + 1 ≤ 9223372036854775807 := by
        have := T1 hr; rw [Q.out]; split <;> omega
      obtain ⟨q1, q2⟩ := hq
      clear hz hm T1
      go_enter Try.func11, Try.ntmps11
      go_wp2_with fail
      refine (floor_any a b h1 h2 h3 h4 _).mono ?_
      rintro e w' ⟨rfl, rfl⟩
      go_wp2
      go_ret2
      exact ⟨ret2_int C.out.symm (by rw [Z.out]), rfl⟩
  · have F1 : (fle a b != 0) = true := by simp [hz]
    have C := Lib.hid (show ceq a b = 0 by unfold ceq; rw [if_neg (by simp [hz])]; unfold fle at hz; unfold flq; split; rfl; split; rfl; rename_i x y; simp [x, y] at hz)
    clear hz
    go_enter Try.func11, Try.ntmps11
    go_wp2_with fail
    refine (floor_any a b h1 h2 h3 h4 _).mono ?_
    rintro e w' ⟨rfl, rfl⟩
    go_wp2
    go_ret2
    exact ⟨ret2_int C.out.symm rfl, rfl⟩

set_option maxHeartbeats 400000 in
theorem rceil_any (a b : Int) (h1 : -9223372036854775808 ≤ a) (h2 : a ≤ 9223372036854775807) (h3 : -9223372036854775808 ≤ b) (h4 : b ≤ 9223372036854775807)(w : World) :
    Calls Try.prog 12 #[.int .i64 a, .int .i64 b] w fun e w' => e = .returned (.tuple #[.int .i64 (ceq a b), .int .i64 (fle a b)]) ∧ w = w' := by
  by_cases hz : fle a b = 0
  · have hb : b ≠ 0 := by intro h; simp [fle, h] at hz
    have hm : ¬ (a = -9223372036854775808 ∧ b = -1) := by intro h; simp [fle, h] at hz
    have T1 := tdiv_lo a b h1 h2 hb
    have T := tdiv_bounds a b h1 h2 hb hm
    obtain ⟨t1, t2⟩ := T
    have F1 : (fle a b == 0) = true := by simp [hz]
    have Q := Lib.hid (show flq a b = if a.tmod b ≠ 0 ∧ ¬ (a < 0 ↔ b < 0) then a.tdiv b - 1 else a.tdiv b by simp [flq, hb, hm])
    have Z := Lib.hid hz
    by_cases hr : a.tmod b = 0
    · have C := Lib.hid (show ceq a b = flq a b by simp [ceq, hr])
      clear hz hm T1
      go_enter Try.func12, Try.ntmps12
      go_wp2_with fail
      refine (rfloor_any a b h1 h2 h3 h4 _).mono ?_
      rintro e w' ⟨rfl, rfl⟩
      go_wp2
      go_ret2
      exact ⟨ret2_int C.out.symm rfl, rfl⟩
    · have C := Lib.hid (show ceq a b = flq a b + 1 by simp [ceq, hr, hz])
      have r1 : (a.tmod b != 0) = true := by simp [hr]
      have hq : -9223372036854775808 ≤ flq a b + 1 ∧ flq a b + 1 ≤ 9223372036854775807 := by
        have := T1 hr; rw [Q.out]; split <;> omega
      obtain ⟨q1, q2⟩ := hq
      clear hz hm T1
      go_enter Try.func12, Try.ntmps12
      go_wp2_with fail
      refine (rfloor_any a b h1 h2 h3 h4 _).mono ?_
      rintro e w' ⟨rfl, rfl⟩
      go_wp2
      go_ret2
      exact ⟨ret2_int C.out.symm rfl, rfl⟩
  · have F1 : (fle a b == 0) = false := by simp [hz]
    have C := Lib.hid (show ceq a b = flq a b by unfold ceq; rw [if_neg (by simp [hz])])
    clear hz
    go_enter Try.func12, Try.ntmps12
    go_wp2_with fail
    refine (rfloor_any a b h1 h2 h3 h4 _).mono ?_
    rintro e w' ⟨rfl, rfl⟩
    go_wp2
    go_ret2
    exact ⟨ret2_int C.out.symm rfl, rfl⟩

def IsRoot (n r : Int) : Prop := 0 ≤ r ∧ r ≤ 3037000499 ∧ (n < 0 → r = 0) ∧ (0 ≤ n → r*r ≤ n ∧ n < (r+1)*(r+1))
def SomeRoot (n : Int) (w : World) (e : Ending) (w' : World) : Prop := ∃ r : Int, e = .returned (.int .i64 r) ∧ IsRoot n r ∧ w = w'
def pw : Nat → Int | 0 => 0 | k+1 => 10^k
theorem pw_div (k : Nat) : pw (k+1) / 10 = pw k := by
  cases k with
  | zero => rfl
  | succ k => simp [pw, Int.pow_succ]
theorem pw_pos (k : Nat) : 1 ≤ pw (k+1) := by
  have h : (0:Int) < 10^k := Int.pow_pos (by decide)
  simp only [pw]; omega
theorem pw_le (k : Nat) (h : k ≤ 10) : pw k ≤ 1000000000 := by
  match k, h with
  | 0, _ | 1, _ | 2, _ | 3, _ | 4, _ | 5, _ | 6, _ | 7, _ | 8, _ | 9, _ | 10, _ => decide
set_option maxHeartbeats 400000 in
theorem root_neg (n : Int) (h1 : -9223372036854775808 ≤ n) (h2 : n < 0) (w : World) :
    Calls Try.prog 14 #[.int .i64 n] w (SomeRoot n w) := by
  go_enter Try.func14, Try.ntmps14
  go_wp2
  go_step3
  go_wp2
  go_step3
  go_wp2
  go_loopg [3, 4] 10 (fun g s3 s4 wx => s3 = .int .i64 0 ∧ s4 = .int .i64 (pw g) ∧ g ≤ 10 ∧ w = wx)
  case atStart => exact ⟨rfl, rfl, by omega, rfl⟩
  case round =>
    obtain ⟨rfl, rfl, hg, rfl⟩ := hrel
    cases gk with
    | zero =>
      go_wp2
      rw [Exit.noGoto_ret]
      go_ret
      exact ⟨_, rfl, by simp [IsRoot]; omega, rfl⟩
    | succ g =>
      have p1 := pw_pos g
      have p2 := pw_le (g+1) hg
      have p3 := Lib.hid (pw_div g)
      have t : n.tdiv (pw (g+1)) ≤ 0 := by
        have h := Int.tdiv_nonneg (a := -n) (b := pw (g+1)) (by omega) (by omega)
        rw [Int.neg_tdiv] at h; omega
      have t2 := (tdiv_bounds n (pw (g+1)) h1 (by omega) (by omega) (by omega)).1
      go_wp2
      go_loopg [3, 5] 0 (fun _ s3 s5 wx => s3 = .int .i64 0 ∧ s5 = .int .i64 (pw (g+1)) ∧ w = wx)
      case atStart => exact ⟨rfl, rfl, rfl⟩
      case round =>
        obtain ⟨rfl, rfl, rfl⟩ := hrel
        go_wp2
        go_roundg g
        case measure => omega
        case rel => exact ⟨rfl, by rw [p3.out], by omega, rfl⟩

theorem sq_le_bd (r n : Int) (h0 : 0 ≤ r) (h : r * r ≤ n) (h2 : n ≤ 9223372036854775807) : r ≤ 3037000499 := by
  by_cases hc : r ≤ 3037000499
  · exact hc
  · have : 3037000500 * 3037000500 ≤ r * r := Int.mul_le_mul (by omega) (by omega) (by omega) (by omega)
    omega
theorem le_div_sq (m n : Int) (h : 1 ≤ m) : m ≤ n / m ↔ m * m ≤ n := Int.le_ediv_iff_mul_le (by omega)
theorem pw_s (g : Nat) : pw (g+1) = 10^g := rfl
theorem sq_up (r n u : Int) (h : n < (r+1)*(r+1)) (h0 : 0 ≤ r) (hu : 1 ≤ u) : n < (r+u)*(r+u) :=
  Int.lt_of_lt_of_le h (Int.mul_le_mul (by omega) (by omega) (by omega) (by omega))
theorem sq_succ (r : Int) (h : 0 ≤ r) : r*r < (r+1)*(r+1) := by
  have : (r+1)*(r+1) = r*r + 2*r + 1 := by rw [Int.add_mul, Int.mul_add]; omega
  omega
set_option maxHeartbeats 400000 in
theorem root_pos (n : Int) (h1 : 0 ≤ n) (h2 : n ≤ 9223372036854775807) (w : World) :
    Calls Try.prog 14 #[.int .i64 n] w (SomeRoot n w) := by
  go_enter Try.func14, Try.ntmps14
  go_wp2
  go_step3
  go_wp2
  go_step3
  go_wp2
  go_loopg [3, 4] 10 (fun g s3 s4 wx => ∃ r : Int, s3 = .int .i64 r ∧ s4 = .int .i64 (pw g) ∧ g ≤ 10 ∧ 0 ≤ r ∧ Hid (r * r ≤ n ∧ n < (r + 10^g) * (r + 10^g)) ∧ w = wx)
  case atStart => exact ⟨0, rfl, rfl, by omega, by omega, Lib.hid (by omega), rfl⟩
  case round =>
    obtain ⟨r, rfl, rfl, hg, hr, HI, rfl⟩ := hrel
    have hb := sq_le_bd r n hr HI.out.1 h2
    cases gk with
    | zero =>
      go_wp2
      rw [Exit.noGoto_ret]
      go_ret
      exact ⟨_, rfl, ⟨hr, hb, by omega, fun _ => ⟨HI.out.1, by simpa using HI.out.2⟩⟩, rfl⟩
    | succ g =>
      have p1 := pw_pos g
      have p2 := pw_le (g+1) hg
      have p3 := Lib.hid (pw_div g)
      go_wp2
      go_loopg [3, 5] (3037000500 - r).toNat (fun m s3 s5 wx => ∃ r : Int, m = (3037000500 - r).toNat ∧ s3 = .int .i64 r ∧ s5 = .int .i64 (r + pw (g+1)) ∧ 0 ≤ r ∧ Hid (r * r ≤ n) ∧ w = wx)
      case atStart => exact ⟨r, rfl, rfl, rfl, hr, Lib.hid HI.out.1, rfl⟩
      case round =>
        clear HI hr hb
        obtain ⟨r, hm, rfl, rfl, hr, HI, rfl⟩ := hrel
        have hb := sq_le_bd r n hr HI.out h2
        have D := Int.ediv_le_self (r + pw (g+1)) h1
        have E := le_div_sq (r + pw (g+1)) n (by omega)
        replace E := Lib.hid E
        by_cases hc : (r + pw (g+1)) * (r + pw (g+1)) ≤ n
        · have c1 := E.out.2 hc
          have hb2 := sq_le_bd (r + pw (g+1)) n (by omega) hc h2
          have c0 : 0 ≤ (r + pw (g+1)) * (r + pw (g+1)) := Int.mul_nonneg (by omega) (by omega)
          by_cases he : (r + pw (g+1)) * (r + pw (g+1)) = n
          · have e1 : ((r + pw (g+1)) * (r + pw (g+1)) == n) = true := by simp [he]
            replace he := Lib.hid he
            replace hm := Lib.hid hm
            go_wp2
            rw [Exit.noGoto_ret]
            go_ret
            refine ⟨_, rfl, ⟨by omega, hb2, by omega, fun _ => ⟨hc, ?_⟩⟩, rfl⟩
            have := sq_succ (r + pw (g+1)) (by omega)
            have := he.out
            omega
          · have e1 : ((r + pw (g+1)) * (r + pw (g+1)) == n) = false := by simp [he]
            replace hm := Lib.hid hm
            go_wp2
            go_roundg (3037000500 - (r + pw (g+1))).toNat
            case measure => have := hm.out; omega
            case rel => exact ⟨_, rfl, rfl, rfl, by omega, Lib.hid hc, rfl⟩
        · have c1 : ¬ (r + pw (g+1) ≤ n / (r + pw (g+1))) := fun h => hc (E.out.1 h)
          replace hm := Lib.hid hm
          go_wp2
          go_roundg g
          case measure => omega
          case rel => exact ⟨_, rfl, by rw [p3.out], by omega, hr, Lib.hid ⟨HI.out, by rw [← pw_s]; omega⟩, rfl⟩
theorem root_any (n : Int) (h1 : -9223372036854775808 ≤ n) (h2 : n ≤ 9223372036854775807) (w : World) :
    Calls Try.prog 14 #[.int .i64 n] w (SomeRoot n w) := by
  by_cases h : n < 0
  · exact root_neg n h1 h w
  · exact root_pos n (by omega) h2 w

def sgnw (n : Int) : Int := if n < 0 then -1 else 0
theorem sgn_any (n : Int) (w : World) : Calls Try.prog 20 #[.int .i64 n] w fun e w' => e = .returned (.int .i64 (sgnw n)) ∧ w = w' := by
  by_cases h : n < 0
  · have E := Lib.hid (show sgnw n = -1 by simp [sgnw, h])
    go_enter Try.func20, Try.ntmps20
    go_wp2
    go_ret
    exact ⟨ret1_int E.out.symm, rfl⟩
  · have E := Lib.hid (show sgnw n = 0 by simp [sgnw, h])
    go_enter Try.func20, Try.ntmps20
    go_wp2
    go_ret
    exact ⟨ret1_int E.out.symm, rfl⟩

theorem add64_run (x y : Int) (h1 : 0 ≤ x) (h3 : 0 ≤ y) (w : World) : (callFunc 19 #[.int .u64 x, .int .u64 y, .int .u64 0]).run Try.prog w = .ok (.value (.tuple #[.int .u64 ((x + y) % 18446744073709551616), .int .u64 ((x + y) / 18446744073709551616)])) w := by
  rw [run_callFunc_extern Try.func19 (by kernel_rfl) (by kernel_rfl) (by kernel_rfl) (e := add64Entry) (by kernel_rfl), run_add64 x y 0 h1 h3 (by omega) (by omega)]
  simp only [Result.andThen, Int.add_zero]
def clamp64 (n : Int) : Int := if n < -9223372036854775808 then -9223372036854775808 else if 9223372036854775807 < n then 9223372036854775807 else n

theorem wrap64_u (low : Int) (h3 : 0 ≤ low) (h4 : low < 18446744073709551616) : ∃ n, wrap64 low = n ∧ -9223372036854775808 ≤ n ∧ n ≤ 9223372036854775807 ∧ (n = low ∧ 0 ≤ n ∨ n + 18446744073709551616 = low ∧ n < 0) := by
  refine ⟨_, rfl, ?_⟩
  unfold wrap64
  omega
set_option maxHeartbeats 400000 in
theorem nearest_any (hi low : Int) (h1 : -1000 ≤ hi) (h2 : hi ≤ 1000) (h3 : 0 ≤ low) (h4 : low < 18446744073709551616) (w : World) :
    Calls Try.prog 21 #[.int .i64 hi, .int .u64 low] w fun e w' => e = .returned (.int .i64 (clamp64 (hi * 18446744073709551616 + low))) ∧ w = w' := by
  obtain ⟨n, hn, n1, n2, n3⟩ := wrap64_u low h3 h4
  by_cases c1 : hi = sgnw n
  · have E : clamp64 (hi * 18446744073709551616 + low) = n := by
      unfold clamp64; unfold sgnw at c1; split at c1 <;> split <;> try split
      all_goals omega
    have e1 : (hi == sgnw n) = true := by simp [c1]
    replace E := Lib.hid E
    replace c1 := Lib.hid c1
    replace n3 := Lib.hid n3
    go_enter Try.func21, Try.ntmps21
    go_wp2_with fail
    refine (sgn_any _ _).mono ?_
    rintro e w' ⟨rfl, rfl⟩
    go_wp2
    go_ret
    exact ⟨ret1_int E.out.symm, rfl⟩
  · have e1 : (hi == sgnw n) = false := by simp [c1]
    by_cases c2 : hi < 0
    · have E : clamp64 (hi * 18446744073709551616 + low) = -9223372036854775808 := by
        unfold clamp64; unfold sgnw at c1; split at c1 <;> split <;> try split
        all_goals omega
      replace E := Lib.hid E
      replace c1 := Lib.hid c1
      replace n3 := Lib.hid n3
      go_enter Try.func21, Try.ntmps21
      go_wp2_with fail
      refine (sgn_any _ _).mono ?_
      rintro e w' ⟨rfl, rfl⟩
      go_wp2
      go_ret
      exact ⟨ret1_int E.out.symm, rfl⟩
    · have E : clamp64 (hi * 18446744073709551616 + low) = 9223372036854775807 := by
        unfold clamp64; unfold sgnw at c1; split at c1 <;> split <;> try split
        all_goals omega
      replace E := Lib.hid E
      replace c1 := Lib.hid c1
      replace n3 := Lib.hid n3
      go_enter Try.func21, Try.ntmps21
      go_wp2_with fail
      refine (sgn_any _ _).mono ?_
      rintro e w' ⟨rfl, rfl⟩
      go_wp2
      go_ret
      exact ⟨ret1_int E.out.symm, rfl⟩
theorem sum_take (l : List Int) (k : Nat) (h : k < l.length) : (l.take (k+1)).sum = (l.take k).sum + l[k] := by
  rw [List.take_succ_eq_append_getElem h, List.sum_append, List.sum_singleton]
theorem u64_wrap_i (n : Int) (h : -9223372036854775808 ≤ n) (h' : n ≤ 9223372036854775807) : IntKind.u64.wrap n = if n < 0 then n + 18446744073709551616 else n := by
  rw [IntKind.wrap_u64]; split <;> omega
set_option maxHeartbeats 400000 in
theorem sum_any (v : Value) (l : List Int) (w : World) (hv : RS w v (intsV l)) (hl : l.length ≤ 300) (hi : ∀ n ∈ l, I64 n) :
    Calls Try.prog 17 #[v] w fun e w' => e = .returned (.int .i64 (clamp64 l.sum)) ∧ w = w' := by
  obtain ⟨a, cap, rfl, hm, hc⟩ := hv
  simp only [intsV, List.length_map] at *
  have HC := Lib.hid hc
  have HI := Lib.hid hi
  clear hc hi
  go_enter Try.func17, Try.ntmps17
  go_wp2
  go_loopg [3, 4, 10] l.length (fun g s3 s4 s10 wx => ∃ (k : Nat) (hi low : Int), k + g = l.length ∧ s10 = .int .i64 k ∧ s3 = .int .i64 hi ∧ s4 = .int .u64 low ∧ -k ≤ hi ∧ hi ≤ k ∧ 0 ≤ low ∧ low < 18446744073709551616 ∧ Hid ((l.take k).sum = hi * 18446744073709551616 + low) ∧ w = wx)
  case atStart => exact ⟨0, 0, 0, by omega, rfl, rfl, rfl, by omega, by omega, by omega, by omega, Lib.hid (by simp), rfl⟩
  case round =>
    obtain ⟨k, hi, low, hk, rfl, rfl, rfl, b1, b2, b3, b4, HS, rfl⟩ := hrel
    cases gk with
    | zero =>
      have hz : ¬ ((k : Int) < (l.length : Int)) := by omega
      have E := Lib.hid (show clamp64 l.sum = clamp64 (hi * 18446744073709551616 + low) by rw [← HS.out, List.take_of_length_le (by omega)])
      have q1 : -1000 ≤ hi := by omega
      have q2 : hi ≤ 1000 := by omega
      have hk' := Lib.hid hk
      clear hk
      go_wp2_with (go_at_call 21; refine (nearest_any _ _ q1 q2 b3 b4 _).mono ?_; rintro e w' ⟨rfl, rfl⟩)
      go_ret
      exact ⟨ret1_int E.out.symm, rfl⟩
    | succ g =>
      have hz : (k : Int) < (l.length : Int) := by omega
      have hz' : k < l.length := by omega
      obtain ⟨b, off, rfl, hb, hcell⟩ := RS.get HC.out (k := k) (by simpa using hz')
      simp only [List.getElem_map] at hcell
      obtain ⟨n, hn⟩ : ∃ n, l[k] = n := ⟨_, rfl⟩
      rw [hn] at hcell
      have hr := HI.out n (by rw [← hn]; exact List.getElem_mem _)
      obtain ⟨r1, r2⟩ := hr
      have HT := Lib.hid (show (l.take (k+1)).sum = hi * 18446744073709551616 + low + n by rw [sum_take l k hz', HS.out, hn])
      have hw := u64_wrap_i n r1 r2
      obtain ⟨m, hm'⟩ : ∃ m, IntKind.u64.wrap n = m := ⟨_, rfl⟩
      rw [hm'] at hw
      have hm1 : 0 ≤ m ∧ m < 18446744073709551616 := by split at hw <;> omega
      obtain ⟨m1, m2⟩ := hm1
      have HW := Lib.hid hw
      have hd := add64_run low m b3 m1 w
      have c1 : 0 ≤ (low + m) / 18446744073709551616 := by omega
      have c2 : (low + m) / 18446744073709551616 ≤ 1 := by omega
      have g1 : -1 ≤ sgnw n := by unfold sgnw; split <;> omega
      have g2 : sgnw n ≤ 0 := by unfold sgnw; split <;> omega
      have hk' := Lib.hid hk
      clear hk hw hn HS
      go_wp2_with (go_at_call 20; refine (sgn_any _ _).mono ?_; rintro e w' ⟨rfl, rfl⟩)
      go_roundg g
      case measure => omega
      case rel =>
        have hk := hk'.out
        refine ⟨k+1, _, _, by omega, by go_num, rfl, rfl, by omega, by omega, by omega, by omega, Lib.hid ?_, rfl⟩
        rw [HT.out]
        have := HW.out
        unfold sgnw
        split at this
        · rw [if_pos (by assumption)]; omega
        · rw [if_neg (by assumption)]; omega
theorem i64_and32 (n : Int) : bits .and .i64 n 4294967295 = n % 4294967296 := by
  have h127 : (BitVec.ofInt 64 4294967295).toNat = 2 ^ 32 - 1 := by decide
  have key : (BitVec.ofInt 64 n &&& BitVec.ofInt 64 4294967295).toNat = (n % ((2 ^ 64 : Nat) : Int)).toNat % 2 ^ 32 := by
    rw [BitVec.toNat_and, BitVec.toNat_ofInt, h127, Nat.and_two_pow_sub_one_eq_mod]
  show IntKind.i64.wrap ((BitVec.ofInt 64 n &&& BitVec.ofInt 64 4294967295).toNat : Nat) = n % 4294967296
  rw [key, IntKind.wrap_i64]
  omega
theorem i64_and10 (n : Int) : bits .and .i64 n 1023 = n % 1024 := by
  have h127 : (BitVec.ofInt 64 1023).toNat = 2 ^ 10 - 1 := by decide
  have key : (BitVec.ofInt 64 n &&& BitVec.ofInt 64 1023).toNat = (n % ((2 ^ 64 : Nat) : Int)).toNat % 2 ^ 10 := by
    rw [BitVec.toNat_and, BitVec.toNat_ofInt, h127, Nat.and_two_pow_sub_one_eq_mod]
  show IntKind.i64.wrap ((BitVec.ofInt 64 n &&& BitVec.ofInt 64 1023).toNat : Nat) = n % 1024
  rw [key, IntKind.wrap_i64]
  omega
set_option maxHeartbeats 400000 in
theorem rsum_any (v : Value) (l : List Int) (w : World) (hv : RS w v (intsV l)) (hl : l.length ≤ 300) (hi : ∀ n ∈ l, I64 n) :
    Calls Try.prog 18 #[v] w fun e w' => e = .returned (.int .i64 (clamp64 l.sum)) ∧ w = w' := by
  obtain ⟨a, cap, rfl, hm, hc⟩ := hv
  simp only [intsV, List.length_map] at *
  have HC := Lib.hid hc
  have HI := Lib.hid hi
  clear hc hi
  go_enter Try.func18, Try.ntmps18
  go_wp2
  go_loopg [3, 4, 9] l.length (fun g s3 s4 s10 wx => ∃ (k : Nat) (hi low : Int), k + g = l.length ∧ s10 = .int .i64 k ∧ s3 = .int .i64 hi ∧ s4 = .int .i64 low ∧ -2147483648 * k ≤ hi ∧ hi ≤ 2147483648 * k ∧ 0 ≤ low ∧ low ≤ 4294967296 * k ∧ Hid ((l.take k).sum = hi * 4294967296 + low) ∧ w = wx)
  case atStart => exact ⟨0, 0, 0, by omega, rfl, rfl, rfl, by omega, by omega, by omega, by omega, Lib.hid (by simp), rfl⟩
  case round =>
    obtain ⟨k, hi, low, hk, rfl, rfl, rfl, b1, b2, b3, b4, HS, rfl⟩ := hrel
    cases gk with
    | zero =>
      have hz : ¬ ((k : Int) < (l.length : Int)) := by omega
      have E := Lib.hid (show clamp64 l.sum = clamp64 (hi * 4294967296 + low) by rw [← HS.out, List.take_of_length_le (by omega)])
      have q1 : (k:Int) ≤ 300 := by omega
      have hk' := Lib.hid hk
      clear hk
      have hb := i64_and32 low
      go_wp2
      all_goals go_ret
      all_goals refine ⟨ret1_int ?_, rfl⟩
      · rw [E.out]; unfold clamp64; split <;> try split
        all_goals omega
      · rw [E.out]; unfold clamp64; split <;> try split
        all_goals omega
      · rw [E.out]; unfold clamp64; split <;> try split
        all_goals try unfold wrap64
        all_goals omega
    | succ g =>
      have hz : (k : Int) < (l.length : Int) := by omega
      have hz' : k < l.length := by omega
      obtain ⟨b, off, rfl, hb, hcell⟩ := RS.get HC.out (k := k) (by simpa using hz')
      simp only [List.getElem_map] at hcell
      obtain ⟨n, hn⟩ : ∃ n, l[k] = n := ⟨_, rfl⟩
      rw [hn] at hcell
      have hr := HI.out n (by rw [← hn]; exact List.getElem_mem _)
      obtain ⟨r1, r2⟩ := hr
      have HT := Lib.hid (show (l.take (k+1)).sum = hi * 4294967296 + low + n by rw [sum_take l k hz', HS.out, hn])
      have q1 : (k:Int) ≤ 300 := by omega
      have hk' := Lib.hid hk
      clear hk  hn HS
      have hb := i64_and32 n
      go_wp2
      go_roundg g
      case measure => omega
      case rel =>
        have hk := hk'.out
        refine ⟨k+1, _, _, by omega, by go_num, rfl, rfl, by omega, by omega, by omega, by omega, Lib.hid ?_, rfl⟩
        rw [HT.out]
        omega


def clampI (n lo hi : Int) : Int := max lo (min n hi)
theorem clamp_any (n lo hi : Int) (w : World) :
    Calls Try.prog 15 #[.int .i64 n, .int .i64 lo, .int .i64 hi] w fun e w' => e = .returned (.int .i64 (clampI n lo hi)) ∧ w = w' := by
  go_enter Try.func15, Try.ntmps15
  go_wp2
  all_goals
    go_ret
    refine ⟨ret1_int ?_, rfl⟩
    unfold clampI
    simp only [Int.min_def, Int.max_def]
    repeat' split
    all_goals (repeat' split at *)
    all_goals omega
theorem rclamp_any (n lo hi : Int) (w : World) :
    Calls Try.prog 16 #[.int .i64 n, .int .i64 lo, .int .i64 hi] w fun e w' => e = .returned (.int .i64 (clampI n lo hi)) ∧ w = w' := by
  go_enter Try.func16, Try.ntmps16
  go_wp2
  all_goals
    go_ret
    refine ⟨ret1_int ?_, rfl⟩
    unfold clampI
    omega
end Go.Proofs.Ytnpmndophocgmaa
