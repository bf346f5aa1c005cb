/- Contracts of the reference's Name; isDecimal, the reference's digits; isLine. Conditions: the text's length. -/
import Derived.Test.YtblcigddinmiaaaDoorName5
namespace Go.Proofs.YtblcigddinmiaaaDoor
open Go.ChangeShapes Go.WideShapes Go.ChangeAt Go.RowKit
set_option maxRecDepth 100000 in
set_option maxHeartbeats 2000000 in
theorem rname_any (l : L8) (w : World) (hl : l.length ≤ 9223372036854775807) :
    Calls Tryd.prog 23 #[str l] w fun e w' => e = .returned (.bool (isName l)) ∧ w = w' := by
  obtain ⟨q, hq⟩ : ∃ q, isName l = q := ⟨_, rfl⟩
  rw [hq]
  have hs := Lib.hid (sb_size l)
  replace hq := Lib.hid hq
  go_enter Tryd.func23, Tryd.ntmps23
  go_wp2
  go_loopg [3] l.length (fun g s3 wx => ∃ (k : Nat), s3 = .int .i64 k ∧ k + g = l.length ∧ Hid (NPre l k) ∧ w = wx)
  case atStart => exact ⟨0, rfl, by omega, Lib.hid (fun j b h => absurd h (Nat.not_lt_zero _)), rfl⟩
  case round =>
    obtain ⟨k, rfl, hg, HN, rfl⟩ := hrel
    cases gk with
    | zero =>
      have h : ¬ ((k : Int) < (l.length : Int)) := by omega
      have HA := HN.out
      rw [show k = l.length by omega] at HA
      clear HN
      by_cases h1 : 1 ≤ l.length
      · have t1 : decide ((1 : Int) ≤ (l.length : Int)) = true := by simp; omega
        have E := Lib.hid (show decide ((l.length : Int) ≤ 12) = q by
          rw [← hq.out]
          by_cases h2 : l.length ≤ 12
          · rw [name_ok HA h1 h2]; simp; omega
          · rw [name_out (by omega)]; simp; omega)
        replace HA := Lib.hid HA
        clear h1
        go_wp2
        all_goals go_ret
        all_goals exact ⟨ret1_bool E.out, rfl⟩
      · have t1 : decide ((1 : Int) ≤ (l.length : Int)) = false := by simp; omega
        have Q := hq.out
        rw [name_out (by omega)] at Q
        subst Q
        replace HA := Lib.hid HA
        clear h1
        go_wp2
        all_goals go_ret
        all_goals exact ⟨rfl, rfl⟩
    | succ g =>
      have h : ((k : Int) < (l.length : Int)) := by omega
      obtain ⟨b, hb⟩ := at_get (l := l) (k := k) (by omega)
      have hi := at_idx hb hs
      have e95 := byte_eq (b := b) (n := 95) (by omega)
      have eb : (UInt8.ofNat 95) = (95 : UInt8) := rfl
      rw [eb] at e95
      have O : okN k b = true ↔ ((97 ≤ (b.toNat : Int) ∧ (b.toNat : Int) ≤ 122) ∨ (¬ (k : Int) = 0 ∧ ((48 ≤ (b.toNat : Int) ∧ (b.toNat : Int) ≤ 57) ∨ (b.toNat : Int) = 95))) := by
        simp only [okN, nmD, isLt, isDg, Bool.or_eq_true, Bool.and_eq_true, decide_eq_true_eq, ← e95]
        omega
      have N := Lib.hid (show ((97 ≤ (b.toNat : Int) ∧ (b.toNat : Int) ≤ 122) ∨ (¬ (k : Int) = 0 ∧ ((48 ≤ (b.toNat : Int) ∧ (b.toNat : Int) ≤ 57) ∨ (b.toNat : Int) = 95))) → Hid (NPre l (k + 1)) from fun ho => Lib.hid (HN.out.next hb (O.2 ho)))
      have M := Lib.hid (show ¬ ((97 ≤ (b.toNat : Int) ∧ (b.toNat : Int) ≤ 122) ∨ (¬ (k : Int) = 0 ∧ ((48 ≤ (b.toNat : Int) ∧ (b.toNat : Int) ≤ 57) ∨ (b.toNat : Int) = 95))) → isName l = false from fun ho => name_bad hb (by rw [← Bool.not_eq_true]; intro e; exact ho (O.1 e)))
      clear O eb e95 HN
      replace hb := Lib.hid hb
      go_wp2
      all_goals first
        | (go_roundg g
           case measure => omega
           case rel => exact ⟨k + 1, by go_num, by omega, N.out (by clear hi; (try simp only [Bool.not_eq_true', Bool.not_eq_false', decide_eq_true_eq, decide_eq_false_iff_not, beq_iff_eq, beq_eq_false_iff_ne, ne_eq, Bool.not_eq_true, Bool.not_eq_false, Int.not_le, Int.not_lt] at *); omega), rfl⟩)
        | (go_ret
           exact ⟨ret1_bool ((M.out (by clear hi; (try simp only [Bool.not_eq_true', Bool.not_eq_false', decide_eq_true_eq, decide_eq_false_iff_not, beq_iff_eq, beq_eq_false_iff_ne, ne_eq, Bool.not_eq_true, Bool.not_eq_false, Int.not_le, Int.not_lt] at *); omega)).symm.trans hq.out), rfl⟩)
theorem t : True := trivial
end Go.Proofs.YtblcigddinmiaaaDoor
