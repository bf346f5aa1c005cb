/- Contracts of the readers of numbers and Bools. Conditions: as stated. -/
import Derived.Test.YtemhfhfbhdkedaaUint3
namespace Go.Proofs.Ytemhfhfbhdkedaa
open Go.ChangeShapes Go.WideShapes Go.ChangeAt Go.RowKit
def ms (b k : Nat) : Bool := !decide ((k ≠ 0 ∧ b = 0) ∨ (k = 9 ∧ b ≠ 1))
theorem ms_yes {b k : Nat} (h : ms b k = true) : ¬ ((k ≠ 0 ∧ b = 0) ∨ (k = 9 ∧ b ≠ 1)) := by
  unfold ms at h; rw [Bool.not_eq_true', decide_eq_false_iff_not] at h; exact h
theorem ms_no {b k : Nat} (h : ms b k = false) : (k ≠ 0 ∧ b = 0) ∨ (k = 9 ∧ b ≠ 1) := by
  unfold ms at h; rw [Bool.not_eq_false', decide_eq_true_eq] at h; exact h
theorem ms_eq {b k : Nat} {c : Bool} (h : c = true ↔ ¬ ((k ≠ 0 ∧ b = 0) ∨ (k = 9 ∧ b ≠ 1))) : ms b k = c := by
  rw [Bool.eq_iff_iff, h]
  exact ⟨ms_yes, fun h => by unfold ms; rw [Bool.not_eq_true', decide_eq_false_iff_not]; exact h⟩
theorem mayStand_any (b k : Nat) (w : World) (hb : b < 256) (hk : k ≤ 9) :
    Calls Try.prog 39 #[.int .u8 b, .int .i64 k] w fun e w' => e = .returned (.bool (ms b k)) ∧ w = w' := by
  by_cases h0 : k = 0
  · subst h0
    have E := Lib.hid (show ms b 0 = true from ms_eq (by simp))
    go_enter Try.func39, Try.ntmps39
    go_wp2
    go_ret
    exact ⟨ret1_bool E.out.symm, rfl⟩
  · by_cases h9 : k = 9
    · subst h9
      have E := Lib.hid (show ms b 9 = ((b : Int) == 1) from ms_eq (by rw [beq_iff_eq]; omega))
      go_enter Try.func39, Try.ntmps39
      go_wp2
      go_ret
      exact ⟨ret1_bool E.out.symm, rfl⟩
    · have E := Lib.hid (show ms b k = ((b : Int) != 0) from ms_eq (by rw [bne_iff_ne]; omega))
      have e1 : ((k : Int) == 0) = false := by simp; omega
      have e2 : ((k : Int) == 9) = false := by simp; omega
      clear h0 h9
      go_enter Try.func39, Try.ntmps39
      go_wp2
      go_ret
      exact ⟨ret1_bool E.out.symm, rfl⟩
theorem mayStand_at (b k : Nat) (i : Int) (w : World) (hb : b < 256) (hk : k ≤ 9) (hi : i = k) :
    Calls Try.prog 39 #[.int .u8 b, .int .i64 i] w fun e w' => e = .returned (.bool (ms b k)) ∧ w = w' := by
  subst hi; exact mayStand_any b k w hb hk
def outU : DR (Nat × Int) → Value
  | .ok (n, t) => .tuple #[.int .u64 n, .int .i64 t, .int .i64 0]
  | .err e => .tuple #[.int .u64 0, .int .i64 0, .int .i64 e]
/-- The invariant of a reader: a is the offset, k the index, acc what has been read. -/
def DInv (l : List UInt8) (a k acc : Nat) : Prop :=
  k ≤ 9 ∧ acc < 128 ^ k ∧ tU l a = match dec k (l.drop (a + k)) with | .ok (n, j) => .ok (acc + n * 128 ^ k, (a : Int) + k + j) | .err e => .err e
theorem DInv.start {l : List UInt8} {a : Nat} (h : a ≤ l.length) : DInv l a 0 0 := by
  refine ⟨by omega, by simp, ?_⟩
  unfold tU
  rw [if_neg (by omega)]
  simp only [Int.toNat_natCast, Nat.add_zero, Nat.pow_zero, Nat.mul_one, Nat.zero_add, Int.natCast_zero, Int.add_zero]
  cases dec 0 (l.drop a) <;> rfl
theorem DInv.trunc {l : List UInt8} {a k acc : Nat} (h : DInv l a k acc) (hl : l.length ≤ a + k) : tU l a = .err 5 := by
  rw [h.2.2, List.drop_of_length_le hl, dec]
theorem drop_at {l : List UInt8} {j : Nat} {b : UInt8} (h : l[j]? = some b) : l.drop j = b :: l.drop (j + 1) := by
  obtain ⟨hj, rfl⟩ := List.getElem?_eq_some_iff.1 h
  exact List.drop_eq_getElem_cons hj
theorem DInv.syn {l : List UInt8} {a k acc : Nat} {b : UInt8} (h : DInv l a k acc) (hb : l[a + k]? = some b) (hm : ms b.toNat k = false) : tU l a = .err 4 := by
  rw [h.2.2, drop_at hb, dec, if_pos (ms_no hm)]
theorem DInv.last {l : List UInt8} {a k acc : Nat} {b : UInt8} (h : DInv l a k acc) (hb : l[a + k]? = some b) (hm : ms b.toNat k = true) (h128 : b.toNat < 128) : tU l a = .ok (acc + b.toNat * 128 ^ k, (a : Int) + k + 1) := by
  rw [h.2.2, drop_at hb, dec, if_neg (ms_yes hm), if_pos h128]; simp
theorem DInv.next {l : List UInt8} {a k acc : Nat} {b : UInt8} (h : DInv l a k acc) (hb : l[a + k]? = some b) (hm : ms b.toNat k = true) (h128 : 128 ≤ b.toNat) : DInv l a (k + 1) (acc + b.toNat % 128 * 128 ^ k) := by
  obtain ⟨h1, h2, h3⟩ := h
  have hm' : ¬ ((k ≠ 0 ∧ b.toNat = 0) ∨ (k = 9 ∧ b.toNat ≠ 1)) := ms_yes hm
  refine ⟨by omega, ?_, ?_⟩
  · rw [Nat.pow_succ]
    have : b.toNat % 128 * 128 ^ k ≤ 127 * 128 ^ k := Nat.mul_le_mul_right _ (by omega)
    omega
  · rw [h3, drop_at hb, dec, if_neg hm', if_neg (by omega), show a + k + 1 = a + (k + 1) by omega]
    cases dec (k + 1) (l.drop (a + (k + 1))) with
    | err e => rfl
    | ok x =>
      obtain ⟨n, j⟩ := x
      simp only [DR.ok.injEq, Prod.mk.injEq]
      refine ⟨?_, by omega⟩
      rw [Nat.add_mul, Nat.pow_succ, Nat.add_assoc, Nat.mul_comm 128 n, Nat.mul_assoc n 128, Nat.mul_comm 128]
theorem ms_fits {b : UInt8} {k : Nat} (hk : k ≤ 9) (hm : ms b.toNat k = true) : b.toNat % 128 * 128 ^ k < 18446744073709551616 := by
  have h := ms_yes hm
  by_cases h9 : k = 9
  · subst h9
    rw [show b.toNat = 1 by omega]; decide
  · calc b.toNat % 128 * 128 ^ k ≤ 127 * 128 ^ k := Nat.mul_le_mul_right _ (by omega)
      _ ≤ 127 * 128 ^ 8 := Nat.mul_le_mul_left _ (Nat.pow_le_pow_right (by omega) (by omega))
      _ < _ := by decide
theorem or_step {acc c k : Nat} {x : Int} (h : acc < 128 ^ k) (hc : c * 128 ^ k < 18446744073709551616) (hk : k ≤ 9) (hx : x = (c : Int)) :
    bits .or .u64 (acc : Int) (IntKind.u64.wrap (x * 2 ^ (7 * k))) = ((acc + c * 128 ^ k : Nat) : Int) := by
  subst hx
  have hp : (128 : Nat) ^ k = 2 ^ (7 * k) := by rw [Nat.pow_mul]
  have e : ((c : Int) * 2 ^ (7 * k)) = ((c * 128 ^ k : Nat) : Int) := by rw [hp]; simp
  have hlt : (128 : Nat) ^ k ≤ 128 ^ 9 := Nat.pow_le_pow_right (by omega) hk
  have h9 : (128 : Nat) ^ 9 < 18446744073709551616 := by decide
  rw [e, IntWalk.u64_in _ (by omega), u64_or_nat _ _ (by omega) hc]
  congr 1
  rw [hp] at h ⊢
  have := Nat.shiftLeft_add_eq_or_of_lt h c
  rw [Nat.shiftLeft_eq] at this
  rw [Nat.or_comm, ← this, Nat.add_comm]
theorem ret3_u {n m : Int} {t t' e : Int} (h : n = m) (h2 : t = t') : Ending.returned (.tuple #[.int .u64 n, .int .i64 t, .int .i64 e]) = .returned (.tuple #[.int .u64 m, .int .i64 t', .int .i64 e]) := by rw [h, h2]
/-- What stands at an offset of a text. -/
theorem str_at {l : List UInt8} {j : Nat} {b : UInt8} (h : l[j]? = some b) (hj : j < (sb l).size) : (sb l)[j] = b := by
  obtain ⟨hj', rfl⟩ := List.getElem?_eq_some_iff.1 h
  rfl
set_option maxRecDepth 100000 in
set_option maxHeartbeats 1000000 in
theorem takeUint_any (l : List UInt8) (at_ : Int) (w : World) (hl : l.length ≤ 9223372036854775807) (ha : In64 at_) :
    Calls Try.prog 22 #[str l, .int .i64 at_] w fun e w' => e = .returned (outU (tU l at_)) ∧ w = w' := by
  obtain ⟨ha1, ha2⟩ := ha
  have hs := Lib.hid (sb_size l)
  by_cases hout : at_ < 0 ∨ at_ > l.length
  · have E := Lib.hid (show tU l at_ = .err 1 by unfold tU; rw [if_pos hout])
    by_cases h0 : at_ < 0
    · go_enter Try.func22, Try.ntmps22
      go_wp2
      go_ret3
      rw [E.out]
      exact ⟨rfl, rfl⟩
    · have h1 : (l.length : Int) < at_ := by omega
      clear hout
      go_enter Try.func22, Try.ntmps22
      go_wp2
      go_ret3
      rw [E.out]
      exact ⟨rfl, rfl⟩
  · obtain ⟨a, rfl⟩ : ∃ a : Nat, at_ = a := ⟨at_.toNat, by omega⟩
    have ha3 : a ≤ l.length := by omega
    have h1 : ¬ ((l.length : Int) < (a : Int)) := by omega
    have S := Lib.hid (DInv.start ha3)
    clear hout
    go_enter Try.func22, Try.ntmps22
    go_wp2
    go_loopg [7, 8] (l.length - a) (fun g s7 s8 wx => ∃ (k acc : Nat), s7 = .int .u64 acc ∧ s8 = .int .i64 ((a : Int) + k) ∧ a + k + g = l.length ∧ Hid (DInv l a k acc) ∧ w = wx)
    case atStart => exact ⟨0, 0, rfl, by simp, by omega, S, rfl⟩
    case round =>
      clear S
      obtain ⟨k, acc, rfl, rfl, hg, HD, rfl⟩ := hrel
      have hk := HD.out.1
      cases gk with
      | zero =>
        have E := Lib.hid (HD.out.trunc (by omega))
        have h2 : ¬ ((a : Int) + k < (l.length : Int)) := by omega
        go_wp2
        go_ret3
        rw [E.out]
        exact ⟨rfl, rfl⟩
      | succ g =>
        have h2 : ((a : Int) + k < (l.length : Int)) := by omega
        have h3 : 0 ≤ ((a : Int) + k) := by omega
        obtain ⟨b, hb, _⟩ := at_take (l := l) (k := a + k) (by omega)
        have hi : ∀ ww : World, (Instr.index 9 (.string ⟨l.toArray⟩) (.int .i64 ((a : Int) + k))).run Try.prog ww = .ok (.int .u8 (b.toNat : Int)) ww := by
          intro ww
          rw [run_index_string ww 9 _ _ _ Try.underlying9, dif_pos ⟨h3, by simpa [sb_size] using h2⟩]
          rw [str_at (l := l) (b := b) (by rw [← hb]; congr 1)]
        have hb8 := u8_lt b
        replace hb := Lib.hid hb
        by_cases hm : ms b.toNat k = true
        · have OR := Lib.hid (or_step (x := (b.toNat : Int) % 128) HD.out.2.1 (ms_fits hk hm) hk (by omega))
          replace hm := Lib.hid hm
          go_wp2_with fail
          ((with_reducible refine (mayStand_at b.toNat k _ _ hb8 hk ?_).mono ?_))
          · omega
          · rintro e w' ⟨rfl, rfl⟩
            rw [hm.out]
            by_cases h128 : b.toNat < 128
            · have E := Lib.hid (HD.out.last hb.out hm.out h128)
              go_wp2
              go_ret3
              rw [E.out]
              exact ⟨ret3_u (by rw [OR.out, Nat.mod_eq_of_lt h128]) rfl, rfl⟩
            · have N := Lib.hid (HD.out.next hb.out hm.out (by omega))
              go_wp2
              go_roundg g
              case measure => omega
              case rel => exact ⟨k + 1, _, by rw [OR.out], by go_num, by omega, N, rfl⟩
        · replace hm : ms b.toNat k = false := by simpa using hm
          have E := Lib.hid (HD.out.syn hb.out hm)
          replace hm := Lib.hid hm
          go_wp2_with fail
          ((with_reducible refine (mayStand_at b.toNat k _ _ hb8 hk ?_).mono ?_))
          · omega
          · rintro e w' ⟨rfl, rfl⟩
            rw [hm.out]
            go_wp2
            go_ret3
            rw [E.out]
            exact ⟨rfl, rfl⟩
theorem pow128_le {k : Nat} (hk : k ≤ 9) : 128 ^ k ≤ 9223372036854775808 := Nat.le_trans (Nat.pow_le_pow_right (by omega) hk) (by decide)
theorem sum_step {acc c k P : Nat} {x y : Int} (h : acc < 128 ^ k) (hc : c * 128 ^ k < 18446744073709551616) (hP : P = 128 ^ k) (hk : k ≤ 9) (hx : x = (c : Int)) (hc2 : c < 128)  (hc9 : k = 9 → c = 1) (hy : y = IntKind.u64.wrap (x * (P : Int))) :
    IntKind.u64.wrap ((acc : Int) + y) = ((acc + c * 128 ^ k : Nat) : Int) := by
  subst hx hP hy
  have e : ((c : Int) * ((128 ^ k : Nat) : Int)) = ((c * 128 ^ k : Nat) : Int) := by simp
  have hb : acc + c * 128 ^ k < 18446744073709551616 := by
    by_cases h9 : k = 9
    · have := hc9 h9; subst this h9
      have h9 : (128 : Nat) ^ 9 = 9223372036854775808 := by decide
      omega
    · have h1 : c * 128 ^ k ≤ 127 * 128 ^ k := Nat.mul_le_mul_right _ (by omega)
      have h2 : (128 : Nat) ^ k ≤ 128 ^ 8 := Nat.pow_le_pow_right (by omega) (by omega)
      have h8 : (128 : Nat) ^ 8 = 72057594037927936 := by decide
      omega
  rw [e, IntWalk.u64_in ((c * 128 ^ k : Nat) : Int) (by omega), ← Int.natCast_add, IntWalk.u64_in _ (by omega)]
theorem pow_step {P k : Nat} (hP : P = 128 ^ k) (hk : k + 1 ≤ 9) : IntKind.u64.wrap ((P : Int) * 128) = ((128 ^ (k + 1) : Nat) : Int) := by
  have h := pow128_le hk
  have e : (P : Int) * 128 = ((128 ^ (k + 1) : Nat) : Int) := by rw [hP, Nat.pow_succ]; simp
  rw [e, IntWalk.u64_in _ (by omega)]
theorem ms_cases {b k : Nat} (hk : k ≤ 9) (h : ms b k = true) : (decide ((0 : Int) < (k : Int)) = false ∧ ((k : Int) == 9) = false) ∨ (decide ((0 : Int) < (k : Int)) = true ∧ ((k : Int) == 9) = false ∧ ((b : Int) == 0) = false) ∨ (decide ((0 : Int) < (k : Int)) = true ∧ ((k : Int) == 9) = true ∧ ((b : Int) == 0) = false ∧ ((b : Int) != 1) = false) := by
  have := ms_yes h
  by_cases h0 : k = 0
  · subst h0; exact Or.inl ⟨by decide, by decide⟩
  · by_cases h9 : k = 9
    · exact Or.inr (Or.inr ⟨by simp; omega, by simp; omega, by simp; omega, by simp; omega⟩)
    · exact Or.inr (Or.inl ⟨by simp; omega, by simp; omega, by simp; omega⟩)
theorem ms_casesF {b k : Nat} (h : ms b k = false) : (decide ((0 : Int) < (k : Int)) = true ∧ ((b : Int) == 0) = true) ∨ (decide ((0 : Int) < (k : Int)) = true ∧ ((b : Int) == 0) = false ∧ ((k : Int) == 9) = true ∧ ((b : Int) != 1) = true) := by
  have := ms_no h
  by_cases h0 : k ≠ 0 ∧ b = 0
  · exact Or.inl ⟨by simp; omega, by simp; omega⟩
  · exact Or.inr ⟨by simp; omega, by simp; omega, by simp; omega, by simp; omega⟩
set_option maxRecDepth 100000 in
set_option maxHeartbeats 2000000 in
theorem rtakeUint_any (l : List UInt8) (at_ : Int) (w : World) (hl : l.length ≤ 9223372036854775807) (ha : In64 at_) :
    Calls Try.prog 23 #[str l, .int .i64 at_] w fun e w' => e = .returned (outU (tU l at_)) ∧ w = w' := by
  obtain ⟨ha1, ha2⟩ := ha
  have hs := Lib.hid (sb_size l)
  by_cases hout : at_ < 0 ∨ at_ > l.length
  · have E := Lib.hid (show tU l at_ = .err 1 by unfold tU; rw [if_pos hout])
    by_cases h0 : at_ < 0
    · go_enter Try.func23, Try.ntmps23
      go_wp2
      go_ret3
      rw [E.out]
      exact ⟨rfl, rfl⟩
    · have h1 : (l.length : Int) < at_ := by omega
      clear hout
      go_enter Try.func23, Try.ntmps23
      go_wp2
      go_ret3
      rw [E.out]
      exact ⟨rfl, rfl⟩
  · obtain ⟨a, rfl⟩ : ∃ a : Nat, at_ = a := ⟨at_.toNat, by omega⟩
    have ha3 : a ≤ l.length := by omega
    have h1 : ¬ ((l.length : Int) < (a : Int)) := by omega
    have S := Lib.hid (DInv.start ha3)
    clear hout
    go_enter Try.func23, Try.ntmps23
    go_wp2
    go_loopg [7, 8, 9] 9 (fun g s7 s8 s9 wx => ∃ (k acc P : Nat), s7 = .int .u64 acc ∧ s8 = .int .u64 P ∧ s9 = .int .i64 k ∧ k + g = 9 ∧ a + k ≤ l.length ∧ Hid (P = 128 ^ k) ∧ Hid (DInv l a k acc) ∧ w = wx)
    case atStart => exact ⟨0, 0, 1, rfl, rfl, rfl, rfl, by omega, Lib.hid rfl, S, rfl⟩
    case round =>
      clear S
      obtain ⟨k, acc, P, rfl, rfl, rfl, hg, hkl, HP, HD, rfl⟩ := hrel
      have hk := HD.out.1
      have h10 : (k : Int) < 10 := by omega
      by_cases hend : l.length = a + k
      · have E := Lib.hid (HD.out.trunc (by omega))
        have h2 : (l.length : Int) ≤ (a : Int) + k := by omega
        clear hend
        go_wp2
        go_ret3
        rw [E.out]
        exact ⟨rfl, rfl⟩
      have h2 : ((a : Int) + k < (l.length : Int)) := by omega
      have h3 : 0 ≤ ((a : Int) + k) := by omega
      have h4 : decide ((l.length : Int) ≤ (a : Int) + k) = false := by simp; omega
      obtain ⟨b, hb, hb2⟩ := at_take (l := l) (k := a + k) (by omega)
      clear hb2 hend
      have hi : ∀ ww : World, (Instr.index 9 (.string ⟨l.toArray⟩) (.int .i64 ((a : Int) + k))).run Try.prog ww = .ok (.int .u8 (b.toNat : Int)) ww := by
        intro ww
        rw [run_index_string ww 9 _ _ _ Try.underlying9, dif_pos ⟨h3, by simpa [sb_size] using h2⟩]
        rw [str_at (l := l) (b := b) (by rw [← hb]; congr 1)]
      have hb8 := u8_lt b
      replace hb := Lib.hid hb
      cases hm : ms b.toNat k with
      | true =>
        have hmc := ms_cases hk hm
        have OR := Lib.hid (sum_step (x := (b.toNat : Int) % 128) (P := P) HD.out.2.1 (ms_fits hk hm) HP.out hk (by omega) (by omega) (by intro h9; have := ms_yes hm; omega) rfl)
        by_cases h128 : b.toNat < 128
        · have E := Lib.hid (HD.out.last hb.out hm h128)
          replace hm := Lib.hid hm
          rcases hmc with ⟨e1, e2⟩ | ⟨e1, e2, e3⟩ | ⟨e1, e2, e3, e4⟩
          all_goals
            have e1' := e1
            simp only [Int.natCast_pos] at e1'
            go_wp2
            go_ret3
            rw [E.out]
            exact ⟨ret3_u (by rw [OR.out, Nat.mod_eq_of_lt h128]) rfl, rfl⟩
        · have N := Lib.hid (HD.out.next hb.out hm (by omega))
          cases gk with
          | zero => exact absurd (ms_yes hm) (by omega)
          | succ g =>
          replace hm := Lib.hid hm
          rcases hmc with ⟨e1, e2⟩ | ⟨e1, e2, e3⟩ | ⟨e1, e2, e3, e4⟩
          all_goals
            have e1' := e1
            simp only [Int.natCast_pos] at e1'
            go_wp2
            go_roundg g
            case measure => omega
            case rel => exact ⟨k + 1, _, 128 ^ (k + 1), by rw [OR.out], by rw [pow_step HP.out (by omega)], by go_num, by omega, by omega, Lib.hid rfl, N, rfl⟩
      | false =>
        have hmc := ms_casesF hm
        have E := Lib.hid (HD.out.syn hb.out hm)
        replace hm := Lib.hid hm
        rcases hmc with ⟨e1, e2⟩ | ⟨e1, e2, e3, e4⟩
        all_goals
          have e1' := e1
          simp only [Int.natCast_pos] at e1'
          go_wp2
          go_ret3
          rw [E.out]
          exact ⟨rfl, rfl⟩
end Go.Proofs.Ytemhfhfbhdkedaa
