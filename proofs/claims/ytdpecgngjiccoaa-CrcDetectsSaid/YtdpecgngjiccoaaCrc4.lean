/- Contracts of the checksum, the program's and the reference's. Conditions: as stated. -/
import Derived.Test.YtdpecgngjiccoaaKit
import Derived.Test.YtdpecgngjiccoaaSum4
import Derived.Outline
namespace Go.Proofs.Ytdpecgngjiccoaa
open Go.ChangeShapes Go.WideShapes Go.ChangeAt Go.RowKit
theorem ints_eq {k : IntKind} {a b : Int} (h : a = b) : Value.int k a = Value.int k b := by rw [h]
theorem poly_xor {n m : Nat} {x : Int} (hx : x = ((n / 2 : Nat) : Int)) (hn : n < 4294967296) (h : m = (n / 2) ^^^ 3988292384) : bits .xor .u32 x 3988292384 = ((m : Nat) : Int) := by
  subst hx h
  exact u32_xor_nat (n / 2) 3988292384 (by omega) (by omega)
theorem and_one {n : Nat} (hn : n < 4294967296) : bits .and .u32 (n : Int) 1 = (n : Int) % 2 := by
  have := u32_and_nat n 1 hn (by omega)
  rw [Nat.and_one_is_mod] at this
  exact this
theorem half_int (n : Nat) : ((n : Int) / 2) = ((n / 2 : Nat) : Int) := by omega
set_option maxHeartbeats 400000 in
theorem shift_any (r : Nat) (w : World) (hr : r < 4294967296) :
    Calls Try.prog 19 #[.int .u32 r] w fun e w' => e = .returned (.int .u32 (stepN 8 r : Nat)) ∧ w = w' := by
  go_enter Try.func19, Try.ntmps19
  go_wp2
  go_loopg [0, 4] 8 (fun g s0 s4 wx => ∃ (k n : Nat), s0 = .int .u32 n ∧ s4 = .int .i64 k ∧ k + g = 8 ∧ Hid (n = stepN k r) ∧ n < 4294967296 ∧ w = wx)
  case atStart => exact ⟨0, r, rfl, rfl, rfl, Lib.hid rfl, hr, rfl⟩
  case round =>
    obtain ⟨k, n, rfl, rfl, hg, HN, hn, rfl⟩ := hrel
    clear hr
    cases gk with
    | zero =>
      have h : ¬ ((k : Int) < 8) := by omega
      have E := Lib.hid (show ((n : Nat) : Int) = (stepN 8 r : Nat) by rw [HN.out, show k = 8 by omega])
      clear HN
      go_wp2
      go_ret
      exact ⟨ret1_int E.out, rfl⟩
    | succ g =>
      have h : ((k : Int) < 8) := by omega
      have ha := and_one hn
      by_cases hp : n % 2 = 1
      · have h1 : ((n : Int) % 2 == 1) = true := by simp; omega
        have E := Lib.hid (poly_xor (m := stepN (k + 1) r) (half_int n) hn (by rw [stepN_succ, ← HN.out, stepR_odd hp]))
        have L : stepN (k + 1) r < 4294967296 := by rw [stepN_succ, ← HN.out]; exact stepR_lt hn
        clear hp HN
        go_wp2
        go_roundg g
        case measure => omega
        case rel => exact ⟨k + 1, stepN (k + 1) r, ints_eq E.out, by go_num, by omega, Lib.hid rfl, L, rfl⟩
      · have h1 : ((n : Int) % 2 == 1) = false := by simp; omega
        have E := Lib.hid (show ((n : Int) / 2) = ((stepN (k + 1) r : Nat) : Int) by rw [stepN_succ, ← HN.out, stepR_even hp, half_int])
        have L : stepN (k + 1) r < 4294967296 := by rw [stepN_succ, ← HN.out]; exact stepR_lt hn
        clear hp HN
        go_wp2
        go_roundg g
        case measure => omega
        case rel => exact ⟨k + 1, stepN (k + 1) r, ints_eq E.out, by go_num, by omega, Lib.hid rfl, L, rfl⟩
theorem shift_at (x : Int) (r m : Nat) (w : World) (hx : x = (r : Int)) (hr : r < 4294967296) (hm : m = stepN 8 r) :
    Calls Try.prog 19 #[.int .u32 x] w fun e w' => e = .returned (.int .u32 (m : Nat)) ∧ w = w' := by
  subst hx hm
  exact shift_any r w hr
theorem xor_arg {n : Nat} {b : UInt8} (hn : n < 4294967296) : bits .xor .u32 (n : Int) ((b.toNat : Int) % 4294967296) = ((n ^^^ b.toNat : Nat) : Int) := by
  have := b.toNat_lt
  rw [show ((b.toNat : Int) % 4294967296) = ((b.toNat : Nat) : Int) by omega]
  exact u32_xor_nat n b.toNat hn (byte_lt b)
theorem inv_arg {n : Nat} (hn : n < 4294967296) : bits .xor .u32 IntKind.u32.max (n : Int) = ((n ^^^ 4294967295 : Nat) : Int) := by
  rw [Nat.xor_comm]
  exact u32_xor_nat 4294967295 n (by omega) hn
theorem at_idx {l : List UInt8} {k : Nat} {b : UInt8} (hb : l[k]? = some b) (hs : Hid ((sb l).size = l.length)) : ∀ ww : World, (Instr.index 9 (.string ⟨l.toArray⟩) (.int .i64 (k : Int))).run Try.prog ww = .ok (.int .u8 (b.toNat : Int)) ww := by
  intro ww
  obtain ⟨hj, he⟩ := List.getElem?_eq_some_iff.1 hb
  rw [run_index_string ww 9 _ _ _ Try.underlying9, dif_pos ⟨by omega, by rw [hs.out]; omega⟩]
  subst he
  rfl
set_option maxHeartbeats 400000 in
theorem sum_any (l : List UInt8) (w : World) (hl : l.length ≤ 9223372036854775807) :
    Calls Try.prog 8 #[str l] w fun e w' => e = .returned (.int .u32 (crc l : Nat)) ∧ w = w' := by
  have hs := Lib.hid (sb_size l)
  go_enter Try.func8, Try.ntmps8
  go_wp2
  go_loopg [3, 7] l.length (fun g s3 s7 wx => ∃ (k n : Nat), s3 = .int .u32 n ∧ s7 = .int .i64 k ∧ k + g = l.length ∧ Hid (n = regs 4294967295 (l.take k)) ∧ n < 4294967296 ∧ w = wx)
  case atStart => exact ⟨0, 4294967295, rfl, rfl, by omega, Lib.hid rfl, by omega, rfl⟩
  case round =>
    obtain ⟨k, n, rfl, rfl, hg, HN, hn, rfl⟩ := hrel
    cases gk with
    | zero =>
      have h : ¬ ((k : Int) < (l.length : Int)) := by omega
      have E := Lib.hid (show bits .xor .u32 IntKind.u32.max (n : Int) = (crc l : Nat) by rw [inv_arg hn, HN.out, List.take_of_length_le (by omega)]; rfl)
      clear HN
      go_wp2
      go_ret
      exact ⟨ret1_int E.out, rfl⟩
    | succ g =>
      have h : ((k : Int) < (l.length : Int)) := by omega
      obtain ⟨b, hb, ht, _⟩ := at_take (l := l) (k := k) (by omega)
      have hi := at_idx hb hs
      have N := Lib.hid (show put8 n b = regs 4294967295 (l.take (k + 1)) by rw [ht, regs_snoc, ← HN.out])
      have L := put8_lt hn b
      have C := fun ww => shift_at _ (n ^^^ b.toNat) (put8 n b) ww (xor_arg (b := b) hn) (xor_byte_lt hn b) rfl
      replace ht := Lib.hid ht
      replace hb := Lib.hid hb
      clear HN
      go_wp2_with fail
      refine (C _).mono ?_
      rintro e w' ⟨rfl, rfl⟩
      clear C
      go_wp2
      go_roundg g
      case measure => omega
      case rel => exact ⟨k + 1, put8 n b, rfl, by go_num, by omega, N, L, rfl⟩
theorem half_test {m j : Nat} {b : UInt8} (hm : m < 4294967296) : bits .and .u32 (bits .xor .u32 (m : Int) ((b.toNat : Int) / 2 ^ j % 4294967296)) 1 = (((m ^^^ (b.toNat / 2 ^ j)) % 2 : Nat) : Int) := by
  have h1 : b.toNat / 2 ^ j < 4294967296 := Nat.lt_of_le_of_lt (Nat.div_le_self _ _) (byte_lt b)
  have e : ((b.toNat : Int) / 2 ^ j) = ((b.toNat / 2 ^ j : Nat) : Int) := by simp
  rw [e]
  clear e
  obtain ⟨q, hq⟩ : ∃ q, b.toNat / 2 ^ j = q := ⟨_, rfl⟩
  rw [hq] at h1 ⊢
  rw [show ((q : Int) % 4294967296) = (q : Int) by omega, u32_xor_nat m q hm h1, and_one (Nat.xor_lt_two_pow (n := 32) hm h1)]
  rfl
set_option maxHeartbeats 400000 in
theorem rsum_any (l : List UInt8) (w : World) (hl : l.length ≤ 9223372036854775807) :
    Calls Try.prog 9 #[str l] w fun e w' => e = .returned (.int .u32 (crc l : Nat)) ∧ w = w' := by
  have hs := Lib.hid (sb_size l)
  go_enter Try.func9, Try.ntmps9
  go_wp2
  go_loopg [3, 4] l.length (fun g s3 s4 wx => ∃ (k n : Nat), s3 = .int .u32 n ∧ s4 = .int .i64 k ∧ k + g = l.length ∧ Hid (n = regs 4294967295 (l.take k)) ∧ n < 4294967296 ∧ w = wx)
  case atStart => exact ⟨0, 4294967295, rfl, rfl, by omega, Lib.hid rfl, by omega, rfl⟩
  case round =>
    obtain ⟨k, n, rfl, rfl, hg, HN, hn, rfl⟩ := hrel
    cases gk with
    | zero =>
      have h : ¬ ((k : Int) < (l.length : Int)) := by omega
      have E := Lib.hid (show bits .xor .u32 (n : Int) 4294967295 = (crc l : Nat) by rw [show (4294967295 : Int) = ((4294967295 : Nat) : Int) from rfl, u32_xor_nat n 4294967295 hn (by omega), HN.out, List.take_of_length_le (by omega)]; rfl)
      clear HN
      go_wp2
      go_ret
      exact ⟨ret1_int E.out, rfl⟩
    | succ g =>
      have h : ((k : Int) < (l.length : Int)) := by omega
      obtain ⟨b, hb, ht, _⟩ := at_take (l := l) (k := k) (by omega)
      have hi := at_idx hb hs
      have N := Lib.hid (show put8 n b = regs 4294967295 (l.take (k + 1)) by rw [ht, regs_snoc, ← HN.out])
      have L := put8_lt hn b
      replace ht := Lib.hid ht
      replace hb := Lib.hid hb
      clear HN
      go_wp2
      go_loopg [3, 5] 8 (fun g2 s3 s5 wx => ∃ (j m : Nat), s3 = .int .u32 m ∧ s5 = .int .i64 j ∧ j + g2 = 8 ∧ Hid (m = half n b j) ∧ m < 4294967296 ∧ w = wx)
      case atStart => exact ⟨0, n, rfl, rfl, by omega, Lib.hid (half_zero n b).symm, hn, rfl⟩
      case round =>
        obtain ⟨j, m, rfl, rfl, hg2, HM, hm, rfl⟩ := hrel
        cases gk with
        | zero =>
          have h2 : ¬ ((j : Int) < 8) := by omega
          have M := Lib.hid (show m = put8 n b by rw [HM.out, show j = 8 by omega, half_eight])
          clear HM
          go_wp2
          go_roundg g
          case measure => omega
          case rel => exact ⟨k + 1, m, rfl, by go_num, by omega, Lib.hid (M.out.trans N.out), hm, rfl⟩
        | succ g2 =>
          have h2 : ((j : Int) < 8) := by omega
          have ht := half_test (j := j) (b := b) hm
          by_cases hp : (m ^^^ (b.toNat / 2 ^ j)) % 2 = 1
          · have T : (bits .and .u32 (bits .xor .u32 (m : Int) ((b.toNat : Int) / 2 ^ j % 4294967296)) 1 == 1) = true := by rw [ht, hp]; rfl
            have M := Lib.hid (poly_xor (m := half n b (j + 1)) (half_int m) hm (by rw [HM.out] at hp ⊢; exact half_step1 hp))
            have L2 := half_lt hn b (j + 1)
            clear ht hp HM
            go_wp2
            go_roundg g2
            case measure => omega
            case rel => exact ⟨j + 1, half n b (j + 1), ints_eq M.out, by go_num, by omega, Lib.hid rfl, L2, rfl⟩
          · have T : (bits .and .u32 (bits .xor .u32 (m : Int) ((b.toNat : Int) / 2 ^ j % 4294967296)) 1 == 1) = false := by rw [ht]; simp; omega
            have M := Lib.hid (show ((m : Int) / 2) = ((half n b (j + 1) : Nat) : Int) by rw [HM.out] at hp ⊢; rw [half_step0 hp, half_int])
            have L2 := half_lt hn b (j + 1)
            clear ht hp HM
            go_wp2
            go_roundg g2
            case measure => omega
            case rel => exact ⟨j + 1, half n b (j + 1), ints_eq M.out, by go_num, by omega, Lib.hid rfl, L2, rfl⟩
end Go.Proofs.Ytdpecgngjiccoaa
