/- Contracts of Chain and its parts, the program's and the reference's. Conditions: as stated. -/
import Derived.Test.YtdpecgngjiccoaaCrc4
namespace Go.Proofs.Ytdpecgngjiccoaa
open Go.ChangeShapes Go.WideShapes Go.ChangeAt Go.RowKit
def fnv (d : Nat) (b : UInt8) : Nat := (d ^^^ b.toNat) * 1099511628211 % 18446744073709551616
theorem fnv_lt (d : Nat) (b : UInt8) : fnv d b < 18446744073709551616 := by unfold fnv; omega
def fnvs (d : Nat) (l : List UInt8) : Nat := l.foldl fnv d
theorem fold_snoc (f : Nat → UInt8 → Nat) (d : Nat) (l : List UInt8) (b : UInt8) : (l ++ [b]).foldl f d = f (l.foldl f d) b := by simp
theorem fold_append (f : Nat → UInt8 → Nat) (d : Nat) (l m : List UInt8) : (l ++ m).foldl f d = m.foldl f (l.foldl f d) := by simp
theorem fnvs_snoc (d : Nat) (l : List UInt8) (b : UInt8) : fnvs d (l ++ [b]) = fnv (fnvs d l) b := fold_snoc fnv d l b
theorem fnvs_append (d : Nat) (l m : List UInt8) : fnvs d (l ++ m) = fnvs (fnvs d l) m := fold_append fnv d l m
theorem fnvs_lt {d : Nat} (h : d < 18446744073709551616) (l : List UInt8) : fnvs d l < 18446744073709551616 := by
  induction l generalizing d with
  | nil => exact h
  | cons b l ih => exact ih (fnv_lt d b)
/-- The lowest k bytes of a number, the least significant one first. -/
def leb (n k : Nat) : List UInt8 := (List.range k).map fun i => UInt8.ofNat (n / 256 ^ i)
theorem leb_succ (n k : Nat) : leb n (k + 1) = leb n k ++ [UInt8.ofNat (n / 256 ^ k)] := by simp [leb, List.range_succ]
theorem leb_length (n k : Nat) : (leb n k).length = k := by simp [leb]
def chainL (h : Nat) (s : List UInt8) : Nat := fnvs 14695981039346656037 (leb h 8 ++ leb s.length 8 ++ s)
theorem fnv_arg {d : Nat} {b : UInt8} (hd : d < 18446744073709551616) : IntKind.u64.wrap (bits .xor .u64 (d : Int) (b.toNat : Int) * 1099511628211) = (fnv d b : Nat) := by
  have hb := b.toNat_lt
  rw [u64_xor_nat d b.toNat hd (by omega), IntKind.wrap_u64]
  unfold fnv
  omega
set_option maxRecDepth 100000 in
set_option maxHeartbeats 400000 in
theorem addByte_any (d : Nat) (b : UInt8) (w : World) (hd : d < 18446744073709551616) :
    Calls Try.prog 22 #[.int .u64 d, .int .u8 (b.toNat : Int)] w fun e w' => e = .returned (.int .u64 (fnv d b : Nat)) ∧ w = w' := by
  have E := Lib.hid (fnv_arg (b := b) hd)
  have hb := b.toNat_lt
  go_enter Try.func22, Try.ntmps22
  go_wp2
  go_ret
  exact ⟨ret1_int E.out, rfl⟩
theorem addByte_at (d : Nat) (x : Int) (b : UInt8) (w : World) (hx : x = (b.toNat : Int)) (hd : d < 18446744073709551616) :
    Calls Try.prog 22 #[.int .u64 d, .int .u8 x] w fun e w' => e = .returned (.int .u64 (fnv d b : Nat)) ∧ w = w' := by
  subst hx; exact addByte_any d b w hd
theorem byte_of {n : Nat} : ((n : Int) % 256) = ((UInt8.ofNat n).toNat : Int) := by simp
theorem next_of {n k : Nat} : ((n / 256 ^ k : Nat) : Int) / 256 = ((n / 256 ^ (k + 1) : Nat) : Int) := by
  rw [Nat.pow_succ, ← Nat.div_div_eq_div_mul]; omega
set_option maxHeartbeats 400000 in
theorem addNumber_any (d n : Nat) (w : World) (hd : d < 18446744073709551616) (hn : n < 18446744073709551616) :
    Calls Try.prog 21 #[.int .u64 d, .int .u64 n] w fun e w' => e = .returned (.int .u64 (fnvs d (leb n 8) : Nat)) ∧ w = w' := by
  go_enter Try.func21, Try.ntmps21
  go_wp2
  go_loopg [0, 1, 5] 8 (fun g s0 s1 s5 wx => ∃ (k x y : Nat), s0 = .int .u64 x ∧ s1 = .int .u64 y ∧ s5 = .int .i64 k ∧ k + g = 8 ∧ Hid (x = fnvs d (leb n k)) ∧ Hid (y = n / 256 ^ k) ∧ x < 18446744073709551616 ∧ y < 18446744073709551616 ∧ w = wx)
  case atStart => exact ⟨0, d, n, rfl, rfl, rfl, rfl, Lib.hid rfl, Lib.hid (by simp), hd, hn, rfl⟩
  case round =>
    obtain ⟨k, x, y, rfl, rfl, rfl, hg, HX, HY, hx, hy, rfl⟩ := hrel
    cases gk with
    | zero =>
      have h : ¬ ((k : Int) < 8) := by omega
      have E := Lib.hid (show ((x : Nat) : Int) = (fnvs d (leb n 8) : Nat) by rw [HX.out, show k = 8 by omega])
      clear HX HY
      go_wp2
      go_ret
      exact ⟨ret1_int E.out, rfl⟩
    | succ g =>
      have h : ((k : Int) < 8) := by omega
      have C := fun ww => addByte_at x _ (UInt8.ofNat y) ww (byte_of (n := y)) hx
      have L := fnv_lt x (UInt8.ofNat y)
      have N := Lib.hid (show fnv x (UInt8.ofNat y) = fnvs d (leb n (k + 1)) by rw [leb_succ, fnvs_snoc, ← HX.out, ← HY.out])
      have M := Lib.hid (show ((y : Int) / 256) = ((n / 256 ^ (k + 1) : Nat) : Int) by rw [HY.out, next_of])
      have L2 : n / 256 ^ (k + 1) < 18446744073709551616 := Nat.lt_of_le_of_lt (Nat.div_le_self _ _) hn
      clear HX HY
      go_wp2_with fail
      refine (C _).mono ?_
      rintro e w' ⟨rfl, rfl⟩
      clear C
      go_wp2
      go_roundg g
      case measure => omega
      case rel => exact ⟨k + 1, _, n / 256 ^ (k + 1), rfl, ints_eq M.out, by go_num, by omega, N, Lib.hid rfl, L, L2, rfl⟩
set_option maxHeartbeats 400000 in
theorem chain_any (n : Nat) (l : List UInt8) (w : World) (hn : n < 18446744073709551616) (hl : l.length ≤ 9223372036854775807) :
    Calls Try.prog 15 #[.int .u64 n, str l] w fun e w' => e = .returned (.int .u64 (chainL n l : Nat)) ∧ w = w' := by
  have hs := Lib.hid (sb_size l)
  have A1 := fun ww => addNumber_any 14695981039346656037 n ww (by omega) hn
  have L1 := fnvs_lt (d := 14695981039346656037) (by omega) (leb n 8)
  obtain ⟨d1, hd1⟩ : ∃ d, fnvs 14695981039346656037 (leb n 8) = d := ⟨_, rfl⟩
  rw [hd1] at A1 L1
  have A2 := fun ww => addNumber_any d1 l.length ww L1 (by omega)
  have L2 := fnvs_lt L1 (leb l.length 8)
  obtain ⟨d2, hd2⟩ : ∃ d, fnvs d1 (leb l.length 8) = d := ⟨_, rfl⟩
  rw [hd2] at A2 L2
  have F := Lib.hid (show chainL n l = fnvs d2 l by unfold chainL; rw [fnvs_append, fnvs_append, hd1, hd2])
  replace hd1 := Lib.hid hd1
  replace hd2 := Lib.hid hd2
  go_enter Try.func15, Try.ntmps15
  go_wp2_with fail
  refine (A1 _).mono ?_
  rintro e w' ⟨rfl, rfl⟩
  clear A1
  go_wp2_with fail
  refine (A2 _).mono ?_
  rintro e w' ⟨rfl, rfl⟩
  clear A2
  go_wp2
  go_loopg [5, 16] l.length (fun g s5 s16 wx => ∃ (k x : Nat), s5 = .int .u64 x ∧ s16 = .int .i64 k ∧ k + g = l.length ∧ Hid (x = fnvs d2 (l.take k)) ∧ x < 18446744073709551616 ∧ w = wx)
  case atStart => exact ⟨0, d2, rfl, rfl, by omega, Lib.hid rfl, L2, rfl⟩
  case round =>
    obtain ⟨k, x, rfl, rfl, hg, HX, hx, rfl⟩ := hrel
    cases gk with
    | zero =>
      have h : ¬ ((k : Int) < (l.length : Int)) := by omega
      have E := Lib.hid (show ((x : Nat) : Int) = (chainL n l : Nat) by rw [F.out, HX.out, List.take_of_length_le (by omega)])
      clear HX
      go_wp2
      go_ret
      exact ⟨ret1_int E.out, rfl⟩
    | succ g =>
      have h : ((k : Int) < (l.length : Int)) := by omega
      obtain ⟨b, hb, ht, _⟩ := at_take (l := l) (k := k) (by omega)
      have hi := at_idx hb hs
      have C := fun ww => addByte_any x b ww hx
      have L := fnv_lt x b
      have N := Lib.hid (show fnv x b = fnvs d2 (l.take (k + 1)) by rw [ht, fnvs_snoc, ← HX.out])
      replace ht := Lib.hid ht
      replace hb := Lib.hid hb
      clear HX
      go_wp2_with fail
      refine (C _).mono ?_
      rintro e w' ⟨rfl, rfl⟩
      clear C
      go_wp2
      go_roundg g
      case measure => omega
      case rel => exact ⟨k + 1, _, rfl, by go_num, by omega, N, L, rfl⟩
end Go.Proofs.Ytdpecgngjiccoaa
