/- Contracts of Hex, the program's and the reference's. Conditions: as stated. -/
import Derived.Test.YtdpecgngjiccoaaSeal4
import Derived.Test.YtdpecgngjiccoaaChain4
namespace Go.Proofs.Ytdpecgngjiccoaa
open Go.ChangeShapes Go.WideShapes Go.ChangeAt Go.RowKit
def hexDigits : List UInt8 := [48, 49, 50, 51, 52, 53, 54, 55, 56, 57, 97, 98, 99, 100, 101, 102]
def hexd (n : Nat) : UInt8 := hexDigits.getD n 0
def hexI (n : Nat) : Nat → List UInt8
  | 0 => []
  | i + 1 => hexd (n / 16 ^ i % 16) :: hexI n i
theorem hexI_length (n : Nat) : ∀ i, (hexI n i).length = i
  | 0 => rfl
  | i + 1 => by rw [hexI, List.length_cons, hexI_length n i]
theorem hexd_at : ∀ m, m < 16 → hexDigits[m]? = some (hexd m) := by decide
theorem sb_of {x : ByteArray} {l : List UInt8} (h : x.data.toList = l) : x = ⟨l.toArray⟩ := by subst h; rfl
theorem hexd_utf8 : ∀ m, m < 16 → Utf8.encode ((hexd m).toNat : Int) = ⟨[hexd m].toArray⟩ := by
  have h : ∀ m, m < 16 → (Utf8.encode ((hexd m).toNat : Int)).data.toList = [hexd m] := by decide +kernel
  exact fun m hm => sb_of (h m hm)
theorem hex_at (y : Nat) : ∀ ww : World, (Instr.index 9 (.string ⟨#[48, 49, 50, 51, 52, 53, 54, 55, 56, 57, 97, 98, 99, 100, 101, 102]⟩) (.int .u64 ((y : Int) % 16))).run Try.prog ww = .ok (.int .u8 ((hexd (y % 16)).toNat : Int)) ww := by
  intro ww
  obtain ⟨hj, he⟩ := List.getElem?_eq_some_iff.1 (hexd_at (y % 16) (Nat.mod_lt _ (by omega)))
  rw [show ((y : Int) % 16) = ((y % 16 : Nat) : Int) by omega, run_index_string ww 9 _ _ _ Try.underlying9, dif_pos ⟨by omega, by show ((y % 16 : Nat) : Int) < 16; omega⟩]
  rw [← he]
  rfl
/-- What the block of the digits holds behind k rounds. -/
def hexRow (n k : Nat) : List Value := List.replicate (16 - k) (.int .u8 0) ++ bytesV (hexI n k)
theorem hexRow_step {n k g : Nat} (hg : k + (g + 1) = 16) (j : Nat) (hj : j = g) :
    (hexRow n k).toArray.setIfInBounds j (.int .u8 ((hexd (n / 16 ^ k % 16)).toNat : Int)) = (hexRow n (k + 1)).toArray := by
  subst hj
  have e : (hexRow n k).set j (.int .u8 ((hexd (n / 16 ^ k % 16)).toNat : Int)) = hexRow n (k + 1) := by
    unfold hexRow
    rw [show 16 - k = j + 1 by omega, show 16 - (k + 1) = j by omega, List.replicate_succ', List.append_assoc, List.set_append_right _ _ (by simp), List.length_replicate, Nat.sub_self]
    rfl
  rw [← e]
  simp
theorem hexRow_last (n : Nat) : hexRow n 16 = bytesV (hexI n 16) := rfl
theorem hex_next {n k : Nat} : ((n / 16 ^ k : Nat) : Int) / 16 = ((n / 16 ^ (k + 1) : Nat) : Int) := by
  rw [Nat.pow_succ, ← Nat.div_div_eq_div_mul]; omega
set_option maxHeartbeats 400000 in
theorem hex_any (n : Nat) (w : World) (hn : n < 18446744073709551616) :
    Calls Try.prog 17 #[.int .u64 n] w (RetV w (str (hexI n 16))) := by
  go_enter Try.func17, Try.ntmps17
  go_wp2
  go_loopg [0, 4] 16 (fun g s0 s4 wx => ∃ (k y : Nat) (i : Int) (cs : Array Value), s0 = .int .u64 y ∧ s4 = .int .i64 i ∧ k + g = 16 ∧ i + k = 15 ∧ Hid (y = n / 16 ^ k) ∧ y < 18446744073709551616 ∧ Hid (cs = (hexRow n k).toArray) ∧ wx = w.alloc (.cells cs 43))
  case atStart => exact ⟨0, n, 15, _, rfl, rfl, rfl, rfl, Lib.hid (by simp), hn, Lib.hid rfl, rfl⟩
  case round =>
    obtain ⟨k, y, i, cs, rfl, rfl, hg, hi, HY, hy, HC, rfl⟩ := hrel
    cases gk with
    | zero =>
      have h : ¬ (0 ≤ i) := by omega
      have R := conv_row w cs (hexI n 16) w.heap.size 16 16 43 (0, 0) (by rw [HC.out, show k = 16 by omega, hexRow_last]; exact List.take_of_length_le (by simp [bytesV_length, hexI_length])) (hexI_length n 16).symm rfl
      go_wp2
      go_ret
      exact ⟨rfl, (Below.refl _ _).alloc (Nat.le_refl _) _⟩
    | succ g =>
      have h : 0 ≤ i := by omega
      have X := hex_at y
      obtain ⟨v, hv⟩ : ∃ v, cs[i.toNat]? = some v := by
        have hz : cs.size = 16 := by rw [HC.out]; simp [hexRow, bytesV_length, hexI_length]; omega
        exact ⟨cs[i.toNat]'(by omega), Array.getElem?_eq_getElem _⟩
      have M := Lib.hid (show ((y : Int) / 16) = ((n / 16 ^ (k + 1) : Nat) : Int) by rw [HY.out, hex_next])
      have L2 : n / 16 ^ (k + 1) < 18446744073709551616 := Nat.lt_of_le_of_lt (Nat.div_le_self _ _) hn
      have C := Lib.hid (show cs.setIfInBounds i.toNat (.int .u8 ((hexd (y % 16)).toNat : Int)) = (hexRow n (k + 1)).toArray by rw [HC.out, HY.out]; exact hexRow_step hg _ (by omega))
      clear HC HY
      go_wp2
      go_roundg g
      case measure => omega
      case rel => exact ⟨k + 1, n / 16 ^ (k + 1), i - 1, _, ints_eq M.out, rfl, by omega, by omega, Lib.hid rfl, L2, C, rfl⟩
set_option maxHeartbeats 400000 in
theorem rhex_any (n : Nat) (w : World) (hn : n < 18446744073709551616) :
    Calls Try.prog 18 #[.int .u64 n] w fun e w' => e = .returned (str (hexI n 16)) ∧ w = w' := by
  go_enter Try.func18, Try.ntmps18
  go_wp2
  go_loopg [0, 3, 4] 16 (fun g s0 s3 s4 wx => ∃ (k y : Nat) (q : List UInt8), s0 = .int .u64 y ∧ s3 = str q ∧ s4 = .int .i64 k ∧ k + g = 16 ∧ Hid (y = n / 16 ^ k) ∧ y < 18446744073709551616 ∧ Hid (q = hexI n k) ∧ w = wx)
  case atStart => exact ⟨0, n, [], rfl, rfl, rfl, rfl, Lib.hid (by simp), hn, Lib.hid rfl, rfl⟩
  case round =>
    obtain ⟨k, y, q, rfl, rfl, rfl, hg, HY, hy, HQ, rfl⟩ := hrel
    cases gk with
    | zero =>
      have h : ¬ ((k : Int) < 16) := by omega
      have E := Lib.hid (show q = hexI n 16 by rw [HQ.out, show k = 16 by omega])
      go_wp2
      go_ret
      rw [E.out]
      exact ⟨rfl, rfl⟩
    | succ g =>
      have h : ((k : Int) < 16) := by omega
      have X := hex_at y
      have M := Lib.hid (show ((y : Int) / 16) = ((n / 16 ^ (k + 1) : Nat) : Int) by rw [HY.out, hex_next])
      have L2 : n / 16 ^ (k + 1) < 18446744073709551616 := Nat.lt_of_le_of_lt (Nat.div_le_self _ _) hn
      have U := hexd_utf8 (y % 16) (Nat.mod_lt _ (by omega))
      have N := Lib.hid (show hexd (y % 16) :: q = hexI n (k + 1) by rw [HQ.out, HY.out]; rfl)
      have ql : q.length ≤ 16 := by rw [HQ.out, hexI_length]; omega
      obtain ⟨b, hb⟩ : ∃ b, hexd (y % 16) = b := ⟨_, rfl⟩
      rw [hb] at X U N
      have A : ∀ ww : World, (Op.stringOp .add ⟨[b].toArray⟩ ⟨q.toArray⟩).run Try.prog ww = .ok (.string ⟨(b :: q).toArray⟩) ww := fun ww => run_string_add_lists (P := Try.prog) ww [b] q (by simp) (by omega)
      replace hb := Lib.hid hb
      clear HQ HY
      go_wp2
      go_roundg g
      case measure => omega
      case rel => exact ⟨k + 1, n / 16 ^ (k + 1), b :: q, ints_eq M.out, rfl, by go_num, by omega, Lib.hid rfl, L2, N, rfl⟩
end Go.Proofs.Ytdpecgngjiccoaa
