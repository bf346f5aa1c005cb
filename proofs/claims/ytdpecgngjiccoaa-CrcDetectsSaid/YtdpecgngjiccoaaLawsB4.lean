/- The walk of CrcDetects: returns true and changes nothing that was there. -/
import Derived.Test.YtdpecgngjiccoaaAlive4
import Derived.Laws.DeepStrings4
namespace Go.Proofs.Ytdpecgngjiccoaa
open Go.ChangeShapes Go.WideShapes Go.ChangeAt Go.RowKit
theorem i64_and16 (n : Int) : bits .and .i64 n 65535 = n % 65536 := by
  have h127 : (BitVec.ofInt 64 65535).toNat = 2 ^ 16 - 1 := by decide
  have key : (BitVec.ofInt 64 n &&& BitVec.ofInt 64 65535).toNat = (n % ((2 ^ 64 : Nat) : Int)).toNat % 2 ^ 16 := by
    rw [BitVec.toNat_and, BitVec.toNat_ofInt, h127, Nat.and_two_pow_sub_one_eq_mod]
  show IntKind.i64.wrap ((BitVec.ofInt 64 n &&& BitVec.ofInt 64 65535).toNat : Nat) = n % 65536
  rw [key, IntKind.wrap_i64]
  omega
theorem conv_set {w : World} {x : List UInt8} {C : Nat} {R : Array Value} {fr : Nat × Nat} {i : Nat} {c : UInt8} (hR : bytesRow (sb x) C = R) :
    (convert 30 9 (.slice (some ⟨w.heap.size, 0, none⟩) x.length C)).run Try.prog ((w.alloc (.cells R 5 fr)).setCell ⟨w.heap.size, i, none⟩ (.int .u8 (c.toNat : Int))).drew =
      .ok (str (x.set i c)) ((w.alloc (.cells R 5 fr)).setCell ⟨w.heap.size, i, none⟩ (.int .u8 (c.toNat : Int))).drew := by
  have hl : (x.set i c).length = x.length := List.length_set
  have K := run_convert_bytes_back (P := Try.prog) ((w.alloc (.cells R 5 fr)).setCell ⟨w.heap.size, i, none⟩ (.int .u8 (c.toNat : Int))).drew 30 9 5 ⟨w.heap.size, 0, none⟩ C (x.set i c) Try.underlying30 Try.underlying5 Try.underlying9 ?_
  · rw [hl] at K; exact K
  · intro j hj
    have e : (⟨w.heap.size, 0, none⟩ : Addr).add j = ⟨w.heap.size, j, none⟩ := by unfold Addr.add; split <;> simp_all
    rw [e, setCell_eq_setRow _ _ _ R 5 fr _ (heap_alloc_new w _)]
    show ((w.alloc (.cells R 5 fr)).setRow w.heap.size _).cell? _ = _
    rw [cell_setRow_same _ _ _ R _ 5 fr (heap_alloc_new w _)]
    rw [Array.getElem?_setIfInBounds]
    have hz : x.length ≤ R.size := by rw [← hR]; simp [bytesRow]
    by_cases h : i = j
    · subst h
      rw [if_pos rfl, if_pos (by omega)]
      simp
    · rw [if_neg h, ← hR, bytesRow_at (sb x) C j (by simp; omega)]
      congr 3
      simp [h]
set_option maxRecDepth 100000 in
set_option maxHeartbeats 1000000 in
theorem detects_any (l : List UInt8) (a : Int) (c : UInt8) (w : World) (hl : l.length ≤ 3000) :
    Calls Try.prog 5 #[str l, .int .i64 a, .int .u8 (c.toNat : Int)] w (RetB w true) := by
  have hs := Lib.hid (sb_size l)
  have h1 : decide ((3000 : Int) < (l.length : Int)) = false := by simp; omega
  have K1 := fun ww => seal_any l ww (by omega)
  have hx0 := sealL_length l
  obtain ⟨x, hx⟩ : ∃ x, sealL l = x := ⟨_, rfl⟩
  rw [hx] at K1 hx0
  have ha := i64_and16 a
  obtain ⟨m, hm⟩ : ∃ m : Int, a % 65536 = m := ⟨_, rfl⟩
  rw [hm] at ha
  have m0 : 0 ≤ m := by omega
  have m1 : m ≤ 65535 := by omega
  obtain ⟨i, hi⟩ : ∃ i : Nat, m % (x.length : Int) = (i : Int) := ⟨(m % (x.length : Int)).toNat, by have := Int.emod_nonneg m (show (x.length : Int) ≠ 0 by omega); omega⟩
  have hil : i < x.length := by have := Int.emod_lt_of_pos m (show (0 : Int) < (x.length : Int) by omega); omega
  have hsx := Lib.hid (sb_size x)
  replace hm := Lib.hid hm
  replace hx := Lib.hid hx
  have hx1 : ((x.length : Int) != (l.length : Int) + 4) = false := by simp; omega
  have hx2 : x.length ≤ 3004 := by omega
  have hx3 : 4 ≤ x.length := by omega
  replace hx0 := Lib.hid hx0
  go_enter Try.func5, Try.ntmps5
  go_wp2_with fail
  refine (K1 _).mono ?_
  rintro e w1 ⟨rfl, b1⟩
  have K := run_bytes_of_string (P := Try.prog) w1 9 30 5 (sb x) Try.underlying9 Try.underlying30 Try.underlying5
  rw [hsx.out] at K
  have G := grownCap_ge w1 x.length 0 5
  obtain ⟨C, hC⟩ : ∃ C, grownCap w1 x.length 0 5 = C := ⟨_, rfl⟩
  rw [hC] at K G
  have R0 := bytesRow_at (sb x) C i (by simpa using hil)
  have RS0 : x.length ≤ (bytesRow (sb x) C).size := by simp [bytesRow]
  obtain ⟨R, hR⟩ : ∃ R, bytesRow (sb x) C = R := ⟨_, rfl⟩
  rw [hR] at K R0 RS0
  have CV := fun fr => conv_set (w := w1) (fr := fr) (i := i) (c := c) hR
  replace hC := Lib.hid hC
  replace hR := Lib.hid hR
  obtain ⟨b, hb⟩ : ∃ b, x[i]? = some b := ⟨x[i], List.getElem?_eq_getElem hil⟩
  have R1 : R[i]? = some (.int .u8 (b.toNat : Int)) := by
    rw [R0]; congr 3
    have e : x[i]'hil = b := (List.getElem?_eq_some_iff.1 hb).2
    rw [← e]; rfl
  have cf : (w1.alloc (.cells R 5 (R.size, R.size + 1))).cell? ⟨w1.heap.size, i, none⟩ = some (.int .u8 (b.toNat : Int)) := by rw [World.cell?_alloc_mark]; exact R1
  have ff : (w1.alloc (.cells R 5 (R.size, R.size + 1))).frozen? ⟨w1.heap.size, i, none⟩ = false := by rw [World.frozen?_alloc_mark]; simp; omega
  clear R0
  replace R1 := Lib.hid R1
  have K2 := fun ww => open_any (x.set i c) ww (by rw [List.length_set]; omega)
  have x1 : (x.set i c).length ≤ 3004 := by rw [List.length_set]; omega
  by_cases hbc : b = c
  · have T : ((b.toNat : Int) == (c.toNat : Int)) = true := by rw [hbc]; exact beq_self_eq_true _
    rw [show openL (x.set i c) = (l, 0) by rw [← hx.out, ← hbc]; exact openL_same (by rw [hx.out]; exact hb)] at K2
    have T2 : (l == l) = true := beq_self_eq_true _
    obtain ⟨z, hz⟩ : ∃ z, x.set i c = z := ⟨_, rfl⟩
    rw [hz] at K2 CV x1
    replace hz := Lib.hid hz
    replace hb := Lib.hid hb
    replace hbc := Lib.hid hbc
    go_wp2_with fail
    refine (K2 _).mono ?_
    rintro e w2 ⟨rfl, b2⟩
    unfold outO
    go_wp2_with fail
    refine (alive_any _).mono ?_
    rintro e w3 ⟨rfl, b3⟩
    go_wp2
    go_ret
    have b0 : Below w.heap.size w ((w1.alloc (.cells R 5 (R.size, R.size + 1))).setCell ⟨w1.heap.size, i, none⟩ (.int .u8 (c.toNat : Int))).drew :=
      bdrew ((b1.alloc b1.size _).setCell (by exact b1.size) _) 1
    have b12 := b0.trans (b2.mono b0.size)
    exact ⟨rfl, b12.trans (b3.mono b12.size)⟩
  · have T : ((b.toNat : Int) == (c.toNat : Int)) = false := by
      rw [beq_eq_false_iff_ne]
      exact fun h => hbc (UInt8.toNat_inj.1 (Int.ofNat.inj h))
    rw [show openL (x.set i c) = ([], 6) by rw [← hx.out]; exact openL_set (b := b) (by rw [hx.out]; exact hb) hbc] at K2
    obtain ⟨z, hz⟩ : ∃ z, x.set i c = z := ⟨_, rfl⟩
    rw [hz] at K2 CV x1
    replace hz := Lib.hid hz
    replace hb := Lib.hid hb
    replace hbc := Lib.hid hbc
    go_wp2_with fail
    refine (K2 _).mono ?_
    rintro e w2 ⟨rfl, b2⟩
    unfold outO
    go_wp2_with fail
    refine (alive_any _).mono ?_
    rintro e w3 ⟨rfl, b3⟩
    go_wp2
    go_ret
    have b0 : Below w.heap.size w ((w1.alloc (.cells R 5 (R.size, R.size + 1))).setCell ⟨w1.heap.size, i, none⟩ (.int .u8 (c.toNat : Int))).drew :=
      bdrew ((b1.alloc b1.size _).setCell (by exact b1.size) _) 1
    have b12 := b0.trans (b2.mono b0.size)
    exact ⟨rfl, b12.trans (b3.mono b12.size)⟩
set_option maxRecDepth 100000 in
theorem detects_all (l : List UInt8) (a : Int) (c : UInt8) (w : World) (hl : l.length ≤ 9223372036854775807) :
    Calls Try.prog 5 #[str l, .int .i64 a, .int .u8 (c.toNat : Int)] w (RetB w true) := by
  by_cases h : 3000 < l.length
  · have hs := Lib.hid (sb_size l)
    have h1 : ((3000 : Int) < (l.length : Int)) := by omega
    clear h
    go_enter Try.func5, Try.ntmps5
    go_wp2_with fail
    refine (alive_any _).mono ?_
    rintro e w1 ⟨rfl, b1⟩
    go_wp2
    go_ret
    exact ⟨rfl, b1⟩
  · exact detects_any l a c w (by omega)
end Go.Proofs.Ytdpecgngjiccoaa
