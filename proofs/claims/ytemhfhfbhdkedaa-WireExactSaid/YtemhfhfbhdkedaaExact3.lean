/- The walk of WireExact: returns true and changes nothing that was there. -/
import Derived.Test.YtemhfhfbhdkedaaLawsA3
namespace Go.Proofs.Ytemhfhfbhdkedaa
open Go.ChangeShapes Go.WideShapes Go.ChangeAt Go.RowKit
theorem eq_flag {e : Int} (h : e ≠ 0) : (e == 0) = false := by simpa using h
set_option maxRecDepth 100000 in
set_option maxHeartbeats 4000000 in
theorem exact_0000 (l : List UInt8) (a m : Int) (w : World) (hl : l.length ≤ 2000) (ha : In64 a) (hm : In64 m) (e : Int) (hU : tU l a = .err e) (e1 : Int) (hB : tB l a = .err e1) (e2 : Int) (hT : tT l a m = .err e2) (e3 : Int) (hL : tL l a m = .err e3) :
    Calls Try.prog 7 #[str l, .int .i64 a, .int .i64 m] w (RetB w true) := by
  have hl2 : l.length ≤ 100000 := by omega
  have hl3 : l.length ≤ 9223372036854775807 := by omega
  have HB := Below.refl w.heap.size w
  have k1 := takeUint_any l a w hl3 ha
  have k2 := takeInt_any l a w hl3 ha
  have k3 := takeBool_any l a w hl3 ha
  have k4 := takeText_any l a m w hl2 ha hm
  have k5 := fun w => takeInts_any l a m w hl2 ha hm
  rw [tI, hU] at k2
  rw [hU] at k1
  rw [hB] at k3
  rw [hT] at k4
  rw [hL] at k5
  have f1 := ne_flag (tU_err hU)
  have g1 := eq_flag (tU_err hU)
  have f2 := ne_flag (tB_err hB)
  have g2 := eq_flag (tB_err hB)
  have f3 := ne_flag (tT_err hT)
  have g3 := eq_flag (tT_err hT)
  have f4 := ne_flag (tL_err hL)
  have g4 := eq_flag (tL_err hL)
  simp only [outU] at k1
  simp only [outI] at k2
  simp only [outB] at k3
  simp only [outT] at k4
  replace hU := Lib.hid hU
  replace hB := Lib.hid hB
  replace hT := Lib.hid hT
  replace hL := Lib.hid hL
  replace k5 := Lib.hid k5
  go_enter Try.func7, Try.ntmps7
  go_wp2_with fail
  refine (k1).mono ?_
  rintro e w' ⟨rfl, rfl⟩
  go_wp2_with fail
  refine (k2).mono ?_
  rintro e w' ⟨rfl, rfl⟩
  go_wp2_with fail
  refine (k3).mono ?_
  rintro e w' ⟨rfl, rfl⟩
  go_wp2_with fail
  refine (k4).mono ?_
  rintro e W ⟨rfl, bb⟩
  replace HB := HB.trans (bb.mono HB.size)
  clear bb
  clear k1 k2 k3 k4
  go_wp2_with fail
  refine (k5.out _).mono ?_
  rintro e W ⟨v1, rfl, R1, bb⟩
  simp only [toOf, errOf, listOf] at R1 ⊢
  replace HB := HB.trans (bb.mono HB.size)
  clear bb
  clear R1
  go_wp2_with fail
  refine (alive_any _).mono ?_
  rintro e W ⟨rfl, bb⟩
  replace HB := HB.trans (bb.mono HB.size)
  clear bb
  go_wp2
  go_ret
  exact ⟨rfl, HB⟩
set_option maxRecDepth 100000 in
set_option maxHeartbeats 4000000 in
theorem exact_0100 (l : List UInt8) (a m : Int) (w : World) (hl : l.length ≤ 2000) (ha : In64 a) (hm : In64 m) (e : Int) (hU : tU l a = .err e) (b : Bool) (t1 : Int) (hB : tB l a = .ok (b, t1)) (e2 : Int) (hT : tT l a m = .err e2) (e3 : Int) (hL : tL l a m = .err e3) :
    Calls Try.prog 7 #[str l, .int .i64 a, .int .i64 m] w (RetB w true) := by
  have hl2 : l.length ≤ 100000 := by omega
  have hl3 : l.length ≤ 9223372036854775807 := by omega
  have HB := Below.refl w.heap.size w
  have k1 := takeUint_any l a w hl3 ha
  have k2 := takeInt_any l a w hl3 ha
  have k3 := takeBool_any l a w hl3 ha
  have k4 := takeText_any l a m w hl2 ha hm
  have k5 := fun w => takeInts_any l a m w hl2 ha hm
  rw [tI, hU] at k2
  rw [hU] at k1
  rw [hB] at k3
  rw [hT] at k4
  rw [hL] at k5
  have f1 := ne_flag (tU_err hU)
  have g1 := eq_flag (tU_err hU)
  obtain ⟨b1, b2, b3, b4⟩ := tB_ok hB
  replace b4 := Lib.hid b4
  have f3 := ne_flag (tT_err hT)
  have g3 := eq_flag (tT_err hT)
  have f4 := ne_flag (tL_err hL)
  have g4 := eq_flag (tL_err hL)
  simp only [outU] at k1
  simp only [outI] at k2
  simp only [outB] at k3
  simp only [outT] at k4
  replace hU := Lib.hid hU
  replace hB := Lib.hid hB
  replace hT := Lib.hid hT
  replace hL := Lib.hid hL
  replace k5 := Lib.hid k5
  go_enter Try.func7, Try.ntmps7
  go_wp2_with fail
  refine (k1).mono ?_
  rintro e w' ⟨rfl, rfl⟩
  go_wp2_with fail
  refine (k2).mono ?_
  rintro e w' ⟨rfl, rfl⟩
  go_wp2_with fail
  refine (k3).mono ?_
  rintro e w' ⟨rfl, rfl⟩
  go_wp2_with fail
  refine (k4).mono ?_
  rintro e W ⟨rfl, bb⟩
  replace HB := HB.trans (bb.mono HB.size)
  clear bb
  clear k1 k2 k3 k4
  go_wp2_with fail
  refine (k5.out _).mono ?_
  rintro e W ⟨v1, rfl, R1, bb⟩
  simp only [toOf, errOf, listOf] at R1 ⊢
  replace HB := HB.trans (bb.mono HB.size)
  clear bb
  clear R1
  go_wp2_with fail
  refine (bool_any b _).mono ?_
  rintro e w' ⟨rfl, rfl⟩
  go_wp2_with fail
  refine (is_any l (encB b) a t1 _ hl2 b1 b2 b3 b4.out).mono ?_
  rintro e w' ⟨rfl, rfl⟩
  go_wp2_with fail
  refine (alive_any _).mono ?_
  rintro e W ⟨rfl, bb⟩
  replace HB := HB.trans (bb.mono HB.size)
  clear bb
  go_wp2
  go_ret
  exact ⟨rfl, HB⟩
set_option maxRecDepth 100000 in
set_option maxHeartbeats 4000000 in
theorem exact_1000 (l : List UInt8) (a m : Int) (w : World) (hl : l.length ≤ 2000) (ha : In64 a) (hm : In64 m) (n : Nat) (t : Int) (hU : tU l a = .ok (n, t)) (e1 : Int) (hB : tB l a = .err e1) (e2 : Int) (hT : tT l a m = .err e2) (e3 : Int) (hL : tL l a m = .err e3) :
    Calls Try.prog 7 #[str l, .int .i64 a, .int .i64 m] w (RetB w true) := by
  have hl2 : l.length ≤ 100000 := by omega
  have hl3 : l.length ≤ 9223372036854775807 := by omega
  have HB := Below.refl w.heap.size w
  have k1 := takeUint_any l a w hl3 ha
  have k2 := takeInt_any l a w hl3 ha
  have k3 := takeBool_any l a w hl3 ha
  have k4 := takeText_any l a m w hl2 ha hm
  have k5 := fun w => takeInts_any l a m w hl2 ha hm
  rw [tI, hU] at k2
  rw [hU] at k1
  rw [hB] at k3
  rw [hT] at k4
  rw [hL] at k5
  obtain ⟨u1, u2, u3, u4, u5⟩ := tU_ok hU
  have z1 := zag_in u4
  have u6 := Lib.hid (show (l.drop a.toNat).take (t - a).toNat = encI (zag n) by rw [u5, encI, zig_zag])
  replace u5 := Lib.hid u5
  obtain ⟨z2, z3⟩ := z1
  have f2 := ne_flag (tB_err hB)
  have g2 := eq_flag (tB_err hB)
  have f3 := ne_flag (tT_err hT)
  have g3 := eq_flag (tT_err hT)
  have f4 := ne_flag (tL_err hL)
  have g4 := eq_flag (tL_err hL)
  simp only [outU] at k1
  simp only [outI] at k2
  simp only [outB] at k3
  simp only [outT] at k4
  replace hU := Lib.hid hU
  replace hB := Lib.hid hB
  replace hT := Lib.hid hT
  replace hL := Lib.hid hL
  replace k5 := Lib.hid k5
  go_enter Try.func7, Try.ntmps7
  go_wp2_with fail
  refine (k1).mono ?_
  rintro e w' ⟨rfl, rfl⟩
  go_wp2_with fail
  refine (k2).mono ?_
  rintro e w' ⟨rfl, rfl⟩
  go_wp2_with fail
  refine (k3).mono ?_
  rintro e w' ⟨rfl, rfl⟩
  go_wp2_with fail
  refine (k4).mono ?_
  rintro e W ⟨rfl, bb⟩
  replace HB := HB.trans (bb.mono HB.size)
  clear bb
  clear k1 k2 k3 k4
  go_wp2_with fail
  refine (k5.out _).mono ?_
  rintro e W ⟨v1, rfl, R1, bb⟩
  simp only [toOf, errOf, listOf] at R1 ⊢
  replace HB := HB.trans (bb.mono HB.size)
  clear bb
  clear R1
  go_wp2_with fail
  refine (uint_any n _ u4).mono ?_
  rintro e W ⟨rfl, bb⟩
  replace HB := HB.trans (bb.mono HB.size)
  clear bb
  go_wp2_with fail
  refine (is_any l (enc n) a t _ hl2 u1 (by omega) u3 u5.out).mono ?_
  rintro e w' ⟨rfl, rfl⟩
  go_wp2_with fail
  refine (int_any (zag n) _ z2 z3).mono ?_
  rintro e W ⟨rfl, bb⟩
  replace HB := HB.trans (bb.mono HB.size)
  clear bb
  go_wp2_with fail
  refine (is_any l (encI (zag n)) a t _ hl2 u1 (by omega) u3 u6.out).mono ?_
  rintro e w' ⟨rfl, rfl⟩
  go_wp2_with fail
  refine (alive_any _).mono ?_
  rintro e W ⟨rfl, bb⟩
  replace HB := HB.trans (bb.mono HB.size)
  clear bb
  go_wp2
  go_ret
  exact ⟨rfl, HB⟩
set_option maxRecDepth 100000 in
set_option maxHeartbeats 4000000 in
theorem exact_1001 (l : List UInt8) (a m : Int) (w : World) (hl : l.length ≤ 2000) (ha : In64 a) (hm : In64 m) (n : Nat) (t : Int) (hU : tU l a = .ok (n, t)) (e1 : Int) (hB : tB l a = .err e1) (e2 : Int) (hT : tT l a m = .err e2) (xs : List Int) (t3 : Int) (hL : tL l a m = .ok (xs, t3)) :
    Calls Try.prog 7 #[str l, .int .i64 a, .int .i64 m] w (RetB w true) := by
  have hl2 : l.length ≤ 100000 := by omega
  have hl3 : l.length ≤ 9223372036854775807 := by omega
  have HB := Below.refl w.heap.size w
  have k1 := takeUint_any l a w hl3 ha
  have k2 := takeInt_any l a w hl3 ha
  have k3 := takeBool_any l a w hl3 ha
  have k4 := takeText_any l a m w hl2 ha hm
  have k5 := fun w => takeInts_any l a m w hl2 ha hm
  rw [tI, hU] at k2
  rw [hU] at k1
  rw [hB] at k3
  rw [hT] at k4
  rw [hL] at k5
  obtain ⟨u1, u2, u3, u4, u5⟩ := tU_ok hU
  have z1 := zag_in u4
  have u6 := Lib.hid (show (l.drop a.toNat).take (t - a).toNat = encI (zag n) by rw [u5, encI, zig_zag])
  replace u5 := Lib.hid u5
  obtain ⟨z2, z3⟩ := z1
  have f2 := ne_flag (tB_err hB)
  have g2 := eq_flag (tB_err hB)
  have f3 := ne_flag (tT_err hT)
  have g3 := eq_flag (tT_err hT)
  obtain ⟨d1, d2, d3, d4, d5, d6⟩ := tL_ok hL
  have d8 : decide ((xs.length : Int) ≤ m) = true := by rw [decide_eq_true_eq]; exact d4
  have d7 : xs.length ≤ 2000 := by
    have := congrArg List.length d6
    rw [List.length_take, List.length_drop, encL, List.length_append] at this
    have h2 := (encs_len xs d5).1
    omega
  replace d5 := Lib.hid d5
  replace d6 := Lib.hid d6
  simp only [outU] at k1
  simp only [outI] at k2
  simp only [outB] at k3
  simp only [outT] at k4
  replace hU := Lib.hid hU
  replace hB := Lib.hid hB
  replace hT := Lib.hid hT
  replace hL := Lib.hid hL
  replace k5 := Lib.hid k5
  go_enter Try.func7, Try.ntmps7
  go_wp2_with fail
  refine (k1).mono ?_
  rintro e w' ⟨rfl, rfl⟩
  go_wp2_with fail
  refine (k2).mono ?_
  rintro e w' ⟨rfl, rfl⟩
  go_wp2_with fail
  refine (k3).mono ?_
  rintro e w' ⟨rfl, rfl⟩
  go_wp2_with fail
  refine (k4).mono ?_
  rintro e W ⟨rfl, bb⟩
  replace HB := HB.trans (bb.mono HB.size)
  clear bb
  clear k1 k2 k3 k4
  go_wp2_with fail
  refine (k5.out _).mono ?_
  rintro e W ⟨v1, rfl, R1, bb⟩
  simp only [toOf, errOf, listOf] at R1 ⊢
  replace HB := HB.trans (bb.mono HB.size)
  clear bb
  obtain ⟨ra, rc, hv, hrc⟩ := R1
  rw [intsV_length] at hv hrc
  subst hv
  have R1 : RS _ (.slice ra xs.length rc) (intsV xs) := ⟨ra, rc, by rw [intsV_length], by rw [intsV_length]; exact hrc.1, hrc.2⟩
  clear hrc
  replace R1 := Lib.hid R1
  go_wp2_with fail
  refine (uint_any n _ u4).mono ?_
  rintro e W ⟨rfl, bb⟩
  replace R1 := Lib.hid (R1.out.below bb)
  replace HB := HB.trans (bb.mono HB.size)
  clear bb
  go_wp2_with fail
  refine (is_any l (enc n) a t _ hl2 u1 (by omega) u3 u5.out).mono ?_
  rintro e w' ⟨rfl, rfl⟩
  go_wp2_with fail
  refine (int_any (zag n) _ z2 z3).mono ?_
  rintro e W ⟨rfl, bb⟩
  replace R1 := Lib.hid (R1.out.below bb)
  replace HB := HB.trans (bb.mono HB.size)
  clear bb
  go_wp2_with fail
  refine (is_any l (encI (zag n)) a t _ hl2 u1 (by omega) u3 u6.out).mono ?_
  rintro e w' ⟨rfl, rfl⟩
  go_wp2_with fail
  refine (ints_any _ xs _ R1.out d7 d5.out).mono ?_
  rintro e W ⟨rfl, bb⟩
  replace R1 := Lib.hid (R1.out.below bb)
  replace HB := HB.trans (bb.mono HB.size)
  clear bb
  go_wp2_with fail
  refine (is_any l (encL xs) a t3 _ hl2 d1 d2 d3 d6.out).mono ?_
  rintro e w' ⟨rfl, rfl⟩
  go_wp2_with fail
  refine (alive_any _).mono ?_
  rintro e W ⟨rfl, bb⟩
  replace HB := HB.trans (bb.mono HB.size)
  clear bb
  go_wp2
  go_ret
  exact ⟨rfl, HB⟩
set_option maxRecDepth 100000 in
set_option maxHeartbeats 4000000 in
theorem exact_1010 (l : List UInt8) (a m : Int) (w : World) (hl : l.length ≤ 2000) (ha : In64 a) (hm : In64 m) (n : Nat) (t : Int) (hU : tU l a = .ok (n, t)) (e1 : Int) (hB : tB l a = .err e1) (x : List UInt8) (t2 : Int) (hT : tT l a m = .ok (x, t2)) (e3 : Int) (hL : tL l a m = .err e3) :
    Calls Try.prog 7 #[str l, .int .i64 a, .int .i64 m] w (RetB w true) := by
  have hl2 : l.length ≤ 100000 := by omega
  have hl3 : l.length ≤ 9223372036854775807 := by omega
  have HB := Below.refl w.heap.size w
  have k1 := takeUint_any l a w hl3 ha
  have k2 := takeInt_any l a w hl3 ha
  have k3 := takeBool_any l a w hl3 ha
  have k4 := takeText_any l a m w hl2 ha hm
  have k5 := fun w => takeInts_any l a m w hl2 ha hm
  rw [tI, hU] at k2
  rw [hU] at k1
  rw [hB] at k3
  rw [hT] at k4
  rw [hL] at k5
  obtain ⟨u1, u2, u3, u4, u5⟩ := tU_ok hU
  have z1 := zag_in u4
  have u6 := Lib.hid (show (l.drop a.toNat).take (t - a).toNat = encI (zag n) by rw [u5, encI, zig_zag])
  replace u5 := Lib.hid u5
  obtain ⟨z2, z3⟩ := z1
  have f2 := ne_flag (tB_err hB)
  have g2 := eq_flag (tB_err hB)
  obtain ⟨c1, c2, c3, c4, c5⟩ := tT_ok hT
  have c6 : decide ((x.length : Int) ≤ m) = true := by rw [decide_eq_true_eq]; exact c4
  have c7 : x.length ≤ 100000 := by
    have := congrArg List.length c5
    rw [List.length_take, List.length_drop, encT, List.length_append] at this
    omega
  replace c5 := Lib.hid c5
  have f4 := ne_flag (tL_err hL)
  have g4 := eq_flag (tL_err hL)
  simp only [outU] at k1
  simp only [outI] at k2
  simp only [outB] at k3
  simp only [outT] at k4
  replace hU := Lib.hid hU
  replace hB := Lib.hid hB
  replace hT := Lib.hid hT
  replace hL := Lib.hid hL
  replace k5 := Lib.hid k5
  go_enter Try.func7, Try.ntmps7
  go_wp2_with fail
  refine (k1).mono ?_
  rintro e w' ⟨rfl, rfl⟩
  go_wp2_with fail
  refine (k2).mono ?_
  rintro e w' ⟨rfl, rfl⟩
  go_wp2_with fail
  refine (k3).mono ?_
  rintro e w' ⟨rfl, rfl⟩
  go_wp2_with fail
  refine (k4).mono ?_
  rintro e W ⟨rfl, bb⟩
  replace HB := HB.trans (bb.mono HB.size)
  clear bb
  clear k1 k2 k3 k4
  go_wp2_with fail
  refine (k5.out _).mono ?_
  rintro e W ⟨v1, rfl, R1, bb⟩
  simp only [toOf, errOf, listOf] at R1 ⊢
  replace HB := HB.trans (bb.mono HB.size)
  clear bb
  clear R1
  go_wp2_with fail
  refine (uint_any n _ u4).mono ?_
  rintro e W ⟨rfl, bb⟩
  replace HB := HB.trans (bb.mono HB.size)
  clear bb
  go_wp2_with fail
  refine (is_any l (enc n) a t _ hl2 u1 (by omega) u3 u5.out).mono ?_
  rintro e w' ⟨rfl, rfl⟩
  go_wp2_with fail
  refine (int_any (zag n) _ z2 z3).mono ?_
  rintro e W ⟨rfl, bb⟩
  replace HB := HB.trans (bb.mono HB.size)
  clear bb
  go_wp2_with fail
  refine (is_any l (encI (zag n)) a t _ hl2 u1 (by omega) u3 u6.out).mono ?_
  rintro e w' ⟨rfl, rfl⟩
  go_wp2_with fail
  refine (text_any x _ c7).mono ?_
  rintro e W ⟨rfl, bb⟩
  replace HB := HB.trans (bb.mono HB.size)
  clear bb
  go_wp2_with fail
  refine (is_any l (encT x) a t2 _ hl2 c1 (by omega) c3 c5.out).mono ?_
  rintro e w' ⟨rfl, rfl⟩
  go_wp2_with fail
  refine (alive_any _).mono ?_
  rintro e W ⟨rfl, bb⟩
  replace HB := HB.trans (bb.mono HB.size)
  clear bb
  go_wp2
  go_ret
  exact ⟨rfl, HB⟩
set_option maxRecDepth 100000 in
set_option maxHeartbeats 4000000 in
theorem exact_1011 (l : List UInt8) (a m : Int) (w : World) (hl : l.length ≤ 2000) (ha : In64 a) (hm : In64 m) (n : Nat) (t : Int) (hU : tU l a = .ok (n, t)) (e1 : Int) (hB : tB l a = .err e1) (x : List UInt8) (t2 : Int) (hT : tT l a m = .ok (x, t2)) (xs : List Int) (t3 : Int) (hL : tL l a m = .ok (xs, t3)) :
    Calls Try.prog 7 #[str l, .int .i64 a, .int .i64 m] w (RetB w true) := by
  have hl2 : l.length ≤ 100000 := by omega
  have hl3 : l.length ≤ 9223372036854775807 := by omega
  have HB := Below.refl w.heap.size w
  have k1 := takeUint_any l a w hl3 ha
  have k2 := takeInt_any l a w hl3 ha
  have k3 := takeBool_any l a w hl3 ha
  have k4 := takeText_any l a m w hl2 ha hm
  have k5 := fun w => takeInts_any l a m w hl2 ha hm
  rw [tI, hU] at k2
  rw [hU] at k1
  rw [hB] at k3
  rw [hT] at k4
  rw [hL] at k5
  obtain ⟨u1, u2, u3, u4, u5⟩ := tU_ok hU
  have z1 := zag_in u4
  have u6 := Lib.hid (show (l.drop a.toNat).take (t - a).toNat = encI (zag n) by rw [u5, encI, zig_zag])
  replace u5 := Lib.hid u5
  obtain ⟨z2, z3⟩ := z1
  have f2 := ne_flag (tB_err hB)
  have g2 := eq_flag (tB_err hB)
  obtain ⟨c1, c2, c3, c4, c5⟩ := tT_ok hT
  have c6 : decide ((x.length : Int) ≤ m) = true := by rw [decide_eq_true_eq]; exact c4
  have c7 : x.length ≤ 100000 := by
    have := congrArg List.length c5
    rw [List.length_take, List.length_drop, encT, List.length_append] at this
    omega
  replace c5 := Lib.hid c5
  obtain ⟨d1, d2, d3, d4, d5, d6⟩ := tL_ok hL
  have d8 : decide ((xs.length : Int) ≤ m) = true := by rw [decide_eq_true_eq]; exact d4
  have d7 : xs.length ≤ 2000 := by
    have := congrArg List.length d6
    rw [List.length_take, List.length_drop, encL, List.length_append] at this
    have h2 := (encs_len xs d5).1
    omega
  replace d5 := Lib.hid d5
  replace d6 := Lib.hid d6
  simp only [outU] at k1
  simp only [outI] at k2
  simp only [outB] at k3
  simp only [outT] at k4
  replace hU := Lib.hid hU
  replace hB := Lib.hid hB
  replace hT := Lib.hid hT
  replace hL := Lib.hid hL
  replace k5 := Lib.hid k5
  go_enter Try.func7, Try.ntmps7
  go_wp2_with fail
  refine (k1).mono ?_
  rintro e w' ⟨rfl, rfl⟩
  go_wp2_with fail
  refine (k2).mono ?_
  rintro e w' ⟨rfl, rfl⟩
  go_wp2_with fail
  refine (k3).mono ?_
  rintro e w' ⟨rfl, rfl⟩
  go_wp2_with fail
  refine (k4).mono ?_
  rintro e W ⟨rfl, bb⟩
  replace HB := HB.trans (bb.mono HB.size)
  clear bb
  clear k1 k2 k3 k4
  go_wp2_with fail
  refine (k5.out _).mono ?_
  rintro e W ⟨v1, rfl, R1, bb⟩
  simp only [toOf, errOf, listOf] at R1 ⊢
  replace HB := HB.trans (bb.mono HB.size)
  clear bb
  obtain ⟨ra, rc, hv, hrc⟩ := R1
  rw [intsV_length] at hv hrc
  subst hv
  have R1 : RS _ (.slice ra xs.length rc) (intsV xs) := ⟨ra, rc, by rw [intsV_length], by rw [intsV_length]; exact hrc.1, hrc.2⟩
  clear hrc
  replace R1 := Lib.hid R1
  go_wp2_with fail
  refine (uint_any n _ u4).mono ?_
  rintro e W ⟨rfl, bb⟩
  replace R1 := Lib.hid (R1.out.below bb)
  replace HB := HB.trans (bb.mono HB.size)
  clear bb
  go_wp2_with fail
  refine (is_any l (enc n) a t _ hl2 u1 (by omega) u3 u5.out).mono ?_
  rintro e w' ⟨rfl, rfl⟩
  go_wp2_with fail
  refine (int_any (zag n) _ z2 z3).mono ?_
  rintro e W ⟨rfl, bb⟩
  replace R1 := Lib.hid (R1.out.below bb)
  replace HB := HB.trans (bb.mono HB.size)
  clear bb
  go_wp2_with fail
  refine (is_any l (encI (zag n)) a t _ hl2 u1 (by omega) u3 u6.out).mono ?_
  rintro e w' ⟨rfl, rfl⟩
  go_wp2_with fail
  refine (text_any x _ c7).mono ?_
  rintro e W ⟨rfl, bb⟩
  replace R1 := Lib.hid (R1.out.below bb)
  replace HB := HB.trans (bb.mono HB.size)
  clear bb
  go_wp2_with fail
  refine (is_any l (encT x) a t2 _ hl2 c1 (by omega) c3 c5.out).mono ?_
  rintro e w' ⟨rfl, rfl⟩
  go_wp2_with fail
  refine (ints_any _ xs _ R1.out d7 d5.out).mono ?_
  rintro e W ⟨rfl, bb⟩
  replace R1 := Lib.hid (R1.out.below bb)
  replace HB := HB.trans (bb.mono HB.size)
  clear bb
  go_wp2_with fail
  refine (is_any l (encL xs) a t3 _ hl2 d1 d2 d3 d6.out).mono ?_
  rintro e w' ⟨rfl, rfl⟩
  go_wp2_with fail
  refine (alive_any _).mono ?_
  rintro e W ⟨rfl, bb⟩
  replace HB := HB.trans (bb.mono HB.size)
  clear bb
  go_wp2
  go_ret
  exact ⟨rfl, HB⟩
set_option maxRecDepth 100000 in
set_option maxHeartbeats 4000000 in
theorem exact_1100 (l : List UInt8) (a m : Int) (w : World) (hl : l.length ≤ 2000) (ha : In64 a) (hm : In64 m) (n : Nat) (t : Int) (hU : tU l a = .ok (n, t)) (b : Bool) (t1 : Int) (hB : tB l a = .ok (b, t1)) (e2 : Int) (hT : tT l a m = .err e2) (e3 : Int) (hL : tL l a m = .err e3) :
    Calls Try.prog 7 #[str l, .int .i64 a, .int .i64 m] w (RetB w true) := by
  have hl2 : l.length ≤ 100000 := by omega
  have hl3 : l.length ≤ 9223372036854775807 := by omega
  have HB := Below.refl w.heap.size w
  have k1 := takeUint_any l a w hl3 ha
  have k2 := takeInt_any l a w hl3 ha
  have k3 := takeBool_any l a w hl3 ha
  have k4 := takeText_any l a m w hl2 ha hm
  have k5 := fun w => takeInts_any l a m w hl2 ha hm
  rw [tI, hU] at k2
  rw [hU] at k1
  rw [hB] at k3
  rw [hT] at k4
  rw [hL] at k5
  obtain ⟨u1, u2, u3, u4, u5⟩ := tU_ok hU
  have z1 := zag_in u4
  have u6 := Lib.hid (show (l.drop a.toNat).take (t - a).toNat = encI (zag n) by rw [u5, encI, zig_zag])
  replace u5 := Lib.hid u5
  obtain ⟨z2, z3⟩ := z1
  obtain ⟨b1, b2, b3, b4⟩ := tB_ok hB
  replace b4 := Lib.hid b4
  have f3 := ne_flag (tT_err hT)
  have g3 := eq_flag (tT_err hT)
  have f4 := ne_flag (tL_err hL)
  have g4 := eq_flag (tL_err hL)
  simp only [outU] at k1
  simp only [outI] at k2
  simp only [outB] at k3
  simp only [outT] at k4
  replace hU := Lib.hid hU
  replace hB := Lib.hid hB
  replace hT := Lib.hid hT
  replace hL := Lib.hid hL
  replace k5 := Lib.hid k5
  go_enter Try.func7, Try.ntmps7
  go_wp2_with fail
  refine (k1).mono ?_
  rintro e w' ⟨rfl, rfl⟩
  go_wp2_with fail
  refine (k2).mono ?_
  rintro e w' ⟨rfl, rfl⟩
  go_wp2_with fail
  refine (k3).mono ?_
  rintro e w' ⟨rfl, rfl⟩
  go_wp2_with fail
  refine (k4).mono ?_
  rintro e W ⟨rfl, bb⟩
  replace HB := HB.trans (bb.mono HB.size)
  clear bb
  clear k1 k2 k3 k4
  go_wp2_with fail
  refine (k5.out _).mono ?_
  rintro e W ⟨v1, rfl, R1, bb⟩
  simp only [toOf, errOf, listOf] at R1 ⊢
  replace HB := HB.trans (bb.mono HB.size)
  clear bb
  clear R1
  go_wp2_with fail
  refine (uint_any n _ u4).mono ?_
  rintro e W ⟨rfl, bb⟩
  replace HB := HB.trans (bb.mono HB.size)
  clear bb
  go_wp2_with fail
  refine (is_any l (enc n) a t _ hl2 u1 (by omega) u3 u5.out).mono ?_
  rintro e w' ⟨rfl, rfl⟩
  go_wp2_with fail
  refine (int_any (zag n) _ z2 z3).mono ?_
  rintro e W ⟨rfl, bb⟩
  replace HB := HB.trans (bb.mono HB.size)
  clear bb
  go_wp2_with fail
  refine (is_any l (encI (zag n)) a t _ hl2 u1 (by omega) u3 u6.out).mono ?_
  rintro e w' ⟨rfl, rfl⟩
  go_wp2_with fail
  refine (bool_any b _).mono ?_
  rintro e w' ⟨rfl, rfl⟩
  go_wp2_with fail
  refine (is_any l (encB b) a t1 _ hl2 b1 b2 b3 b4.out).mono ?_
  rintro e w' ⟨rfl, rfl⟩
  go_wp2_with fail
  refine (alive_any _).mono ?_
  rintro e W ⟨rfl, bb⟩
  replace HB := HB.trans (bb.mono HB.size)
  clear bb
  go_wp2
  go_ret
  exact ⟨rfl, HB⟩
set_option maxRecDepth 100000 in
set_option maxHeartbeats 4000000 in
theorem exact_1101 (l : List UInt8) (a m : Int) (w : World) (hl : l.length ≤ 2000) (ha : In64 a) (hm : In64 m) (n : Nat) (t : Int) (hU : tU l a = .ok (n, t)) (b : Bool) (t1 : Int) (hB : tB l a = .ok (b, t1)) (e2 : Int) (hT : tT l a m = .err e2) (xs : List Int) (t3 : Int) (hL : tL l a m = .ok (xs, t3)) :
    Calls Try.prog 7 #[str l, .int .i64 a, .int .i64 m] w (RetB w true) := by
  have hl2 : l.length ≤ 100000 := by omega
  have hl3 : l.length ≤ 9223372036854775807 := by omega
  have HB := Below.refl w.heap.size w
  have k1 := takeUint_any l a w hl3 ha
  have k2 := takeInt_any l a w hl3 ha
  have k3 := takeBool_any l a w hl3 ha
  have k4 := takeText_any l a m w hl2 ha hm
  have k5 := fun w => takeInts_any l a m w hl2 ha hm
  rw [tI, hU] at k2
  rw [hU] at k1
  rw [hB] at k3
  rw [hT] at k4
  rw [hL] at k5
  obtain ⟨u1, u2, u3, u4, u5⟩ := tU_ok hU
  have z1 := zag_in u4
  have u6 := Lib.hid (show (l.drop a.toNat).take (t - a).toNat = encI (zag n) by rw [u5, encI, zig_zag])
  replace u5 := Lib.hid u5
  obtain ⟨z2, z3⟩ := z1
  obtain ⟨b1, b2, b3, b4⟩ := tB_ok hB
  replace b4 := Lib.hid b4
  have f3 := ne_flag (tT_err hT)
  have g3 := eq_flag (tT_err hT)
  obtain ⟨d1, d2, d3, d4, d5, d6⟩ := tL_ok hL
  have d8 : decide ((xs.length : Int) ≤ m) = true := by rw [decide_eq_true_eq]; exact d4
  have d7 : xs.length ≤ 2000 := by
    have := congrArg List.length d6
    rw [List.length_take, List.length_drop, encL, List.length_append] at this
    have h2 := (encs_len xs d5).1
    omega
  replace d5 := Lib.hid d5
  replace d6 := Lib.hid d6
  simp only [outU] at k1
  simp only [outI] at k2
  simp only [outB] at k3
  simp only [outT] at k4
  replace hU := Lib.hid hU
  replace hB := Lib.hid hB
  replace hT := Lib.hid hT
  replace hL := Lib.hid hL
  replace k5 := Lib.hid k5
  go_enter Try.func7, Try.ntmps7
  go_wp2_with fail
  refine (k1).mono ?_
  rintro e w' ⟨rfl, rfl⟩
  go_wp2_with fail
  refine (k2).mono ?_
  rintro e w' ⟨rfl, rfl⟩
  go_wp2_with fail
  refine (k3).mono ?_
  rintro e w' ⟨rfl, rfl⟩
  go_wp2_with fail
  refine (k4).mono ?_
  rintro e W ⟨rfl, bb⟩
  replace HB := HB.trans (bb.mono HB.size)
  clear bb
  clear k1 k2 k3 k4
  go_wp2_with fail
  refine (k5.out _).mono ?_
  rintro e W ⟨v1, rfl, R1, bb⟩
  simp only [toOf, errOf, listOf] at R1 ⊢
  replace HB := HB.trans (bb.mono HB.size)
  clear bb
  obtain ⟨ra, rc, hv, hrc⟩ := R1
  rw [intsV_length] at hv hrc
  subst hv
  have R1 : RS _ (.slice ra xs.length rc) (intsV xs) := ⟨ra, rc, by rw [intsV_length], by rw [intsV_length]; exact hrc.1, hrc.2⟩
  clear hrc
  replace R1 := Lib.hid R1
  go_wp2_with fail
  refine (uint_any n _ u4).mono ?_
  rintro e W ⟨rfl, bb⟩
  replace R1 := Lib.hid (R1.out.below bb)
  replace HB := HB.trans (bb.mono HB.size)
  clear bb
  go_wp2_with fail
  refine (is_any l (enc n) a t _ hl2 u1 (by omega) u3 u5.out).mono ?_
  rintro e w' ⟨rfl, rfl⟩
  go_wp2_with fail
  refine (int_any (zag n) _ z2 z3).mono ?_
  rintro e W ⟨rfl, bb⟩
  replace R1 := Lib.hid (R1.out.below bb)
  replace HB := HB.trans (bb.mono HB.size)
  clear bb
  go_wp2_with fail
  refine (is_any l (encI (zag n)) a t _ hl2 u1 (by omega) u3 u6.out).mono ?_
  rintro e w' ⟨rfl, rfl⟩
  go_wp2_with fail
  refine (bool_any b _).mono ?_
  rintro e w' ⟨rfl, rfl⟩
  go_wp2_with fail
  refine (is_any l (encB b) a t1 _ hl2 b1 b2 b3 b4.out).mono ?_
  rintro e w' ⟨rfl, rfl⟩
  go_wp2_with fail
  refine (ints_any _ xs _ R1.out d7 d5.out).mono ?_
  rintro e W ⟨rfl, bb⟩
  replace R1 := Lib.hid (R1.out.below bb)
  replace HB := HB.trans (bb.mono HB.size)
  clear bb
  go_wp2_with fail
  refine (is_any l (encL xs) a t3 _ hl2 d1 d2 d3 d6.out).mono ?_
  rintro e w' ⟨rfl, rfl⟩
  go_wp2_with fail
  refine (alive_any _).mono ?_
  rintro e W ⟨rfl, bb⟩
  replace HB := HB.trans (bb.mono HB.size)
  clear bb
  go_wp2
  go_ret
  exact ⟨rfl, HB⟩
set_option maxRecDepth 100000 in
set_option maxHeartbeats 4000000 in
theorem exact_1110 (l : List UInt8) (a m : Int) (w : World) (hl : l.length ≤ 2000) (ha : In64 a) (hm : In64 m) (n : Nat) (t : Int) (hU : tU l a = .ok (n, t)) (b : Bool) (t1 : Int) (hB : tB l a = .ok (b, t1)) (x : List UInt8) (t2 : Int) (hT : tT l a m = .ok (x, t2)) (e3 : Int) (hL : tL l a m = .err e3) :
    Calls Try.prog 7 #[str l, .int .i64 a, .int .i64 m] w (RetB w true) := by
  have hl2 : l.length ≤ 100000 := by omega
  have hl3 : l.length ≤ 9223372036854775807 := by omega
  have HB := Below.refl w.heap.size w
  have k1 := takeUint_any l a w hl3 ha
  have k2 := takeInt_any l a w hl3 ha
  have k3 := takeBool_any l a w hl3 ha
  have k4 := takeText_any l a m w hl2 ha hm
  have k5 := fun w => takeInts_any l a m w hl2 ha hm
  rw [tI, hU] at k2
  rw [hU] at k1
  rw [hB] at k3
  rw [hT] at k4
  rw [hL] at k5
  obtain ⟨u1, u2, u3, u4, u5⟩ := tU_ok hU
  have z1 := zag_in u4
  have u6 := Lib.hid (show (l.drop a.toNat).take (t - a).toNat = encI (zag n) by rw [u5, encI, zig_zag])
  replace u5 := Lib.hid u5
  obtain ⟨z2, z3⟩ := z1
  obtain ⟨b1, b2, b3, b4⟩ := tB_ok hB
  replace b4 := Lib.hid b4
  obtain ⟨c1, c2, c3, c4, c5⟩ := tT_ok hT
  have c6 : decide ((x.length : Int) ≤ m) = true := by rw [decide_eq_true_eq]; exact c4
  have c7 : x.length ≤ 100000 := by
    have := congrArg List.length c5
    rw [List.length_take, List.length_drop, encT, List.length_append] at this
    omega
  replace c5 := Lib.hid c5
  have f4 := ne_flag (tL_err hL)
  have g4 := eq_flag (tL_err hL)
  simp only [outU] at k1
  simp only [outI] at k2
  simp only [outB] at k3
  simp only [outT] at k4
  replace hU := Lib.hid hU
  replace hB := Lib.hid hB
  replace hT := Lib.hid hT
  replace hL := Lib.hid hL
  replace k5 := Lib.hid k5
  go_enter Try.func7, Try.ntmps7
  go_wp2_with fail
  refine (k1).mono ?_
  rintro e w' ⟨rfl, rfl⟩
  go_wp2_with fail
  refine (k2).mono ?_
  rintro e w' ⟨rfl, rfl⟩
  go_wp2_with fail
  refine (k3).mono ?_
  rintro e w' ⟨rfl, rfl⟩
  go_wp2_with fail
  refine (k4).mono ?_
  rintro e W ⟨rfl, bb⟩
  replace HB := HB.trans (bb.mono HB.size)
  clear bb
  clear k1 k2 k3 k4
  go_wp2_with fail
  refine (k5.out _).mono ?_
  rintro e W ⟨v1, rfl, R1, bb⟩
  simp only [toOf, errOf, listOf] at R1 ⊢
  replace HB := HB.trans (bb.mono HB.size)
  clear bb
  clear R1
  go_wp2_with fail
  refine (uint_any n _ u4).mono ?_
  rintro e W ⟨rfl, bb⟩
  replace HB := HB.trans (bb.mono HB.size)
  clear bb
  go_wp2_with fail
  refine (is_any l (enc n) a t _ hl2 u1 (by omega) u3 u5.out).mono ?_
  rintro e w' ⟨rfl, rfl⟩
  go_wp2_with fail
  refine (int_any (zag n) _ z2 z3).mono ?_
  rintro e W ⟨rfl, bb⟩
  replace HB := HB.trans (bb.mono HB.size)
  clear bb
  go_wp2_with fail
  refine (is_any l (encI (zag n)) a t _ hl2 u1 (by omega) u3 u6.out).mono ?_
  rintro e w' ⟨rfl, rfl⟩
  go_wp2_with fail
  refine (bool_any b _).mono ?_
  rintro e w' ⟨rfl, rfl⟩
  go_wp2_with fail
  refine (is_any l (encB b) a t1 _ hl2 b1 b2 b3 b4.out).mono ?_
  rintro e w' ⟨rfl, rfl⟩
  go_wp2_with fail
  refine (text_any x _ c7).mono ?_
  rintro e W ⟨rfl, bb⟩
  replace HB := HB.trans (bb.mono HB.size)
  clear bb
  go_wp2_with fail
  refine (is_any l (encT x) a t2 _ hl2 c1 (by omega) c3 c5.out).mono ?_
  rintro e w' ⟨rfl, rfl⟩
  go_wp2_with fail
  refine (alive_any _).mono ?_
  rintro e W ⟨rfl, bb⟩
  replace HB := HB.trans (bb.mono HB.size)
  clear bb
  go_wp2
  go_ret
  exact ⟨rfl, HB⟩
set_option maxRecDepth 100000 in
set_option maxHeartbeats 4000000 in
theorem exact_1111 (l : List UInt8) (a m : Int) (w : World) (hl : l.length ≤ 2000) (ha : In64 a) (hm : In64 m) (n : Nat) (t : Int) (hU : tU l a = .ok (n, t)) (b : Bool) (t1 : Int) (hB : tB l a = .ok (b, t1)) (x : List UInt8) (t2 : Int) (hT : tT l a m = .ok (x, t2)) (xs : List Int) (t3 : Int) (hL : tL l a m = .ok (xs, t3)) :
    Calls Try.prog 7 #[str l, .int .i64 a, .int .i64 m] w (RetB w true) := by
  have hl2 : l.length ≤ 100000 := by omega
  have hl3 : l.length ≤ 9223372036854775807 := by omega
  have HB := Below.refl w.heap.size w
  have k1 := takeUint_any l a w hl3 ha
  have k2 := takeInt_any l a w hl3 ha
  have k3 := takeBool_any l a w hl3 ha
  have k4 := takeText_any l a m w hl2 ha hm
  have k5 := fun w => takeInts_any l a m w hl2 ha hm
  rw [tI, hU] at k2
  rw [hU] at k1
  rw [hB] at k3
  rw [hT] at k4
  rw [hL] at k5
  obtain ⟨u1, u2, u3, u4, u5⟩ := tU_ok hU
  have z1 := zag_in u4
  have u6 := Lib.hid (show (l.drop a.toNat).take (t - a).toNat = encI (zag n) by rw [u5, encI, zig_zag])
  replace u5 := Lib.hid u5
  obtain ⟨z2, z3⟩ := z1
  obtain ⟨b1, b2, b3, b4⟩ := tB_ok hB
  replace b4 := Lib.hid b4
  obtain ⟨c1, c2, c3, c4, c5⟩ := tT_ok hT
  have c6 : decide ((x.length : Int) ≤ m) = true := by rw [decide_eq_true_eq]; exact c4
  have c7 : x.length ≤ 100000 := by
    have := congrArg List.length c5
    rw [List.length_take, List.length_drop, encT, List.length_append] at this
    omega
  replace c5 := Lib.hid c5
  obtain ⟨d1, d2, d3, d4, d5, d6⟩ := tL_ok hL
  have d8 : decide ((xs.length : Int) ≤ m) = true := by rw [decide_eq_true_eq]; exact d4
  have d7 : xs.length ≤ 2000 := by
    have := congrArg List.length d6
    rw [List.length_take, List.length_drop, encL, List.length_append] at this
    have h2 := (encs_len xs d5).1
    omega
  replace d5 := Lib.hid d5
  replace d6 := Lib.hid d6
  simp only [outU] at k1
  simp only [outI] at k2
  simp only [outB] at k3
  simp only [outT] at k4
  replace hU := Lib.hid hU
  replace hB := Lib.hid hB
  replace hT := Lib.hid hT
  replace hL := Lib.hid hL
  replace k5 := Lib.hid k5
  go_enter Try.func7, Try.ntmps7
  go_wp2_with fail
  refine (k1).mono ?_
  rintro e w' ⟨rfl, rfl⟩
  go_wp2_with fail
  refine (k2).mono ?_
  rintro e w' ⟨rfl, rfl⟩
  go_wp2_with fail
  refine (k3).mono ?_
  rintro e w' ⟨rfl, rfl⟩
  go_wp2_with fail
  refine (k4).mono ?_
  rintro e W ⟨rfl, bb⟩
  replace HB := HB.trans (bb.mono HB.size)
  clear bb
  clear k1 k2 k3 k4
  go_wp2_with fail
  refine (k5.out _).mono ?_
  rintro e W ⟨v1, rfl, R1, bb⟩
  simp only [toOf, errOf, listOf] at R1 ⊢
  replace HB := HB.trans (bb.mono HB.size)
  clear bb
  obtain ⟨ra, rc, hv, hrc⟩ := R1
  rw [intsV_length] at hv hrc
  subst hv
  have R1 : RS _ (.slice ra xs.length rc) (intsV xs) := ⟨ra, rc, by rw [intsV_length], by rw [intsV_length]; exact hrc.1, hrc.2⟩
  clear hrc
  replace R1 := Lib.hid R1
  go_wp2_with fail
  refine (uint_any n _ u4).mono ?_
  rintro e W ⟨rfl, bb⟩
  replace R1 := Lib.hid (R1.out.below bb)
  replace HB := HB.trans (bb.mono HB.size)
  clear bb
  go_wp2_with fail
  refine (is_any l (enc n) a t _ hl2 u1 (by omega) u3 u5.out).mono ?_
  rintro e w' ⟨rfl, rfl⟩
  go_wp2_with fail
  refine (int_any (zag n) _ z2 z3).mono ?_
  rintro e W ⟨rfl, bb⟩
  replace R1 := Lib.hid (R1.out.below bb)
  replace HB := HB.trans (bb.mono HB.size)
  clear bb
  go_wp2_with fail
  refine (is_any l (encI (zag n)) a t _ hl2 u1 (by omega) u3 u6.out).mono ?_
  rintro e w' ⟨rfl, rfl⟩
  go_wp2_with fail
  refine (bool_any b _).mono ?_
  rintro e w' ⟨rfl, rfl⟩
  go_wp2_with fail
  refine (is_any l (encB b) a t1 _ hl2 b1 b2 b3 b4.out).mono ?_
  rintro e w' ⟨rfl, rfl⟩
  go_wp2_with fail
  refine (text_any x _ c7).mono ?_
  rintro e W ⟨rfl, bb⟩
  replace R1 := Lib.hid (R1.out.below bb)
  replace HB := HB.trans (bb.mono HB.size)
  clear bb
  go_wp2_with fail
  refine (is_any l (encT x) a t2 _ hl2 c1 (by omega) c3 c5.out).mono ?_
  rintro e w' ⟨rfl, rfl⟩
  go_wp2_with fail
  refine (ints_any _ xs _ R1.out d7 d5.out).mono ?_
  rintro e W ⟨rfl, bb⟩
  replace R1 := Lib.hid (R1.out.below bb)
  replace HB := HB.trans (bb.mono HB.size)
  clear bb
  go_wp2_with fail
  refine (is_any l (encL xs) a t3 _ hl2 d1 d2 d3 d6.out).mono ?_
  rintro e w' ⟨rfl, rfl⟩
  go_wp2_with fail
  refine (alive_any _).mono ?_
  rintro e W ⟨rfl, bb⟩
  replace HB := HB.trans (bb.mono HB.size)
  clear bb
  go_wp2
  go_ret
  exact ⟨rfl, HB⟩
theorem exact_any (l : List UInt8) (a m : Int) (w : World) (hl : l.length ≤ 9223372036854775807) (ha : In64 a) (hm : In64 m) :
    Calls Try.prog 7 #[str l, .int .i64 a, .int .i64 m] w (RetB w true) := by
  by_cases hlen : 2000 < l.length
  · exact exact_long l a m w hl hlen
  have hl1 : l.length ≤ 2000 := by omega
  cases hU : tU l a with
  | err e =>
    have hC : tC l a m = .err e := by rw [tC, hU]
    have hT : tT l a m = .err e := by rw [tT, hC]
    have hL : tL l a m = .err e := by rw [tL, hC]
    cases hB : tB l a with
    | err e1 => exact exact_0000 l a m w hl1 ha hm e hU e1 hB e hT e hL
    | ok y => exact exact_0100 l a m w hl1 ha hm e hU y.1 y.2 hB e hT e hL
  | ok z =>
    cases hB : tB l a with
    | err e1 =>
      cases hT : tT l a m with
      | err e2 =>
        cases hL : tL l a m with
        | err e3 => exact exact_1000 l a m w hl1 ha hm z.1 z.2 hU e1 hB e2 hT e3 hL
        | ok v => exact exact_1001 l a m w hl1 ha hm z.1 z.2 hU e1 hB e2 hT v.1 v.2 hL
      | ok u =>
        cases hL : tL l a m with
        | err e3 => exact exact_1010 l a m w hl1 ha hm z.1 z.2 hU e1 hB u.1 u.2 hT e3 hL
        | ok v => exact exact_1011 l a m w hl1 ha hm z.1 z.2 hU e1 hB u.1 u.2 hT v.1 v.2 hL
    | ok y =>
      cases hT : tT l a m with
      | err e2 =>
        cases hL : tL l a m with
        | err e3 => exact exact_1100 l a m w hl1 ha hm z.1 z.2 hU y.1 y.2 hB e2 hT e3 hL
        | ok v => exact exact_1101 l a m w hl1 ha hm z.1 z.2 hU y.1 y.2 hB e2 hT v.1 v.2 hL
      | ok u =>
        cases hL : tL l a m with
        | err e3 => exact exact_1110 l a m w hl1 ha hm z.1 z.2 hU y.1 y.2 hB u.1 u.2 hT e3 hL
        | ok v => exact exact_1111 l a m w hl1 ha hm z.1 z.2 hU y.1 y.2 hB u.1 u.2 hT v.1 v.2 hL
end Go.Proofs.Ytemhfhfbhdkedaa
