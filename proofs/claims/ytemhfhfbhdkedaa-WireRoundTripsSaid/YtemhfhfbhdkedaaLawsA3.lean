/- The walks of the statements of layer 3 that take texts and numbers: each returns true and changes nothing that was there. -/
import Derived.Test.YtemhfhfbhdkedaaAlive3
namespace Go.Proofs.Ytemhfhfbhdkedaa
open Go.ChangeShapes Go.WideShapes Go.ChangeAt Go.RowKit
def uN : DR (Nat × Int) → Nat | .ok (n, _) => n | .err _ => 0
def uT : DR (Nat × Int) → Int | .ok (_, t) => t | .err _ => 0
def uE : DR (Nat × Int) → Int | .ok _ => 0 | .err e => e
def iN : DR (Int × Int) → Int | .ok (n, _) => n | .err _ => 0
def iT : DR (Int × Int) → Int | .ok (_, t) => t | .err _ => 0
def iE : DR (Int × Int) → Int | .ok _ => 0 | .err e => e
def bN : DR (Bool × Int) → Bool | .ok (n, _) => n | .err _ => false
def bT : DR (Bool × Int) → Int | .ok (_, t) => t | .err _ => 0
def bE : DR (Bool × Int) → Int | .ok _ => 0 | .err e => e
def xN : DR (List UInt8 × Int) → List UInt8 | .ok (n, _) => n | .err _ => []
def xT : DR (List UInt8 × Int) → Int | .ok (_, t) => t | .err _ => 0
def xE : DR (List UInt8 × Int) → Int | .ok _ => 0 | .err e => e
theorem outU_eq (r : DR (Nat × Int)) : outU r = .tuple #[.int .u64 (uN r), .int .i64 (uT r), .int .i64 (uE r)] := by cases r <;> rfl
theorem outC_eq (r : DR (Nat × Int)) : outC r = .tuple #[.int .i64 (uN r), .int .i64 (uT r), .int .i64 (uE r)] := by cases r <;> rfl
theorem outI_eq (r : DR (Int × Int)) : outI r = .tuple #[.int .i64 (iN r), .int .i64 (iT r), .int .i64 (iE r)] := by cases r <;> rfl
theorem outB_eq (r : DR (Bool × Int)) : outB r = .tuple #[.bool (bN r), .int .i64 (bT r), .int .i64 (bE r)] := by cases r <;> rfl
theorem outT_eq (r : DR (List UInt8 × Int)) : outT r = .tuple #[str (xN r), .int .i64 (xT r), .int .i64 (xE r)] := by cases r <;> rfl
set_option maxRecDepth 100000 in
set_option maxHeartbeats 4000000 in
theorem lengths_gt (a b : Nat) (w : World) (ha : a < 18446744073709551616) (hb : b < 18446744073709551616) (hab : b < a) :
    Calls Try.prog 9 #[.int .u64 a, .int .u64 b] w (RetB w true) := by
  have HB := Below.refl w.heap.size w
  have E1 : ((enc b).length : Int) ≤ ((enc a).length : Int) := by have := enc_mono b a (by omega); omega
  have E2 : (1 : Int) ≤ ((enc b).length : Int) := by have := enc_pos b; omega
  have E3 : ((enc a).length : Int) ≤ 10 := by have := enc_ten (n := a) (by omega); omega
  have e1 : decide ((1 : Int) ≤ ((enc b).length : Int)) = true := by rw [decide_eq_true_eq]; exact E2
  have e2 : decide (((enc b).length : Int) ≤ ((enc a).length : Int)) = true := by rw [decide_eq_true_eq]; exact E1
  have e3 : decide (((enc a).length : Int) ≤ 10) = true := by rw [decide_eq_true_eq]; exact E3
  have e4 : decide ((enc b).length ≤ (enc a).length) = true := by rw [decide_eq_true_eq]; omega
  clear E1 E2 E3
  go_enter Try.func9, Try.ntmps9
  go_wp2_with fail
  refine (uint_any b _ (by omega)).mono ?_
  rintro e W ⟨rfl, bb⟩
  replace HB := HB.trans (bb.mono HB.size)
  clear bb
  go_wp2_with fail
  refine (uint_any a _ (by omega)).mono ?_
  rintro e W ⟨rfl, bb⟩
  replace HB := HB.trans (bb.mono HB.size)
  clear bb
  go_wp2_with fail
  refine (alive_any _).mono ?_
  rintro e W ⟨rfl, bb⟩
  replace HB := HB.trans (bb.mono HB.size)
  clear bb
  go_wp2
  go_ret
  exact ⟨rfl, HB⟩
set_option maxRecDepth 100000 in
set_option maxHeartbeats 4000000 in
theorem lengths_lt (a b : Nat) (w : World) (ha : a < 18446744073709551616) (hb : b < 18446744073709551616) (hab : a < b) :
    Calls Try.prog 9 #[.int .u64 a, .int .u64 b] w (RetB w true) := by
  have HB := Below.refl w.heap.size w
  have E1 : ((enc a).length : Int) ≤ ((enc b).length : Int) := by have := enc_mono a b (by omega); omega
  have E2 : (1 : Int) ≤ ((enc a).length : Int) := by have := enc_pos a; omega
  have E3 : ((enc b).length : Int) ≤ 10 := by have := enc_ten (n := b) (by omega); omega
  have e1 : decide ((1 : Int) ≤ ((enc a).length : Int)) = true := by rw [decide_eq_true_eq]; exact E2
  have e2 : decide (((enc a).length : Int) ≤ ((enc b).length : Int)) = true := by rw [decide_eq_true_eq]; exact E1
  have e3 : decide (((enc b).length : Int) ≤ 10) = true := by rw [decide_eq_true_eq]; exact E3
  have e4 : decide ((enc a).length ≤ (enc b).length) = true := by rw [decide_eq_true_eq]; omega
  clear E1 E2 E3
  go_enter Try.func9, Try.ntmps9
  go_wp2_with fail
  refine (uint_any a _ (by omega)).mono ?_
  rintro e W ⟨rfl, bb⟩
  replace HB := HB.trans (bb.mono HB.size)
  clear bb
  go_wp2_with fail
  refine (uint_any b _ (by omega)).mono ?_
  rintro e W ⟨rfl, bb⟩
  replace HB := HB.trans (bb.mono HB.size)
  clear bb
  go_wp2_with fail
  refine (alive_any _).mono ?_
  rintro e W ⟨rfl, bb⟩
  replace HB := HB.trans (bb.mono HB.size)
  clear bb
  go_wp2
  go_ret
  exact ⟨rfl, HB⟩
set_option maxRecDepth 100000 in
set_option maxHeartbeats 4000000 in
theorem lengths_eq (a b : Nat) (w : World) (ha : a < 18446744073709551616) (hb : b < 18446744073709551616)  :
    Calls Try.prog 9 #[.int .u64 a, .int .u64 a] w (RetB w true) := by
  have HB := Below.refl w.heap.size w
  have E1 : ((enc a).length : Int) ≤ ((enc a).length : Int) := by have := enc_mono a a (by omega); omega
  have E2 : (1 : Int) ≤ ((enc a).length : Int) := by have := enc_pos a; omega
  have E3 : ((enc a).length : Int) ≤ 10 := by have := enc_ten (n := a) (by omega); omega
  have e1 : decide ((1 : Int) ≤ ((enc a).length : Int)) = true := by rw [decide_eq_true_eq]; exact E2
  have e2 : decide (((enc a).length : Int) ≤ ((enc a).length : Int)) = true := by rw [decide_eq_true_eq]; exact E1
  have e3 : decide (((enc a).length : Int) ≤ 10) = true := by rw [decide_eq_true_eq]; exact E3
  have e4 : decide ((enc a).length ≤ (enc a).length) = true := by rw [decide_eq_true_eq]; omega
  clear E1 E2 E3
  go_enter Try.func9, Try.ntmps9
  go_wp2_with fail
  refine (uint_any a _ (by omega)).mono ?_
  rintro e W ⟨rfl, bb⟩
  replace HB := HB.trans (bb.mono HB.size)
  clear bb
  go_wp2_with fail
  refine (uint_any a _ (by omega)).mono ?_
  rintro e W ⟨rfl, bb⟩
  replace HB := HB.trans (bb.mono HB.size)
  clear bb
  go_wp2_with fail
  refine (alive_any _).mono ?_
  rintro e W ⟨rfl, bb⟩
  replace HB := HB.trans (bb.mono HB.size)
  clear bb
  go_wp2
  go_ret
  exact ⟨rfl, HB⟩
theorem lengths_any (a b : Nat) (w : World) (ha : a < 18446744073709551616) (hb : b < 18446744073709551616) :
    Calls Try.prog 9 #[.int .u64 a, .int .u64 b] w (RetB w true) := by
  rcases Nat.lt_trichotomy a b with h | rfl | h
  · exact lengths_lt a b w ha hb h
  · exact lengths_eq a a w ha hb
  · exact lengths_gt a b w ha hb h
set_option maxRecDepth 100000 in
set_option maxHeartbeats 4000000 in
theorem takes_any (l : List UInt8) (a : Int) (w : World) (hl : l.length ≤ 9223372036854775807) (ha : In64 a) :
    Calls Try.prog 4 #[str l, .int .i64 a] w (RetB w true) := by
  have HB := Below.refl w.heap.size w
  go_enter Try.func4, Try.ntmps4
  go_wp2_with fail
  refine (takeUint_any l a _ hl ha).mono ?_
  rintro e w' ⟨rfl, rfl⟩
  rw [outU_eq]
  go_wp2_with fail
  refine (rtakeUint_any l a _ hl ha).mono ?_
  rintro e w' ⟨rfl, rfl⟩
  rw [outU_eq]
  go_wp2_with fail
  refine (takeInt_any l a _ hl ha).mono ?_
  rintro e w' ⟨rfl, rfl⟩
  rw [outI_eq]
  go_wp2_with fail
  refine (rtakeInt_any l a _ hl ha).mono ?_
  rintro e w' ⟨rfl, rfl⟩
  rw [outI_eq]
  go_wp2_with fail
  refine (takeBool_any l a _ hl ha).mono ?_
  rintro e w' ⟨rfl, rfl⟩
  rw [outB_eq]
  go_wp2_with fail
  refine (rtakeBool_any l a _ hl ha).mono ?_
  rintro e w' ⟨rfl, rfl⟩
  rw [outB_eq]
  go_wp2_with fail
  refine (alive_any _).mono ?_
  rintro e W ⟨rfl, bb⟩
  replace HB := HB.trans (bb.mono HB.size)
  clear bb
  go_wp2
  go_ret
  exact ⟨rfl, HB⟩
set_option maxRecDepth 100000 in
set_option maxHeartbeats 4000000 in
theorem lists_long (l : List UInt8) (a m : Int) (w : World) (hl : l.length ≤ 9223372036854775807) (h : 2000 < l.length) :
    Calls Try.prog 5 #[str l, .int .i64 a, .int .i64 m] w (RetB w true) := by
  have HB := Below.refl w.heap.size w
  have hs := Lib.hid (sb_size l)
  go_enter Try.func5, Try.ntmps5
  go_wp2_with fail
  refine (alive_any _).mono ?_
  rintro e W ⟨rfl, bb⟩
  replace HB := HB.trans (bb.mono HB.size)
  clear bb
  go_wp2
  go_ret
  exact ⟨rfl, HB⟩
set_option maxRecDepth 100000 in
set_option maxHeartbeats 4000000 in
theorem lists_any (l : List UInt8) (a m : Int) (w : World) (hl : l.length ≤ 9223372036854775807) (ha : In64 a) (hm : In64 m) :
    Calls Try.prog 5 #[str l, .int .i64 a, .int .i64 m] w (RetB w true) := by
  by_cases hlen : 2000 < l.length
  · exact lists_long l a m w hl hlen
  have hl1 : l.length ≤ 2000 := by omega
  have hl2 : l.length ≤ 100000 := by omega
  have HB := Below.refl w.heap.size w
  have hs := Lib.hid (sb_size l)
  clear hlen
  go_enter Try.func5, Try.ntmps5
  go_wp2_with fail
  refine (takeText_any l a m _ hl2 ha hm).mono ?_
  rintro e W ⟨rfl, bb⟩
  rw [outT_eq]
  replace HB := HB.trans (bb.mono HB.size)
  clear bb
  go_wp2_with fail
  refine (rtakeText_any l a m _ hl2 ha hm).mono ?_
  rintro e W ⟨rfl, bb⟩
  rw [outT_eq]
  replace HB := HB.trans (bb.mono HB.size)
  clear bb
  go_wp2_with fail
  refine (takeCount_any l a m _ hl ha hm).mono ?_
  rintro e w' ⟨rfl, rfl⟩
  rw [outC_eq]
  go_wp2_with fail
  refine (rtakeCount_any l a m _ hl ha hm).mono ?_
  rintro e w' ⟨rfl, rfl⟩
  rw [outC_eq]
  go_wp2_with fail
  refine (takeInts_any l a m _ hl2 ha hm).mono ?_
  rintro e W ⟨R1v, rfl, R1, bb⟩
  replace R1 := Lib.hid R1
  replace HB := HB.trans (bb.mono HB.size)
  clear bb
  go_wp2_with fail
  refine (rtakeInts_any l a m _ hl2 ha hm).mono ?_
  rintro e W ⟨R2v, rfl, R2, bb⟩
  replace R2 := Lib.hid R2
  replace R1 := Lib.hid (R1.out.below bb)
  replace HB := HB.trans (bb.mono HB.size)
  clear bb
  go_wp2_with fail
  refine (same_any _ _ (listOf (tL l a m)) _ R1.out R2.out).mono ?_
  rintro e W ⟨rfl, bb⟩
  replace HB := HB.trans (bb.mono HB.size)
  clear bb
  go_wp2_with fail
  refine (alive_any _).mono ?_
  rintro e W ⟨rfl, bb⟩
  replace HB := HB.trans (bb.mono HB.size)
  clear bb
  go_wp2
  go_ret
  exact ⟨rfl, HB⟩
set_option maxRecDepth 100000 in
set_option maxHeartbeats 4000000 in
theorem exact_long (l : List UInt8) (a m : Int) (w : World) (hl : l.length ≤ 9223372036854775807) (h : 2000 < l.length) :
    Calls Try.prog 7 #[str l, .int .i64 a, .int .i64 m] w (RetB w true) := by
  have HB := Below.refl w.heap.size w
  have hs := Lib.hid (sb_size l)
  go_enter Try.func7, Try.ntmps7
  go_wp2_with fail
  refine (alive_any _).mono ?_
  rintro e W ⟨rfl, bb⟩
  replace HB := HB.trans (bb.mono HB.size)
  clear bb
  go_wp2
  go_ret
  exact ⟨rfl, HB⟩
def Ok (b : Bool) : Prop := b = true
theorem isU {l : List UInt8} {a : Int} (h : uE (tU l a) = 0) : ∃ n t, tU l a = .ok (n, t) := by
  cases hr : tU l a with
  | ok x => exact ⟨x.1, x.2, rfl⟩
  | err e => rw [hr] at h; exact absurd h (tU_err hr)
theorem isI {l : List UInt8} {a : Int} (h : iE (tI l a) = 0) : ∃ n t, tI l a = .ok (n, t) := by
  cases hr : tI l a with
  | ok x => exact ⟨x.1, x.2, rfl⟩
  | err e => rw [hr] at h; exact absurd h (tI_err hr)
theorem tB_ok {l : List UInt8} {a t : Int} {b : Bool} (h : tB l a = .ok (b, t)) : 0 ≤ a ∧ a ≤ t ∧ t ≤ l.length ∧ (l.drop a.toNat).take (t - a).toNat = encB b := by
  unfold tB at h
  split at h
  · cases h
  rename_i h1
  split at h
  · cases h
  rename_i x xs hd
  split at h
  · cases h
  rename_i h2
  simp only [DR.ok.injEq, Prod.mk.injEq] at h
  obtain ⟨rfl, rfl⟩ := h
  have hl := congrArg List.length hd
  rw [List.length_drop, List.length_cons] at hl
  refine ⟨by omega, by omega, by omega, ?_⟩
  rw [hd, show (a + 1 - a).toNat = 1 by omega]
  have hx : x.toNat = 0 ∨ x.toNat = 1 := by omega
  rcases hx with hx | hx
  · have e : x = 0 := by rw [← UInt8.toNat_inj]; exact hx
    subst e; rfl
  · have e : x = 1 := by rw [← UInt8.toNat_inj]; exact hx
    subst e; rfl
theorem tB_err {l : List UInt8} {a e : Int} (h : tB l a = .err e) : e ≠ 0 := by
  unfold tB at h
  split at h
  · simp only [DR.err.injEq] at h; omega
  · split at h
    · simp only [DR.err.injEq] at h; omega
    · split at h
      · simp only [DR.err.injEq] at h; omega
      · cases h
end Go.Proofs.Ytemhfhfbhdkedaa
