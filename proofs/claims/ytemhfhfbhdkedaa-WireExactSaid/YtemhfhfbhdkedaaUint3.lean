/- Contracts of the writers of numbers. Conditions: as stated. -/
import Derived.Test.YtemhfhfbhdkedaaKit
import Derived.Test.YtemhfhfbhdkedaaEnc3
namespace Go.Proofs.Ytemhfhfbhdkedaa
open Go.ChangeShapes Go.WideShapes Go.ChangeAt Go.RowKit
/-- The invariant of a writer: what has been written, and what is left. -/
def UInv (base : Nat) (w wx : World) (m m' g : Nat) (q : List UInt8) : Prop := q ++ enc m' = enc m ∧ (enc m').length = g + 1 ∧ m' < 18446744073709551616 ∧ Below base w wx ∧ q.length ≤ 10
theorem UInv.start {base : Nat} {w : World} {m : Nat} (hm : m < 18446744073709551616) : UInv base w w m m ((enc m).length - 1) [] :=
  ⟨rfl, by have := enc_pos m; omega, hm, Below.refl _ _, by simp⟩
theorem UInv.step {base : Nat} {w wx wy : World} {m m' g : Nat} {q : List UInt8} (h : UInv base w wx m m' (g + 1) q) (hl : 128 ≤ m') (hm : m < 18446744073709551616) (hb : Below base w wy) :
    UInv base w wy m (m' / 128) g (q ++ [UInt8.ofNat (128 + m' % 128)]) := by
  obtain ⟨h1, h2, h3, _, _⟩ := h
  have h10 := enc_ten hm
  rw [enc_hi hl] at h1 h2
  refine ⟨by rw [List.append_assoc]; exact h1, by simpa using h2, by omega, hb, ?_⟩
  rw [← h1] at h10
  simp at h10 ⊢; omega
theorem UInv.zero {base : Nat} {w wx : World} {m m' : Nat} {q : List UInt8} (h : UInv base w wx m m' 0 q) : m' < 128 := by
  rcases Nat.lt_or_ge m' 128 with h1 | h1
  · exact h1
  · have h2 := h.2.1
    rw [enc_hi h1] at h2
    have := enc_pos (m' / 128)
    rw [List.length_cons] at h2; omega
theorem UInv.last {base : Nat} {w wx : World} {m m' g : Nat} {q : List UInt8} (h : UInv base w wx m m' g q) (hl : m' < 128) : enc m = q ++ [UInt8.ofNat m'] := by
  rw [← h.1, enc_lo hl]
theorem UInv.ge {base : Nat} {w wx : World} {m m' g : Nat} {q : List UInt8} (h : UInv base w wx m m' (g + 1) q) : 128 ≤ m' := by
  rcases Nat.lt_or_ge m' 128 with h1 | h1
  · have h2 := h.2.1
    rw [enc_lo h1] at h2
    simp at h2
  · exact h1
theorem bytesV_snoc (l : List UInt8) {n : Nat} (h : n < 256) : bytesV l ++ [Value.int .u8 (n : Int)] = bytesV (l ++ [UInt8.ofNat n]) := by
  rw [bytesV_append]; simp [bytesV]; omega
theorem own_last {w1 : World} {base n : Nat} {v : Value} {p q : List UInt8} {m m' : Nat} {x : Int} (h : w1.ownsRow base 5 1 v n (bytesV (p ++ q) ++ [.int .u8 x])) (hx : x = (m' : Int)) (hm : m' < 256) (hn : n = p.length + q.length + 1)
    (he : enc m = q ++ [UInt8.ofNat m']) : w1.ownsRow base 5 1 v (p ++ enc m).length (bytesV (p ++ enc m)) := by
  subst hx hn
  rw [bytesV_snoc _ hm, List.append_assoc, ← he] at h
  rw [he] at h ⊢
  simpa [Nat.add_assoc] using h
theorem own_more {w1 : World} {base n : Nat} {v : Value} {p q : List UInt8} {m' : Nat} {x : Int} (h : w1.ownsRow base 5 1 v n (bytesV (p ++ q) ++ [.int .u8 x])) (hx : x = (m' : Int)) (hm : m' < 256) (hn : n = p.length + q.length + 1) :
    w1.ownsRow base 5 1 v (p.length + (q ++ [UInt8.ofNat m']).length) (bytesV (p ++ (q ++ [UInt8.ofNat m']))) := by
  subst hx hn
  rw [bytesV_snoc _ hm, List.append_assoc] at h
  simpa [Nat.add_assoc] using h
set_option maxHeartbeats 400000 in
theorem appendUint_any (v : Value) (p : List UInt8) (m : Nat) (w : World) (base : Nat) (hm : m < 18446744073709551616) (hp : p.length ≤ 1000000) (hb : base ≤ w.heap.size)
    (ho : w.ownsRow base 5 1 v p.length (bytesV p)) :
    Calls Try.prog 36 #[v, .int .u64 m] w fun e w' => ∃ v', e = .returned v' ∧ w'.ownsRow base 5 1 v' (p ++ enc m).length (bytesV (p ++ enc m)) ∧ Below base w w' := by
  go_enter Try.func36, Try.ntmps36
  go_wp2
  go_loopg [0, 1] ((enc m).length - 1) (fun g s0 s1 wx => ∃ (q : List UInt8) (m' : Nat), s1 = .int .u64 m' ∧ wx.ownsRow base 5 1 s0 (p.length + q.length) (bytesV (p ++ q)) ∧ base ≤ wx.heap.size ∧ Hid (UInv base w wx m m' g q))
  case atStart => exact ⟨[], m, rfl, by simpa using ho, hb, Lib.hid (UInv.start hm)⟩
  case round =>
    have hb0 := Lib.hid hb
    clear ho hb
    obtain ⟨q, m', rfl, ho, hb, HX⟩ := hrel
    have hq : q.length ≤ 10 := HX.out.2.2.2.2
    have HM := Lib.hid hm
    clear hm
    cases gk with
    | zero =>
      have h := HX.out.zero
      have h1 : decide ((128 : Int) ≤ (m' : Int)) = false := by simp; omega
      go_wp2_with (at_builtin
                   refine wpList_push _ rfl _ _ 52 rfl base 5 (.int .u8 0) 1 1 Try.underlying52 info_u8 rfl (by omega) u0 (p.length + q.length) _ rfl ho [_] rfl rfl (by simp [Value.oneCell']) (by omega) (by omega) hb ?_
                   intro v1 w1 p1 gr1 nb1
                   have bw1 := below_grown HX.out.2.2.2.1 gr1 ho (Nat.le_refl _) hb
                   replace p1 := Lib.hid p1
                   clear nb1 gr1 ho)
      go_ret
      exact ⟨_, rfl, own_last p1.out rfl (by omega) rfl (HX.out.last h), bw1⟩
    | succ g =>
      have h := HX.out.ge
      have h1 : decide ((128 : Int) ≤ (m' : Int)) = true := by simp; omega
      go_wp2_with (at_builtin
                   refine wpList_push _ rfl _ _ 52 rfl base 5 (.int .u8 0) 1 1 Try.underlying52 info_u8 rfl (by omega) u0 (p.length + q.length) _ rfl ho [_] rfl rfl (by simp [Value.oneCell']) (by omega) (by omega) hb ?_
                   intro v1 w1 p1 gr1 nb1
                   have bw1 := below_grown HX.out.2.2.2.1 gr1 ho (Nat.le_refl _) hb
                   replace p1 := Lib.hid p1
                   clear nb1 gr1 ho)
      go_roundg g
      case measure => omega
      case rel => exact ⟨q ++ [UInt8.ofNat (128 + m' % 128)], m' / 128, by rw [Int.natCast_ediv]; rfl, own_more p1.out (by omega) (by omega) rfl, Nat.le_trans hb0.out bw1.size, Lib.hid (HX.out.step h HM.out bw1)⟩
set_option maxHeartbeats 400000 in
theorem uint_any (m : Nat) (w : World) (hm : m < 18446744073709551616) :
    Calls Try.prog 12 #[.int .u64 m] w (RetV w (str (enc m))) := by
  have H := appendUint_any (.slice none 0 0) [] m w w.heap.size hm (by simp) (Nat.le_refl _) (World.ownsRow_nil _ _ _ _)
  have hl := Lib.hid (enc_pos m)
  clear hm
  go_enter Try.func12, Try.ntmps12
  go_wp2_with fail
  refine H.mono ?_
  rintro e w1 ⟨v1, rfl, ho, hb⟩
  clear H
  have K := run_string_own (P := Try.prog) 52 9 5 Try.underlying52 Try.underlying5 Try.underlying9 ho hl.out
  replace ho := Lib.hid ho
  go_wp2
  go_ret
  exact ⟨rfl, hb⟩
set_option maxHeartbeats 400000 in
theorem ruint_any (m : Nat) (w : World) (hm : m < 18446744073709551616) :
    Calls Try.prog 13 #[.int .u64 m] w (RetV w (str (enc m))) := by
  go_enter Try.func13, Try.ntmps13
  go_wp2
  go_loopg [0, 3] ((enc m).length - 1) (fun g s0 s3 wx => ∃ (q : List UInt8) (m' : Nat), s0 = .int .u64 m' ∧ wx.ownsRow w.heap.size 5 1 s3 q.length (bytesV ([] ++ q)) ∧ w.heap.size ≤ wx.heap.size ∧ Hid (UInv w.heap.size w wx m m' g q))
  case atStart => exact ⟨[], m, rfl, World.ownsRow_nil _ _ _ _, Nat.le_refl _, Lib.hid (UInv.start hm)⟩
  case round =>
    obtain ⟨q, m', rfl, ho, hb, HX⟩ := hrel
    have hq : q.length ≤ 10 := HX.out.2.2.2.2
    have HM := Lib.hid hm
    have hM : m' < 18446744073709551616 := HX.out.2.2.1
    clear hm
    cases gk with
    | zero =>
      have h := HX.out.zero
      have h1 : decide ((128 : Int) ≤ (m' : Int)) = false := by simp; omega
      go_wp2_with (at_builtin
                   refine wpList_push _ rfl _ _ 52 rfl w.heap.size 5 (.int .u8 0) 1 1 Try.underlying52 info_u8 rfl (by omega) u3 q.length _ rfl ho [_] rfl rfl (by simp [Value.oneCell']) (by omega) (by omega) hb ?_
                   intro v1 w1 p1 gr1 nb1
                   have bw1 := below_grown HX.out.2.2.2.1 gr1 ho (Nat.le_refl _) hb
                   have p2 := own_last (m := m) p1 rfl (by omega) (by simp) (HX.out.last h)
                   have K := run_string_own (P := Try.prog) 52 9 5 Try.underlying52 Try.underlying5 Try.underlying9 p2 (by have := enc_pos m; simp; omega)
                   clear nb1 gr1 ho p1 p2)
      go_ret
      exact ⟨rfl, bw1⟩
    | succ g =>
      have h := HX.out.ge
      have h1 : decide ((128 : Int) ≤ (m' : Int)) = true := by simp; omega
      go_wp2_with (at_builtin
                   refine wpList_push _ rfl _ _ 52 rfl w.heap.size 5 (.int .u8 0) 1 1 Try.underlying52 info_u8 rfl (by omega) u3 q.length _ rfl ho [_] rfl rfl (by simp [Value.oneCell']) (by omega) (by omega) hb ?_
                   intro v1 w1 p1 gr1 nb1
                   have bw1 := below_grown HX.out.2.2.2.1 gr1 ho (Nat.le_refl _) hb
                   replace p1 := Lib.hid p1
                   clear nb1 gr1 ho)
      go_roundg g
      case measure => omega
      case rel => exact ⟨q ++ [UInt8.ofNat (128 + m' % 128)], m' / 128, by rw [Int.natCast_ediv]; rfl, by have := own_more p1.out (m' := 128 + m' % 128) (by omega) (by omega) (by simp); simpa using this, bw1.size, Lib.hid (HX.out.step h HM.out bw1)⟩
theorem not_i64 (n : Int) (h1 : -9223372036854775808 ≤ n) (h2 : n ≤ 9223372036854775807) : bits .xor .i64 (-1) n = -n - 1 := by
  show IntKind.i64.wrap ((BitVec.ofInt 64 (-1) ^^^ BitVec.ofInt 64 n).toNat : Int) = _
  have e : BitVec.ofInt 64 (-1) ^^^ BitVec.ofInt 64 n = ~~~ BitVec.ofInt 64 n := by
    rw [show BitVec.ofInt 64 (-1) = BitVec.allOnes 64 by decide, BitVec.xor_comm, BitVec.xor_allOnes]
  rw [e, BitVec.toNat_not, BitVec.toNat_ofInt, IntKind.wrap_i64]
  omega
set_option maxHeartbeats 400000 in
theorem fold_any (n : Int) (w : World) (h1 : -9223372036854775808 ≤ n) (h2 : n ≤ 9223372036854775807) :
    Calls Try.prog 37 #[.int .i64 n] w fun e w' => e = .returned (.int .u64 (zig n : Nat)) ∧ w = w' := by
  by_cases h : n < 0
  · obtain ⟨m, hm⟩ : ∃ m : Int, -n - 1 = m := ⟨_, rfl⟩
    have hz := Lib.hid (show ((zig n : Nat) : Int) = m * 2 + 1 by unfold zig; rw [if_pos h]; omega)
    have hx := not_i64 n h1 h2
    rw [hm] at hx
    have m1 : 0 ≤ m := by omega
    have m2 : m ≤ 9223372036854775807 := by omega
    clear hm
    go_enter Try.func37, Try.ntmps37
    go_wp2
    go_ret
    exact ⟨ret1_int (by rw [hz.out, IntWalk.u64_in m (by omega), IntWalk.u64_in (m * 2) (by omega), IntWalk.u64_in _ (by omega)]), rfl⟩
  · have hz := Lib.hid (show ((zig n : Nat) : Int) = n * 2 by unfold zig; rw [if_neg h]; omega)
    go_enter Try.func37, Try.ntmps37
    go_wp2
    go_ret
    exact ⟨ret1_int hz.out.symm, rfl⟩
set_option maxHeartbeats 400000 in
theorem zigzag_any (n : Int) (w : World) (h1 : -9223372036854775808 ≤ n) (h2 : n ≤ 9223372036854775807) :
    Calls Try.prog 38 #[.int .i64 n] w fun e w' => e = .returned (.int .u64 (zig n : Nat)) ∧ w = w' := by
  by_cases h : n < 0
  · have hz := Lib.hid (show ((zig n : Nat) : Int) = (-n - 1) * 2 + 1 by unfold zig; rw [if_pos h]; omega)
    go_enter Try.func38, Try.ntmps38
    go_wp2
    go_ret
    exact ⟨ret1_int (by rw [hz.out]; omega), rfl⟩
  · have hz := Lib.hid (show ((zig n : Nat) : Int) = n * 2 by unfold zig; rw [if_neg h]; omega)
    go_enter Try.func38, Try.ntmps38
    go_wp2
    go_ret
    exact ⟨ret1_int (by rw [hz.out]; omega), rfl⟩
set_option maxHeartbeats 400000 in
theorem unfold_any (n : Nat) (w : World) (h1 : n < 18446744073709551616) :
    Calls Try.prog 40 #[.int .u64 n] w fun e w' => e = .returned (.int .i64 (zag n)) ∧ w = w' := by
  have h2 : ((n : Int) / 2) ≤ 9223372036854775807 := by omega
  have h4 : 0 ≤ ((n : Int) / 2) := by omega
  by_cases h : n % 2 = 1
  · have hz := Lib.hid (show zag n = -((n / 2 : Nat) : Int) - 1 by unfold zag; rw [if_pos h])
    have h3 : (((n : Int) % 2) == 1) = true := by simp; omega
    have hx := not_i64 ((n : Int) / 2) (by omega) h2
    clear h
    go_enter Try.func40, Try.ntmps40
    go_wp2
    go_ret
    exact ⟨ret1_int (by rw [hz.out]; omega), rfl⟩
  · have hz := Lib.hid (show zag n = ((n / 2 : Nat) : Int) by unfold zag; rw [if_neg h])
    have h3 : (((n : Int) % 2) == 1) = false := by simp; omega
    clear h
    go_enter Try.func40, Try.ntmps40
    go_wp2
    go_ret
    exact ⟨ret1_int (by rw [hz.out]; omega), rfl⟩
set_option maxHeartbeats 400000 in
theorem int_any (n : Int) (w : World) (h1 : -9223372036854775808 ≤ n) (h2 : n ≤ 9223372036854775807) :
    Calls Try.prog 14 #[.int .i64 n] w (RetV w (str (encI n))) := by
  have hz := zig_lt h1 h2
  have K := fold_any n w h1 h2
  go_enter Try.func14, Try.ntmps14
  go_wp2_with fail
  refine K.mono ?_
  rintro e w' ⟨rfl, rfl⟩
  go_wp2_with fail
  refine (uint_any _ _ hz).mono ?_
  rintro e w1 ⟨rfl, bb⟩
  go_wp2
  go_ret
  exact ⟨rfl, bb⟩
set_option maxHeartbeats 400000 in
theorem rint_any (n : Int) (w : World) (h1 : -9223372036854775808 ≤ n) (h2 : n ≤ 9223372036854775807) :
    Calls Try.prog 15 #[.int .i64 n] w (RetV w (str (encI n))) := by
  have hz := zig_lt h1 h2
  have K := zigzag_any n w h1 h2
  go_enter Try.func15, Try.ntmps15
  go_wp2_with fail
  refine K.mono ?_
  rintro e w' ⟨rfl, rfl⟩
  go_wp2_with fail
  refine (ruint_any _ _ hz).mono ?_
  rintro e w1 ⟨rfl, bb⟩
  go_wp2
  go_ret
  exact ⟨rfl, bb⟩
theorem bool_any (b : Bool) (w : World) : Calls Try.prog 16 #[.bool b] w fun e w' => e = .returned (str (encB b)) ∧ w = w' := by
  cases b
  all_goals
    go_enter Try.func16, Try.ntmps16
    go_wp2
    go_ret
    exact ⟨rfl, rfl⟩
theorem rbool_any (b : Bool) (w : World) : Calls Try.prog 17 #[.bool b] w fun e w' => e = .returned (str (encB b)) ∧ w = w' := by
  cases b
  all_goals
    go_enter Try.func17, Try.ntmps17
    go_wp2
    go_ret
    exact ⟨rfl, rfl⟩
set_option maxHeartbeats 400000 in
theorem text_any (l : List UInt8) (w : World) (h : l.length ≤ 100000) : Calls Try.prog 18 #[str l] w (RetV w (str (encT l))) := by
  have hz := enc_ten (n := l.length) (by omega)
  have K := uint_any l.length w (by omega)
  have hs := Lib.hid (sb_size l)
  go_enter Try.func18, Try.ntmps18
  go_wp2_with fail
  refine K.mono ?_
  rintro e w1 ⟨rfl, bb⟩
  have q := run_string_add_lists (P := Try.prog) w1 (enc l.length) l (by omega) (by omega)
  go_wp2
  go_ret
  exact ⟨rfl, bb⟩
set_option maxHeartbeats 400000 in
theorem rtext_any (l : List UInt8) (w : World) (h : l.length ≤ 100000) : Calls Try.prog 19 #[str l] w (RetV w (str (encT l))) := by
  have hz := enc_ten (n := l.length) (by omega)
  have K := ruint_any l.length w (by omega)
  have hs := Lib.hid (sb_size l)
  go_enter Try.func19, Try.ntmps19
  go_wp2_with fail
  refine K.mono ?_
  rintro e w1 ⟨rfl, bb⟩
  have q := run_string_add_lists (P := Try.prog) w1 (enc l.length) l (by omega) (by omega)
  go_wp2
  go_ret
  exact ⟨rfl, bb⟩
end Go.Proofs.Ytemhfhfbhdkedaa
