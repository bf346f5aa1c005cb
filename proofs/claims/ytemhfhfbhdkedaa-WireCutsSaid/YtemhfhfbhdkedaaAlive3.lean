/- Contracts of the helpers of the statements of layer 3, and: the examples of the chapter hold. Conditions: as stated. -/
import Derived.Test.YtemhfhfbhdkedaaList3
namespace Go.Proofs.Ytemhfhfbhdkedaa
open Go.ChangeShapes Go.WideShapes Go.ChangeAt Go.RowKit
set_option maxHeartbeats 400000 in
theorem same_any (v u : Value) (l : List Int) (w : World) (hv : RS w v (intsV l)) (hu : RS w u (intsV l)) :
    Calls Try.prog 34 #[v, u] w (RetB w true) := by
  obtain ⟨a, cap, rfl, hm, HC⟩ := hv.open
  obtain ⟨b, cap', rfl, _, HD⟩ := hu.open
  clear hv hu
  go_enter Try.func34, Try.ntmps34
  go_wp2
  go_loopg [13] l.length (fun g s13 wx => ∃ k : Nat, k + g = l.length ∧ s13 = .int .i64 k ∧ Below w.heap.size w wx)
  case atStart => exact ⟨0, by omega, rfl, Below.refl _ _⟩
  case round =>
    obtain ⟨k, hk, rfl, hbw⟩ := hrel
    cases gk with
    | zero =>
      have hz : ¬ ((k : Int) < (l.length : Int)) := by omega
      replace hk := Lib.hid hk
      go_wp2
      go_ret
      exact ⟨rfl, hbw⟩
    | succ g =>
      have hz : (k : Int) < (l.length : Int) := by omega
      obtain ⟨y, hy, _⟩ := at_take (l := l) (k := k) (by omega)
      obtain ⟨b1, o1, rfl, _, c1⟩ := HC.out.rd hbw hy
      obtain ⟨b2, o2, rfl, _, c2⟩ := HD.out.rd hbw hy
      replace hk := Lib.hid hk
      replace hy := Lib.hid hy
      go_wp2
      go_quiet (fail)
      go_wp2
      go_roundg g
      case measure => omega
      case rel => exact ⟨k+1, by have := hk.out; omega, by go_num, bdrew hbw _⟩
theorem beq_true {α : Type} [BEq α] [ReflBEq α] (x : α) : (x == x) = true := by simp
set_option maxHeartbeats 400000 in
theorem is_any (l c : List UInt8) (a t : Int) (w : World) (hl : l.length ≤ 100000) (h0 : 0 ≤ a) (h1 : a ≤ t) (h2 : t ≤ l.length) (hc : (l.drop a.toNat).take (t - a).toNat = c) :
    Calls Try.prog 35 #[str l, .int .i64 a, .int .i64 t, str c] w fun e w' => e = .returned (.bool true) ∧ w = w' := by
  have hs := Lib.hid (sb_size l)
  have X : ∀ ww : World, (Instr.slice 9 (.string ⟨l.toArray⟩) (some (.int .i64 a)) (some (.int .i64 t)) none).run Try.prog ww = .ok (str c) ww := by
    intro ww
    rw [run_slice_string ww 9 _ _ _ _ _ Try.underlying9 (by omega) (by omega) (by rw [sb_size]; omega), ByteArray.extract_mk, ← hc]
    congr 5
    omega
  replace hc := Lib.hid hc
  go_enter Try.func35, Try.ntmps35
  go_wp2
  go_ret
  exact ⟨rfl, rfl⟩
/-- The struct of values, as the statements take it. -/
abbrev val (u : Nat) (n : Int) (b : Bool) (s : List UInt8) (lv : Value) : Value := .agg #[.int .u64 u, .int .i64 n, .bool b, str s, lv]
set_option maxHeartbeats 400000 in
theorem short_yes (u : Nat) (n : Int) (b : Bool) (s : List UInt8) (lv : Value) (l : List Int) (w : World) (hv : RS w lv (intsV l)) (h1 : s.length ≤ 400) (h2 : l.length ≤ 400) :
    Calls Try.prog 10 #[val u n b s lv] w (RetB w true) := by
  obtain ⟨a, cap, rfl, hm, HC⟩ := hv.open
  clear hv HC
  have hs := Lib.hid (sb_size s)
  have h2' : decide ((l.length : Int) ≤ 400) = true := by simp; omega
  go_enter Try.func10, Try.ntmps10
  go_wp2
  go_ret
  exact ⟨rfl, (Below.refl _ _).alloc (Nat.le_refl _) _⟩
set_option maxHeartbeats 400000 in
theorem short_no (u : Nat) (n : Int) (b : Bool) (s : List UInt8) (lv : Value) (l : List Int) (w : World) (hv : RS w lv (intsV l)) (hs0 : s.length ≤ 9223372036854775807) (h : ¬ (s.length ≤ 400 ∧ l.length ≤ 400)) :
    Calls Try.prog 10 #[val u n b s lv] w (RetB w false) := by
  obtain ⟨a, cap, rfl, hm, HC⟩ := hv.open
  clear hv HC
  have hs := Lib.hid (sb_size s)
  by_cases h1 : s.length ≤ 400
  · have h2 : decide ((l.length : Int) ≤ 400) = false := by simp; omega
    clear h
    go_enter Try.func10, Try.ntmps10
    go_wp2
    go_ret
    exact ⟨rfl, (Below.refl _ _).alloc (Nat.le_refl _) _⟩
  · clear h
    go_enter Try.func10, Try.ntmps10
    go_wp2
    go_ret
    exact ⟨rfl, (Below.refl _ _).alloc (Nat.le_refl _) _⟩
theorem e300 : enc 300 = [172, 2] := by rw [enc_hi (by decide), enc_lo (by decide)]; rfl
theorem eM1 : encI (-1) = [1] := by
  show enc 1 = [1]
  rw [enc_lo (by decide)]; rfl
theorem eAb : encT [97, 98] = [2, 97, 98] := by
  show enc 2 ++ [97, 98] = [2, 97, 98]
  rw [enc_lo (by decide)]; rfl
theorem i0 : In64 0 := ⟨by decide, by decide⟩
theorem i2 : In64 2 := ⟨by decide, by decide⟩
theorem i9 : In64 9 := ⟨by decide, by decide⟩
set_option maxHeartbeats 4000000 in
theorem alive_any (w : World) : Calls Try.prog 11 #[] w (RetB w true) := by
  have K1 : ∀ w, Calls Try.prog 24 #[.string { data := #[128, 1] }, .int .i64 0] w fun e w' => e = .returned (.tuple #[.int .i64 64, .int .i64 2, .int .i64 0]) ∧ w = w' := fun w => takeInt_any [128, 1] 0 w (by decide) i0
  have K2 : ∀ w, Calls Try.prog 32 #[.string { data := #[2, 2, 3, 33] }, .int .i64 0, .int .i64 2] w (RetX w (.ok ([1, -2], 3))) := fun w => takeInts_any [2, 2, 3, 33] 0 2 w (by decide) i0 i2
  have K3 : ∀ w, Calls Try.prog 28 #[.string { data := #[3, 97, 98] }, .int .i64 0, .int .i64 9] w (RetV w (.tuple #[str [], .int .i64 0, .int .i64 5])) := fun w => takeText_any [3, 97, 98] 0 9 w (by decide) i0 i9
  have K4 : ∀ w, Calls Try.prog 28 #[.string { data := #[3, 97, 98] }, .int .i64 0, .int .i64 2] w (RetV w (.tuple #[str [], .int .i64 0, .int .i64 2])) := fun w => takeText_any [3, 97, 98] 0 2 w (by decide) i0 i2
  have K5 : ∀ w, Calls Try.prog 12 #[.int .u64 300] w (RetV w (.string { data := #[172, 2] })) := fun w => by have := uint_any 300 w (by decide); rw [e300] at this; exact this
  have K6 : ∀ w, Calls Try.prog 14 #[.int .i64 (-1)] w (RetV w (.string { data := #[1] })) := fun w => by have := int_any (-1) w (by decide) (by decide); rw [eM1] at this; exact this
  have K7 : ∀ w, Calls Try.prog 18 #[.string { data := #[97, 98] }] w (RetV w (.string { data := #[2, 97, 98] })) := fun w => by have := text_any [97, 98] w (by decide); rw [eAb] at this; exact this
  replace K1 := Lib.hid K1
  replace K2 := Lib.hid K2
  replace K3 := Lib.hid K3
  replace K4 := Lib.hid K4
  replace K5 := Lib.hid K5
  replace K6 := Lib.hid K6
  replace K7 := Lib.hid K7
  go_enter Try.func11, Try.ntmps11
  go_wp2_with fail
  refine (K1.out _).mono ?_
  rintro e w' ⟨rfl, rfl⟩
  go_wp2_with fail
  refine (K2.out _).mono ?_
  rintro e W1 ⟨v1, rfl, R1, HB⟩
  simp only [toOf, errOf, listOf] at R1 ⊢
  replace R1 := Lib.hid R1
  go_wp2_with fail
  refine (K3.out _).mono ?_
  rintro e W2 ⟨rfl, bb⟩
  replace R1 := Lib.hid (R1.out.below bb)
  replace HB := HB.trans (bb.mono HB.size)
  clear bb
  go_wp2_with fail
  refine (K4.out _).mono ?_
  rintro e W3 ⟨rfl, bb⟩
  replace R1 := Lib.hid (R1.out.below bb)
  replace HB := HB.trans (bb.mono HB.size)
  clear bb
  go_wp2_with fail
  refine (K5.out _).mono ?_
  rintro e W4 ⟨rfl, bb⟩
  replace R1 := Lib.hid (R1.out.below bb)
  replace HB := HB.trans (bb.mono HB.size)
  clear bb
  go_wp2_with fail
  refine (K6.out _).mono ?_
  rintro e W5 ⟨rfl, bb⟩
  replace R1 := Lib.hid (R1.out.below bb)
  replace HB := HB.trans (bb.mono HB.size)
  clear bb
  go_wp2_with fail
  refine (K7.out _).mono ?_
  rintro e W6 ⟨rfl, bb⟩
  replace R1 := Lib.hid (R1.out.below bb)
  replace HB := HB.trans (bb.mono HB.size)
  clear bb
  go_wp2_with fail
  refine (same_any _ _ [1, -2] _ (RS.alloc R1.out _) (RS.newAt _ _ _ _ [1, -2] _ _ (by simp) rfl rfl (by decide))).mono ?_
  rintro e W7 ⟨rfl, bb⟩
  clear R1
  replace HB := (HB.alloc HB.size _).trans (bb.mono (by have := HB.size; simp; omega))
  clear bb
  go_wp2
  go_ret
  exact ⟨rfl, HB⟩
end Go.Proofs.Ytemhfhfbhdkedaa
