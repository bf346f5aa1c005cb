/- Texts of the layers 5 to 7, merged. -/
import Derived.Test.YteafkginhejllaaGreatDoorB8
namespace Go.Proofs.YteafkginhejllaaGreatDoor
section
open Go.ChangeShapes Go.WideShapes Go.ChangeAt Go.RowKit
theorem trim_any (l : L8) (w : World) : Calls Tryz.prog 158 #[str l, .string ⟨#[45]⟩] w fun e w' => e = .returned (str (mag l)) ∧ w = w' := by
  have h := Tryz.strings_TrimPrefix (sb l) ⟨#[45]⟩ w
  refine h.mono ?_
  rintro e w' ⟨rfl, rfl⟩
  refine ⟨?_, rfl⟩
  rw [show (sb l).data.toList = l from rfl, show (⟨#[45]⟩ : ByteArray).data.toList = [45] from rfl, trim_mag]
theorem at_zero {b : UInt8} {r : L8} : ∀ ww : World, (Instr.index 9 (.string ⟨(b :: r).toArray⟩) (.int .i64 0)).run Tryz.prog ww = .ok (.int .u8 (b.toNat : Int)) ww := by
  intro ww
  have := at_idx (l := b :: r) (k := 0) (b := b) rfl (Lib.hid (sb_size _)) ww
  simpa using this
set_option maxRecDepth 100000 in
set_option maxHeartbeats 1000000 in
theorem isDecimal_any (l : L8) (w : World) (hl : l.length ≤ 9223372036854775807) :
    Calls Tryz.prog 150 #[str l] w (RetB w (isDec l)) := by
  have T := fun ww => trim_any l ww
  obtain ⟨q, hq⟩ : ∃ q, isDec l = q := ⟨_, rfl⟩
  rw [hq]
  have Q0 := @isDec_none l
  have Q1 := @isDec_bad l
  have Q2 := @isDec_prog l
  obtain ⟨d, hd⟩ : ∃ d, mag l = d := ⟨_, rfl⟩
  rw [hd] at T Q0 Q1 Q2
  rw [hq] at Q0 Q1 Q2
  cases d with
  | nil =>
    obtain rfl : q = false := Q0 rfl
    clear Q0 Q1 Q2
    replace hd := Lib.hid hd
    replace hq := Lib.hid hq
    go_enter Tryz.func150, Tryz.ntmps150
    go_wp2_with (go_at_call 158; refine (T _).mono ?_; rintro e w' ⟨rfl, rfl⟩)
    go_ret
    exact ⟨rfl, Below.refl _ _⟩
  | cons x xs =>
    clear Q0
    replace Q1 := Lib.hid Q1
    replace Q2 := Lib.hid (Q2 (by simp))
    replace hd := Lib.hid hd
    replace hq := Lib.hid hq
    have hx := at_zero (b := x) (r := xs)
    go_enter Tryz.func150, Tryz.ntmps150
    go_wp2_with (go_at_call 158; refine (T _).mono ?_; rintro e w' ⟨rfl, rfl⟩)
    clear T
    go_loopg [] (x :: xs).length (fun g wx => ∃ (k : Nat), k + g = (x :: xs).length ∧ Hid (((x :: xs).take k).all isDg = true) ∧ wx = w.iter (sb (x :: xs)) k)
    case atStart => exact ⟨0, by omega, Lib.hid rfl, rfl⟩
    case round =>
      obtain ⟨k, hg, HN, rfl⟩ := hrel
      cases gk with
      | zero =>
        have hnx := end_iter (l := x :: xs) (k := k) (by omega) w
        have HA : (x :: xs).all isDg = true := by have := HN.out; rwa [List.take_of_length_le (by omega)] at this
        have E := Q2.out HA
        replace HA := Lib.hid HA
        clear HN
        by_cases c : x = 48
        · have e48 : (x.toNat : Int) = 48 := by subst c; rfl
          have E2 := Lib.hid (show (l == [48]) = q by rw [E, c]; simp; apply Bool.eq_iff_iff.2; simp)
          clear E c
          go_wp2
          all_goals go_ret
          all_goals exact ⟨ret1_bool E2.out, below_iter _ _ _⟩
        · have e48 : ¬ (x.toNat : Int) = 48 := by
            intro e
            exact c (UInt8.toNat_inj.1 (by show x.toNat = 48; omega))
          have e49 : ¬ x.toNat = 48 := by omega
          obtain rfl : q = true := by rw [E]; simp [c]
          clear E
          go_wp2
          all_goals go_ret
          all_goals exact ⟨rfl, below_iter _ _ _⟩
      | succ g =>
        obtain ⟨b, hb⟩ := at_get (l := x :: xs) (k := k) (by omega)
        obtain ⟨r, n, hr, hnx⟩ := next_iter hb w
        have KD := fun ww => digit_any r (isDg b) ww (rune_dg hr)
        by_cases hok : isDg b = true
        · have N := Lib.hid (all_take hb HN.out hok)
          rw [hok] at KD
          obtain rfl : n = 1 := by
            rcases hr with h | h
            · exact h.2.2
            · have := isDg_iff.1 hok; omega
          replace hb := Lib.hid hb
          clear hr hok HN
          go_wp2_with (go_at_call 105; refine (KD _).mono ?_; rintro e w' ⟨rfl, rfl⟩)
          go_roundg g
          case measure => omega
          case rel => exact ⟨k + 1, by omega, N, rfl⟩
        · simp only [Bool.not_eq_true] at hok
          rw [hok] at KD
          obtain rfl : q = false := Q1.out (all_bad hb hok)
          replace hb := Lib.hid hb
          clear hr hok HN
          go_wp2_with (go_at_call 105; refine (KD _).mono ?_; rintro e w' ⟨rfl, rfl⟩)
          go_ret
          exact ⟨rfl, below_iter _ _ _⟩
/-- What Int hands back. -/
def outI (x : Int × Int) : Value := .tuple #[.int .i64 x.1, .int .i64 x.2]
theorem atoi_ok {l : L8} {v : Int} (h : Lib.atoiAll l = .ok v) (w : World) (hl : l.length ≤ 100000) : Calls Tryz.prog 151 #[str l] w fun e w' => e = .returned (.tuple #[.int .i64 v, .nilIface]) ∧ Below w.heap.size w w' := by
  refine (Tryz.strconv_Atoi_ok (sb l) (by rw [sb_size]; omega) v h w).mono ?_
  rintro e w' ⟨rfl, hw⟩
  refine ⟨rfl, ?_⟩
  rcases hw with rfl | ⟨t, rfl⟩
  · exact Below.refl _ _
  · exact Joins.below_bytesWorld _ w _ t (Nat.le_refl _)
theorem atoi_range {l : L8} (h : Lib.atoiAll l = .range) (w : World) (hg : GT w) (hl : l.length ≤ 100000) : Calls Tryz.prog 151 #[str l] w fun e w' => ∃ N, e = .returned (.tuple #[.int .i64 (Lib.atoiSat l), .iface 181 (.pointer (some ⟨N, 0, none⟩))]) ∧ Below w.heap.size w w' := by
  obtain ⟨_, ⟨ev, he, hv⟩, _⟩ := hg
  refine (Tryz.strconv_Atoi_range (sb l) (by rw [sb_size]; omega) h ev w he hv).mono ?_
  rintro e w' ⟨N, rfl, _, _, hb⟩
  exact ⟨N, rfl, hb⟩
set_option maxRecDepth 100000 in
set_option maxHeartbeats 1000000 in
theorem int_any (l : L8) (w : World) (hg : GT w) (hl : l.length ≤ 100000) :
    Calls Tryz.prog 142 #[str l] w (RetV w (outI (intL l))) := by
  have K := isDecimal_any l w (by omega)
  by_cases hd : isDec l = true
  · rw [hd] at K
    have A := atoi_dec hd
    have R : intL l = if neg l then (if valF 0 (mag l) ≤ 9223372036854775808 then (-(valF 0 (mag l) : Int), 0) else (0, 17)) else (if valF 0 (mag l) < 9223372036854775808 then ((valF 0 (mag l) : Int), 0) else (0, 17)) := by
      rw [intL, if_pos hd]
    have C : (∃ v, Lib.atoiAll l = .ok v ∧ intL l = (v, 0)) ∨ (Lib.atoiAll l = .range ∧ intL l = (0, 17)) := by
      rw [A, R]
      repeat' split
      all_goals simp
    replace hd := Lib.hid hd
    clear A R
    rcases C with ⟨v, h1, h2⟩ | ⟨h1, h2⟩
    · rw [h2]
      have J := fun ww => atoi_ok h1 ww hl
      replace h1 := Lib.hid h1
      replace h2 := Lib.hid h2
      unfold outI
      go_enter Tryz.func142, Tryz.ntmps142
      go_wp2_with (first
        | (go_at_call 150; refine K.mono ?_; rintro e w1 ⟨rfl, b1⟩)
        | (go_at_call 151; refine (J _).mono ?_; rintro e w2 ⟨rfl, b2⟩))
      go_ret2
      exact ⟨rfl, b1.trans (b2.mono b1.size)⟩
    · rw [h2]
      replace h2 := Lib.hid h2
      have J := fun ww hh => atoi_range h1 ww hh hl
      unfold outI
      go_enter Tryz.func142, Tryz.ntmps142
      go_wp2_with (first
        | (go_at_call 150; refine K.mono ?_; rintro e w1 ⟨rfl, b1⟩)
        | (go_at_call 151; refine (J _ (hg.below b1)).mono ?_; rintro e w2 ⟨N, rfl, b2⟩))
      go_ret2
      exact ⟨rfl, b1.trans (b2.mono b1.size)⟩
  · simp only [Bool.not_eq_true] at hd
    rw [hd] at K
    rw [intL_bad hd]
    replace hd := Lib.hid hd
    unfold outI
    go_enter Tryz.func142, Tryz.ntmps142
    go_wp2_with (go_at_call 150; refine K.mono ?_; rintro e w1 ⟨rfl, b1⟩)
    go_ret2
    exact ⟨rfl, b1⟩
end
section
open Go.ChangeShapes Go.WideShapes Go.ChangeAt Go.RowKit
theorem digs_bad {l : L8} (h : l.all isDg = false) : digs l = false := by simp [digs, h]
theorem wrap_id {n : Int} (h1 : -9223372036854775808 ≤ n) (h2 : n ≤ 9223372036854775807) : wrap64 n = n := by unfold wrap64; omega
theorem quo_ten {d : Nat} (h : d ≤ 9) : (-9223372036854775808 + (d : Int)).tdiv 10 = -((9223372036854775808 - (d : Int)) / 10) := by
  rw [show (-9223372036854775808 + (d : Int)) = -(9223372036854775808 - (d : Int)) by omega, Int.neg_tdiv, Int.tdiv_eq_ediv_of_nonneg (by omega)]
def belowL (l : L8) : Int × Bool := if valF 0 l ≤ 9223372036854775808 then (-(valF 0 l : Int), true) else (0, false)
theorem tail_any (b : UInt8) (r : L8) : ∀ ww : World, (Instr.slice 9 (.string ⟨(b :: r).toArray⟩) (some (.int .i64 1)) none none).run Tryz.prog ww = .ok (str r) ww := by
  intro ww
  rw [run_slice_string_from_if ww 9 _ _ _ Tryz.underlying9, if_pos ⟨by omega, by rw [sb_size]; simp only [List.length_cons]; omega⟩, ByteArray.extract_mk]
  congr 3
  simp
  rw [show (ByteArray.mk (b :: r).toArray).size = (b :: r).length from sb_size _]
  apply List.take_of_length_le
  simp
/-- What the reference does. -/
theorem intL_ref {s : L8} (hd : digs (mag s) = true) (h : ¬ (neg s = true ∧ mag s = [48])) : intL s = if (belowL (mag s)).2 = false then (0, 17) else if neg s = true then ((belowL (mag s)).1, 0) else if (belowL (mag s)).1 = -9223372036854775808 then (0, 17) else (-(belowL (mag s)).1, 0) := by
  have e : isDec s = true := by
    simp only [isDec, hd, Bool.true_and]
    by_cases hn : neg s = true
    · simp [hn] at h ⊢; exact h
    · simp [hn]
  rw [intL, if_pos e]
  unfold belowL
  by_cases hn : neg s = true
  · rw [if_pos hn]
    by_cases hv : valF 0 (mag s) ≤ 9223372036854775808
    · simp [hv, hn]
    · simp [hv]
  · rw [if_neg hn]
    by_cases hv : valF 0 (mag s) ≤ 9223372036854775808
    · by_cases hw : valF 0 (mag s) < 9223372036854775808
      · have : ¬ (-(valF 0 (mag s) : Int)) = -9223372036854775808 := by omega
        simp [hv, hn, hw]
        omega
      · have e2 : valF 0 (mag s) = 9223372036854775808 := by omega
        simp [hn, e2]
    · have : ¬ valF 0 (mag s) < 9223372036854775808 := by omega
      simp [hv, this]
theorem intL_ref_bad {s : L8} (h : digs (mag s) = false ∨ (neg s = true ∧ mag s = [48])) : intL s = (0, 4) := by
  apply intL_bad
  rcases h with h | ⟨h1, h2⟩
  · simp [isDec, h]
  · simp [isDec, h1, h2]
end
section
open Go.ChangeShapes Go.WideShapes Go.ChangeAt Go.RowKit
theorem below_grow (w : World) (os : Array Obj) : Below w.heap.size w (Go.Sort.grow w os) :=
  ⟨rfl, rfl, rfl, by simp [Go.Sort.grow], fun k hk => by simp only [Go.Sort.grow]; exact Array.getElem?_append_left hk⟩
theorem format_any (n : Int) (w : World) (hn : -9223372036854775808 ≤ n ∧ n ≤ 9223372036854775807) (hg : GT w) :
    Calls Tryz.prog 49 #[.int .i64 n] w (RetV w (str (Lib.itoa n))) := by
  have K := (Tryz.strconv_Itoa n hn.1 hn.2 w hg.2.2)
  go_enter Tryz.func49, Tryz.ntmps49
  go_wp2_with (go_at_call 94; refine K.mono ?_; rintro e w1 ⟨rfl, k, os, rfl⟩)
  go_ret
  exact ⟨rfl, (bdrew (Below.refl _ _) k).trans (show Below w.heap.size (w.drewN k) _ from below_grow (w.drewN k) os)⟩
/-- The reference's loop. -/
def FInv (n m : Int) (s : L8) : Prop := (s = [] ∧ m = n) ∨ (s ≠ [] ∧ ((m = 0 ∧ s = Lib.decDigits n.natAbs) ∨ (m ≠ 0 ∧ Lib.decDigits m.natAbs ++ s = Lib.decDigits n.natAbs)))
theorem FInv.next {n m : Int} {s : L8} {d : Nat} (h : FInv n m s) (hc : m ≠ 0 ∨ s = []) (hd : d = m.natAbs % 10) : FInv n (m.tdiv 10) (UInt8.ofNat (48 + d) :: s) := by
  have e : Lib.decDigits m.natAbs ++ s = Lib.decDigits n.natAbs := by
    rcases h with ⟨h1, h2⟩ | ⟨h1, h2 | h2⟩
    · rw [h1, h2]; simp
    · rcases hc with hc | hc
      · exact absurd h2.1 hc
      · exact absurd hc h1
    · exact h2.2
  right
  refine ⟨by simp, ?_⟩
  have ha : (m.tdiv 10).natAbs = m.natAbs / 10 := by rw [Int.natAbs_tdiv]; rfl
  by_cases hs : m.natAbs < 10
  · left
    refine ⟨Int.natAbs_eq_zero.1 (by rw [ha]; omega), ?_⟩
    rw [← e, Lib.decDigits_one hs, hd, Nat.mod_eq_of_lt hs]; rfl
  · right
    refine ⟨fun h0 => ?_, ?_⟩
    · have := Int.natAbs_eq_zero.2 h0
      rw [ha] at this; omega
    · rw [ha, ← e, decDigits_step _ hs, hd]; simp
theorem FInv.last {n : Int} {s : L8} (h : FInv n 0 s) (hs : s ≠ []) : s = Lib.decDigits n.natAbs := by
  rcases h with ⟨h1, _⟩ | ⟨_, h2 | h2⟩
  · exact absurd h1 hs
  · exact h2.2
  · exact absurd rfl h2.1
theorem FInv.len {n m : Int} {s : L8} (h : FInv n m s) (hn : -9223372036854775808 ≤ n ∧ n ≤ 9223372036854775807) : s.length ≤ 1000 := by
  have hl := (itoa_len n hn).1
  have e : (Lib.decDigits n.natAbs).length ≤ 20 := by
    unfold Lib.itoa at hl
    split at hl
    · simp at hl; omega
    · rw [show n.natAbs = n.toNat by omega]; exact hl
  rcases h with ⟨h1, _⟩ | ⟨_, h2 | h2⟩
  · simp [h1]
  · rw [h2.2]; omega
  · have := congrArg List.length h2.2
    rw [List.length_append] at this; omega
theorem digit_cut {d : Nat} (h : d < 10) : ∀ ww : World, (Instr.slice 9 (.string ⟨#[48, 49, 50, 51, 52, 53, 54, 55, 56, 57]⟩) (some (.int .i64 (d : Int))) (some (.int .i64 ((d : Int) + 1))) none).run Tryz.prog ww = .ok (str [UInt8.ofNat (48 + d)]) ww := by
  intro ww
  rw [run_slice_string ww 9 _ _ _ _ _ Tryz.underlying9 (by omega) (by omega) (by show ((d : Int) + 1) ≤ 10; omega)]
  have : ∀ i : Fin 10, (([48, 49, 50, 51, 52, 53, 54, 55, 56, 57] : L8).drop ((i.val : Int)).toNat).take (((i.val : Int) + 1).toNat - ((i.val : Int)).toNat) = [UInt8.ofNat (48 + i.val)] := by decide +kernel
  rw [show (⟨#[48, 49, 50, 51, 52, 53, 54, 55, 56, 57]⟩ : ByteArray) = ByteArray.mk ([48, 49, 50, 51, 52, 53, 54, 55, 56, 57] : L8).toArray from rfl, ByteArray.extract_mk, this ⟨d, h⟩]
theorem tmod_ten (m : Int) : (0 ≤ m.tmod 10 ∧ m.tmod 10 = (m.natAbs % 10 : Nat)) ∨ (m.tmod 10 < 0 ∧ -(m.tmod 10) = (m.natAbs % 10 : Nat)) := by
  by_cases h : 0 ≤ m
  · left
    have : m.tmod 10 = m % 10 := Int.tmod_eq_emod_of_nonneg h
    omega
  · have e : m.tmod 10 = -((-m) % 10) := by
      rw [show m = -(-m) by omega, Int.neg_tmod, Int.tmod_eq_emod_of_nonneg (by omega)]; simp
    by_cases h0 : (-m) % 10 = 0
    · left; omega
    · right; omega
set_option maxRecDepth 100000 in
set_option maxHeartbeats 1000000 in
theorem rformat_any (n : Int) (w : World) (hn : -9223372036854775808 ≤ n ∧ n ≤ 9223372036854775807) :
    Calls Tryz.prog 22 #[.int .i64 n] w fun e w' => e = .returned (str (Lib.itoa n)) ∧ w = w' := by
  go_enter Tryz.func22, Tryz.ntmps22
  go_wp2
  go_loopg [3, 4] (n.natAbs + 1) (fun g s3 s4 wx => ∃ (m : Int) (s : L8), s3 = str s ∧ s4 = .int .i64 m ∧ Hid (FInv n m s) ∧ Hid (m.natAbs + (if s = [] then 1 else 0) ≤ g) ∧ (-9223372036854775808 ≤ m ∧ m ≤ 9223372036854775807) ∧ w = wx)
  case atStart => exact ⟨n, [], rfl, rfl, Lib.hid (Or.inl ⟨rfl, rfl⟩), Lib.hid (Nat.le_refl _), hn, rfl⟩
  case round =>
    obtain ⟨m, s, rfl, rfl, HN, HG, hm, rfl⟩ := hrel
    by_cases hc : m ≠ 0 ∨ s = []
    · have hsl := HN.out.len hn
      have X := digit_cut (d := m.natAbs % 10) (Nat.mod_lt _ (by omega))
      have N := Lib.hid (HN.out.next hc rfl)
      have hb : UInt8.ofNat (48 + m.natAbs % 10) :: s ≠ [] := by simp
      have ha : (m.tdiv 10).natAbs = m.natAbs / 10 := by rw [Int.natAbs_tdiv]; rfl
      have G := Lib.hid (show (m.tdiv 10).natAbs + (if UInt8.ofNat (48 + m.natAbs % 10) :: s = [] then 1 else 0) < gk by
        have := HG.out
        rw [if_neg hb, ha]
        rcases hc with hc | hc
        · split at this <;> omega
        · rw [if_pos hc] at this; omega)
      have R : -9223372036854775808 ≤ m.tdiv 10 ∧ m.tdiv 10 ≤ 9223372036854775807 := by omega
      have T := tmod_ten m
      obtain ⟨c, hcc⟩ : ∃ c, UInt8.ofNat (48 + m.natAbs % 10) = c := ⟨_, rfl⟩
      rw [hcc] at X N G
      have A : ∀ ww : World, (Op.stringOp .add ⟨[c].toArray⟩ ⟨s.toArray⟩).run Tryz.prog ww = .ok (.string ⟨(c :: s).toArray⟩) ww := fun ww => run_string_add_lists (P := Tryz.prog) ww [c] s (by simp) (by omega)
      replace hcc := Lib.hid hcc
      clear HN HG hb ha hsl
      obtain ⟨d, hd⟩ : ∃ d : Nat, m.natAbs % 10 = d := ⟨_, rfl⟩
      rw [hd] at X T
      have hd9 : d < 10 := by omega
      replace hd := Lib.hid hd
      by_cases h0 : m = 0
      · obtain rfl : s = [] := by rcases hc with h | h; exact absurd h0 h; exact h
        subst h0
        obtain rfl : d = 0 := by have := hd.out; simp at this; exact this.symm
        clear T hc
        obtain rfl : 48 = c := by have := hcc.out; simpa using this
        go_wp2
        go_roundg (((0 : Int).tdiv 10).natAbs + (if (48 : UInt8) :: [] = [] then 1 else 0))
        case measure => exact G.out
        case rel => exact ⟨(0 : Int).tdiv 10, [48], by kernel_rfl, rfl, N, Lib.hid (Nat.le_refl _), R, rfl⟩
      · clear hc
        rcases T with ⟨T1, T2⟩ | ⟨T1, T2⟩
        · go_wp2
          go_roundg ((m.tdiv 10).natAbs + (if c :: s = [] then 1 else 0))
          case measure => exact G.out
          case rel => exact ⟨m.tdiv 10, c :: s, rfl, rfl, N, Lib.hid (Nat.le_refl _), R, rfl⟩
        · go_wp2
          go_roundg ((m.tdiv 10).natAbs + (if c :: s = [] then 1 else 0))
          case measure => exact G.out
          case rel => exact ⟨m.tdiv 10, c :: s, rfl, rfl, N, Lib.hid (Nat.le_refl _), R, rfl⟩
    · have h1 : m = 0 := Decidable.byContradiction fun e => hc (Or.inl e)
      have h2 : s ≠ [] := fun e => hc (Or.inr e)
      subst h1
      have L := Lib.hid (HN.out.last h2)
      obtain ⟨z1, z2, z3⟩ := not_nil (List.length_pos_iff.2 h2)
      have hsl := HN.out.len hn
      clear hc h2 HN HG
      by_cases h0 : n < 0
      · have E := Lib.hid (show 45 :: s = Lib.itoa n by rw [Lib.itoa, if_pos h0, L.out])
        have A : ∀ ww : World, (Op.stringOp .add ⟨#[45]⟩ ⟨s.toArray⟩).run Tryz.prog ww = .ok (.string ⟨(45 :: s).toArray⟩) ww := fun ww => run_string_add_lists (P := Tryz.prog) ww [45] s (by simp) (by omega)
        go_wp2
        go_ret
        exact ⟨by rw [← E.out]; rfl, rfl⟩
      · have E := Lib.hid (show s = Lib.itoa n by rw [Lib.itoa, if_neg h0, L.out, show n.natAbs = n.toNat by omega])
        go_wp2
        go_ret
        exact ⟨by rw [← E.out]; rfl, rfl⟩
end
end Go.Proofs.YteafkginhejllaaGreatDoor
