/- Contracts of the reference's digits, below and Int. Conditions: the text's length. -/
import Derived.Test.YtblcigddinmiaaaDoorInt5
namespace Go.Proofs.YtblcigddinmiaaaDoor
open Go.ChangeShapes Go.WideShapes Go.ChangeAt Go.RowKit
theorem digs_bad {l : L8} (h : l.all isDg = false) : digs l = false := by simp [digs, h]
set_option maxRecDepth 100000 in
set_option maxHeartbeats 1000000 in
theorem rdigits_any (l : L8) (w : World) (hl : l.length ≤ 9223372036854775807) :
    Calls Tryd.prog 39 #[str l] w fun e w' => e = .returned (.bool (digs l)) ∧ w = w' := by
  obtain ⟨q, hq⟩ : ∃ q, digs l = q := ⟨_, rfl⟩
  rw [hq]
  have hs := Lib.hid (sb_size l)
  replace hq := Lib.hid hq
  go_enter Tryd.func39, Tryd.ntmps39
  go_wp2
  go_loopg [3] l.length (fun g s3 wx => ∃ (k : Nat), s3 = .int .i64 k ∧ k + g = l.length ∧ Hid ((l.take k).all isDg = true) ∧ w = wx)
  case atStart => exact ⟨0, rfl, by omega, Lib.hid rfl, rfl⟩
  case round =>
    obtain ⟨k, rfl, hg, HN, rfl⟩ := hrel
    cases gk with
    | zero =>
      have h : ¬ ((k : Int) < (l.length : Int)) := by omega
      have HA : l.all isDg = true := by have := HN.out; rwa [List.take_of_length_le (by omega)] at this
      clear HN
      cases l with
      | nil =>
        obtain rfl : false = q := by rw [← hq.out]; rfl
        clear HA
        go_wp2
        all_goals go_ret
        all_goals exact ⟨rfl, rfl⟩
      | cons x xs =>
        have hx := at_zero (b := x) (r := xs)
        have E : (decide (¬ x = 48) || decide (xs.length = 0)) = q := by rw [← hq.out]; simp only [digs, HA, Bool.true_and]; simp
        replace HA := Lib.hid HA
        replace hq := Lib.hid hq
        by_cases c : x = 48
        · have e48 : (x.toNat : Int) = 48 := by subst c; rfl
          have E2 := Lib.hid (show ((xs.length : Int) + 1 == 1) = q by
            rw [← E]
            obtain ⟨n, hn⟩ : ∃ n, xs.length = n := ⟨_, rfl⟩
            rw [hn]
            apply Bool.eq_iff_iff.2
            simp [c]
            omega)
          clear E c
          go_wp2
          all_goals go_ret
          all_goals exact ⟨ret1_bool E2.out, rfl⟩
        · have e48 : ¬ (x.toNat : Int) = 48 := by
            intro e
            exact c (UInt8.toNat_inj.1 (by show x.toNat = 48; omega))
          have e49 : ¬ x.toNat = 48 := by omega
          obtain rfl : true = q := by rw [← E]; simp [c]
          clear E
          go_wp2
          all_goals go_ret
          all_goals exact ⟨rfl, rfl⟩
    | succ g =>
      have h : ((k : Int) < (l.length : Int)) := by omega
      obtain ⟨b, hb⟩ := at_get (l := l) (k := k) (by omega)
      have hi := at_idx hb hs
      by_cases hok : isDg b = true
      · have N := Lib.hid (all_take hb HN.out hok)
        have h1 := isDg_iff.1 hok
        have t1 : decide ((b.toNat : Int) < 48) = false := by simp; omega
        have t2 : decide ((57 : Int) < (b.toNat : Int)) = false := by simp; omega
        replace hb := Lib.hid hb
        clear hok h1 HN
        go_wp2
        go_roundg g
        case measure => omega
        case rel => exact ⟨k + 1, by go_num, by omega, N, rfl⟩
      · have Q := hq.out
        rw [digs_bad (all_bad hb (by simpa using hok))] at Q
        subst Q
        have h1 : ¬ (48 ≤ b.toNat ∧ b.toNat ≤ 57) := fun e => hok (isDg_iff.2 e)
        replace hb := Lib.hid hb
        clear hok
        by_cases h2 : b.toNat < 48
        · have t1 : decide ((b.toNat : Int) < 48) = true := by simp; omega
          go_wp2
          go_ret
          exact ⟨rfl, rfl⟩
        · have t1 : decide ((b.toNat : Int) < 48) = false := by simp; omega
          have t2 : decide ((57 : Int) < (b.toNat : Int)) = true := by simp; omega
          go_wp2
          go_ret
          exact ⟨rfl, rfl⟩
theorem wrap_id {n : Int} (h1 : -9223372036854775808 ≤ n) (h2 : n ≤ 9223372036854775807) : wrap64 n = n := by unfold wrap64; omega
theorem quo_ten {d : Nat} (h : d ≤ 9) : (-9223372036854775808 + (d : Int)).tdiv 10 = -((9223372036854775808 - (d : Int)) / 10) := by
  rw [show (-9223372036854775808 + (d : Int)) = -(9223372036854775808 - (d : Int)) by omega, Int.neg_tdiv, Int.tdiv_eq_ediv_of_nonneg (by omega)]
def belowL (l : L8) : Int × Bool := if valF 0 l ≤ 9223372036854775808 then (-(valF 0 l : Int), true) else (0, false)
set_option maxRecDepth 100000 in
set_option maxHeartbeats 1000000 in
theorem rbelow_any (l : L8) (w : World) (hl : l.length ≤ 9223372036854775807) (hd : l.all isDg = true) :
    Calls Tryd.prog 40 #[str l] w fun e w' => e = .returned (.tuple #[.int .i64 (belowL l).1, .bool (belowL l).2]) ∧ w = w' := by
  obtain ⟨q, hq⟩ : ∃ q, belowL l = q := ⟨_, rfl⟩
  rw [hq]
  have hs := Lib.hid (sb_size l)
  replace hq := Lib.hid hq
  go_enter Tryd.func40, Tryd.ntmps40
  go_wp2
  go_loopg [4, 5] l.length (fun g s4 s5 wx => ∃ (k : Nat) (m : Int), s4 = .int .i64 m ∧ s5 = .int .i64 k ∧ k + g = l.length ∧ Hid (m = -(valF 0 (l.take k) : Int)) ∧ (-9223372036854775808 ≤ m ∧ m ≤ 0) ∧ w = wx)
  case atStart => exact ⟨0, 0, rfl, rfl, by omega, Lib.hid rfl, by omega, rfl⟩
  case round =>
    obtain ⟨k, m, rfl, rfl, hg, HN, hm, rfl⟩ := hrel
    cases gk with
    | zero =>
      have h : ¬ ((k : Int) < (l.length : Int)) := by omega
      have Q := hq.out
      have e : l.take k = l := List.take_of_length_le (by omega)
      have V := HN.out
      rw [e] at V
      rw [belowL, if_pos (by omega), ← V] at Q
      subst Q
      clear V e HN
      go_wp2
      go_ret2
      exact ⟨rfl, rfl⟩
    | succ g =>
      have h : ((k : Int) < (l.length : Int)) := by omega
      obtain ⟨b, hb, ht, hmem⟩ := at_take (l := l) (k := k) (by omega)
      have hi := at_idx hb hs
      have hbd := isDg_iff.1 (List.all_eq_true.1 hd b hmem)
      obtain ⟨d, hd'⟩ : ∃ d : Nat, b.toNat = 48 + d := ⟨b.toNat - 48, by omega⟩
      rw [hd'] at hi
      have hd9 : d ≤ 9 := by omega
      have ec : ((48 + d : Nat) : Int) = 48 + (d : Int) := by omega
      have V1 : valF 0 (l.take (k + 1)) = valF 0 (l.take k) * 10 + d := by rw [ht, valF_snoc, hd']; omega
      have V2 := valF_take (l := l) (k := k + 1)
      have V := HN.out
      have ed : (48 + (d : Int) - 48) = d := by omega
      by_cases c : 9223372036854775808 < 10 * (-m) + d
      · have t1 : decide (m < (-9223372036854775808 + (48 + (d : Int) - 48)).tdiv 10) = true := by
          rw [ed, quo_ten (by omega)]; simp only [decide_eq_true_eq]; omega
        have Q := hq.out
        rw [belowL, if_neg (by omega)] at Q
        subst Q
        clear ed V V1 V2 hd' hb ht hmem
        go_wp2
        go_ret2
        exact ⟨rfl, rfl⟩
      · have t1 : decide (m < (-9223372036854775808 + (48 + (d : Int) - 48)).tdiv 10) = false := by
          rw [ed, quo_ten (by omega)]; simp only [decide_eq_false_iff_not]; omega
        have N := Lib.hid (show 10 * m - (48 + (d : Int) - 48) = -(valF 0 (l.take (k + 1)) : Int) ∧ (-9223372036854775808 ≤ -(valF 0 (l.take (k + 1)) : Int) ∧ -(valF 0 (l.take (k + 1)) : Int) ≤ 0) by
          rw [ed, V1]
          omega)
        clear ed V V1 V2 hd' hb ht hmem HN
        go_wp2
        go_roundg g
        case measure => omega
        case rel => exact ⟨k + 1, _, congrArg (Value.int .i64) N.out.1, by go_num, by omega, Lib.hid rfl, N.out.2, rfl⟩
theorem tail_any (b : UInt8) (r : L8) : ∀ ww : World, (Instr.slice 9 (.string ⟨(b :: r).toArray⟩) (some (.int .i64 1)) none none).run Tryd.prog ww = .ok (str r) ww := by
  intro ww
  rw [run_slice_string_from_if ww 9 _ _ _ Tryd.underlying9, if_pos ⟨by omega, by rw [sb_size]; simp only [List.length_cons]; omega⟩, ByteArray.extract_mk]
  congr 3
  simp
  rw [show (ByteArray.mk (b :: r).toArray).size = (b :: r).length from sb_size _]
  apply List.take_of_length_le
  simp
/-- What the reference does. -/
theorem intL_ref {s : L8} (hd : digs (mag s) = true) (h : ¬ (neg s = true ∧ mag s = [48])) : intL s = if (belowL (mag s)).2 = false then (0, 17) else if neg s = true then ((belowL (mag s)).1, 0) else if (belowL (mag s)).1 = -9223372036854775808 then (0, 17) else (-(belowL (mag s)).1, 0) := by
  have e : isDec s = true := by
    simp only [isDec, hd, Bool.true_and]
    by_cases hn : neg s = true
    · simp [hn] at h ⊢; exact h
    · simp [hn]
  rw [intL, if_pos e]
  unfold belowL
  by_cases hn : neg s = true
  · rw [if_pos hn]
    by_cases hv : valF 0 (mag s) ≤ 9223372036854775808
    · simp [hv, hn]
    · simp [hv]
  · rw [if_neg hn]
    by_cases hv : valF 0 (mag s) ≤ 9223372036854775808
    · by_cases hw : valF 0 (mag s) < 9223372036854775808
      · have : ¬ (-(valF 0 (mag s) : Int)) = -9223372036854775808 := by omega
        simp [hv, hn, hw]
        omega
      · have e2 : valF 0 (mag s) = 9223372036854775808 := by omega
        simp [hn, e2]
    · have : ¬ valF 0 (mag s) < 9223372036854775808 := by omega
      simp [hv, this]
theorem intL_ref_bad {s : L8} (h : digs (mag s) = false ∨ (neg s = true ∧ mag s = [48])) : intL s = (0, 4) := by
  apply intL_bad
  rcases h with h | ⟨h1, h2⟩
  · simp [isDec, h]
  · simp [isDec, h1, h2]
set_option maxRecDepth 100000 in
set_option maxHeartbeats 1000000 in
theorem rint_any (s : L8) (w : World) (hl : s.length ≤ 100000) :
    Calls Tryd.prog 19 #[str s] w fun e w' => e = .returned (outI (intL s)) ∧ w = w' := by
  have R0 := @intL_ref_bad s
  have R1 := @intL_ref s
  cases s with
  | nil =>
    rw [R0 (Or.inl rfl)]
    clear R0 R1
    have KD := fun ww => rdigits_any [] ww (by simp)
    rw [show digs [] = false from rfl] at KD
    unfold outI
    go_enter Tryd.func19, Tryd.ntmps19
    go_wp2_with (go_at_call 39; refine (KD _).mono ?_; rintro e w' ⟨rfl, rfl⟩)
    go_ret2
    exact ⟨rfl, rfl⟩
  | cons x r =>
    have hx := at_zero (b := x) (r := r)
    have hp : (0 : Int) < (r.length : Int) + 1 := by omega
    by_cases c : x = 45
    · have e1 : neg (x :: r) = true := by simp [neg, c]
      have e2 : mag (x :: r) = r := by simp [mag, e1]
      have e45 : (x.toNat : Int) = 45 := by subst c; rfl
      have ht := tail_any x r
      rw [e1, e2] at R0 R1
      have KD := fun ww => rdigits_any r ww (by simp at hl ⊢; omega)
      by_cases hd : digs r = true
      · rw [hd] at KD
        have KB := fun ww => rbelow_any r ww (by simp at hl ⊢; omega) (digs_all hd)
        by_cases h0 : r = [48]
        · rw [R0 (Or.inr ⟨rfl, h0⟩)]
          clear R0 R1 KB
          clear hd
          subst h0
          replace c := Lib.hid c
          unfold outI
          go_enter Tryd.func19, Tryd.ntmps19
          go_wp2_with (first | (go_at_call 39; refine (KD _).mono ?_; rintro e w' ⟨rfl, rfl⟩) | (go_at_call 40; refine (KB _).mono ?_; rintro e w' ⟨rfl, rfl⟩))
          all_goals go_ret2
          all_goals exact ⟨rfl, rfl⟩
        · have R := R1 hd (fun e => h0 e.2)
          rw [R]
          clear R R0 R1
          have z : (r == [48]) = false := by simpa using h0
          clear h0
          replace hd := Lib.hid hd
          replace c := Lib.hid c
          have hb : (belowL r).1 ≤ 0 ∧ -9223372036854775808 ≤ (belowL r).1 := by unfold belowL; split <;> simp only <;> omega
          obtain ⟨b1, hb1⟩ : ∃ b1, (belowL r).1 = b1 := ⟨_, rfl⟩
          obtain ⟨b2, hb2⟩ : ∃ b2, (belowL r).2 = b2 := ⟨_, rfl⟩
          simp only [hb1, hb2] at hb KB ⊢
          replace hb1 := Lib.hid hb1
          replace hb2 := Lib.hid hb2
          cases b2 with
          | false =>
            simp only [if_true]
            unfold outI
            go_enter Tryd.func19, Tryd.ntmps19
            go_wp2_with (first | (go_at_call 39; refine (KD _).mono ?_; rintro e w' ⟨rfl, rfl⟩) | (go_at_call 40; refine (KB _).mono ?_; rintro e w' ⟨rfl, rfl⟩))
            all_goals go_ret2
            all_goals exact ⟨rfl, rfl⟩
          | true =>
            simp only [Bool.true_eq_false, if_false, if_true]
            unfold outI
            go_enter Tryd.func19, Tryd.ntmps19
            go_wp2_with (first | (go_at_call 39; refine (KD _).mono ?_; rintro e w' ⟨rfl, rfl⟩) | (go_at_call 40; refine (KB _).mono ?_; rintro e w' ⟨rfl, rfl⟩))
            all_goals go_ret2
            all_goals exact ⟨rfl, rfl⟩
      · simp only [Bool.not_eq_true] at hd
        rw [R0 (Or.inl hd)]
        rw [hd] at KD
        clear R0 R1
        replace hd := Lib.hid hd
        replace c := Lib.hid c
        unfold outI
        go_enter Tryd.func19, Tryd.ntmps19
        go_wp2_with (first | (go_at_call 39; refine (KD _).mono ?_; rintro e w' ⟨rfl, rfl⟩))
        all_goals go_ret2
        all_goals exact ⟨rfl, rfl⟩
    · have e1 : neg (x :: r) = false := by simp [neg, c]
      have e2 : mag (x :: r) = x :: r := by simp [mag, e1]
      have e45 : ¬ (x.toNat : Int) = 45 := by
        intro e
        exact c (UInt8.toNat_inj.1 (by show x.toNat = 45; omega))
      have e46 : ¬ x.toNat = 45 := by omega
      rw [e1, e2] at R0 R1
      have KD := fun ww => rdigits_any (x :: r) ww (by simp at hl ⊢; omega)
      by_cases hd : digs (x :: r) = true
      · rw [hd] at KD
        have KB := fun ww => rbelow_any (x :: r) ww (by simp at hl ⊢; omega) (digs_all hd)
        · have R := R1 hd (fun e => by cases e.1)
          rw [R]
          clear R R0 R1
          replace hd := Lib.hid hd
          replace c := Lib.hid c
          have hb : (belowL (x :: r)).1 ≤ 0 ∧ -9223372036854775808 ≤ (belowL (x :: r)).1 := by unfold belowL; split <;> simp only <;> omega
          obtain ⟨b1, hb1⟩ : ∃ b1, (belowL (x :: r)).1 = b1 := ⟨_, rfl⟩
          obtain ⟨b2, hb2⟩ : ∃ b2, (belowL (x :: r)).2 = b2 := ⟨_, rfl⟩
          simp only [hb1, hb2] at hb KB ⊢
          replace hb1 := Lib.hid hb1
          replace hb2 := Lib.hid hb2
          cases b2 with
          | false =>
            simp only [if_true]
            unfold outI
            go_enter Tryd.func19, Tryd.ntmps19
            go_wp2_with (first | (go_at_call 39; refine (KD _).mono ?_; rintro e w' ⟨rfl, rfl⟩) | (go_at_call 40; refine (KB _).mono ?_; rintro e w' ⟨rfl, rfl⟩))
            all_goals go_ret2
            all_goals exact ⟨rfl, rfl⟩
          | true =>
            simp only [Bool.true_eq_false, Bool.false_eq_true, if_false]
            by_cases hm : b1 = -9223372036854775808
            · rw [if_pos hm]
              unfold outI
              go_enter Tryd.func19, Tryd.ntmps19
              go_wp2_with (first | (go_at_call 39; refine (KD _).mono ?_; rintro e w' ⟨rfl, rfl⟩) | (go_at_call 40; refine (KB _).mono ?_; rintro e w' ⟨rfl, rfl⟩))
              all_goals go_ret2
              all_goals exact ⟨rfl, rfl⟩
            · rw [if_neg hm]
              unfold outI
              go_enter Tryd.func19, Tryd.ntmps19
              go_wp2_with (first | (go_at_call 39; refine (KD _).mono ?_; rintro e w' ⟨rfl, rfl⟩) | (go_at_call 40; refine (KB _).mono ?_; rintro e w' ⟨rfl, rfl⟩))
              all_goals go_ret2
              all_goals exact ⟨rfl, rfl⟩
      · simp only [Bool.not_eq_true] at hd
        rw [R0 (Or.inl hd)]
        rw [hd] at KD
        clear R0 R1
        replace hd := Lib.hid hd
        replace c := Lib.hid c
        unfold outI
        go_enter Tryd.func19, Tryd.ntmps19
        go_wp2_with (first | (go_at_call 39; refine (KD _).mono ?_; rintro e w' ⟨rfl, rfl⟩))
        all_goals go_ret2
        all_goals exact ⟨rfl, rfl⟩
end Go.Proofs.YtblcigddinmiaaaDoor
