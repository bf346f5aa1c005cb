/- Contracts of the readers of signed numbers, Bools, lengths and texts. Conditions: as stated. -/
import Derived.Test.YtemhfhfbhdkedaaTake3
namespace Go.Proofs.Ytemhfhfbhdkedaa
open Go.ChangeShapes Go.WideShapes Go.ChangeAt Go.RowKit
def outI : DR (Int × Int) → Value
  | .ok (n, t) => .tuple #[.int .i64 n, .int .i64 t, .int .i64 0]
  | .err e => .tuple #[.int .i64 0, .int .i64 0, .int .i64 e]
def outB : DR (Bool × Int) → Value
  | .ok (n, t) => .tuple #[.bool n, .int .i64 t, .int .i64 0]
  | .err e => .tuple #[.bool false, .int .i64 0, .int .i64 e]
def outC : DR (Nat × Int) → Value
  | .ok (n, t) => .tuple #[.int .i64 n, .int .i64 t, .int .i64 0]
  | .err e => .tuple #[.int .i64 0, .int .i64 0, .int .i64 e]
def outT : DR (List UInt8 × Int) → Value
  | .ok (n, t) => .tuple #[str n, .int .i64 t, .int .i64 0]
  | .err e => .tuple #[str [], .int .i64 0, .int .i64 e]
theorem dec_err : ∀ (l : List UInt8) (k : Nat) (e : Int), dec k l = .err e → e ≠ 0
  | [], k, e, h => by simp only [dec, DR.err.injEq] at h; omega
  | b :: l, k, e, h => by
    rw [dec] at h
    split at h
    · simp only [DR.err.injEq] at h; omega
    · split at h
      · cases h
      · split at h
        · cases h
        · rename_i h'
          cases h
          exact dec_err l (k + 1) e h'
theorem tU_err {l : List UInt8} {a e : Int} (h : tU l a = .err e) : e ≠ 0 := by
  unfold tU at h
  split at h
  · simp only [DR.err.injEq] at h; omega
  · split at h
    · cases h
    · rename_i h'
      cases h
      exact dec_err _ _ _ h'
theorem tI_err {l : List UInt8} {a e : Int} (h : tI l a = .err e) : e ≠ 0 := by
  unfold tI at h
  split at h
  · cases h
  · rename_i h'; cases h; exact tU_err h'
theorem tC_err {l : List UInt8} {a m e : Int} (h : tC l a m = .err e) : e ≠ 0 := by
  unfold tC at h
  split at h
  · rename_i h'; cases h; exact tU_err h'
  · split at h
    · simp only [DR.err.injEq] at h; omega
    · split at h
      · simp only [DR.err.injEq] at h; omega
      · cases h
theorem tT_err {l : List UInt8} {a m e : Int} (h : tT l a m = .err e) : e ≠ 0 := by
  unfold tT at h
  split at h
  · rename_i h'; cases h; exact tC_err h'
  · cases h
theorem tN_err {l : List UInt8} : ∀ {c : Nat} {t e : Int}, tN l c t = .err e → e ≠ 0
  | 0, t, e, h => by simp [tN] at h
  | c + 1, t, e, h => by
    rw [tN] at h
    split at h
    · rename_i h'; cases h; exact tI_err h'
    · split at h
      · rename_i h'; cases h; exact tN_err h'
      · cases h
theorem tL_err {l : List UInt8} {a m e : Int} (h : tL l a m = .err e) : e ≠ 0 := by
  unfold tL at h
  split at h
  · rename_i h'; cases h; exact tC_err h'
  · exact tN_err h
theorem ne_flag {e : Int} (h : e ≠ 0) : (e != 0) = true := by simpa using h
set_option maxHeartbeats 400000 in
theorem takeInt_any (l : List UInt8) (at_ : Int) (w : World) (hl : l.length ≤ 9223372036854775807) (ha : In64 at_) :
    Calls Try.prog 24 #[str l, .int .i64 at_] w fun e w' => e = .returned (outI (tI l at_)) ∧ w = w' := by
  have K := takeUint_any l at_ w (by omega) ha
  cases h : tU l at_ with
  | ok x =>
    obtain ⟨n, t⟩ := x
    rw [h] at K
    have hn := (tU_ok h).2.2.2.1
    have E := Lib.hid (show tI l at_ = .ok (zag n, t) by rw [tI, h])
    replace h := Lib.hid h
    go_enter Try.func24, Try.ntmps24
    go_wp2_with fail
    refine K.mono ?_
    rintro e w' ⟨rfl, rfl⟩
    simp only [outU]
    go_wp2_with fail
    refine (unfold_any n w hn).mono ?_
    rintro e w' ⟨rfl, rfl⟩
    go_wp2
    go_ret3
    rw [E.out]
    exact ⟨rfl, rfl⟩
  | err e =>
    rw [h] at K
    have E := Lib.hid (show tI l at_ = .err e by rw [tI, h])
    replace h := Lib.hid h
    have U := unfold_any 0 w (by omega)
    rw [show zag 0 = 0 from rfl] at U
    go_enter Try.func24, Try.ntmps24
    go_wp2_with fail
    refine K.mono ?_
    rintro e w' ⟨rfl, rfl⟩
    simp only [outU]
    go_wp2_with fail
    refine U.mono ?_
    rintro e w' ⟨rfl, rfl⟩
    go_wp2
    go_ret3
    rw [E.out]
    exact ⟨rfl, rfl⟩
set_option maxHeartbeats 400000 in
theorem rtakeInt_any (l : List UInt8) (at_ : Int) (w : World) (hl : l.length ≤ 9223372036854775807) (ha : In64 at_) :
    Calls Try.prog 25 #[str l, .int .i64 at_] w fun e w' => e = .returned (outI (tI l at_)) ∧ w = w' := by
  have K := rtakeUint_any l at_ w (by omega) ha
  cases h : tU l at_ with
  | ok x =>
    obtain ⟨n, t⟩ := x
    rw [h] at K
    have hn := (tU_ok h).2.2.2.1
    have E := Lib.hid (show tI l at_ = .ok (zag n, t) by rw [tI, h])
    replace h := Lib.hid h
    have h2 : ((n : Int) / 2) ≤ 9223372036854775807 := by omega
    have h4 : 0 ≤ ((n : Int) / 2) := by omega
    by_cases ho : n % 2 = 1
    · have hz := Lib.hid (show zag n = -((n / 2 : Nat) : Int) - 1 by unfold zag; rw [if_pos ho])
      have h3 : (((n : Int) % 2) == 0) = false := by simp; omega
      clear ho
      go_enter Try.func25, Try.ntmps25
      go_wp2_with fail
      refine K.mono ?_
      rintro e w' ⟨rfl, rfl⟩
      simp only [outU]
      go_wp2
      go_ret3
      rw [E.out, hz.out]
      exact ⟨rfl, rfl⟩
    · have hz := Lib.hid (show zag n = ((n / 2 : Nat) : Int) by unfold zag; rw [if_neg ho])
      have h3 : (((n : Int) % 2) == 0) = true := by simp; omega
      clear ho
      go_enter Try.func25, Try.ntmps25
      go_wp2_with fail
      refine K.mono ?_
      rintro e w' ⟨rfl, rfl⟩
      simp only [outU]
      go_wp2
      go_ret3
      rw [E.out, hz.out]
      exact ⟨rfl, rfl⟩
  | err e =>
    rw [h] at K
    have E := Lib.hid (show tI l at_ = .err e by rw [tI, h])
    have hne := ne_flag (tU_err h)
    replace h := Lib.hid h
    go_enter Try.func25, Try.ntmps25
    go_wp2_with fail
    refine K.mono ?_
    rintro e w' ⟨rfl, rfl⟩
    simp only [outU]
    go_wp2
    go_ret3
    rw [E.out]
    exact ⟨rfl, rfl⟩
set_option maxHeartbeats 400000 in
theorem takeBool_any (l : List UInt8) (at_ : Int) (w : World) (hl : l.length ≤ 9223372036854775807) (ha : In64 at_) :
    Calls Try.prog 26 #[str l, .int .i64 at_] w fun e w' => e = .returned (outB (tB l at_)) ∧ w = w' := by
  obtain ⟨ha1, ha2⟩ := ha
  have hs := Lib.hid (sb_size l)
  by_cases h0 : at_ < 0
  · have E := Lib.hid (show tB l at_ = .err 1 by unfold tB; rw [if_pos (by omega)])
    go_enter Try.func26, Try.ntmps26
    go_wp2
    go_ret3
    rw [E.out]
    exact ⟨rfl, rfl⟩
  by_cases h1 : (l.length : Int) < at_
  · have E := Lib.hid (show tB l at_ = .err 1 by unfold tB; rw [if_pos (by omega)])
    go_enter Try.func26, Try.ntmps26
    go_wp2
    go_ret3
    rw [E.out]
    exact ⟨rfl, rfl⟩
  obtain ⟨a, rfl⟩ : ∃ a : Nat, at_ = a := ⟨at_.toNat, by omega⟩
  by_cases h2 : a = l.length
  · have E := Lib.hid (show tB l a = .err 5 by unfold tB; rw [if_neg (by omega), List.drop_of_length_le (by omega)])
    have h3 : (((a : Nat) : Int) == (l.length : Int)) = true := by simp; omega
    have h4 : ¬ ((l.length : Int) < (a : Int)) := by omega
    clear h2
    go_enter Try.func26, Try.ntmps26
    go_wp2
    go_ret3
    rw [E.out]
    exact ⟨rfl, rfl⟩
  have h3 : (((a : Nat) : Int) == (l.length : Int)) = false := by simp; omega
  have h4 : ¬ ((l.length : Int) < (a : Int)) := by omega
  obtain ⟨b, hb, _⟩ := at_take (l := l) (k := a) (by omega)
  have hd := drop_at hb
  have hi : ∀ ww : World, (Instr.index 9 (.string ⟨l.toArray⟩) (.int .i64 (a : Int))).run Try.prog ww = .ok (.int .u8 (b.toNat : Int)) ww := by
    intro ww
    rw [run_index_string ww 9 _ _ _ Try.underlying9, dif_pos ⟨by omega, by rw [sb_size]; omega⟩]
    rw [str_at (l := l) (b := b) (by rw [← hb]; congr 1)]
  have E := Lib.hid (show tB l a = if b.toNat > 1 then .err 4 else .ok (decide (b.toNat = 1), (a : Int) + 1) by unfold tB; rw [if_neg (by omega), show (a : Int).toNat = a from rfl, hd])
  clear hd
  replace hb := Lib.hid hb
  have ha5 : a < l.length := by omega
  clear h2
  by_cases h5 : b.toNat > 1
  · have h6 : decide ((1 : Int) < (b.toNat : Int)) = true := by simp; omega
    go_enter Try.func26, Try.ntmps26
    go_wp2
    go_ret3
    rw [E.out, if_pos h5]
    exact ⟨rfl, rfl⟩
  · have h6 : decide ((1 : Int) < (b.toNat : Int)) = false := by simp; omega
    have h7 := Lib.hid (show ((b.toNat : Int) == 1) = decide (b.toNat = 1) by rw [Bool.eq_iff_iff]; simp; omega)
    go_enter Try.func26, Try.ntmps26
    go_wp2
    go_ret3
    rw [E.out, if_neg h5, ← h7.out]
    exact ⟨rfl, rfl⟩
set_option maxHeartbeats 400000 in
theorem rtakeBool_any (l : List UInt8) (at_ : Int) (w : World) (hl : l.length ≤ 9223372036854775807) (ha : In64 at_) :
    Calls Try.prog 27 #[str l, .int .i64 at_] w fun e w' => e = .returned (outB (tB l at_)) ∧ w = w' := by
  obtain ⟨ha1, ha2⟩ := ha
  have hs := Lib.hid (sb_size l)
  by_cases h0 : at_ < 0
  · have E := Lib.hid (show tB l at_ = .err 1 by unfold tB; rw [if_pos (by omega)])
    go_enter Try.func27, Try.ntmps27
    go_wp2
    go_ret3
    rw [E.out]
    exact ⟨rfl, rfl⟩
  by_cases h1 : (l.length : Int) < at_
  · have E := Lib.hid (show tB l at_ = .err 1 by unfold tB; rw [if_pos (by omega)])
    go_enter Try.func27, Try.ntmps27
    go_wp2
    go_ret3
    rw [E.out]
    exact ⟨rfl, rfl⟩
  obtain ⟨a, rfl⟩ : ∃ a : Nat, at_ = a := ⟨at_.toNat, by omega⟩
  by_cases h2 : a = l.length
  · have E := Lib.hid (show tB l a = .err 5 by unfold tB; rw [if_neg (by omega), List.drop_of_length_le (by omega)])
    have h3 : (((a : Nat) : Int) == (l.length : Int)) = true := by simp; omega
    have h4 : ¬ ((l.length : Int) < (a : Int)) := by omega
    clear h2
    go_enter Try.func27, Try.ntmps27
    go_wp2
    go_ret3
    rw [E.out]
    exact ⟨rfl, rfl⟩
  have h3 : (((a : Nat) : Int) == (l.length : Int)) = false := by simp; omega
  have h4 : ¬ ((l.length : Int) < (a : Int)) := by omega
  obtain ⟨b, hb, _⟩ := at_take (l := l) (k := a) (by omega)
  have hd := drop_at hb
  have hi : ∀ ww : World, (Instr.index 9 (.string ⟨l.toArray⟩) (.int .i64 (a : Int))).run Try.prog ww = .ok (.int .u8 (b.toNat : Int)) ww := by
    intro ww
    rw [run_index_string ww 9 _ _ _ Try.underlying9, dif_pos ⟨by omega, by rw [sb_size]; omega⟩]
    rw [str_at (l := l) (b := b) (by rw [← hb]; congr 1)]
  have E := Lib.hid (show tB l a = if b.toNat > 1 then .err 4 else .ok (decide (b.toNat = 1), (a : Int) + 1) by unfold tB; rw [if_neg (by omega), show (a : Int).toNat = a from rfl, hd])
  clear hd
  replace hb := Lib.hid hb
  have ha5 : a < l.length := by omega
  clear h2
  by_cases h5 : b.toNat > 1
  · have h6 : decide ((1 : Int) < (b.toNat : Int)) = true := by simp; omega
    go_enter Try.func27, Try.ntmps27
    go_wp2
    go_ret3
    rw [E.out, if_pos h5]
    exact ⟨rfl, rfl⟩
  · have h6 : decide ((1 : Int) < (b.toNat : Int)) = false := by simp; omega
    have h7 := Lib.hid (show ((b.toNat : Int) == 1) = decide (b.toNat = 1) by rw [Bool.eq_iff_iff]; simp; omega)
    go_enter Try.func27, Try.ntmps27
    go_wp2
    go_ret3
    rw [E.out, if_neg h5, ← h7.out]
    exact ⟨rfl, rfl⟩
set_option maxHeartbeats 400000 in
theorem takeCount_any (l : List UInt8) (at_ most : Int) (w : World) (hl : l.length ≤ 9223372036854775807) (ha : In64 at_) (hm : In64 most) :
    Calls Try.prog 30 #[str l, .int .i64 at_, .int .i64 most] w fun e w' => e = .returned (outC (tC l at_ most)) ∧ w = w' := by
  have K := takeUint_any l at_ w (by omega) ha
  obtain ⟨hm1, hm2⟩ := hm
  have hs := Lib.hid (sb_size l)
  cases h : tU l at_ with
  | ok x =>
    obtain ⟨n, t⟩ := x
    rw [h] at K
    obtain ⟨g1, g2, g3, hn, _⟩ := tU_ok h
    have t1 : 0 ≤ t := by omega
    by_cases h0 : most < 0
    · have E := Lib.hid (show tC l at_ most = .err 2 by rw [tC, h]; simp only; rw [if_pos (Or.inl h0)])
      replace h := Lib.hid h
      go_enter Try.func30, Try.ntmps30
      go_wp2_with fail
      refine K.mono ?_
      rintro e w' ⟨rfl, rfl⟩
      simp only [outU]
      go_wp2
      go_ret3
      rw [E.out]
      exact ⟨rfl, rfl⟩
    by_cases h1 : (n : Int) > most
    · have E := Lib.hid (show tC l at_ most = .err 2 by rw [tC, h]; simp only; rw [if_pos (Or.inr h1)])
      replace h := Lib.hid h
      have h2 : 0 ≤ most := by omega
      go_enter Try.func30, Try.ntmps30
      go_wp2_with fail
      refine K.mono ?_
      rintro e w' ⟨rfl, rfl⟩
      simp only [outU]
      go_wp2
      go_ret3
      rw [E.out]
      exact ⟨rfl, rfl⟩
    have h2 : 0 ≤ most := by omega
    have g4 : 0 ≤ (l.length : Int) - t := by omega
    have g5 : (l.length : Int) - t ≤ 9223372036854775807 := by omega
    by_cases h3 : (n : Int) > (l.length : Int) - t
    · have E := Lib.hid (show tC l at_ most = .err 5 by rw [tC, h]; simp only; rw [if_neg (by omega), if_pos h3])
      replace h := Lib.hid h
      go_enter Try.func30, Try.ntmps30
      go_wp2_with fail
      refine K.mono ?_
      rintro e w' ⟨rfl, rfl⟩
      simp only [outU]
      go_wp2
      go_ret3
      rw [E.out]
      exact ⟨rfl, rfl⟩
    · have E := Lib.hid (show tC l at_ most = .ok (n, t) by rw [tC, h]; simp only; rw [if_neg (by omega), if_neg h3])
      replace h := Lib.hid h
      have h5 : (n : Int) ≤ 9223372036854775807 := by omega
      go_enter Try.func30, Try.ntmps30
      go_wp2_with fail
      refine K.mono ?_
      rintro e w' ⟨rfl, rfl⟩
      simp only [outU]
      go_wp2
      go_ret3
      rw [E.out]
      exact ⟨rfl, rfl⟩
  | err e =>
    rw [h] at K
    have E := Lib.hid (show tC l at_ most = .err e by rw [tC, h])
    have hne := ne_flag (tU_err h)
    replace h := Lib.hid h
    go_enter Try.func30, Try.ntmps30
    go_wp2_with fail
    refine K.mono ?_
    rintro e w' ⟨rfl, rfl⟩
    simp only [outU]
    go_wp2
    go_ret3
    rw [E.out]
    exact ⟨rfl, rfl⟩
set_option maxHeartbeats 400000 in
theorem rtakeCount_any (l : List UInt8) (at_ most : Int) (w : World) (hl : l.length ≤ 9223372036854775807) (ha : In64 at_) (hm : In64 most) :
    Calls Try.prog 31 #[str l, .int .i64 at_, .int .i64 most] w fun e w' => e = .returned (outC (tC l at_ most)) ∧ w = w' := by
  have K := rtakeUint_any l at_ w (by omega) ha
  obtain ⟨hm1, hm2⟩ := hm
  have hs := Lib.hid (sb_size l)
  cases h : tU l at_ with
  | ok x =>
    obtain ⟨n, t⟩ := x
    rw [h] at K
    obtain ⟨g1, g2, g3, hn, _⟩ := tU_ok h
    have t1 : 0 ≤ t := by omega
    by_cases h0 : most < 0
    · have E := Lib.hid (show tC l at_ most = .err 2 by rw [tC, h]; simp only; rw [if_pos (Or.inl h0)])
      replace h := Lib.hid h
      go_enter Try.func31, Try.ntmps31
      go_wp2_with fail
      refine K.mono ?_
      rintro e w' ⟨rfl, rfl⟩
      simp only [outU]
      go_wp2
      go_ret3
      rw [E.out]
      exact ⟨rfl, rfl⟩
    by_cases h1 : (n : Int) > most
    · have E := Lib.hid (show tC l at_ most = .err 2 by rw [tC, h]; simp only; rw [if_pos (Or.inr h1)])
      replace h := Lib.hid h
      have h2 : 0 ≤ most := by omega
      go_enter Try.func31, Try.ntmps31
      go_wp2_with fail
      refine K.mono ?_
      rintro e w' ⟨rfl, rfl⟩
      simp only [outU]
      go_wp2
      go_ret3
      rw [E.out]
      exact ⟨rfl, rfl⟩
    have h2 : 0 ≤ most := by omega
    have g4 : 0 ≤ (l.length : Int) - t := by omega
    have g5 : (l.length : Int) - t ≤ 9223372036854775807 := by omega
    by_cases h3 : (n : Int) > (l.length : Int) - t
    · have E := Lib.hid (show tC l at_ most = .err 5 by rw [tC, h]; simp only; rw [if_neg (by omega), if_pos h3])
      replace h := Lib.hid h
      go_enter Try.func31, Try.ntmps31
      go_wp2_with fail
      refine K.mono ?_
      rintro e w' ⟨rfl, rfl⟩
      simp only [outU]
      go_wp2
      go_ret3
      rw [E.out]
      exact ⟨rfl, rfl⟩
    · have E := Lib.hid (show tC l at_ most = .ok (n, t) by rw [tC, h]; simp only; rw [if_neg (by omega), if_neg h3])
      replace h := Lib.hid h
      have h5 : (n : Int) ≤ 9223372036854775807 := by omega
      go_enter Try.func31, Try.ntmps31
      go_wp2_with fail
      refine K.mono ?_
      rintro e w' ⟨rfl, rfl⟩
      simp only [outU]
      go_wp2
      go_ret3
      rw [E.out]
      exact ⟨rfl, rfl⟩
  | err e =>
    rw [h] at K
    have E := Lib.hid (show tC l at_ most = .err e by rw [tC, h])
    have hne := ne_flag (tU_err h)
    replace h := Lib.hid h
    go_enter Try.func31, Try.ntmps31
    go_wp2_with fail
    refine K.mono ?_
    rintro e w' ⟨rfl, rfl⟩
    simp only [outU]
    go_wp2
    go_ret3
    rw [E.out]
    exact ⟨rfl, rfl⟩
end Go.Proofs.Ytemhfhfbhdkedaa
