/- Contracts of isDecimal and Int, of the reference's digits, below and Int. Conditions: the text's length; what the library reads (GW). -/
import Derived.Test.YtblcigddinmiaaaDoorDecim5
namespace Go.Proofs.YtblcigddinmiaaaDoor
open Go.ChangeShapes Go.WideShapes Go.ChangeAt Go.RowKit
theorem trim_any (l : L8) (w : World) : Calls Tryd.prog 49 #[str l, .string ⟨#[45]⟩] w fun e w' => e = .returned (str (mag l)) ∧ w = w' := by
  have h := Tryd.strings_TrimPrefix (sb l) ⟨#[45]⟩ w
  refine h.mono ?_
  rintro e w' ⟨rfl, rfl⟩
  refine ⟨?_, rfl⟩
  rw [show (sb l).data.toList = l from rfl, show (⟨#[45]⟩ : ByteArray).data.toList = [45] from rfl, trim_mag]
theorem at_zero {b : UInt8} {r : L8} : ∀ ww : World, (Instr.index 9 (.string ⟨(b :: r).toArray⟩) (.int .i64 0)).run Tryd.prog ww = .ok (.int .u8 (b.toNat : Int)) ww := by
  intro ww
  have := at_idx (l := b :: r) (k := 0) (b := b) rfl (Lib.hid (sb_size _)) ww
  simpa using this
set_option maxRecDepth 100000 in
set_option maxHeartbeats 1000000 in
theorem isDecimal_any (l : L8) (w : World) (hl : l.length ≤ 9223372036854775807) :
    Calls Tryd.prog 37 #[str l] w (RetB w (isDec l)) := by
  have T := fun ww => trim_any l ww
  obtain ⟨q, hq⟩ : ∃ q, isDec l = q := ⟨_, rfl⟩
  rw [hq]
  have Q0 := @isDec_none l
  have Q1 := @isDec_bad l
  have Q2 := @isDec_prog l
  obtain ⟨d, hd⟩ : ∃ d, mag l = d := ⟨_, rfl⟩
  rw [hd] at T Q0 Q1 Q2
  rw [hq] at Q0 Q1 Q2
  cases d with
  | nil =>
    obtain rfl : q = false := Q0 rfl
    clear Q0 Q1 Q2
    replace hd := Lib.hid hd
    replace hq := Lib.hid hq
    go_enter Tryd.func37, Tryd.ntmps37
    go_wp2_with (go_at_call 49; refine (T _).mono ?_; rintro e w' ⟨rfl, rfl⟩)
    go_ret
    exact ⟨rfl, Below.refl _ _⟩
  | cons x xs =>
    clear Q0
    replace Q1 := Lib.hid Q1
    replace Q2 := Lib.hid (Q2 (by simp))
    replace hd := Lib.hid hd
    replace hq := Lib.hid hq
    have hx := at_zero (b := x) (r := xs)
    go_enter Tryd.func37, Tryd.ntmps37
    go_wp2_with (go_at_call 49; refine (T _).mono ?_; rintro e w' ⟨rfl, rfl⟩)
    clear T
    go_loopg [] (x :: xs).length (fun g wx => ∃ (k : Nat), k + g = (x :: xs).length ∧ Hid (((x :: xs).take k).all isDg = true) ∧ wx = w.iter (sb (x :: xs)) k)
    case atStart => exact ⟨0, by omega, Lib.hid rfl, rfl⟩
    case round =>
      obtain ⟨k, hg, HN, rfl⟩ := hrel
      cases gk with
      | zero =>
        have hnx := end_iter (l := x :: xs) (k := k) (by omega) w
        have HA : (x :: xs).all isDg = true := by have := HN.out; rwa [List.take_of_length_le (by omega)] at this
        have E := Q2.out HA
        replace HA := Lib.hid HA
        clear HN
        by_cases c : x = 48
        · have e48 : (x.toNat : Int) = 48 := by subst c; rfl
          have E2 := Lib.hid (show (l == [48]) = q by rw [E, c]; simp; apply Bool.eq_iff_iff.2; simp)
          clear E c
          go_wp2
          all_goals go_ret
          all_goals exact ⟨ret1_bool E2.out, below_iter _ _ _⟩
        · have e48 : ¬ (x.toNat : Int) = 48 := by
            intro e
            exact c (UInt8.toNat_inj.1 (by show x.toNat = 48; omega))
          have e49 : ¬ x.toNat = 48 := by omega
          obtain rfl : q = true := by rw [E]; simp [c]
          clear E
          go_wp2
          all_goals go_ret
          all_goals exact ⟨rfl, below_iter _ _ _⟩
      | succ g =>
        obtain ⟨b, hb⟩ := at_get (l := x :: xs) (k := k) (by omega)
        obtain ⟨r, n, hr, hnx⟩ := next_iter hb w
        have KD := fun ww => digit_any r (isDg b) ww (rune_dg hr)
        by_cases hok : isDg b = true
        · have N := Lib.hid (all_take hb HN.out hok)
          rw [hok] at KD
          obtain rfl : n = 1 := by
            rcases hr with h | h
            · exact h.2.2
            · have := isDg_iff.1 hok; omega
          replace hb := Lib.hid hb
          clear hr hok HN
          go_wp2_with (go_at_call 43; refine (KD _).mono ?_; rintro e w' ⟨rfl, rfl⟩)
          go_roundg g
          case measure => omega
          case rel => exact ⟨k + 1, by omega, N, rfl⟩
        · simp only [Bool.not_eq_true] at hok
          rw [hok] at KD
          obtain rfl : q = false := Q1.out (all_bad hb hok)
          replace hb := Lib.hid hb
          clear hr hok HN
          go_wp2_with (go_at_call 43; refine (KD _).mono ?_; rintro e w' ⟨rfl, rfl⟩)
          go_ret
          exact ⟨rfl, below_iter _ _ _⟩
/-- What Int hands back. -/
def outI (x : Int × Int) : Value := .tuple #[.int .i64 x.1, .int .i64 x.2]
theorem atoi_ok {l : L8} {v : Int} (h : Lib.atoiAll l = .ok v) (w : World) (hl : l.length ≤ 100000) : Calls Tryd.prog 38 #[str l] w fun e w' => e = .returned (.tuple #[.int .i64 v, .nilIface]) ∧ Below w.heap.size w w' := by
  refine (Tryd.strconv_Atoi_ok (sb l) (by rw [sb_size]; omega) v h w).mono ?_
  rintro e w' ⟨rfl, hw⟩
  refine ⟨rfl, ?_⟩
  rcases hw with rfl | ⟨t, rfl⟩
  · exact Below.refl _ _
  · exact Joins.below_bytesWorld _ w _ t (Nat.le_refl _)
theorem atoi_range {l : L8} (h : Lib.atoiAll l = .range) (w : World) (hg : GW w) (hl : l.length ≤ 100000) : Calls Tryd.prog 38 #[str l] w fun e w' => ∃ N, e = .returned (.tuple #[.int .i64 (Lib.atoiSat l), .iface 74 (.pointer (some ⟨N, 0, none⟩))]) ∧ Below w.heap.size w w' := by
  obtain ⟨_, ⟨ev, he, hv⟩, _⟩ := hg
  refine (Tryd.strconv_Atoi_range (sb l) (by rw [sb_size]; omega) h ev w he hv).mono ?_
  rintro e w' ⟨N, rfl, _, _, hb⟩
  exact ⟨N, rfl, hb⟩
set_option maxRecDepth 100000 in
set_option maxHeartbeats 1000000 in
theorem int_any (l : L8) (w : World) (hg : GW w) (hl : l.length ≤ 100000) :
    Calls Tryd.prog 18 #[str l] w (RetV w (outI (intL l))) := by
  have K := isDecimal_any l w (by omega)
  by_cases hd : isDec l = true
  · rw [hd] at K
    have A := atoi_dec hd
    have R : intL l = if neg l then (if valF 0 (mag l) ≤ 9223372036854775808 then (-(valF 0 (mag l) : Int), 0) else (0, 17)) else (if valF 0 (mag l) < 9223372036854775808 then ((valF 0 (mag l) : Int), 0) else (0, 17)) := by
      rw [intL, if_pos hd]
    have C : (∃ v, Lib.atoiAll l = .ok v ∧ intL l = (v, 0)) ∨ (Lib.atoiAll l = .range ∧ intL l = (0, 17)) := by
      rw [A, R]
      repeat' split
      all_goals simp
    replace hd := Lib.hid hd
    clear A R
    rcases C with ⟨v, h1, h2⟩ | ⟨h1, h2⟩
    · rw [h2]
      have J := fun ww => atoi_ok h1 ww hl
      replace h1 := Lib.hid h1
      replace h2 := Lib.hid h2
      unfold outI
      go_enter Tryd.func18, Tryd.ntmps18
      go_wp2_with (first
        | (go_at_call 37; refine K.mono ?_; rintro e w1 ⟨rfl, b1⟩)
        | (go_at_call 38; refine (J _).mono ?_; rintro e w2 ⟨rfl, b2⟩))
      go_ret2
      exact ⟨rfl, b1.trans (b2.mono b1.size)⟩
    · rw [h2]
      replace h2 := Lib.hid h2
      have J := fun ww hh => atoi_range h1 ww hh hl
      unfold outI
      go_enter Tryd.func18, Tryd.ntmps18
      go_wp2_with (first
        | (go_at_call 37; refine K.mono ?_; rintro e w1 ⟨rfl, b1⟩)
        | (go_at_call 38; refine (J _ (hg.below b1)).mono ?_; rintro e w2 ⟨N, rfl, b2⟩))
      go_ret2
      exact ⟨rfl, b1.trans (b2.mono b1.size)⟩
  · simp only [Bool.not_eq_true] at hd
    rw [hd] at K
    rw [intL_bad hd]
    replace hd := Lib.hid hd
    unfold outI
    go_enter Tryd.func18, Tryd.ntmps18
    go_wp2_with (go_at_call 37; refine K.mono ?_; rintro e w1 ⟨rfl, b1⟩)
    go_ret2
    exact ⟨rfl, b1⟩
end Go.Proofs.YtblcigddinmiaaaDoor
