/- Contract of the reference's Join. Conditions: bounds on the lengths. -/
import Derived.Test.YtblcigddinmiaaaDoorJoinB5
namespace Go.Proofs.YtblcigddinmiaaaDoor
open Go.ChangeShapes Go.WideShapes Go.ChangeAt Go.RowKit
theorem add_any (a b : L8) (h : a.length + b.length ≤ 9223372036854775807) : ∀ ww : World, (Op.stringOp .add ⟨a.toArray⟩ ⟨b.toArray⟩).run Tryd.prog ww = .ok (.string ⟨(a ++ b).toArray⟩) ww := by
  intro ww
  rw [run_string_add_sum ww _ _ (by rw [sb_size, sb_size]; exact h), ByteArray.mk_append_mk]
theorem join_snoc (c : UInt8) (xs : List L8) (x : L8) (h : xs ≠ []) : Lib.join (xs ++ [x]) [c] = Lib.join xs [c] ++ [c] ++ x := by
  cases xs with
  | nil => exact absurd rfl h
  | cons y ys =>
    rw [List.cons_append, Lib.join_cons, Lib.join_cons]
    simp [Lib.joinTail]
theorem join_first (c : UInt8) (x : L8) : Lib.join ([] ++ [x]) [c] = x := by rw [List.nil_append, Lib.join_one]
theorem join_le (c : UInt8) (y : List L8) : (Lib.join y [c]).length ≤ wl y := by
  cases y with
  | nil => simp [Lib.join_nil]
  | cons x r => have := join_len c (y := x :: r) (by simp); omega
theorem isL_end {y : List L8} (h : y.all isW = true) (h0 : ¬ y.length = 0) : isL y = true := by
  rw [isL, h]; simp; omega
set_option maxRecDepth 100000 in
set_option maxHeartbeats 4000000 in
theorem rjoin_any (v : Value) (ll : List (List L8)) (w : World) (hv : LL w v ll) (hF : Fits ll) :
    Calls Tryd.prog 17 #[v] w fun e w' => e = .returned (.tuple #[str (joinR ll).1, .int .i64 (joinR ll).2]) ∧ w = w' := by
  obtain ⟨a, cap, rfl, hm, HC⟩ := hv.open
  clear hv
  obtain ⟨q, hq⟩ : ∃ q, joinR ll = q := ⟨_, rfl⟩
  rw [hq]
  replace hq := Lib.hid hq
  have HF := Lib.hid hF
  have hll := hF.1
  have htl := tl_le hF
  clear hF
  go_enter Tryd.func17, Tryd.ntmps17
  go_wp2
  go_loopg [4, 5] ll.length (fun g s4 s5 wx => ∃ (i : Nat) (acc : L8), s4 = str acc ∧ s5 = .int .i64 i ∧ i + g = ll.length ∧ Hid ((ll.take i).all isL = true) ∧ Hid (acc = textL (ll.take i)) ∧ w = wx)
  case atStart => exact ⟨0, [], rfl, rfl, by omega, Lib.hid rfl, Lib.hid rfl, rfl⟩
  case round =>
    obtain ⟨i, acc, rfl, rfl, hg, HN, HM, rfl⟩ := hrel
    have hacc : acc.length ≤ 1000010000000000 := by
      rw [HM.out, textL_len _ HN.out]; exact Nat.le_trans (take_le_tl _) htl
    cases gk with
    | zero =>
      have h : ¬ ((i : Int) < (ll.length : Int)) := by omega
      have HA := HN.out
      have HT := HM.out
      rw [List.take_of_length_le (by omega)] at HA HT
      have hlen := textL_len ll HA
      rw [← HT] at hlen
      clear HN HM
      by_cases c : 32768 < acc.length
      · have t : ((32768 : Int) < (acc.length : Int)) := by omega
        have Q := hq.out
        rw [joinR_long HA (by omega)] at Q
        subst Q
        clear c HA HT
        go_wp2
        go_ret2
        exact ⟨rfl, rfl⟩
      · have t : ¬ ((32768 : Int) < (acc.length : Int)) := by omega
        have Q := hq.out
        rw [joinR_ok HA (by omega), ← HT] at Q
        subst Q
        clear c HA HT
        go_wp2
        go_ret2
        exact ⟨rfl, rfl⟩
    | succ g =>
      have h : ((i : Int) < (ll.length : Int)) := by omega
      obtain ⟨y, hy, htk, hmem⟩ := at_take (l := ll) (k := i) (by omega)
      obtain ⟨b1, o1, x1, rfl, _, c1, r1⟩ := HC.out.rd (Below.refl _ _) hy
      obtain ⟨hyl, hys⟩ := HF.out.2 y hmem
      have hwl : wl y ≤ 10000100000 := wl_le hyl hys
      obtain ⟨a2, f2, rfl, ⟨hm2, _⟩, HD⟩ := r1.openS
      clear r1
      replace hys := Lib.hid hys
      by_cases h0 : y.length = 0
      · have e0 : ((y.length : Int) == 0) = true := by simp; exact List.length_eq_zero_iff.1 h0
        have Q := hq.out
        rw [joinR_bad (allL_bad hy (by simp [isL, h0]))] at Q
        subst Q
        replace hy := Lib.hid hy
        replace htk := Lib.hid htk
        clear HN HM
        go_wp2
        go_ret2
        exact ⟨rfl, rfl⟩
      · have e0 : ((y.length : Int) == 0) = false := by rw [← Bool.not_eq_true]; intro e; exact h0 (by have := eq_of_beq e; omega)
        have h0' := Lib.hid h0
        replace hy := Lib.hid hy
        clear h0
        go_wp2
        go_loopg [4, 6] y.length (fun g2 s4 s6 wx => ∃ (k : Nat) (u : L8), s4 = str u ∧ s6 = .int .i64 k ∧ k + g2 = y.length ∧ Hid ((y.take k).all isW = true) ∧ Hid (u = acc ++ Lib.join (y.take k) [32]) ∧ w = wx)
        case atStart => exact ⟨0, acc, rfl, rfl, by omega, Lib.hid rfl, Lib.hid (by simp [Lib.join_nil]), rfl⟩
        case round =>
          obtain ⟨k, u, rfl, rfl, hg2, HW, HU, rfl⟩ := hrel
          have hul : u.length ≤ 1000020000200000 := by
            rw [HU.out, List.length_append]
            have h5 := join_le 32 (y.take k)
            have h6 := take_le_wl (y := y) k
            omega
          cases gk with
          | zero =>
            have hk : ¬ ((k : Int) < (y.length : Int)) := by omega
            have HA := HW.out
            have HT := HU.out
            rw [List.take_of_length_le (by omega)] at HA HT
            have hi := isL_end HA h0'.out
            have N := Lib.hid (all_takeL hy.out HN.out hi)
            have T := Lib.hid (show u ++ [10] = textL (ll.take (i + 1)) by rw [htk, textL_snoc, lineT, ← HM.out, HT, List.append_assoc])
            have A := add_any u [10] (by simp; omega)
            replace HA := Lib.hid HA
            replace HT := Lib.hid HT
            replace hi := Lib.hid hi
            replace htk := Lib.hid htk
            clear HW HU HM HN
            go_wp2
            go_roundg g
            case measure => omega
            case rel => exact ⟨i + 1, u ++ [10], rfl, by go_num, by omega, N, T, rfl⟩
          | succ g2 =>
            have hk : ((k : Int) < (y.length : Int)) := by omega
            obtain ⟨z, hz, htz, hmz⟩ := at_take (l := y) (k := k) (by omega)
            obtain ⟨b3, o3, rfl, _, c3⟩ := HD.out.rd (Below.refl _ _) hz
            have hzl := hys.out z hmz
            have K := fun ww => rword_any z ww (by omega)
            replace htk := Lib.hid htk
            cases hw : isW z with
            | false =>
              simp only [hw] at K
              have Q := hq.out
              rw [joinR_bad (allL_bad hy.out (isL_bad hz hw))] at Q
              subst Q
              replace hw := Lib.hid hw
              replace hz := Lib.hid hz
              replace htz := Lib.hid htz
              clear HW HU
              go_wp2_with (go_at_call 32; refine (K _).mono ?_; rintro e w1 ⟨rfl, rfl⟩)
              go_ret2
              exact ⟨rfl, rfl⟩
            | true =>
              simp only [hw] at K
              have N := Lib.hid (all_takeS hz HW.out hw)
              replace hw := Lib.hid hw
              replace hz := Lib.hid hz
              by_cases hk0 : k = 0
              · have hkz : ¬ ((0 : Int) < (k : Int)) := by omega
                have A := add_any u z (by omega)
                have T := Lib.hid (show u ++ z = acc ++ Lib.join (y.take (k + 1)) [32] by rw [HU.out, htz, hk0, List.take_zero, join_first, Lib.join_nil, List.append_nil])
                replace htz := Lib.hid htz
                clear HW HU hk0
                go_wp2_with (go_at_call 32; refine (K _).mono ?_; rintro e w1 ⟨rfl, rfl⟩)
                go_roundg g2
                case measure => omega
                case rel => exact ⟨k + 1, u ++ z, rfl, by go_num, by omega, N, T, rfl⟩
              · have hkp : ((0 : Int) < (k : Int)) := by omega
                have hkn : 0 < k := by omega
                have A1 := add_any u [32] (by simp; omega)
                have T := show (u ++ [32]) ++ z = acc ++ Lib.join (y.take (k + 1)) [32] by
                  have hne : y.take k ≠ [] := by
                    intro e
                    have := congrArg List.length e
                    rw [List.length_take, List.length_nil] at this; omega
                  rw [HU.out, htz, join_snoc 32 _ _ hne]
                  simp
                have hu1 : (u ++ [32]).length ≤ 1000020000200001 := by simp; omega
                obtain ⟨u1, hu⟩ : ∃ u1, u ++ [32] = u1 := ⟨_, rfl⟩
                rw [hu] at A1 T hu1
                have A2 := add_any u1 z (by omega)
                replace hu := Lib.hid hu
                replace T := Lib.hid T
                replace htz := Lib.hid htz
                clear HW HU hk0
                go_wp2_with (go_at_call 32; refine (K _).mono ?_; rintro e w1 ⟨rfl, rfl⟩)
                go_roundg g2
                case measure => omega
                case rel => exact ⟨k + 1, u1 ++ z, rfl, by go_num, by omega, N, T, rfl⟩
end Go.Proofs.YtblcigddinmiaaaDoor
