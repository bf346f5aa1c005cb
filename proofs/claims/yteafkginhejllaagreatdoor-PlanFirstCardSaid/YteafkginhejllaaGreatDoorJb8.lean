/- The reference's Join for lines whose words may have any length; slices of lines cut and put together. Conditions: bounds on the numbers of lines and words. -/
import Derived.Test.YteafkginhejllaaGreatDoorS8
import Derived.Test.YteafkginhejllaaGreatDoorE8
namespace Go.Proofs.YteafkginhejllaaGreatDoor
open Go.ChangeShapes Go.WideShapes Go.ChangeAt Go.RowKit
def FitsB (ll : List (List L8)) : Prop := ll.length ≤ 100000 ∧ ∀ l ∈ ll, l.length ≤ 100000 ∧ ∀ s ∈ l, s.length ≤ 9223372036854775807
theorem word_few {z : L8} (h : isW z = true) : z.length ≤ 100000 := by
  simp only [isW, Bool.and_eq_true, decide_eq_true_eq] at h
  omega
theorem words_few {y : List L8} (h : y.all isW = true) : ∀ s ∈ y, s.length ≤ 100000 := fun s hs => word_few (List.all_eq_true.1 h s hs)
theorem FitsB.take {ll : List (List L8)} (h : FitsB ll) {k : Nat} (ha : (ll.take k).all isL = true) : Fits (ll.take k) := by
  refine ⟨by rw [List.length_take]; have := h.1; omega, fun l hl => ⟨(h.2 l (List.mem_of_mem_take hl)).1, ?_⟩⟩
  have := List.all_eq_true.1 ha l hl
  simp only [isL, Bool.and_eq_true] at this
  exact words_few (by first | exact this.1 | exact this.2)
set_option maxRecDepth 100000 in
set_option maxHeartbeats 4000000 in
theorem rjoin_big (v : Value) (ll : List (List L8)) (w : World) (hv : LL w v ll) (hF : FitsB ll) :
    Calls Tryz.prog 16 #[v] w fun e w' => e = .returned (.tuple #[str (joinR ll).1, .int .i64 (joinR ll).2]) ∧ w = w' := by
  obtain ⟨a, cap, rfl, hm, HC⟩ := hv.open
  clear hv
  obtain ⟨q, hq⟩ : ∃ q, joinR ll = q := ⟨_, rfl⟩
  rw [hq]
  replace hq := Lib.hid hq
  have HF := Lib.hid hF
  have hll := hF.1
  clear hF
  go_enter Tryz.func16, Tryz.ntmps16
  go_wp2
  go_loopg [4, 5] ll.length (fun g s4 s5 wx => ∃ (i : Nat) (acc : L8), s4 = str acc ∧ s5 = .int .i64 i ∧ i + g = ll.length ∧ Hid ((ll.take i).all isL = true) ∧ Hid (acc = textL (ll.take i)) ∧ w = wx)
  case atStart => exact ⟨0, [], rfl, rfl, by omega, Lib.hid rfl, Lib.hid rfl, rfl⟩
  case round =>
    obtain ⟨i, acc, rfl, rfl, hg, HN, HM, rfl⟩ := hrel
    have hacc : acc.length ≤ 1000010000000000 := by
      rw [HM.out, textL_len _ HN.out]; exact tl_le (HF.out.take HN.out)
    cases gk with
    | zero =>
      have h : ¬ ((i : Int) < (ll.length : Int)) := by omega
      have HA := HN.out
      have HT := HM.out
      rw [List.take_of_length_le (by omega)] at HA HT
      have hlen := textL_len ll HA
      rw [← HT] at hlen
      clear HN HM
      by_cases c : 32768 < acc.length
      · have t : ((32768 : Int) < (acc.length : Int)) := by omega
        have Q := hq.out
        rw [joinR_long HA (by omega)] at Q
        subst Q
        clear c HA HT
        go_wp2
        go_ret2
        exact ⟨rfl, rfl⟩
      · have t : ¬ ((32768 : Int) < (acc.length : Int)) := by omega
        have Q := hq.out
        rw [joinR_ok HA (by omega), ← HT] at Q
        subst Q
        clear c HA HT
        go_wp2
        go_ret2
        exact ⟨rfl, rfl⟩
    | succ g =>
      have h : ((i : Int) < (ll.length : Int)) := by omega
      obtain ⟨y, hy, htk, hmem⟩ := at_take (l := ll) (k := i) (by omega)
      obtain ⟨b1, o1, x1, rfl, _, c1, r1⟩ := HC.out.rd (Below.refl _ _) hy
      obtain ⟨hyl, hys⟩ := HF.out.2 y hmem
      obtain ⟨a2, f2, rfl, ⟨hm2, _⟩, HD⟩ := r1.openS
      clear r1
      replace hys := Lib.hid hys
      by_cases h0 : y.length = 0
      · have e0 : ((y.length : Int) == 0) = true := by simp; exact List.length_eq_zero_iff.1 h0
        have Q := hq.out
        rw [joinR_bad (allL_bad hy (by simp [isL, h0]))] at Q
        subst Q
        replace hy := Lib.hid hy
        replace htk := Lib.hid htk
        clear HN HM
        go_wp2
        go_ret2
        exact ⟨rfl, rfl⟩
      · have e0 : ((y.length : Int) == 0) = false := by rw [← Bool.not_eq_true]; intro e; exact h0 (by have := eq_of_beq e; omega)
        have h0' := Lib.hid h0
        replace hy := Lib.hid hy
        clear h0
        go_wp2
        go_loopg [4, 6] y.length (fun g2 s4 s6 wx => ∃ (k : Nat) (u : L8), s4 = str u ∧ s6 = .int .i64 k ∧ k + g2 = y.length ∧ Hid ((y.take k).all isW = true) ∧ Hid (u = acc ++ Lib.join (y.take k) [32]) ∧ w = wx)
        case atStart => exact ⟨0, acc, rfl, rfl, by omega, Lib.hid rfl, Lib.hid (by simp [Lib.join_nil]), rfl⟩
        case round =>
          obtain ⟨k, u, rfl, rfl, hg2, HW, HU, rfl⟩ := hrel
          have hul : u.length ≤ 1000020000200000 := by
            rw [HU.out, List.length_append]
            have h5 := join_le 32 (y.take k)
            have h6 : wl (y.take k) ≤ 10000100000 := wl_le (m := 100000) (n := 100000) (by rw [List.length_take]; have := hyl; omega) (words_few HW.out)
            omega
          cases gk with
          | zero =>
            have hk : ¬ ((k : Int) < (y.length : Int)) := by omega
            have HA := HW.out
            have HT := HU.out
            rw [List.take_of_length_le (by omega)] at HA HT
            have hi := isL_end HA h0'.out
            have N := Lib.hid (all_takeL hy.out HN.out hi)
            have T := Lib.hid (show u ++ [10] = textL (ll.take (i + 1)) by rw [htk, textL_snoc, lineT, ← HM.out, HT, List.append_assoc])
            have A := add_any u [10] (by simp; omega)
            replace HA := Lib.hid HA
            replace HT := Lib.hid HT
            replace hi := Lib.hid hi
            replace htk := Lib.hid htk
            clear HW HU HM HN
            go_wp2
            go_roundg g
            case measure => omega
            case rel => exact ⟨i + 1, u ++ [10], rfl, by go_num, by omega, N, T, rfl⟩
          | succ g2 =>
            have hk : ((k : Int) < (y.length : Int)) := by omega
            obtain ⟨z, hz, htz, hmz⟩ := at_take (l := y) (k := k) (by omega)
            obtain ⟨b3, o3, rfl, _, c3⟩ := HD.out.rd (Below.refl _ _) hz
            have hzl := hys.out z hmz
            have K := fun ww => rword_any z ww (by omega)
            replace htk := Lib.hid htk
            cases hw : isW z with
            | false =>
              simp only [hw] at K
              have Q := hq.out
              rw [joinR_bad (allL_bad hy.out (isL_bad hz hw))] at Q
              subst Q
              replace hw := Lib.hid hw
              replace hz := Lib.hid hz
              replace htz := Lib.hid htz
              clear HW HU
              go_wp2_with (go_at_call 44; refine (K _).mono ?_; rintro e w1 ⟨rfl, rfl⟩)
              go_ret2
              exact ⟨rfl, rfl⟩
            | true =>
              simp only [hw] at K
              have N := Lib.hid (all_takeS hz HW.out hw)
              have hz64 := word_few hw
              replace hw := Lib.hid hw
              replace hz := Lib.hid hz
              by_cases hk0 : k = 0
              · have hkz : ¬ ((0 : Int) < (k : Int)) := by omega
                have A := add_any u z (by omega)
                have T := Lib.hid (show u ++ z = acc ++ Lib.join (y.take (k + 1)) [32] by rw [HU.out, htz, hk0, List.take_zero, join_first, Lib.join_nil, List.append_nil])
                replace htz := Lib.hid htz
                clear HW HU hk0
                go_wp2_with (go_at_call 44; refine (K _).mono ?_; rintro e w1 ⟨rfl, rfl⟩)
                go_roundg g2
                case measure => omega
                case rel => exact ⟨k + 1, u ++ z, rfl, by go_num, by omega, N, T, rfl⟩
              · have hkp : ((0 : Int) < (k : Int)) := by omega
                have hkn : 0 < k := by omega
                have A1 := add_any u [32] (by simp; omega)
                have T := show (u ++ [32]) ++ z = acc ++ Lib.join (y.take (k + 1)) [32] by
                  have hne : y.take k ≠ [] := by
                    intro e
                    have := congrArg List.length e
                    rw [List.length_take, List.length_nil] at this; omega
                  rw [HU.out, htz, join_snoc 32 _ _ hne]
                  simp
                have hu1 : (u ++ [32]).length ≤ 1000020000200001 := by simp; omega
                obtain ⟨u1, hu⟩ : ∃ u1, u ++ [32] = u1 := ⟨_, rfl⟩
                rw [hu] at A1 T hu1
                have A2 := add_any u1 z (by omega)
                replace hu := Lib.hid hu
                replace T := Lib.hid T
                replace htz := Lib.hid htz
                clear HW HU hk0
                go_wp2_with (go_at_call 44; refine (K _).mono ?_; rintro e w1 ⟨rfl, rfl⟩)
                go_roundg g2
                case measure => omega
                case rel => exact ⟨k + 1, u1 ++ z, rfl, by go_num, by omega, N, T, rfl⟩
/-- A slice of lines: its values are slices, row by row. -/
theorem LL.vals {w : World} {v : Value} {l : List (List L8)} (h : LL w v l) : ∃ vs, RS w v vs ∧ RowsL w vs l ∧ (∀ x ∈ vs, x.oneCell' = true) ∧ vs.length = l.length := by
  obtain ⟨vs, h1, h2, h3⟩ := h
  refine ⟨vs, h1, ⟨h2, h3⟩, fun x hx => ?_, h2⟩
  obtain ⟨j, hj⟩ := List.mem_iff_getElem?.1 hx
  have hlt := (List.getElem?_eq_some_iff.1 hj).1
  obtain ⟨a, c, rfl⟩ := (h3 j x (l[j]'(by omega)) hj (List.getElem?_eq_getElem (by omega))).shape
  rfl
theorem RowsL.app {w : World} {vs us : List Value} {l m : List (List L8)} (h : RowsL w vs l) (g : RowsL w us m) : RowsL w (vs ++ us) (l ++ m) := by
  refine ⟨by simp [h.1, g.1], fun j x y hx hy => ?_⟩
  by_cases hj : j < vs.length
  · rw [List.getElem?_append_left hj] at hx
    rw [List.getElem?_append_left (by rw [← h.1]; exact hj)] at hy
    exact h.2 j x y hx hy
  · rw [List.getElem?_append_right (by omega)] at hx
    rw [List.getElem?_append_right (by rw [← h.1]; omega), ← h.1] at hy
    exact g.2 _ x y hx hy
theorem size_strs (ww : World) : (sizeOf (Tryz.prog.elem 39)).run Tryz.prog ww = .ok 1 ww := by
  have e : Tryz.prog.cellsOf (Tryz.prog.elem 39) = 1 := by kernel_rfl
  have hs : (Tryz.prog.info? (Tryz.prog.elem 39)).isSome = true := by kernel_rfl
  obtain ⟨i, hi⟩ := Option.isSome_iff_exists.1 hs
  rw [run_sizeOf ww hi, e]
/-- The first lines of a slice of lines. -/
theorem LL.cut {w : World} {v : Value} {l : List (List L8)} (h : LL w v l) (hl : 0 < l.length) : ∃ b off cap, v = .slice (some ⟨b, off, none⟩) l.length cap ∧ l.length ≤ 9223372036854775807 ∧ ∀ k : Nat, k ≤ l.length →
    (∀ ww : World, (Instr.slice 39 (.slice (some ⟨b, off, none⟩) l.length cap) none (some (.int .i64 (k : Int))) none).run Tryz.prog ww = .ok (.slice (some ⟨b, off, none⟩) k cap) ww) ∧ LL w (.slice (some ⟨b, off, none⟩) k cap) (l.take k) := by
  obtain ⟨vs, ⟨a, cap, rfl, ⟨m1, m2⟩, hc⟩, e, hr⟩ := h
  obtain ⟨b, off, rfl, _, _⟩ := hc 0 (vs[0]'(by omega)) (List.getElem?_eq_getElem (by omega))
  rw [e] at m1 m2 ⊢
  refine ⟨b, off, cap, rfl, m1, fun k hk => ⟨cut_to (P := Tryz.prog) (by kernel_rfl) size_strs hk m2, vs.take k, ⟨_, _, by rw [List.length_take, e, Nat.min_eq_left hk], ⟨by rw [List.length_take]; omega, by rw [List.length_take]; omega⟩, fun j x hx => ?_⟩, by rw [List.length_take, List.length_take, e], fun j x y hx hy => ?_⟩⟩
  · rw [List.getElem?_take] at hx
    split at hx
    · exact hc j x hx
    · cases hx
  · rw [List.getElem?_take] at hx hy
    split at hx
    · rename_i hj
      rw [if_pos hj] at hy
      exact hr j x y hx hy
    · cases hx
end Go.Proofs.YteafkginhejllaaGreatDoor
