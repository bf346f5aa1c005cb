/- Contracts of the reference's Out and Legs, and of the comparison of two lists. Conditions: none beyond the readings. -/
import Derived.Test.YtdnadlpkeinnfaaDoorRneed6
namespace Go.Proofs.YtdnadlpkeinnfaaDoor
open Go.ChangeShapes Go.WideShapes Go.ChangeAt Go.RowKit
theorem four_at (n : Nat) (h : n < 4) : ([0, 1, 2, 3] : List Int).drop n = (n : Int) :: ([0, 1, 2, 3] : List Int).drop (n + 1) := by
  match n, h with
  | 0, _ => rfl
  | 1, _ => rfl
  | 2, _ => rfl
  | 3, _ => rfl
  | n + 4, h => omega
theorem four_end : ([0, 1, 2, 3] : List Int).drop 4 = [] := rfl
set_option maxRecDepth 100000 in
set_option maxHeartbeats 4000000 in
theorem rout_any (k i p : Int) (w : World) : Calls Tryd.prog 17 #[.int .i64 k, .int .i64 i, .int .i64 p] w fun e w' => e = .returned (outV (outF k i p tab)) ∧ w = w' := by
  rw [← out_eq]
  obtain ⟨⟨r, b⟩, hr⟩ : ∃ q, outG k i p [0, 1, 2, 3] = q := ⟨_, rfl⟩
  rw [hr]
  have hr0 : Hid (outG k i p (([0, 1, 2, 3] : List Int).drop 0) = (r, b)) := Lib.hid hr
  clear hr
  go_enter Tryd.func17, Tryd.ntmps17
  go_wp2
  go_loopg [8] 4 (fun g s8 wx => ∃ n : Nat, n + g = 4 ∧ s8 = .int .i64 n ∧ Hid (outG k i p (([0, 1, 2, 3] : List Int).drop n) = (r, b)) ∧ w = wx)
  case atStart => exact ⟨0, rfl, rfl, hr0, rfl⟩
  case round =>
    obtain ⟨n, hn, rfl, E, rfl⟩ := hrel
    clear hr0
    cases gk with
    | zero =>
      obtain rfl : n = 4 := by omega
      have E' := E.out
      rw [four_end] at E'
      obtain ⟨rfl, rfl⟩ := Prod.mk.inj E'
      clear E E' hn
      go_wp2
      go_ret2
      exact ⟨rfl, rfl⟩
    | succ g =>
      have hz : (n : Int) < 4 := by omega
      have E' := E.out
      rw [four_at n (by omega), outG, need_eq] at E'
      clear E
      replace hn := Lib.hid hn
      have K := rneed_any k i n w
      obtain ⟨⟨d, ok⟩, hq⟩ : ∃ q, needF k i n tab = q := ⟨_, rfl⟩
      rw [hq] at E' K
      clear hq
      unfold outV at K
      simp only at K
      cases ok with
      | false =>
        rw [if_neg (by simp)] at E'
        replace E' := Lib.hid E'
        go_wp2_with (go_at_call 19; refine K.mono ?_; rintro e w2 ⟨rfl, rfl⟩)
        go_roundg g
        case measure => omega
        case rel => exact ⟨n + 1, by have := hn.out; omega, by go_num, E', rfl⟩
      | true =>
        cases m1 : (d == 0)
        · cases m2 : (d == p)
          · rw [if_neg (by simp at m1 m2; simp [m1, m2])] at E'
            replace E' := Lib.hid E'
            go_wp2_with (go_at_call 19; refine K.mono ?_; rintro e w2 ⟨rfl, rfl⟩)
            go_roundg g
            case measure => omega
            case rel => exact ⟨n + 1, by have := hn.out; omega, by go_num, E', rfl⟩
          · rw [if_pos (by simp at m1 m2; simp [m2])] at E'
            obtain ⟨rfl, rfl⟩ := Prod.mk.inj E'
            clear E'
            go_wp2_with (go_at_call 19; refine K.mono ?_; rintro e w2 ⟨rfl, rfl⟩)
            go_ret2
            exact ⟨rfl, rfl⟩
        · rw [if_pos (by simp at m1; simp [m1])] at E'
          obtain ⟨rfl, rfl⟩ := Prod.mk.inj E'
          clear E'
          go_wp2_with (go_at_call 19; refine K.mono ?_; rintro e w2 ⟨rfl, rfl⟩)
          go_ret2
          exact ⟨rfl, rfl⟩
set_option maxRecDepth 100000 in
set_option maxHeartbeats 4000000 in
theorem rlegs_any (k i : Int) (w : World) : Calls Tryd.prog 12 #[.int .i64 k, .int .i64 i] w (RetL w (legsF k i tab)) := by
  rw [← legs_eq]
  obtain ⟨q, hr⟩ : ∃ q, legsG k i [0, 1, 2, 3] = q := ⟨_, rfl⟩
  rw [hr]
  have hr0 : Hid ([] ++ legsG k i (([0, 1, 2, 3] : List Int).drop 0) = q) := Lib.hid hr
  clear hr
  go_enter Tryd.func12, Tryd.ntmps12
  go_wp2
  go_loopg [5, 6] 4 (fun g s5 s6 wx => ∃ (n : Nat) (acc : List Int), n + g = 4 ∧ s6 = .int .i64 n ∧ acc.length ≤ n ∧ Hid (acc ++ legsG k i (([0, 1, 2, 3] : List Int).drop n) = q) ∧ wx.ownsRow w.heap.size 3 1 s5 acc.length (intsV acc) ∧ Below w.heap.size w wx)
  case atStart => exact ⟨0, [], rfl, rfl, Nat.le_refl _, hr0, World.ownsRow_nil _ _ _ _, Below.refl _ _⟩
  case round =>
    obtain ⟨n, acc, hn, rfl, hal, E, ho, hbw⟩ := hrel
    clear hr0
    have hsz := hbw.size
    cases gk with
    | zero =>
      obtain rfl : n = 4 := by omega
      have E' := E.out
      rw [four_end, legsG, List.append_nil] at E'
      subst E'
      clear E hn
      go_wp2
      go_ret
      exact ⟨_, rfl, RS.own ho, hbw⟩
    | succ g =>
      have hz : (n : Int) < 4 := by omega
      have hal2 : acc.length ≤ 4 := by omega
      have E' := E.out
      rw [four_at n (by omega), legsG, need_eq] at E'
      clear E
      replace hn := Lib.hid hn
      replace hal := Lib.hid hal
      have K := rneed_any k i n wr
      obtain ⟨⟨d, ok⟩, hq⟩ : ∃ q, needF k i n tab = q := ⟨_, rfl⟩
      rw [hq] at E' K
      clear hq
      unfold outV at K
      simp only at K
      cases ok with
      | false =>
        rw [if_neg (by simp)] at E'
        replace E' := Lib.hid E'
        go_wp2_with (go_at_call 19; refine K.mono ?_; rintro e w2 ⟨rfl, rfl⟩)
        go_roundg g
        case measure => omega
        case rel => exact ⟨n + 1, acc, by have := hn.out; omega, by go_num, by have := hal.out; omega, E', ho, hbw⟩
      | true =>
        rw [if_pos rfl] at E'
        have E2 : Hid ((acc ++ [(n : Int)]) ++ legsG k i (([0, 1, 2, 3] : List Int).drop (n + 1)) = q) := Lib.hid (by simpa using E')
        clear E'
        go_wp2_with (first
          | (go_at_call 19; refine K.mono ?_; rintro e w2 ⟨rfl, rfl⟩)
          | (at_builtin
             refine wpList_push _ rfl _ _ 24 rfl w.heap.size 3 (.int .i64 0) 1 8 Tryd.underlying24 info_int rfl (by omega) u5 acc.length _ rfl ho [.int .i64 n] rfl rfl (by simp [Value.oneCell']) (by omega) (by omega) hsz ?_
             intro v3 w3 p3 gr3 nb3
             have hb3 := below_grown hbw gr3 ho (Nat.le_refl _) hsz
             replace p3 := Lib.hid p3
             clear nb3 gr3))
        go_roundg g
        case measure => omega
        case rel => exact ⟨n + 1, acc ++ [(n : Int)], by have := hn.out; omega, by go_num, by have := hal.out; simp; omega, E2, by rw [intsV_snoc, List.length_append]; exact p3.out, hb3⟩
set_option maxHeartbeats 1000000 in
theorem same_any (v u : Value) (l : List Int) (w : World) (hv : RS w v (intsV l)) (hu : RS w u (intsV l)) :
    Calls Tryd.prog 10 #[v, u] w (RetB w true) := by
  obtain ⟨a, cap, rfl, hm, HC⟩ := hv.open
  obtain ⟨b, cap', rfl, _, HD⟩ := hu.open
  clear hv hu
  go_enter Tryd.func10, Tryd.ntmps10
  go_wp2
  go_loopg [13] l.length (fun g s13 wx => ∃ k : Nat, k + g = l.length ∧ s13 = .int .i64 k ∧ Below w.heap.size w wx)
  case atStart => exact ⟨0, by omega, rfl, Below.refl _ _⟩
  case round =>
    obtain ⟨k, hk, rfl, hbw⟩ := hrel
    cases gk with
    | zero =>
      have hz : ¬ ((k : Int) < (l.length : Int)) := by omega
      replace hk := Lib.hid hk
      go_wp2
      go_ret
      exact ⟨rfl, hbw⟩
    | succ g =>
      have hz : (k : Int) < (l.length : Int) := by omega
      obtain ⟨y, hy, _⟩ := at_take (l := l) (k := k) (by omega)
      obtain ⟨b1, o1, rfl, _, c1⟩ := HC.out.rd hbw hy
      obtain ⟨b2, o2, rfl, _, c2⟩ := HD.out.rd hbw hy
      replace hk := Lib.hid hk
      replace hy := Lib.hid hy
      go_wp2
      go_quiet (fail)
      go_wp2
      go_roundg g
      case measure => omega
      case rel => exact ⟨k+1, by have := hk.out; omega, by go_num, bdrew hbw _⟩
end Go.Proofs.YtdnadlpkeinnfaaDoor
