/- The walk of NumOrders: the sum of the list turned round, or in the opposite order, is the sum. -/
import Derived.Test.YtnpmndophocgmaaLaws1
namespace Go.Proofs.Ytnpmndophocgmaa
open Go.ChangeShapes Go.WideShapes Go.ChangeAt Go.RowKit
theorem info_int : (Try.prog.info? 3).map (fun i => (i.zero, i.size, i.bytes)) = some (some (.int .i64 0), 1, 8) := by kernel_rfl
/-- The list turned round by c places, its first k elements. -/
def turn (l : List Int) (c k : Nat) : List Int := (List.range k).map fun i => l.getD ((i + c) % l.length) 0
theorem turn_succ (l : List Int) (c k : Nat) : turn l c (k+1) = turn l c k ++ [l.getD ((k + c) % l.length) 0] := by simp [turn, List.range_succ]
def back (l : List Int) (k : Nat) : List Int := (List.range k).map fun i => l.getD (l.length - 1 - i) 0
theorem back_succ (l : List Int) (k : Nat) : back l (k+1) = back l k ++ [l.getD (l.length - 1 - k) 0] := by simp [back, List.range_succ]
theorem back_length (l : List Int) (k : Nat) : (back l k).length = k := by simp [back]
theorem turn_length (l : List Int) (c k : Nat) : (turn l c k).length = k := by simp [turn]
theorem back_all (l : List Int) : back l l.length = l.reverse := by
  apply List.ext_getElem
  · simp [back]
  · intro i h1 h2
    simp only [List.length_reverse] at h2
    simp only [back, List.getElem_map, List.getElem_range, List.getElem_reverse]
    rw [List.getD_eq_getElem?_getD, List.getElem?_eq_getElem (by omega)]; rfl
theorem sum_rev (l : List Int) : l.reverse.sum = l.sum := by
  induction l with
  | nil => rfl
  | cons a l ih => rw [List.reverse_cons, List.sum_append, List.sum_singleton, List.sum_cons, ih]; omega
theorem turn_all (l : List Int) (c : Nat) (h : c < l.length) : turn l c l.length = l.drop c ++ l.take c := by
  apply List.ext_getElem
  · simp [turn]; omega
  · intro i h1 h2
    have h1' : i < l.length := by simpa [turn] using h1
    have hm : (i + c) % l.length < l.length := Nat.mod_lt _ (by omega)
    simp only [turn, List.getElem_map, List.getElem_range]
    rw [List.getD_eq_getElem?_getD, List.getElem?_eq_getElem hm]
    simp only [Option.getD_some]
    by_cases hc : i < l.length - c
    · rw [List.getElem_append_left (by simp; omega), List.getElem_drop]
      congr 1
      rw [Nat.mod_eq_of_lt (by omega)]; omega
    · rw [List.getElem_append_right (by simp; omega), List.getElem_take]
      congr 1
      simp only [List.length_drop]
      rw [Nat.mod_eq_sub_mod (by omega), Nat.mod_eq_of_lt (by omega)]; omega
theorem turn_sum (l : List Int) (c : Nat) (h : c < l.length) : (turn l c l.length).sum = l.sum := by
  rw [turn_all l c h, List.sum_append]
  have : l.sum = (l.take c).sum + (l.drop c).sum := by rw [← List.sum_append, List.take_append_drop]
  omega
theorem turn_mem (l : List Int) (c : Nat) (h : c < l.length) : ∀ n ∈ turn l c l.length, n ∈ l := by
  intro n hn
  rw [turn_all l c h] at hn
  rcases List.mem_append.1 hn with h | h
  · exact List.mem_of_mem_drop h
  · exact List.mem_of_mem_take h
theorem back_mem (l : List Int) : ∀ n ∈ back l l.length, n ∈ l := by
  intro n hn
  rw [back_all] at hn
  exact List.mem_reverse.1 hn
theorem RS.cell {w : World} {a : Option Addr} {l : List Int} (h : ∀ (j : Nat) x, (intsV l)[j]? = some x → ∃ b off, a = some ⟨b, off, none⟩ ∧ b < w.heap.size ∧ w.cell? ⟨b, off + j, none⟩ = some x) (hl : 0 < l.length) :
    ∃ b off, a = some ⟨b, off, none⟩ ∧ b < w.heap.size ∧ ∀ j, j < l.length → w.cell? ⟨b, off + j, none⟩ = some (.int .i64 (l.getD j 0)) := by
  obtain ⟨b, off, ha, hb, _⟩ := RS.get h (k := 0) (by rw [intsV_length]; exact hl)
  refine ⟨b, off, ha, hb, fun j hj => ?_⟩
  obtain ⟨b', off', ha', _, hc⟩ := RS.get h (k := j) (by rw [intsV_length]; exact hj)
  rw [ha] at ha'
  injection ha' with ha'
  injection ha' with h1 h2
  subst h1 h2
  rw [hc, intsV_at _ _ hj, List.getD_eq_getElem?_getD, List.getElem?_eq_getElem hj]; rfl
set_option maxHeartbeats 1000000 in
theorem orders_any (v : Value) (l : List Int) (n : Int) (w : World) (hv : RS w v (intsV l)) (hi : ∀ n ∈ l, I64 n) (hn : I64 n) :
    Calls Try.prog 8 #[v, .int .i64 n] w fun e w' => e = .returned (.bool true) ∧ Below w.heap.size w w' := by
  have hv' := hv
  obtain ⟨a, cap, rfl, hm, hc⟩ := hv'
  obtain ⟨n1, n2⟩ := hn
  have HV := Lib.hid hv
  have HI := Lib.hid hi
  have HC := Lib.hid hc
  clear hv hi hc
  simp only [intsV, List.length_map] at hm HV ⊢
  by_cases hl : 300 < l.length ∨ l.length = 0
  · have hl' : (decide ((300 : Int) < (l.length : Int)) = true) ∨ (decide ((300 : Int) < (l.length : Int)) = false ∧ ((l.length : Int) == 0) = true) := by
      by_cases h : 300 < l.length
      · exact Or.inl (decide_eq_true (by omega))
      · exact Or.inr ⟨decide_eq_false (by omega), beq_iff_eq.2 (by rcases hl with hl | hl <;> omega)⟩
    clear hl
    rcases hl' with hl | ⟨hl1, hl2⟩
    all_goals
      go_enter Try.func8, Try.ntmps8
      go_wp2_with fail
      refine (sum_any _ [] _ (RS.nil _ _ _) (by simp) (by simp)).mono ?_
      rintro e w' ⟨rfl, rfl⟩
      go_wp2_with fail
      refine (alive_any _).mono ?_
      rintro e w' ⟨rfl, hb⟩
      go_wp2
      go_ret
      exact ⟨rfl, hb⟩
  · have l1 : decide ((300 : Int) < (l.length : Int)) = false := decide_eq_false (by omega)
    have l2 : ((l.length : Int) == 0) = false := by rw [beq_eq_false_iff_ne]; omega
    have l3 : (l.length : Int) ≤ 300 := by omega
    have l4 : 1 ≤ (l.length : Int) := by omega
    have n3 := Int.emod_nonneg (n % 1024) (show (l.length : Int) ≠ 0 by omega)
    have n4 := Int.emod_lt_of_pos (n % 1024) (show 0 < (l.length : Int) by omega)
    obtain ⟨c, hc⟩ : ∃ c : Nat, (n % 1024) % (l.length : Int) = c := ⟨((n % 1024) % (l.length : Int)).toNat, by omega⟩
    have c1 : (c : Int) < l.length := by omega
    clear n3 n4
    obtain ⟨b, off, rfl, hb1, hcell⟩ := RS.cell HC.out (by omega)
    have HCE := Lib.hid hcell
    clear hcell HC
    have hb := i64_and10 n
    go_enter Try.func8, Try.ntmps8
    go_wp2
    try rw [hc]
    replace hc := Lib.hid hc
    go_loopg [5, 6, 30] l.length (fun g s5 s6 s30 wx => ∃ (k : Nat), k + g = l.length ∧ s30 = .int .i64 k ∧ wx.ownsRow w.heap.size 3 1 s5 k (intsV (back l k)) ∧ wx.ownsRow w.heap.size 3 1 s6 k (intsV (turn l c k)) ∧ Hid (∀ g, s5.ownBlock = some g → s6.ownBlock ≠ some g) ∧ Below w.heap.size w wx)
    case atStart => exact ⟨0, by omega, rfl, World.ownsRow_nil _ _ _ _, World.ownsRow_nil _ _ _ _, Lib.hid (by simp [Value.ownBlock]), Below.refl _ _⟩
    case round =>
      obtain ⟨k, hk, rfl, o1, o2, HN, hbw⟩ := hrel
      have hsz := hbw.size
      cases gk with
      | zero =>
        have hz : ¬ ((k : Int) < (l.length : Int)) := by omega
        have hk0 : k = l.length := by omega
        have E1 := Lib.hid (show clamp64 (back l k).sum = clamp64 l.sum by rw [hk0, back_all, sum_rev])
        have E2 := Lib.hid (show clamp64 (turn l c k).sum = clamp64 l.sum by rw [hk0, turn_sum l c (by omega)])
        have V1 := RS.own o1
        have V2 := RS.own o2
        have V0 := HV.out.below hbw
        have B1 : ∀ n ∈ back l k, I64 n := fun n h => HI.out n (back_mem l n (by rw [← hk0]; exact h))
        have B2 : ∀ n ∈ turn l c k, I64 n := fun n h => HI.out n (turn_mem l c (by omega) n (by rw [← hk0]; exact h))
        have L1 := back_length l k
        have L2 := turn_length l c k
        replace L1 := Lib.hid L1
        replace L2 := Lib.hid L2
        have hk' := Lib.hid hk
        clear hk hk0
        go_wp2_with fail
        refine (sum_any _ l _ V0 (by omega) HI.out).mono ?_
        rintro e w' ⟨rfl, rfl⟩
        go_wp2_with fail
        refine (sum_any _ (back l k) _ V1 (by have := L1.out; have := hk'.out; omega) B1).mono ?_
        rintro e w' ⟨rfl, rfl⟩
        rw [E1.out]
        go_wp2_with fail
        refine (sum_any _ (turn l c k) _ V2 (by have := L2.out; have := hk'.out; omega) B2).mono ?_
        rintro e w' ⟨rfl, rfl⟩
        rw [E2.out]
        go_wp2_with fail
        refine (alive_any _).mono ?_
        rintro e w' ⟨rfl, hb⟩
        go_wp2
        go_ret
        exact ⟨rfl, hbw.trans (hb.mono hsz)⟩
      | succ g =>
        have hz : (k : Int) < (l.length : Int) := by omega
        obtain ⟨y1, hy1⟩ : ∃ y, l.getD (l.length - 1 - k) 0 = y := ⟨_, rfl⟩
        obtain ⟨y2, hy2⟩ : ∃ y, l.getD ((k + c) % l.length) 0 = y := ⟨_, rfl⟩
        have Y1 := Lib.hid hy1
        have Y2 := Lib.hid hy2
        have m1 : (k + c) % l.length < l.length := Nat.mod_lt _ (by omega)
        have D1 := HCE.out (l.length - 1 - k) (by omega)
        have D2 := HCE.out ((k + c) % l.length) m1
        rw [hy1] at D1
        rw [hy2] at D2
        replace D2 := Lib.hid D2
        clear hy1 hy2
        have c2 : wr.cell? ⟨b, off + (l.length - 1 - k), none⟩ = some (.int .i64 y1) := (hbw.cell (p := ⟨b, off + (l.length - 1 - k), none⟩) hb1).trans D1
        clear D1
        have m2 : 0 ≤ ((k : Int) + (c : Int)) % (l.length : Int) := Int.emod_nonneg _ (by omega)
        have m3 : ((k : Int) + (c : Int)) % (l.length : Int) < l.length := Int.emod_lt_of_pos _ (by omega)
        have hk' := Lib.hid hk
        clear hk
        go_wp2_with (first
          | (at_builtin
             refine wpList_push _ rfl _ _ 31 rfl w.heap.size 3 (.int .i64 0) 1 8 Try.underlying31 info_int rfl (by omega) u5 k _ rfl o1 [.int .i64 y1] rfl rfl (by simp [Value.oneCell']) (by omega) (by omega) hsz ?_
             intro v1 w1 p1 gr1 nb1
             have bw1 := below_grown hbw gr1 o1 (Nat.le_refl _) hsz
             have p2 := own_kept o2 gr1 (fun g h h' => HN.out g h' h)
             have N1 := Lib.hid (show ∀ g, v1.ownBlock = some g → u6.ownBlock ≠ some g from fun g h h' => by
               rcases nb1 g h with h1 | h1
               · exact HN.out g h1 h'
               · have := (o2.lt g h').2; omega)
             have c3 : w1.cell? ⟨b, off + (k + c) % l.length, none⟩ = some (.int .i64 y2) := (bw1.cell (p := ⟨b, off + (k + c) % l.length, none⟩) hb1).trans D2.out
             have hsz1 := bw1.size
             have sz1 := gr1.size
             clear gr1 nb1 c2 o1 o2)
          | (at_builtin
             refine wpList_push _ rfl _ _ 31 rfl w.heap.size 3 (.int .i64 0) 1 8 Try.underlying31 info_int rfl (by omega) u6 k _ rfl p2 [.int .i64 y2] rfl rfl (by simp [Value.oneCell']) (by omega) (by omega) hsz1 ?_
             intro v2 w2 q2 gr2 nb2
             have bw2 := below_grown bw1 gr2 p2 (Nat.le_refl _) hsz1
             have q1 := own_kept p1 gr2 (fun g h h' => N1.out g h h')
             have N2 := Lib.hid (show ∀ g, v1.ownBlock = some g → v2.ownBlock ≠ some g from fun g h h' => by
               rcases nb2 g h' with h1 | h1
               · exact N1.out g h h1
               · have := (p1.lt g h).2; omega)
             clear gr2 nb2 c3 p1 p2))
        go_roundg g
        case measure => omega
        case rel => exact ⟨k+1, by have := hk'.out; omega, by go_num, by rw [back_succ, Y1.out, intsV, List.map_append]; exact q1, by rw [turn_succ, Y2.out, intsV, List.map_append]; exact q2, N2, bw2⟩
end Go.Proofs.Ytnpmndophocgmaa
