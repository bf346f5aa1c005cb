/- Contract of a function that puts a line into a layout. Conditions: as stated. -/
import Derived.Test.YteafkginhejllaaGreatDoorAd8
namespace Go.Proofs.YteafkginhejllaaGreatDoor
open Go.ChangeShapes Go.WideShapes Go.ChangeAt Go.RowKit
set_option maxRecDepth 100000 in
set_option maxHeartbeats 8000000 in
theorem add5_any (B base : Nat) (L : LayD) (x : L8) (v : Value) (a b c : Int) (w : World) (h : LayB w B base L) (hl : L.bals.length ≤ 100000) (hv : RS w v (intsV [a, b, c])) :
    Calls Tryz.prog 123 #[.pointer (some ⟨B, 0, none⟩), str x, v] w (RetA w B base { L with bals := L.bals ++ [⟨a, b, c⟩] }) := by
  obtain ⟨v1, v2, v3, v4, v5, hP⟩ := h
  have hP2 := hP
  obtain ⟨h0, hB, hs, o1, o2, o3, o4, o5⟩ := hP2
  have hBw := h0.lt
  have k5 : w.cell? ⟨B, 5, none⟩ = some v5 := h0.at 5 _ rfl
  have b1 : Below w.heap.size w (w.drew.alloc (.cells #[.int .i64 a, .int .i64 b, .int .i64 c] 59)) := (Below.refl _ _).drew.alloc (Nat.le_refl _) _
  have hA := hP.below b1
  have oA := own_below o5 b1
  have hsA : base ≤ (w.drew.alloc (.cells #[.int .i64 a, .int .i64 b, .int .i64 c] 59)).heap.size := Nat.le_trans hs b1.size
  have RL : RM (w.drew.alloc (.cells #[.int .i64 a, .int .i64 b, .int .i64 c] 59)) (.slice (some ⟨w.heap.size, 0, none⟩) 1 1) 3 ([(⟨a, b, c⟩ : BalD)].map blV) := lit_rm (f := blV) w.drew ⟨a, b, c⟩ 59
  obtain ⟨av, cv, rfl, _, HC⟩ := hv.open
  obtain ⟨bv, ov, rfl, hlt, x0⟩ := HC.out.rd (Below.refl _ _) (show [a, b, c][0]? = some a from rfl)
  obtain ⟨_, _, e1, _, x1⟩ := HC.out.rd (Below.refl _ _) (show [a, b, c][1]? = some b from rfl)
  obtain ⟨_, _, e2, _, x2⟩ := HC.out.rd (Below.refl _ _) (show [a, b, c][2]? = some c from rfl)
  cases e1
  cases e2
  replace hA := Lib.hid hA
  replace RL := Lib.hid RL
  clear h0 o1 o2 o3 o4 o5 hP HC hv
  simp only [Nat.add_zero] at x0
  go_enter Tryz.func123, Tryz.ntmps123
  go_wp2_with fail
  go_region_law (refine step_append_rm rfl (.tmp 10) (.tmp 21) 26 rfl base 59 (.agg #[.int .i64 0, .int .i64 0, .int .i64 0]) 3 24 Tryz.underlying26 info_bal8 rfl (by omega) v5 _ _ rfl oA _ rfl ([(⟨a, b, c⟩ : BalD)].map blV) RL.out (rows8 (f := blV) (m := 3) (fun _ => rfl) _) (one_bl8 _) (show L.bals.length + 1 ≤ 9223372036854775807 by omega) (show (L.bals.length + 1) * 24 ≤ 140737488355328 by omega) hsA ?_
                 intro v6 w6 p6 gr6 nb6
                 have p7 : w6.ownsRow base 59 3 v6 (L.bals ++ [(⟨a, b, c⟩ : BalD)]).length ((L.bals ++ [(⟨a, b, c⟩ : BalD)]).map blV).flatten := by
                   rw [List.length_append, List.map_append, List.flatten_append]; exact p6
                 have L6 := hA.out.push5 p7 gr6
                 have K6 : Kept B base w (w6.setCell ⟨B, 5, none⟩ v6) := kept_set b1 hs oA gr6
                 have hk := hA.out.1.grown gr6 (own_lt oA hB)
                 have k6 := hk.at 5 _ rfl
                 have f6 := hk.free 5
                 obtain ⟨a6, c6, rfl⟩ := own_shape p7
                 obtain ⟨n6, en6⟩ : ∃ n, (L.bals ++ [(⟨a, b, c⟩ : BalD)]).length = n := ⟨_, rfl⟩
                 rw [en6] at L6 K6
                 rw [en6]
                 replace L6 := Lib.hid L6
                 replace K6 := Lib.hid K6
                 clear p6 p7 gr6 nb6 hk en6)
  all_goals
    go_wp2
    go_end0
    exact ⟨rfl, ⟨_, _, _, _, _, L6.out⟩, K6.out⟩
end Go.Proofs.YteafkginhejllaaGreatDoor
