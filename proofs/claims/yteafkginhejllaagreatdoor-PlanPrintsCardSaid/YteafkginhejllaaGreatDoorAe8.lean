/- Contracts of the function that puts an element into a layout. Conditions: as stated. -/
import Derived.Test.YteafkginhejllaaGreatDoorAd8
namespace Go.Proofs.YteafkginhejllaaGreatDoor
open Go.ChangeShapes Go.WideShapes Go.ChangeAt Go.RowKit
set_option maxRecDepth 100000 in
set_option maxHeartbeats 16000000 in
theorem adde_any (B base m : Nat) (k : Int) (L : LayD) (x : L8) (v : Value) (sc ln gr sp : Int) (w : World) (h : LayB w B base L) (hl : L.els.length ≤ 100000) (hk : k ≠ 2) (hm : Blk w m #[.int .i64 k]) (hv : RS w v (intsV [sc, ln, gr, sp])) :
    Calls Tryz.prog 138 #[.pointer (some ⟨B, 0, none⟩), str x, v, .pointer (some ⟨m, 0, none⟩)] w (RetA w B base { L with els := L.els ++ [⟨x, k, ln, gr, sp, 0, sc⟩] }) := by
  obtain ⟨v1, v2, v3, v4, v5, hP⟩ := h
  have hP2 := hP
  obtain ⟨h0, hB, hs, o1, o2, o3, o4, o5⟩ := hP2
  have hBw := h0.lt
  have hmw := hm.lt
  have k5 : w.cell? ⟨B, 2, none⟩ = some v2 := h0.at 2 _ rfl
  have km : w.cell? ⟨m, 0, none⟩ = some (.int .i64 k) := hm.at 0 _ rfl
  have hk2 : (k == 2) = false := by simpa using hk
  obtain ⟨av, cv, rfl, _, HC⟩ := hv.open
  obtain ⟨bv, ov, rfl, hlt, x0⟩ := HC.out.rd (Below.refl _ _) (show [sc, ln, gr, sp][0]? = some sc from rfl)
  obtain ⟨_, _, e1, _, x1⟩ := HC.out.rd (Below.refl _ _) (show [sc, ln, gr, sp][1]? = some ln from rfl)
  obtain ⟨_, _, e2, _, x2⟩ := HC.out.rd (Below.refl _ _) (show [sc, ln, gr, sp][2]? = some gr from rfl)
  obtain ⟨_, _, e3, _, x3⟩ := HC.out.rd (Below.refl _ _) (show [sc, ln, gr, sp][3]? = some sp from rfl)
  cases e1
  cases e2
  cases e3
  simp only [Nat.add_zero] at x0
  obtain ⟨W1, hW1⟩ : ∃ W1, W1 = (w.alloc (.cells #[str x, .int .i64 k, .int .i64 ln, .int .i64 gr, .int .i64 sp, .int .i64 0, .int .i64 sc] 45)).drew := ⟨_, rfl⟩
  have B1 : Below w.heap.size w W1 := by rw [hW1]; exact ((Below.refl _ _).alloc (Nat.le_refl _) _).drew
  have GN : Blk W1 w.heap.size #[str x, .int .i64 k, .int .i64 ln, .int .i64 gr, .int .i64 sp, .int .i64 0, .int .i64 sc] := by rw [hW1]; exact (Blk.new _ _ _ _ rfl).below (Below.refl _ _).drew
  have km1 := cell_kept B1 km
  have hA1 := hP.below B1
  have k51 := cell_kept B1 k5
  have hBW : B < W1.heap.size := Nat.lt_of_lt_of_le hBw B1.size
  have hNW : w.heap.size < W1.heap.size := GN.lt
  have y0 := GN.at 0 _ rfl
  have y1 := GN.at 1 _ rfl
  have y2 := GN.at 2 _ rfl
  have y3 := GN.at 3 _ rfl
  have y4 := GN.at 4 _ rfl
  have y5 := GN.at 5 _ rfl
  have y6 := GN.at 6 _ rfl
  have b3 : Below W1.heap.size W1 (W1.drew.alloc (.cells #[str x, .int .i64 k, .int .i64 ln, .int .i64 gr, .int .i64 sp, .int .i64 0, .int .i64 sc] 45)) := (Below.refl _ _).drew.alloc (Nat.le_refl _) _
  have hA := hA1.below b3
  have oA := own_below (own_below o2 B1) b3
  have hsA : base ≤ (W1.drew.alloc (.cells #[str x, .int .i64 k, .int .i64 ln, .int .i64 gr, .int .i64 sp, .int .i64 0, .int .i64 sc] 45)).heap.size := Nat.le_trans hs (Nat.le_trans B1.size b3.size)
  have RL : RM (W1.drew.alloc (.cells #[str x, .int .i64 k, .int .i64 ln, .int .i64 gr, .int .i64 sp, .int .i64 0, .int .i64 sc] 45)) (.slice (some ⟨W1.heap.size, 0, none⟩) 1 1) 7 ([(⟨x, k, ln, gr, sp, 0, sc⟩ : ElD)].map elV) := lit_rm (f := elV) W1.drew ⟨x, k, ln, gr, sp, 0, sc⟩ 45
  have Bt := B1.trans (b3.mono B1.size)
  replace hA := Lib.hid hA
  replace RL := Lib.hid RL

  clear h0 o1 o2 o3 o4 o5 HC hv hm hP hA1 GN hk
  go_enter Tryz.func138, Tryz.ntmps138
  go_wp2_with fail
  go_region
  rw [← hW1]
  clear hW1
  go_wp2_with fail


  go_region_law (refine step_append_rm rfl (.tmp 33) (.tmp 35) 23 rfl base 45 (.agg #[.string ByteArray.empty, .int .i64 0, .int .i64 0, .int .i64 0, .int .i64 0, .int .i64 0, .int .i64 0]) 7 64 Tryz.underlying23 info_el8 rfl (by omega) v2 _ _ rfl oA _ rfl ([(⟨x, k, ln, gr, sp, 0, sc⟩ : ElD)].map elV) RL.out (rows8 (f := elV) (m := 7) (fun _ => rfl) _) (one_el8 _) (show L.els.length + 1 ≤ 9223372036854775807 by omega) (show (L.els.length + 1) * 64 ≤ 140737488355328 by omega) hsA ?_
                 intro v6 w6 p6 gr6 nb6
                 have p7 : w6.ownsRow base 45 7 v6 (L.els ++ [(⟨x, k, ln, gr, sp, 0, sc⟩ : ElD)]).length ((L.els ++ [(⟨x, k, ln, gr, sp, 0, sc⟩ : ElD)]).map elV).flatten := by
                   rw [List.length_append, List.map_append, List.flatten_append]; exact p6
                 have L6 := hA.out.push2 p7 gr6
                 have K6 : Kept B base w (w6.setCell ⟨B, 2, none⟩ v6) := kept_set Bt hs oA gr6
                 have hk6 := hA.out.1.grown gr6 (own_lt oA hB)
                 have k6 := hk6.at 2 _ rfl
                 have f6 := hk6.free 2
                 obtain ⟨a6, c6, rfl⟩ := own_shape p7
                 obtain ⟨n6, en6⟩ : ∃ n, (L.els ++ [(⟨x, k, ln, gr, sp, 0, sc⟩ : ElD)]).length = n := ⟨_, rfl⟩
                 rw [en6] at L6 K6
                 rw [en6]
                 replace L6 := Lib.hid L6
                 replace K6 := Lib.hid K6
                 clear p6 p7 gr6 nb6 hk6 en6)
  all_goals
    go_wp2
    go_end0
    exact ⟨rfl, ⟨_, _, _, _, _, L6.out⟩, K6.out⟩
set_option maxRecDepth 100000 in
set_option maxHeartbeats 16000000 in
theorem adde2_any (B base m : Nat) (L : LayD) (x : L8) (v : Value) (sc ln gr sp sl : Int) (w : World) (h : LayB w B base L) (hl : L.els.length ≤ 100000) (hm : Blk w m #[.int .i64 2]) (hv : RS w v (intsV [sc, ln, gr, sp, sl])) :
    Calls Tryz.prog 138 #[.pointer (some ⟨B, 0, none⟩), str x, v, .pointer (some ⟨m, 0, none⟩)] w (RetA w B base { L with els := L.els ++ [⟨x, 2, ln, gr, sp, sl, sc⟩] }) := by
  obtain ⟨v1, v2, v3, v4, v5, hP⟩ := h
  have hP2 := hP
  obtain ⟨h0, hB, hs, o1, o2, o3, o4, o5⟩ := hP2
  have hBw := h0.lt
  have hmw := hm.lt
  have k5 : w.cell? ⟨B, 2, none⟩ = some v2 := h0.at 2 _ rfl
  have km : w.cell? ⟨m, 0, none⟩ = some (.int .i64 2) := hm.at 0 _ rfl

  obtain ⟨av, cv, rfl, _, HC⟩ := hv.open
  obtain ⟨bv, ov, rfl, hlt, x0⟩ := HC.out.rd (Below.refl _ _) (show [sc, ln, gr, sp, sl][0]? = some sc from rfl)
  obtain ⟨_, _, e1, _, x1⟩ := HC.out.rd (Below.refl _ _) (show [sc, ln, gr, sp, sl][1]? = some ln from rfl)
  obtain ⟨_, _, e2, _, x2⟩ := HC.out.rd (Below.refl _ _) (show [sc, ln, gr, sp, sl][2]? = some gr from rfl)
  obtain ⟨_, _, e3, _, x3⟩ := HC.out.rd (Below.refl _ _) (show [sc, ln, gr, sp, sl][3]? = some sp from rfl)
  obtain ⟨_, _, e4, _, x4⟩ := HC.out.rd (Below.refl _ _) (show [sc, ln, gr, sp, sl][4]? = some sl from rfl)
  cases e1
  cases e2
  cases e3
  cases e4
  simp only [Nat.add_zero] at x0
  obtain ⟨W1, hW1⟩ : ∃ W1, W1 = (w.alloc (.cells #[str x, .int .i64 2, .int .i64 ln, .int .i64 gr, .int .i64 sp, .int .i64 0, .int .i64 sc] 45)).drew := ⟨_, rfl⟩
  have B1 : Below w.heap.size w W1 := by rw [hW1]; exact ((Below.refl _ _).alloc (Nat.le_refl _) _).drew
  have GN : Blk W1 w.heap.size #[str x, .int .i64 2, .int .i64 ln, .int .i64 gr, .int .i64 sp, .int .i64 0, .int .i64 sc] := by rw [hW1]; exact (Blk.new _ _ _ _ rfl).below (Below.refl _ _).drew
  have km1 := cell_kept B1 km
  have x41 := cell_kept B1 x4
  have f5 := GN.free 5
  have g5 := GN.at 5 _ rfl
  obtain ⟨W2, hW2⟩ : ∃ W2, W1.setCell ⟨w.heap.size, 5, none⟩ (.int .i64 sl) = W2 := ⟨_, rfl⟩
  have B2 : Below w.heap.size w W2 := by rw [← hW2]; exact B1.setCell (p := ⟨w.heap.size, 5, none⟩) (Nat.le_refl _) _
  have GN2 : Blk W2 w.heap.size #[str x, .int .i64 2, .int .i64 ln, .int .i64 gr, .int .i64 sp, .int .i64 sl, .int .i64 sc]   := by rw [← hW2]; exact GN.set 5 _
  have hA1 := hP.below B2
  have k51 := cell_kept B2 k5
  have hBW : B < W2.heap.size := Nat.lt_of_lt_of_le hBw B2.size
  have hNW : w.heap.size < W2.heap.size := GN2.lt
  have y0 := GN2.at 0 _ rfl
  have y1 := GN2.at 1 _ rfl
  have y2 := GN2.at 2 _ rfl
  have y3 := GN2.at 3 _ rfl
  have y4 := GN2.at 4 _ rfl
  have y5 := GN2.at 5 _ rfl
  have y6 := GN2.at 6 _ rfl
  have b3 : Below W2.heap.size W2 (W2.drew.alloc (.cells #[str x, .int .i64 2, .int .i64 ln, .int .i64 gr, .int .i64 sp, .int .i64 sl, .int .i64 sc] 45)) := (Below.refl _ _).drew.alloc (Nat.le_refl _) _
  have hA := hA1.below b3
  have oA := own_below (own_below o2 B2) b3
  have hsA : base ≤ (W2.drew.alloc (.cells #[str x, .int .i64 2, .int .i64 ln, .int .i64 gr, .int .i64 sp, .int .i64 sl, .int .i64 sc] 45)).heap.size := Nat.le_trans hs (Nat.le_trans B2.size b3.size)
  have RL : RM (W2.drew.alloc (.cells #[str x, .int .i64 2, .int .i64 ln, .int .i64 gr, .int .i64 sp, .int .i64 sl, .int .i64 sc] 45)) (.slice (some ⟨W2.heap.size, 0, none⟩) 1 1) 7 ([(⟨x, 2, ln, gr, sp, sl, sc⟩ : ElD)].map elV) := lit_rm (f := elV) W2.drew ⟨x, 2, ln, gr, sp, sl, sc⟩ 45
  have Bt := B2.trans (b3.mono B2.size)
  replace hA := Lib.hid hA
  replace RL := Lib.hid RL
  replace hW2 := Lib.hid hW2
  clear h0 o1 o2 o3 o4 o5 HC hv hm hP hA1 GN2 GN
  go_enter Tryz.func138, Tryz.ntmps138
  go_wp2_with fail
  go_region
  rw [← hW1]
  clear hW1
  go_wp2_with fail
  rw [hW2.out]
  clear hW2
  go_region_law (refine step_append_rm rfl (.tmp 33) (.tmp 35) 23 rfl base 45 (.agg #[.string ByteArray.empty, .int .i64 0, .int .i64 0, .int .i64 0, .int .i64 0, .int .i64 0, .int .i64 0]) 7 64 Tryz.underlying23 info_el8 rfl (by omega) v2 _ _ rfl oA _ rfl ([(⟨x, 2, ln, gr, sp, sl, sc⟩ : ElD)].map elV) RL.out (rows8 (f := elV) (m := 7) (fun _ => rfl) _) (one_el8 _) (show L.els.length + 1 ≤ 9223372036854775807 by omega) (show (L.els.length + 1) * 64 ≤ 140737488355328 by omega) hsA ?_
                 intro v6 w6 p6 gr6 nb6
                 have p7 : w6.ownsRow base 45 7 v6 (L.els ++ [(⟨x, 2, ln, gr, sp, sl, sc⟩ : ElD)]).length ((L.els ++ [(⟨x, 2, ln, gr, sp, sl, sc⟩ : ElD)]).map elV).flatten := by
                   rw [List.length_append, List.map_append, List.flatten_append]; exact p6
                 have L6 := hA.out.push2 p7 gr6
                 have K6 : Kept B base w (w6.setCell ⟨B, 2, none⟩ v6) := kept_set Bt hs oA gr6
                 have hk6 := hA.out.1.grown gr6 (own_lt oA hB)
                 have k6 := hk6.at 2 _ rfl
                 have f6 := hk6.free 2
                 obtain ⟨a6, c6, rfl⟩ := own_shape p7
                 obtain ⟨n6, en6⟩ : ∃ n, (L.els ++ [(⟨x, 2, ln, gr, sp, sl, sc⟩ : ElD)]).length = n := ⟨_, rfl⟩
                 rw [en6] at L6 K6
                 rw [en6]
                 replace L6 := Lib.hid L6
                 replace K6 := Lib.hid K6
                 clear p6 p7 gr6 nb6 hk6 en6)
  all_goals
    go_wp2
    go_end0
    exact ⟨rfl, ⟨_, _, _, _, _, L6.out⟩, K6.out⟩
end Go.Proofs.YteafkginhejllaaGreatDoor
