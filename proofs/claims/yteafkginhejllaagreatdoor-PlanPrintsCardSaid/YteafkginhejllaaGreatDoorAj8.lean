/- Contract of the function that puts a joint into a layout. Conditions: as stated. -/
import Derived.Test.YteafkginhejllaaGreatDoorAd8
import Derived.Test.YteafkginhejllaaGreatDoorP8
import Derived.Deep.RegionHeld3
namespace Go.Proofs.YteafkginhejllaaGreatDoor
open Go.ChangeShapes Go.WideShapes Go.ChangeAt Go.RowKit
/-- The cells of an owned row of numbers. -/
theorem vals_at {w : World} {bV : Nat} {v : Value} {l : List Int} (h : w.ownsRow bV 3 1 v l.length (intsV l)) (h0 : 0 < l.length) : ∃ g c, v = .slice (some ⟨g, 0, none⟩) l.length c ∧ bV ≤ g ∧
    (∀ (k : Nat) y, l[k]? = some y → w.cell? ⟨g, k, none⟩ = some (.int .i64 y)) := by
  rcases h.2 with ⟨_, e⟩ | ⟨g, cap, cur, rfl, hg, hh, hnc, hcm, _, _⟩
  · omega
  · refine ⟨g, cap, rfl, hg, fun k y hy => ?_⟩
    have := h.cells (g := g) rfl k (.int .i64 y) (by simp [intsV, hy])
    rwa [addr_add, Nat.zero_add] at this
set_option maxRecDepth 100000 in
set_option maxHeartbeats 16000000 in
theorem add3_any (B base bV : Nat) (L : LayD) (x : L8) (v : Value) (a b c d : Int) (w : World) (h : LayB w B base L) (hl : L.joints.length ≤ 100000) (hBV : B < bV) (hv : w.ownsRow bV 3 1 v [a, b, c, d].length (intsV [a, b, c, d])) :
    Calls Tryz.prog 121 #[.pointer (some ⟨B, 0, none⟩), str x, v] w (RetA w B base { L with joints := L.joints ++ [((a, b), (c, d))] }) := by
  obtain ⟨v1, v2, v3, v4, v5, hP⟩ := h
  have hP2 := hP
  obtain ⟨h0, hB, hs, o1, o2, o3, o4, o5⟩ := hP2
  have k5 : w.cell? ⟨B, 3, none⟩ = some v3 := h0.at 3 _ rfl
  have hBw := h0.lt
  have hT := own_typesG hv o3 (by decide)
  obtain ⟨bv, cv, rfl, hbv, HC⟩ := vals_at hv (by simp)
  have hT := hT bv rfl
  have x0 := HC 0 a rfl
  have x1 := HC 1 b rfl
  have x2 := HC 2 c rfl
  have x3 := HC 3 d rfl
  have hne : bv ≠ B := by omega
  have b1 : Below w.heap.size w (w.drew.alloc (.cells #[.int .i64 a, .int .i64 b, .int .i64 c, .int .i64 d] 49)) := (Below.refl _ _).drew.alloc (Nat.le_refl _) _
  have hA := hP.below b1
  have oA := own_below o3 b1
  have hsA : base ≤ (w.drew.alloc (.cells #[.int .i64 a, .int .i64 b, .int .i64 c, .int .i64 d] 49)).heap.size := Nat.le_trans hs b1.size
  have RL : RM (w.drew.alloc (.cells #[.int .i64 a, .int .i64 b, .int .i64 c, .int .i64 d] 49)) (.slice (some ⟨w.heap.size, 0, none⟩) 1 1) 4 ([(((a, b), (c, d)) : EndD × EndD)].map joV) := lit_rm (f := joV) w.drew ((a, b), (c, d)) 49
  have SB : ∀ W : World, Below w.heap.size w W → W.cell? ⟨bv, 0, none⟩ = some (.int .i64 a) ∧ W.cell? ⟨bv, 1, none⟩ = some (.int .i64 b) ∧ W.cell? ⟨bv, 2, none⟩ = some (.int .i64 c) ∧ W.cell? ⟨bv, 3, none⟩ = some (.int .i64 d) := fun W h => ⟨cell_kept h x0, cell_kept h x1, cell_kept h x2, cell_kept h x3⟩
  have SD := SB _ (Below.refl w.heap.size w).drew
  have SE := SB _ b1
  replace hA := Lib.hid hA
  replace RL := Lib.hid RL
  clear h0 o1 o2 o3 o4 o5 hP HC hv
  go_enter Tryz.func121, Tryz.ntmps121
  go_wp2_with fail
  refine wp_region_noPanic ?_
  refine wp_region_held_drew (S := fun W => W.cell? ⟨bv, 0, none⟩ = some (.int .i64 a) ∧ W.cell? ⟨bv, 1, none⟩ = some (.int .i64 b) ∧ W.cell? ⟨bv, 2, none⟩ = some (.int .i64 c) ∧ W.cell? ⟨bv, 3, none⟩ = some (.int .i64 d)) (by kernel_rfl) SD (fun hH0 => ?_)
  refine take_op (i := 0) (oi := _) (d := some 6) (v := .pointer (some ⟨B, 0, none⟩)) rfl rfl (by kernel_rfl) (by kernel_rfl) (by kernel_rfl) (fun _ _ _ h => h) (Or.inl ⟨rfl, ?_⟩) hH0 ?_
  · intro w' hSw
    obtain ⟨z0, z1, z2, z3⟩ := hSw
    go_simp
  try simp only [Act.put, List.setIfInBounds_toArray, List.set_cons_zero, List.set_cons_succ]
  refine take_op (i := 1) (oi := _) (d := some 7) (v := .pointer (some ⟨B, 0, none⟩)) rfl rfl (by kernel_rfl) (by kernel_rfl) (by kernel_rfl) (fun _ _ _ h => h) (Or.inl ⟨rfl, ?_⟩) hH0 ?_
  · intro w' hSw
    obtain ⟨z0, z1, z2, z3⟩ := hSw
    go_simp
  try simp only [Act.put, List.setIfInBounds_toArray, List.set_cons_zero, List.set_cons_succ]
  refine take_op (i := 2) (oi := _) (d := some 8) (v := .pointer (some ⟨B, 0, none⟩)) rfl rfl (by kernel_rfl) (by kernel_rfl) (by kernel_rfl) (fun _ _ _ h => h) (Or.inl ⟨rfl, ?_⟩) hH0 ?_
  · intro w' hSw
    obtain ⟨z0, z1, z2, z3⟩ := hSw
    go_simp
  try simp only [Act.put, List.setIfInBounds_toArray, List.set_cons_zero, List.set_cons_succ]
  refine take_op (i := 3) (oi := _) (d := some 9) (v := .pointer (some ⟨B, 3, none⟩)) rfl rfl (by kernel_rfl) (by kernel_rfl) (by kernel_rfl) (fun _ _ _ h => h) (Or.inl ⟨rfl, ?_⟩) hH0 ?_
  · intro w' hSw
    obtain ⟨z0, z1, z2, z3⟩ := hSw
    go_simp
  try simp only [Act.put, List.setIfInBounds_toArray, List.set_cons_zero, List.set_cons_succ]
  refine take_op (i := 5) (oi := _) (d := some 11) (v := .slice (some ⟨bv, 0, none⟩) 4 cv) rfl rfl (by kernel_rfl) (by kernel_rfl) (by kernel_rfl) (fun _ _ _ h => h) (Or.inl ⟨rfl, ?_⟩) hH0 ?_
  · intro w' hSw
    obtain ⟨z0, z1, z2, z3⟩ := hSw
    go_simp
  try simp only [Act.put, List.setIfInBounds_toArray, List.set_cons_zero, List.set_cons_succ]
  refine take_op (i := 6) (oi := _) (d := some 12) (v := .pointer (some ⟨bv, 0, none⟩)) rfl rfl (by kernel_rfl) (by kernel_rfl) (by kernel_rfl) (fun _ _ _ h => h) (Or.inl ⟨rfl, ?_⟩) hH0 ?_
  · intro w' hSw
    obtain ⟨z0, z1, z2, z3⟩ := hSw
    go_simp
  try simp only [Act.put, List.setIfInBounds_toArray, List.set_cons_zero, List.set_cons_succ]
  refine take_op (i := 7) (oi := _) (d := some 13) (v := .int .i64 a) rfl rfl (by kernel_rfl) (by kernel_rfl) (by kernel_rfl) (fun _ _ _ h => h) (Or.inl ⟨rfl, ?_⟩) hH0 ?_
  · intro w' hSw
    obtain ⟨z0, z1, z2, z3⟩ := hSw
    go_simp
  try simp only [Act.put, List.setIfInBounds_toArray, List.set_cons_zero, List.set_cons_succ]
  refine take_op (i := 8) (oi := _) (d := some 14) (v := .slice (some ⟨bv, 0, none⟩) 4 cv) rfl rfl (by kernel_rfl) (by kernel_rfl) (by kernel_rfl) (fun _ _ _ h => h) (Or.inl ⟨rfl, ?_⟩) hH0 ?_
  · intro w' hSw
    obtain ⟨z0, z1, z2, z3⟩ := hSw
    go_simp
  try simp only [Act.put, List.setIfInBounds_toArray, List.set_cons_zero, List.set_cons_succ]
  refine take_op (i := 9) (oi := _) (d := some 15) (v := .pointer (some ⟨bv, 1, none⟩)) rfl rfl (by kernel_rfl) (by kernel_rfl) (by kernel_rfl) (fun _ _ _ h => h) (Or.inl ⟨rfl, ?_⟩) hH0 ?_
  · intro w' hSw
    obtain ⟨z0, z1, z2, z3⟩ := hSw
    go_simp
  try simp only [Act.put, List.setIfInBounds_toArray, List.set_cons_zero, List.set_cons_succ]
  refine take_op (i := 10) (oi := _) (d := some 16) (v := .int .i64 b) rfl rfl (by kernel_rfl) (by kernel_rfl) (by kernel_rfl) (fun _ _ _ h => h) (Or.inl ⟨rfl, ?_⟩) hH0 ?_
  · intro w' hSw
    obtain ⟨z0, z1, z2, z3⟩ := hSw
    go_simp
  try simp only [Act.put, List.setIfInBounds_toArray, List.set_cons_zero, List.set_cons_succ]
  refine take_op (i := 11) (oi := _) (d := some 17) (v := .agg #[.int .i64 a, .int .i64 b]) rfl rfl (by kernel_rfl) (by kernel_rfl) (by kernel_rfl) (fun _ _ _ h => h) (Or.inl ⟨rfl, ?_⟩) hH0 ?_
  · intro w' hSw
    obtain ⟨z0, z1, z2, z3⟩ := hSw
    go_simp
  try simp only [Act.put, List.setIfInBounds_toArray, List.set_cons_zero, List.set_cons_succ]
  refine take_op (i := 12) (oi := _) (d := some 18) (v := .slice (some ⟨bv, 0, none⟩) 4 cv) rfl rfl (by kernel_rfl) (by kernel_rfl) (by kernel_rfl) (fun _ _ _ h => h) (Or.inl ⟨rfl, ?_⟩) hH0 ?_
  · intro w' hSw
    obtain ⟨z0, z1, z2, z3⟩ := hSw
    go_simp
  try simp only [Act.put, List.setIfInBounds_toArray, List.set_cons_zero, List.set_cons_succ]
  refine take_op (i := 13) (oi := _) (d := some 19) (v := .pointer (some ⟨bv, 2, none⟩)) rfl rfl (by kernel_rfl) (by kernel_rfl) (by kernel_rfl) (fun _ _ _ h => h) (Or.inl ⟨rfl, ?_⟩) hH0 ?_
  · intro w' hSw
    obtain ⟨z0, z1, z2, z3⟩ := hSw
    go_simp
  try simp only [Act.put, List.setIfInBounds_toArray, List.set_cons_zero, List.set_cons_succ]
  refine take_op (i := 14) (oi := _) (d := some 20) (v := .int .i64 c) rfl rfl (by kernel_rfl) (by kernel_rfl) (by kernel_rfl) (fun _ _ _ h => h) (Or.inl ⟨rfl, ?_⟩) hH0 ?_
  · intro w' hSw
    obtain ⟨z0, z1, z2, z3⟩ := hSw
    go_simp
  try simp only [Act.put, List.setIfInBounds_toArray, List.set_cons_zero, List.set_cons_succ]
  refine take_op (i := 15) (oi := _) (d := some 21) (v := .slice (some ⟨bv, 0, none⟩) 4 cv) rfl rfl (by kernel_rfl) (by kernel_rfl) (by kernel_rfl) (fun _ _ _ h => h) (Or.inl ⟨rfl, ?_⟩) hH0 ?_
  · intro w' hSw
    obtain ⟨z0, z1, z2, z3⟩ := hSw
    go_simp
  try simp only [Act.put, List.setIfInBounds_toArray, List.set_cons_zero, List.set_cons_succ]
  refine take_op (i := 16) (oi := _) (d := some 22) (v := .pointer (some ⟨bv, 3, none⟩)) rfl rfl (by kernel_rfl) (by kernel_rfl) (by kernel_rfl) (fun _ _ _ h => h) (Or.inl ⟨rfl, ?_⟩) hH0 ?_
  · intro w' hSw
    obtain ⟨z0, z1, z2, z3⟩ := hSw
    go_simp
  try simp only [Act.put, List.setIfInBounds_toArray, List.set_cons_zero, List.set_cons_succ]
  refine take_op (i := 17) (oi := _) (d := some 23) (v := .int .i64 d) rfl rfl (by kernel_rfl) (by kernel_rfl) (by kernel_rfl) (fun _ _ _ h => h) (Or.inl ⟨rfl, ?_⟩) hH0 ?_
  · intro w' hSw
    obtain ⟨z0, z1, z2, z3⟩ := hSw
    go_simp
  try simp only [Act.put, List.setIfInBounds_toArray, List.set_cons_zero, List.set_cons_succ]
  refine take_op (i := 18) (oi := _) (d := some 24) (v := .agg #[.int .i64 c, .int .i64 d]) rfl rfl (by kernel_rfl) (by kernel_rfl) (by kernel_rfl) (fun _ _ _ h => h) (Or.inl ⟨rfl, ?_⟩) hH0 ?_
  · intro w' hSw
    obtain ⟨z0, z1, z2, z3⟩ := hSw
    go_simp
  try simp only [Act.put, List.setIfInBounds_toArray, List.set_cons_zero, List.set_cons_succ]
  refine take_op (i := 19) (oi := _) (d := some 25) (v := .agg #[.int .i64 a, .int .i64 b, .int .i64 c, .int .i64 d]) rfl rfl (by kernel_rfl) (by kernel_rfl) (by kernel_rfl) (fun _ _ _ h => h) (Or.inl ⟨rfl, ?_⟩) hH0 ?_
  · intro w' hSw
    obtain ⟨z0, z1, z2, z3⟩ := hSw
    go_simp
  try simp only [Act.put, List.setIfInBounds_toArray, List.set_cons_zero, List.set_cons_succ]
  refine wpAnyH_ready (rs := [4, 20]) (by kernel_rfl) (by simp) ?_
  refine AllReadyH.cons (o := _) rfl (fun KK hKK => ?_) (AllReadyH.cons (o := _) rfl (fun KK hKK => ?_) AllReadyH.nil)
  · go_simp
    refine hKK.out _ _ SD (fun hH1 => ?_)
    clear hKK KK
    try simp only [Act.put, List.setIfInBounds_toArray, List.set_cons_zero, List.set_cons_succ]
    refine wpAnyH_ready (rs := [20]) (by kernel_rfl) (by simp) ?_
    refine AllReadyH.cons (o := _) rfl (fun KK hKK => ?_) AllReadyH.nil
    go_simp
    refine hKK.out _ _ SE (fun hH2 => ?_)
    clear hKK KK
    try simp only [Act.put, List.setIfInBounds_toArray, List.set_cons_zero, List.set_cons_succ]
    refine wpAnyH_ready (rs := [21]) (by kernel_rfl) (by simp) ?_
    refine AllReadyH.cons (o := _) rfl (fun KK hKK => ?_) AllReadyH.nil
    refine step_append_rm rfl (.tmp 10) (.tmp 26) 24 rfl base 49 (.agg #[.int .i64 0, .int .i64 0, .int .i64 0, .int .i64 0]) 4 32 Tryz.underlying24 info_jo8 rfl (by omega) v3 _ _ rfl oA _ rfl ([(((a, b), (c, d)) : EndD × EndD)].map joV) RL.out (rows8 (f := joV) (m := 4) (fun _ => rfl) _) (one_jo8 _) (show L.joints.length + 1 ≤ 9223372036854775807 by omega) (show (L.joints.length + 1) * 32 ≤ 140737488355328 by omega) hsA ?_
    intro v6 w6 p6 gr6 nb6
    have p7 : w6.ownsRow base 49 4 v6 (L.joints ++ [(((a, b), (c, d)) : EndD × EndD)]).length ((L.joints ++ [(((a, b), (c, d)) : EndD × EndD)]).map joV).flatten := by
      rw [List.length_append, List.map_append, List.flatten_append]; exact p6
    have L6 := hA.out.push3 p7 gr6
    have K6 : Kept B base w (w6.setCell ⟨B, 3, none⟩ v6) := kept_set b1 hs oA gr6
    have hk6 := hA.out.1.grown gr6 (own_lt oA hB)
    have k6 := hk6.at 3 _ rfl
    have f6 := hk6.free 3
    have SF : w6.cell? ⟨bv, 0, none⟩ = some (.int .i64 a) ∧ w6.cell? ⟨bv, 1, none⟩ = some (.int .i64 b) ∧ w6.cell? ⟨bv, 2, none⟩ = some (.int .i64 c) ∧ w6.cell? ⟨bv, 3, none⟩ = some (.int .i64 d) := by
      obtain ⟨z0, z1, z2, z3⟩ := SE
      exact ⟨gr6.cell z0 (fun e => hT e.symm), gr6.cell z1 (fun e => hT e.symm), gr6.cell z2 (fun e => hT e.symm), gr6.cell z3 (fun e => hT e.symm)⟩
    obtain ⟨a6, c6, rfl⟩ := own_shape p7
    obtain ⟨n6, en6⟩ : ∃ n, (L.joints ++ [(((a, b), (c, d)) : EndD × EndD)]).length = n := ⟨_, rfl⟩
    rw [en6] at L6 K6
    rw [en6]
    replace L6 := Lib.hid L6
    replace K6 := Lib.hid K6
    clear p6 p7 gr6 nb6 hk6 en6
    refine hKK.out _ _ SF (fun hH3 => ?_)
    clear hKK KK
    try simp only [Act.put, List.setIfInBounds_toArray, List.set_cons_zero, List.set_cons_succ]
    refine take_op (i := 22) (oi := _) (d := some 28) (v := .pointer (some ⟨B, 0, none⟩)) rfl rfl (by kernel_rfl) (by kernel_rfl) (by kernel_rfl) (fun _ _ _ h => h) (Or.inl ⟨rfl, ?_⟩) hH3 ?_
    · intro w' hSw
      obtain ⟨z0, z1, z2, z3⟩ := hSw
      go_simp
    try simp only [Act.put, List.setIfInBounds_toArray, List.set_cons_zero, List.set_cons_succ]
    refine take_op (i := 23) (oi := _) (d := some 29) (v := .pointer (some ⟨B, 3, none⟩)) rfl rfl (by kernel_rfl) (by kernel_rfl) (by kernel_rfl) (fun _ _ _ h => h) (Or.inl ⟨rfl, ?_⟩) hH3 ?_
    · intro w' hSw
      obtain ⟨z0, z1, z2, z3⟩ := hSw
      go_simp
    try simp only [Act.put, List.setIfInBounds_toArray, List.set_cons_zero, List.set_cons_succ]
    refine wpAnyH_ready (rs := [24]) (by kernel_rfl) (by simp) ?_
    refine AllReadyH.cons (o := _) rfl (fun KK hKK => ?_) AllReadyH.nil
    go_simp
    have SG : (w6.setCell ⟨B, 3, none⟩ (.slice a6 n6 c6)).cell? ⟨bv, 0, none⟩ = some (.int .i64 a) ∧ (w6.setCell ⟨B, 3, none⟩ (.slice a6 n6 c6)).cell? ⟨bv, 1, none⟩ = some (.int .i64 b) ∧ (w6.setCell ⟨B, 3, none⟩ (.slice a6 n6 c6)).cell? ⟨bv, 2, none⟩ = some (.int .i64 c) ∧ (w6.setCell ⟨B, 3, none⟩ (.slice a6 n6 c6)).cell? ⟨bv, 3, none⟩ = some (.int .i64 d) := by
      obtain ⟨z0, z1, z2, z3⟩ := SF
      exact ⟨(World.cell?_of_block (Below.heap_setCell _ _ _ _ hne)).trans z0, (World.cell?_of_block (Below.heap_setCell _ _ _ _ hne)).trans z1, (World.cell?_of_block (Below.heap_setCell _ _ _ _ hne)).trans z2, (World.cell?_of_block (Below.heap_setCell _ _ _ _ hne)).trans z3⟩
    refine hKK.out _ _ SG (fun hH4 => ?_)
    clear hKK KK
    try simp only [Act.put, List.setIfInBounds_toArray, List.set_cons_zero, List.set_cons_succ]
    refine wpAnyH_done (by kernel_rfl) ?_ _
    refine NoPanic.normal ?_
    go_wp2
    go_end0
    exact ⟨rfl, ⟨_, _, _, _, _, L6.out⟩, K6.out⟩
  · go_simp
    refine hKK.out _ _ SE (fun hH1 => ?_)
    clear hKK KK
    try simp only [Act.put, List.setIfInBounds_toArray, List.set_cons_zero, List.set_cons_succ]
    refine wpAnyH_ready (rs := [4]) (by kernel_rfl) (by simp) ?_
    refine AllReadyH.cons (o := _) rfl (fun KK hKK => ?_) AllReadyH.nil
    have k55 := cell_kept b1 k5
    go_simp
    refine hKK.out _ _ SE (fun hH2 => ?_)
    clear hKK KK
    try simp only [Act.put, List.setIfInBounds_toArray, List.set_cons_zero, List.set_cons_succ]
    refine wpAnyH_ready (rs := [21]) (by kernel_rfl) (by simp) ?_
    refine AllReadyH.cons (o := _) rfl (fun KK hKK => ?_) AllReadyH.nil
    refine step_append_rm rfl (.tmp 10) (.tmp 26) 24 rfl base 49 (.agg #[.int .i64 0, .int .i64 0, .int .i64 0, .int .i64 0]) 4 32 Tryz.underlying24 info_jo8 rfl (by omega) v3 _ _ rfl oA _ rfl ([(((a, b), (c, d)) : EndD × EndD)].map joV) RL.out (rows8 (f := joV) (m := 4) (fun _ => rfl) _) (one_jo8 _) (show L.joints.length + 1 ≤ 9223372036854775807 by omega) (show (L.joints.length + 1) * 32 ≤ 140737488355328 by omega) hsA ?_
    intro v6 w6 p6 gr6 nb6
    have p7 : w6.ownsRow base 49 4 v6 (L.joints ++ [(((a, b), (c, d)) : EndD × EndD)]).length ((L.joints ++ [(((a, b), (c, d)) : EndD × EndD)]).map joV).flatten := by
      rw [List.length_append, List.map_append, List.flatten_append]; exact p6
    have L6 := hA.out.push3 p7 gr6
    have K6 : Kept B base w (w6.setCell ⟨B, 3, none⟩ v6) := kept_set b1 hs oA gr6
    have hk6 := hA.out.1.grown gr6 (own_lt oA hB)
    have k6 := hk6.at 3 _ rfl
    have f6 := hk6.free 3
    have SF : w6.cell? ⟨bv, 0, none⟩ = some (.int .i64 a) ∧ w6.cell? ⟨bv, 1, none⟩ = some (.int .i64 b) ∧ w6.cell? ⟨bv, 2, none⟩ = some (.int .i64 c) ∧ w6.cell? ⟨bv, 3, none⟩ = some (.int .i64 d) := by
      obtain ⟨z0, z1, z2, z3⟩ := SE
      exact ⟨gr6.cell z0 (fun e => hT e.symm), gr6.cell z1 (fun e => hT e.symm), gr6.cell z2 (fun e => hT e.symm), gr6.cell z3 (fun e => hT e.symm)⟩
    obtain ⟨a6, c6, rfl⟩ := own_shape p7
    obtain ⟨n6, en6⟩ : ∃ n, (L.joints ++ [(((a, b), (c, d)) : EndD × EndD)]).length = n := ⟨_, rfl⟩
    rw [en6] at L6 K6
    rw [en6]
    replace L6 := Lib.hid L6
    replace K6 := Lib.hid K6
    clear p6 p7 gr6 nb6 hk6 en6
    refine hKK.out _ _ SF (fun hH3 => ?_)
    clear hKK KK
    try simp only [Act.put, List.setIfInBounds_toArray, List.set_cons_zero, List.set_cons_succ]
    refine take_op (i := 22) (oi := _) (d := some 28) (v := .pointer (some ⟨B, 0, none⟩)) rfl rfl (by kernel_rfl) (by kernel_rfl) (by kernel_rfl) (fun _ _ _ h => h) (Or.inl ⟨rfl, ?_⟩) hH3 ?_
    · intro w' hSw
      obtain ⟨z0, z1, z2, z3⟩ := hSw
      go_simp
    try simp only [Act.put, List.setIfInBounds_toArray, List.set_cons_zero, List.set_cons_succ]
    refine take_op (i := 23) (oi := _) (d := some 29) (v := .pointer (some ⟨B, 3, none⟩)) rfl rfl (by kernel_rfl) (by kernel_rfl) (by kernel_rfl) (fun _ _ _ h => h) (Or.inl ⟨rfl, ?_⟩) hH3 ?_
    · intro w' hSw
      obtain ⟨z0, z1, z2, z3⟩ := hSw
      go_simp
    try simp only [Act.put, List.setIfInBounds_toArray, List.set_cons_zero, List.set_cons_succ]
    refine wpAnyH_ready (rs := [24]) (by kernel_rfl) (by simp) ?_
    refine AllReadyH.cons (o := _) rfl (fun KK hKK => ?_) AllReadyH.nil
    go_simp
    have SG : (w6.setCell ⟨B, 3, none⟩ (.slice a6 n6 c6)).cell? ⟨bv, 0, none⟩ = some (.int .i64 a) ∧ (w6.setCell ⟨B, 3, none⟩ (.slice a6 n6 c6)).cell? ⟨bv, 1, none⟩ = some (.int .i64 b) ∧ (w6.setCell ⟨B, 3, none⟩ (.slice a6 n6 c6)).cell? ⟨bv, 2, none⟩ = some (.int .i64 c) ∧ (w6.setCell ⟨B, 3, none⟩ (.slice a6 n6 c6)).cell? ⟨bv, 3, none⟩ = some (.int .i64 d) := by
      obtain ⟨z0, z1, z2, z3⟩ := SF
      exact ⟨(World.cell?_of_block (Below.heap_setCell _ _ _ _ hne)).trans z0, (World.cell?_of_block (Below.heap_setCell _ _ _ _ hne)).trans z1, (World.cell?_of_block (Below.heap_setCell _ _ _ _ hne)).trans z2, (World.cell?_of_block (Below.heap_setCell _ _ _ _ hne)).trans z3⟩
    refine hKK.out _ _ SG (fun hH4 => ?_)
    clear hKK KK
    try simp only [Act.put, List.setIfInBounds_toArray, List.set_cons_zero, List.set_cons_succ]
    refine wpAnyH_done (by kernel_rfl) ?_ _
    refine NoPanic.normal ?_
    go_wp2
    go_end0
    exact ⟨rfl, ⟨_, _, _, _, _, L6.out⟩, K6.out⟩
end Go.Proofs.YteafkginhejllaaGreatDoor
