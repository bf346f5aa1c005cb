/- Contracts of jointsShareNoEnd, Joined, signalsDivideSections. Conditions: the layout can be read; it has few parts. -/
import Derived.Test.YthoodaldmfojaaaDoorBack7
import Derived.Deep.RegionHeld3
namespace Go.Proofs.YthoodaldmfojaaaDoor
open Go.ChangeShapes Go.WideShapes Go.ChangeAt Go.RowKit
theorem take_op {P : Program} {md : Region.Mode} {ops : Array Oper} {Q : Exit → Act → World → Prop} {S : World → Prop} {i : Nat} {oi : Oper} {d : Option Tmp} {v : Value} {fuel : Nat} {listed : Array Bool} {a : Act} {w : World} (hi : ops[i]? = some oi) (hd : oi.dst = d)
    (hs : Region.noSelect ops = true) (hf : Region.free md ops listed i = true) (hr : (Region.ready md ops listed).contains i = true)
    (hQ : ∀ c a w, Q (.panic c) (a.put oi.dst v) w → Q (.panic c) a w) (hy : YieldsIf P ops S oi v a) (hS : S w)
    (h : wpAnyH P md ops Q S fuel (listed.setIfInBounds i true) (a.put d v) w) : wpAnyH P md ops Q S (fuel + 1) listed a w := by
  subst hd
  exact wpAnyH_take hi hs hf hr hQ hy hS h
set_option maxRecDepth 100000 in
set_option maxHeartbeats 8000000 in
theorem jointsEnd_any (v : Value) (L : LayD) (w : World) (hv : RLay w v L) (n3 : L.joints.length ≤ 100000) : Calls Tryd.prog 24 #[v] w (RetB w (jdB L)) := by
  have EQ : jdB L = decide (((mapJ L.joints.reverse).length : Int) = 2 * (L.joints.length : Int)) := by
    unfold jdB
    rw [← mapJ_rev_len, Bool.eq_iff_iff, decide_eq_true_eq, decide_eq_true_eq]
    omega
  rw [EQ]
  clear EQ
  have HV := Lib.hid hv
  obtain ⟨v1, v2, v3, v4, v5, rfl, r1, r2, r3, r4, r5⟩ := hv
  clear r1 r2 r4 r5
  obtain ⟨a3, c3, rfl, ⟨m3, _⟩, _⟩ := r3.openM
  clear r3
  have KE := fun W (h : Below w.heap.size w W) => ends_any _ L W (HV.out.below h) n3
  obtain ⟨nm, es⟩ : ∃ s, str L.name = s := ⟨_, rfl⟩
  rw [es] at KE ⊢
  clear es HV
  obtain ⟨M, hM⟩ : ∃ M, mapJ L.joints.reverse = M := ⟨_, rfl⟩
  rw [hM] at KE ⊢
  clear hM
  obtain ⟨n, hn⟩ : ∃ n, L.joints.length = n := ⟨_, rfl⟩
  rw [hn] at KE n3 m3 ⊢
  clear hn
  have hwr : IntKind.i64.wrap (2 * (n : Int)) = 2 * n := by rw [IntKind.wrap_i64]; omega
  obtain ⟨W1, hW⟩ : ∃ W1, W1 = w.alloc (.cells #[nm, v1, v2, .slice a3 n c3, v4, v5] 28) := ⟨_, rfl⟩
  have HB : Below w.heap.size w W1 := by rw [hW]; exact b1w _ _
  have G1 : Blk W1 w.heap.size #[nm, v1, v2, .slice a3 n c3, v4, v5] := by rw [hW]; exact Blk.new _ _ _ _ rfl
  have SK : ∀ W, Below W1.heap.size W1 W → (W.cell? ⟨w.heap.size, 0, none⟩ = some nm ∧ W.cell? ⟨w.heap.size, 1, none⟩ = some v1 ∧ W.cell? ⟨w.heap.size, 2, none⟩ = some v2 ∧
      W.cell? ⟨w.heap.size, 3, none⟩ = some (.slice a3 n c3) ∧ W.cell? ⟨w.heap.size, 4, none⟩ = some v4 ∧ W.cell? ⟨w.heap.size, 5, none⟩ = some v5 ∧ Below W1.heap.size W1 W) := by
    intro W h
    have b := G1.below h
    exact ⟨b.at 0 _ rfl, b.at 1 _ rfl, b.at 2 _ rfl, b.at 3 _ rfl, b.at 4 _ rfl, b.at 5 _ rfl, h⟩
  have SD := SK W1.drew (Below.refl _ _).drew
  have KB2 : ∀ W, Below W1.heap.size W1 W → Calls Tryd.prog 35 #[.agg #[nm, v1, v2, .slice a3 n c3, v4, v5]] W (RetM W M) := fun W h => KE W (HB.trans (h.mono HB.size))
  clear KE G1
  go_enter Tryd.func24, Tryd.ntmps24
  go_wp2_with fail
  rw [← hW]
  clear hW
  refine wp_region_noPanic ?_
  refine wp_region_held_drew (S := fun w' => w'.cell? ⟨w.heap.size, 0, none⟩ = some nm ∧ w'.cell? ⟨w.heap.size, 1, none⟩ = some v1 ∧ w'.cell? ⟨w.heap.size, 2, none⟩ = some v2 ∧ w'.cell? ⟨w.heap.size, 3, none⟩ = some (.slice a3 n c3) ∧ w'.cell? ⟨w.heap.size, 4, none⟩ = some v4 ∧ w'.cell? ⟨w.heap.size, 5, none⟩ = some v5 ∧ Below W1.heap.size W1 w') (by kernel_rfl) SD (fun hH0 => ?_)
  refine take_op (i := 0) (oi := _) (d := some 3) (v := .agg #[nm, v1, v2, .slice a3 n c3, v4, v5]) rfl rfl (by kernel_rfl) (by kernel_rfl) (by kernel_rfl) (fun _ _ _ h => h) (Or.inl ⟨rfl, ?_⟩) hH0 ?_
  · intro w' hSw
    obtain ⟨x0, x1, x2, x3, x4, x5, x6⟩ := hSw
    go_simp
  try simp only [Act.put, List.setIfInBounds_toArray, List.set_cons_zero, List.set_cons_succ]
  refine take_op (i := 3) (oi := _) (d := some 6) (v := .pointer (some ⟨w.heap.size, 3, none⟩)) rfl rfl (by kernel_rfl) (by kernel_rfl) (by kernel_rfl) (fun _ _ _ h => h) (Or.inl ⟨rfl, ?_⟩) hH0 ?_
  · intro w' hSw
    obtain ⟨x0, x1, x2, x3, x4, x5, x6⟩ := hSw
    go_simp
  try simp only [Act.put, List.setIfInBounds_toArray, List.set_cons_zero, List.set_cons_succ]
  refine take_op (i := 4) (oi := _) (d := some 7) (v := .slice a3 n c3) rfl rfl (by kernel_rfl) (by kernel_rfl) (by kernel_rfl) (fun _ _ _ h => h) (Or.inl ⟨rfl, ?_⟩) hH0 ?_
  · intro w' hSw
    obtain ⟨x0, x1, x2, x3, x4, x5, x6⟩ := hSw
    go_simp
  try simp only [Act.put, List.setIfInBounds_toArray, List.set_cons_zero, List.set_cons_succ]
  refine take_op (i := 5) (oi := _) (d := some 8) (v := .int .i64 (n : Int)) rfl rfl (by kernel_rfl) (by kernel_rfl) (by kernel_rfl) (fun _ _ _ h => h) (Or.inl ⟨rfl, ?_⟩) hH0 ?_
  · intro w' hSw
    obtain ⟨x0, x1, x2, x3, x4, x5, x6⟩ := hSw
    go_simp
  try simp only [Act.put, List.setIfInBounds_toArray, List.set_cons_zero, List.set_cons_succ]
  refine take_op (i := 6) (oi := _) (d := some 9) (v := .int .i64 (2 * (n : Int))) rfl rfl (by kernel_rfl) (by kernel_rfl) (by kernel_rfl) (fun _ _ _ h => h) (Or.inl ⟨rfl, ?_⟩) hH0 ?_
  · intro w' hSw
    obtain ⟨x0, x1, x2, x3, x4, x5, x6⟩ := hSw
    go_simp
  try simp only [Act.put, List.setIfInBounds_toArray, List.set_cons_zero, List.set_cons_succ]
  refine wpAnyH_ready (rs := [1]) (by kernel_rfl) (by simp) ?_
  refine AllReadyH.cons (o := _) rfl (fun KK hKK => ?_) AllReadyH.nil
  go_simp
  refine (KB2 _ (Below.refl _ _).drew).mono ?_
  rintro e w2 ⟨b, rfl, hO, bb⟩
  have hlen := hO.len Tryd.underlying52
  have h2 : Below W1.heap.size W1 w2 := (Below.refl _ _).drew.trans (bb.mono (Nat.le_refl _))
  refine hKK.out _ _ (SK _ h2) (fun hH1 => ?_)
  clear hKK KK
  try simp only [Act.put, List.setIfInBounds_toArray, List.set_cons_zero, List.set_cons_succ]
  refine wpAnyH_ready (rs := [2]) (by kernel_rfl) (by simp) ?_
  refine AllReadyH.cons (o := _) rfl (fun KK hKK => ?_) AllReadyH.nil
  go_simp
  refine hKK.out _ _ (SK _ h2) (fun hH2 => ?_)
  clear hKK KK
  try simp only [Act.put, List.setIfInBounds_toArray, List.set_cons_zero, List.set_cons_succ]
  refine take_op (i := 7) (oi := _) (d := some 10) (v := .bool ((M.length : Int) == 2 * (n : Int))) rfl rfl (by kernel_rfl) (by kernel_rfl) (by kernel_rfl) (fun _ _ _ h => h) (Or.inl ⟨rfl, ?_⟩) hH2 ?_
  · intro w' hSw
    obtain ⟨x0, x1, x2, x3, x4, x5, x6⟩ := hSw
    go_simp
  try simp only [Act.put, List.setIfInBounds_toArray, List.set_cons_zero, List.set_cons_succ]
  refine take_op (i := 8) (oi := _) (d := some 2) (v := .bool ((M.length : Int) == 2 * (n : Int))) rfl rfl (by kernel_rfl) (by kernel_rfl) (by kernel_rfl) (fun _ _ _ h => h) (Or.inl ⟨rfl, ?_⟩) hH2 ?_
  · intro w' hSw
    obtain ⟨x0, x1, x2, x3, x4, x5, x6⟩ := hSw
    go_simp
  try simp only [Act.put, List.setIfInBounds_toArray, List.set_cons_zero, List.set_cons_succ]
  refine wpAnyH_done (by kernel_rfl) ?_ _
  refine NoPanic.normal ?_
  go_wp2
  go_ret
  refine ⟨ret1_bool ?_, HB.trans (h2.mono HB.size)⟩
  rw [Bool.eq_iff_iff, beq_iff_eq, decide_eq_true_eq]
set_option maxRecDepth 100000 in
set_option maxHeartbeats 8000000 in
theorem joinedP_any (v : Value) (L : LayD) (e s : Int) (w : World) (hv : RLay w v L) (n3 : L.joints.length ≤ 100000) : Calls Tryd.prog 12 #[v, .agg #[.int .i64 e, .int .i64 s]] w (RetJ w (joinF (e, s) L.joints)) := by
  have HV := Lib.hid hv
  obtain ⟨v1, v2, v3, v4, v5, rfl, r1, r2, r3, r4, r5⟩ := hv
  clear r1 r2 r3 r4 r5
  have KE := fun W (h : Below w.heap.size w W) => ends_any _ L W (HV.out.below h) n3
  obtain ⟨nm, es⟩ : ∃ s, str L.name = s := ⟨_, rfl⟩
  rw [es] at KE ⊢
  clear es HV
  obtain ⟨M, hM⟩ : ∃ M, mapJ L.joints.reverse = M := ⟨_, rfl⟩
  have hlk : lookM (e, s) M = joinF (e, s) L.joints := by rw [← hM]; exact mapJ_look _ _
  have hnd : (M.map Prod.fst).Nodup := by rw [← hM]; exact (mapJ_keys _).1
  rw [hM] at KE
  clear hM n3
  obtain ⟨o, ho⟩ : ∃ o, joinF (e, s) L.joints = o := ⟨_, rfl⟩
  rw [ho] at hlk ⊢
  clear ho
  obtain ⟨W1, hW⟩ : ∃ W1, W1 = ((w.alloc (.cells #[nm, v1, v2, v3, v4, v5] 28)).alloc (.cells #[.int .i64 e, .int .i64 s] 37)).alloc (.cells #[.int .i64 0, .int .i64 0] 37) := ⟨_, rfl⟩
  have HB : Below w.heap.size w W1 := by rw [hW]; exact (((Below.refl _ w).alloc (Nat.le_refl _) _).alloc (by simp) _).alloc (by simp; omega) _
  have G1 : Blk W1 w.heap.size #[nm, v1, v2, v3, v4, v5] := by rw [hW]; exact ((Blk.new _ _ _ _ rfl).old _).old _
  have G2 : Blk W1 (w.heap.size + 1) #[.int .i64 e, .int .i64 s] := by rw [hW]; exact (Blk.new _ _ _ _ (by simp)).old _
  have G3 : Blk W1 (w.heap.size + 1 + 1) #[.int .i64 0, .int .i64 0] := by rw [hW]; exact Blk.new _ _ _ _ (by simp)
  have SK : ∀ W, Below W1.heap.size W1 W → (W.cell? ⟨w.heap.size, 0, none⟩ = some nm ∧ W.cell? ⟨w.heap.size, 1, none⟩ = some v1 ∧ W.cell? ⟨w.heap.size, 2, none⟩ = some v2 ∧
      W.cell? ⟨w.heap.size, 3, none⟩ = some v3 ∧ W.cell? ⟨w.heap.size, 4, none⟩ = some v4 ∧ W.cell? ⟨w.heap.size, 5, none⟩ = some v5 ∧ W.cell? ⟨w.heap.size + 1, 0, none⟩ = some (.int .i64 e) ∧ W.cell? ⟨w.heap.size + 1, 1, none⟩ = some (.int .i64 s) ∧ Below W1.heap.size W1 W) := by
    intro W h
    have b := G1.below h
    have b2 := G2.below h
    exact ⟨b.at 0 _ rfl, b.at 1 _ rfl, b.at 2 _ rfl, b.at 3 _ rfl, b.at 4 _ rfl, b.at 5 _ rfl, b2.at 0 _ rfl, b2.at 1 _ rfl, h⟩
  have SD := SK W1.drew (Below.refl _ _).drew
  have SA := SK (W1.alloc (.cells #[.int .i64 0, .int .i64 0] 37)).drew (b1w _ _).drew
  have KB2 : ∀ W, Below W1.heap.size W1 W → Calls Tryd.prog 35 #[.agg #[nm, v1, v2, v3, v4, v5]] W (RetM W M) := fun W h => KE W (HB.trans (h.mono HB.size))
  have RF : ∀ (f : EndD) W, Below W1.heap.size W1 W → Blk W (w.heap.size + 1 + 1) #[.int .i64 0, .int .i64 0] := fun f W h => G3.below h
  clear KE G1 G2 G3
  have hz : ∀ w2, (zeroValue 37).run Tryd.prog w2 = .ok (.agg #[.int .i64 0, .int .i64 0]) w2 := fun w2 => Tryd.zeroValue37 w2
  have LK : ∀ (w2 : World) b, OwnM endV endV w2 b M → (Instr.lookup 52 (.map (some b)) (.agg #[.int .i64 e, .int .i64 s]) true).run Tryd.prog w2 = .ok (.tuple #[(o.map endV).getD (.agg #[.int .i64 0, .int .i64 0]), .bool o.isSome]) w2 := by
    intro w2 b h
    have := h.look key_end hnd Tryd.underlying52 (hz w2) (e, s) true
    rw [hlk] at this
    exact this
  clear hz hlk hnd
  replace LK := Lib.hid LK
  obtain ⟨f, bo, hf, hbo, hjo⟩ : ∃ (f : EndD) (bo : Bool), (o.map endV).getD (.agg #[.int .i64 0, .int .i64 0]) = .agg #[.int .i64 f.1, .int .i64 f.2] ∧ o.isSome = bo ∧ joinO o = .tuple #[.agg #[.int .i64 f.1, .int .i64 f.2], .bool bo] := by
    cases o with
    | none => exact ⟨(0, 0), false, rfl, rfl, rfl⟩
    | some f => exact ⟨f, true, rfl, rfl, rfl⟩
  unfold RetJ
  rw [hjo]
  rw [hf, hbo] at LK
  clear hjo hf hbo
  have fin : ∀ X, Below W1.heap.size W1 X → Below w.heap.size w ((X.setCell ⟨w.heap.size + 1 + 1, 0, none⟩ (.int .i64 f.1)).setCell ⟨w.heap.size + 1 + 1, 1, none⟩ (.int .i64 f.2)) :=
    fun X hX => ((HB.trans (hX.mono HB.size)).setCell (p := ⟨w.heap.size + 1 + 1, 0, none⟩) (by simp; omega) _).setCell (p := ⟨w.heap.size + 1 + 1, 1, none⟩) (by simp; omega) _
  go_enter Tryd.func12, Tryd.ntmps12
  go_wp2_with fail
  rw [← hW]
  clear hW
  go_region_held3 (fun w' => w'.cell? ⟨w.heap.size, 0, none⟩ = some nm ∧ w'.cell? ⟨w.heap.size, 1, none⟩ = some v1 ∧ w'.cell? ⟨w.heap.size, 2, none⟩ = some v2 ∧ w'.cell? ⟨w.heap.size, 3, none⟩ = some v3 ∧ w'.cell? ⟨w.heap.size, 4, none⟩ = some v4 ∧ w'.cell? ⟨w.heap.size, 5, none⟩ = some v5 ∧ w'.cell? ⟨w.heap.size + 1, 0, none⟩ = some (.int .i64 e) ∧ w'.cell? ⟨w.heap.size + 1, 1, none⟩ = some (.int .i64 s) ∧ Below W1.heap.size W1 w')
    (first | exact SD | exact SA | exact SK _ h2 | exact SK _ (h3 _) | exact SK _ (h4 _ _) | exact SK _ (h5 _ _) | assumption)
    (first
      | (go_at_call 35
         refine (KB2 _ ?_).mono ?_
         (go_split_ands; assumption)
         rintro e w2 ⟨b, rfl, hO, bb⟩
         have hlk := LK.out w2 b hO
         have hlk2 := fun o => LK.out (w2.alloc o) b (hO.below ((Below.refl _ _).alloc (Nat.le_refl _) o))
         have h2 : Below W1.heap.size W1 w2 := by (go_split_ands; rename_i hq; exact hq.trans (bb.mono hq.size))
         have h3 := fun o => h2.alloc h2.size o
         have h4 := fun o v => (h3 o).setCell (p := ⟨w2.heap.size, 0, none⟩) h2.size v
         have h5 := fun v u => (h2.setCell (p := ⟨W1.heap.size, 0, none⟩) (Nat.le_refl _) v).setCell (p := ⟨W1.heap.size, 1, none⟩) (Nat.le_refl _) u
         try (have yb := Blk.below (w := (W1.alloc (.cells #[.int .i64 0, .int .i64 0] 37)).drew) (Blk.new W1 #[.int .i64 0, .int .i64 0] 37 W1.heap.size rfl) bb
              have y0 := yb.at 0 _ rfl
              have y1 := yb.at 1 _ rfl
              have z0 := yb.free 0
              have z1 := yb.free 1)))
  · obtain ⟨X, hXe⟩ : ∃ X, X = w2.alloc (.cells #[.int .i64 f.1, .int .i64 f.2] 37) := ⟨_, rfl⟩
    have hX : Below W1.heap.size W1 X := by rw [hXe]; exact h3 _
    have tb : Blk X w2.heap.size #[.int .i64 f.1, .int .i64 f.2] := by rw [hXe]; exact Blk.new _ _ _ _ rfl
    have rb := RF f X hX
    have t0 := tb.at 0 _ rfl
    have t1 := tb.at 1 _ rfl
    have u0 := rb.at 0 _ rfl
    have u1 := rb.at 1 _ rfl
    have f0 := rb.free 0
    have f1 := rb.free 1
    rw [← hXe]
    clear hXe tb h3 h4 h5
    go_wp2
    refine ret_cell2 rfl Tryd.underlying37 rfl (cs := #[.int .i64 f.1, .int .i64 f.2]) (by kernel_rfl) rfl ((rb.set 0 _).set 1 _) rfl ⟨rfl, ?_⟩
    exact fin X hX
  · obtain ⟨X, hXe⟩ : ∃ X, X = w2.alloc (.cells #[.int .i64 f.1, .int .i64 f.2] 37) := ⟨_, rfl⟩
    have hX : Below W1.heap.size W1 X := by rw [hXe]; exact h3 _
    have tb : Blk X w2.heap.size #[.int .i64 f.1, .int .i64 f.2] := by rw [hXe]; exact Blk.new _ _ _ _ rfl
    have rb := RF f X hX
    have t0 := tb.at 0 _ rfl
    have t1 := tb.at 1 _ rfl
    have u0 := rb.at 0 _ rfl
    have u1 := rb.at 1 _ rfl
    have f0 := rb.free 0
    have f1 := rb.free 1
    rw [← hXe]
    clear hXe tb h3 h4 h5
    go_wp2
    refine ret_cell2 rfl Tryd.underlying37 rfl (cs := #[.int .i64 f.1, .int .i64 f.2]) (by kernel_rfl) rfl ((rb.set 0 _).set 1 _) rfl ⟨rfl, ?_⟩
    exact fin X hX
  · obtain ⟨X, hXe⟩ : ∃ X, X = (w2.setCell ⟨W1.heap.size, 0, none⟩ (.int .i64 f.1)).setCell ⟨W1.heap.size, 1, none⟩ (.int .i64 f.2) := ⟨_, rfl⟩
    have hX : Below W1.heap.size W1 X := by rw [hXe]; exact h5 _ _
    have tb : Blk X W1.heap.size #[.int .i64 f.1, .int .i64 f.2] := by rw [hXe]; exact (yb.set 0 _).set 1 _
    have rb := RF f X hX
    have t0 := tb.at 0 _ rfl
    have t1 := tb.at 1 _ rfl
    have u0 := rb.at 0 _ rfl
    have u1 := rb.at 1 _ rfl
    have f0 := rb.free 0
    have f1 := rb.free 1
    rw [← hXe]
    clear hXe tb h3 h4 h5 yb y0 y1 z0 z1
    go_wp2
    refine ret_cell2 rfl Tryd.underlying37 rfl (cs := #[.int .i64 f.1, .int .i64 f.2]) (by kernel_rfl) rfl ((rb.set 0 _).set 1 _) rfl ⟨rfl, ?_⟩
    exact fin X hX
end Go.Proofs.YthoodaldmfojaaaDoor
