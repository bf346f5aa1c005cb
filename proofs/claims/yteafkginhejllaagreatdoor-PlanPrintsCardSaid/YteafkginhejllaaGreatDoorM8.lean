/- Texts of the layers 5 to 7, merged. -/
import Derived.Test.YteafkginhejllaaGreatDoorL8x
import Derived.Test.YteafkginhejllaaGreatDoorJ8
namespace Go.Proofs.YteafkginhejllaaGreatDoor
section
open Go.ChangeShapes Go.WideShapes Go.ChangeAt Go.RowKit
theorem b1w (w : World) (o : Obj) : Below w.heap.size w (w.alloc o) := (Below.refl _ _).alloc (Nat.le_refl _) _
theorem bnew {w w' : World} {o : Obj} (h : Below (w.alloc o).heap.size (w.alloc o) w') : Below w.heap.size w w' := (b1w w o).trans (h.mono (by simp))

set_option maxRecDepth 100000 in
set_option maxHeartbeats 4000000 in
theorem sizes_any (v : Value) (L : LayD) (w : World) (hv : RLay w v L) : Calls Tryz.prog 24 #[v] w (RetB w (limB L)) := by
  have HV := Lib.hid hv
  obtain ⟨v1, v2, v3, v4, v5, rfl, r1, r2, r3, r4, r5⟩ := hv
  obtain ⟨a1, c1, rfl, ⟨m1, _⟩, _⟩ := r1.openS
  obtain ⟨a2, c2, rfl, ⟨m2, _⟩, _⟩ := r2.openM
  obtain ⟨a3, c3, rfl, ⟨m3, _⟩, _⟩ := r3.openM
  obtain ⟨a4, c4, rfl, ⟨m4, _⟩, _⟩ := r4.openM
  obtain ⟨a5, c5, rfl, ⟨m5, _⟩, _⟩ := r5.openM
  clear r1 r2 r3 r4 r5 HV
  have EQ : limB L = (wiB (L.els.length : Int) 1 32 && (wiB (L.secs.length : Int) 1 24 && (decide ((L.sigs.length : Int) ≤ 20) && decide ((L.bals.length : Int) ≤ 24)))) := by
    rw [Bool.eq_iff_iff]
    simp only [limB, wiB, Bool.and_eq_true, decide_eq_true_eq]
    omega
  rw [EQ]
  clear EQ
  obtain ⟨nm, es⟩ : ∃ s, str L.name = s := ⟨_, rfl⟩
  rw [es]
  clear es
  have KW := within_any
  cases h0 : wiB (L.els.length : Int) 1 32 with
  | false =>
    go_enter Tryz.func24, Tryz.ntmps24
    go_wp2_with (go_at_call 54; refine (KW _ _ _ _).mono ?_; rintro e w1 ⟨rfl, rfl⟩)
    go_ret
    exact ⟨rfl, b1w _ _⟩
  | true =>
    cases h1 : wiB (L.secs.length : Int) 1 24 with
    | false =>
      go_enter Tryz.func24, Tryz.ntmps24
      go_wp2_with (go_at_call 54; refine (KW _ _ _ _).mono ?_; rintro e w1 ⟨rfl, rfl⟩)
      go_ret
      exact ⟨rfl, b1w _ _⟩
    | true =>
      cases h2 : decide ((L.sigs.length : Int) ≤ 20) with
      | false =>
        go_enter Tryz.func24, Tryz.ntmps24
        go_wp2_with (go_at_call 54; refine (KW _ _ _ _).mono ?_; rintro e w1 ⟨rfl, rfl⟩)
        go_ret
        exact ⟨rfl, b1w _ _⟩
      | true =>
        cases h3 : decide ((L.bals.length : Int) ≤ 24) with
        | false =>
          go_enter Tryz.func24, Tryz.ntmps24
          go_wp2_with (go_at_call 54; refine (KW _ _ _ _).mono ?_; rintro e w1 ⟨rfl, rfl⟩)
          go_ret
          exact ⟨rfl, b1w _ _⟩
        | true =>
          go_enter Tryz.func24, Tryz.ntmps24
          go_wp2_with (go_at_call 54; refine (KW _ _ _ _).mono ?_; rintro e w1 ⟨rfl, rfl⟩)
          go_ret
          exact ⟨rfl, b1w _ _⟩

theorem namesE_any (x : ElD) (w : World) (hl : x.name.length ≤ 9223372036854775807) : Calls Tryz.prog 58 #[.agg #[str x.name, .int .i64 x.kind, .int .i64 x.length, .int .i64 x.grade, .int .i64 x.speed, .int .i64 x.slow, .int .i64 x.sec]] w (RetB w (isName x.name)) := by
  have K := fun ww => name_any x.name ww hl
  obtain ⟨q, hq⟩ : ∃ q, isName x.name = q := ⟨_, rfl⟩
  rw [hq]
  simp only [hq] at K
  clear hq
  go_enter Tryz.func58, Tryz.ntmps58
  go_wp2_with (go_at_call 55; refine (K _).mono ?_; rintro e w1 ⟨rfl, b1⟩)
  go_ret
  exact ⟨rfl, bnew b1⟩
theorem namesG_any (x : SigD) (w : World) (hl : x.name.length ≤ 9223372036854775807) : Calls Tryz.prog 60 #[.agg #[str x.name, .int .i64 x.at_.1, .int .i64 x.at_.2, .int .i64 x.overlap]] w (RetB w (isName x.name)) := by
  have K := fun ww => name_any x.name ww hl
  obtain ⟨q, hq⟩ : ∃ q, isName x.name = q := ⟨_, rfl⟩
  rw [hq]
  simp only [hq] at K
  clear hq
  go_enter Tryz.func60, Tryz.ntmps60
  go_wp2_with (go_at_call 55; refine (K _).mono ?_; rintro e w1 ⟨rfl, b1⟩)
  go_ret
  exact ⟨rfl, bnew b1⟩
set_option maxRecDepth 100000 in
set_option maxHeartbeats 4000000 in
theorem names_any (v : Value) (L : LayD) (w : World) (hv : RLay w v L) (hs : ∀ s ∈ allNames L, s.length ≤ 9223372036854775807) : Calls Tryz.prog 25 #[v] w (RetB w (namB isName L)) := by
  have HV := Lib.hid hv
  obtain ⟨v1, v2, v3, v4, v5, rfl, r1, r2, r3, r4, r5⟩ := hv
  obtain ⟨a1, c1, rfl, ⟨m1, _⟩, _⟩ := r1.openS
  obtain ⟨a2, c2, rfl, ⟨m2, _⟩, _⟩ := r2.openM
  obtain ⟨a3, c3, rfl, ⟨m3, _⟩, _⟩ := r3.openM
  obtain ⟨a4, c4, rfl, ⟨m4, _⟩, _⟩ := r4.openM
  obtain ⟨a5, c5, rfl, ⟨m5, _⟩, _⟩ := r5.openM
  unfold namB
  have l1 : L.name.length ≤ 9223372036854775807 := hs _ (by simp [allNames])
  have K1 := fun ww => name_any L.name ww l1
  have K2 := fun W (h : Below w.heap.size w W) => all_S _ L.secs W 55 #[] isName (enters_of Tryz.func55 (by kernel_rfl) rfl) (r1.below h) (fun x hx ww _ => name_any x ww (hs _ (by simp [allNames, hx])))
  have K3 := fun W (h : Below w.heap.size w W) => all_E _ L.els W 58 #[] (fun x => isName x.name) (enters_of Tryz.func58 (by kernel_rfl) rfl) (r2.below h) (fun x hx ww _ => namesE_any x ww (hs _ (by simp only [allNames, List.mem_cons, List.mem_append, List.mem_map]; grind)))
  have K4 := fun W (h : Below w.heap.size w W) => all_G _ L.sigs W 60 #[] (fun x => isName x.name) (enters_of Tryz.func60 (by kernel_rfl) rfl) (r4.below h) (fun x hx ww _ => namesG_any x ww (hs _ (by simp only [allNames, List.mem_cons, List.mem_append, List.mem_map]; grind)))
  obtain ⟨q1, e1⟩ : ∃ q, isName L.name = q := ⟨_, rfl⟩
  obtain ⟨q2, e2⟩ : ∃ q, L.secs.all isName = q := ⟨_, rfl⟩
  obtain ⟨q3, e3⟩ : ∃ q, L.els.all (fun x => isName x.name) = q := ⟨_, rfl⟩
  obtain ⟨q4, e4⟩ : ∃ q, L.sigs.all (fun x => isName x.name) = q := ⟨_, rfl⟩
  rw [e1, e2, e3, e4]
  simp only [e1] at K1
  simp only [e2] at K2
  simp only [e3] at K3
  simp only [e4] at K4
  replace K2 := Lib.hid K2
  replace K3 := Lib.hid K3
  replace K4 := Lib.hid K4
  clear r1 r2 r3 r4 r5 HV e1 e2 e3 e4 hs l1 m1 m2 m3 m4 m5
  obtain ⟨LV, hLV⟩ : ∃ LV : Array Value, LV = #[str L.name, .slice a1 L.secs.length c1, .slice a2 L.els.length c2, .slice a3 L.joints.length c3, .slice a4 L.sigs.length c4, .slice a5 L.bals.length c5] := ⟨_, rfl⟩
  obtain ⟨W1, hW⟩ : ∃ W1, W1 = w.alloc (.cells LV 28) := ⟨_, rfl⟩
  have HB : Below w.heap.size w W1 := by rw [hW]; exact b1w _ _
  have G1 : Blk W1 w.heap.size LV := by rw [hW]; exact Blk.new _ _ _ _ rfl
  rw [hLV] at G1
  have SK : ∀ W, Below W1.heap.size W1 W → Below w.heap.size w W ∧ Blk W w.heap.size #[str L.name, .slice a1 L.secs.length c1, .slice a2 L.els.length c2, .slice a3 L.joints.length c3, .slice a4 L.sigs.length c4, .slice a5 L.bals.length c5] ∧ W.cell? ⟨w.heap.size, 0, none⟩ = some (str L.name) ∧ W.cell? ⟨w.heap.size, 1, none⟩ = some (.slice a1 L.secs.length c1) ∧ W.cell? ⟨w.heap.size, 2, none⟩ = some (.slice a2 L.els.length c2) ∧
      W.cell? ⟨w.heap.size, 3, none⟩ = some (.slice a3 L.joints.length c3) ∧ W.cell? ⟨w.heap.size, 4, none⟩ = some (.slice a4 L.sigs.length c4) ∧ W.cell? ⟨w.heap.size, 5, none⟩ = some (.slice a5 L.bals.length c5) := by
    intro W h
    have b := G1.below h
    exact ⟨HB.trans (h.mono HB.size), b, b.at 0 _ rfl, b.at 1 _ rfl, b.at 2 _ rfl, b.at 3 _ rfl, b.at 4 _ rfl, b.at 5 _ rfl⟩
  replace SK := Lib.hid SK
  go_enter Tryz.func25, Tryz.ntmps25
  go_wp2_with fail
  rw [← hLV, ← hW]
  clear hW hLV
  refine (K1 _).mono ?_
  rintro e w1 ⟨rfl, b1⟩
  have d1 : Below W1.heap.size W1 w1 := b1
  obtain ⟨hw1, g1, k10, k11, k12, k13, k14, k15⟩ := SK.out _ d1
  cases q1 with
  | false =>
    go_wp2
    go_ret
    exact ⟨rfl, hw1⟩
  | true =>
    go_wp2_with fail
    refine (K2.out _ hw1).mono ?_
    rintro e w2 ⟨rfl, b2⟩
    have d2 : Below W1.heap.size W1 w2 := d1.trans (b2.mono d1.size)
    obtain ⟨hw2, g2, k20, k21, k22, k23, k24, k25⟩ := SK.out _ d2
    clear k10 k11 k12 k13 k14 k15
    cases q2 with
    | false =>
      go_wp2
      go_ret
      exact ⟨rfl, hw2⟩
    | true =>
      go_wp2_with fail
      refine (K3.out _ hw2).mono ?_
      rintro e w3 ⟨rfl, b3⟩
      have d3 : Below W1.heap.size W1 w3 := d2.trans (b3.mono d2.size)
      obtain ⟨hw3, g3, k30, k31, k32, k33, k34, k35⟩ := SK.out _ d3
      clear k20 k21 k22 k23 k24 k25
      cases q3 with
      | false =>
        go_wp2
        go_ret
        exact ⟨rfl, hw3⟩
      | true =>
        go_wp2_with fail
        refine (K4.out _ hw3).mono ?_
        rintro e w4 ⟨rfl, b4⟩
        have d4 : Below W1.heap.size W1 w4 := d3.trans (b4.mono d3.size)
        obtain ⟨hw4, g4, k40, k41, k42, k43, k44, k45⟩ := SK.out _ d4
        clear k30 k31 k32 k33 k34 k35
        go_wp2
        go_ret
        exact ⟨rfl, hw4⟩

theorem nameOfS_any (x : L8) (w : World) : Calls Tryz.prog 62 #[str x] w (RetV w (str x)) := by
  go_enter Tryz.func62, Tryz.ntmps62
  go_wp2
  go_ret
  exact ⟨rfl, Below.refl _ _⟩

theorem nameOfE_any (x : ElD) (w : World) : Calls Tryz.prog 64 #[.agg #[str x.name, .int .i64 x.kind, .int .i64 x.length, .int .i64 x.grade, .int .i64 x.speed, .int .i64 x.slow, .int .i64 x.sec]] w (RetV w (str x.name)) := by
  go_enter Tryz.func64, Tryz.ntmps64
  go_wp2
  go_ret
  exact ⟨rfl, b1w _ _⟩

theorem nameOfG_any (x : SigD) (w : World) : Calls Tryz.prog 66 #[.agg #[str x.name, .int .i64 x.at_.1, .int .i64 x.at_.2, .int .i64 x.overlap]] w (RetV w (str x.name)) := by
  go_enter Tryz.func66, Tryz.ntmps66
  go_wp2
  go_ret
  exact ⟨rfl, b1w _ _⟩
set_option maxRecDepth 100000 in
set_option maxHeartbeats 4000000 in
theorem namesDiffer_any (v : Value) (L : LayD) (w : World) (hv : RLay w v L) : Calls Tryz.prog 26 #[v] w (RetB w (dupB L)) := by
  have HV := Lib.hid hv
  obtain ⟨v1, v2, v3, v4, v5, rfl, r1, r2, r3, r4, r5⟩ := hv
  obtain ⟨a1, c1, rfl, ⟨m1, _⟩, _⟩ := r1.openS
  obtain ⟨a2, c2, rfl, ⟨m2, _⟩, _⟩ := r2.openM
  obtain ⟨a3, c3, rfl, ⟨m3, _⟩, _⟩ := r3.openM
  obtain ⟨a4, c4, rfl, ⟨m4, _⟩, _⟩ := r4.openM
  obtain ⟨a5, c5, rfl, ⟨m5, _⟩, _⟩ := r5.openM
  have EQ : dupB L = (decide (L.secs.map fun x => x).Nodup && (decide (L.els.map ElD.name).Nodup && decide (L.sigs.map SigD.name).Nodup)) := by unfold dupB; simp
  rw [EQ]
  clear EQ
  have K1 := fun W (h : Below w.heap.size w W) => differ_Ss _ L.secs W 62 (fun x => x) (enters_of Tryz.func62 (by kernel_rfl) rfl) (r1.below h) (fun x hx ww _ => nameOfS_any x ww)
  have K2 := fun W (h : Below w.heap.size w W) => differ_Es _ L.els W 64 ElD.name (enters_of Tryz.func64 (by kernel_rfl) rfl) (r2.below h) (fun x hx ww _ => nameOfE_any x ww)
  have K3 := fun W (h : Below w.heap.size w W) => differ_Gs _ L.sigs W 66 SigD.name (enters_of Tryz.func66 (by kernel_rfl) rfl) (r4.below h) (fun x hx ww _ => nameOfG_any x ww)
  obtain ⟨q1, e1⟩ : ∃ q, decide (L.secs.map fun x => x).Nodup = q := ⟨_, rfl⟩
  obtain ⟨q2, e2⟩ : ∃ q, decide (L.els.map ElD.name).Nodup = q := ⟨_, rfl⟩
  obtain ⟨q3, e3⟩ : ∃ q, decide (L.sigs.map SigD.name).Nodup = q := ⟨_, rfl⟩
  rw [e1, e2, e3]
  rw [e1] at K1
  rw [e2] at K2
  rw [e3] at K3
  replace K1 := Lib.hid K1
  replace K2 := Lib.hid K2
  replace K3 := Lib.hid K3
  clear r1 r2 r3 r4 r5 HV e1 e2 e3 m1 m2 m3 m4 m5
  obtain ⟨LV, hLV⟩ : ∃ LV : Array Value, LV = #[str L.name, .slice a1 L.secs.length c1, .slice a2 L.els.length c2, .slice a3 L.joints.length c3, .slice a4 L.sigs.length c4, .slice a5 L.bals.length c5] := ⟨_, rfl⟩
  obtain ⟨W1, hW⟩ : ∃ W1, W1 = w.alloc (.cells LV 28) := ⟨_, rfl⟩
  have HB : Below w.heap.size w W1 := by rw [hW]; exact b1w _ _
  have G1 : Blk W1 w.heap.size LV := by rw [hW]; exact Blk.new _ _ _ _ rfl
  rw [hLV] at G1
  have SK : ∀ W, Below W1.heap.size W1 W → Below w.heap.size w W ∧ Blk W w.heap.size #[str L.name, .slice a1 L.secs.length c1, .slice a2 L.els.length c2, .slice a3 L.joints.length c3, .slice a4 L.sigs.length c4, .slice a5 L.bals.length c5] ∧ W.cell? ⟨w.heap.size, 0, none⟩ = some (str L.name) ∧ W.cell? ⟨w.heap.size, 1, none⟩ = some (.slice a1 L.secs.length c1) ∧ W.cell? ⟨w.heap.size, 2, none⟩ = some (.slice a2 L.els.length c2) ∧
      W.cell? ⟨w.heap.size, 3, none⟩ = some (.slice a3 L.joints.length c3) ∧ W.cell? ⟨w.heap.size, 4, none⟩ = some (.slice a4 L.sigs.length c4) ∧ W.cell? ⟨w.heap.size, 5, none⟩ = some (.slice a5 L.bals.length c5) := by
    intro W h
    have b := G1.below h
    exact ⟨HB.trans (h.mono HB.size), b, b.at 0 _ rfl, b.at 1 _ rfl, b.at 2 _ rfl, b.at 3 _ rfl, b.at 4 _ rfl, b.at 5 _ rfl⟩
  replace SK := Lib.hid SK
  go_enter Tryz.func26, Tryz.ntmps26
  go_wp2_with fail
  rw [← hLV, ← hW]
  clear hW hLV
  refine (K1.out _ HB).mono ?_
  rintro e w1 ⟨rfl, b1⟩
  have d1 : Below W1.heap.size W1 w1 := b1
  obtain ⟨hw1, g1, k10, k11, k12, k13, k14, k15⟩ := SK.out _ d1
  cases q1 with
  | false =>
    go_wp2
    go_ret
    exact ⟨rfl, hw1⟩
  | true =>
    go_wp2_with fail
    refine (K2.out _ hw1).mono ?_
    rintro e w2 ⟨rfl, b2⟩
    have d2 : Below W1.heap.size W1 w2 := d1.trans (b2.mono d1.size)
    obtain ⟨hw2, g2, k20, k21, k22, k23, k24, k25⟩ := SK.out _ d2
    clear k10 k11 k12 k13 k14 k15
    cases q2 with
    | false =>
      go_wp2
      go_ret
      exact ⟨rfl, hw2⟩
    | true =>
      go_wp2_with fail
      refine (K3.out _ hw2).mono ?_
      rintro e w3 ⟨rfl, b3⟩
      have d3 : Below W1.heap.size W1 w3 := d2.trans (b3.mono d2.size)
      obtain ⟨hw3, g3, k30, k31, k32, k33, k34, k35⟩ := SK.out _ d3
      clear k20 k21 k22 k23 k24 k25
      go_wp2
      go_ret
      exact ⟨rfl, hw3⟩

theorem atOfG_any (x : SigD) (w : World) : Calls Tryz.prog 78 #[.agg #[str x.name, .int .i64 x.at_.1, .int .i64 x.at_.2, .int .i64 x.overlap]] w (RetV w (endV x.at_)) := by
  go_enter Tryz.func78, Tryz.ntmps78
  go_wp2
  refine ret_cell1 rfl Tryz.underlying47 rfl (cs := #[.int .i64 x.at_.1, .int .i64 x.at_.2]) (by kernel_rfl) rfl (Blk.new _ _ _ _ (by simp)) rfl ⟨rfl, ?_⟩
  exact (b1w _ _).alloc (by simp) _
theorem idOfB_any (x : BalD) (w : World) : Calls Tryz.prog 84 #[.agg #[.int .i64 x.id, .int .i64 x.el, .int .i64 x.off]] w (RetV w (.int .i64 x.id)) := by
  go_enter Tryz.func84, Tryz.ntmps84
  go_wp2
  go_ret
  exact ⟨rfl, b1w _ _⟩
set_option maxRecDepth 100000 in
set_option maxHeartbeats 4000000 in
theorem signalsEnd_any (v : Value) (L : LayD) (w : World) (hv : RLay w v L) : Calls Tryz.prog 32 #[v] w (RetB w (sdB L)) := by
  have HV := Lib.hid hv
  obtain ⟨v1, v2, v3, v4, v5, rfl, r1, r2, r3, r4, r5⟩ := hv
  obtain ⟨a1, c1, rfl, ⟨m1, _⟩, _⟩ := r1.openS
  obtain ⟨a2, c2, rfl, ⟨m2, _⟩, _⟩ := r2.openM
  obtain ⟨a3, c3, rfl, ⟨m3, _⟩, _⟩ := r3.openM
  obtain ⟨a4, c4, rfl, ⟨m4, _⟩, _⟩ := r4.openM
  obtain ⟨a5, c5, rfl, ⟨m5, _⟩, _⟩ := r5.openM
  have K1 := fun W (h : Below w.heap.size w W) => differ_Ge _ L.sigs W 78 SigD.at_ (enters_of Tryz.func78 (by kernel_rfl) rfl) (r4.below h) (fun x hx ww _ => atOfG_any x ww)
  obtain ⟨q1, e1⟩ : ∃ q, sdB L = q := ⟨_, rfl⟩
  rw [e1]
  simp only [sdB] at e1
  simp only [e1] at K1
  replace K1 := Lib.hid K1
  clear r1 r2 r3 r4 r5 HV e1 m1 m2 m3 m4 m5
  obtain ⟨LV, hLV⟩ : ∃ LV : Array Value, LV = #[str L.name, .slice a1 L.secs.length c1, .slice a2 L.els.length c2, .slice a3 L.joints.length c3, .slice a4 L.sigs.length c4, .slice a5 L.bals.length c5] := ⟨_, rfl⟩
  obtain ⟨W1, hW⟩ : ∃ W1, W1 = w.alloc (.cells LV 28) := ⟨_, rfl⟩
  have HB : Below w.heap.size w W1 := by rw [hW]; exact b1w _ _
  have G1 : Blk W1 w.heap.size LV := by rw [hW]; exact Blk.new _ _ _ _ rfl
  rw [hLV] at G1
  have SK : ∀ W, Below W1.heap.size W1 W → Below w.heap.size w W ∧ Blk W w.heap.size #[str L.name, .slice a1 L.secs.length c1, .slice a2 L.els.length c2, .slice a3 L.joints.length c3, .slice a4 L.sigs.length c4, .slice a5 L.bals.length c5] ∧ W.cell? ⟨w.heap.size, 0, none⟩ = some (str L.name) ∧ W.cell? ⟨w.heap.size, 1, none⟩ = some (.slice a1 L.secs.length c1) ∧ W.cell? ⟨w.heap.size, 2, none⟩ = some (.slice a2 L.els.length c2) ∧
      W.cell? ⟨w.heap.size, 3, none⟩ = some (.slice a3 L.joints.length c3) ∧ W.cell? ⟨w.heap.size, 4, none⟩ = some (.slice a4 L.sigs.length c4) ∧ W.cell? ⟨w.heap.size, 5, none⟩ = some (.slice a5 L.bals.length c5) := by
    intro W h
    have b := G1.below h
    exact ⟨HB.trans (h.mono HB.size), b, b.at 0 _ rfl, b.at 1 _ rfl, b.at 2 _ rfl, b.at 3 _ rfl, b.at 4 _ rfl, b.at 5 _ rfl⟩
  replace SK := Lib.hid SK
  go_enter Tryz.func32, Tryz.ntmps32
  go_wp2_with fail
  rw [← hLV, ← hW]
  clear hW hLV
  refine (K1.out _ HB).mono ?_
  rintro e w1 ⟨rfl, b1⟩
  have d1 : Below W1.heap.size W1 w1 := b1
  obtain ⟨hw1, g1, k10, k11, k12, k13, k14, k15⟩ := SK.out _ d1
  go_wp2
  go_ret
  exact ⟨rfl, hw1⟩
set_option maxRecDepth 100000 in
set_option maxHeartbeats 4000000 in
theorem balisesDiffer_any (v : Value) (L : LayD) (w : World) (hv : RLay w v L) : Calls Tryz.prog 35 #[v] w (RetB w (bdB L)) := by
  have HV := Lib.hid hv
  obtain ⟨v1, v2, v3, v4, v5, rfl, r1, r2, r3, r4, r5⟩ := hv
  obtain ⟨a1, c1, rfl, ⟨m1, _⟩, _⟩ := r1.openS
  obtain ⟨a2, c2, rfl, ⟨m2, _⟩, _⟩ := r2.openM
  obtain ⟨a3, c3, rfl, ⟨m3, _⟩, _⟩ := r3.openM
  obtain ⟨a4, c4, rfl, ⟨m4, _⟩, _⟩ := r4.openM
  obtain ⟨a5, c5, rfl, ⟨m5, _⟩, _⟩ := r5.openM
  have K1 := fun W (h : Below w.heap.size w W) => differ_Bi _ L.bals W 84 BalD.id (enters_of Tryz.func84 (by kernel_rfl) rfl) (r5.below h) (fun x hx ww _ => idOfB_any x ww)
  obtain ⟨q1, e1⟩ : ∃ q, bdB L = q := ⟨_, rfl⟩
  rw [e1]
  simp only [bdB] at e1
  simp only [e1] at K1
  replace K1 := Lib.hid K1
  clear r1 r2 r3 r4 r5 HV e1 m1 m2 m3 m4 m5
  obtain ⟨LV, hLV⟩ : ∃ LV : Array Value, LV = #[str L.name, .slice a1 L.secs.length c1, .slice a2 L.els.length c2, .slice a3 L.joints.length c3, .slice a4 L.sigs.length c4, .slice a5 L.bals.length c5] := ⟨_, rfl⟩
  obtain ⟨W1, hW⟩ : ∃ W1, W1 = w.alloc (.cells LV 28) := ⟨_, rfl⟩
  have HB : Below w.heap.size w W1 := by rw [hW]; exact b1w _ _
  have G1 : Blk W1 w.heap.size LV := by rw [hW]; exact Blk.new _ _ _ _ rfl
  rw [hLV] at G1
  have SK : ∀ W, Below W1.heap.size W1 W → Below w.heap.size w W ∧ Blk W w.heap.size #[str L.name, .slice a1 L.secs.length c1, .slice a2 L.els.length c2, .slice a3 L.joints.length c3, .slice a4 L.sigs.length c4, .slice a5 L.bals.length c5] ∧ W.cell? ⟨w.heap.size, 0, none⟩ = some (str L.name) ∧ W.cell? ⟨w.heap.size, 1, none⟩ = some (.slice a1 L.secs.length c1) ∧ W.cell? ⟨w.heap.size, 2, none⟩ = some (.slice a2 L.els.length c2) ∧
      W.cell? ⟨w.heap.size, 3, none⟩ = some (.slice a3 L.joints.length c3) ∧ W.cell? ⟨w.heap.size, 4, none⟩ = some (.slice a4 L.sigs.length c4) ∧ W.cell? ⟨w.heap.size, 5, none⟩ = some (.slice a5 L.bals.length c5) := by
    intro W h
    have b := G1.below h
    exact ⟨HB.trans (h.mono HB.size), b, b.at 0 _ rfl, b.at 1 _ rfl, b.at 2 _ rfl, b.at 3 _ rfl, b.at 4 _ rfl, b.at 5 _ rfl⟩
  replace SK := Lib.hid SK
  go_enter Tryz.func35, Tryz.ntmps35
  go_wp2_with fail
  rw [← hLV, ← hW]
  clear hW hLV
  refine (K1.out _ HB).mono ?_
  rintro e w1 ⟨rfl, b1⟩
  have d1 : Below W1.heap.size W1 w1 := b1
  obtain ⟨hw1, g1, k10, k11, k12, k13, k14, k15⟩ := SK.out _ d1
  go_wp2
  go_ret
  exact ⟨rfl, hw1⟩
end
section
open Go.ChangeShapes Go.WideShapes Go.ChangeAt Go.RowKit
set_option maxRecDepth 100000 in
set_option maxHeartbeats 4000000 in
theorem exists_any (v : Value) (L : LayD) (e s : Int) (w : World) (hG : GW w) (hv : RLay w v L) : Calls Tryz.prog 74 #[v, .agg #[.int .i64 e, .int .i64 s]] w (RetB w (exS L.els (e, s))) := by
  obtain ⟨v1, v2, v3, v4, v5, rfl, h1, h2, h3, h4, h5⟩ := hv
  clear h1 h3 h4 h5
  obtain ⟨a2, c2, rfl, ⟨m2, _⟩, HC⟩ := h2.openM
  clear h2
  obtain ⟨nm, es⟩ : ∃ s, str L.name = s := ⟨_, rfl⟩
  have hbb : Below w.heap.size w w := Below.refl _ _
  have KI := fun (n k : Int) (h0 : 0 ≤ k) (h1 : k ≤ 9223372036854775807) ww => isIndex_any n k ww h0 h1
  by_cases hs : e < 0 ∨ (L.els.length : Int) ≤ e
  · have e1 : (decide (0 ≤ e) && decide (e < (L.els.length : Int))) = false := by
      rcases hs with h | h
      · rw [decide_eq_false (by omega), Bool.false_and]
      · rw [decide_eq_false (p := e < _) (by omega), Bool.and_false]
    have eq : exS L.els (e, s) = false := exS_false (by rcases hs with h | h; exact Or.inl h; exact Or.inr (Or.inl h))
    rw [es, eq]
    have K1 := KI e L.els.length (by omega) (by omega)
    rw [e1] at K1
    obtain ⟨n, en⟩ : ∃ n, L.els.length = n := ⟨_, rfl⟩
    rw [en] at K1 ⊢
    clear hs HC en es e1 KI eq
    go_enter Tryz.func74, Tryz.ntmps74
    go_wp2
    go_quiet ((go_at_call 70; exact Calls.quiet_of_same ((K1 _).mono fun e w' h => ⟨h.1, h.2.symm⟩)))
    go_wp2
    go_ret
    exact ⟨rfl, bdrew ((hbb.alloc (Nat.le_refl _) _).alloc (by simp) _) _⟩
  · have e1 : (decide (0 ≤ e) && decide (e < (L.els.length : Int))) = true := by
      rw [decide_eq_true (by omega), decide_eq_true (by omega)]; rfl
    obtain ⟨k, rfl⟩ : ∃ k : Nat, e = k := ⟨e.toNat, by omega⟩
    have hk : k < L.els.length := by omega
    obtain ⟨y, hy, _⟩ := at_take hk
    have eq : exS L.els ((k : Int), s) = (decide (0 ≤ s) && decide (s < sidesS y.kind)) := by
      by_cases h : s < 0
      · rw [exS_false (Or.inr (Or.inr h)), decide_eq_false (by omega), Bool.false_and]
      · rw [exS_in hy h, decide_eq_true (p := 0 ≤ s) (by omega), Bool.true_and]
    rw [eq, es]
    obtain ⟨b, off, rfl, hlt, hc⟩ := HC.out.rd hbb hy
    have cK := hc 1 _ rfl
    have t3 : ((k : Int) < (L.els.length : Int)) := by omega
    have K1 := KI k L.els.length (by omega) (by omega)
    have K2 := KI s (sidesS y.kind) (sides_le _).1 (by have := (sides_le y.kind).2; omega)
    rw [e1] at K1
    have KS := fun ww (h : GW ww) => sides_any y.kind ww h
    obtain ⟨q, hq⟩ : ∃ q, sidesS y.kind = q := ⟨_, rfl⟩
    rw [hq] at K2 ⊢
    simp only [hq] at KS
    obtain ⟨kd, hkd⟩ : ∃ kd, y.kind = kd := ⟨_, rfl⟩
    simp only [hkd] at KS cK
    obtain ⟨n, en⟩ : ∃ n, L.els.length = n := ⟨_, rfl⟩
    rw [en] at K1 t3 hk ⊢
    obtain ⟨rr, hrr⟩ : ∃ rr, (decide (0 ≤ s) && decide (s < q)) = rr := ⟨_, rfl⟩
    rw [hrr] at K2 ⊢
    have hG2 : ∀ o1 o2, GW ((w.alloc o1).alloc o2) := fun o1 o2 => hG.below ((hbb.alloc (Nat.le_refl _) _).alloc (by simp) _)
    have KS2 : ∀ o1 o2 m, Calls Tryz.prog 68 #[.int .i64 kd] (((w.alloc o1).alloc o2).drewN m) (fun e w' => e = .returned (.int .i64 q) ∧ ((w.alloc o1).alloc o2).drewN m = w') := fun o1 o2 m => KS (((w.alloc o1).alloc o2).drewN m) (hG2 o1 o2)
    clear hs HC en es e1 KI eq hc hy hq hkd hrr hG m2 hG2 KS
    go_enter Tryz.func74, Tryz.ntmps74
    go_wp2
    go_quiet ((first
      | (go_at_call 70; first | exact Calls.quiet_of_same ((K1 _).mono fun e w' h => ⟨h.1, h.2.symm⟩) | exact Calls.quiet_of_same ((K2 _).mono fun e w' h => ⟨h.1, h.2.symm⟩))
      | (go_at_call 68; exact Calls.quiet_of_same ((KS2 _ _ _).mono fun e w' h => ⟨h.1, h.2.symm⟩))))
    go_wp2
    go_ret
    exact ⟨rfl, bdrew ((hbb.alloc (Nat.le_refl _) _).alloc (by simp) _) _⟩
end
end Go.Proofs.YteafkginhejllaaGreatDoor
