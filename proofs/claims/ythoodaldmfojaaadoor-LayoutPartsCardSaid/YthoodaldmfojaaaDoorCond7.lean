/- Contracts of the conditions of Check that ask no map of ends. Conditions: the layout can be read; its texts have the length of a text; what the program reads (GW). -/
import Derived.Test.YthoodaldmfojaaaDoorParts7b
import Derived.Test.YthoodaldmfojaaaDoorDif7
import Derived.Test.YthoodaldmfojaaaDoorNm7
import Derived.Test.YthoodaldmfojaaaDoorRchk7
namespace Go.Proofs.YthoodaldmfojaaaDoor
open Go.ChangeShapes Go.WideShapes Go.ChangeAt Go.RowKit
theorem b1w (w : World) (o : Obj) : Below w.heap.size w (w.alloc o) := (Below.refl _ _).alloc (Nat.le_refl _) _
theorem bnew {w w' : World} {o : Obj} (h : Below (w.alloc o).heap.size (w.alloc o) w') : Below w.heap.size w w' := (b1w w o).trans (h.mono (by simp))

set_option maxRecDepth 100000 in
set_option maxHeartbeats 4000000 in
theorem sizes_any (v : Value) (L : LayD) (w : World) (hv : RLay w v L) : Calls Tryd.prog 18 #[v] w (RetB w (limB L)) := by
  have HV := Lib.hid hv
  obtain ⟨v1, v2, v3, v4, v5, rfl, r1, r2, r3, r4, r5⟩ := hv
  obtain ⟨a1, c1, rfl, ⟨m1, _⟩, _⟩ := r1.openS
  obtain ⟨a2, c2, rfl, ⟨m2, _⟩, _⟩ := r2.openM
  obtain ⟨a3, c3, rfl, ⟨m3, _⟩, _⟩ := r3.openM
  obtain ⟨a4, c4, rfl, ⟨m4, _⟩, _⟩ := r4.openM
  obtain ⟨a5, c5, rfl, ⟨m5, _⟩, _⟩ := r5.openM
  clear r1 r2 r3 r4 r5 HV
  have EQ : limB L = (wiB (L.els.length : Int) 1 32 && (wiB (L.secs.length : Int) 1 24 && (decide ((L.sigs.length : Int) ≤ 20) && decide ((L.bals.length : Int) ≤ 24)))) := by
    rw [Bool.eq_iff_iff]
    simp only [limB, wiB, Bool.and_eq_true, decide_eq_true_eq]
    omega
  rw [EQ]
  clear EQ
  obtain ⟨nm, es⟩ : ∃ s, str L.name = s := ⟨_, rfl⟩
  rw [es]
  clear es
  have KW := within_any
  cases h0 : wiB (L.els.length : Int) 1 32 with
  | false =>
    go_enter Tryd.func18, Tryd.ntmps18
    go_wp2_with (go_at_call 44; refine (KW _ _ _ _).mono ?_; rintro e w1 ⟨rfl, rfl⟩)
    go_ret
    exact ⟨rfl, b1w _ _⟩
  | true =>
    cases h1 : wiB (L.secs.length : Int) 1 24 with
    | false =>
      go_enter Tryd.func18, Tryd.ntmps18
      go_wp2_with (go_at_call 44; refine (KW _ _ _ _).mono ?_; rintro e w1 ⟨rfl, rfl⟩)
      go_ret
      exact ⟨rfl, b1w _ _⟩
    | true =>
      cases h2 : decide ((L.sigs.length : Int) ≤ 20) with
      | false =>
        go_enter Tryd.func18, Tryd.ntmps18
        go_wp2_with (go_at_call 44; refine (KW _ _ _ _).mono ?_; rintro e w1 ⟨rfl, rfl⟩)
        go_ret
        exact ⟨rfl, b1w _ _⟩
      | true =>
        cases h3 : decide ((L.bals.length : Int) ≤ 24) with
        | false =>
          go_enter Tryd.func18, Tryd.ntmps18
          go_wp2_with (go_at_call 44; refine (KW _ _ _ _).mono ?_; rintro e w1 ⟨rfl, rfl⟩)
          go_ret
          exact ⟨rfl, b1w _ _⟩
        | true =>
          go_enter Tryd.func18, Tryd.ntmps18
          go_wp2_with (go_at_call 44; refine (KW _ _ _ _).mono ?_; rintro e w1 ⟨rfl, rfl⟩)
          go_ret
          exact ⟨rfl, b1w _ _⟩

theorem namesE_any (x : ElD) (w : World) (hl : x.name.length ≤ 9223372036854775807) : Calls Tryd.prog 48 #[.agg #[str x.name, .int .i64 x.kind, .int .i64 x.length, .int .i64 x.grade, .int .i64 x.speed, .int .i64 x.slow, .int .i64 x.sec]] w (RetB w (isName x.name)) := by
  have K := fun ww => name_any x.name ww hl
  obtain ⟨q, hq⟩ : ∃ q, isName x.name = q := ⟨_, rfl⟩
  rw [hq]
  simp only [hq] at K
  clear hq
  go_enter Tryd.func48, Tryd.ntmps48
  go_wp2_with (go_at_call 45; refine (K _).mono ?_; rintro e w1 ⟨rfl, b1⟩)
  go_ret
  exact ⟨rfl, bnew b1⟩
theorem namesG_any (x : SigD) (w : World) (hl : x.name.length ≤ 9223372036854775807) : Calls Tryd.prog 50 #[.agg #[str x.name, .int .i64 x.at_.1, .int .i64 x.at_.2, .int .i64 x.overlap]] w (RetB w (isName x.name)) := by
  have K := fun ww => name_any x.name ww hl
  obtain ⟨q, hq⟩ : ∃ q, isName x.name = q := ⟨_, rfl⟩
  rw [hq]
  simp only [hq] at K
  clear hq
  go_enter Tryd.func50, Tryd.ntmps50
  go_wp2_with (go_at_call 45; refine (K _).mono ?_; rintro e w1 ⟨rfl, b1⟩)
  go_ret
  exact ⟨rfl, bnew b1⟩
set_option maxRecDepth 100000 in
set_option maxHeartbeats 4000000 in
theorem names_any (v : Value) (L : LayD) (w : World) (hv : RLay w v L) (hs : ∀ s ∈ allNames L, s.length ≤ 9223372036854775807) : Calls Tryd.prog 19 #[v] w (RetB w (namB isName L)) := by
  have HV := Lib.hid hv
  obtain ⟨v1, v2, v3, v4, v5, rfl, r1, r2, r3, r4, r5⟩ := hv
  obtain ⟨a1, c1, rfl, ⟨m1, _⟩, _⟩ := r1.openS
  obtain ⟨a2, c2, rfl, ⟨m2, _⟩, _⟩ := r2.openM
  obtain ⟨a3, c3, rfl, ⟨m3, _⟩, _⟩ := r3.openM
  obtain ⟨a4, c4, rfl, ⟨m4, _⟩, _⟩ := r4.openM
  obtain ⟨a5, c5, rfl, ⟨m5, _⟩, _⟩ := r5.openM
  unfold namB
  have l1 : L.name.length ≤ 9223372036854775807 := hs _ (by simp [allNames])
  have K1 := fun ww => name_any L.name ww l1
  have K2 := fun W (h : Below w.heap.size w W) => all_S _ L.secs W 45 #[] isName (enters_of Tryd.func45 (by kernel_rfl) rfl) (r1.below h) (fun x hx ww _ => name_any x ww (hs _ (by simp [allNames, hx])))
  have K3 := fun W (h : Below w.heap.size w W) => all_E _ L.els W 48 #[] (fun x => isName x.name) (enters_of Tryd.func48 (by kernel_rfl) rfl) (r2.below h) (fun x hx ww _ => namesE_any x ww (hs _ (by simp only [allNames, List.mem_cons, List.mem_append, List.mem_map]; grind)))
  have K4 := fun W (h : Below w.heap.size w W) => all_G _ L.sigs W 50 #[] (fun x => isName x.name) (enters_of Tryd.func50 (by kernel_rfl) rfl) (r4.below h) (fun x hx ww _ => namesG_any x ww (hs _ (by simp only [allNames, List.mem_cons, List.mem_append, List.mem_map]; grind)))
  obtain ⟨q1, e1⟩ : ∃ q, isName L.name = q := ⟨_, rfl⟩
  obtain ⟨q2, e2⟩ : ∃ q, L.secs.all isName = q := ⟨_, rfl⟩
  obtain ⟨q3, e3⟩ : ∃ q, L.els.all (fun x => isName x.name) = q := ⟨_, rfl⟩
  obtain ⟨q4, e4⟩ : ∃ q, L.sigs.all (fun x => isName x.name) = q := ⟨_, rfl⟩
  rw [e1, e2, e3, e4]
  simp only [e1] at K1
  simp only [e2] at K2
  simp only [e3] at K3
  simp only [e4] at K4
  replace K2 := Lib.hid K2
  replace K3 := Lib.hid K3
  replace K4 := Lib.hid K4
  clear r1 r2 r3 r4 r5 HV e1 e2 e3 e4 hs l1 m1 m2 m3 m4 m5
  obtain ⟨LV, hLV⟩ : ∃ LV : Array Value, LV = #[str L.name, .slice a1 L.secs.length c1, .slice a2 L.els.length c2, .slice a3 L.joints.length c3, .slice a4 L.sigs.length c4, .slice a5 L.bals.length c5] := ⟨_, rfl⟩
  obtain ⟨W1, hW⟩ : ∃ W1, W1 = w.alloc (.cells LV 28) := ⟨_, rfl⟩
  have HB : Below w.heap.size w W1 := by rw [hW]; exact b1w _ _
  have G1 : Blk W1 w.heap.size LV := by rw [hW]; exact Blk.new _ _ _ _ rfl
  rw [hLV] at G1
  have SK : ∀ W, Below W1.heap.size W1 W → Below w.heap.size w W ∧ Blk W w.heap.size #[str L.name, .slice a1 L.secs.length c1, .slice a2 L.els.length c2, .slice a3 L.joints.length c3, .slice a4 L.sigs.length c4, .slice a5 L.bals.length c5] ∧ W.cell? ⟨w.heap.size, 0, none⟩ = some (str L.name) ∧ W.cell? ⟨w.heap.size, 1, none⟩ = some (.slice a1 L.secs.length c1) ∧ W.cell? ⟨w.heap.size, 2, none⟩ = some (.slice a2 L.els.length c2) ∧
      W.cell? ⟨w.heap.size, 3, none⟩ = some (.slice a3 L.joints.length c3) ∧ W.cell? ⟨w.heap.size, 4, none⟩ = some (.slice a4 L.sigs.length c4) ∧ W.cell? ⟨w.heap.size, 5, none⟩ = some (.slice a5 L.bals.length c5) := by
    intro W h
    have b := G1.below h
    exact ⟨HB.trans (h.mono HB.size), b, b.at 0 _ rfl, b.at 1 _ rfl, b.at 2 _ rfl, b.at 3 _ rfl, b.at 4 _ rfl, b.at 5 _ rfl⟩
  replace SK := Lib.hid SK
  go_enter Tryd.func19, Tryd.ntmps19
  go_wp2_with fail
  rw [← hLV, ← hW]
  clear hW hLV
  refine (K1 _).mono ?_
  rintro e w1 ⟨rfl, b1⟩
  have d1 : Below W1.heap.size W1 w1 := b1
  obtain ⟨hw1, g1, k10, k11, k12, k13, k14, k15⟩ := SK.out _ d1
  cases q1 with
  | false =>
    go_wp2
    go_ret
    exact ⟨rfl, hw1⟩
  | true =>
    go_wp2_with fail
    refine (K2.out _ hw1).mono ?_
    rintro e w2 ⟨rfl, b2⟩
    have d2 : Below W1.heap.size W1 w2 := d1.trans (b2.mono d1.size)
    obtain ⟨hw2, g2, k20, k21, k22, k23, k24, k25⟩ := SK.out _ d2
    clear k10 k11 k12 k13 k14 k15
    cases q2 with
    | false =>
      go_wp2
      go_ret
      exact ⟨rfl, hw2⟩
    | true =>
      go_wp2_with fail
      refine (K3.out _ hw2).mono ?_
      rintro e w3 ⟨rfl, b3⟩
      have d3 : Below W1.heap.size W1 w3 := d2.trans (b3.mono d2.size)
      obtain ⟨hw3, g3, k30, k31, k32, k33, k34, k35⟩ := SK.out _ d3
      clear k20 k21 k22 k23 k24 k25
      cases q3 with
      | false =>
        go_wp2
        go_ret
        exact ⟨rfl, hw3⟩
      | true =>
        go_wp2_with fail
        refine (K4.out _ hw3).mono ?_
        rintro e w4 ⟨rfl, b4⟩
        have d4 : Below W1.heap.size W1 w4 := d3.trans (b4.mono d3.size)
        obtain ⟨hw4, g4, k40, k41, k42, k43, k44, k45⟩ := SK.out _ d4
        clear k30 k31 k32 k33 k34 k35
        go_wp2
        go_ret
        exact ⟨rfl, hw4⟩

theorem nameOfS_any (x : L8) (w : World) : Calls Tryd.prog 52 #[str x] w (RetV w (str x)) := by
  go_enter Tryd.func52, Tryd.ntmps52
  go_wp2
  go_ret
  exact ⟨rfl, Below.refl _ _⟩

theorem nameOfE_any (x : ElD) (w : World) : Calls Tryd.prog 54 #[.agg #[str x.name, .int .i64 x.kind, .int .i64 x.length, .int .i64 x.grade, .int .i64 x.speed, .int .i64 x.slow, .int .i64 x.sec]] w (RetV w (str x.name)) := by
  go_enter Tryd.func54, Tryd.ntmps54
  go_wp2
  go_ret
  exact ⟨rfl, b1w _ _⟩

theorem nameOfG_any (x : SigD) (w : World) : Calls Tryd.prog 56 #[.agg #[str x.name, .int .i64 x.at_.1, .int .i64 x.at_.2, .int .i64 x.overlap]] w (RetV w (str x.name)) := by
  go_enter Tryd.func56, Tryd.ntmps56
  go_wp2
  go_ret
  exact ⟨rfl, b1w _ _⟩
set_option maxRecDepth 100000 in
set_option maxHeartbeats 4000000 in
theorem namesDiffer_any (v : Value) (L : LayD) (w : World) (hv : RLay w v L) : Calls Tryd.prog 20 #[v] w (RetB w (dupB L)) := by
  have HV := Lib.hid hv
  obtain ⟨v1, v2, v3, v4, v5, rfl, r1, r2, r3, r4, r5⟩ := hv
  obtain ⟨a1, c1, rfl, ⟨m1, _⟩, _⟩ := r1.openS
  obtain ⟨a2, c2, rfl, ⟨m2, _⟩, _⟩ := r2.openM
  obtain ⟨a3, c3, rfl, ⟨m3, _⟩, _⟩ := r3.openM
  obtain ⟨a4, c4, rfl, ⟨m4, _⟩, _⟩ := r4.openM
  obtain ⟨a5, c5, rfl, ⟨m5, _⟩, _⟩ := r5.openM
  have EQ : dupB L = (decide (L.secs.map fun x => x).Nodup && (decide (L.els.map ElD.name).Nodup && decide (L.sigs.map SigD.name).Nodup)) := by unfold dupB; simp
  rw [EQ]
  clear EQ
  have K1 := fun W (h : Below w.heap.size w W) => differ_Ss _ L.secs W 52 (fun x => x) (enters_of Tryd.func52 (by kernel_rfl) rfl) (r1.below h) (fun x hx ww _ => nameOfS_any x ww)
  have K2 := fun W (h : Below w.heap.size w W) => differ_Es _ L.els W 54 ElD.name (enters_of Tryd.func54 (by kernel_rfl) rfl) (r2.below h) (fun x hx ww _ => nameOfE_any x ww)
  have K3 := fun W (h : Below w.heap.size w W) => differ_Gs _ L.sigs W 56 SigD.name (enters_of Tryd.func56 (by kernel_rfl) rfl) (r4.below h) (fun x hx ww _ => nameOfG_any x ww)
  obtain ⟨q1, e1⟩ : ∃ q, decide (L.secs.map fun x => x).Nodup = q := ⟨_, rfl⟩
  obtain ⟨q2, e2⟩ : ∃ q, decide (L.els.map ElD.name).Nodup = q := ⟨_, rfl⟩
  obtain ⟨q3, e3⟩ : ∃ q, decide (L.sigs.map SigD.name).Nodup = q := ⟨_, rfl⟩
  rw [e1, e2, e3]
  rw [e1] at K1
  rw [e2] at K2
  rw [e3] at K3
  replace K1 := Lib.hid K1
  replace K2 := Lib.hid K2
  replace K3 := Lib.hid K3
  clear r1 r2 r3 r4 r5 HV e1 e2 e3 m1 m2 m3 m4 m5
  obtain ⟨LV, hLV⟩ : ∃ LV : Array Value, LV = #[str L.name, .slice a1 L.secs.length c1, .slice a2 L.els.length c2, .slice a3 L.joints.length c3, .slice a4 L.sigs.length c4, .slice a5 L.bals.length c5] := ⟨_, rfl⟩
  obtain ⟨W1, hW⟩ : ∃ W1, W1 = w.alloc (.cells LV 28) := ⟨_, rfl⟩
  have HB : Below w.heap.size w W1 := by rw [hW]; exact b1w _ _
  have G1 : Blk W1 w.heap.size LV := by rw [hW]; exact Blk.new _ _ _ _ rfl
  rw [hLV] at G1
  have SK : ∀ W, Below W1.heap.size W1 W → Below w.heap.size w W ∧ Blk W w.heap.size #[str L.name, .slice a1 L.secs.length c1, .slice a2 L.els.length c2, .slice a3 L.joints.length c3, .slice a4 L.sigs.length c4, .slice a5 L.bals.length c5] ∧ W.cell? ⟨w.heap.size, 0, none⟩ = some (str L.name) ∧ W.cell? ⟨w.heap.size, 1, none⟩ = some (.slice a1 L.secs.length c1) ∧ W.cell? ⟨w.heap.size, 2, none⟩ = some (.slice a2 L.els.length c2) ∧
      W.cell? ⟨w.heap.size, 3, none⟩ = some (.slice a3 L.joints.length c3) ∧ W.cell? ⟨w.heap.size, 4, none⟩ = some (.slice a4 L.sigs.length c4) ∧ W.cell? ⟨w.heap.size, 5, none⟩ = some (.slice a5 L.bals.length c5) := by
    intro W h
    have b := G1.below h
    exact ⟨HB.trans (h.mono HB.size), b, b.at 0 _ rfl, b.at 1 _ rfl, b.at 2 _ rfl, b.at 3 _ rfl, b.at 4 _ rfl, b.at 5 _ rfl⟩
  replace SK := Lib.hid SK
  go_enter Tryd.func20, Tryd.ntmps20
  go_wp2_with fail
  rw [← hLV, ← hW]
  clear hW hLV
  refine (K1.out _ HB).mono ?_
  rintro e w1 ⟨rfl, b1⟩
  have d1 : Below W1.heap.size W1 w1 := b1
  obtain ⟨hw1, g1, k10, k11, k12, k13, k14, k15⟩ := SK.out _ d1
  cases q1 with
  | false =>
    go_wp2
    go_ret
    exact ⟨rfl, hw1⟩
  | true =>
    go_wp2_with fail
    refine (K2.out _ hw1).mono ?_
    rintro e w2 ⟨rfl, b2⟩
    have d2 : Below W1.heap.size W1 w2 := d1.trans (b2.mono d1.size)
    obtain ⟨hw2, g2, k20, k21, k22, k23, k24, k25⟩ := SK.out _ d2
    clear k10 k11 k12 k13 k14 k15
    cases q2 with
    | false =>
      go_wp2
      go_ret
      exact ⟨rfl, hw2⟩
    | true =>
      go_wp2_with fail
      refine (K3.out _ hw2).mono ?_
      rintro e w3 ⟨rfl, b3⟩
      have d3 : Below W1.heap.size W1 w3 := d2.trans (b3.mono d2.size)
      obtain ⟨hw3, g3, k30, k31, k32, k33, k34, k35⟩ := SK.out _ d3
      clear k20 k21 k22 k23 k24 k25
      go_wp2
      go_ret
      exact ⟨rfl, hw3⟩

theorem atOfG_any (x : SigD) (w : World) : Calls Tryd.prog 65 #[.agg #[str x.name, .int .i64 x.at_.1, .int .i64 x.at_.2, .int .i64 x.overlap]] w (RetV w (endV x.at_)) := by
  go_enter Tryd.func65, Tryd.ntmps65
  go_wp2
  refine ret_cell1 rfl Tryd.underlying37 rfl (cs := #[.int .i64 x.at_.1, .int .i64 x.at_.2]) (by kernel_rfl) rfl (Blk.new _ _ _ _ (by simp)) rfl ⟨rfl, ?_⟩
  exact (b1w _ _).alloc (by simp) _
theorem idOfB_any (x : BalD) (w : World) : Calls Tryd.prog 70 #[.agg #[.int .i64 x.id, .int .i64 x.el, .int .i64 x.off]] w (RetV w (.int .i64 x.id)) := by
  go_enter Tryd.func70, Tryd.ntmps70
  go_wp2
  go_ret
  exact ⟨rfl, b1w _ _⟩
set_option maxRecDepth 100000 in
set_option maxHeartbeats 4000000 in
theorem signalsEnd_any (v : Value) (L : LayD) (w : World) (hv : RLay w v L) : Calls Tryd.prog 26 #[v] w (RetB w (sdB L)) := by
  have HV := Lib.hid hv
  obtain ⟨v1, v2, v3, v4, v5, rfl, r1, r2, r3, r4, r5⟩ := hv
  obtain ⟨a1, c1, rfl, ⟨m1, _⟩, _⟩ := r1.openS
  obtain ⟨a2, c2, rfl, ⟨m2, _⟩, _⟩ := r2.openM
  obtain ⟨a3, c3, rfl, ⟨m3, _⟩, _⟩ := r3.openM
  obtain ⟨a4, c4, rfl, ⟨m4, _⟩, _⟩ := r4.openM
  obtain ⟨a5, c5, rfl, ⟨m5, _⟩, _⟩ := r5.openM
  have K1 := fun W (h : Below w.heap.size w W) => differ_Ge _ L.sigs W 65 SigD.at_ (enters_of Tryd.func65 (by kernel_rfl) rfl) (r4.below h) (fun x hx ww _ => atOfG_any x ww)
  obtain ⟨q1, e1⟩ : ∃ q, sdB L = q := ⟨_, rfl⟩
  rw [e1]
  simp only [sdB] at e1
  simp only [e1] at K1
  replace K1 := Lib.hid K1
  clear r1 r2 r3 r4 r5 HV e1 m1 m2 m3 m4 m5
  obtain ⟨LV, hLV⟩ : ∃ LV : Array Value, LV = #[str L.name, .slice a1 L.secs.length c1, .slice a2 L.els.length c2, .slice a3 L.joints.length c3, .slice a4 L.sigs.length c4, .slice a5 L.bals.length c5] := ⟨_, rfl⟩
  obtain ⟨W1, hW⟩ : ∃ W1, W1 = w.alloc (.cells LV 28) := ⟨_, rfl⟩
  have HB : Below w.heap.size w W1 := by rw [hW]; exact b1w _ _
  have G1 : Blk W1 w.heap.size LV := by rw [hW]; exact Blk.new _ _ _ _ rfl
  rw [hLV] at G1
  have SK : ∀ W, Below W1.heap.size W1 W → Below w.heap.size w W ∧ Blk W w.heap.size #[str L.name, .slice a1 L.secs.length c1, .slice a2 L.els.length c2, .slice a3 L.joints.length c3, .slice a4 L.sigs.length c4, .slice a5 L.bals.length c5] ∧ W.cell? ⟨w.heap.size, 0, none⟩ = some (str L.name) ∧ W.cell? ⟨w.heap.size, 1, none⟩ = some (.slice a1 L.secs.length c1) ∧ W.cell? ⟨w.heap.size, 2, none⟩ = some (.slice a2 L.els.length c2) ∧
      W.cell? ⟨w.heap.size, 3, none⟩ = some (.slice a3 L.joints.length c3) ∧ W.cell? ⟨w.heap.size, 4, none⟩ = some (.slice a4 L.sigs.length c4) ∧ W.cell? ⟨w.heap.size, 5, none⟩ = some (.slice a5 L.bals.length c5) := by
    intro W h
    have b := G1.below h
    exact ⟨HB.trans (h.mono HB.size), b, b.at 0 _ rfl, b.at 1 _ rfl, b.at 2 _ rfl, b.at 3 _ rfl, b.at 4 _ rfl, b.at 5 _ rfl⟩
  replace SK := Lib.hid SK
  go_enter Tryd.func26, Tryd.ntmps26
  go_wp2_with fail
  rw [← hLV, ← hW]
  clear hW hLV
  refine (K1.out _ HB).mono ?_
  rintro e w1 ⟨rfl, b1⟩
  have d1 : Below W1.heap.size W1 w1 := b1
  obtain ⟨hw1, g1, k10, k11, k12, k13, k14, k15⟩ := SK.out _ d1
  go_wp2
  go_ret
  exact ⟨rfl, hw1⟩
set_option maxRecDepth 100000 in
set_option maxHeartbeats 4000000 in
theorem balisesDiffer_any (v : Value) (L : LayD) (w : World) (hv : RLay w v L) : Calls Tryd.prog 29 #[v] w (RetB w (bdB L)) := by
  have HV := Lib.hid hv
  obtain ⟨v1, v2, v3, v4, v5, rfl, r1, r2, r3, r4, r5⟩ := hv
  obtain ⟨a1, c1, rfl, ⟨m1, _⟩, _⟩ := r1.openS
  obtain ⟨a2, c2, rfl, ⟨m2, _⟩, _⟩ := r2.openM
  obtain ⟨a3, c3, rfl, ⟨m3, _⟩, _⟩ := r3.openM
  obtain ⟨a4, c4, rfl, ⟨m4, _⟩, _⟩ := r4.openM
  obtain ⟨a5, c5, rfl, ⟨m5, _⟩, _⟩ := r5.openM
  have K1 := fun W (h : Below w.heap.size w W) => differ_Bi _ L.bals W 70 BalD.id (enters_of Tryd.func70 (by kernel_rfl) rfl) (r5.below h) (fun x hx ww _ => idOfB_any x ww)
  obtain ⟨q1, e1⟩ : ∃ q, bdB L = q := ⟨_, rfl⟩
  rw [e1]
  simp only [bdB] at e1
  simp only [e1] at K1
  replace K1 := Lib.hid K1
  clear r1 r2 r3 r4 r5 HV e1 m1 m2 m3 m4 m5
  obtain ⟨LV, hLV⟩ : ∃ LV : Array Value, LV = #[str L.name, .slice a1 L.secs.length c1, .slice a2 L.els.length c2, .slice a3 L.joints.length c3, .slice a4 L.sigs.length c4, .slice a5 L.bals.length c5] := ⟨_, rfl⟩
  obtain ⟨W1, hW⟩ : ∃ W1, W1 = w.alloc (.cells LV 28) := ⟨_, rfl⟩
  have HB : Below w.heap.size w W1 := by rw [hW]; exact b1w _ _
  have G1 : Blk W1 w.heap.size LV := by rw [hW]; exact Blk.new _ _ _ _ rfl
  rw [hLV] at G1
  have SK : ∀ W, Below W1.heap.size W1 W → Below w.heap.size w W ∧ Blk W w.heap.size #[str L.name, .slice a1 L.secs.length c1, .slice a2 L.els.length c2, .slice a3 L.joints.length c3, .slice a4 L.sigs.length c4, .slice a5 L.bals.length c5] ∧ W.cell? ⟨w.heap.size, 0, none⟩ = some (str L.name) ∧ W.cell? ⟨w.heap.size, 1, none⟩ = some (.slice a1 L.secs.length c1) ∧ W.cell? ⟨w.heap.size, 2, none⟩ = some (.slice a2 L.els.length c2) ∧
      W.cell? ⟨w.heap.size, 3, none⟩ = some (.slice a3 L.joints.length c3) ∧ W.cell? ⟨w.heap.size, 4, none⟩ = some (.slice a4 L.sigs.length c4) ∧ W.cell? ⟨w.heap.size, 5, none⟩ = some (.slice a5 L.bals.length c5) := by
    intro W h
    have b := G1.below h
    exact ⟨HB.trans (h.mono HB.size), b, b.at 0 _ rfl, b.at 1 _ rfl, b.at 2 _ rfl, b.at 3 _ rfl, b.at 4 _ rfl, b.at 5 _ rfl⟩
  replace SK := Lib.hid SK
  go_enter Tryd.func29, Tryd.ntmps29
  go_wp2_with fail
  rw [← hLV, ← hW]
  clear hW hLV
  refine (K1.out _ HB).mono ?_
  rintro e w1 ⟨rfl, b1⟩
  have d1 : Below W1.heap.size W1 w1 := b1
  obtain ⟨hw1, g1, k10, k11, k12, k13, k14, k15⟩ := SK.out _ d1
  go_wp2
  go_ret
  exact ⟨rfl, hw1⟩
end Go.Proofs.YthoodaldmfojaaaDoor
