/- The walk of LayoutRemoves. Conditions: what the program reads (GW); the layout can be read; its names' lengths. -/
import Derived.Test.YthoodaldmfojaaaDoorRem7
import Derived.Deep.RegionHeld3
import Derived.Deep.Cut
namespace Go.Proofs.YthoodaldmfojaaaDoor
open Go.ChangeShapes Go.WideShapes Go.ChangeAt Go.RowKit
set_option maxRecDepth 100000 in
set_option maxHeartbeats 32000000 in
theorem removes_all (v : Value) (n : Nat) (hn : n < 256) (L : LayD) (w : World) (hG : GW w) (hv : RLay w v L) (hs : ∀ s ∈ allNames L, s.length ≤ 9223372036854775807) : Calls Tryd.prog 6 #[v, .int .u8 n] w (RetB w true) := by
  have HE0 := hv
  obtain ⟨nb, a1, a2, a3, a4, a5, s1, c1, s2, c2, s3, c3, s4, c4, s5, c5, rfl⟩ := lay_open hv
  obtain ⟨v1, v2, v3, v4, v5, hve, h1s, h2, _, _, _⟩ := HE0
  obtain ⟨-, e1', e2', -, -, -⟩ : Value.string nb = str L.name ∧ .slice a1 s1 c1 = v1 ∧ .slice a2 s2 c2 = v2 ∧ .slice a3 s3 c3 = v3 ∧ .slice a4 s4 c4 = v4 ∧ .slice a5 s5 c5 = v5 := by simpa using hve
  subst e1' e2'
  have hs1 : L.secs.length = s1 := by
    obtain ⟨a', c', e, _⟩ := h1s.openS
    injection e with _ e _
    exact e.symm
  obtain ⟨a2', c2', e2, ⟨m2, _⟩, HE⟩ := h2.openM
  injection e2 with e21 e22 e23
  subst e21 e23
  clear hve h2
  have HV := Lib.hid hv
  clear hv
  obtain ⟨els, ee⟩ : ∃ x, L.els = x := ⟨_, rfl⟩
  rw [ee] at HE m2 e22
  subst e22
  replace ee := Lib.hid ee
  obtain ⟨W1, hW⟩ : ∃ W1, W1 = w.alloc (.cells #[.string nb, .slice a1 s1 c1, .slice a2 els.length c2, .slice a3 s3 c3, .slice a4 s4 c4, .slice a5 s5 c5] 28) := ⟨_, rfl⟩
  have HB : Below w.heap.size w W1 := by rw [hW]; exact (Below.refl _ _).alloc (Nat.le_refl _) _
  have G1 : Blk W1 w.heap.size #[.string nb, .slice a1 s1 c1, .slice a2 els.length c2, .slice a3 s3 c3, .slice a4 s4 c4, .slice a5 s5 c5] := by rw [hW]; exact Blk.new _ _ _ _ rfl
  have SK : ∀ W, Below W1.heap.size W1 W → Below w.heap.size w W ∧ w.heap.size < W.heap.size ∧ W.cell? ⟨w.heap.size, 0, none⟩ = some (.string nb) ∧ W.cell? ⟨w.heap.size, 1, none⟩ = some (.slice a1 s1 c1) ∧ W.cell? ⟨w.heap.size, 2, none⟩ = some (.slice a2 els.length c2) ∧
      W.cell? ⟨w.heap.size, 3, none⟩ = some (.slice a3 s3 c3) ∧ W.cell? ⟨w.heap.size, 4, none⟩ = some (.slice a4 s4 c4) ∧ W.cell? ⟨w.heap.size, 5, none⟩ = some (.slice a5 s5 c5) := by
    intro W h
    have b := G1.below h
    exact ⟨HB.trans (h.mono HB.size), b.lt, b.at 0 _ rfl, b.at 1 _ rfl, b.at 2 _ rfl, b.at 3 _ rfl, b.at 4 _ rfl, b.at 5 _ rfl⟩
  have GB : ∀ W, Below W1.heap.size W1 W → GW W := fun W h => hG.below (HB.trans (h.mono HB.size))
  have VB : ∀ W, Below W1.heap.size W1 W → RLay W (.agg #[.string nb, .slice a1 s1 c1, .slice a2 els.length c2, .slice a3 s3 c3, .slice a4 s4 c4, .slice a5 s5 c5]) L := fun W h => HV.out.below (HB.trans (h.mono HB.size))
  replace SK := Lib.hid SK
  replace GB := Lib.hid GB
  replace VB := Lib.hid VB
  clear hG HV G1
  have B1 := Below.refl W1.heap.size W1
  obtain ⟨_, hl0, k0, k1, k2, k3, k4, k5⟩ := SK.out _ B1
  have K1 := fun vv ww (hh : RLay ww vv L) => few_any vv L ww hh
  cases hf : fewB L
  · rw [hf] at K1
    clear hf hs
    go_enter Tryd.func6, Tryd.ntmps6
    go_wp2_with fail
    rw [← hW]
    clear hW
    refine (K1 _ _ (VB.out _ B1)).mono ?_
    rintro e w2 ⟨rfl, bb⟩
    have B2 := B1.trans (bb.mono B1.size)
    go_wp2_with fail
    refine (alive_any _ (GB.out _ B2)).mono ?_
    rintro e w3 ⟨rfl, b3⟩
    go_wp2
    go_ret
    exact ⟨rfl, HB.trans ((B2.trans (b3.mono B2.size)).mono HB.size)⟩
  · have F := few_of hf hs
    have K2 := fun vv (L' : LayD) (F' : FewL L') ww (hg : GW ww) (hh : RLay ww vv L') => check_any vv L' ww hg hh F'
    have K4 := fun vv e1 e2 ww (hg : GW ww) (hh : RLay ww vv L) => signal_any vv L e1 e2 ww hg hh F
    rw [hf] at K1
    by_cases hc : checkS isName L = 0
    · have V := valid_check hc
      replace V := Lib.hid V
      go_enter Tryd.func6, Tryd.ntmps6
      go_wp2_with fail
      rw [← hW]
      clear hW
      refine (K1 _ _ (VB.out _ B1)).mono ?_
      rintro e w2 ⟨rfl, bb⟩
      have B2 := B1.trans (bb.mono B1.size)
      clear bb k0 k1 k2 k3 k4 k5
      obtain ⟨_, hl2, k0, k1, k2, k3, k4, k5⟩ := SK.out _ B2
      go_wp2_with fail
      refine (K2 _ L F _ (GB.out _ B2) (VB.out _ B2)).mono ?_
      rintro e w3 ⟨rfl, bb⟩
      have B3 := B2.trans (bb.mono B2.size)
      clear bb k0 k1 k2 k3 k4 k5 K1 B2 hl2
      obtain ⟨_, hl2, k0, k1, k2, k3, k4, k5⟩ := SK.out _ B3
      rw [hc]
      clear hf hc
      obtain ⟨W4, hW4⟩ : ∃ W4, W4 = w3.alloc (.cells #[.string nb, .slice a1 s1 c1, .slice a2 els.length c2, .slice a3 s3 c3, .slice a4 s4 c4, .slice a5 s5 c5] 28) := ⟨_, rfl⟩
      have B4 : Below W1.heap.size W1 W4 := by rw [hW4]; exact alloc_below B3 (Nat.le_refl _) _
      have P4 : Blk W4 w3.heap.size #[.string nb, .slice a1 s1 c1, .slice a2 els.length c2, .slice a3 s3 c3, .slice a4 s4 c4, .slice a5 s5 c5] := by rw [hW4]; exact Blk.new _ _ _ _ rfl
      have hM : W1.heap.size ≤ w3.heap.size := B3.size
      obtain ⟨_, hl4, r0, r1, r2, r3, r4, r5⟩ := SK.out _ B4
      obtain ⟨u1, u2, u3, u4, u5, he, _, _, hj, hg, hb⟩ := VB.out _ B1
      obtain ⟨-, -, -, ej, eg, eb⟩ : Value.string nb = str L.name ∧ .slice a1 s1 c1 = u1 ∧ .slice a2 els.length c2 = u2 ∧ .slice a3 s3 c3 = u3 ∧ .slice a4 s4 c4 = u4 ∧ .slice a5 s5 c5 = u5 := by simpa using he
      subst ej eg eb
      obtain ⟨_, _, ej, mj, Hj⟩ := hj.openM
      obtain ⟨_, _, eg, mg, Hg⟩ := hg.openM
      obtain ⟨_, _, eb, mb, Hb⟩ := hb.openM
      injection ej with ej1 ej2 ej3
      injection eg with eg1 eg2 eg3
      injection eb with eb1 eb2 eb3
      subst ej1 ej3 eg1 eg3 eb1 eb3
      clear hj hg hb he
      replace ej2 := Lib.hid ej2
      replace eg2 := Lib.hid eg2
      replace eb2 := Lib.hid eb2
      have hl5 : s5 ≤ 60 := by rw [eb2.out]; exact F.n5
      have hl4' : s4 ≤ 60 := by rw [eg2.out]; exact F.n4
      have hl3 : s3 ≤ 100 := by rw [ej2.out]; exact F.n3
      obtain ⟨mb1, mb2⟩ := mb
      obtain ⟨mg1, mg2⟩ := mg
      obtain ⟨mj1, mj2⟩ := mj
      go_upto_if 22 with fail
      rw [← hW4]
      clear hW4 k0 k1 k2 k3 k4 k5 r0 r1 r2 r3 r4 r5
      go_cut [] from 6 (fun wx => Below W1.heap.size W1 wx ∧ ∃ x0 x1 x2 x3 x4 x5, Blk wx w3.heap.size #[x0, x1, x2, x3, x4, x5])
      case first =>
        by_cases h5 : 0 < s5
        · have h5i : (0 : Int) < (s5 : Int) := by omega
          obtain ⟨_, _, k0, k1, k2, k3, k4, k5⟩ := SK.out _ B4
          obtain ⟨i, hi⟩ : ∃ i, n % s5 = i := ⟨_, rfl⟩
          have hil : i < s5 := by rw [← hi]; exact Nat.mod_lt _ h5
          have hi2 : (n : Int).tmod (s5 : Int) = (i : Int) := by rw [← hi]; rfl
          have hic : i + 1 ≤ s5 := hil
          replace hi := Lib.hid hi
          have hwr : IntKind.i64.wrap ((i : Int) + 1) = (i : Int) + 1 := by rw [IntKind.wrap_i64]; omega
          obtain ⟨yb, hyb⟩ : ∃ y, L.bals[i]? = some y := ⟨_, List.getElem?_eq_getElem (by rw [← eb2.out]; exact hil)⟩
          obtain ⟨bb, oo, rfl, hbb, hyc⟩ := Hb.out.rd B4 hyb
          have C1 := cut_to (P := Tryd.prog) (t := 26) rfl (m := 3) (b := bb) (off := oo) (n := s5) (cap := c5) (k := i) (fun _ => rfl) (by omega) (by rw [eb2.out]; exact mb2)
          obtain ⟨a6, C2, R2⟩ := cut_from (P := Tryd.prog) (t := 26) rfl (k := i + 1) Hb.out (fun _ => rfl) (by rw [← eb2.out]; exact hic) ⟨mb1, mb2⟩
          have R1 := RM.take (k := i) Hb.out (by rw [← eb2.out]; omega) ⟨mb1, mb2⟩
          rw [← eb2.out] at C2 R2
          simp only [Int.natCast_add, Int.natCast_one] at C2
          have hq1 : (L.bals.take i).length = i := by rw [List.length_take, ← eb2.out]; omega
          have hq2 : (L.bals.drop (i + 1)).length = s5 - (i + 1) := by rw [List.length_drop, ← eb2.out]
          obtain ⟨va, hva⟩ : ∃ l, L.bals.take i = l := ⟨_, rfl⟩
          obtain ⟨vd, hvd⟩ : ∃ l, L.bals.drop (i + 1) = l := ⟨_, rfl⟩
          have hER : va.map blV ++ vd.map blV = (L.bals.eraseIdx i).map blV := by rw [← hva, ← hvd]; exact erase_parts _ _ _
          rw [hva] at R1 hq1
          rw [hvd] at R2 hq2
          clear hva hvd
          replace hER := Lib.hid hER
          replace R1 := Lib.hid R1
          replace R2 := Lib.hid R2
          replace hq1 := Lib.hid hq1
          replace hq2 := Lib.hid hq2
          go_upto_region 6 with fail
          clear k0 k1 k2 k3 k4 k5
          have SS : ∀ W, Below W1.heap.size W1 W → (W.cell? ⟨w.heap.size, 5, none⟩ = some (.slice (some ⟨bb, oo, none⟩) s5 c5) ∧ Below W1.heap.size W1 W) := by
            intro W h
            obtain ⟨_, _, q0, q1, q2, q3, q4, q5⟩ := SK.out _ h
            exact ⟨q5, h⟩
          refine wp_region_noPanic ?_
          refine wp_region_held_drew (S := fun W => W.cell? ⟨w.heap.size, 5, none⟩ = some (.slice (some ⟨bb, oo, none⟩) s5 c5) ∧ Below W1.heap.size W1 W) (by kernel_rfl) (SS _ B4.drew) (fun hH0 => ?_)
          refine take_op (i := 1) (oi := _) (d := some 30) (v := .pointer (some ⟨w.heap.size, 5, none⟩)) rfl rfl (by kernel_rfl) (by kernel_rfl) (by kernel_rfl) (fun _ _ _ h => h) (Or.inl ⟨rfl, ?_⟩) hH0 ?_
          · intro w' hSw
            obtain ⟨x0, x1⟩ := hSw
            go_simp
          try simp only [Act.put, List.setIfInBounds_toArray, List.set_cons_zero, List.set_cons_succ]
          refine take_op (i := 2) (oi := _) (d := some 31) (v := .slice (some ⟨bb, oo, none⟩) s5 c5) rfl rfl (by kernel_rfl) (by kernel_rfl) (by kernel_rfl) (fun _ _ _ h => h) (Or.inl ⟨rfl, ?_⟩) hH0 ?_
          · intro w' hSw
            obtain ⟨x0, x1⟩ := hSw
            go_simp
          try simp only [Act.put, List.setIfInBounds_toArray, List.set_cons_zero, List.set_cons_succ]
          refine take_op (i := 3) (oi := _) (d := some 32) (v := .int .i64 (i : Int)) rfl rfl (by kernel_rfl) (by kernel_rfl) (by kernel_rfl) (fun _ _ _ h => h) (Or.inl ⟨rfl, ?_⟩) hH0 ?_
          · intro w' hSw
            obtain ⟨x0, x1⟩ := hSw
            go_simp
          try simp only [Act.put, List.setIfInBounds_toArray, List.set_cons_zero, List.set_cons_succ]
          refine take_op (i := 4) (oi := _) (d := some 33) (v := .slice (some ⟨bb, oo, none⟩) i c5) rfl rfl (by kernel_rfl) (by kernel_rfl) (by kernel_rfl) (fun _ _ _ h => h) (Or.inl ⟨rfl, ?_⟩) hH0 ?_
          · intro w' hSw
            obtain ⟨x0, x1⟩ := hSw
            go_simp
          try simp only [Act.put, List.setIfInBounds_toArray, List.set_cons_zero, List.set_cons_succ]
          refine take_op (i := 6) (oi := _) (d := some 35) (v := .pointer (some ⟨w.heap.size, 5, none⟩)) rfl rfl (by kernel_rfl) (by kernel_rfl) (by kernel_rfl) (fun _ _ _ h => h) (Or.inl ⟨rfl, ?_⟩) hH0 ?_
          · intro w' hSw
            obtain ⟨x0, x1⟩ := hSw
            go_simp
          try simp only [Act.put, List.setIfInBounds_toArray, List.set_cons_zero, List.set_cons_succ]
          refine take_op (i := 7) (oi := _) (d := some 36) (v := .slice (some ⟨bb, oo, none⟩) s5 c5) rfl rfl (by kernel_rfl) (by kernel_rfl) (by kernel_rfl) (fun _ _ _ h => h) (Or.inl ⟨rfl, ?_⟩) hH0 ?_
          · intro w' hSw
            obtain ⟨x0, x1⟩ := hSw
            go_simp
          try simp only [Act.put, List.setIfInBounds_toArray, List.set_cons_zero, List.set_cons_succ]
          refine take_op (i := 8) (oi := _) (d := some 37) (v := .int .i64 (i : Int)) rfl rfl (by kernel_rfl) (by kernel_rfl) (by kernel_rfl) (fun _ _ _ h => h) (Or.inl ⟨rfl, ?_⟩) hH0 ?_
          · intro w' hSw
            obtain ⟨x0, x1⟩ := hSw
            go_simp
          try simp only [Act.put, List.setIfInBounds_toArray, List.set_cons_zero, List.set_cons_succ]
          refine take_op (i := 9) (oi := _) (d := some 38) (v := .int .i64 ((i : Int) + 1)) rfl rfl (by kernel_rfl) (by kernel_rfl) (by kernel_rfl) (fun _ _ _ h => h) (Or.inl ⟨rfl, ?_⟩) hH0 ?_
          · intro w' hSw
            obtain ⟨x0, x1⟩ := hSw
            go_simp
          try simp only [Act.put, List.setIfInBounds_toArray, List.set_cons_zero, List.set_cons_succ]
          refine take_op (i := 10) (oi := _) (d := some 39) (v := .slice a6 (s5 - (i + 1)) (c5 - (i + 1))) rfl rfl (by kernel_rfl) (by kernel_rfl) (by kernel_rfl) (fun _ _ _ h => h) (Or.inl ⟨rfl, ?_⟩) hH0 ?_
          · intro w' hSw
            obtain ⟨x0, x1⟩ := hSw
            go_simp
          try simp only [Act.put, List.setIfInBounds_toArray, List.set_cons_zero, List.set_cons_succ]
          refine wpAnyH_ready (rs := [0]) (by kernel_rfl) (by simp) ?_
          refine AllReadyH.cons (o := _) rfl (fun KK hKK => ?_) AllReadyH.nil
          go_simp
          have D1 : Below W1.heap.size W1 (W4.drew.alloc (.cells #[] 80)) := B4.drew.alloc B4.size _
          have O1 := lit_owns W4.drew W4.heap.size 80 3 rfl
          have P1 : Blk (W4.drew.alloc (.cells #[] 80)) w3.heap.size #[.string nb, .slice a1 s1 c1, .slice a2 els.length c2, .slice a3 s3 c3, .slice a4 s4 c4, .slice (some ⟨bb, oo, none⟩) s5 c5] := Blk.old (w := W4.drew) P4 _
          refine hKK.out _ _ (SS _ D1) (fun hH1 => ?_)
          clear hKK KK
          try simp only [Act.put, List.setIfInBounds_toArray]
          refine wpAnyH_ready (rs := [5]) (by kernel_rfl) (by simp) ?_
          refine AllReadyH.cons (o := _) rfl (fun KK hKK => ?_) AllReadyH.nil
          refine step_append_rm rfl (.tmp 29) (.tmp 33) 26 rfl W4.heap.size 80 (.agg #[.int .i64 0, .int .i64 0, .int .i64 0]) 3 24 Tryd.underlying26 info_bal rfl (by omega) (.slice (some ⟨W4.heap.size, 0, none⟩) 0 0) 0 [] rfl O1 _ rfl (va.map blV) (R1.out.below D1) (rows_bl _) (one_bl _) (by rw [List.length_map, hq1.out]; omega) (by rw [List.length_map, hq1.out]; omega) (by simp) ?_
          intro v7 w7 p7 g7 _
          have hXs : W1.heap.size ≤ W4.heap.size := B4.size
          have D7 : Below W1.heap.size W1 w7 := D1.grown g7 (by simp; omega) (fun j e => by cases e; exact hXs)
          have P7 : Blk w7 w3.heap.size #[.string nb, .slice a1 s1 c1, .slice a2 els.length c2, .slice a3 s3 c3, .slice a4 s4 c4, .slice (some ⟨bb, oo, none⟩) s5 c5] := Blk.grown P1 g7 (fun e => by have e2 : W4.heap.size = w3.heap.size := Option.some.inj e; have := P4.lt; omega)
          have z7 := g7.size
          refine hKK.out _ _ (SS _ D7) (fun hH2 => ?_)
          clear hKK KK
          try simp only [Act.put]
          refine wpAnyH_ready (rs := [11]) (by kernel_rfl) (by simp) ?_
          refine AllReadyH.cons (o := _) rfl (fun KK hKK => ?_) AllReadyH.nil
          refine step_append_rm rfl (.tmp 34) (.tmp 39) 26 rfl W4.heap.size 80 (.agg #[.int .i64 0, .int .i64 0, .int .i64 0]) 3 24 Tryd.underlying26 info_bal rfl (by omega) v7 _ _ rfl p7 _ rfl (vd.map blV) (R2.out.below D7) (rows_bl _) (one_bl _) (by rw [List.length_map, List.length_map, hq1.out, hq2.out]; omega) (by rw [List.length_map, List.length_map, hq1.out, hq2.out]; omega) (by simp at z7; omega) ?_
          intro v8 w8 p8 g8 _
          have D8 : Below W1.heap.size W1 w8 := D7.grown g8 D7.size (fun j e => Nat.le_trans hXs (p7.lt j e).1)
          have P8 : Blk w8 w3.heap.size #[.string nb, .slice a1 s1 c1, .slice a2 els.length c2, .slice a3 s3 c3, .slice a4 s4 c4, .slice (some ⟨bb, oo, none⟩) s5 c5] := Blk.grown P7 g8 (fun e => by have := (p7.lt _ e).1; have := P4.lt; omega)
          refine hKK.out _ _ (SS _ D8) (fun hH3 => ?_)
          clear hKK KK
          try simp only [Act.put]
          refine take_op (i := 12) (oi := _) (d := some 41) (v := .pointer (some ⟨w3.heap.size, 5, none⟩)) rfl rfl (by kernel_rfl) (by kernel_rfl) (by kernel_rfl) (fun _ _ _ h => h) (Or.inl ⟨rfl, ?_⟩) hH3 ?_
          · intro w' hSw
            obtain ⟨x0, x1⟩ := hSw
            go_simp
          try simp only [Act.put, List.setIfInBounds_toArray]
          obtain ⟨n8, hn8⟩ : ∃ n8, (va.map blV ++ vd.map blV).length = n8 := ⟨_, rfl⟩
          rw [show 0 + (va.map blV).length + (vd.map blV).length = n8 from by rw [← hn8, List.length_append]; omega, show [] ++ (va.map blV).flatten ++ (vd.map blV).flatten = (va.map blV ++ vd.map blV).flatten from by rw [List.nil_append, List.flatten_append]] at p8
          obtain ⟨a8, c8, rfl⟩ := own_shape p8
          have y0 := P8.at 5 _ rfl
          have f0 := P8.free 5
          refine wpAnyH_ready (rs := [13]) (by kernel_rfl) (by simp) ?_
          refine AllReadyH.cons (o := _) rfl (fun KK hKK => ?_) AllReadyH.nil
          go_simp
          obtain ⟨X9, hX9⟩ : ∃ X9, X9 = w8.setCell ⟨w3.heap.size, 5, none⟩ (.slice a8 n8 c8) := ⟨_, rfl⟩
          have D9 : Below W1.heap.size W1 X9 := by rw [hX9]; exact D8.setCell (p := ⟨w3.heap.size, 5, none⟩) hM _
          have P9 : Blk X9 w3.heap.size #[.string nb, .slice a1 s1 c1, .slice a2 els.length c2, .slice a3 s3 c3, .slice a4 s4 c4, .slice a8 n8 c8] := by rw [hX9]; exact P8.set 5 _
          have R9 : RM X9 (.slice a8 n8 c8) 3 ((L.bals.eraseIdx i).map blV) := by
            rw [← hER.out]
            refine RM.ownM (base := W4.heap.size) (e := 80) ?_ ?_
            · rw [hn8, hX9]; exact own_set p8 w3.heap.size (by have := P4.lt; omega) 5 _
            · intro r hr
              rcases List.mem_append.1 hr with hr | hr
              · exact rows_bl _ r hr
              · exact rows_bl _ r hr
          rw [← hX9]
          refine hKK.out _ _ (SS _ D9) (fun hH4 => ?_)
          clear hKK KK
          try simp only [Act.put, List.setIfInBounds_toArray, List.set_cons_zero, List.set_cons_succ]
          refine wpAnyH_done (by kernel_rfl) ?_ _
          refine NoPanic.normal ?_
          have VX := (VB.out _ D9).setB _ R9
          have GX := GB.out _ D9
          have z0 := P9.at 0 _ rfl
          have z1 := P9.at 1 _ rfl
          have z2 := P9.at 2 _ rfl
          have z3 := P9.at 3 _ rfl
          have z4 := P9.at 4 _ rfl
          have z5 := P9.at 5 _ rfl
          clear hH0 hH1 hH2 hH3 hH4 SS O1 P1 P7 P8 D1 D7 D8 p7 p8 y0 f0 hX9 R1 R2 C1 C2 g7 g8 z7 R9
          go_wp2_with fail
          refine (K2 _ _ (few_bals F i) _ GX VX).mono ?_
          rintro e w9 ⟨rfl, b9⟩
          rw [check_bals V.out i]
          have P10 := P9.below b9
          have D10 := D9.trans (b9.mono D9.size)
          clear z0 z1 z2 z3 z4 z5
          go_wp2
          go_meet
          case rel => exact ⟨D10, _, _, _, _, _, _, P10⟩
        · have h5i : ¬ ((0 : Int) < (s5 : Int)) := by omega
          go_wp2
          go_meet
          case rel => exact ⟨B4, _, _, _, _, _, _, P4⟩
      case rest =>
        obtain ⟨Bc, x0, x1, x2, x3, x4, x5, Pc⟩ := hcut
        obtain ⟨_, _, k0, k1, k2, k3, k4, k5⟩ := SK.out _ Bc
        have t0 := Pc.at 0 _ rfl
        have t1 := Pc.at 1 _ rfl
        have t2 := Pc.at 2 _ rfl
        have t3 := Pc.at 3 _ rfl
        have t4 := Pc.at 4 _ rfl
        have t5 := Pc.at 5 _ rfl
        have f0 := Pc.free 0
        have f1 := Pc.free 1
        have f2 := Pc.free 2
        have f3 := Pc.free 3
        have f4 := Pc.free 4
        have f5 := Pc.free 5
        go_upto_if 49 with fail
        obtain ⟨X2, hX⟩ : ∃ X, X = (((((wc.setCell ⟨w3.heap.size, 0, none⟩ (.string nb)).setCell ⟨w3.heap.size, 1, none⟩ (.slice a1 s1 c1)).setCell ⟨w3.heap.size, 2, none⟩ (.slice a2 els.length c2)).setCell ⟨w3.heap.size, 3, none⟩ (.slice a3 s3 c3)).setCell ⟨w3.heap.size, 4, none⟩ (.slice a4 s4 c4)).setCell ⟨w3.heap.size, 5, none⟩ (.slice a5 s5 c5) := ⟨_, rfl⟩
        have B5 : Below W1.heap.size W1 X2 := by rw [hX]; exact ((((((Bc.setCell (p := ⟨w3.heap.size, 0, none⟩) hM _).setCell (p := ⟨w3.heap.size, 1, none⟩) hM _).setCell (p := ⟨w3.heap.size, 2, none⟩) hM _).setCell (p := ⟨w3.heap.size, 3, none⟩) hM _).setCell (p := ⟨w3.heap.size, 4, none⟩) hM _).setCell (p := ⟨w3.heap.size, 5, none⟩) hM _)
        have P5 : Blk X2 w3.heap.size #[.string nb, .slice a1 s1 c1, .slice a2 els.length c2, .slice a3 s3 c3, .slice a4 s4 c4, .slice a5 s5 c5] := by rw [hX]; exact ((((((Pc.set 0 _).set 1 _).set 2 _).set 3 _).set 4 _).set 5 _)
        rw [← hX]
        clear hX Bc Pc t0 t1 t2 t3 t4 t5 f0 f1 f2 f3 f4 f5 k0 k1 k2 k3 k4 k5
        go_cut [] from 6 (fun wx => Below W1.heap.size W1 wx ∧ ∃ x0 x1 x2 x3 x4 x5, Blk wx w3.heap.size #[x0, x1, x2, x3, x4, x5])
        case first =>
          by_cases h5 : 0 < s4
          · have h5i : (0 : Int) < (s4 : Int) := by omega
            obtain ⟨_, _, k0, k1, k2, k3, k4, k5⟩ := SK.out _ B5
            obtain ⟨i, hi⟩ : ∃ i, n % s4 = i := ⟨_, rfl⟩
            have hil : i < s4 := by rw [← hi]; exact Nat.mod_lt _ h5
            have hi2 : (n : Int).tmod (s4 : Int) = (i : Int) := by rw [← hi]; rfl
            have hic : i + 1 ≤ s4 := hil
            replace hi := Lib.hid hi
            have hwr : IntKind.i64.wrap ((i : Int) + 1) = (i : Int) + 1 := by rw [IntKind.wrap_i64]; omega
            obtain ⟨yb, hyb⟩ : ∃ y, L.sigs[i]? = some y := ⟨_, List.getElem?_eq_getElem (by rw [← eg2.out]; exact hil)⟩
            obtain ⟨bb, oo, rfl, hbb, hyc⟩ := Hg.out.rd B5 hyb
            have C1 := cut_to (P := Tryd.prog) (t := 25) rfl (m := 4) (b := bb) (off := oo) (n := s4) (cap := c4) (k := i) (fun _ => rfl) (by omega) (by rw [eg2.out]; exact mg2)
            obtain ⟨a6, C2, R2⟩ := cut_from (P := Tryd.prog) (t := 25) rfl (k := i + 1) Hg.out (fun _ => rfl) (by rw [← eg2.out]; exact hic) ⟨mg1, mg2⟩
            have R1 := RM.take (k := i) Hg.out (by rw [← eg2.out]; omega) ⟨mg1, mg2⟩
            rw [← eg2.out] at C2 R2
            simp only [Int.natCast_add, Int.natCast_one] at C2
            have hq1 : (L.sigs.take i).length = i := by rw [List.length_take, ← eg2.out]; omega
            have hq2 : (L.sigs.drop (i + 1)).length = s4 - (i + 1) := by rw [List.length_drop, ← eg2.out]
            obtain ⟨va, hva⟩ : ∃ l, L.sigs.take i = l := ⟨_, rfl⟩
            obtain ⟨vd, hvd⟩ : ∃ l, L.sigs.drop (i + 1) = l := ⟨_, rfl⟩
            have hER : va.map sgV ++ vd.map sgV = (L.sigs.eraseIdx i).map sgV := by rw [← hva, ← hvd]; exact erase_parts _ _ _
            rw [hva] at R1 hq1
            rw [hvd] at R2 hq2
            clear hva hvd
            replace hER := Lib.hid hER
            replace R1 := Lib.hid R1
            replace R2 := Lib.hid R2
            replace hq1 := Lib.hid hq1
            replace hq2 := Lib.hid hq2
            go_upto_region 12 with fail
            clear k0 k1 k2 k3 k4 k5
            have SS : ∀ W, Below W1.heap.size W1 W → (W.cell? ⟨w.heap.size, 4, none⟩ = some (.slice (some ⟨bb, oo, none⟩) s4 c4) ∧ Below W1.heap.size W1 W) := by
              intro W h
              obtain ⟨_, _, q0, q1, q2, q3, q4, q5⟩ := SK.out _ h
              exact ⟨q4, h⟩
            refine wp_region_noPanic ?_
            refine wp_region_held_drew (S := fun W => W.cell? ⟨w.heap.size, 4, none⟩ = some (.slice (some ⟨bb, oo, none⟩) s4 c4) ∧ Below W1.heap.size W1 W) (by kernel_rfl) (SS _ B5.drew) (fun hH0 => ?_)
            refine take_op (i := 1) (oi := _) (d := some 57) (v := .pointer (some ⟨w.heap.size, 4, none⟩)) rfl rfl (by kernel_rfl) (by kernel_rfl) (by kernel_rfl) (fun _ _ _ h => h) (Or.inl ⟨rfl, ?_⟩) hH0 ?_
            · intro w' hSw
              obtain ⟨x0, x1⟩ := hSw
              go_simp
            try simp only [Act.put, List.setIfInBounds_toArray, List.set_cons_zero, List.set_cons_succ]
            refine take_op (i := 2) (oi := _) (d := some 58) (v := .slice (some ⟨bb, oo, none⟩) s4 c4) rfl rfl (by kernel_rfl) (by kernel_rfl) (by kernel_rfl) (fun _ _ _ h => h) (Or.inl ⟨rfl, ?_⟩) hH0 ?_
            · intro w' hSw
              obtain ⟨x0, x1⟩ := hSw
              go_simp
            try simp only [Act.put, List.setIfInBounds_toArray, List.set_cons_zero, List.set_cons_succ]
            refine take_op (i := 3) (oi := _) (d := some 59) (v := .int .i64 (i : Int)) rfl rfl (by kernel_rfl) (by kernel_rfl) (by kernel_rfl) (fun _ _ _ h => h) (Or.inl ⟨rfl, ?_⟩) hH0 ?_
            · intro w' hSw
              obtain ⟨x0, x1⟩ := hSw
              go_simp
            try simp only [Act.put, List.setIfInBounds_toArray, List.set_cons_zero, List.set_cons_succ]
            refine take_op (i := 4) (oi := _) (d := some 60) (v := .slice (some ⟨bb, oo, none⟩) i c4) rfl rfl (by kernel_rfl) (by kernel_rfl) (by kernel_rfl) (fun _ _ _ h => h) (Or.inl ⟨rfl, ?_⟩) hH0 ?_
            · intro w' hSw
              obtain ⟨x0, x1⟩ := hSw
              go_simp
            try simp only [Act.put, List.setIfInBounds_toArray, List.set_cons_zero, List.set_cons_succ]
            refine take_op (i := 6) (oi := _) (d := some 62) (v := .pointer (some ⟨w.heap.size, 4, none⟩)) rfl rfl (by kernel_rfl) (by kernel_rfl) (by kernel_rfl) (fun _ _ _ h => h) (Or.inl ⟨rfl, ?_⟩) hH0 ?_
            · intro w' hSw
              obtain ⟨x0, x1⟩ := hSw
              go_simp
            try simp only [Act.put, List.setIfInBounds_toArray, List.set_cons_zero, List.set_cons_succ]
            refine take_op (i := 7) (oi := _) (d := some 63) (v := .slice (some ⟨bb, oo, none⟩) s4 c4) rfl rfl (by kernel_rfl) (by kernel_rfl) (by kernel_rfl) (fun _ _ _ h => h) (Or.inl ⟨rfl, ?_⟩) hH0 ?_
            · intro w' hSw
              obtain ⟨x0, x1⟩ := hSw
              go_simp
            try simp only [Act.put, List.setIfInBounds_toArray, List.set_cons_zero, List.set_cons_succ]
            refine take_op (i := 8) (oi := _) (d := some 64) (v := .int .i64 (i : Int)) rfl rfl (by kernel_rfl) (by kernel_rfl) (by kernel_rfl) (fun _ _ _ h => h) (Or.inl ⟨rfl, ?_⟩) hH0 ?_
            · intro w' hSw
              obtain ⟨x0, x1⟩ := hSw
              go_simp
            try simp only [Act.put, List.setIfInBounds_toArray, List.set_cons_zero, List.set_cons_succ]
            refine take_op (i := 9) (oi := _) (d := some 65) (v := .int .i64 ((i : Int) + 1)) rfl rfl (by kernel_rfl) (by kernel_rfl) (by kernel_rfl) (fun _ _ _ h => h) (Or.inl ⟨rfl, ?_⟩) hH0 ?_
            · intro w' hSw
              obtain ⟨x0, x1⟩ := hSw
              go_simp
            try simp only [Act.put, List.setIfInBounds_toArray, List.set_cons_zero, List.set_cons_succ]
            refine take_op (i := 10) (oi := _) (d := some 66) (v := .slice a6 (s4 - (i + 1)) (c4 - (i + 1))) rfl rfl (by kernel_rfl) (by kernel_rfl) (by kernel_rfl) (fun _ _ _ h => h) (Or.inl ⟨rfl, ?_⟩) hH0 ?_
            · intro w' hSw
              obtain ⟨x0, x1⟩ := hSw
              go_simp
            try simp only [Act.put, List.setIfInBounds_toArray, List.set_cons_zero, List.set_cons_succ]
            refine wpAnyH_ready (rs := [0]) (by kernel_rfl) (by simp) ?_
            refine AllReadyH.cons (o := _) rfl (fun KK hKK => ?_) AllReadyH.nil
            go_simp
            have D1 : Below W1.heap.size W1 (X2.drew.alloc (.cells #[] 56)) := B5.drew.alloc B5.size _
            have O1 := lit_owns X2.drew X2.heap.size 56 4 rfl
            have P1 : Blk (X2.drew.alloc (.cells #[] 56)) w3.heap.size #[.string nb, .slice a1 s1 c1, .slice a2 els.length c2, .slice a3 s3 c3, .slice (some ⟨bb, oo, none⟩) s4 c4, .slice a5 s5 c5] := Blk.old (w := X2.drew) P5 _
            refine hKK.out _ _ (SS _ D1) (fun hH1 => ?_)
            clear hKK KK
            try simp only [Act.put, List.setIfInBounds_toArray]
            refine wpAnyH_ready (rs := [5]) (by kernel_rfl) (by simp) ?_
            refine AllReadyH.cons (o := _) rfl (fun KK hKK => ?_) AllReadyH.nil
            refine step_append_rm rfl (.tmp 56) (.tmp 60) 25 rfl X2.heap.size 56 (.agg #[.string ByteArray.empty, .int .i64 0, .int .i64 0, .int .i64 0]) 4 40 Tryd.underlying25 info_sig rfl (by omega) (.slice (some ⟨X2.heap.size, 0, none⟩) 0 0) 0 [] rfl O1 _ rfl (va.map sgV) (R1.out.below D1) (rows_sg _) (one_sg _) (by rw [List.length_map, hq1.out]; omega) (by rw [List.length_map, hq1.out]; omega) (by simp) ?_
            intro v7 w7 p7 g7 _
            have hXs : W1.heap.size ≤ X2.heap.size := B5.size
            have D7 : Below W1.heap.size W1 w7 := D1.grown g7 (by simp; omega) (fun j e => by cases e; exact hXs)
            have P7 : Blk w7 w3.heap.size #[.string nb, .slice a1 s1 c1, .slice a2 els.length c2, .slice a3 s3 c3, .slice (some ⟨bb, oo, none⟩) s4 c4, .slice a5 s5 c5] := Blk.grown P1 g7 (fun e => by have e2 : X2.heap.size = w3.heap.size := Option.some.inj e; have := P5.lt; omega)
            have z7 := g7.size
            refine hKK.out _ _ (SS _ D7) (fun hH2 => ?_)
            clear hKK KK
            try simp only [Act.put]
            refine wpAnyH_ready (rs := [11]) (by kernel_rfl) (by simp) ?_
            refine AllReadyH.cons (o := _) rfl (fun KK hKK => ?_) AllReadyH.nil
            refine step_append_rm rfl (.tmp 61) (.tmp 66) 25 rfl X2.heap.size 56 (.agg #[.string ByteArray.empty, .int .i64 0, .int .i64 0, .int .i64 0]) 4 40 Tryd.underlying25 info_sig rfl (by omega) v7 _ _ rfl p7 _ rfl (vd.map sgV) (R2.out.below D7) (rows_sg _) (one_sg _) (by rw [List.length_map, List.length_map, hq1.out, hq2.out]; omega) (by rw [List.length_map, List.length_map, hq1.out, hq2.out]; omega) (by simp at z7; omega) ?_
            intro v8 w8 p8 g8 _
            have D8 : Below W1.heap.size W1 w8 := D7.grown g8 D7.size (fun j e => Nat.le_trans hXs (p7.lt j e).1)
            have P8 : Blk w8 w3.heap.size #[.string nb, .slice a1 s1 c1, .slice a2 els.length c2, .slice a3 s3 c3, .slice (some ⟨bb, oo, none⟩) s4 c4, .slice a5 s5 c5] := Blk.grown P7 g8 (fun e => by have := (p7.lt _ e).1; have := P5.lt; omega)
            refine hKK.out _ _ (SS _ D8) (fun hH3 => ?_)
            clear hKK KK
            try simp only [Act.put]
            refine take_op (i := 12) (oi := _) (d := some 68) (v := .pointer (some ⟨w3.heap.size, 4, none⟩)) rfl rfl (by kernel_rfl) (by kernel_rfl) (by kernel_rfl) (fun _ _ _ h => h) (Or.inl ⟨rfl, ?_⟩) hH3 ?_
            · intro w' hSw
              obtain ⟨x0, x1⟩ := hSw
              go_simp
            try simp only [Act.put, List.setIfInBounds_toArray]
            obtain ⟨n8, hn8⟩ : ∃ n8, (va.map sgV ++ vd.map sgV).length = n8 := ⟨_, rfl⟩
            rw [show 0 + (va.map sgV).length + (vd.map sgV).length = n8 from by rw [← hn8, List.length_append]; omega, show [] ++ (va.map sgV).flatten ++ (vd.map sgV).flatten = (va.map sgV ++ vd.map sgV).flatten from by rw [List.nil_append, List.flatten_append]] at p8
            obtain ⟨a8, c8, rfl⟩ := own_shape p8
            have y0 := P8.at 4 _ rfl
            have f0 := P8.free 4
            refine wpAnyH_ready (rs := [13]) (by kernel_rfl) (by simp) ?_
            refine AllReadyH.cons (o := _) rfl (fun KK hKK => ?_) AllReadyH.nil
            go_simp
            obtain ⟨X9, hX9⟩ : ∃ X9, X9 = w8.setCell ⟨w3.heap.size, 4, none⟩ (.slice a8 n8 c8) := ⟨_, rfl⟩
            have D9 : Below W1.heap.size W1 X9 := by rw [hX9]; exact D8.setCell (p := ⟨w3.heap.size, 4, none⟩) hM _
            have P9 : Blk X9 w3.heap.size #[.string nb, .slice a1 s1 c1, .slice a2 els.length c2, .slice a3 s3 c3, .slice a8 n8 c8, .slice a5 s5 c5] := by rw [hX9]; exact P8.set 4 _
            have R9 : RM X9 (.slice a8 n8 c8) 4 ((L.sigs.eraseIdx i).map sgV) := by
              rw [← hER.out]
              refine RM.ownM (base := X2.heap.size) (e := 56) ?_ ?_
              · rw [hn8, hX9]; exact own_set p8 w3.heap.size (by have := P5.lt; omega) 4 _
              · intro r hr
                rcases List.mem_append.1 hr with hr | hr
                · exact rows_sg _ r hr
                · exact rows_sg _ r hr
            rw [← hX9]
            refine hKK.out _ _ (SS _ D9) (fun hH4 => ?_)
            clear hKK KK
            try simp only [Act.put, List.setIfInBounds_toArray, List.set_cons_zero, List.set_cons_succ]
            refine wpAnyH_done (by kernel_rfl) ?_ _
            refine NoPanic.normal ?_
            have VX := (VB.out _ D9).setG _ R9
            have GX := GB.out _ D9
            have z0 := P9.at 0 _ rfl
            have z1 := P9.at 1 _ rfl
            have z2 := P9.at 2 _ rfl
            have z3 := P9.at 3 _ rfl
            have z4 := P9.at 4 _ rfl
            have z5 := P9.at 5 _ rfl
            clear hH0 hH1 hH2 hH3 hH4 SS O1 P1 P7 P8 D1 D7 D8 p7 p8 y0 f0 hX9 R1 R2 C1 C2 g7 g8 z7 R9
            go_wp2_with fail
            refine (K2 _ _ (few_sigs F i) _ GX VX).mono ?_
            rintro e w9 ⟨rfl, b9⟩
            rw [check_sigs V.out i]
            have P10 := P9.below b9
            have D10 := D9.trans (b9.mono D9.size)
            clear z0 z1 z2 z3 z4 z5
            go_wp2
            go_meet
            case rel => exact ⟨D10, _, _, _, _, _, _, P10⟩
          · have h5i : ¬ ((0 : Int) < (s4 : Int)) := by omega
            go_wp2
            go_meet
            case rel => exact ⟨B5, _, _, _, _, _, _, P5⟩
        case rest =>
          obtain ⟨Bc, x0, x1, x2, x3, x4, x5, Pc⟩ := hcut
          obtain ⟨_, _, k0, k1, k2, k3, k4, k5⟩ := SK.out _ Bc
          have t0 := Pc.at 0 _ rfl
          have t1 := Pc.at 1 _ rfl
          have t2 := Pc.at 2 _ rfl
          have t3 := Pc.at 3 _ rfl
          have t4 := Pc.at 4 _ rfl
          have t5 := Pc.at 5 _ rfl
          have f0 := Pc.free 0
          have f1 := Pc.free 1
          have f2 := Pc.free 2
          have f3 := Pc.free 3
          have f4 := Pc.free 4
          have f5 := Pc.free 5
          go_upto_if 76 with fail
          obtain ⟨X3, hX⟩ : ∃ X, X = (((((wc.setCell ⟨w3.heap.size, 0, none⟩ (.string nb)).setCell ⟨w3.heap.size, 1, none⟩ (.slice a1 s1 c1)).setCell ⟨w3.heap.size, 2, none⟩ (.slice a2 els.length c2)).setCell ⟨w3.heap.size, 3, none⟩ (.slice a3 s3 c3)).setCell ⟨w3.heap.size, 4, none⟩ (.slice a4 s4 c4)).setCell ⟨w3.heap.size, 5, none⟩ (.slice a5 s5 c5) := ⟨_, rfl⟩
          have B6 : Below W1.heap.size W1 X3 := by rw [hX]; exact ((((((Bc.setCell (p := ⟨w3.heap.size, 0, none⟩) hM _).setCell (p := ⟨w3.heap.size, 1, none⟩) hM _).setCell (p := ⟨w3.heap.size, 2, none⟩) hM _).setCell (p := ⟨w3.heap.size, 3, none⟩) hM _).setCell (p := ⟨w3.heap.size, 4, none⟩) hM _).setCell (p := ⟨w3.heap.size, 5, none⟩) hM _)
          have P6 : Blk X3 w3.heap.size #[.string nb, .slice a1 s1 c1, .slice a2 els.length c2, .slice a3 s3 c3, .slice a4 s4 c4, .slice a5 s5 c5] := by rw [hX]; exact ((((((Pc.set 0 _).set 1 _).set 2 _).set 3 _).set 4 _).set 5 _)
          rw [← hX]
          clear hX Bc Pc t0 t1 t2 t3 t4 t5 f0 f1 f2 f3 f4 f5 k0 k1 k2 k3 k4 k5
          go_cut [] from 6 (fun wx => Below W1.heap.size W1 wx)
          case first =>
            by_cases h5 : 0 < s3
            · have h5i : (0 : Int) < (s3 : Int) := by omega
              obtain ⟨_, _, k0, k1, k2, k3, k4, k5⟩ := SK.out _ B6
              obtain ⟨i, hi⟩ : ∃ i, n % s3 = i := ⟨_, rfl⟩
              have hil : i < s3 := by rw [← hi]; exact Nat.mod_lt _ h5
              have hi2 : (n : Int).tmod (s3 : Int) = (i : Int) := by rw [← hi]; rfl
              have hic : i + 1 ≤ s3 := hil
              replace hi := Lib.hid hi
              have hwr : IntKind.i64.wrap ((i : Int) + 1) = (i : Int) + 1 := by rw [IntKind.wrap_i64]; omega
              obtain ⟨yb, hyb⟩ : ∃ y, L.joints[i]? = some y := ⟨_, List.getElem?_eq_getElem (by rw [← ej2.out]; exact hil)⟩
              obtain ⟨bb, oo, rfl, hbb, hyc⟩ := Hj.out.rd B6 hyb
              obtain ⟨⟨⟨e1, e2⟩, ⟨e3, e4⟩⟩, hyb2⟩ : ∃ y, yb = y := ⟨_, rfl⟩
              subst hyb2
              have hyb3 := Lib.hid hyb
              clear hyb hyc
              have SJ : ∀ W, Below W1.heap.size W1 W → (W.cell? ⟨w.heap.size, 0, none⟩ = some (.string nb) ∧ W.cell? ⟨w.heap.size, 1, none⟩ = some (.slice a1 s1 c1) ∧ W.cell? ⟨w.heap.size, 2, none⟩ = some (.slice a2 els.length c2) ∧ W.cell? ⟨w.heap.size, 3, none⟩ = some (.slice (some ⟨bb, oo, none⟩) s3 c3) ∧ W.cell? ⟨w.heap.size, 4, none⟩ = some (.slice a4 s4 c4) ∧ W.cell? ⟨w.heap.size, 5, none⟩ = some (.slice a5 s5 c5) ∧ W.cell? ⟨bb, oo + i * 4, none⟩ = some (.int .i64 e1) ∧ W.cell? ⟨bb, oo + i * 4 + 1, none⟩ = some (.int .i64 e2) ∧ W.cell? ⟨bb, oo + i * 4 + 2, none⟩ = some (.int .i64 e3) ∧ W.cell? ⟨bb, oo + i * 4 + 3, none⟩ = some (.int .i64 e4) ∧ Below W1.heap.size W1 W) := by
                intro W h
                obtain ⟨_, _, q0, q1, q2, q3, q4, q5⟩ := SK.out _ h
                obtain ⟨b', o', hbo, _, hc⟩ := Hj.out.rd h hyb3.out
                obtain ⟨rfl, rfl⟩ : bb = b' ∧ oo = o' := by simpa using hbo
                have g0 := hc 0 _ rfl
                simp only [Nat.add_zero] at g0
                exact ⟨q0, q1, q2, q3, q4, q5, g0, hc 1 _ rfl, hc 2 _ rfl, hc 3 _ rfl, h⟩
              have K5 := K4 (.agg #[.string nb, .slice a1 s1 c1, .slice a2 els.length c2, .slice (some ⟨bb, oo, none⟩) s3 c3, .slice a4 s4 c4, .slice a5 s5 c5]) e1 e2
              have K6 := K4 (.agg #[.string nb, .slice a1 s1 c1, .slice a2 els.length c2, .slice (some ⟨bb, oo, none⟩) s3 c3, .slice a4 s4 c4, .slice a5 s5 c5]) e3 e4
              have hin : (i : Int) < (s3 : Int) := by omega
              go_upto_region 18 with fail
              clear k0 k1 k2 k3 k4 k5
              refine wp_region_noPanic ?_
              refine wp_region_held_drew (S := fun W => W.cell? ⟨w.heap.size, 0, none⟩ = some (.string nb) ∧ W.cell? ⟨w.heap.size, 1, none⟩ = some (.slice a1 s1 c1) ∧ W.cell? ⟨w.heap.size, 2, none⟩ = some (.slice a2 els.length c2) ∧ W.cell? ⟨w.heap.size, 3, none⟩ = some (.slice (some ⟨bb, oo, none⟩) s3 c3) ∧ W.cell? ⟨w.heap.size, 4, none⟩ = some (.slice a4 s4 c4) ∧ W.cell? ⟨w.heap.size, 5, none⟩ = some (.slice a5 s5 c5) ∧ W.cell? ⟨bb, oo + i * 4, none⟩ = some (.int .i64 e1) ∧ W.cell? ⟨bb, oo + i * 4 + 1, none⟩ = some (.int .i64 e2) ∧ W.cell? ⟨bb, oo + i * 4 + 2, none⟩ = some (.int .i64 e3) ∧ W.cell? ⟨bb, oo + i * 4 + 3, none⟩ = some (.int .i64 e4) ∧ Below W1.heap.size W1 W) (by kernel_rfl) (SJ _ B6.drew) (fun hH0 => ?_)
              refine take_op (i := 0) (oi := _) (d := some 83) (v := .agg #[.string nb, .slice a1 s1 c1, .slice a2 els.length c2, .slice (some ⟨bb, oo, none⟩) s3 c3, .slice a4 s4 c4, .slice a5 s5 c5]) rfl rfl (by kernel_rfl) (by kernel_rfl) (by kernel_rfl) (fun _ _ _ h => h) (Or.inl ⟨rfl, ?_⟩) hH0 ?_
              · intro w' hSw
                obtain ⟨x0, x1, x2, x3, x4, x5, x6, x7, x8, x9, x10⟩ := hSw
                go_simp
              try simp only [Act.put, List.setIfInBounds_toArray, List.set_cons_zero, List.set_cons_succ]
              refine take_op (i := 1) (oi := _) (d := some 84) (v := .pointer (some ⟨w.heap.size, 3, none⟩)) rfl rfl (by kernel_rfl) (by kernel_rfl) (by kernel_rfl) (fun _ _ _ h => h) (Or.inl ⟨rfl, ?_⟩) hH0 ?_
              · intro w' hSw
                obtain ⟨x0, x1, x2, x3, x4, x5, x6, x7, x8, x9, x10⟩ := hSw
                go_simp
              try simp only [Act.put, List.setIfInBounds_toArray, List.set_cons_zero, List.set_cons_succ]
              refine take_op (i := 2) (oi := _) (d := some 85) (v := .slice (some ⟨bb, oo, none⟩) s3 c3) rfl rfl (by kernel_rfl) (by kernel_rfl) (by kernel_rfl) (fun _ _ _ h => h) (Or.inl ⟨rfl, ?_⟩) hH0 ?_
              · intro w' hSw
                obtain ⟨x0, x1, x2, x3, x4, x5, x6, x7, x8, x9, x10⟩ := hSw
                go_simp
              try simp only [Act.put, List.setIfInBounds_toArray, List.set_cons_zero, List.set_cons_succ]
              refine take_op (i := 3) (oi := _) (d := some 86) (v := .int .i64 (i : Int)) rfl rfl (by kernel_rfl) (by kernel_rfl) (by kernel_rfl) (fun _ _ _ h => h) (Or.inl ⟨rfl, ?_⟩) hH0 ?_
              · intro w' hSw
                obtain ⟨x0, x1, x2, x3, x4, x5, x6, x7, x8, x9, x10⟩ := hSw
                go_simp
              try simp only [Act.put, List.setIfInBounds_toArray, List.set_cons_zero, List.set_cons_succ]
              refine take_op (i := 4) (oi := _) (d := some 87) (v := .pointer (some ⟨bb, oo + i * 4, none⟩)) rfl rfl (by kernel_rfl) (by kernel_rfl) (by kernel_rfl) (fun _ _ _ h => h) (Or.inl ⟨rfl, ?_⟩) hH0 ?_
              · intro w' hSw
                obtain ⟨x0, x1, x2, x3, x4, x5, x6, x7, x8, x9, x10⟩ := hSw
                go_simp
              try simp only [Act.put, List.setIfInBounds_toArray, List.set_cons_zero, List.set_cons_succ]
              refine take_op (i := 5) (oi := _) (d := some 88) (v := .pointer (some ⟨bb, oo + i * 4, none⟩)) rfl rfl (by kernel_rfl) (by kernel_rfl) (by kernel_rfl) (fun _ _ _ h => h) (Or.inl ⟨rfl, ?_⟩) hH0 ?_
              · intro w' hSw
                obtain ⟨x0, x1, x2, x3, x4, x5, x6, x7, x8, x9, x10⟩ := hSw
                go_simp
              try simp only [Act.put, List.setIfInBounds_toArray, List.set_cons_zero, List.set_cons_succ]
              refine take_op (i := 6) (oi := _) (d := some 89) (v := .agg #[.int .i64 e1, .int .i64 e2]) rfl rfl (by kernel_rfl) (by kernel_rfl) (by kernel_rfl) (fun _ _ _ h => h) (Or.inl ⟨rfl, ?_⟩) hH0 ?_
              · intro w' hSw
                obtain ⟨x0, x1, x2, x3, x4, x5, x6, x7, x8, x9, x10⟩ := hSw
                go_simp
              try simp only [Act.put, List.setIfInBounds_toArray, List.set_cons_zero, List.set_cons_succ]
              refine wpAnyH_ready (rs := [7]) (by kernel_rfl) (by simp) ?_
              refine AllReadyH.cons (o := _) rfl (fun KK hKK => ?_) AllReadyH.nil
              go_simp
              refine (K5 _ (GB.out _ B6.drew) (VB.out _ B6.drew)).mono ?_
              rintro e wa ⟨rfl, ba'⟩
              have ba : Below W1.heap.size W1 wa := Below.trans B6.drew (ba'.mono (Below.size B6.drew))
              refine hKK.out _ _ (SJ _ ba) (fun hH1 => ?_)
              clear hKK KK
              try simp only [Act.put, List.setIfInBounds_toArray, List.set_cons_zero, List.set_cons_succ]
              obtain ⟨sg1, hs1g⟩ : ∃ q, sigF (e1, e2) 0 L.sigs = q := ⟨_, rfl⟩
              rw [hs1g]
              obtain ⟨sg2, hs2g⟩ : ∃ q, sigF (e3, e4) 0 L.sigs = q := ⟨_, rfl⟩
              rw [hs2g] at K6
              by_cases hsa : 0 ≤ sg1
              · have tsg : decide (0 ≤ sg1) = true := decide_eq_true hsa
                refine take_op (i := 8) (oi := _) (d := some 91) (v := .bool (decide (0 ≤ sg1))) rfl rfl (by kernel_rfl) (by kernel_rfl) (by kernel_rfl) (fun _ _ _ h => h) (Or.inl ⟨rfl, ?_⟩) hH1 ?_
                · intro w' hSw
                  obtain ⟨x0, x1, x2, x3, x4, x5, x6, x7, x8, x9, x10⟩ := hSw
                  go_simp
                try simp only [Act.put, List.setIfInBounds_toArray, List.set_cons_zero, List.set_cons_succ]
                refine take_op (i := 9) (oi := _) (d := some 92) (v := .bool (decide (0 ≤ sg1))) rfl rfl (by kernel_rfl) (by kernel_rfl) (by kernel_rfl) (fun _ _ _ h => h) (Or.inl ⟨rfl, ?_⟩) hH1 ?_
                · intro w' hSw
                  obtain ⟨x0, x1, x2, x3, x4, x5, x6, x7, x8, x9, x10⟩ := hSw
                  go_simp
                try simp only [Act.put, List.setIfInBounds_toArray, List.set_cons_zero, List.set_cons_succ]
                rw [tsg]
                refine take_op (i := 10) (oi := _) (d := some 93) (v := undef) rfl rfl (by kernel_rfl) (by kernel_rfl) (by kernel_rfl) (fun _ _ _ h => h) (Or.inr ⟨by kernel_rfl, rfl⟩) hH1 ?_
                try simp only [Act.put, List.setIfInBounds_toArray, List.set_cons_zero, List.set_cons_succ]
                refine take_op (i := 11) (oi := _) (d := some 94) (v := undef) rfl rfl (by kernel_rfl) (by kernel_rfl) (by kernel_rfl) (fun _ _ _ h => h) (Or.inr ⟨by kernel_rfl, rfl⟩) hH1 ?_
                try simp only [Act.put, List.setIfInBounds_toArray, List.set_cons_zero, List.set_cons_succ]
                refine take_op (i := 12) (oi := _) (d := some 95) (v := undef) rfl rfl (by kernel_rfl) (by kernel_rfl) (by kernel_rfl) (fun _ _ _ h => h) (Or.inr ⟨by kernel_rfl, rfl⟩) hH1 ?_
                try simp only [Act.put, List.setIfInBounds_toArray, List.set_cons_zero, List.set_cons_succ]
                refine take_op (i := 13) (oi := _) (d := some 96) (v := undef) rfl rfl (by kernel_rfl) (by kernel_rfl) (by kernel_rfl) (fun _ _ _ h => h) (Or.inr ⟨by kernel_rfl, rfl⟩) hH1 ?_
                try simp only [Act.put, List.setIfInBounds_toArray, List.set_cons_zero, List.set_cons_succ]
                refine take_op (i := 14) (oi := _) (d := some 97) (v := undef) rfl rfl (by kernel_rfl) (by kernel_rfl) (by kernel_rfl) (fun _ _ _ h => h) (Or.inr ⟨by kernel_rfl, rfl⟩) hH1 ?_
                try simp only [Act.put, List.setIfInBounds_toArray, List.set_cons_zero, List.set_cons_succ]
                refine take_op (i := 15) (oi := _) (d := some 98) (v := undef) rfl rfl (by kernel_rfl) (by kernel_rfl) (by kernel_rfl) (fun _ _ _ h => h) (Or.inr ⟨by kernel_rfl, rfl⟩) hH1 ?_
                try simp only [Act.put, List.setIfInBounds_toArray, List.set_cons_zero, List.set_cons_succ]
                refine take_op (i := 16) (oi := _) (d := some 99) (v := undef) rfl rfl (by kernel_rfl) (by kernel_rfl) (by kernel_rfl) (fun _ _ _ h => h) (Or.inr ⟨by kernel_rfl, rfl⟩) hH1 ?_
                try simp only [Act.put, List.setIfInBounds_toArray, List.set_cons_zero, List.set_cons_succ]
                refine take_op (i := 17) (oi := _) (d := some 100) (v := undef) rfl rfl (by kernel_rfl) (by kernel_rfl) (by kernel_rfl) (fun _ _ _ h => h) (Or.inr ⟨by kernel_rfl, rfl⟩) hH1 ?_
                try simp only [Act.put, List.setIfInBounds_toArray, List.set_cons_zero, List.set_cons_succ]
                refine take_op (i := 18) (oi := _) (d := some 101) (v := undef) rfl rfl (by kernel_rfl) (by kernel_rfl) (by kernel_rfl) (fun _ _ _ h => h) (Or.inr ⟨by kernel_rfl, rfl⟩) hH1 ?_
                try simp only [Act.put, List.setIfInBounds_toArray, List.set_cons_zero, List.set_cons_succ]
                refine take_op (i := 19) (oi := _) (d := some 102) (v := .bool true) rfl rfl (by kernel_rfl) (by kernel_rfl) (by kernel_rfl) (fun _ _ _ h => h) (Or.inl ⟨rfl, ?_⟩) hH1 ?_
                · intro w' hSw
                  obtain ⟨x0, x1, x2, x3, x4, x5, x6, x7, x8, x9, x10⟩ := hSw
                  go_simp
                try simp only [Act.put, List.setIfInBounds_toArray, List.set_cons_zero, List.set_cons_succ]
                refine wpAnyH_done (by kernel_rfl) ?_ _
                refine NoPanic.normal ?_
                clear hH0 SJ
                go_wp2_with fail
                refine (alive_any _ (GB.out _ ba)).mono ?_
                rintro e wz ⟨rfl, bz⟩
                go_wp2
                go_ret
                exact ⟨rfl, HB.trans ((ba.trans (bz.mono ba.size)).mono HB.size)⟩
              · have tsg : decide (0 ≤ sg1) = false := decide_eq_false hsa
                refine take_op (i := 8) (oi := _) (d := some 91) (v := .bool (decide (0 ≤ sg1))) rfl rfl (by kernel_rfl) (by kernel_rfl) (by kernel_rfl) (fun _ _ _ h => h) (Or.inl ⟨rfl, ?_⟩) hH1 ?_
                · intro w' hSw
                  obtain ⟨x0, x1, x2, x3, x4, x5, x6, x7, x8, x9, x10⟩ := hSw
                  go_simp
                try simp only [Act.put, List.setIfInBounds_toArray, List.set_cons_zero, List.set_cons_succ]
                refine take_op (i := 9) (oi := _) (d := some 92) (v := .bool (decide (0 ≤ sg1))) rfl rfl (by kernel_rfl) (by kernel_rfl) (by kernel_rfl) (fun _ _ _ h => h) (Or.inl ⟨rfl, ?_⟩) hH1 ?_
                · intro w' hSw
                  obtain ⟨x0, x1, x2, x3, x4, x5, x6, x7, x8, x9, x10⟩ := hSw
                  go_simp
                try simp only [Act.put, List.setIfInBounds_toArray, List.set_cons_zero, List.set_cons_succ]
                rw [tsg]
                refine take_op (i := 10) (oi := _) (d := some 93) (v := .agg #[.string nb, .slice a1 s1 c1, .slice a2 els.length c2, .slice (some ⟨bb, oo, none⟩) s3 c3, .slice a4 s4 c4, .slice a5 s5 c5]) rfl rfl (by kernel_rfl) (by kernel_rfl) (by kernel_rfl) (fun _ _ _ h => h) (Or.inl ⟨rfl, ?_⟩) hH1 ?_
                · intro w' hSw
                  obtain ⟨x0, x1, x2, x3, x4, x5, x6, x7, x8, x9, x10⟩ := hSw
                  go_simp
                try simp only [Act.put, List.setIfInBounds_toArray, List.set_cons_zero, List.set_cons_succ]
                refine take_op (i := 11) (oi := _) (d := some 94) (v := .pointer (some ⟨w.heap.size, 3, none⟩)) rfl rfl (by kernel_rfl) (by kernel_rfl) (by kernel_rfl) (fun _ _ _ h => h) (Or.inl ⟨rfl, ?_⟩) hH1 ?_
                · intro w' hSw
                  obtain ⟨x0, x1, x2, x3, x4, x5, x6, x7, x8, x9, x10⟩ := hSw
                  go_simp
                try simp only [Act.put, List.setIfInBounds_toArray, List.set_cons_zero, List.set_cons_succ]
                refine take_op (i := 12) (oi := _) (d := some 95) (v := .slice (some ⟨bb, oo, none⟩) s3 c3) rfl rfl (by kernel_rfl) (by kernel_rfl) (by kernel_rfl) (fun _ _ _ h => h) (Or.inl ⟨rfl, ?_⟩) hH1 ?_
                · intro w' hSw
                  obtain ⟨x0, x1, x2, x3, x4, x5, x6, x7, x8, x9, x10⟩ := hSw
                  go_simp
                try simp only [Act.put, List.setIfInBounds_toArray, List.set_cons_zero, List.set_cons_succ]
                refine take_op (i := 13) (oi := _) (d := some 96) (v := .int .i64 (i : Int)) rfl rfl (by kernel_rfl) (by kernel_rfl) (by kernel_rfl) (fun _ _ _ h => h) (Or.inl ⟨rfl, ?_⟩) hH1 ?_
                · intro w' hSw
                  obtain ⟨x0, x1, x2, x3, x4, x5, x6, x7, x8, x9, x10⟩ := hSw
                  go_simp
                try simp only [Act.put, List.setIfInBounds_toArray, List.set_cons_zero, List.set_cons_succ]
                refine take_op (i := 14) (oi := _) (d := some 97) (v := .pointer (some ⟨bb, oo + i * 4, none⟩)) rfl rfl (by kernel_rfl) (by kernel_rfl) (by kernel_rfl) (fun _ _ _ h => h) (Or.inl ⟨rfl, ?_⟩) hH1 ?_
                · intro w' hSw
                  obtain ⟨x0, x1, x2, x3, x4, x5, x6, x7, x8, x9, x10⟩ := hSw
                  go_simp
                try simp only [Act.put, List.setIfInBounds_toArray, List.set_cons_zero, List.set_cons_succ]
                refine take_op (i := 15) (oi := _) (d := some 98) (v := .pointer (some ⟨bb, oo + i * 4 + 2, none⟩)) rfl rfl (by kernel_rfl) (by kernel_rfl) (by kernel_rfl) (fun _ _ _ h => h) (Or.inl ⟨rfl, ?_⟩) hH1 ?_
                · intro w' hSw
                  obtain ⟨x0, x1, x2, x3, x4, x5, x6, x7, x8, x9, x10⟩ := hSw
                  go_simp
                try simp only [Act.put, List.setIfInBounds_toArray, List.set_cons_zero, List.set_cons_succ]
                refine take_op (i := 16) (oi := _) (d := some 99) (v := .agg #[.int .i64 e3, .int .i64 e4]) rfl rfl (by kernel_rfl) (by kernel_rfl) (by kernel_rfl) (fun _ _ _ h => h) (Or.inl ⟨rfl, ?_⟩) hH1 ?_
                · intro w' hSw
                  obtain ⟨x0, x1, x2, x3, x4, x5, x6, x7, x8, x9, x10⟩ := hSw
                  go_simp
                try simp only [Act.put, List.setIfInBounds_toArray, List.set_cons_zero, List.set_cons_succ]
                refine wpAnyH_ready (rs := [17]) (by kernel_rfl) (by simp) ?_
                refine AllReadyH.cons (o := _) rfl (fun KK hKK => ?_) AllReadyH.nil
                go_simp
                refine (K6 _ (GB.out _ ba) (VB.out _ ba)).mono ?_
                rintro e wb ⟨rfl, bd'⟩
                have bd : Below W1.heap.size W1 wb := Below.trans ba (bd'.mono (Below.size ba))
                refine hKK.out _ _ (SJ _ bd) (fun hH2 => ?_)
                clear hKK KK
                try simp only [Act.put, List.setIfInBounds_toArray, List.set_cons_zero, List.set_cons_succ]
                refine take_op (i := 18) (oi := _) (d := some 101) (v := .bool (decide (0 ≤ sg2))) rfl rfl (by kernel_rfl) (by kernel_rfl) (by kernel_rfl) (fun _ _ _ h => h) (Or.inl ⟨rfl, ?_⟩) hH2 ?_
                · intro w' hSw
                  obtain ⟨x0, x1, x2, x3, x4, x5, x6, x7, x8, x9, x10⟩ := hSw
                  go_simp
                try simp only [Act.put, List.setIfInBounds_toArray, List.set_cons_zero, List.set_cons_succ]
                refine take_op (i := 19) (oi := _) (d := some 102) (v := .bool (decide (0 ≤ sg2))) rfl rfl (by kernel_rfl) (by kernel_rfl) (by kernel_rfl) (fun _ _ _ h => h) (Or.inl ⟨rfl, ?_⟩) hH2 ?_
                · intro w' hSw
                  obtain ⟨x0, x1, x2, x3, x4, x5, x6, x7, x8, x9, x10⟩ := hSw
                  go_simp
                try simp only [Act.put, List.setIfInBounds_toArray, List.set_cons_zero, List.set_cons_succ]
                by_cases hsb : 0 ≤ sg2
                · have tsg2 : decide (0 ≤ sg2) = true := decide_eq_true hsb
                  rw [tsg2]
                  refine wpAnyH_done (by kernel_rfl) ?_ _
                  refine NoPanic.normal ?_
                  clear hH0 hH1 SJ
                  go_wp2_with fail
                  refine (alive_any _ (GB.out _ bd)).mono ?_
                  rintro e wz ⟨rfl, bz⟩
                  go_wp2
                  go_ret
                  exact ⟨rfl, HB.trans ((bd.trans (bz.mono bd.size)).mono HB.size)⟩
                have tsg2 : decide (0 ≤ sg2) = false := decide_eq_false hsb
                rw [tsg2]
                refine wpAnyH_done (by kernel_rfl) ?_ _
                refine NoPanic.normal ?_
                have sg1' : sigF (e1, e2) 0 L.sigs < 0 := by rw [hs1g]; omega
                have sg2' : sigF (e3, e4) 0 L.sigs < 0 := by rw [hs2g]; omega
                have P7' : Blk wb w3.heap.size #[.string nb, .slice a1 s1 c1, .slice a2 els.length c2, .slice (some ⟨bb, oo, none⟩) s3 c3, .slice a4 s4 c4, .slice a5 s5 c5] := (P6.below (w := X3.drew) ba').below bd'
                clear hH0 hH1 hH2 SJ tsg tsg2 hsa hsb
                obtain ⟨_, _, k0, k1, k2, k3, k4, k5⟩ := SK.out _ bd
                have C1 := cut_to (P := Tryd.prog) (t := 24) rfl (m := 4) (b := bb) (off := oo) (n := s3) (cap := c3) (k := i) (fun _ => rfl) (by omega) (by rw [ej2.out]; exact mj2)
                obtain ⟨a6, C2, R2⟩ := cut_from (P := Tryd.prog) (t := 24) rfl (k := i + 1) Hj.out (fun _ => rfl) (by rw [← ej2.out]; exact hic) ⟨mj1, mj2⟩
                have R1 := RM.take (k := i) Hj.out (by rw [← ej2.out]; omega) ⟨mj1, mj2⟩
                rw [← ej2.out] at C2 R2
                simp only [Int.natCast_add, Int.natCast_one] at C2
                have hq1 : (L.joints.take i).length = i := by rw [List.length_take, ← ej2.out]; omega
                have hq2 : (L.joints.drop (i + 1)).length = s3 - (i + 1) := by rw [List.length_drop, ← ej2.out]
                obtain ⟨va, hva⟩ : ∃ l, L.joints.take i = l := ⟨_, rfl⟩
                obtain ⟨vd, hvd⟩ : ∃ l, L.joints.drop (i + 1) = l := ⟨_, rfl⟩
                have hER : va.map joV ++ vd.map joV = (L.joints.eraseIdx i).map joV := by rw [← hva, ← hvd]; exact erase_parts _ _ _
                rw [hva] at R1 hq1
                rw [hvd] at R2 hq2
                clear hva hvd
                replace hER := Lib.hid hER
                replace R1 := Lib.hid R1
                replace R2 := Lib.hid R2
                replace hq1 := Lib.hid hq1
                replace hq2 := Lib.hid hq2
                go_upto_region 20 with fail
                clear k0 k1 k2 k3 k4 k5
                have SS : ∀ W, Below W1.heap.size W1 W → (W.cell? ⟨w.heap.size, 3, none⟩ = some (.slice (some ⟨bb, oo, none⟩) s3 c3) ∧ Below W1.heap.size W1 W) := by
                  intro W h
                  obtain ⟨_, _, q0, q1, q2, q3, q4, q5⟩ := SK.out _ h
                  exact ⟨q3, h⟩
                refine wp_region_noPanic ?_
                refine wp_region_held_drew (S := fun W => W.cell? ⟨w.heap.size, 3, none⟩ = some (.slice (some ⟨bb, oo, none⟩) s3 c3) ∧ Below W1.heap.size W1 W) (by kernel_rfl) (SS _ bd.drew) (fun hH0 => ?_)
                refine take_op (i := 1) (oi := _) (d := some 105) (v := .pointer (some ⟨w.heap.size, 3, none⟩)) rfl rfl (by kernel_rfl) (by kernel_rfl) (by kernel_rfl) (fun _ _ _ h => h) (Or.inl ⟨rfl, ?_⟩) hH0 ?_
                · intro w' hSw
                  obtain ⟨x0, x1⟩ := hSw
                  go_simp
                try simp only [Act.put, List.setIfInBounds_toArray, List.set_cons_zero, List.set_cons_succ]
                refine take_op (i := 2) (oi := _) (d := some 106) (v := .slice (some ⟨bb, oo, none⟩) s3 c3) rfl rfl (by kernel_rfl) (by kernel_rfl) (by kernel_rfl) (fun _ _ _ h => h) (Or.inl ⟨rfl, ?_⟩) hH0 ?_
                · intro w' hSw
                  obtain ⟨x0, x1⟩ := hSw
                  go_simp
                try simp only [Act.put, List.setIfInBounds_toArray, List.set_cons_zero, List.set_cons_succ]
                refine take_op (i := 3) (oi := _) (d := some 107) (v := .int .i64 (i : Int)) rfl rfl (by kernel_rfl) (by kernel_rfl) (by kernel_rfl) (fun _ _ _ h => h) (Or.inl ⟨rfl, ?_⟩) hH0 ?_
                · intro w' hSw
                  obtain ⟨x0, x1⟩ := hSw
                  go_simp
                try simp only [Act.put, List.setIfInBounds_toArray, List.set_cons_zero, List.set_cons_succ]
                refine take_op (i := 4) (oi := _) (d := some 108) (v := .slice (some ⟨bb, oo, none⟩) i c3) rfl rfl (by kernel_rfl) (by kernel_rfl) (by kernel_rfl) (fun _ _ _ h => h) (Or.inl ⟨rfl, ?_⟩) hH0 ?_
                · intro w' hSw
                  obtain ⟨x0, x1⟩ := hSw
                  go_simp
                try simp only [Act.put, List.setIfInBounds_toArray, List.set_cons_zero, List.set_cons_succ]
                refine take_op (i := 6) (oi := _) (d := some 110) (v := .pointer (some ⟨w.heap.size, 3, none⟩)) rfl rfl (by kernel_rfl) (by kernel_rfl) (by kernel_rfl) (fun _ _ _ h => h) (Or.inl ⟨rfl, ?_⟩) hH0 ?_
                · intro w' hSw
                  obtain ⟨x0, x1⟩ := hSw
                  go_simp
                try simp only [Act.put, List.setIfInBounds_toArray, List.set_cons_zero, List.set_cons_succ]
                refine take_op (i := 7) (oi := _) (d := some 111) (v := .slice (some ⟨bb, oo, none⟩) s3 c3) rfl rfl (by kernel_rfl) (by kernel_rfl) (by kernel_rfl) (fun _ _ _ h => h) (Or.inl ⟨rfl, ?_⟩) hH0 ?_
                · intro w' hSw
                  obtain ⟨x0, x1⟩ := hSw
                  go_simp
                try simp only [Act.put, List.setIfInBounds_toArray, List.set_cons_zero, List.set_cons_succ]
                refine take_op (i := 8) (oi := _) (d := some 112) (v := .int .i64 (i : Int)) rfl rfl (by kernel_rfl) (by kernel_rfl) (by kernel_rfl) (fun _ _ _ h => h) (Or.inl ⟨rfl, ?_⟩) hH0 ?_
                · intro w' hSw
                  obtain ⟨x0, x1⟩ := hSw
                  go_simp
                try simp only [Act.put, List.setIfInBounds_toArray, List.set_cons_zero, List.set_cons_succ]
                refine take_op (i := 9) (oi := _) (d := some 113) (v := .int .i64 ((i : Int) + 1)) rfl rfl (by kernel_rfl) (by kernel_rfl) (by kernel_rfl) (fun _ _ _ h => h) (Or.inl ⟨rfl, ?_⟩) hH0 ?_
                · intro w' hSw
                  obtain ⟨x0, x1⟩ := hSw
                  go_simp
                try simp only [Act.put, List.setIfInBounds_toArray, List.set_cons_zero, List.set_cons_succ]
                refine take_op (i := 10) (oi := _) (d := some 114) (v := .slice a6 (s3 - (i + 1)) (c3 - (i + 1))) rfl rfl (by kernel_rfl) (by kernel_rfl) (by kernel_rfl) (fun _ _ _ h => h) (Or.inl ⟨rfl, ?_⟩) hH0 ?_
                · intro w' hSw
                  obtain ⟨x0, x1⟩ := hSw
                  go_simp
                try simp only [Act.put, List.setIfInBounds_toArray, List.set_cons_zero, List.set_cons_succ]
                refine wpAnyH_ready (rs := [0]) (by kernel_rfl) (by simp) ?_
                refine AllReadyH.cons (o := _) rfl (fun KK hKK => ?_) AllReadyH.nil
                go_simp
                have D1 : Below W1.heap.size W1 (wb.drew.alloc (.cells #[] 47)) := bd.drew.alloc bd.size _
                have O1 := lit_owns wb.drew wb.heap.size 47 4 rfl
                have P1 : Blk (wb.drew.alloc (.cells #[] 47)) w3.heap.size #[.string nb, .slice a1 s1 c1, .slice a2 els.length c2, .slice (some ⟨bb, oo, none⟩) s3 c3, .slice a4 s4 c4, .slice a5 s5 c5] := Blk.old (w := wb.drew) P7' _
                refine hKK.out _ _ (SS _ D1) (fun hH1 => ?_)
                clear hKK KK
                try simp only [Act.put, List.setIfInBounds_toArray]
                refine wpAnyH_ready (rs := [5]) (by kernel_rfl) (by simp) ?_
                refine AllReadyH.cons (o := _) rfl (fun KK hKK => ?_) AllReadyH.nil
                refine step_append_rm rfl (.tmp 104) (.tmp 108) 24 rfl wb.heap.size 47 (.agg #[.int .i64 0, .int .i64 0, .int .i64 0, .int .i64 0]) 4 32 Tryd.underlying24 info_jo rfl (by omega) (.slice (some ⟨wb.heap.size, 0, none⟩) 0 0) 0 [] rfl O1 _ rfl (va.map joV) (R1.out.below D1) (rows_jo _) (one_jo _) (by rw [List.length_map, hq1.out]; omega) (by rw [List.length_map, hq1.out]; omega) (by simp) ?_
                intro v7 w7 p7 g7 _
                have hXs : W1.heap.size ≤ wb.heap.size := bd.size
                have D7 : Below W1.heap.size W1 w7 := D1.grown g7 (by simp; omega) (fun j e => by cases e; exact hXs)
                have P7 : Blk w7 w3.heap.size #[.string nb, .slice a1 s1 c1, .slice a2 els.length c2, .slice (some ⟨bb, oo, none⟩) s3 c3, .slice a4 s4 c4, .slice a5 s5 c5] := Blk.grown P1 g7 (fun e => by have e2 : wb.heap.size = w3.heap.size := Option.some.inj e; have := P7'.lt; omega)
                have z7 := g7.size
                refine hKK.out _ _ (SS _ D7) (fun hH2 => ?_)
                clear hKK KK
                try simp only [Act.put]
                refine wpAnyH_ready (rs := [11]) (by kernel_rfl) (by simp) ?_
                refine AllReadyH.cons (o := _) rfl (fun KK hKK => ?_) AllReadyH.nil
                refine step_append_rm rfl (.tmp 109) (.tmp 114) 24 rfl wb.heap.size 47 (.agg #[.int .i64 0, .int .i64 0, .int .i64 0, .int .i64 0]) 4 32 Tryd.underlying24 info_jo rfl (by omega) v7 _ _ rfl p7 _ rfl (vd.map joV) (R2.out.below D7) (rows_jo _) (one_jo _) (by rw [List.length_map, List.length_map, hq1.out, hq2.out]; omega) (by rw [List.length_map, List.length_map, hq1.out, hq2.out]; omega) (by simp at z7; omega) ?_
                intro v8 w8 p8 g8 _
                have D8 : Below W1.heap.size W1 w8 := D7.grown g8 D7.size (fun j e => Nat.le_trans hXs (p7.lt j e).1)
                have P8 : Blk w8 w3.heap.size #[.string nb, .slice a1 s1 c1, .slice a2 els.length c2, .slice (some ⟨bb, oo, none⟩) s3 c3, .slice a4 s4 c4, .slice a5 s5 c5] := Blk.grown P7 g8 (fun e => by have := (p7.lt _ e).1; have := P7'.lt; omega)
                refine hKK.out _ _ (SS _ D8) (fun hH3 => ?_)
                clear hKK KK
                try simp only [Act.put]
                refine take_op (i := 12) (oi := _) (d := some 116) (v := .pointer (some ⟨w3.heap.size, 3, none⟩)) rfl rfl (by kernel_rfl) (by kernel_rfl) (by kernel_rfl) (fun _ _ _ h => h) (Or.inl ⟨rfl, ?_⟩) hH3 ?_
                · intro w' hSw
                  obtain ⟨x0, x1⟩ := hSw
                  go_simp
                try simp only [Act.put, List.setIfInBounds_toArray]
                obtain ⟨n8, hn8⟩ : ∃ n8, (va.map joV ++ vd.map joV).length = n8 := ⟨_, rfl⟩
                rw [show 0 + (va.map joV).length + (vd.map joV).length = n8 from by rw [← hn8, List.length_append]; omega, show [] ++ (va.map joV).flatten ++ (vd.map joV).flatten = (va.map joV ++ vd.map joV).flatten from by rw [List.nil_append, List.flatten_append]] at p8
                obtain ⟨a8, c8, rfl⟩ := own_shape p8
                have y0 := P8.at 3 _ rfl
                have f0 := P8.free 3
                refine wpAnyH_ready (rs := [13]) (by kernel_rfl) (by simp) ?_
                refine AllReadyH.cons (o := _) rfl (fun KK hKK => ?_) AllReadyH.nil
                go_simp
                obtain ⟨X9, hX9⟩ : ∃ X9, X9 = w8.setCell ⟨w3.heap.size, 3, none⟩ (.slice a8 n8 c8) := ⟨_, rfl⟩
                have D9 : Below W1.heap.size W1 X9 := by rw [hX9]; exact D8.setCell (p := ⟨w3.heap.size, 3, none⟩) hM _
                have P9 : Blk X9 w3.heap.size #[.string nb, .slice a1 s1 c1, .slice a2 els.length c2, .slice a8 n8 c8, .slice a4 s4 c4, .slice a5 s5 c5] := by rw [hX9]; exact P8.set 3 _
                have R9 : RM X9 (.slice a8 n8 c8) 4 ((L.joints.eraseIdx i).map joV) := by
                  rw [← hER.out]
                  refine RM.ownM (base := wb.heap.size) (e := 47) ?_ ?_
                  · rw [hn8, hX9]; exact own_set p8 w3.heap.size (by have := P7'.lt; omega) 3 _
                  · intro r hr
                    rcases List.mem_append.1 hr with hr | hr
                    · exact rows_jo _ r hr
                    · exact rows_jo _ r hr
                rw [← hX9]
                refine hKK.out _ _ (SS _ D9) (fun hH4 => ?_)
                clear hKK KK
                try simp only [Act.put, List.setIfInBounds_toArray, List.set_cons_zero, List.set_cons_succ]
                refine wpAnyH_done (by kernel_rfl) ?_ _
                refine NoPanic.normal ?_
                have VX := (VB.out _ D9).setJ _ R9
                have GX := GB.out _ D9
                have z0 := P9.at 0 _ rfl
                have z1 := P9.at 1 _ rfl
                have z2 := P9.at 2 _ rfl
                have z3 := P9.at 3 _ rfl
                have z4 := P9.at 4 _ rfl
                have z5 := P9.at 5 _ rfl
                clear hH0 hH1 hH2 hH3 hH4 SS O1 P1 P7 P8 D1 D7 D8 p7 p8 y0 f0 hX9 R1 R2 C1 C2 g7 g8 z7 R9
                go_wp2_with fail
                refine (K2 _ _ (few_joints F i) _ GX VX).mono ?_
                rintro e w9 ⟨rfl, b9⟩
                rw [check_joints V.out i ((e1, e2), (e3, e4)) hyb3.out sg1' sg2']
                have P10 := P9.below b9
                have D10 := D9.trans (b9.mono D9.size)
                clear z0 z1 z2 z3 z4 z5
                go_wp2
                go_meet
                case rel => exact D10

            · have h5i : ¬ ((0 : Int) < (s3 : Int)) := by omega
              go_wp2
              go_meet
              case rel => exact B6
          case rest =>
            go_wp2_with fail
            refine (alive_any _ (GB.out _ hcut)).mono ?_
            rintro e wz ⟨rfl, bz⟩
            go_wp2
            go_ret
            exact ⟨rfl, HB.trans ((hcut.trans (bz.mono hcut.size)).mono HB.size)⟩
    · obtain ⟨q, hq⟩ : ∃ q, checkS isName L = q := ⟨_, rfl⟩
      rw [hq] at hc
      have tq : (q == 0) = false := by simpa using hc
      clear hf hs hc K4
      go_enter Tryd.func6, Tryd.ntmps6
      go_wp2_with fail
      rw [← hW]
      clear hW
      refine (K1 _ _ (VB.out _ B1)).mono ?_
      rintro e w2 ⟨rfl, bb⟩
      have B2 := B1.trans (bb.mono B1.size)
      clear bb k0 k1 k2 k3 k4 k5
      obtain ⟨_, hl2, k0, k1, k2, k3, k4, k5⟩ := SK.out _ B2
      go_wp2_with fail
      refine (K2 _ L F _ (GB.out _ B2) (VB.out _ B2)).mono ?_
      rintro e w3 ⟨rfl, bb⟩
      rw [hq]
      have B3 := B2.trans (bb.mono B2.size)
      go_wp2_with fail
      refine (alive_any _ (GB.out _ B3)).mono ?_
      rintro e w4 ⟨rfl, b4⟩
      go_wp2
      go_ret
      exact ⟨rfl, HB.trans ((B3.trans (b4.mono B3.size)).mono HB.size)⟩
theorem removes_u8 (v : Value) (a : Int) (ha : (Lit.int .u8 a).wf = true) (L : LayD) (w : World) (hG : GW w) (hv : RLay w v L) (hs : ∀ s ∈ allNames L, s.length ≤ 9223372036854775807) : Calls Tryd.prog 6 #[v, .int .u8 a] w (RetB w true) := by
  simp only [Lit.wf, IntKind.min, IntKind.max, IntKind.signed, IntKind.bits, Bool.and_eq_true] at ha
  obtain ⟨h0, h1⟩ : 0 ≤ a ∧ a < 256 := by constructor <;> simp at ha <;> omega
  obtain ⟨n, rfl⟩ : ∃ n : Nat, a = n := ⟨a.toNat, by omega⟩
  exact removes_all v n (by omega) L w hG hv hs
end Go.Proofs.YthoodaldmfojaaaDoor
