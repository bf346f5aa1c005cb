/- The examples of the chapter hold. Condition: what the program reads (GW). -/
import Derived.Test.YthoodaldmfojaaaDoorDev7
namespace Go.Proofs.YthoodaldmfojaaaDoor
open Go.ChangeShapes Go.WideShapes Go.ChangeAt Go.RowKit
theorem ex1 : joinF (0, 1) lineL.joints = some (1, 0) := by kernel_rfl
theorem ex2 : joinF (0, 0) lineL.joints = none := by kernel_rfl
theorem ex3 : checkS isName lineL = 0 := by kernel_rfl
theorem ex4 : sigF (0, 1) 0 lineL.sigs = 0 := by kernel_rfl
theorem ex5 : sigF (1, 0) 0 lineL.sigs = -1 := by kernel_rfl
theorem ex6 : checkS isName cutL = 14 := by kernel_rfl
theorem ex7 : nameF [99] 0 lineL.els = 2 := by kernel_rfl
/-- The line's value, its parts named. -/
theorem line_open {w : World} {v1 v2 v4 v5 : Value} {b : Nat} (h : RLay w (.agg #[str lineL.name, v1, v2, .slice (some ⟨b, 0, none⟩) 2 2, v4, v5]) lineL) :
    ∃ a1 c1 a2 c2 a4 c4 a5 c5, v1 = .slice a1 3 c1 ∧ v2 = .slice a2 3 c2 ∧ v4 = .slice a4 2 c4 ∧ v5 = .slice a5 0 c5 := by
  obtain ⟨u1, u2, u3, u4, u5, hu, h1, h2, h3, h4, h5⟩ := h
  obtain ⟨rfl, rfl, rfl, rfl, rfl⟩ : v1 = u1 ∧ v2 = u2 ∧ .slice (some ⟨b, 0, none⟩) 2 2 = u3 ∧ v4 = u4 ∧ v5 = u5 := by simpa using hu
  obtain ⟨a1, c1, rfl, _, _⟩ := h1.openS
  obtain ⟨a2, c2, rfl, _, _⟩ := h2.openM
  obtain ⟨a4, c4, rfl, _, _⟩ := h4.openM
  obtain ⟨a5, c5, rfl, _, _⟩ := h5.openM
  exact ⟨a1, c1, a2, c2, a4, c4, a5, c5, rfl, rfl, rfl, rfl⟩
theorem line_cut {w : World} {nv v1 v2 v4 v5 : Value} {b : Nat} (h : RLay w (.agg #[nv, v1, v2, .slice (some ⟨b, 0, none⟩) 2 2, v4, v5]) lineL) : RLay w (.agg #[nv, v1, v2, .slice (some ⟨b, 4, none⟩) 1 1, v4, v5]) cutL := by
  obtain ⟨u1, u2, u3, u4, u5, hu, h1, h2, h3, h4, h5⟩ := h
  obtain ⟨rfl, rfl, rfl, rfl, rfl, rfl⟩ : nv = str lineL.name ∧ v1 = u1 ∧ v2 = u2 ∧ .slice (some ⟨b, 0, none⟩) 2 2 = u3 ∧ v4 = u4 ∧ v5 = u5 := by simpa using hu
  exact ⟨_, _, _, _, _, rfl, h1, h2, RM.tail (y := ((0, 1), (1, 0))) (l := [((1, 1), (2, 0))]) h3, h4, h5⟩
theorem few_line : FewL lineL := ⟨by decide, by decide, by decide, by decide, by decide, by intro s hs; simp [allNames, lineL, eA, eB, eC] at hs; rcases hs with rfl | rfl | rfl | rfl | rfl | rfl | rfl | rfl | rfl <;> decide⟩
theorem few_cut : FewL cutL := ⟨by decide, by decide, by decide, by decide, by decide, few_line.hs⟩
set_option maxRecDepth 100000 in
set_option maxHeartbeats 8000000 in
theorem alive_any (w : World) (hG : GW w) : Calls Tryd.prog 10 #[] w (RetB w true) := by
  have K1 := fun v ww hg hh => joined_any v lineL 0 1 ww hg hh few_line
  have K2 := fun v ww hg hh => joined_any v lineL 0 0 ww hg hh few_line
  have K3 := fun v ww hg hh => check_any v lineL ww hg hh few_line
  have K4 := fun v ww hg hh => signal_any v lineL 0 1 ww hg hh few_line
  have K5 := fun v ww hg hh => signal_any v lineL 1 0 ww hg hh few_line
  have K6 := fun v ww hg hh => check_any v cutL ww hg hh few_cut
  have K7 := fun v ww hg hh => element_any v lineL [99] ww hg hh few_line (by decide)
  simp only [ex1] at K1
  simp only [ex2] at K2
  simp only [ex3] at K3
  simp only [ex4] at K4
  simp only [ex5] at K5
  simp only [ex6] at K6
  simp only [ex7] at K7
  unfold RetJ at K1 K2
  simp only [joinO] at K1 K2
  have EE := eql_end
  have HB := Below.refl w.heap.size w
  go_enter Tryd.func10, Tryd.ntmps10
  go_wp2_with fail
  refine (line_any _).mono ?_
  rintro e w1 ⟨v1, v2, b, v4, v5, rfl, _, _, _, _, HL, bb⟩
  replace HB := HB.trans (bb.mono HB.size)
  clear bb
  obtain ⟨a1, c1, a2, c2, a4, c4, a5, c5, rfl, rfl, rfl, rfl⟩ := line_open HL
  obtain ⟨nb, en⟩ : ∃ s : ByteArray, (⟨lineL.name.toArray⟩ : ByteArray) = s := ⟨_, rfl⟩
  have en2 : str lineL.name = .string nb := by rw [← en]
  rw [en2] at HL ⊢
  replace HL := Lib.hid HL
  replace en2 := Lib.hid en2
  clear en
  have P1 := Blk.new w1 #[.string nb, .slice a1 3 c1, .slice a2 3 c2, .slice (some ⟨b, 0, none⟩) 2 2, .slice a4 2 c4, .slice a5 0 c5] 28 w1.heap.size rfl
  have L1 : Below w1.heap.size w1 (w1.alloc (.cells #[.string nb, .slice a1 3 c1, .slice a2 3 c2, .slice (some ⟨b, 0, none⟩) 2 2, .slice a4 2 c4, .slice a5 0 c5] 28)) := alloc_below (Below.refl _ _) (Nat.le_refl _) _
  go_wp2_with fail
  refine (K1 _ _ ((hG.below HB).below L1) (HL.out.below L1)).mono ?_
  rintro e w2 ⟨rfl, bb⟩
  replace P1 := P1.below bb
  replace L1 := L1.trans (bb.mono L1.size)
  clear bb K1
  have k0 := P1.at 0 _ rfl
  have k1 := P1.at 1 _ rfl
  have k2 := P1.at 2 _ rfl
  have k3 := P1.at 3 _ rfl
  have k4 := P1.at 4 _ rfl
  have k5 := P1.at 5 _ rfl
  have lt1 := P1.lt
  have P2 := Blk.new w2 #[.int .i64 1, .int .i64 0] 37 w2.heap.size rfl
  have LA : Below w1.heap.size w1 (w2.alloc (.cells #[.int .i64 1, .int .i64 0] 37)) := alloc_below L1 (Nat.le_refl _) _
  go_wp2_with fail
  refine (K2 _ _ ((hG.below HB).below LA) (HL.out.below LA)).mono ?_
  rintro e w3 ⟨rfl, bb⟩
  replace P1 := (P1.old _).below bb
  replace P2 := P2.below bb
  replace L1 := LA.trans (bb.mono LA.size)
  clear bb K2 LA k0 k1 k2 k3 k4 k5 lt1
  go_wp2_with fail
  refine (line_any _).mono ?_
  rintro e w4 ⟨x1, x2, b', x4, x5, rfl, _, _, _, _, HM, bb⟩
  replace P1 := (P1.old _).below bb
  replace P2 := (P2.old _).below bb
  replace L1 := below1 L1 L1.size bb
  clear bb
  obtain ⟨d1, f1, d2, f2, d4, f4, d5, f5, rfl, rfl, rfl, rfl⟩ := line_open HM
  rw [en2.out] at HM ⊢
  replace HM := Lib.hid (line_cut HM)
  have k0 := P1.at 0 _ rfl
  have k1 := P1.at 1 _ rfl
  have k2 := P1.at 2 _ rfl
  have k3 := P1.at 3 _ rfl
  have k4 := P1.at 4 _ rfl
  have k5 := P1.at 5 _ rfl
  have lt1 := P1.lt
  have P6 := Blk.new w4 #[.string nb, .slice d1 3 f1, .slice d2 3 f2, .slice (some ⟨b', 4, none⟩) 1 1, .slice d4 2 f4, .slice d5 0 f5] 28 w4.heap.size rfl
  have L4 : Below w4.heap.size w4 (w4.alloc (.cells #[.string nb, .slice d1 3 f1, .slice d2 3 f2, .slice (some ⟨b', 4, none⟩) 1 1, .slice d4 2 f4, .slice d5 0 f5] 28)) := alloc_below (Below.refl _ _) (Nat.le_refl _) _
  have LB : Below w1.heap.size w1 (w4.alloc (.cells #[.string nb, .slice d1 3 f1, .slice d2 3 f2, .slice (some ⟨b', 4, none⟩) 1 1, .slice d4 2 f4, .slice d5 0 f5] 28)) := alloc_below L1 (Nat.le_refl _) _
  go_wp2_with fail
  refine (K3 _ _ ((hG.below HB).below LB) (HL.out.below LB)).mono ?_
  rintro e w5 ⟨rfl, bb⟩
  replace P1 := (P1.old _).below bb
  replace P2 := (P2.old _).below bb
  replace P6 := P6.below bb
  replace L1 := LB.trans (bb.mono LB.size)
  replace L4 := L4.trans (bb.mono L4.size)
  clear bb K3 LB k0 k1 k2 k3 k4 k5 lt1
  have k0 := P1.at 0 _ rfl
  have k1 := P1.at 1 _ rfl
  have k2 := P1.at 2 _ rfl
  have k3 := P1.at 3 _ rfl
  have k4 := P1.at 4 _ rfl
  have k5 := P1.at 5 _ rfl
  have e0 := P2.at 0 _ rfl
  have e1 := P2.at 1 _ rfl
  have m0 := P6.at 0 _ rfl
  have m1 := P6.at 1 _ rfl
  have m2 := P6.at 2 _ rfl
  have m3 := P6.at 3 _ rfl
  have m4 := P6.at 4 _ rfl
  have m5 := P6.at 5 _ rfl
  go_wp2_with fail
  refine (K4 _ _ ((hG.below HB).below L1) (HL.out.below L1)).mono ?_
  rintro e w6 ⟨rfl, bb⟩
  replace P1 := P1.below bb
  replace P2 := P2.below bb
  replace P6 := P6.below bb
  replace L1 := L1.trans (bb.mono L1.size)
  replace L4 := L4.trans (bb.mono L4.size)
  clear bb K4 k0 k1 k2 k3 k4 k5 e0 e1 m0 m1 m2 m3 m4 m5
  have k0 := P1.at 0 _ rfl
  have k1 := P1.at 1 _ rfl
  have k2 := P1.at 2 _ rfl
  have k3 := P1.at 3 _ rfl
  have k4 := P1.at 4 _ rfl
  have k5 := P1.at 5 _ rfl
  have e0 := P2.at 0 _ rfl
  have e1 := P2.at 1 _ rfl
  have m0 := P6.at 0 _ rfl
  have m1 := P6.at 1 _ rfl
  have m2 := P6.at 2 _ rfl
  have m3 := P6.at 3 _ rfl
  have m4 := P6.at 4 _ rfl
  have m5 := P6.at 5 _ rfl
  go_wp2_with fail
  refine (K5 _ _ ((hG.below HB).below L1) (HL.out.below L1)).mono ?_
  rintro e w7 ⟨rfl, bb⟩
  replace P1 := P1.below bb
  replace P2 := P2.below bb
  replace P6 := P6.below bb
  replace L1 := L1.trans (bb.mono L1.size)
  replace L4 := L4.trans (bb.mono L4.size)
  clear bb K5 k0 k1 k2 k3 k4 k5 e0 e1 m0 m1 m2 m3 m4 m5
  have k0 := P1.at 0 _ rfl
  have k1 := P1.at 1 _ rfl
  have k2 := P1.at 2 _ rfl
  have k3 := P1.at 3 _ rfl
  have k4 := P1.at 4 _ rfl
  have k5 := P1.at 5 _ rfl
  have e0 := P2.at 0 _ rfl
  have e1 := P2.at 1 _ rfl
  have m0 := P6.at 0 _ rfl
  have m1 := P6.at 1 _ rfl
  have m2 := P6.at 2 _ rfl
  have m3 := P6.at 3 _ rfl
  have m4 := P6.at 4 _ rfl
  have m5 := P6.at 5 _ rfl
  go_wp2_with fail
  refine (K6 _ _ ((hG.below HB).below L1) (HM.out.below L4)).mono ?_
  rintro e w8 ⟨rfl, bb⟩
  replace P1 := P1.below bb
  replace L1 := L1.trans (bb.mono L1.size)
  clear bb K6 k0 k1 k2 k3 k4 k5 e0 e1 m0 m1 m2 m3 m4 m5
  have k0 := P1.at 0 _ rfl
  have k1 := P1.at 1 _ rfl
  have k2 := P1.at 2 _ rfl
  have k3 := P1.at 3 _ rfl
  have k4 := P1.at 4 _ rfl
  have k5 := P1.at 5 _ rfl
  go_wp2_with fail
  refine (K7 _ _ ((hG.below HB).below L1) (HL.out.below L1)).mono ?_
  rintro e w9 ⟨rfl, bb⟩
  replace L1 := L1.trans (bb.mono L1.size)
  go_wp2
  go_ret
  exact ⟨rfl, HB.trans (L1.mono HB.size)⟩
end Go.Proofs.YthoodaldmfojaaaDoor
