/- The examples of the chapter hold. Condition: what the program reads (GW). -/
import Derived.Test.YtdnadlpkeinnfaaDoorSides6
import Derived.Test.YtdnadlpkeinnfaaDoorRout6
namespace Go.Proofs.YtdnadlpkeinnfaaDoor
open Go.ChangeShapes Go.WideShapes Go.ChangeAt Go.RowKit
theorem ex1 : outF 2 0 2 tab = (2, true) := by kernel_rfl
theorem ex2 : outF 2 2 1 tab = (0, false) := by kernel_rfl
theorem ex3 : needF 3 3 2 tab = (0, true) := by kernel_rfl
theorem ex4 : legsF 2 0 tab = [1, 2] := by kernel_rfl
theorem below1 {B : Nat} {a w W' : World} {o1 : Obj} (h : Below B a w) (hs : B ≤ w.heap.size) (bb : Below (w.alloc o1).heap.size (w.alloc o1) W') : Below B a W' :=
  (h.alloc hs o1).trans (bb.mono (by simp; omega))
set_option maxRecDepth 100000 in
set_option maxHeartbeats 4000000 in
theorem alive_any (w : World) (hG : GW w) : Calls Tryd.prog 15 #[] w (RetB w true) := by
  have K1 := fun ww hh => out_any 2 0 2 ww hh
  have K2 := fun ww hh => out_any 2 2 1 ww hh
  have K3 := fun ww hh => need_any 3 3 2 ww hh
  have K4 := fun ww hh => legs_any 2 0 ww hh
  have K5 := fun ww hh => sides_any 3 ww hh
  have K6 := fun ww => facing_any 2 0 ww
  simp only [ex1] at K1
  simp only [ex2] at K2
  simp only [ex3] at K3
  simp only [ex4] at K4
  simp only [show sidesS 3 = 4 from rfl] at K5
  simp only [show facing 2 0 = true from rfl] at K6
  unfold RetP outV at K1 K2 K3
  have HB := Below.refl w.heap.size w
  go_enter Tryd.func15, Tryd.ntmps15
  go_wp2_with fail
  refine (K1 _ hG).mono ?_
  rintro e w1 ⟨rfl, bb⟩
  replace HB := HB.trans (bb.mono HB.size)
  clear bb K1
  go_wp2_with fail
  refine (K2 _ (hG.below HB)).mono ?_
  rintro e w2 ⟨rfl, bb⟩
  replace HB := HB.trans (bb.mono HB.size)
  clear bb K2
  go_wp2_with fail
  refine (K3 _ (hG.below HB)).mono ?_
  rintro e w3 ⟨rfl, bb⟩
  replace HB := HB.trans (bb.mono HB.size)
  clear bb K3
  go_wp2_with fail
  refine (K4 _ (hG.below HB)).mono ?_
  rintro e w4 ⟨v4, rfl, R4, bb⟩
  replace HB := HB.trans (bb.mono HB.size)
  replace R4 := Lib.hid R4
  clear bb K4
  have HS := HB.size
  go_wp2_with fail
  refine (same_any _ _ [1, 2] _ (R4.out.alloc _) (RS.new _ _ _ _ _ _ rfl rfl (by decide))).mono ?_
  rintro e w5 ⟨rfl, bb⟩
  replace HB := below1 HB HS bb
  clear bb R4
  go_wp2_with fail
  refine (K5 _ (hG.below HB)).mono ?_
  rintro e w6 ⟨rfl, rfl⟩
  go_wp2_with fail
  refine (K6 _).mono ?_
  rintro e w7 ⟨rfl, rfl⟩
  go_wp2
  go_ret
  exact ⟨rfl, HB⟩
end Go.Proofs.YtdnadlpkeinnfaaDoor
