/- The examples of the chapter hold. Conditions: what the library reads (GW). -/
import Derived.Test.YtblcigddinmiaaaDoorForm5
namespace Go.Proofs.YtblcigddinmiaaaDoor
open Go.ChangeShapes Go.WideShapes Go.ChangeAt Go.RowKit
theorem LL.alloc {w : World} {v : Value} {l : List (List L8)} (h : LL w v l) (o : Obj) : LL (w.alloc o) v l := h.below ((Below.refl _ _).alloc (Nat.le_refl _) _)
theorem below1 {B : Nat} {a w W' : World} {o1 : Obj} (h : Below B a w) (hs : B ≤ w.heap.size) (bb : Below (w.alloc o1).heap.size (w.alloc o1) W') : Below B a W' :=
  (h.alloc hs o1).trans (bb.mono (by simp; omega))
theorem below3 {B : Nat} {a w W' : World} {o1 o2 o3 : Obj} (h : Below B a w) (hs : B ≤ w.heap.size) (bb : Below (((w.alloc o1).alloc o2).alloc o3).heap.size (((w.alloc o1).alloc o2).alloc o3) W') : Below B a W' :=
  (((h.alloc hs o1).alloc (by simp; omega) o2).alloc (by simp; omega) o3).trans (bb.mono (by simp; omega))
def two : List (List L8) := [[[97], [98]], [[99]]]
theorem lines2 (w : World) (b1 b2 b3 : Nat) (h1 : b1 = w.heap.size) (h2 : b2 = w.heap.size + 1) (h3 : b3 = w.heap.size + 2) :
    LL (((w.alloc (.cells #[str [97], str [98]] 9)).alloc (.cells #[str [99]] 9)).alloc (.cells #[.slice (some ⟨b1, 0, none⟩) 2 2, .slice (some ⟨b2, 0, none⟩) 1 1] 33)) (.slice (some ⟨b3, 0, none⟩) 2 2) two := by
  subst h1 h2 h3
  have r1 : RS (w.alloc (.cells #[str [97], str [98]] 9)) (.slice (some ⟨w.heap.size, 0, none⟩) 2 2) (strsV [[97], [98]]) := RS.new w _ _ _ _ _ rfl rfl (by decide)
  have r2 : RS ((w.alloc (.cells #[str [97], str [98]] 9)).alloc (.cells #[str [99]] 9)) (.slice (some ⟨w.heap.size + 1, 0, none⟩) 1 1) (strsV [[99]]) := by
    have := RS.new (w.alloc (.cells #[str [97], str [98]] 9)) 1 1 (strsV [[99]]) #[str [99]] 9 rfl rfl (by decide)
    simpa using this
  have r3 := RS.new ((w.alloc (.cells #[str [97], str [98]] 9)).alloc (.cells #[str [99]] 9)) 2 2 [.slice (some ⟨w.heap.size, 0, none⟩) 2 2, .slice (some ⟨w.heap.size + 1, 0, none⟩) 1 1] #[.slice (some ⟨w.heap.size, 0, none⟩) 2 2, .slice (some ⟨w.heap.size + 1, 0, none⟩) 1 1] 33 rfl rfl (by decide)
  have e : ((w.alloc (.cells #[str [97], str [98]] 9)).alloc (.cells #[str [99]] 9)).heap.size = w.heap.size + 2 := by simp
  rw [e] at r3
  refine LL.of r3 ⟨rfl, fun j x y hx hy => ?_⟩
  match j, hx, hy with
  | 0, hx, hy =>
    simp [two] at hx hy
    subst hx hy
    exact (r1.alloc _).alloc _
  | 1, hx, hy =>
    simp [two] at hx hy
    subst hx hy
    exact r2.alloc _
  | j + 2, hx, hy => simp at hx
theorem two_fits : Fits two := by
  refine ⟨by decide, fun l hl => ?_⟩
  simp only [two, List.mem_cons, List.mem_nil_iff, or_false] at hl
  rcases hl with rfl | rfl
  · exact ⟨by decide, fun s hs => by simp only [List.mem_cons, List.mem_nil_iff, or_false] at hs; rcases hs with rfl | rfl <;> decide⟩
  · exact ⟨by decide, fun s hs => by simp only [List.mem_cons, List.mem_nil_iff, or_false] at hs; rcases hs with rfl; decide⟩
theorem ex1 : linesR [97, 32, 98, 10, 99, 10] = (two, 0, 0) := by kernel_rfl
theorem ex2 : linesR [97, 32, 98, 10, 99] = ([], 2, 4) := by kernel_rfl
theorem ex3 : joinR two = ([97, 32, 98, 10, 99, 10], 0) := by kernel_rfl
theorem ex4 : intL [45, 49, 50] = (-12, 0) := by kernel_rfl
theorem ex5 : intL [48, 48, 55] = (0, 4) := by kernel_rfl
theorem ex6 : listL [51, 44, 45, 49, 44, 51] = ([3, -1, 3], 0) := by kernel_rfl
theorem ex7 : Lib.itoa (-12) = [45, 49, 50] := by
  have := itoa_intL (s := [45, 49, 50]) (by rw [ex4])
  rw [ex4] at this
  exact this
theorem ex8 : isName [115, 95, 49] = true := by kernel_rfl
theorem ex9 : isName [49, 115] = false := by kernel_rfl
set_option maxRecDepth 100000 in
set_option maxHeartbeats 4000000 in
theorem alive_any (w : World) (hG : GW w) : Calls Tryd.prog 11 #[] w (RetB w true) := by
  have K1 := fun ww hh => lines_any [97, 32, 98, 10, 99, 10] ww hh (by decide)
  have K2 := fun ww hh => lines_any [97, 32, 98, 10, 99] ww hh (by decide)
  simp only [ex1] at K1
  simp only [ex2] at K2
  have K3 := fun v ww hh => join_any v two ww hh two_fits
  simp only [ex3] at K3
  have K4 := fun ww hh => int_any [45, 49, 50] ww hh (by decide)
  simp only [ex4, outI] at K4
  have K5 := fun ww hh => int_any [48, 48, 55] ww hh (by decide)
  simp only [ex5, outI] at K5
  have K6 := fun ww hh => list_any [51, 44, 45, 49, 44, 51] ww hh (by decide)
  simp only [ex6] at K6
  have K7 := fun ww hh => format_any (-12) ww (by omega) hh
  simp only [ex7] at K7
  have K8 := fun ww => name_any [115, 95, 49] ww (by decide)
  simp only [ex8] at K8
  have K9 := fun ww => name_any [49, 115] ww (by decide)
  simp only [ex9] at K9
  have HB := Below.refl w.heap.size w
  go_enter Tryd.func11, Tryd.ntmps11
  go_wp2_with fail
  refine (K1 _ hG).mono ?_
  rintro e w1 ⟨v1, rfl, R1, bb⟩
  replace HB := HB.trans (bb.mono HB.size)
  clear bb K1
  replace R1 := Lib.hid R1
  go_wp2_with fail
  refine (K2 _ (hG.below HB)).mono ?_
  rintro e w2 ⟨v2, rfl, _, bb⟩
  replace R1 := Lib.hid (R1.out.below bb)
  replace HB := HB.trans (bb.mono HB.size)
  clear bb K2
  go_wp2_with fail
  refine (K3 _ _ (lines2 _ _ _ _ (by simp) (by simp) (by simp))).mono ?_
  rintro e w3 ⟨rfl, bb⟩
  replace R1 := Lib.hid ((((R1.out.alloc _).alloc _).alloc _).below bb)
  replace HB := below3 HB HB.size bb
  clear bb K3
  go_wp2_with fail
  refine (K4 _ (hG.below HB)).mono ?_
  rintro e w4 ⟨rfl, bb⟩
  replace R1 := Lib.hid (R1.out.below bb)
  replace HB := HB.trans (bb.mono HB.size)
  clear bb K4
  go_wp2_with fail
  refine (K5 _ (hG.below HB)).mono ?_
  rintro e w5 ⟨rfl, bb⟩
  replace R1 := Lib.hid (R1.out.below bb)
  replace HB := HB.trans (bb.mono HB.size)
  clear bb K5
  go_wp2_with fail
  refine (K6 _ (hG.below HB)).mono ?_
  rintro e w6 ⟨v6, rfl, R6, bb⟩
  replace R6 := Lib.hid R6
  replace R1 := Lib.hid (R1.out.below bb)
  replace HB := HB.trans (bb.mono HB.size)
  clear bb K6
  go_wp2_with fail
  refine (same_any _ _ two _ (((R1.out.alloc _).alloc _).alloc _) (lines2 _ _ _ _ (by simp) (by simp) (by simp))).mono ?_
  intro e w7 hh
  obtain ⟨rfl, bb⟩ := hh.below
  clear hh R1
  replace R6 := Lib.hid ((((R6.out.alloc _).alloc _).alloc _).below bb)
  replace HB := below3 HB HB.size bb
  clear bb
  go_wp2_with fail
  refine (sameInts_any _ _ [3, -1, 3] _ (R6.out.alloc _) (RS.newAt _ _ _ _ [3, -1, 3] _ _ (by simp) rfl rfl (by decide))).mono ?_
  intro e w8 hh
  obtain ⟨rfl, bb⟩ := hh.below
  clear hh R6
  replace HB := below1 HB HB.size bb
  clear bb
  go_wp2_with fail
  refine (K7 _ (hG.below HB)).mono ?_
  rintro e w9 ⟨rfl, bb⟩
  replace HB := HB.trans (bb.mono HB.size)
  clear bb K7
  go_wp2_with fail
  refine (K8 _).mono ?_
  rintro e w10 ⟨rfl, bb⟩
  replace HB := HB.trans (bb.mono HB.size)
  clear bb K8
  go_wp2_with fail
  refine (K9 _).mono ?_
  rintro e w11 ⟨rfl, bb⟩
  replace HB := HB.trans (bb.mono HB.size)
  clear bb K9
  go_wp2_with fail
  refine (formatList_any _ [] _ (RS.nil _ _ _) (hG.below HB) (by decide) (by intro n hn; simp at hn)).mono ?_
  rintro e w12 ⟨rfl, bb⟩
  replace HB := HB.trans (bb.mono HB.size)
  clear bb
  rw [show formL [] = [45] from rfl]
  go_wp2
  go_ret
  exact ⟨rfl, HB⟩
end Go.Proofs.YtblcigddinmiaaaDoor
