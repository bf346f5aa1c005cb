/- The walk of PlanPrints. Conditions: the layout can be read; its names' lengths; what the program reads (GT, GW). -/
import Derived.Test.YteafkginhejllaaGreatDoorRp8
import Derived.Test.YteafkginhejllaaGreatDoorLa8
namespace Go.Proofs.YteafkginhejllaaGreatDoor
open Go.ChangeShapes Go.WideShapes Go.ChangeAt Go.RowKit
set_option maxRecDepth 100000 in
set_option maxHeartbeats 4000000 in
theorem rprint_any (v : Value) (L : LayD) (w : World) (hv : RLay w v L) (F : FewL L) : Calls Tryz.prog 10 #[v] w (RetJT w (printS L)) := by
  by_cases hc : checkS isName L = 0
  · have h := rprint_ok v L w hv F hc
    unfold printS
    rw [if_pos hc]
    exact h
  · unfold printS
    rw [if_neg hc]
    obtain ⟨nb, a1, a2, a3, a4, a5, c1, c2, c3, c4, c5, rfl⟩ := lay_open hv
    obtain ⟨W1, hW⟩ : ∃ W1, W1 = w.alloc (.cells #[.string nb, .slice a1 L.secs.length c1, .slice a2 L.els.length c2, .slice a3 L.joints.length c3, .slice a4 L.sigs.length c4, .slice a5 L.bals.length c5] 28) := ⟨_, rfl⟩
    have HB : Below w.heap.size w W1 := by rw [hW]; exact (Below.refl _ _).alloc (Nat.le_refl _) _
    have KC := rcheck_any _ _ W1 (hv.below HB) F
    have t : (checkS isName L == 0) = false := by simpa using hc
    obtain ⟨e, he⟩ : ∃ e, checkS isName L = e := ⟨_, rfl⟩
    rw [he] at KC t hc ⊢
    clear he hv F
    go_enter Tryz.func10, Tryz.ntmps10
    go_wp2_with (go_at_call 19; rw [← hW]; refine KC.mono ?_; rintro e w2 ⟨rfl, b2⟩)
    go_ret2
    exact ⟨rfl, HB.trans (b2.mono HB.size)⟩
set_option maxRecDepth 100000 in
set_option maxHeartbeats 8000000 in
theorem prints_all (v : Value) (L : LayD) (w : World) (hT : GT w) (hG : GW w) (hv : RLay w v L) (hs : ∀ s ∈ allNames L, s.length ≤ 9223372036854775807) : Calls Tryz.prog 3 #[v] w (RetB w true) := by
  obtain ⟨nb, a1, a2, a3, a4, a5, c1, c2, c3, c4, c5, rfl⟩ := lay_open hv
  have HV := Lib.hid hv
  clear hv
  obtain ⟨W1, hW⟩ : ∃ W1, W1 = w.alloc (.cells #[.string nb, .slice a1 L.secs.length c1, .slice a2 L.els.length c2, .slice a3 L.joints.length c3, .slice a4 L.sigs.length c4, .slice a5 L.bals.length c5] 28) := ⟨_, rfl⟩
  have HB : Below w.heap.size w W1 := by rw [hW]; exact (Below.refl _ _).alloc (Nat.le_refl _) _
  have G1 : Blk W1 w.heap.size #[.string nb, .slice a1 L.secs.length c1, .slice a2 L.els.length c2, .slice a3 L.joints.length c3, .slice a4 L.sigs.length c4, .slice a5 L.bals.length c5] := by rw [hW]; exact Blk.new _ _ _ _ rfl
  have SK : ∀ W, Below W1.heap.size W1 W → (W.cell? ⟨w.heap.size, 0, none⟩ = some (.string nb) ∧ W.cell? ⟨w.heap.size, 1, none⟩ = some (.slice a1 L.secs.length c1) ∧ W.cell? ⟨w.heap.size, 2, none⟩ = some (.slice a2 L.els.length c2) ∧
      W.cell? ⟨w.heap.size, 3, none⟩ = some (.slice a3 L.joints.length c3) ∧ W.cell? ⟨w.heap.size, 4, none⟩ = some (.slice a4 L.sigs.length c4) ∧ W.cell? ⟨w.heap.size, 5, none⟩ = some (.slice a5 L.bals.length c5)) := by
    intro W h
    have b := G1.below h
    exact ⟨b.at 0 _ rfl, b.at 1 _ rfl, b.at 2 _ rfl, b.at 3 _ rfl, b.at 4 _ rfl, b.at 5 _ rfl⟩
  have WB : ∀ W, Below W1.heap.size W1 W → Below w.heap.size w W := fun W h => HB.trans (h.mono HB.size)
  have KA := fun W (h : Below W1.heap.size W1 W) => alive_any W (hT.below (WB W h)) (hG.below (WB W h))
  have KF := few_any _ L W1 (HV.out.below HB)
  have KP := fun W (h : Below W1.heap.size W1 W) F => print_any _ L W (hT.below (WB W h)) (hG.below (WB W h)) (HV.out.below (WB W h)) F
  have KR := fun W (h : Below W1.heap.size W1 W) F => rprint_any _ L W (HV.out.below (WB W h)) F
  clear hT hG HV G1
  obtain ⟨q0, q1, q2, q3, q4, q5⟩ := SK _ (Below.refl _ _)
  replace SK := Lib.hid SK
  replace WB := Lib.hid WB
  cases hf : fewB L with
  | false =>
    rw [hf] at KF
    clear hf hs KP KR
    go_enter Tryz.func3, Tryz.ntmps3
    go_wp2_with (first
      | (go_at_call 7
         rw [← hW]
         refine KF.mono ?_
         rintro e w2 ⟨rfl, B2⟩)
      | (go_at_call 8
         refine (KA _ B2).mono ?_
         rintro e w3 ⟨rfl, B3⟩))
    go_ret
    exact ⟨rfl, WB.out _ (B2.trans (B3.mono B2.size))⟩
  | true =>
    rw [hf] at KF
    have F := few_of hf hs
    replace KP := fun W h => KP W h F.big
    replace KR := fun W h => KR W h F
    clear hf hs F
    obtain ⟨⟨s, e⟩, hq⟩ : ∃ q, printS L = q := ⟨_, rfl⟩
    rw [hq] at KP KR
    clear hq
    go_enter Tryz.func3, Tryz.ntmps3
    go_wp2_with (first
      | (go_at_call 7
         rw [← hW]
         refine KF.mono ?_
         rintro e w2 ⟨rfl, B2⟩
         clear q0 q1 q2 q3 q4 q5
         obtain ⟨q0, q1, q2, q3, q4, q5⟩ := SK.out _ B2
         clear KF)
      | (go_at_call 9
         refine (KP _ B2).mono ?_
         rintro e w3 ⟨rfl, B3⟩
         have D3 := B2.trans (B3.mono B2.size)
         clear q0 q1 q2 q3 q4 q5
         obtain ⟨q0, q1, q2, q3, q4, q5⟩ := SK.out _ D3
         clear KP)
      | (go_at_call 10
         refine (KR _ D3).mono ?_
         rintro e w4 ⟨rfl, B4⟩
         have D4 := D3.trans (B4.mono D3.size)
         clear KR)
      | (go_at_call 8
         refine (KA _ D4).mono ?_
         rintro e w5 ⟨rfl, B5⟩))
    go_ret
    exact ⟨rfl, WB.out _ (D4.trans (B5.mono D4.size))⟩
end Go.Proofs.YteafkginhejllaaGreatDoor
