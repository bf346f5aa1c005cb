/- Contract of Print. Conditions: the layout can be read; it has few parts; what the program reads (GT, GW). -/
import Derived.Test.YteafkginhejllaaGreatDoorLn8
import Derived.Test.YteafkginhejllaaGreatDoorQ8
namespace Go.Proofs.YteafkginhejllaaGreatDoor
open Go.ChangeShapes Go.WideShapes Go.ChangeAt Go.RowKit
theorem fits_ok {m : List (List L8)} (h : ∀ l ∈ m, okLine l) (hm : m.length ≤ 100000) : Fits m :=
  ⟨hm, fun l hl => ⟨by have := (h l hl).2.2; omega, fun s hs => by have := ((h l hl).1 s hs).2; omega⟩⟩
theorem valid_lens {L : LayD} (V : Valid isName L) : L.secs.length ≤ 1000 ∧ L.els.length ≤ 1000 ∧ L.joints.length ≤ 1000 ∧ L.sigs.length ≤ 1000 ∧ L.bals.length ≤ 1000 := by
  have hj := joints_few V
  have := V.lim
  unfold limB at this
  rw [decide_eq_true_eq] at this
  omega
set_option maxRecDepth 100000 in
set_option maxHeartbeats 4000000 in
theorem print_any (v : Value) (L : LayD) (w : World) (hT : GT w) (hG : GW w) (hv : RLay w v L) (F : BigL L) : Calls Tryz.prog 9 #[v] w (RetJT w (printS L)) := by
  have HV := Lib.hid hv
  obtain ⟨v1, v2, v3, v4, v5, rfl, h1, h2, h3, h4, h5⟩ := hv
  clear h1 h2 h3 h4 h5
  obtain ⟨nb, en⟩ : ∃ s, str L.name = s := ⟨_, rfl⟩
  rw [en] at HV ⊢
  clear en
  obtain ⟨W1, hW⟩ : ∃ W1, W1 = w.alloc (.cells #[nb, v1, v2, v3, v4, v5] 28) := ⟨_, rfl⟩
  have HB : Below w.heap.size w W1 := by rw [hW]; exact (Below.refl _ _).alloc (Nat.le_refl _) _
  have G1 : Blk W1 w.heap.size #[nb, v1, v2, v3, v4, v5] := by rw [hW]; exact Blk.new _ _ _ _ rfl
  have K0 := check_any _ L W1 (hG.below HB) (HV.out.below HB) F
  have SK : ∀ W, Below W1.heap.size W1 W → (W.cell? ⟨w.heap.size, 0, none⟩ = some nb ∧ W.cell? ⟨w.heap.size, 1, none⟩ = some v1 ∧ W.cell? ⟨w.heap.size, 2, none⟩ = some v2 ∧
      W.cell? ⟨w.heap.size, 3, none⟩ = some v3 ∧ W.cell? ⟨w.heap.size, 4, none⟩ = some v4 ∧ W.cell? ⟨w.heap.size, 5, none⟩ = some v5) := by
    intro W h
    have g1 := G1.below h
    exact ⟨g1.at 0 _ rfl, g1.at 1 _ rfl, g1.at 2 _ rfl, g1.at 3 _ rfl, g1.at 4 _ rfl, g1.at 5 _ rfl⟩
  obtain ⟨q0, q1, q2, q3, q4, q5⟩ := SK _ (Below.refl _ _)
  rw [hW] at q0 q1 q2 q3 q4 q5
  by_cases hc : checkS isName L = 0
  · have V := valid_check hc
    obtain ⟨l1, l2, l3, l4, l5⟩ := valid_lens V
    have KL := fun W (h : Below W1.heap.size W1 W) => lines_own _ L W (HV.out.below (HB.trans (h.mono HB.size))) (hT.below (HB.trans (h.mono HB.size))) (ok_valid V) l1 l2 l3 l4 l5
    have hJ : joinR (linesOf L) = printS L := by unfold printS; rw [if_pos hc]
    have KJ := fun vv W (h : LL W vv (linesOf L)) => join_any vv (linesOf L) W h (fits_ok (ok_lines V) (by rw [lines_len]; omega))
    rw [hJ] at KJ
    obtain ⟨r, hr⟩ : ∃ r, printS L = r := ⟨_, rfl⟩
    rw [hr] at KJ ⊢
    obtain ⟨ls, hls⟩ : ∃ ls, linesOf L = ls := ⟨_, rfl⟩
    rw [hls] at KJ KL
    rw [hc] at K0
    rw [hW] at K0
    clear hc V l1 l2 l3 l4 l5 hJ hr hls hG hT G1 F
    go_enter Tryz.func9, Tryz.ntmps9
    go_wp2_with (first
      | (go_at_call 11
         refine K0.mono ?_
         rintro e w2 ⟨rfl, b2⟩
         rw [← hW] at b2
         obtain ⟨r0, r1, r2, r3, r4, r5⟩ := SK _ b2
         clear q0 q1 q2 q3 q4 q5)
      | (go_at_call 18
         refine (KL _ b2).mono ?_
         rintro e w3 ⟨u3, rfl, L3, b3⟩)
      | (go_at_call 15
         refine (KJ _ _ L3).mono ?_
         rintro e w4 ⟨rfl, b4⟩))
    go_ret2
    have b24 := b2.trans ((b3.trans (b4.mono b3.size)).mono b2.size)
    exact ⟨rfl, HB.trans (b24.mono HB.size)⟩
  · unfold printS
    rw [if_neg hc]
    have t : (checkS isName L == 0) = false := by simpa using hc
    obtain ⟨e, he⟩ : ∃ e, checkS isName L = e := ⟨_, rfl⟩
    rw [he] at K0 t ⊢
    rw [hW] at K0
    clear hc he hG hT G1 F SK
    go_enter Tryz.func9, Tryz.ntmps9
    go_wp2_with (go_at_call 11; refine K0.mono ?_; rintro e w2 ⟨rfl, b2⟩)
    go_ret2
    rw [← hW] at b2
    exact ⟨rfl, HB.trans (b2.mono HB.size)⟩
end Go.Proofs.YteafkginhejllaaGreatDoor
