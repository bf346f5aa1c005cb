/- The walk of PlanRoundTrips. Conditions: the layout can be read; its names' lengths; what the program reads (GT, GW). -/
import Derived.Test.YteafkginhejllaaGreatDoorLa8
namespace Go.Proofs.YteafkginhejllaaGreatDoor
open Go.ChangeShapes Go.WideShapes Go.ChangeAt Go.RowKit
theorem big_valid {L : LayD} (V : Valid isName L) : BigL L := by
  obtain ⟨l1, l2, l3, l4, l5⟩ := valid_lens V
  have key : ∀ l ∈ linesOf L, ∀ x ∈ l, x.length ≤ 9223372036854775807 := fun l hl x hx => by have := ((ok_lines V l hl).1 x hx).2; omega
  refine ⟨by omega, by omega, fun s hs => ?_⟩
  simp only [allNames, List.mem_append, List.mem_map, List.mem_singleton] at hs
  rcases hs with ((rfl | h) | ⟨x, hx, rfl⟩) | ⟨x, hx, rfl⟩
  · exact key [kLayout, L.name] (by simp [linesOf]) _ (by simp)
  · exact key [kSection, s] (by simp [linesOf, h]) _ (by simp)
  · refine key (elLine L.secs x) ?_ _ ?_
    · simp only [linesOf, List.mem_cons, List.mem_append, List.mem_map]
      exact .inr (.inr (.inl ⟨x, hx, rfl⟩))
    · unfold elLine
      repeat' split
      all_goals simp
  · refine key (sgLine L.els x) ?_ _ ?_
    · simp only [linesOf, List.mem_cons, List.mem_append, List.mem_map]
      exact .inr (.inr (.inr (.inr (.inl ⟨x, hx, rfl⟩))))
    · simp [sgLine]
theorem lay_shape {base : Nat} {w : World} {v : Value} {L : LayD} (h : LayO base w v L) : ∃ (a1 a2 a3 a4 a5 : Option Addr) (c1 c2 c3 c4 c5 : Nat), v = .agg #[str L.name, .slice a1 L.secs.length c1, .slice a2 L.els.length c2, .slice a3 L.joints.length c3, .slice a4 L.sigs.length c4, .slice a5 L.bals.length c5] := by
  obtain ⟨_, _, _, _, _, rfl, o1, o2, o3, o4, o5⟩ := h
  obtain ⟨p1, r1, rfl⟩ := own_shape o1
  obtain ⟨p2, r2, rfl⟩ := own_shape o2
  obtain ⟨p3, r3, rfl⟩ := own_shape o3
  obtain ⟨p4, r4, rfl⟩ := own_shape o4
  obtain ⟨p5, r5, rfl⟩ := own_shape o5
  exact ⟨_, _, _, _, _, _, _, _, _, _, rfl⟩
set_option maxRecDepth 100000 in
set_option maxHeartbeats 16000000 in
theorem trips_all (v : Value) (L : LayD) (s : L8) (w : World) (hT : GT w) (hG : GW w) (hv : RLay w v L) (hs : ∀ s ∈ allNames L, s.length ≤ 9223372036854775807) : Calls Tryz.prog 4 #[v, str s] w (RetB w true) := by
  obtain ⟨nb, a1, a2, a3, a4, a5, c1, c2, c3, c4, c5, rfl⟩ := lay_open hv
  have HV := Lib.hid hv
  clear hv
  obtain ⟨W1, hW⟩ : ∃ W1, W1 = w.alloc (.cells #[.string nb, .slice a1 L.secs.length c1, .slice a2 L.els.length c2, .slice a3 L.joints.length c3, .slice a4 L.sigs.length c4, .slice a5 L.bals.length c5] 28) := ⟨_, rfl⟩
  have HB : Below w.heap.size w W1 := by rw [hW]; exact (Below.refl _ _).alloc (Nat.le_refl _) _
  have G1 : Blk W1 w.heap.size #[.string nb, .slice a1 L.secs.length c1, .slice a2 L.els.length c2, .slice a3 L.joints.length c3, .slice a4 L.sigs.length c4, .slice a5 L.bals.length c5] := by rw [hW]; exact Blk.new _ _ _ _ rfl
  have SK : ∀ W, Below W1.heap.size W1 W → (W.cell? ⟨w.heap.size, 0, none⟩ = some (.string nb) ∧ W.cell? ⟨w.heap.size, 1, none⟩ = some (.slice a1 L.secs.length c1) ∧ W.cell? ⟨w.heap.size, 2, none⟩ = some (.slice a2 L.els.length c2) ∧
      W.cell? ⟨w.heap.size, 3, none⟩ = some (.slice a3 L.joints.length c3) ∧ W.cell? ⟨w.heap.size, 4, none⟩ = some (.slice a4 L.sigs.length c4) ∧ W.cell? ⟨w.heap.size, 5, none⟩ = some (.slice a5 L.bals.length c5)) := by
    intro W h
    have b := G1.below h
    exact ⟨b.at 0 _ rfl, b.at 1 _ rfl, b.at 2 _ rfl, b.at 3 _ rfl, b.at 4 _ rfl, b.at 5 _ rfl⟩
  have WB : ∀ W, Below W1.heap.size W1 W → Below w.heap.size w W := fun W h => HB.trans (h.mono HB.size)
  have KA := fun W (h : Below W1.heap.size W1 W) => alive_any W (hT.below (WB W h)) (hG.below (WB W h))
  have KF := few_any _ L W1 (HV.out.below HB)
  have KP := fun W (h : Below W1.heap.size W1 W) F => print_any _ L W (hT.below (WB W h)) (hG.below (WB W h)) (HV.out.below (WB W h)) F
  have KC := fun W (h : Below W1.heap.size W1 W) F => check_any _ L W (hG.below (WB W h)) (HV.out.below (WB W h)) F
  have KX := fun x W (h : Below W1.heap.size W1 W) hl => parse_any x W (hT.below (WB W h)) (hG.below (WB W h)) hl
  have KPv := fun u M W (h : Below W1.heap.size W1 W) hu F => print_any u M W (hT.below (WB W h)) (hG.below (WB W h)) hu F
  have KCv := fun u M W (h : Below W1.heap.size W1 W) hu F => check_any u M W (hG.below (WB W h)) hu F
  have KS := fun u W (h : Below W1.heap.size W1 W) hu => same_any u _ L W hu (HV.out.below (WB W h))
  clear hT hG HV G1
  obtain ⟨q0, q1, q2, q3, q4, q5⟩ := SK _ (Below.refl _ _)
  replace SK := Lib.hid SK
  replace WB := Lib.hid WB
  cases hf : fewB L with
  | false =>
    rw [hf] at KF
    clear hf hs KP KC KX KPv KCv KS
    go_enter Tryz.func4, Tryz.ntmps4
    go_wp2_with (first
      | (go_at_call 7
         rw [← hW]
         refine KF.mono ?_
         rintro e w2 ⟨rfl, B2⟩)
      | (go_at_call 8
         refine (KA _ B2).mono ?_
         rintro e w3 ⟨rfl, B3⟩))
    go_ret
    exact ⟨rfl, WB.out _ (B2.trans (B3.mono B2.size))⟩
  | true =>
    rw [hf] at KF
    have F := (few_of hf hs).big
    replace KP := fun W h => KP W h F
    replace KC := fun W h => KC W h F
    clear hf hs F
    by_cases hlen : 10000 < s.length
    · have hlt : (10000 : Int) < (s.length : Int) := by omega
      clear KP KC KX KPv KCv KS hlen
      go_enter Tryz.func4, Tryz.ntmps4
      go_wp2_with (first
        | (go_at_call 7
           rw [← hW]
           refine KF.mono ?_
           rintro e w2 ⟨rfl, B2⟩)
        | (go_at_call 8
           refine (KA _ B2).mono ?_
           rintro e w3 ⟨rfl, B3⟩))
      go_ret
      exact ⟨rfl, WB.out _ (B2.trans (B3.mono B2.size))⟩
    · have hlt : ¬ (10000 : Int) < (s.length : Int) := by omega
      have KXs := fun W h => KX s W h (by omega)
      have hpp := fun M n e h h0 => print_parse (s := s) (L := M) (n := n) (e := e) h h0
      obtain ⟨⟨M, n, f⟩, hQ⟩ : ∃ q, parseS s = q := ⟨_, rfl⟩
      rw [hQ] at KXs
      replace hpp := Lib.hid (hpp M n f hQ)
      clear hQ hlen
      by_cases hc : ¬ checkS isName L = 0
      · have E : ∃ e, printS L = ([], e) ∧ checkS isName L = e ∧ e ≠ 0 := ⟨checkS isName L, by unfold printS; rw [if_neg hc], rfl, hc⟩
        obtain ⟨e0, E, E2, he⟩ := E
        have t : (e0 == 0) = false := by simpa using he
        rw [E] at KP
        rw [E2] at KC
        clear hc E E2 KS
        go_enter Tryz.func4, Tryz.ntmps4
        go_upto_region 11 with (first
          | (go_at_call 7
             rw [← hW]
             refine KF.mono ?_
             rintro e w2 ⟨rfl, B2⟩
             obtain ⟨z0, z1, z2, z3, z4, z5⟩ := SK.out _ B2
             clear KF q0 q1 q2 q3 q4 q5)
          | (go_at_call 9
             refine (KP _ B2).mono ?_
             rintro e w3 ⟨rfl, B3⟩
             have D3 := B2.trans (B3.mono B2.size)
             clear z0 z1 z2 z3 z4 z5
             obtain ⟨z0, z1, z2, z3, z4, z5⟩ := SK.out _ D3
             clear KP)
          | (go_at_call 11
             refine (KC _ D3).mono ?_
             rintro e w4 ⟨rfl, B4⟩
             have D4 := D3.trans (B4.mono D3.size)
             clear KC z0 z1 z2 z3 z4 z5)
          | (go_at_call 12
             refine (KXs _ D4).mono ?_
             rintro e w6 ⟨v6, rfl, hLO6, B6⟩
             have D6 := Below.trans D4 (B6.mono (Below.size D4))
             have HM6 := Lib.hid hLO6
             obtain ⟨e1, e2, e3, e4, e5, f1, f2, f3, f4, f5, rfl⟩ := lay_shape hLO6
             clear hLO6))
        obtain ⟨W7, hW7⟩ : ∃ W, W = w6.alloc (.cells #[str M.name, .slice e1 M.secs.length f1, .slice e2 M.els.length f2, .slice e3 M.joints.length f3, .slice e4 M.sigs.length f4, .slice e5 M.bals.length f5] 28) := ⟨_, rfl⟩
        rw [← hW7]
        have C7 : Below w6.heap.size w6 W7 := by rw [hW7]; exact (Below.refl _ _).alloc (Nat.le_refl _) _
        have G7 : Blk W7 w6.heap.size #[str M.name, .slice e1 M.secs.length f1, .slice e2 M.els.length f2, .slice e3 M.joints.length f3, .slice e4 M.sigs.length f4, .slice e5 M.bals.length f5] := by rw [hW7]; exact Blk.new _ _ _ _ rfl
        have HM := HM6.out.below C7
        have D7 := D6.trans (C7.mono D6.size)
        clear hW7 C7 HM6
        by_cases hf : f = 0
        · subst hf
          obtain ⟨hcM, hpM⟩ := hpp.out rfl
          have FM := big_valid (valid_check hcM)
          replace KPv := fun u W h hu => KPv u M W h hu FM
          replace KCv := fun u W h hu => KCv u M W h hu FM
          rw [hpM] at KPv
          rw [hcM] at KCv
          have z0 := G7.at 0 _ rfl
          have z1 := G7.at 1 _ rfl
          have z2 := G7.at 2 _ rfl
          have z3 := G7.at 3 _ rfl
          have z4 := G7.at 4 _ rfl
          have z5 := G7.at 5 _ rfl
          clear hcM hpM hpp FM
          go_wp2_with (first
            | (go_at_call 9
               refine (KPv _ _ D7 HM.rlay).mono ?_
               rintro e w8 ⟨rfl, B8⟩
               have D8 := D7.trans (B8.mono D7.size)
               have HM8 := HM.below B8
               have G8 := G7.below B8
               clear z0 z1 z2 z3 z4 z5
               have z0 := G8.at 0 _ rfl
               have z1 := G8.at 1 _ rfl
               have z2 := G8.at 2 _ rfl
               have z3 := G8.at 3 _ rfl
               have z4 := G8.at 4 _ rfl
               have z5 := G8.at 5 _ rfl)
            | (go_at_call 11
               refine (KCv _ _ D8 HM8.rlay).mono ?_
               rintro e w9 ⟨rfl, B9⟩
               have D9 := D8.trans (B9.mono D8.size))
            | (go_at_call 8
               refine (KA _ D9).mono ?_
               rintro e w10 ⟨rfl, B10⟩))
          go_ret
          exact ⟨rfl, WB.out _ (D9.trans (B10.mono D9.size))⟩
        · have hf0 : (f == 0) = false := by simpa using hf
          clear hpp hf KPv KCv
          go_wp2_with (
            go_at_call 8
            refine (KA _ D7).mono ?_
            rintro e w10 ⟨rfl, B10⟩)
          go_ret
          exact ⟨rfl, WB.out _ (D7.trans (B10.mono D7.size))⟩
      · have hc0 : checkS isName L = 0 := Classical.not_not.1 hc
        have V := valid_check hc0
        have htl := text_len V
        have hpt := parse_print V
        rw [print_ok V] at KP hpt
        rw [hc0] at KC
        obtain ⟨tx, htx⟩ : ∃ tx, textL (linesOf L) = tx := ⟨_, rfl⟩
        rw [htx] at KP hpt htl
        simp only at hpt
        have KX1 := fun W h => KX tx W h (by omega)
        rw [hpt] at KX1
        clear hc hc0 V htx hpt KX
        go_enter Tryz.func4, Tryz.ntmps4
        go_upto_region 8 with (first
          | (go_at_call 7
             rw [← hW]
             refine KF.mono ?_
             rintro e w2 ⟨rfl, B2⟩
             obtain ⟨z0, z1, z2, z3, z4, z5⟩ := SK.out _ B2
             clear KF q0 q1 q2 q3 q4 q5)
          | (go_at_call 9
             refine (KP _ B2).mono ?_
             rintro e w3 ⟨rfl, B3⟩
             have D3 := B2.trans (B3.mono B2.size)
             clear z0 z1 z2 z3 z4 z5
             obtain ⟨z0, z1, z2, z3, z4, z5⟩ := SK.out _ D3
             clear KP)
          | (go_at_call 11
             refine (KC _ D3).mono ?_
             rintro e w4 ⟨rfl, B4⟩
             have D4 := D3.trans (B4.mono D3.size)
             clear KC z0 z1 z2 z3 z4 z5)
          | (go_at_call 12
             refine (KX1 _ D4).mono ?_
             rintro e w5 ⟨v5, rfl, hLO5, B5⟩
             have D5 := D4.trans (B5.mono D4.size)
             have HL5 := Lib.hid hLO5
             obtain ⟨p1, p2, p3, p4, p5, r1, r2, r3, r4, r5, rfl⟩ := lay_shape hLO5
             clear hLO5 KX1))
        obtain ⟨W6, hW6⟩ : ∃ W, W = w5.alloc (.cells #[str L.name, .slice p1 L.secs.length r1, .slice p2 L.els.length r2, .slice p3 L.joints.length r3, .slice p4 L.sigs.length r4, .slice p5 L.bals.length r5] 28) := ⟨_, rfl⟩
        rw [← hW6]
        have C6 : Below w5.heap.size w5 W6 := by rw [hW6]; exact (Below.refl _ _).alloc (Nat.le_refl _) _
        have G6 : Blk W6 w5.heap.size #[str L.name, .slice p1 L.secs.length r1, .slice p2 L.els.length r2, .slice p3 L.joints.length r3, .slice p4 L.sigs.length r4, .slice p5 L.bals.length r5] := by rw [hW6]; exact Blk.new _ _ _ _ rfl
        have HL6 := HL5.out.below C6
        have DW := D5.trans (C6.mono D5.size)
        obtain ⟨q0, q1, q2, q3, q4, q5⟩ := SK.out _ DW
        have z0 := G6.at 0 _ rfl
        have z1 := G6.at 1 _ rfl
        have z2 := G6.at 2 _ rfl
        have z3 := G6.at 3 _ rfl
        have z4 := G6.at 4 _ rfl
        have z5 := G6.at 5 _ rfl
        clear hW6 C6 G6 HL5
        go_upto_region 11 with (first
          | (go_at_call 13
             refine (KS _ _ DW HL6.rlay).mono ?_
             rintro e w51 ⟨rfl, B51⟩
             have DX := DW.trans (B51.mono DW.size)
             clear KS q0 q1 q2 q3 q4 q5 z0 z1 z2 z3 z4 z5)
          | (go_at_call 12
             refine (KXs _ DX).mono ?_
             rintro e w6 ⟨v6, rfl, hLO6, B6⟩
             have D6 := Below.trans DX (B6.mono (Below.size DX))
             have HM6 := Lib.hid hLO6
             obtain ⟨e1, e2, e3, e4, e5, f1, f2, f3, f4, f5, rfl⟩ := lay_shape hLO6
             clear hLO6))
        obtain ⟨W7, hW7⟩ : ∃ W, W = w6.alloc (.cells #[str M.name, .slice e1 M.secs.length f1, .slice e2 M.els.length f2, .slice e3 M.joints.length f3, .slice e4 M.sigs.length f4, .slice e5 M.bals.length f5] 28) := ⟨_, rfl⟩
        rw [← hW7]
        have C7 : Below w6.heap.size w6 W7 := by rw [hW7]; exact (Below.refl _ _).alloc (Nat.le_refl _) _
        have G7 : Blk W7 w6.heap.size #[str M.name, .slice e1 M.secs.length f1, .slice e2 M.els.length f2, .slice e3 M.joints.length f3, .slice e4 M.sigs.length f4, .slice e5 M.bals.length f5] := by rw [hW7]; exact Blk.new _ _ _ _ rfl
        have HM := HM6.out.below C7
        have D7 := D6.trans (C7.mono D6.size)
        clear hW7 C7 HM6
        by_cases hf : f = 0
        · subst hf
          obtain ⟨hcM, hpM⟩ := hpp.out rfl
          have FM := big_valid (valid_check hcM)
          replace KPv := fun u W h hu => KPv u M W h hu FM
          replace KCv := fun u W h hu => KCv u M W h hu FM
          rw [hpM] at KPv
          rw [hcM] at KCv
          have z0 := G7.at 0 _ rfl
          have z1 := G7.at 1 _ rfl
          have z2 := G7.at 2 _ rfl
          have z3 := G7.at 3 _ rfl
          have z4 := G7.at 4 _ rfl
          have z5 := G7.at 5 _ rfl
          clear hcM hpM hpp FM
          go_wp2_with (first
            | (go_at_call 9
               refine (KPv _ _ D7 HM.rlay).mono ?_
               rintro e w8 ⟨rfl, B8⟩
               have D8 := D7.trans (B8.mono D7.size)
               have HM8 := HM.below B8
               have G8 := G7.below B8
               clear z0 z1 z2 z3 z4 z5
               have z0 := G8.at 0 _ rfl
               have z1 := G8.at 1 _ rfl
               have z2 := G8.at 2 _ rfl
               have z3 := G8.at 3 _ rfl
               have z4 := G8.at 4 _ rfl
               have z5 := G8.at 5 _ rfl)
            | (go_at_call 11
               refine (KCv _ _ D8 HM8.rlay).mono ?_
               rintro e w9 ⟨rfl, B9⟩
               have D9 := D8.trans (B9.mono D8.size))
            | (go_at_call 8
               refine (KA _ D9).mono ?_
               rintro e w10 ⟨rfl, B10⟩))
          go_ret
          exact ⟨rfl, WB.out _ (D9.trans (B10.mono D9.size))⟩
        · have hf0 : (f == 0) = false := by simpa using hf
          clear hpp hf KPv KCv
          go_wp2_with (
            go_at_call 8
            refine (KA _ D7).mono ?_
            rintro e w10 ⟨rfl, B10⟩)
          go_ret
          exact ⟨rfl, WB.out _ (D7.trans (B10.mono D7.size))⟩
end Go.Proofs.YteafkginhejllaaGreatDoor
