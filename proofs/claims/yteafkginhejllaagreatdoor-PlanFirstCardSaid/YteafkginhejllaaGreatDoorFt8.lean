/- The walk of PlanFirst. Conditions: the slice of lines can be read; its lengths; what the program reads (GT, GW). -/
import Derived.Test.YteafkginhejllaaGreatDoorRt8
import Derived.Test.YteafkginhejllaaGreatDoorJb8
import Derived.Test.YteafkginhejllaaGreatDoorOl8
namespace Go.Proofs.YteafkginhejllaaGreatDoor
open Go.ChangeShapes Go.WideShapes Go.ChangeAt Go.RowKit
theorem joinR_few {ll : List (List L8)} (h : (joinR ll).2 = 0) : (joinR ll).1.length ≤ 32768 := by
  unfold joinR at h ⊢
  by_cases h1 : ll.all isL = true
  · rw [if_pos h1] at h ⊢
    by_cases h2 : 32768 < (textL ll).length
    · rw [if_pos h2] at h; exact absurd h (by decide)
    · rw [if_neg h2]; show (textL ll).length ≤ 32768; omega
  · rw [if_neg h1] at h; exact absurd h (by decide)
set_option maxRecDepth 100000 in
set_option maxHeartbeats 16000000 in
theorem first_walk (v : Value) (ll : List (List L8)) (s : L8) (w : World) (hT : GT w) (hG : GW w) (hv : LL w v ll) (hbl : ∀ l ∈ ll, l.length ≤ big ∧ ∀ s ∈ l, s.length ≤ 9223372036854775807) : Calls Tryz.prog 6 #[str s, v] w (RetB w true) := by
  have HV := Lib.hid hv
  obtain ⟨a, cap, rfl, hm, HC⟩ := hv.open
  clear hv
  have B0 : Below w.heap.size w w := Below.refl _ _
  have KA := fun W (h : Below w.heap.size w W) => alive_any W (hT.below h) (hG.below h)
  have KX := fun x W (h : Below w.heap.size w W) hl => parse_any x W (hT.below h) (hG.below h) hl
  have KL := fun W (h : Below w.heap.size w W) hl => lines_any s W (hT.below h) hl
  clear hT hG
  replace hbl := Lib.hid hbl
  by_cases hlen : 10000 < s.length
  · have hlt : (10000 : Int) < (s.length : Int) := by omega
    clear KX KL hlen
    go_enter Tryz.func6, Tryz.ntmps6
    go_wp2_with (
      go_at_call 8
      refine (KA _ B0).mono ?_
      rintro e w20 ⟨rfl, B20⟩)
    go_ret
    exact ⟨rfl, Below.trans B0 (B20.mono (Below.size B0))⟩
  · have hlt : ¬ (10000 : Int) < (s.length : Int) := by omega
    by_cases hll : 20 < ll.length
    · have hlt2 : (20 : Int) < (ll.length : Int) := by omega
      clear KX KL hlen hll
      go_enter Tryz.func6, Tryz.ntmps6
      go_wp2_with (
        go_at_call 8
        refine (KA _ B0).mono ?_
        rintro e w20 ⟨rfl, B20⟩)
      go_ret
      exact ⟨rfl, Below.trans B0 (B20.mono (Below.size B0))⟩
    · have hlt2 : ¬ (20 : Int) < (ll.length : Int) := by omega
      replace KL := fun W h => KL W h (by omega)
      have KXs := fun W h => KX s W h (by omega)
      have HE := fun L n e h => first_all (s := s) (L := L) (n := n) (e := e) h
      obtain ⟨⟨L, n, e⟩, hQ⟩ : ∃ q, parseS s = q := ⟨_, rfl⟩
      rw [hQ] at KXs
      replace HE := HE L n e hQ
      have HF : ¬ (linesR s).2.2 = 0 → e = (linesR s).2.2 := fun h => by
        unfold parseS at hQ
        rw [if_neg h] at hQ
        injection hQ with _ hQ
        injection hQ with _ hQ
        exact hQ.symm
      have HS := lines_small (s := s)
      clear hQ
      obtain ⟨⟨m, at0, f⟩, hR⟩ : ∃ q, linesR s = q := ⟨_, rfl⟩
      rw [hR] at KL HE HF HS
      simp only at KL HE HF HS
      replace HE := Lib.hid HE
      replace HF := Lib.hid HF
      replace HS := Lib.hid HS
      clear hR hlen
      go_enter Tryz.func6, Tryz.ntmps6
      go_wp2
      go_loopg [5] ll.length (fun g s5 wx => ∃ (k : Nat), s5 = .int .i64 k ∧ k + g = ll.length ∧ Hid (∀ y ∈ ll.take k, y.length ≤ 100) ∧ w = wx)
      case atStart => exact ⟨0, rfl, by omega, Lib.hid (by simp), rfl⟩
      case round =>
        obtain ⟨k, rfl, hg, HN, rfl⟩ := hrel
        cases gk with
        | succ g =>
          have h : ((k : Int) < (ll.length : Int)) := by omega
          obtain ⟨y, hy, htk, hmem⟩ := at_take (l := ll) (k := k) (by omega)
          obtain ⟨b1, o1, x1, rfl, _, c1, r1⟩ := HC.out.rd (Below.refl _ _) hy
          obtain ⟨a2, f2, rfl, ⟨hm2, _⟩, HD⟩ := r1.openS
          clear r1 HD
          by_cases hy1 : 100 < y.length
          · have t : (100 : Int) < (y.length : Int) := by omega
            clear hy hy1 htk
            go_wp2_with (
              go_at_call 8
              refine (KA _ B0).mono ?_
              rintro e w20 ⟨rfl, B20⟩)
            go_ret
            exact ⟨rfl, Below.trans B0 (B20.mono (Below.size B0))⟩
          · have t : ¬ (100 : Int) < (y.length : Int) := by omega
            have N := Lib.hid (show ∀ z ∈ ll.take (k + 1), z.length ≤ 100 by
              intro z hz
              rw [htk, List.mem_append, List.mem_singleton] at hz
              rcases hz with hz | rfl
              · exact HN.out z hz
              · omega)
            clear hy hy1 htk HN
            go_wp2
            go_roundg g
            case measure => omega
            case rel => exact ⟨k + 1, by go_num, by omega, N, rfl⟩
        | zero =>
          have h : ¬ ((k : Int) < (ll.length : Int)) := by omega
          have HA : ∀ y ∈ ll, y.length ≤ 100 := by
            have := HN.out
            rwa [List.take_of_length_le (by omega)] at this
          have HB := Lib.hid (show FitsB ll from ⟨by omega, fun l hl => ⟨by have := HA l hl; omega, (hbl.out l hl).2⟩⟩)
          clear HN HA hbl
          by_cases hf : ¬ f = 0
          · have he := HF.out hf
            subst he
            have t : (e == 0) = false := by simpa using hf
            clear HE HF HS KX
            go_wp2_with (first
              | (go_at_call 12
                 refine (KXs _ B0).mono ?_
                 rintro e w2 ⟨v2, rfl, hLO, B2⟩
                 obtain ⟨p1, p2, p3, p4, p5, r1, r2, r3, r4, r5, rfl⟩ := lay_shape hLO
                 clear hLO KXs)
              | (go_at_call 14
                 refine (KL _ (alloc_below B2 (Nat.le_refl _) _)).mono ?_
                 rintro e w4 ⟨v4, rfl, hm4, B4⟩
                 have D4 := Below.trans (alloc_below B2 (Nat.le_refl _) _) (Below.mono B4 (Below.size (alloc_below B2 (Nat.le_refl _) _)))
                 replace hm4 : LL w4 v4 m := hm4
                 obtain ⟨am, cm, rfl, hmm, _⟩ := hm4.open
                 clear KL B4 B2)
              | (go_at_call 8
                 refine (KA _ D4).mono ?_
                 rintro e w20 ⟨rfl, B20⟩))
            go_ret
            exact ⟨rfl, D4.trans (B20.mono D4.size)⟩
          · have hf0 : f = 0 := Classical.not_not.1 hf
            subst hf0
            obtain ⟨hs1, hs2⟩ := HS.out rfl
            replace HE := fun h1 h2 => HE.out rfl h1 h2
            clear HF HS hf
            by_cases hn1 : n < 1
            · clear HE KX
              go_wp2_with (first
                | (go_at_call 12
                   refine (KXs _ B0).mono ?_
                   rintro e w2 ⟨v2, rfl, hLO, B2⟩
                   obtain ⟨p1, p2, p3, p4, p5, r1, r2, r3, r4, r5, rfl⟩ := lay_shape hLO
                   clear hLO KXs)
                | (go_at_call 14
                   refine (KL _ (alloc_below B2 (Nat.le_refl _) _)).mono ?_
                   rintro e w4 ⟨v4, rfl, hm4, B4⟩
                   have D4 := Below.trans (alloc_below B2 (Nat.le_refl _) _) (Below.mono B4 (Below.size (alloc_below B2 (Nat.le_refl _) _)))
                   replace hm4 : LL w4 v4 m := hm4
                   obtain ⟨am, cm, rfl, hmm, _⟩ := hm4.open
                   clear KL B4 B2)
                | (go_at_call 8
                   refine (KA _ D4).mono ?_
                   rintro e w20 ⟨rfl, B20⟩))
              go_ret
              exact ⟨rfl, D4.trans (B20.mono D4.size)⟩
            · by_cases hn2 : (m.length : Int) < n
              · clear HE KX
                go_wp2_with (first
                  | (go_at_call 12
                     refine (KXs _ B0).mono ?_
                     rintro e w2 ⟨v2, rfl, hLO, B2⟩
                     obtain ⟨p1, p2, p3, p4, p5, r1, r2, r3, r4, r5, rfl⟩ := lay_shape hLO
                     clear hLO KXs)
                  | (go_at_call 14
                     refine (KL _ (alloc_below B2 (Nat.le_refl _) _)).mono ?_
                     rintro e w4 ⟨v4, rfl, hm4, B4⟩
                     have D4 := Below.trans (alloc_below B2 (Nat.le_refl _) _) (Below.mono B4 (Below.size (alloc_below B2 (Nat.le_refl _) _)))
                     replace hm4 : LL w4 v4 m := hm4
                     obtain ⟨am, cm, rfl, hmm, _⟩ := hm4.open
                     clear KL B4 B2)
                  | (go_at_call 8
                     refine (KA _ D4).mono ?_
                     rintro e w20 ⟨rfl, B20⟩))
                go_ret
                exact ⟨rfl, D4.trans (B20.mono D4.size)⟩
              · obtain ⟨k2, rfl, hk1, hk2, hj1, hj2, hj3, hmore⟩ := HE (by omega) (by omega)
                have hJl := joinR_few (ll := m.take (k2 - 1)) (by rw [hj1])
                have KJ := fun vv W hv hF => join_any vv (m.take (k2 - 1)) W hv hF
                rw [hj1] at KJ hJl
                obtain ⟨tx, htx⟩ : ∃ tx, textL (m.take (k2 - 1)) = tx := ⟨_, rfl⟩
                rw [htx] at KJ hJl hj2 hj3
                simp only at hJl
                have KX2 := fun W h => KX tx W h (by omega)
                obtain ⟨⟨L2, n2, e2⟩, hQ2⟩ : ∃ q, parseS tx = q := ⟨_, rfl⟩
                rw [hQ2] at KX2 hj2 hj3
                have hF1 : Fits (m.take (k2 - 1)) := ⟨by rw [List.length_take]; omega, fun l hl => by
                  obtain ⟨_, z2, z3⟩ := hs2 l (List.mem_of_mem_take hl)
                  exact ⟨by omega, fun x hx => by have := z3 x hx; omega⟩⟩
                have HF2 := Lib.hid (show FitsB (m.take k2 ++ ll) from ⟨by rw [List.length_append, List.length_take]; omega, fun l hl => by
                  rw [List.mem_append] at hl
                  rcases hl with hl | hl
                  · obtain ⟨_, z2, z3⟩ := hs2 l (List.mem_of_mem_take hl)
                    exact ⟨by omega, fun x hx => by have := z3 x hx; omega⟩
                  · exact HB.out.2 l hl⟩)
                replace KJ := fun vv W hv => KJ vv W hv hF1
                replace hmore := Lib.hid (hmore ll)
                have hkn : ¬ (k2 : Int) < 1 := by omega
                have hkm : ¬ (m.length : Int) < (k2 : Int) := by omega
                have hml : m.length ≤ 32768 := hs1
                have hml0 : 0 < m.length := by omega
                have hkb : (k2 : Int) ≤ 32768 := by omega
                clear HE hn1 hn2 hj1 htx hQ2 hF1 hs1 hs2 HB
                go_upto_region 12 with (first
                  | (go_at_call 12
                     refine (KXs _ B0).mono ?_
                     rintro e w2 ⟨v2, rfl, hLO, B2⟩
                     obtain ⟨p1, p2, p3, p4, p5, r1, r2, r3, r4, r5, rfl⟩ := lay_shape hLO
                     clear hLO KXs)
                  | (go_at_call 14
                     refine (KL _ (alloc_below B2 (Nat.le_refl _) _)).mono ?_
                     rintro e w4 ⟨v4, rfl, hm4, B4⟩
                     have D4 := Below.trans (alloc_below B2 (Nat.le_refl _) _) (Below.mono B4 (Below.size (alloc_below B2 (Nat.le_refl _) _)))
                     replace hm4 : LL w4 v4 m := hm4
                     obtain ⟨bm, om, cm, rfl, hmm, hcut⟩ := hm4.cut hml0
                     obtain ⟨hc1, LL1⟩ := hcut (k2 - 1) (by omega)
                     obtain ⟨hc2, LL2⟩ := hcut k2 (by omega)
                     rw [show ((k2 - 1 : Nat) : Int) = (k2 : Int) - 1 by omega] at hc1
                     have HLL2 := Lib.hid LL2
                     clear hcut hm4 LL2
                     clear KL B4 B2))
                go_upto_region 14 with (first
                  | (go_at_call 15
                     refine (KJ _ _ LL1).mono ?_
                     rintro e w5 ⟨rfl, B5⟩
                     have D5 := D4.trans (B5.mono D4.size)
                     clear KJ LL1)
                  | (go_at_call 12
                     refine (KX2 _ D5).mono ?_
                     rintro e w6 ⟨v6, rfl, hLO6, B6⟩
                     have D6 := alloc_below (D5.trans (B6.mono D5.size)) (Nat.le_refl _)
                     have E6 := (B5.trans (B6.mono B5.size)).mono (Nat.le_refl _)
                     obtain ⟨x1, x2, x3, x4, x5, y1, y2, y3, y4, y5, rfl⟩ := lay_shape hLO6
                     clear hLO6 KX2))
                obtain ⟨W7, hW7⟩ : ∃ W, W = w6.alloc (.cells #[str L2.name, .slice x1 L2.secs.length y1, .slice x2 L2.els.length y2, .slice x3 L2.joints.length y3, .slice x4 L2.sigs.length y4, .slice x5 L2.bals.length y5] 28) := ⟨_, rfl⟩
                rw [← hW7]
                have D7 := D6 (.cells #[str L2.name, .slice x1 L2.secs.length y1, .slice x2 L2.els.length y2, .slice x3 L2.joints.length y3, .slice x4 L2.sigs.length y4, .slice x5 L2.bals.length y5] 28)
                rw [← hW7] at D7
                have E7 : Below w4.heap.size w4 W7 := by rw [hW7]; exact alloc_below E6 (Nat.le_refl _) _
                clear hW7 D6 E6
                have LL2 := HLL2.out.below E7
                have LLm := HV.out.below D7
                obtain ⟨us, RU, WU, OU, NU⟩ := LL2.vals
                obtain ⟨vs, RV, WV, OV, NV⟩ := LLm.vals
                have NU2 : us.length = k2 := by rw [NU, List.length_take]; omega
                have OE := World.ownsRow_lit (base := W7.heap.size) (size := 1) (e := 22) W7 #[] 0 (Nat.le_refl _) (by unfold maxLen; omega) rfl
                have E8 : Below W7.heap.size W7 (W7.alloc (.cells #[] 22)) := alloc_below (Below.refl _ _) (Nat.le_refl _) _
                have RU8 := RU.below E8
                have KR := fun vv W h => rjoin_big vv (m.take k2 ++ ll) W h HF2.out
                obtain ⟨⟨t, h0⟩, hJ⟩ : ∃ q, joinR (m.take k2 ++ ll) = q := ⟨_, rfl⟩
                rw [hJ] at KR hmore
                replace hJ := Lib.hid hJ
                simp only at KR
                have KX3 := fun W h hl => KX t W h hl
                obtain ⟨⟨L3, n3, e3⟩, hQ3⟩ : ∃ q, parseS t = q := ⟨_, rfl⟩
                rw [hQ3] at KX3 
                simp only [hQ3] at hmore
                replace hQ3 := Lib.hid hQ3
                have NV2 : vs.length ≤ 20 := by omega
                clear LL2 LLm NU HLL2 RU KX
                by_cases hk : k2 = 1
                · obtain ⟨rfl, rfl, rfl⟩ : L2 = zeroL ∧ n2 = 1 ∧ e2 = 4 := by
                    have := hj3 hk
                    injection this with h1 h2
                    injection h2 with h2 h3
                    exact ⟨h1, h2, h3⟩
                  have g1 : ¬ (1 : Int) < (k2 : Int) := by omega
                  have g3 : (k2 : Int) = 1 := by omega
                  have g2 : ((k2 : Int) == 1) = true := by simp [hk]
                  rw [g3] at hc2
                  clear hj2 hj3 hk
                  go_upto_region 17 with (
                    at_builtin
                    first
                    | (refine wpList_append_rs _ rfl _ _ 39 rfl W7.heap.size 22 (.slice none 0 0) 24 Tryz.underlying39 info_strs rfl _ 0 _ rfl OE _ rfl us RU8 OU (by omega) (by omega) E8.size ?_
                       intro v9 w9 p9 gr9 nb9
                       have E9 := below_grown E8 gr9 OE (Nat.le_refl _) E8.size
                       have RV9 := RV.below E9
                       clear nb9 gr9 OE RU8)
                    | (refine wpList_append_rs _ rfl _ _ 39 rfl W7.heap.size 22 (.slice none 0 0) 24 Tryz.underlying39 info_strs rfl _ _ _ rfl p9 _ rfl vs RV9 OV (by omega) (by omega) E9.size ?_
                       intro v10 w10 p10 gr10 nb10
                       have E10 := below_grown E9 gr10 p9 (Nat.le_refl _) E9.size
                       have LLt : LL w10 v10 (m.take k2 ++ ll) := LL.of (RS.own p10) (RowsL.app (WU.below E10) (WV.below E10))
                       have D10 := D7.trans (E10.mono D7.size)
                       clear nb10 gr10 p9 RV9))
                  go_upto_region 18 with (
                    go_at_call 16
                    refine (KR _ _ LLt).mono ?_
                    rintro e w11 ⟨rfl, rfl⟩
                    clear KR LLt p10)
                  by_cases hh : ¬ h0 = 0
                  · have t1 : (h0 == 0) = false := by simpa using hh
                    clear hmore KX3
                    go_wp2_with (
                      go_at_call 8
                      refine (KA _ D10).mono ?_
                      rintro e w20 ⟨rfl, B20⟩)
                    go_ret
                    exact ⟨rfl, Below.trans D10 (B20.mono (Below.size D10))⟩
                  · obtain rfl : h0 = 0 := Classical.not_not.1 hh
                    clear hh
                    by_cases hl3 : 10000 < t.length
                    · have t1 : (10000 : Int) < (t.length : Int) := by omega
                      clear hmore KX3 hl3
                      go_wp2_with (
                        go_at_call 8
                        refine (KA _ D10).mono ?_
                        rintro e w20 ⟨rfl, B20⟩)
                      go_ret
                      exact ⟨rfl, Below.trans D10 (B20.mono (Below.size D10))⟩
                    · have t1 : ¬ (10000 : Int) < (t.length : Int) := by omega
                      have hn3 := hmore.out rfl
                      injection hn3 with h3 h4
                      subst h3 h4
                      replace KX3 := fun W h => KX3 W h (by omega)
                      clear hmore hl3
                      go_wp2_with (first
                        | (go_at_call 12
                           refine (KX3 _ D10).mono ?_
                           rintro e w12 ⟨v12, rfl, hLO12, B12⟩
                           have D12 := D10.trans (B12.mono D10.size)
                           obtain ⟨z1, z2, z3, z4, z5, o1, o2, o3, o4, o5, rfl⟩ := lay_shape hLO12
                           clear hLO12 KX3)
                        | (go_at_call 8
                           refine (KA _ (alloc_below D12 (Nat.le_refl _) _)).mono ?_
                           rintro e w20 ⟨rfl, B20⟩
                           have D20 := Below.trans (alloc_below D12 (Nat.le_refl _) _) (Below.mono B20 (Below.size (alloc_below D12 (Nat.le_refl _) _)))))
                      go_ret
                      exact ⟨rfl, D20⟩
                · obtain rfl : n2 = 0 := hj2 (by omega)
                  have g1 : (1 : Int) < (k2 : Int) := by omega
                  have g3 : ¬ (k2 : Int) = 1 := by omega
                  have g2 : ((k2 : Int) == 1) = false := by simpa using g3
                  clear hj2 hj3 hk
                  go_upto_region 17 with (
                    at_builtin
                    first
                    | (refine wpList_append_rs _ rfl _ _ 39 rfl W7.heap.size 22 (.slice none 0 0) 24 Tryz.underlying39 info_strs rfl _ 0 _ rfl OE _ rfl us RU8 OU (by omega) (by omega) E8.size ?_
                       intro v9 w9 p9 gr9 nb9
                       have E9 := below_grown E8 gr9 OE (Nat.le_refl _) E8.size
                       have RV9 := RV.below E9
                       clear nb9 gr9 OE RU8)
                    | (refine wpList_append_rs _ rfl _ _ 39 rfl W7.heap.size 22 (.slice none 0 0) 24 Tryz.underlying39 info_strs rfl _ _ _ rfl p9 _ rfl vs RV9 OV (by omega) (by omega) E9.size ?_
                       intro v10 w10 p10 gr10 nb10
                       have E10 := below_grown E9 gr10 p9 (Nat.le_refl _) E9.size
                       have LLt : LL w10 v10 (m.take k2 ++ ll) := LL.of (RS.own p10) (RowsL.app (WU.below E10) (WV.below E10))
                       have D10 := D7.trans (E10.mono D7.size)
                       clear nb10 gr10 p9 RV9))
                  go_upto_region 18 with (
                    go_at_call 16
                    refine (KR _ _ LLt).mono ?_
                    rintro e w11 ⟨rfl, rfl⟩
                    clear KR LLt p10)
                  by_cases hh : ¬ h0 = 0
                  · have t1 : (h0 == 0) = false := by simpa using hh
                    clear hmore KX3
                    go_wp2_with (
                      go_at_call 8
                      refine (KA _ D10).mono ?_
                      rintro e w20 ⟨rfl, B20⟩)
                    go_ret
                    exact ⟨rfl, Below.trans D10 (B20.mono (Below.size D10))⟩
                  · obtain rfl : h0 = 0 := Classical.not_not.1 hh
                    clear hh
                    by_cases hl3 : 10000 < t.length
                    · have t1 : (10000 : Int) < (t.length : Int) := by omega
                      clear hmore KX3 hl3
                      go_wp2_with (
                        go_at_call 8
                        refine (KA _ D10).mono ?_
                        rintro e w20 ⟨rfl, B20⟩)
                      go_ret
                      exact ⟨rfl, Below.trans D10 (B20.mono (Below.size D10))⟩
                    · have t1 : ¬ (10000 : Int) < (t.length : Int) := by omega
                      have hn3 := hmore.out rfl
                      injection hn3 with h3 h4
                      subst h3 h4
                      replace KX3 := fun W h => KX3 W h (by omega)
                      clear hmore hl3
                      go_wp2_with (first
                        | (go_at_call 12
                           refine (KX3 _ D10).mono ?_
                           rintro e w12 ⟨v12, rfl, hLO12, B12⟩
                           have D12 := D10.trans (B12.mono D10.size)
                           obtain ⟨z1, z2, z3, z4, z5, o1, o2, o3, o4, o5, rfl⟩ := lay_shape hLO12
                           clear hLO12 KX3)
                        | (go_at_call 8
                           refine (KA _ (alloc_below D12 (Nat.le_refl _) _)).mono ?_
                           rintro e w20 ⟨rfl, B20⟩
                           have D20 := Below.trans (alloc_below D12 (Nat.le_refl _) _) (Below.mono B20 (Below.size (alloc_below D12 (Nat.le_refl _) _)))))
                      go_ret
                      exact ⟨rfl, D20⟩
end Go.Proofs.YteafkginhejllaaGreatDoor
