/- The walk of LayoutJoins. Conditions: what the program reads (GW); the layout can be read; its names' lengths. -/
import Derived.Test.YthoodaldmfojaaaDoorLawsA7
import Derived.Deep.RegionHeld3
namespace Go.Proofs.YthoodaldmfojaaaDoor
open Go.ChangeShapes Go.WideShapes Go.ChangeAt Go.RowKit
theorem section_of {L : LayD} {e : EndD} (h : exS L.els e = true) : sectionS L e.1 = elAt L.els e.1 ElD.sec := by
  simp only [exS, Bool.and_eq_true, decide_eq_true_eq] at h
  unfold sectionS
  rw [if_neg (by omega)]
/-- What the law asks of one end of a valid layout. -/
theorem end_ok {L : LayD} (V : Valid isName L) (e : EndD) (he : exS L.els e = true) :
    (joinF e L.joints = none ∧ ¬ 0 ≤ sigF e 0 L.sigs) ∨ ∃ f, joinF e L.joints = some f ∧ joinF f L.joints = some e ∧ (f == e) = false ∧ (¬ 0 ≤ sigF e 0 L.sigs ∨ (0 ≤ sigF e 0 L.sigs ∧ (sectionS L f.1 == sectionS L e.1) = false)) := by
  cases hj : joinF e L.joints with
  | none =>
    refine Or.inl ⟨rfl, fun h => ?_⟩
    obtain ⟨f, hf, _⟩ := valid_sig V h
    rw [hj] at hf; cases hf
  | some f =>
    obtain ⟨h1, h2, h3⟩ := valid_join V hj
    refine Or.inr ⟨f, rfl, h1, by simpa using h2, ?_⟩
    by_cases hs : 0 ≤ sigF e 0 L.sigs
    · refine Or.inr ⟨hs, ?_⟩
      obtain ⟨f', hf', hne⟩ := valid_sig V hs
      rw [hj] at hf'
      obtain rfl := Option.some.inj hf'
      rw [section_of h3, section_of he]
      simpa using hne
    · exact Or.inl hs
theorem take_at {P : Program} {md : Region.Mode} {ops : Array Oper} {Q : Exit → Act → World → Prop} {S : World → Prop} {i : Nat} {oi : Oper} {d : Option Tmp} {v : Value} {fuel : Nat} {listed : Array Bool} {a : Act} {w : World} (hi : ops[i]? = some oi) (hd : oi.dst = d)
    (hs : Region.noSelect ops = true) (hf : Region.free md ops listed i = true) (hr : (Region.ready md ops listed).contains i = true)
    (hQ : ∀ c a w, Q (.panic c) (a.put oi.dst v) w → Q (.panic c) a w) (hy : YieldsIf P ops S oi v a) (hS : S w)
    (h : wpAnyH P md ops Q S fuel (listed.setIfInBounds i true) (a.put d v) w) : wpAnyH P md ops Q S (fuel + 1) listed a w := by
  subst hd
  exact wpAnyH_take hi hs hf hr hQ hy hS h
set_option maxRecDepth 100000 in
set_option maxHeartbeats 16000000 in
theorem joins_all (v : Value) (L : LayD) (w : World) (hG : GW w) (hv : RLay w v L) (hs : ∀ s ∈ allNames L, s.length ≤ 9223372036854775807) : Calls Tryd.prog 4 #[v] w (RetB w true) := by
  have HE0 := hv
  obtain ⟨nb, a1, a2, a3, a4, a5, s1, c1, s2, c2, s3, c3, s4, c4, s5, c5, rfl⟩ := lay_open hv
  obtain ⟨v1, v2, v3, v4, v5, hve, _, h2, _, _, _⟩ := HE0
  obtain ⟨-, -, e2', -, -, -⟩ : Value.string nb = str L.name ∧ .slice a1 s1 c1 = v1 ∧ .slice a2 s2 c2 = v2 ∧ .slice a3 s3 c3 = v3 ∧ .slice a4 s4 c4 = v4 ∧ .slice a5 s5 c5 = v5 := by simpa using hve
  subst e2'
  obtain ⟨a2', c2', e2, ⟨m2, _⟩, HE⟩ := h2.openM
  injection e2 with e21 e22 e23
  subst e21 e23
  clear hve h2
  have HV := Lib.hid hv
  clear hv
  obtain ⟨els, ee⟩ : ∃ x, L.els = x := ⟨_, rfl⟩
  rw [ee] at HE m2 e22
  subst e22
  replace ee := Lib.hid ee
  obtain ⟨W1, hW⟩ : ∃ W1, W1 = w.alloc (.cells #[.string nb, .slice a1 s1 c1, .slice a2 els.length c2, .slice a3 s3 c3, .slice a4 s4 c4, .slice a5 s5 c5] 28) := ⟨_, rfl⟩
  have HB : Below w.heap.size w W1 := by rw [hW]; exact (Below.refl _ _).alloc (Nat.le_refl _) _
  have G1 : Blk W1 w.heap.size #[.string nb, .slice a1 s1 c1, .slice a2 els.length c2, .slice a3 s3 c3, .slice a4 s4 c4, .slice a5 s5 c5] := by rw [hW]; exact Blk.new _ _ _ _ rfl
  have SK : ∀ W, Below W1.heap.size W1 W → Below w.heap.size w W ∧ w.heap.size < W.heap.size ∧ W.cell? ⟨w.heap.size, 0, none⟩ = some (.string nb) ∧ W.cell? ⟨w.heap.size, 1, none⟩ = some (.slice a1 s1 c1) ∧ W.cell? ⟨w.heap.size, 2, none⟩ = some (.slice a2 els.length c2) ∧
      W.cell? ⟨w.heap.size, 3, none⟩ = some (.slice a3 s3 c3) ∧ W.cell? ⟨w.heap.size, 4, none⟩ = some (.slice a4 s4 c4) ∧ W.cell? ⟨w.heap.size, 5, none⟩ = some (.slice a5 s5 c5) := by
    intro W h
    have b := G1.below h
    exact ⟨HB.trans (h.mono HB.size), b.lt, b.at 0 _ rfl, b.at 1 _ rfl, b.at 2 _ rfl, b.at 3 _ rfl, b.at 4 _ rfl, b.at 5 _ rfl⟩
  have GB : ∀ W, Below W1.heap.size W1 W → GW W := fun W h => hG.below (HB.trans (h.mono HB.size))
  have VB : ∀ W, Below W1.heap.size W1 W → RLay W (.agg #[.string nb, .slice a1 s1 c1, .slice a2 els.length c2, .slice a3 s3 c3, .slice a4 s4 c4, .slice a5 s5 c5]) L := fun W h => HV.out.below (HB.trans (h.mono HB.size))
  replace SK := Lib.hid SK
  replace GB := Lib.hid GB
  replace VB := Lib.hid VB
  clear hG HV G1
  have B1 := Below.refl W1.heap.size W1
  obtain ⟨_, hl0, k0, k1, k2, k3, k4, k5⟩ := SK.out _ B1
  have K1 := fun vv ww (hh : RLay ww vv L) => few_any vv L ww hh
  cases hf : fewB L
  · rw [hf] at K1
    clear hf hs
    go_enter Tryd.func4, Tryd.ntmps4
    go_wp2_with fail
    rw [← hW]
    clear hW
    refine (K1 _ _ (VB.out _ B1)).mono ?_
    rintro e w2 ⟨rfl, bb⟩
    have B2 := B1.trans (bb.mono B1.size)
    go_wp2_with fail
    refine (alive_any _ (GB.out _ B2)).mono ?_
    rintro e w3 ⟨rfl, b3⟩
    go_wp2
    go_ret
    exact ⟨rfl, HB.trans ((B2.trans (b3.mono B2.size)).mono HB.size)⟩
  · have F := few_of hf hs
    have K2 := fun vv ww (hg : GW ww) (hh : RLay ww vv L) => check_any vv L ww hg hh F
    have K3 := fun vv (e s : Int) ww (hg : GW ww) (hh : RLay ww vv L) => joined_any vv L e s ww hg hh F
    have K4 := fun vv (e s : Int) ww (hg : GW ww) (hh : RLay ww vv L) => signal_any vv L e s ww hg hh F
    have K5 := fun vv (e : Int) ww (hg : GW ww) (hh : RLay ww vv L) => section_any vv L e ww hg hh F
    rw [hf] at K1
    by_cases hc : checkS isName L = 0
    · have V := valid_check hc
      rw [hc] at K2
      replace V := Lib.hid V
      have hn2 : els.length ≤ 60 := by rw [← ee.out]; exact F.n2
      clear hf hs F hc
      go_enter Tryd.func4, Tryd.ntmps4
      go_wp2_with fail
      rw [← hW]
      clear hW
      refine (K1 _ _ (VB.out _ B1)).mono ?_
      rintro e w2 ⟨rfl, bb⟩
      have B2 := B1.trans (bb.mono B1.size)
      clear bb k0 k1 k2 k3 k4 k5
      obtain ⟨_, hl2, k0, k1, k2, k3, k4, k5⟩ := SK.out _ B2
      go_wp2_with fail
      refine (K2 _ _ (GB.out _ B2) (VB.out _ B2)).mono ?_
      rintro e w3 ⟨rfl, bb⟩
      have B3 := B2.trans (bb.mono B2.size)
      clear bb k0 k1 k2 k3 k4 k5 K1 K2 B2 hl2
      obtain ⟨_, hl2, k0, k1, k2, k3, k4, k5⟩ := SK.out _ B3
      go_wp2
      clear k0 k1 k2 k3 k4 k5
      go_loopg [23] els.length (fun g s23 wx => ∃ i : Nat, i + g = els.length ∧ s23 = .int .i64 i ∧ Below W1.heap.size W1 wx)
      case atStart => exact ⟨0, by omega, rfl, B3⟩
      case round =>
        clear B3 hl2 hl0
        obtain ⟨i, hi, rfl, BR⟩ := hrel
        obtain ⟨hw, hl0, k0, k1, k2, k3, k4, k5⟩ := SK.out _ BR
        cases gk with
        | zero =>
          have hz : ¬ ((i : Int) < (els.length : Int)) := by omega
          replace hi := Lib.hid hi
          go_wp2_with fail
          refine (alive_any _ (GB.out _ BR)).mono ?_
          rintro e w9 ⟨rfl, b9⟩
          go_wp2
          go_ret
          exact ⟨rfl, hw.trans (b9.mono hw.size)⟩
        | succ g =>
          have hz : (i : Int) < (els.length : Int) := by omega
          obtain ⟨⟨xn, kd, ln, gr, sp, sl, sc⟩, hy, ht, hmem⟩ := at_take (l := els) (k := i) (by omega)
          obtain ⟨b, off, rfl, hlt, hcc⟩ := HE.out.rd hw hy
          have cc0 := hcc 0 _ rfl
          have cc1 := hcc 1 _ rfl
          have cc2 := hcc 2 _ rfl
          have cc3 := hcc 3 _ rfl
          have cc4 := hcc 4 _ rfl
          have cc5 := hcc 5 _ rfl
          have cc6 := hcc 6 _ rfl
          simp only [Nat.add_zero] at cc0 cc1 cc2 cc3 cc4 cc5 cc6
          obtain ⟨xm, ex⟩ : ∃ s : ByteArray, (⟨xn.toArray⟩ : ByteArray) = s := ⟨_, rfl⟩
          have ex2 : str xn = .string xm := by rw [← ex]
          simp only [ex2] at cc0
          have hex : ∀ k : Nat, (k : Int) < sidesS kd → exS L.els ((i : Int), (k : Int)) = true := by
            intro k hk
            rw [ee.out, exS_in hy (by omega)]
            exact decide_eq_true hk
          obtain ⟨sd, hsd⟩ : ∃ sd : Nat, sidesS kd = sd := ⟨(sidesS kd).toNat, by have := (sides_le kd).1; omega⟩
          rw [hsd] at hex
          replace hex := Lib.hid hex
          have hsd4 : sd ≤ 4 := by have := (sides_le kd).2; omega
          have K6 := fun ww => rsides_any kd ww
          rw [hsd] at K6
          clear hsd
          obtain ⟨W2, hW2⟩ : ∃ W2, W2 = wr.alloc (.cells #[.string xm, .int .i64 kd, .int .i64 ln, .int .i64 gr, .int .i64 sp, .int .i64 sl, .int .i64 sc] 34) := ⟨_, rfl⟩
          have BA : Below W1.heap.size W1 W2 := by rw [hW2]; exact alloc_below BR (Nat.le_refl _) _
          have PE : Blk W2 wr.heap.size #[.string xm, .int .i64 kd, .int .i64 ln, .int .i64 gr, .int .i64 sp, .int .i64 sl, .int .i64 sc] := by rw [hW2]; exact Blk.new _ _ _ _ rfl
          replace hi := Lib.hid hi
          clear hcc hy ht hmem ex ex2
          go_wp2
          rw [← hW2]
          clear hW2 cc0 cc1 cc2 cc3 cc4 cc5 cc6 k0 k1 k2 k3 k4 k5
          obtain ⟨N4, hN4⟩ : ∃ N, wr.heap.size = N := ⟨_, rfl⟩
          rw [hN4] at PE ⊢
          clear hN4 BR hw hl0 hlt
          go_loopg [5] sd (fun g s5 wx => ∃ k : Nat, k + g = sd ∧ s5 = .int .i64 k ∧ Below W2.heap.size W2 wx)
          case atStart => exact ⟨0, by omega, rfl, Below.refl _ _⟩
          case round =>
            obtain ⟨k, hk, rfl, BI⟩ := hrel
            have BR := BA.trans (BI.mono BA.size)
            obtain ⟨hw, hl0, k0, k1, k2, k3, k4, k5⟩ := SK.out _ BR
            have PE2 := PE.below BI
            have lt4 := PE2.lt
            have p1 := PE2.at 1 _ rfl
            replace PE2 := Lib.hid PE2
            cases gk with
            | zero =>
              have hz2 : ¬ ((k : Int) < (sd : Int)) := by omega
              replace hk := Lib.hid hk
              go_wp2_with (go_at_call 11; refine (K6 _).mono ?_; rintro e ww ⟨rfl, rfl⟩)
              go_roundg g
              case measure => omega
              case rel => exact ⟨i + 1, by have := hi.out; omega, by go_num, BR⟩
            | succ g2 =>
              have hz2 : (k : Int) < (sd : Int) := by omega
              have hE := end_ok V.out ((i : Int), (k : Int)) (hex.out k (by omega))
              replace hk := Lib.hid hk
              have J1 := fun vv ww hg hh => K3 vv (i : Int) (k : Int) ww hg hh
              have Q1 := fun vv ww hg hh => K4 vv (i : Int) (k : Int) ww hg hh
              obtain ⟨sg, hsg⟩ : ∃ sg, sigF ((i : Int), (k : Int)) 0 L.sigs = sg := ⟨_, rfl⟩
              rw [hsg] at hE
              simp only [hsg] at Q1
              have PK : Blk (wr.alloc (.cells #[.int .i64 i, .int .i64 k] 37)) wr.heap.size #[.int .i64 i, .int .i64 k] := Blk.new _ _ _ _ rfl
              have BK : Below W1.heap.size W1 (wr.alloc (.cells #[.int .i64 i, .int .i64 k] 37)) := alloc_below BR (Nat.le_refl _) _
              have BK2 : Below W2.heap.size W2 (wr.alloc (.cells #[.int .i64 i, .int .i64 k] 37)) := alloc_below BI (Nat.le_refl _) _

              rcases hE with ⟨hj, hns⟩ | ⟨⟨f1, f2⟩, hj, hjb, hne, hE2⟩
              · simp only [hj] at J1
                unfold RetJ at J1
                simp only [joinO] at J1
                have J2 := fun vv ww hg hh => K3 vv 0 0 ww hg hh
                unfold RetJ at J2
                obtain ⟨b1, b2, b3, hb3⟩ : ∃ x y z, joinO (joinF (0, 0) L.joints) = .tuple #[.agg #[.int .i64 x, .int .i64 y], .bool z] := by
                  cases joinF (0, 0) L.joints with
                  | none => exact ⟨_, _, _, rfl⟩
                  | some f => exact ⟨_, _, _, rfl⟩
                simp only [hb3] at J2
                have tsg : decide (0 ≤ sg) = false := decide_eq_false (by omega)
                clear hj hb3 hns hsg K3 K4 K5
                go_wp2_with fail
                refine (K6 _).mono ?_
                rintro e ww ⟨rfl, rfl⟩
                go_wp2_with fail
                refine (J1 _ _ (GB.out _ BK) (VB.out _ BK)).mono ?_
                rintro e w4 ⟨rfl, bb⟩


                have P6 := PK.below bb
                have B4 := BK.trans (bb.mono BK.size)
                have B42 := BK2.trans (bb.mono BK2.size)
                clear bb J1 PK BK BK2 k0 k1 k2 k3 k4 k5 p1 lt4
                obtain ⟨_, hl4, k0, k1, k2, k3, k4, k5⟩ := SK.out _ B4
                have lt6 := P6.lt
                have e0 := P6.at 0 _ rfl
                have e1 := P6.at 1 _ rfl
                have P7 : Blk (w4.alloc (.cells #[.int .i64 0, .int .i64 0] 37)) w4.heap.size #[.int .i64 0, .int .i64 0] := Blk.new _ _ _ _ rfl
                have B5 : Below W1.heap.size W1 (w4.alloc (.cells #[.int .i64 0, .int .i64 0] 37)) := alloc_below B4 (Nat.le_refl _) _
                have B52 : Below W2.heap.size W2 (w4.alloc (.cells #[.int .i64 0, .int .i64 0] 37)) := alloc_below B42 (Nat.le_refl _) _
                replace P6 := P6.old (.cells #[.int .i64 0, .int .i64 0] 37)
                go_wp2_with fail
                refine (J2 _ _ (GB.out _ B5) (VB.out _ B5)).mono ?_
                rintro e w5 ⟨rfl, bb⟩
                replace P6 := P6.below bb
                replace P7 := P7.below bb
                have B6 := B5.trans (bb.mono B5.size)
                have B62 := B52.trans (bb.mono B52.size)
                clear bb J2 B5 B52 B4 B42 hl4 k0 k1 k2 k3 k4 k5 e0 e1 lt6
                obtain ⟨_, hl6, k0, k1, k2, k3, k4, k5⟩ := SK.out _ B6
                have lt6 := P6.lt
                have lt7 := P7.lt
                have e0 := P6.at 0 _ rfl
                have e1 := P6.at 1 _ rfl
                have q0 := P7.at 0 _ rfl
                have q1 := P7.at 1 _ rfl
                have EE := eql_end
                have NE := neq_end
                have B7 : Below W1.heap.size W1 (w5.alloc (.cells #[.int .i64 b1, .int .i64 b2] 37)).drew := (alloc_below B6 (Nat.le_refl _) _).drew
                have B72 : Below W2.heap.size W2 (w5.alloc (.cells #[.int .i64 b1, .int .i64 b2] 37)).drew := (alloc_below B62 (Nat.le_refl _) _).drew
                have GQ := GB.out _ B7
                have VQ := VB.out _ B7
                go_wp2
                have SS : ∀ W, Below W2.heap.size W2 W → Blk W wr.heap.size #[.int .i64 i, .int .i64 k] → Blk W w4.heap.size #[.int .i64 0, .int .i64 0] → (W.cell? ⟨w.heap.size, 0, none⟩ = some (.string nb) ∧ W.cell? ⟨w.heap.size, 1, none⟩ = some (.slice a1 s1 c1) ∧ W.cell? ⟨w.heap.size, 2, none⟩ = some (.slice (some ⟨b, off, none⟩) els.length c2) ∧ W.cell? ⟨w.heap.size, 3, none⟩ = some (.slice a3 s3 c3) ∧ W.cell? ⟨w.heap.size, 4, none⟩ = some (.slice a4 s4 c4) ∧ W.cell? ⟨w.heap.size, 5, none⟩ = some (.slice a5 s5 c5) ∧ W.cell? ⟨wr.heap.size, 0, none⟩ = some (.int .i64 i) ∧ W.cell? ⟨wr.heap.size, 1, none⟩ = some (.int .i64 k) ∧ W.cell? ⟨w4.heap.size, 0, none⟩ = some (.int .i64 0) ∧ Below W2.heap.size W2 W) := by
                  intro W h hb hb7
                  obtain ⟨_, _, y0, y1, y2, y3, y4, y5⟩ := SK.out _ (BA.trans (h.mono BA.size))
                  exact ⟨y0, y1, y2, y3, y4, y5, hb.at 0 _ rfl, hb.at 1 _ rfl, hb7.at 0 _ rfl, h⟩
                have P6' : Blk (w5.alloc (.cells #[.int .i64 b1, .int .i64 b2] 37)).drew wr.heap.size #[.int .i64 i, .int .i64 k] := P6.old (.cells #[.int .i64 b1, .int .i64 b2] 37)
                have P7' : Blk (w5.alloc (.cells #[.int .i64 b1, .int .i64 b2] 37)).drew w4.heap.size #[.int .i64 0, .int .i64 0] := P7.old (.cells #[.int .i64 b1, .int .i64 b2] 37)
                refine wp_region_noPanic ?_
                refine wp_region_held_drew (S := fun W => W.cell? ⟨w.heap.size, 0, none⟩ = some (.string nb) ∧ W.cell? ⟨w.heap.size, 1, none⟩ = some (.slice a1 s1 c1) ∧ W.cell? ⟨w.heap.size, 2, none⟩ = some (.slice (some ⟨b, off, none⟩) els.length c2) ∧ W.cell? ⟨w.heap.size, 3, none⟩ = some (.slice a3 s3 c3) ∧ W.cell? ⟨w.heap.size, 4, none⟩ = some (.slice a4 s4 c4) ∧ W.cell? ⟨w.heap.size, 5, none⟩ = some (.slice a5 s5 c5) ∧ W.cell? ⟨wr.heap.size, 0, none⟩ = some (.int .i64 i) ∧ W.cell? ⟨wr.heap.size, 1, none⟩ = some (.int .i64 k) ∧ W.cell? ⟨w4.heap.size, 0, none⟩ = some (.int .i64 0) ∧ Below W2.heap.size W2 W) (by kernel_rfl) (SS _ B72 P6' P7') (fun hH0 => ?_)
                refine take_at (i := 0) (oi := _) (d := some 65) (v := .agg #[.string nb, .slice a1 s1 c1, .slice (some ⟨b, off, none⟩) els.length c2, .slice a3 s3 c3, .slice a4 s4 c4, .slice a5 s5 c5]) rfl rfl (by kernel_rfl) (by kernel_rfl) (by kernel_rfl) (fun _ _ _ h => h) (Or.inl ⟨rfl, ?_⟩) hH0 ?_
                · intro w' hSw
                  obtain ⟨x0, x1, x2, x3, x4, x5, x6, x7, x8, x9⟩ := hSw
                  go_simp
                try simp only [Act.put, List.setIfInBounds_toArray, List.set_cons_zero, List.set_cons_succ]
                refine take_at (i := 1) (oi := _) (d := some 66) (v := .agg #[.int .i64 i, .int .i64 k]) rfl rfl (by kernel_rfl) (by kernel_rfl) (by kernel_rfl) (fun _ _ _ h => h) (Or.inl ⟨rfl, ?_⟩) hH0 ?_
                · intro w' hSw
                  obtain ⟨x0, x1, x2, x3, x4, x5, x6, x7, x8, x9⟩ := hSw
                  go_simp
                try simp only [Act.put, List.setIfInBounds_toArray, List.set_cons_zero, List.set_cons_succ]
                refine wpAnyH_ready (rs := [2]) (by kernel_rfl) (by simp) ?_
                refine AllReadyH.cons (o := _) rfl (fun K hK => ?_) AllReadyH.nil
                go_simp
                refine (Q1 _ _ GQ VQ).mono ?_
                rintro e w6 ⟨rfl, b8⟩
                refine hK.out _ _ (SS _ (B72.trans (b8.mono B72.size)) (P6'.below b8) (P7'.below b8)) (fun hH1 => ?_)
                clear hK K
                try simp only [Act.put, List.setIfInBounds_toArray, List.set_cons_zero, List.set_cons_succ]
                refine take_at (i := 3) (oi := _) (d := some 68) (v := .bool (decide (0 ≤ sg))) rfl rfl (by kernel_rfl) (by kernel_rfl) (by kernel_rfl) (fun _ _ _ h => h) (Or.inl ⟨rfl, ?_⟩) hH1 ?_
                · intro w' hSw
                  obtain ⟨x0, x1, x2, x3, x4, x5, x6, x7, x8, x9⟩ := hSw
                  go_simp
                try simp only [Act.put, List.setIfInBounds_toArray, List.set_cons_zero, List.set_cons_succ]
                refine take_at (i := 4) (oi := _) (d := some 69) (v := .bool (decide (0 ≤ sg))) rfl rfl (by kernel_rfl) (by kernel_rfl) (by kernel_rfl) (fun _ _ _ h => h) (Or.inl ⟨rfl, ?_⟩) hH1 ?_
                · intro w' hSw
                  obtain ⟨x0, x1, x2, x3, x4, x5, x6, x7, x8, x9⟩ := hSw
                  go_simp
                try simp only [Act.put, List.setIfInBounds_toArray, List.set_cons_zero, List.set_cons_succ]
                rw [tsg]
                refine take_at (i := 5) (oi := _) (d := some 70) (v := undef) rfl rfl (by kernel_rfl) (by kernel_rfl) (by kernel_rfl) (fun _ _ _ h => h) (Or.inr ⟨by kernel_rfl, rfl⟩) hH1 ?_
                try simp only [Act.put, List.setIfInBounds_toArray, List.set_cons_zero, List.set_cons_succ]
                refine take_at (i := 6) (oi := _) (d := some 71) (v := undef) rfl rfl (by kernel_rfl) (by kernel_rfl) (by kernel_rfl) (fun _ _ _ h => h) (Or.inr ⟨by kernel_rfl, rfl⟩) hH1 ?_
                try simp only [Act.put, List.setIfInBounds_toArray, List.set_cons_zero, List.set_cons_succ]
                refine take_at (i := 7) (oi := _) (d := some 72) (v := undef) rfl rfl (by kernel_rfl) (by kernel_rfl) (by kernel_rfl) (fun _ _ _ h => h) (Or.inr ⟨by kernel_rfl, rfl⟩) hH1 ?_
                try simp only [Act.put, List.setIfInBounds_toArray, List.set_cons_zero, List.set_cons_succ]
                refine take_at (i := 8) (oi := _) (d := some 73) (v := undef) rfl rfl (by kernel_rfl) (by kernel_rfl) (by kernel_rfl) (fun _ _ _ h => h) (Or.inr ⟨by kernel_rfl, rfl⟩) hH1 ?_
                try simp only [Act.put, List.setIfInBounds_toArray, List.set_cons_zero, List.set_cons_succ]
                refine take_at (i := 9) (oi := _) (d := some 74) (v := undef) rfl rfl (by kernel_rfl) (by kernel_rfl) (by kernel_rfl) (fun _ _ _ h => h) (Or.inr ⟨by kernel_rfl, rfl⟩) hH1 ?_
                try simp only [Act.put, List.setIfInBounds_toArray, List.set_cons_zero, List.set_cons_succ]
                refine take_at (i := 10) (oi := _) (d := some 75) (v := undef) rfl rfl (by kernel_rfl) (by kernel_rfl) (by kernel_rfl) (fun _ _ _ h => h) (Or.inr ⟨by kernel_rfl, rfl⟩) hH1 ?_
                try simp only [Act.put, List.setIfInBounds_toArray, List.set_cons_zero, List.set_cons_succ]
                refine take_at (i := 11) (oi := _) (d := some 76) (v := undef) rfl rfl (by kernel_rfl) (by kernel_rfl) (by kernel_rfl) (fun _ _ _ h => h) (Or.inr ⟨by kernel_rfl, rfl⟩) hH1 ?_
                try simp only [Act.put, List.setIfInBounds_toArray, List.set_cons_zero, List.set_cons_succ]
                refine take_at (i := 12) (oi := _) (d := some 77) (v := undef) rfl rfl (by kernel_rfl) (by kernel_rfl) (by kernel_rfl) (fun _ _ _ h => h) (Or.inr ⟨by kernel_rfl, rfl⟩) hH1 ?_
                try simp only [Act.put, List.setIfInBounds_toArray, List.set_cons_zero, List.set_cons_succ]
                refine take_at (i := 13) (oi := _) (d := some 78) (v := undef) rfl rfl (by kernel_rfl) (by kernel_rfl) (by kernel_rfl) (fun _ _ _ h => h) (Or.inr ⟨by kernel_rfl, rfl⟩) hH1 ?_
                try simp only [Act.put, List.setIfInBounds_toArray, List.set_cons_zero, List.set_cons_succ]
                refine take_at (i := 14) (oi := _) (d := some 79) (v := undef) rfl rfl (by kernel_rfl) (by kernel_rfl) (by kernel_rfl) (fun _ _ _ h => h) (Or.inr ⟨by kernel_rfl, rfl⟩) hH1 ?_
                try simp only [Act.put, List.setIfInBounds_toArray, List.set_cons_zero, List.set_cons_succ]
                refine take_at (i := 15) (oi := _) (d := some 80) (v := undef) rfl rfl (by kernel_rfl) (by kernel_rfl) (by kernel_rfl) (fun _ _ _ h => h) (Or.inr ⟨by kernel_rfl, rfl⟩) hH1 ?_
                try simp only [Act.put, List.setIfInBounds_toArray, List.set_cons_zero, List.set_cons_succ]
                refine take_at (i := 16) (oi := _) (d := some 81) (v := undef) rfl rfl (by kernel_rfl) (by kernel_rfl) (by kernel_rfl) (fun _ _ _ h => h) (Or.inr ⟨by kernel_rfl, rfl⟩) hH1 ?_
                try simp only [Act.put, List.setIfInBounds_toArray, List.set_cons_zero, List.set_cons_succ]
                refine take_at (i := 17) (oi := _) (d := some 82) (v := .bool false) rfl rfl (by kernel_rfl) (by kernel_rfl) (by kernel_rfl) (fun _ _ _ h => h) (Or.inl ⟨rfl, ?_⟩) hH1 ?_
                · intro w' hSw
                  obtain ⟨x0, x1, x2, x3, x4, x5, x6, x7, x8, x9⟩ := hSw
                  go_simp
                try simp only [Act.put, List.setIfInBounds_toArray, List.set_cons_zero, List.set_cons_succ]
                refine wpAnyH_done (by kernel_rfl) ?_ _
                refine NoPanic.normal ?_
                have BZ := B72.trans (b8.mono B72.size)
                clear hH0 hH1 SS P6' P7' B7 GQ VQ B72 b8 P6 P7 k0 k1 k2 k3 k4 k5 e0 e1 q0 q1 Q1 K6 EE NE B6 B62
                go_wp2
                go_roundg g2
                case measure => omega
                case rel => exact ⟨k + 1, by have := hk.out; omega, by go_num, BZ⟩
              · simp only [hj] at J1
                unfold RetJ at J1
                simp only [joinO] at J1
                have J2 := fun vv ww hg hh => K3 vv f1 f2 ww hg hh
                unfold RetJ at J2
                simp only [hjb, joinO] at J2
                have tb : (((i : Int), (k : Int)) : EndD) == ((i : Int), (k : Int)) := beq_self_eq_true _
                have tb2 : ((((i : Int), (k : Int)) : EndD) == ((i : Int), (k : Int))) = true := beq_self_eq_true _
                simp only at hE2
                obtain ⟨xs1, hx1⟩ : ∃ x, sectionS L f1 = x := ⟨_, rfl⟩
                obtain ⟨xs2, hx2⟩ : ∃ x, sectionS L (i : Int) = x := ⟨_, rfl⟩
                rw [hx1, hx2] at hE2
                have K51 := fun vv ww hg hh => K5 vv f1 ww hg hh
                have K52 := fun vv ww hg hh => K5 vv (i : Int) ww hg hh
                simp only [hx1] at K51
                simp only [hx2] at K52
                clear hx1 hx2 K5
                clear hj hjb hsg K3 K4
                go_wp2_with fail
                refine (K6 _).mono ?_
                rintro e ww ⟨rfl, rfl⟩
                go_wp2_with fail
                refine (J1 _ _ (GB.out _ BK) (VB.out _ BK)).mono ?_
                rintro e w4 ⟨rfl, bb⟩


                have P6 := PK.below bb
                have B4 := BK.trans (bb.mono BK.size)
                have B42 := BK2.trans (bb.mono BK2.size)
                clear bb J1 PK BK BK2 k0 k1 k2 k3 k4 k5 p1 lt4
                obtain ⟨_, hl4, k0, k1, k2, k3, k4, k5⟩ := SK.out _ B4
                have lt6 := P6.lt
                have e0 := P6.at 0 _ rfl
                have e1 := P6.at 1 _ rfl
                have P7 : Blk (w4.alloc (.cells #[.int .i64 f1, .int .i64 f2] 37)) w4.heap.size #[.int .i64 f1, .int .i64 f2] := Blk.new _ _ _ _ rfl
                have B5 : Below W1.heap.size W1 (w4.alloc (.cells #[.int .i64 f1, .int .i64 f2] 37)) := alloc_below B4 (Nat.le_refl _) _
                have B52 : Below W2.heap.size W2 (w4.alloc (.cells #[.int .i64 f1, .int .i64 f2] 37)) := alloc_below B42 (Nat.le_refl _) _
                replace P6 := P6.old (.cells #[.int .i64 f1, .int .i64 f2] 37)
                go_wp2_with fail
                refine (J2 _ _ (GB.out _ B5) (VB.out _ B5)).mono ?_
                rintro e w5 ⟨rfl, bb⟩
                replace P6 := P6.below bb
                replace P7 := P7.below bb
                have B6 := B5.trans (bb.mono B5.size)
                have B62 := B52.trans (bb.mono B52.size)
                clear bb J2 B5 B52 B4 B42 hl4 k0 k1 k2 k3 k4 k5 e0 e1 lt6
                obtain ⟨_, hl6, k0, k1, k2, k3, k4, k5⟩ := SK.out _ B6
                have lt6 := P6.lt
                have lt7 := P7.lt
                have e0 := P6.at 0 _ rfl
                have e1 := P6.at 1 _ rfl
                have q0 := P7.at 0 _ rfl
                have q1 := P7.at 1 _ rfl
                have EE := eql_end
                have NE := neq_end
                have B7 : Below W1.heap.size W1 (w5.alloc (.cells #[.int .i64 i, .int .i64 k] 37)).drew := (alloc_below B6 (Nat.le_refl _) _).drew
                have B72 : Below W2.heap.size W2 (w5.alloc (.cells #[.int .i64 i, .int .i64 k] 37)).drew := (alloc_below B62 (Nat.le_refl _) _).drew
                have GQ := GB.out _ B7
                have VQ := VB.out _ B7
                rcases hE2 with hns | ⟨hps, hsec⟩
                · have tsg : decide (0 ≤ sg) = false := decide_eq_false (by omega)
                  clear hns
                  go_wp2
                  have SS : ∀ W, Below W2.heap.size W2 W → Blk W wr.heap.size #[.int .i64 i, .int .i64 k] → Blk W w4.heap.size #[.int .i64 f1, .int .i64 f2] → (W.cell? ⟨w.heap.size, 0, none⟩ = some (.string nb) ∧ W.cell? ⟨w.heap.size, 1, none⟩ = some (.slice a1 s1 c1) ∧ W.cell? ⟨w.heap.size, 2, none⟩ = some (.slice (some ⟨b, off, none⟩) els.length c2) ∧ W.cell? ⟨w.heap.size, 3, none⟩ = some (.slice a3 s3 c3) ∧ W.cell? ⟨w.heap.size, 4, none⟩ = some (.slice a4 s4 c4) ∧ W.cell? ⟨w.heap.size, 5, none⟩ = some (.slice a5 s5 c5) ∧ W.cell? ⟨wr.heap.size, 0, none⟩ = some (.int .i64 i) ∧ W.cell? ⟨wr.heap.size, 1, none⟩ = some (.int .i64 k) ∧ W.cell? ⟨w4.heap.size, 0, none⟩ = some (.int .i64 f1) ∧ Below W2.heap.size W2 W) := by
                    intro W h hb hb7
                    obtain ⟨_, _, y0, y1, y2, y3, y4, y5⟩ := SK.out _ (BA.trans (h.mono BA.size))
                    exact ⟨y0, y1, y2, y3, y4, y5, hb.at 0 _ rfl, hb.at 1 _ rfl, hb7.at 0 _ rfl, h⟩
                  have P6' : Blk (w5.alloc (.cells #[.int .i64 i, .int .i64 k] 37)).drew wr.heap.size #[.int .i64 i, .int .i64 k] := P6.old (.cells #[.int .i64 i, .int .i64 k] 37)
                  have P7' : Blk (w5.alloc (.cells #[.int .i64 i, .int .i64 k] 37)).drew w4.heap.size #[.int .i64 f1, .int .i64 f2] := P7.old (.cells #[.int .i64 i, .int .i64 k] 37)
                  refine wp_region_noPanic ?_
                  refine wp_region_held_drew (S := fun W => W.cell? ⟨w.heap.size, 0, none⟩ = some (.string nb) ∧ W.cell? ⟨w.heap.size, 1, none⟩ = some (.slice a1 s1 c1) ∧ W.cell? ⟨w.heap.size, 2, none⟩ = some (.slice (some ⟨b, off, none⟩) els.length c2) ∧ W.cell? ⟨w.heap.size, 3, none⟩ = some (.slice a3 s3 c3) ∧ W.cell? ⟨w.heap.size, 4, none⟩ = some (.slice a4 s4 c4) ∧ W.cell? ⟨w.heap.size, 5, none⟩ = some (.slice a5 s5 c5) ∧ W.cell? ⟨wr.heap.size, 0, none⟩ = some (.int .i64 i) ∧ W.cell? ⟨wr.heap.size, 1, none⟩ = some (.int .i64 k) ∧ W.cell? ⟨w4.heap.size, 0, none⟩ = some (.int .i64 f1) ∧ Below W2.heap.size W2 W) (by kernel_rfl) (SS _ B72 P6' P7') (fun hH0 => ?_)
                  refine take_at (i := 0) (oi := _) (d := some 65) (v := .agg #[.string nb, .slice a1 s1 c1, .slice (some ⟨b, off, none⟩) els.length c2, .slice a3 s3 c3, .slice a4 s4 c4, .slice a5 s5 c5]) rfl rfl (by kernel_rfl) (by kernel_rfl) (by kernel_rfl) (fun _ _ _ h => h) (Or.inl ⟨rfl, ?_⟩) hH0 ?_
                  · intro w' hSw
                    obtain ⟨x0, x1, x2, x3, x4, x5, x6, x7, x8, x9⟩ := hSw
                    go_simp
                  try simp only [Act.put, List.setIfInBounds_toArray, List.set_cons_zero, List.set_cons_succ]
                  refine take_at (i := 1) (oi := _) (d := some 66) (v := .agg #[.int .i64 i, .int .i64 k]) rfl rfl (by kernel_rfl) (by kernel_rfl) (by kernel_rfl) (fun _ _ _ h => h) (Or.inl ⟨rfl, ?_⟩) hH0 ?_
                  · intro w' hSw
                    obtain ⟨x0, x1, x2, x3, x4, x5, x6, x7, x8, x9⟩ := hSw
                    go_simp
                  try simp only [Act.put, List.setIfInBounds_toArray, List.set_cons_zero, List.set_cons_succ]
                  refine wpAnyH_ready (rs := [2]) (by kernel_rfl) (by simp) ?_
                  refine AllReadyH.cons (o := _) rfl (fun K hK => ?_) AllReadyH.nil
                  go_simp
                  refine (Q1 _ _ GQ VQ).mono ?_
                  rintro e w6 ⟨rfl, b8⟩
                  refine hK.out _ _ (SS _ (B72.trans (b8.mono B72.size)) (P6'.below b8) (P7'.below b8)) (fun hH1 => ?_)
                  clear hK K
                  try simp only [Act.put, List.setIfInBounds_toArray, List.set_cons_zero, List.set_cons_succ]
                  refine take_at (i := 3) (oi := _) (d := some 68) (v := .bool (decide (0 ≤ sg))) rfl rfl (by kernel_rfl) (by kernel_rfl) (by kernel_rfl) (fun _ _ _ h => h) (Or.inl ⟨rfl, ?_⟩) hH1 ?_
                  · intro w' hSw
                    obtain ⟨x0, x1, x2, x3, x4, x5, x6, x7, x8, x9⟩ := hSw
                    go_simp
                  try simp only [Act.put, List.setIfInBounds_toArray, List.set_cons_zero, List.set_cons_succ]
                  refine take_at (i := 4) (oi := _) (d := some 69) (v := .bool (decide (0 ≤ sg))) rfl rfl (by kernel_rfl) (by kernel_rfl) (by kernel_rfl) (fun _ _ _ h => h) (Or.inl ⟨rfl, ?_⟩) hH1 ?_
                  · intro w' hSw
                    obtain ⟨x0, x1, x2, x3, x4, x5, x6, x7, x8, x9⟩ := hSw
                    go_simp
                  try simp only [Act.put, List.setIfInBounds_toArray, List.set_cons_zero, List.set_cons_succ]
                  rw [tsg]
                  refine take_at (i := 5) (oi := _) (d := some 70) (v := undef) rfl rfl (by kernel_rfl) (by kernel_rfl) (by kernel_rfl) (fun _ _ _ h => h) (Or.inr ⟨by kernel_rfl, rfl⟩) hH1 ?_
                  try simp only [Act.put, List.setIfInBounds_toArray, List.set_cons_zero, List.set_cons_succ]
                  refine take_at (i := 6) (oi := _) (d := some 71) (v := undef) rfl rfl (by kernel_rfl) (by kernel_rfl) (by kernel_rfl) (fun _ _ _ h => h) (Or.inr ⟨by kernel_rfl, rfl⟩) hH1 ?_
                  try simp only [Act.put, List.setIfInBounds_toArray, List.set_cons_zero, List.set_cons_succ]
                  refine take_at (i := 7) (oi := _) (d := some 72) (v := undef) rfl rfl (by kernel_rfl) (by kernel_rfl) (by kernel_rfl) (fun _ _ _ h => h) (Or.inr ⟨by kernel_rfl, rfl⟩) hH1 ?_
                  try simp only [Act.put, List.setIfInBounds_toArray, List.set_cons_zero, List.set_cons_succ]
                  refine take_at (i := 8) (oi := _) (d := some 73) (v := undef) rfl rfl (by kernel_rfl) (by kernel_rfl) (by kernel_rfl) (fun _ _ _ h => h) (Or.inr ⟨by kernel_rfl, rfl⟩) hH1 ?_
                  try simp only [Act.put, List.setIfInBounds_toArray, List.set_cons_zero, List.set_cons_succ]
                  refine take_at (i := 9) (oi := _) (d := some 74) (v := undef) rfl rfl (by kernel_rfl) (by kernel_rfl) (by kernel_rfl) (fun _ _ _ h => h) (Or.inr ⟨by kernel_rfl, rfl⟩) hH1 ?_
                  try simp only [Act.put, List.setIfInBounds_toArray, List.set_cons_zero, List.set_cons_succ]
                  refine take_at (i := 10) (oi := _) (d := some 75) (v := undef) rfl rfl (by kernel_rfl) (by kernel_rfl) (by kernel_rfl) (fun _ _ _ h => h) (Or.inr ⟨by kernel_rfl, rfl⟩) hH1 ?_
                  try simp only [Act.put, List.setIfInBounds_toArray, List.set_cons_zero, List.set_cons_succ]
                  refine take_at (i := 11) (oi := _) (d := some 76) (v := undef) rfl rfl (by kernel_rfl) (by kernel_rfl) (by kernel_rfl) (fun _ _ _ h => h) (Or.inr ⟨by kernel_rfl, rfl⟩) hH1 ?_
                  try simp only [Act.put, List.setIfInBounds_toArray, List.set_cons_zero, List.set_cons_succ]
                  refine take_at (i := 12) (oi := _) (d := some 77) (v := undef) rfl rfl (by kernel_rfl) (by kernel_rfl) (by kernel_rfl) (fun _ _ _ h => h) (Or.inr ⟨by kernel_rfl, rfl⟩) hH1 ?_
                  try simp only [Act.put, List.setIfInBounds_toArray, List.set_cons_zero, List.set_cons_succ]
                  refine take_at (i := 13) (oi := _) (d := some 78) (v := undef) rfl rfl (by kernel_rfl) (by kernel_rfl) (by kernel_rfl) (fun _ _ _ h => h) (Or.inr ⟨by kernel_rfl, rfl⟩) hH1 ?_
                  try simp only [Act.put, List.setIfInBounds_toArray, List.set_cons_zero, List.set_cons_succ]
                  refine take_at (i := 14) (oi := _) (d := some 79) (v := undef) rfl rfl (by kernel_rfl) (by kernel_rfl) (by kernel_rfl) (fun _ _ _ h => h) (Or.inr ⟨by kernel_rfl, rfl⟩) hH1 ?_
                  try simp only [Act.put, List.setIfInBounds_toArray, List.set_cons_zero, List.set_cons_succ]
                  refine take_at (i := 15) (oi := _) (d := some 80) (v := undef) rfl rfl (by kernel_rfl) (by kernel_rfl) (by kernel_rfl) (fun _ _ _ h => h) (Or.inr ⟨by kernel_rfl, rfl⟩) hH1 ?_
                  try simp only [Act.put, List.setIfInBounds_toArray, List.set_cons_zero, List.set_cons_succ]
                  refine take_at (i := 16) (oi := _) (d := some 81) (v := undef) rfl rfl (by kernel_rfl) (by kernel_rfl) (by kernel_rfl) (fun _ _ _ h => h) (Or.inr ⟨by kernel_rfl, rfl⟩) hH1 ?_
                  try simp only [Act.put, List.setIfInBounds_toArray, List.set_cons_zero, List.set_cons_succ]
                  refine take_at (i := 17) (oi := _) (d := some 82) (v := .bool false) rfl rfl (by kernel_rfl) (by kernel_rfl) (by kernel_rfl) (fun _ _ _ h => h) (Or.inl ⟨rfl, ?_⟩) hH1 ?_
                  · intro w' hSw
                    obtain ⟨x0, x1, x2, x3, x4, x5, x6, x7, x8, x9⟩ := hSw
                    go_simp
                  try simp only [Act.put, List.setIfInBounds_toArray, List.set_cons_zero, List.set_cons_succ]
                  refine wpAnyH_done (by kernel_rfl) ?_ _
                  refine NoPanic.normal ?_
                  have BZ := B72.trans (b8.mono B72.size)
                  clear hH0 hH1 SS P6' P7' B7 GQ VQ B72 b8 P6 P7 k0 k1 k2 k3 k4 k5 e0 e1 q0 q1 Q1 K6 EE NE B6 B62
                  go_wp2
                  go_roundg g2
                  case measure => omega
                  case rel => exact ⟨k + 1, by have := hk.out; omega, by go_num, BZ⟩
                · have tsg : decide (0 ≤ sg) = true := decide_eq_true (by omega)
                  clear hps
                  go_wp2
                  have SS : ∀ W, Below W2.heap.size W2 W → Blk W wr.heap.size #[.int .i64 i, .int .i64 k] → Blk W w4.heap.size #[.int .i64 f1, .int .i64 f2] → (W.cell? ⟨w.heap.size, 0, none⟩ = some (.string nb) ∧ W.cell? ⟨w.heap.size, 1, none⟩ = some (.slice a1 s1 c1) ∧ W.cell? ⟨w.heap.size, 2, none⟩ = some (.slice (some ⟨b, off, none⟩) els.length c2) ∧ W.cell? ⟨w.heap.size, 3, none⟩ = some (.slice a3 s3 c3) ∧ W.cell? ⟨w.heap.size, 4, none⟩ = some (.slice a4 s4 c4) ∧ W.cell? ⟨w.heap.size, 5, none⟩ = some (.slice a5 s5 c5) ∧ W.cell? ⟨wr.heap.size, 0, none⟩ = some (.int .i64 i) ∧ W.cell? ⟨wr.heap.size, 1, none⟩ = some (.int .i64 k) ∧ W.cell? ⟨w4.heap.size, 0, none⟩ = some (.int .i64 f1) ∧ Below W2.heap.size W2 W) := by
                    intro W h hb hb7
                    obtain ⟨_, _, y0, y1, y2, y3, y4, y5⟩ := SK.out _ (BA.trans (h.mono BA.size))
                    exact ⟨y0, y1, y2, y3, y4, y5, hb.at 0 _ rfl, hb.at 1 _ rfl, hb7.at 0 _ rfl, h⟩
                  have P6' : Blk (w5.alloc (.cells #[.int .i64 i, .int .i64 k] 37)).drew wr.heap.size #[.int .i64 i, .int .i64 k] := P6.old (.cells #[.int .i64 i, .int .i64 k] 37)
                  have P7' : Blk (w5.alloc (.cells #[.int .i64 i, .int .i64 k] 37)).drew w4.heap.size #[.int .i64 f1, .int .i64 f2] := P7.old (.cells #[.int .i64 i, .int .i64 k] 37)
                  refine wp_region_noPanic ?_
                  refine wp_region_held_drew (S := fun W => W.cell? ⟨w.heap.size, 0, none⟩ = some (.string nb) ∧ W.cell? ⟨w.heap.size, 1, none⟩ = some (.slice a1 s1 c1) ∧ W.cell? ⟨w.heap.size, 2, none⟩ = some (.slice (some ⟨b, off, none⟩) els.length c2) ∧ W.cell? ⟨w.heap.size, 3, none⟩ = some (.slice a3 s3 c3) ∧ W.cell? ⟨w.heap.size, 4, none⟩ = some (.slice a4 s4 c4) ∧ W.cell? ⟨w.heap.size, 5, none⟩ = some (.slice a5 s5 c5) ∧ W.cell? ⟨wr.heap.size, 0, none⟩ = some (.int .i64 i) ∧ W.cell? ⟨wr.heap.size, 1, none⟩ = some (.int .i64 k) ∧ W.cell? ⟨w4.heap.size, 0, none⟩ = some (.int .i64 f1) ∧ Below W2.heap.size W2 W) (by kernel_rfl) (SS _ B72 P6' P7') (fun hH0 => ?_)
                  refine take_at (i := 0) (oi := _) (d := some 65) (v := .agg #[.string nb, .slice a1 s1 c1, .slice (some ⟨b, off, none⟩) els.length c2, .slice a3 s3 c3, .slice a4 s4 c4, .slice a5 s5 c5]) rfl rfl (by kernel_rfl) (by kernel_rfl) (by kernel_rfl) (fun _ _ _ h => h) (Or.inl ⟨rfl, ?_⟩) hH0 ?_
                  · intro w' hSw
                    obtain ⟨x0, x1, x2, x3, x4, x5, x6, x7, x8, x9⟩ := hSw
                    go_simp
                  try simp only [Act.put, List.setIfInBounds_toArray, List.set_cons_zero, List.set_cons_succ]
                  refine take_at (i := 1) (oi := _) (d := some 66) (v := .agg #[.int .i64 i, .int .i64 k]) rfl rfl (by kernel_rfl) (by kernel_rfl) (by kernel_rfl) (fun _ _ _ h => h) (Or.inl ⟨rfl, ?_⟩) hH0 ?_
                  · intro w' hSw
                    obtain ⟨x0, x1, x2, x3, x4, x5, x6, x7, x8, x9⟩ := hSw
                    go_simp
                  try simp only [Act.put, List.setIfInBounds_toArray, List.set_cons_zero, List.set_cons_succ]
                  refine wpAnyH_ready (rs := [2]) (by kernel_rfl) (by simp) ?_
                  refine AllReadyH.cons (o := _) rfl (fun K hK => ?_) AllReadyH.nil
                  go_simp
                  refine (Q1 _ _ GQ VQ).mono ?_
                  rintro e w6 ⟨rfl, b8⟩
                  refine hK.out _ _ (SS _ (B72.trans (b8.mono B72.size)) (P6'.below b8) (P7'.below b8)) (fun hH1 => ?_)
                  clear hK K
                  try simp only [Act.put, List.setIfInBounds_toArray, List.set_cons_zero, List.set_cons_succ]
                  refine take_at (i := 3) (oi := _) (d := some 68) (v := .bool (decide (0 ≤ sg))) rfl rfl (by kernel_rfl) (by kernel_rfl) (by kernel_rfl) (fun _ _ _ h => h) (Or.inl ⟨rfl, ?_⟩) hH1 ?_
                  · intro w' hSw
                    obtain ⟨x0, x1, x2, x3, x4, x5, x6, x7, x8, x9⟩ := hSw
                    go_simp
                  try simp only [Act.put, List.setIfInBounds_toArray, List.set_cons_zero, List.set_cons_succ]
                  refine take_at (i := 4) (oi := _) (d := some 69) (v := .bool (decide (0 ≤ sg))) rfl rfl (by kernel_rfl) (by kernel_rfl) (by kernel_rfl) (fun _ _ _ h => h) (Or.inl ⟨rfl, ?_⟩) hH1 ?_
                  · intro w' hSw
                    obtain ⟨x0, x1, x2, x3, x4, x5, x6, x7, x8, x9⟩ := hSw
                    go_simp
                  try simp only [Act.put, List.setIfInBounds_toArray, List.set_cons_zero, List.set_cons_succ]
                  rw [tsg]
                  refine take_at (i := 5) (oi := _) (d := some 70) (v := .bool true) rfl rfl (by kernel_rfl) (by kernel_rfl) (by kernel_rfl) (fun _ _ _ h => h) (Or.inl ⟨rfl, ?_⟩) hH1 ?_
                  · intro w' hSw
                    obtain ⟨x0, x1, x2, x3, x4, x5, x6, x7, x8, x9⟩ := hSw
                    go_simp
                  try simp only [Act.put, List.setIfInBounds_toArray, List.set_cons_zero, List.set_cons_succ]
                  refine take_at (i := 6) (oi := _) (d := some 71) (v := .bool false) rfl rfl (by kernel_rfl) (by kernel_rfl) (by kernel_rfl) (fun _ _ _ h => h) (Or.inl ⟨rfl, ?_⟩) hH1 ?_
                  · intro w' hSw
                    obtain ⟨x0, x1, x2, x3, x4, x5, x6, x7, x8, x9⟩ := hSw
                    go_simp
                  try simp only [Act.put, List.setIfInBounds_toArray, List.set_cons_zero, List.set_cons_succ]
                  refine take_at (i := 7) (oi := _) (d := some 72) (v := .bool false) rfl rfl (by kernel_rfl) (by kernel_rfl) (by kernel_rfl) (fun _ _ _ h => h) (Or.inl ⟨rfl, ?_⟩) hH1 ?_
                  · intro w' hSw
                    obtain ⟨x0, x1, x2, x3, x4, x5, x6, x7, x8, x9⟩ := hSw
                    go_simp
                  try simp only [Act.put, List.setIfInBounds_toArray, List.set_cons_zero, List.set_cons_succ]
                  refine take_at (i := 8) (oi := _) (d := some 73) (v := .agg #[.string nb, .slice a1 s1 c1, .slice (some ⟨b, off, none⟩) els.length c2, .slice a3 s3 c3, .slice a4 s4 c4, .slice a5 s5 c5]) rfl rfl (by kernel_rfl) (by kernel_rfl) (by kernel_rfl) (fun _ _ _ h => h) (Or.inl ⟨rfl, ?_⟩) hH1 ?_
                  · intro w' hSw
                    obtain ⟨x0, x1, x2, x3, x4, x5, x6, x7, x8, x9⟩ := hSw
                    go_simp
                  try simp only [Act.put, List.setIfInBounds_toArray, List.set_cons_zero, List.set_cons_succ]
                  refine take_at (i := 9) (oi := _) (d := some 74) (v := .pointer (some ⟨w4.heap.size, 0, none⟩)) rfl rfl (by kernel_rfl) (by kernel_rfl) (by kernel_rfl) (fun _ _ _ h => h) (Or.inl ⟨rfl, ?_⟩) hH1 ?_
                  · intro w' hSw
                    obtain ⟨x0, x1, x2, x3, x4, x5, x6, x7, x8, x9⟩ := hSw
                    go_simp
                  try simp only [Act.put, List.setIfInBounds_toArray, List.set_cons_zero, List.set_cons_succ]
                  refine take_at (i := 10) (oi := _) (d := some 75) (v := .int .i64 f1) rfl rfl (by kernel_rfl) (by kernel_rfl) (by kernel_rfl) (fun _ _ _ h => h) (Or.inl ⟨rfl, ?_⟩) hH1 ?_
                  · intro w' hSw
                    obtain ⟨x0, x1, x2, x3, x4, x5, x6, x7, x8, x9⟩ := hSw
                    go_simp
                  try simp only [Act.put, List.setIfInBounds_toArray, List.set_cons_zero, List.set_cons_succ]
                  refine take_at (i := 12) (oi := _) (d := some 77) (v := .agg #[.string nb, .slice a1 s1 c1, .slice (some ⟨b, off, none⟩) els.length c2, .slice a3 s3 c3, .slice a4 s4 c4, .slice a5 s5 c5]) rfl rfl (by kernel_rfl) (by kernel_rfl) (by kernel_rfl) (fun _ _ _ h => h) (Or.inl ⟨rfl, ?_⟩) hH1 ?_
                  · intro w' hSw
                    obtain ⟨x0, x1, x2, x3, x4, x5, x6, x7, x8, x9⟩ := hSw
                    go_simp
                  try simp only [Act.put, List.setIfInBounds_toArray, List.set_cons_zero, List.set_cons_succ]
                  refine take_at (i := 13) (oi := _) (d := some 78) (v := .int .i64 i) rfl rfl (by kernel_rfl) (by kernel_rfl) (by kernel_rfl) (fun _ _ _ h => h) (Or.inl ⟨rfl, ?_⟩) hH1 ?_
                  · intro w' hSw
                    obtain ⟨x0, x1, x2, x3, x4, x5, x6, x7, x8, x9⟩ := hSw
                    go_simp
                  try simp only [Act.put, List.setIfInBounds_toArray, List.set_cons_zero, List.set_cons_succ]
                  have B8 := B72.trans (b8.mono B72.size)
                  have B81 := BA.trans (B8.mono BA.size)
                  refine wpAnyH_ready (rs := [11]) (by kernel_rfl) (by simp) ?_
                  refine AllReadyH.cons (o := _) rfl (fun K hK => ?_) AllReadyH.nil
                  go_simp
                  refine (K51 _ _ (GB.out _ B81) (VB.out _ B81)).mono ?_
                  rintro e w7 ⟨rfl, b9⟩
                  have B9 := B8.trans (b9.mono B8.size)
                  have B91 := BA.trans (B9.mono BA.size)
                  refine hK.out _ _ (SS _ B9 ((P6'.below b8).below b9) ((P7'.below b8).below b9)) (fun hH2 => ?_)
                  clear hK K
                  try simp only [Act.put, List.setIfInBounds_toArray, List.set_cons_zero, List.set_cons_succ]
                  refine wpAnyH_ready (rs := [14]) (by kernel_rfl) (by simp) ?_
                  refine AllReadyH.cons (o := _) rfl (fun K hK => ?_) AllReadyH.nil
                  go_simp
                  refine (K52 _ _ (GB.out _ B91) (VB.out _ B91)).mono ?_
                  rintro e w8 ⟨rfl, b10⟩
                  have B10 := B9.trans (b10.mono B9.size)
                  refine hK.out _ _ (SS _ B10 (((P6'.below b8).below b9).below b10) (((P7'.below b8).below b9).below b10)) (fun hH3 => ?_)
                  clear hK K
                  try simp only [Act.put, List.setIfInBounds_toArray, List.set_cons_zero, List.set_cons_succ]
                  refine take_at (i := 15) (oi := _) (d := some 80) (v := .bool false) rfl rfl (by kernel_rfl) (by kernel_rfl) (by kernel_rfl) (fun _ _ _ h => h) (Or.inl ⟨rfl, ?_⟩) hH3 ?_
                  · intro w' hSw
                    obtain ⟨x0, x1, x2, x3, x4, x5, x6, x7, x8, x9⟩ := hSw
                    go_simp
                  try simp only [Act.put, List.setIfInBounds_toArray, List.set_cons_zero, List.set_cons_succ]
                  refine take_at (i := 16) (oi := _) (d := some 81) (v := .bool false) rfl rfl (by kernel_rfl) (by kernel_rfl) (by kernel_rfl) (fun _ _ _ h => h) (Or.inl ⟨rfl, ?_⟩) hH3 ?_
                  · intro w' hSw
                    obtain ⟨x0, x1, x2, x3, x4, x5, x6, x7, x8, x9⟩ := hSw
                    go_simp
                  try simp only [Act.put, List.setIfInBounds_toArray, List.set_cons_zero, List.set_cons_succ]
                  refine take_at (i := 17) (oi := _) (d := some 82) (v := .bool false) rfl rfl (by kernel_rfl) (by kernel_rfl) (by kernel_rfl) (fun _ _ _ h => h) (Or.inl ⟨rfl, ?_⟩) hH3 ?_
                  · intro w' hSw
                    obtain ⟨x0, x1, x2, x3, x4, x5, x6, x7, x8, x9⟩ := hSw
                    go_simp
                  try simp only [Act.put, List.setIfInBounds_toArray, List.set_cons_zero, List.set_cons_succ]
                  refine wpAnyH_done (by kernel_rfl) ?_ _
                  refine NoPanic.normal ?_
                  clear hH0 hH1 hH2 hH3 SS P6' P7' B7 GQ VQ B72 b8 P6 P7 k0 k1 k2 k3 k4 k5 e0 e1 q0 q1 Q1 K51 K52 K6 EE NE B6 B62 B8 B81 B9 B91 b9 b10
                  go_wp2
                  go_roundg g2
                  case measure => omega
                  case rel => exact ⟨k + 1, by have := hk.out; omega, by go_num, B10⟩
    · obtain ⟨q, hq⟩ : ∃ q, checkS isName L = q := ⟨_, rfl⟩
      rw [hq] at hc K2
      have tq : (q == 0) = false := by simpa using hc
      clear hf hs F hc hq K3 K4 K5
      go_enter Tryd.func4, Tryd.ntmps4
      go_wp2_with fail
      rw [← hW]
      clear hW
      refine (K1 _ _ (VB.out _ B1)).mono ?_
      rintro e w2 ⟨rfl, bb⟩
      have B2 := B1.trans (bb.mono B1.size)
      clear bb k0 k1 k2 k3 k4 k5
      obtain ⟨_, hl2, k0, k1, k2, k3, k4, k5⟩ := SK.out _ B2
      go_wp2_with fail
      refine (K2 _ _ (GB.out _ B2) (VB.out _ B2)).mono ?_
      rintro e w3 ⟨rfl, bb⟩
      have B3 := B2.trans (bb.mono B2.size)
      go_wp2_with fail
      refine (alive_any _ (GB.out _ B3)).mono ?_
      rintro e w4 ⟨rfl, b4⟩
      go_wp2
      go_ret
      exact ⟨rfl, HB.trans ((B3.trans (b4.mono B3.size)).mono HB.size)⟩
end Go.Proofs.YthoodaldmfojaaaDoor
