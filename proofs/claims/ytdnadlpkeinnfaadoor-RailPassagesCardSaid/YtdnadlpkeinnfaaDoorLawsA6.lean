/- The walks of four statements of layer 6: each returns true and changes nothing that was there. Condition: what the program reads (GW). -/
import Derived.Test.YtdnadlpkeinnfaaDoorAlive6
namespace Go.Proofs.YtdnadlpkeinnfaaDoor
open Go.ChangeShapes Go.WideShapes Go.ChangeAt Go.RowKit
set_option maxRecDepth 100000 in
set_option maxHeartbeats 4000000 in
theorem sides_all (k i : Int) (w : World) (hG : GW w) : Calls Tryd.prog 3 #[.int .i64 k, .int .i64 i] w (RetB w true) := by
  have K1 := fun ww hh => sides_any k ww hh
  have K2 := fun ww => rsides_any k ww
  have K3 := fun ww hh => legs_any k i ww hh
  have K4 := fun ww => rlegs_any k i ww
  have K5 := fun ww => facing_any k i ww
  have K6 := fun ww => rfacing_any k i ww
  obtain ⟨s, hs⟩ : ∃ s, sidesS k = s := ⟨_, rfl⟩
  obtain ⟨l, hl⟩ : ∃ l, legsF k i tab = l := ⟨_, rfl⟩
  obtain ⟨f, hf⟩ : ∃ f, facing k i = f := ⟨_, rfl⟩
  simp only [hs] at K1 K2
  simp only [hl] at K3 K4
  simp only [hf] at K5 K6
  clear hs hl hf
  have HB := Below.refl w.heap.size w
  go_enter Tryd.func3, Tryd.ntmps3
  go_wp2_with fail
  refine (K1 _ hG).mono ?_
  rintro e w1 ⟨rfl, rfl⟩
  go_wp2_with fail
  refine (K2 _).mono ?_
  rintro e w1 ⟨rfl, rfl⟩
  go_wp2_with fail
  refine (K3 _ hG).mono ?_
  rintro e w3 ⟨v3, rfl, R3, bb⟩
  replace HB := HB.trans (bb.mono HB.size)
  replace R3 := Lib.hid R3
  clear bb
  go_wp2_with fail
  refine (K4 _).mono ?_
  rintro e w4 ⟨v4, rfl, R4, bb⟩
  replace HB := HB.trans (bb.mono HB.size)
  replace R3 := Lib.hid (R3.out.below bb)
  replace R4 := Lib.hid R4
  clear bb
  go_wp2_with fail
  refine (same_any _ _ l _ R3.out R4.out).mono ?_
  rintro e w5 ⟨rfl, bb⟩
  replace HB := HB.trans (bb.mono HB.size)
  clear bb R3 R4
  go_wp2_with fail
  refine (K5 _).mono ?_
  rintro e w6 ⟨rfl, rfl⟩
  go_wp2_with fail
  refine (K6 _).mono ?_
  rintro e w6 ⟨rfl, rfl⟩
  go_wp2_with fail
  refine (alive_any _ (hG.below HB)).mono ?_
  rintro e w7 ⟨rfl, bb⟩
  replace HB := HB.trans (bb.mono HB.size)
  clear bb
  go_wp2
  go_ret
  exact ⟨rfl, HB⟩
set_option maxRecDepth 100000 in
set_option maxHeartbeats 4000000 in
theorem passages_all (k i p : Int) (w : World) (hG : GW w) : Calls Tryd.prog 4 #[.int .i64 k, .int .i64 i, .int .i64 p] w (RetB w true) := by
  have K1 := fun ww hh => out_any k i p ww hh
  have K2 := fun ww => rout_any k i p ww
  have K3 := fun ww hh => need_any k i p ww hh
  have K4 := fun ww => rneed_any k i p ww
  obtain ⟨⟨a, x⟩, h1⟩ : ∃ q, outF k i p tab = q := ⟨_, rfl⟩
  obtain ⟨⟨c, z⟩, h2⟩ : ∃ q, needF k i p tab = q := ⟨_, rfl⟩
  simp only [h1] at K1 K2
  simp only [h2] at K3 K4
  unfold RetP outV at K1 K3
  unfold outV at K2 K4
  clear h1 h2
  have HB := Below.refl w.heap.size w
  go_enter Tryd.func4, Tryd.ntmps4
  go_wp2_with fail
  refine (K1 _ hG).mono ?_
  rintro e w1 ⟨rfl, bb⟩
  replace HB := HB.trans (bb.mono HB.size)
  clear bb
  go_wp2_with fail
  refine (K2 _).mono ?_
  rintro e w2 ⟨rfl, rfl⟩
  go_wp2_with fail
  refine (K3 _ (hG.below HB)).mono ?_
  rintro e w3 ⟨rfl, bb⟩
  replace HB := HB.trans (bb.mono HB.size)
  clear bb
  go_wp2_with fail
  refine (K4 _).mono ?_
  rintro e w4 ⟨rfl, rfl⟩
  go_wp2_with fail
  refine (alive_any _ (hG.below HB)).mono ?_
  rintro e w7 ⟨rfl, bb⟩
  replace HB := HB.trans (bb.mono HB.size)
  clear bb
  go_wp2
  go_ret
  exact ⟨rfl, HB⟩
set_option maxRecDepth 100000 in
set_option maxHeartbeats 4000000 in
theorem symmetric_all (k i o p : Int) (w : World) (hG : GW w) : Calls Tryd.prog 5 #[.int .i64 k, .int .i64 i, .int .i64 o, .int .i64 p] w (RetB w true) := by
  have K1 := fun ww hh => need_any k i o ww hh
  have K2 := fun ww hh => need_any k o i ww hh
  simp only [← need_sym k i o] at K2
  have K3 := fun ww hh => out_any k i p ww hh
  obtain ⟨⟨a, x⟩, h1⟩ : ∃ q, needF k i o tab = q := ⟨_, rfl⟩
  obtain ⟨⟨to, z⟩, h2⟩ : ∃ q, outF k i p tab = q := ⟨_, rfl⟩
  have K4 := fun ww hh => out_any k to p ww hh
  have HK : z = true → outF k to p tab = (i, true) := by
    intro hz
    have := (out_back k i p (by rw [h2]; exact hz)).1
    rwa [h2] at this
  obtain ⟨⟨back, v⟩, h3⟩ : ∃ q, outF k to p tab = q := ⟨_, rfl⟩
  rw [h3] at HK
  simp only [h1] at K1 K2
  simp only [h2] at K3
  simp only [h3] at K4
  unfold RetP outV at K1 K2 K3 K4
  clear h1 h2 h3
  have HB := Below.refl w.heap.size w
  have HZ : z = false ∨ (z = true ∧ back = i ∧ v = true) := by
    cases z
    · exact Or.inl rfl
    · have := HK rfl
      simp only [Prod.mk.injEq] at this
      exact Or.inr ⟨rfl, this⟩
  clear HK
  rcases HZ with rfl | ⟨rfl, rfl, rfl⟩
  all_goals
    go_enter Tryd.func5, Tryd.ntmps5
    go_wp2_with fail
    refine (K1 _ hG).mono ?_
    rintro e w1 ⟨rfl, bb⟩
    replace HB := HB.trans (bb.mono HB.size)
    clear bb
    go_wp2_with fail
    refine (K2 _ (hG.below HB)).mono ?_
    rintro e w2 ⟨rfl, bb⟩
    replace HB := HB.trans (bb.mono HB.size)
    clear bb
    go_wp2_with fail
    refine (K3 _ (hG.below HB)).mono ?_
    rintro e w3 ⟨rfl, bb⟩
    replace HB := HB.trans (bb.mono HB.size)
    clear bb
    go_wp2_with fail
    refine (K4 _ (hG.below HB)).mono ?_
    rintro e w4 ⟨rfl, bb⟩
    replace HB := HB.trans (bb.mono HB.size)
    clear bb
    go_wp2_with fail
    refine (alive_any _ (hG.below HB)).mono ?_
    rintro e w7 ⟨rfl, bb⟩
    replace HB := HB.trans (bb.mono HB.size)
    clear bb
    go_wp2
    go_ret
    exact ⟨rfl, HB⟩
set_option maxRecDepth 100000 in
set_option maxHeartbeats 8000000 in
theorem positions_all (k i o p : Int) (w : World) (hG : GW w) : Calls Tryd.prog 6 #[.int .i64 k, .int .i64 i, .int .i64 o, .int .i64 p] w (RetB w true) := by
  have K1 := fun ww hh => out_any k i p ww hh
  have K2 := fun ww hh => need_any k i o ww hh
  have K3 := fun ww hh => sides_any k ww hh
  have K4 := fun ww hh => out_any k o p ww hh
  have H1 := out_back k i p
  have H2 := out_need k i o p
  have H3 := out_inj k i o p
  obtain ⟨⟨to, z⟩, h1⟩ : ∃ q, outF k i p tab = q := ⟨_, rfl⟩
  obtain ⟨⟨nd, x⟩, h2⟩ : ∃ q, needF k i o tab = q := ⟨_, rfl⟩
  obtain ⟨⟨ot, v⟩, h3⟩ : ∃ q, outF k o p tab = q := ⟨_, rfl⟩
  obtain ⟨s, hs⟩ : ∃ s, sidesS k = s := ⟨_, rfl⟩
  simp only [h1] at K1 H1 H2 H3
  simp only [h2] at K2 H2
  simp only [h3] at K4 H3
  simp only [hs] at K3 H1
  unfold RetP outV at K1 K2 K4
  clear h1 h2 h3 hs
  have HB := Below.refl w.heap.size w
  have go : ∀ (b1 b2 b3 b4 b5 : Bool), (to == o) = b1 → (nd == 0) = b2 → (nd == p) = b3 → (i == o) = b4 → (to == ot) = b5 →
      ((z && b1) = (x && (b2 || b3))) → (z = true → (to == i) = false ∧ 0 ≤ to ∧ to < s) → (z = true → v = true → b4 = false → b5 = false) →
      Calls Tryd.prog 6 #[.int .i64 k, .int .i64 i, .int .i64 o, .int .i64 p] w (RetB w true) := by
    intro b1 b2 b3 b4 b5 e1 e2 e3 e4 e5 c1 c2 c3
    clear H1 H2 H3
    have c2' : z = true → (to == i) = false ∧ ¬ (to < 0) ∧ ¬ (s ≤ to) := fun h => ⟨(c2 h).1, by have := (c2 h).2.1; omega, by have := (c2 h).2.2; omega⟩
    clear c2
    cases z
    · have c1' : x = false ∨ (x = true ∧ b2 = false ∧ b3 = false) := by revert c1; cases x <;> cases b2 <;> cases b3 <;> simp
      clear c1 c2' c3
      rcases c1' with rfl | ⟨rfl, rfl, rfl⟩
      all_goals
        go_enter Tryd.func6, Tryd.ntmps6
        go_wp2_with fail
        refine (K1 _ hG).mono ?_
        rintro e w1 ⟨rfl, bb⟩
        replace HB := HB.trans (bb.mono HB.size)
        clear bb
        go_wp2_with fail
        refine (K2 _ (hG.below HB)).mono ?_
        rintro e w2 ⟨rfl, bb⟩
        replace HB := HB.trans (bb.mono HB.size)
        clear bb
        go_wp2_with fail
        refine (K4 _ (hG.below HB)).mono ?_
        rintro e w4 ⟨rfl, bb⟩
        replace HB := HB.trans (bb.mono HB.size)
        clear bb
        go_wp2_with fail
        refine (alive_any _ (hG.below HB)).mono ?_
        rintro e w7 ⟨rfl, bb⟩
        replace HB := HB.trans (bb.mono HB.size)
        clear bb
        go_wp2
        go_ret
        exact ⟨rfl, HB⟩
    · obtain ⟨d1, d2, d3⟩ := c2' rfl
      have c1' : (b1 = true ∧ x = true ∧ b2 = true) ∨ (b1 = true ∧ x = true ∧ b2 = false ∧ b3 = true) ∨ (b1 = false ∧ x = false) ∨ (b1 = false ∧ x = true ∧ b2 = false ∧ b3 = false) := by
        revert c1; cases b1 <;> cases x <;> cases b2 <;> cases b3 <;> simp
      have c3' : v = false ∨ (v = true ∧ b4 = true) ∨ (v = true ∧ b4 = false ∧ b5 = false) := by
        have := c3 rfl
        revert this; cases v <;> cases b4 <;> cases b5 <;> simp
      clear c1 c2' c3
      have f5 : (to != ot) = !(to == ot) := rfl
      rw [e5] at f5
      rcases c1' with ⟨rfl, rfl, rfl⟩ | ⟨rfl, rfl, rfl, rfl⟩ | ⟨rfl, rfl⟩ | ⟨rfl, rfl, rfl, rfl⟩ <;> rcases c3' with rfl | ⟨rfl, rfl⟩ | ⟨rfl, rfl, rfl⟩
      all_goals
        go_enter Tryd.func6, Tryd.ntmps6
        go_wp2_with fail
        refine (K1 _ hG).mono ?_
        rintro e w1 ⟨rfl, bb⟩
        replace HB := HB.trans (bb.mono HB.size)
        clear bb
        go_wp2_with fail
        refine (K2 _ (hG.below HB)).mono ?_
        rintro e w2 ⟨rfl, bb⟩
        replace HB := HB.trans (bb.mono HB.size)
        clear bb
        go_wp2_with fail
        refine (K3 _ (hG.below HB)).mono ?_
        rintro e w3 ⟨rfl, rfl⟩
        go_wp2_with fail
        refine (K4 _ (hG.below HB)).mono ?_
        rintro e w4 ⟨rfl, bb⟩
        replace HB := HB.trans (bb.mono HB.size)
        clear bb
        go_wp2_with fail
        refine (alive_any _ (hG.below HB)).mono ?_
        rintro e w7 ⟨rfl, bb⟩
        replace HB := HB.trans (bb.mono HB.size)
        clear bb
        go_wp2
        go_ret
        exact ⟨rfl, HB⟩
  refine go _ _ _ _ _ rfl rfl rfl rfl rfl ?_ ?_ ?_
  · rw [Bool.eq_iff_iff]
    simpa using H2
  · intro hz
    obtain ⟨_, g1, g2, g3⟩ := H1 hz
    exact ⟨by simpa using g1, g2, g3⟩
  · intro hz hv hb
    have g := H3 hz hv
    simp at hb
    cases h : (to == ot)
    · rfl
    · exact absurd (g (by simpa using h)) hb
end Go.Proofs.YtdnadlpkeinnfaaDoor
