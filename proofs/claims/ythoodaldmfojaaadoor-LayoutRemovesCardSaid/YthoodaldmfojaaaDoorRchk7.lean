/- Contract of the reference's Check. Conditions: the layout can be read; few parts; its names' lengths. -/
import Derived.Test.YthoodaldmfojaaaDoorRbal7
namespace Go.Proofs.YthoodaldmfojaaaDoor
open Go.ChangeShapes Go.WideShapes Go.ChangeAt Go.RowKit
theorem named_any (v : Value) (L : LayD) (w : World) (hv : RLay w v L) (hs : ∀ s ∈ allNames L, s.length ≤ 9223372036854775807) : Calls Tryd.prog 30 #[v] w (RetV w (.int .i64 (namedS L))) := by
  cases hl : limB L
  · have e : namedS L = 2 := by unfold namedS; rw [if_pos hl]
    rw [e]
    exact named_bad v L w hv hl
  · exact named_ok v L w hv hl hs
theorem check_split (L : LayD) : checkS isName L = if namedS L = 0 then (if elementsS L = 0 then (if signalsS L = 0 then balisesS L else signalsS L) else elementsS L) else namedS L := by
  unfold checkS namedS elementsS signalsS balisesS
  cases h1 : limB L <;> simp only [if_true, if_false, Bool.true_eq_false]
  · rfl
  cases h2 : namB isName L <;> simp only [if_true, if_false, Bool.true_eq_false]
  · rfl
  cases h3 : dupB L <;> simp only [if_true, if_false, Bool.true_eq_false]
  · rfl
  cases h4 : elB L <;> simp only [if_true, if_false, Bool.true_eq_false]
  · rfl
  cases h5 : secB L <;> simp only [if_true, if_false, Bool.true_eq_false]
  · rfl
  cases h6 : jnB L <;> simp only [if_true, if_false, Bool.true_eq_false]
  · rfl
  cases h7 : jdB L <;> simp only [if_true, if_false, Bool.true_eq_false]
  · rfl
  cases h8 : sgB L <;> simp only [if_true, if_false, Bool.true_eq_false]
  · rfl
  cases h9 : sdB L <;> simp only [if_true, if_false, Bool.true_eq_false]
  · rfl
  cases h10 : suB L <;> simp only [if_true, if_false, Bool.true_eq_false]
  · rfl
theorem elements_jn {L : LayD} (h : elementsS L = 0) : jnB L = true := by
  unfold elementsS at h
  cases h4 : elB L <;> simp [h4] at h
  cases h5 : secB L <;> simp [h5] at h
  cases h6 : jnB L <;> simp [h6] at h
  rfl
structure FewL (L : LayD) : Prop where
  n1 : L.secs.length ≤ 60
  n2 : L.els.length ≤ 60
  n3 : L.joints.length ≤ 100
  n4 : L.sigs.length ≤ 60
  n5 : L.bals.length ≤ 60
  hs : ∀ s ∈ allNames L, s.length ≤ 9223372036854775807
set_option maxRecDepth 100000 in
set_option maxHeartbeats 8000000 in
theorem rcheck_any (v : Value) (L : LayD) (w : World) (hv : RLay w v L) (F : FewL L) : Calls Tryd.prog 9 #[v] w (RetV w (.int .i64 (checkS isName L))) := by
  rw [check_split]
  have HV := Lib.hid hv
  obtain ⟨v1, v2, v3, v4, v5, rfl, h1, h2, h3, h4, h5⟩ := hv
  obtain ⟨a1, c1, rfl, _, _⟩ := h1.openS
  obtain ⟨a2, c2, rfl, _, _⟩ := h2.openM
  obtain ⟨a3, c3, rfl, _, _⟩ := h3.openM
  obtain ⟨a4, c4, rfl, _, _⟩ := h4.openM
  obtain ⟨a5, c5, rfl, _, _⟩ := h5.openM
  clear h1 h2 h3 h4 h5
  obtain ⟨nb, en⟩ : ∃ s : ByteArray, (⟨L.name.toArray⟩ : ByteArray) = s := ⟨_, rfl⟩
  have en2 : str L.name = .string nb := by rw [← en]
  rw [en2] at HV ⊢
  clear en en2
  have K1 := fun v ww hh => named_any v L ww hh F.hs
  have K2 := fun v ww hh => relements_any v L ww hh F.n1 F.n2 F.n3
  have K3 := fun v ww hh hj => rsignals_any v L ww hh F.n2 F.n4 hj
  have K4 := fun v ww hh => rbalises_any v L ww hh F.n2 F.n5
  have HJ := @elements_jn L
  obtain ⟨s1, e1⟩ : ∃ n, L.secs.length = n := ⟨_, rfl⟩
  obtain ⟨s2, e2⟩ : ∃ n, L.els.length = n := ⟨_, rfl⟩
  obtain ⟨s3, e3⟩ : ∃ n, L.joints.length = n := ⟨_, rfl⟩
  obtain ⟨s4, e4⟩ : ∃ n, L.sigs.length = n := ⟨_, rfl⟩
  obtain ⟨s5, e5⟩ : ∃ n, L.bals.length = n := ⟨_, rfl⟩
  rw [e1, e2, e3, e4, e5] at HV ⊢
  clear e1 e2 e3 e4 e5
  obtain ⟨r1, g1⟩ : ∃ r, namedS L = r := ⟨_, rfl⟩
  obtain ⟨r2, g2⟩ : ∃ r, elementsS L = r := ⟨_, rfl⟩
  obtain ⟨r3, g3⟩ : ∃ r, signalsS L = r := ⟨_, rfl⟩
  obtain ⟨r4, g4⟩ : ∃ r, balisesS L = r := ⟨_, rfl⟩
  rw [g1, g2, g3, g4]
  simp only [g1] at K1
  simp only [g2] at K2 HJ
  simp only [g3] at K3
  simp only [g4] at K4
  clear g1 g2 g3 g4 F
  obtain ⟨LV, hLV⟩ : ∃ LV : Array Value, LV = #[.string nb, .slice a1 s1 c1, .slice a2 s2 c2, .slice a3 s3 c3, .slice a4 s4 c4, .slice a5 s5 c5] := ⟨_, rfl⟩
  obtain ⟨W1, hW⟩ : ∃ W1, W1 = w.alloc (.cells LV 28) := ⟨_, rfl⟩
  have HB : Below w.heap.size w W1 := by rw [hW]; exact (Below.refl _ _).alloc (Nat.le_refl _) _
  have G1 : Blk W1 w.heap.size LV := by rw [hW]; exact Blk.new _ _ _ _ rfl
  rw [hLV] at G1
  have SK : ∀ W, Below W1.heap.size W1 W → W.cell? ⟨w.heap.size, 0, none⟩ = some (.string nb) ∧ W.cell? ⟨w.heap.size, 1, none⟩ = some (.slice a1 s1 c1) ∧ W.cell? ⟨w.heap.size, 2, none⟩ = some (.slice a2 s2 c2) ∧
      W.cell? ⟨w.heap.size, 3, none⟩ = some (.slice a3 s3 c3) ∧ W.cell? ⟨w.heap.size, 4, none⟩ = some (.slice a4 s4 c4) ∧ W.cell? ⟨w.heap.size, 5, none⟩ = some (.slice a5 s5 c5) := by
    intro W h
    have b := G1.below h
    exact ⟨b.at 0 _ rfl, b.at 1 _ rfl, b.at 2 _ rfl, b.at 3 _ rfl, b.at 4 _ rfl, b.at 5 _ rfl⟩
  have HV2 : ∀ W, Below W1.heap.size W1 W → RLay W (.agg #[.string nb, .slice a1 s1 c1, .slice a2 s2 c2, .slice a3 s3 c3, .slice a4 s4 c4, .slice a5 s5 c5]) L := fun W h => HV.out.below (HB.trans (h.mono HB.size))
  replace HV2 := Lib.hid HV2
  replace SK := Lib.hid SK
  clear HV G1
  have B0 := Below.refl W1.heap.size W1
  by_cases t1 : r1 = 0
  · subst t1
    rw [if_pos rfl]
    by_cases t2 : r2 = 0
    · subst t2
      rw [if_pos rfl]
      have hj := HJ rfl
      by_cases t3 : r3 = 0
      · subst t3
        rw [if_pos rfl]
        go_enter Tryd.func9, Tryd.ntmps9
        go_wp2_with fail
        rw [← hLV, ← hW]
        rw [hLV]
        refine (K1 _ _ (HV2.out _ B0)).mono ?_
        rintro e w2 ⟨rfl, bb⟩
        replace B0 := B0.trans (bb.mono B0.size)
        obtain ⟨k0, k1, k2, k3, k4, k5⟩ := SK.out _ B0
        go_wp2_with fail
        refine (K2 _ _ (HV2.out _ B0)).mono ?_
        rintro e w3 ⟨rfl, bb⟩
        clear k0 k1 k2 k3 k4 k5
        replace B0 := B0.trans (bb.mono B0.size)
        obtain ⟨k0, k1, k2, k3, k4, k5⟩ := SK.out _ B0
        go_wp2_with fail
        refine (K3 _ _ (HV2.out _ B0) hj).mono ?_
        rintro e w4 ⟨rfl, bb⟩
        clear k0 k1 k2 k3 k4 k5
        replace B0 := B0.trans (bb.mono B0.size)
        obtain ⟨k0, k1, k2, k3, k4, k5⟩ := SK.out _ B0
        go_wp2_with fail
        refine (K4 _ _ (HV2.out _ B0)).mono ?_
        rintro e w5 ⟨rfl, bb⟩
        replace B0 := B0.trans (bb.mono B0.size)
        go_wp2
        go_ret
        exact ⟨rfl, HB.trans (B0.mono HB.size)⟩
      · rw [if_neg t3]
        have t : (r3 == 0) = false := by simpa using t3
        clear t3
        go_enter Tryd.func9, Tryd.ntmps9
        go_wp2_with fail
        rw [← hLV, ← hW]
        rw [hLV]
        refine (K1 _ _ (HV2.out _ B0)).mono ?_
        rintro e w2 ⟨rfl, bb⟩
        replace B0 := B0.trans (bb.mono B0.size)
        obtain ⟨k0, k1, k2, k3, k4, k5⟩ := SK.out _ B0
        go_wp2_with fail
        refine (K2 _ _ (HV2.out _ B0)).mono ?_
        rintro e w3 ⟨rfl, bb⟩
        clear k0 k1 k2 k3 k4 k5
        replace B0 := B0.trans (bb.mono B0.size)
        obtain ⟨k0, k1, k2, k3, k4, k5⟩ := SK.out _ B0
        go_wp2_with fail
        refine (K3 _ _ (HV2.out _ B0) hj).mono ?_
        rintro e w4 ⟨rfl, bb⟩
        clear k0 k1 k2 k3 k4 k5
        replace B0 := B0.trans (bb.mono B0.size)
        go_wp2
        go_ret
        exact ⟨rfl, HB.trans (B0.mono HB.size)⟩
    · rw [if_neg t2]
      have t : (r2 == 0) = false := by simpa using t2
      clear t2
      go_enter Tryd.func9, Tryd.ntmps9
      go_wp2_with fail
      rw [← hLV, ← hW]
      rw [hLV]
      refine (K1 _ _ (HV2.out _ B0)).mono ?_
      rintro e w2 ⟨rfl, bb⟩
      replace B0 := B0.trans (bb.mono B0.size)
      obtain ⟨k0, k1, k2, k3, k4, k5⟩ := SK.out _ B0
      go_wp2_with fail
      refine (K2 _ _ (HV2.out _ B0)).mono ?_
      rintro e w3 ⟨rfl, bb⟩
      clear k0 k1 k2 k3 k4 k5
      replace B0 := B0.trans (bb.mono B0.size)
      go_wp2
      go_ret
      exact ⟨rfl, HB.trans (B0.mono HB.size)⟩
  · rw [if_neg t1]
    have t : (r1 == 0) = false := by simpa using t1
    clear t1
    go_enter Tryd.func9, Tryd.ntmps9
    go_wp2_with fail
    rw [← hLV, ← hW]
    rw [hLV]
    refine (K1 _ _ (HV2.out _ B0)).mono ?_
    rintro e w2 ⟨rfl, bb⟩
    replace B0 := B0.trans (bb.mono B0.size)
    go_wp2
    go_ret
    exact ⟨rfl, HB.trans (B0.mono HB.size)⟩
end Go.Proofs.YthoodaldmfojaaaDoor
