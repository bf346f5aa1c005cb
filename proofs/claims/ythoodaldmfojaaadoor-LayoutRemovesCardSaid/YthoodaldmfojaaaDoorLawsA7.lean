/- The walk of LayoutChecks. Conditions: what the program reads (GW); the layout can be read; its names' lengths. -/
import Derived.Test.YthoodaldmfojaaaDoorAlive7
import Derived.Deep.RegionWith
namespace Go.Proofs.YthoodaldmfojaaaDoor
open Go.ChangeShapes Go.WideShapes Go.ChangeAt Go.RowKit
theorem few_of {L : LayD} (h : fewB L = true) (hs : ∀ s ∈ allNames L, s.length ≤ 9223372036854775807) : FewL L := by
  unfold fewB at h
  simp only [Bool.and_eq_true, decide_eq_true_eq] at h
  exact ⟨h.1, h.2.1, h.2.2.1, h.2.2.2.1, h.2.2.2.2, hs⟩
/-- The layout's value, its parts named. -/
theorem lay_open {w : World} {v : Value} {L : LayD} (h : RLay w v L) : ∃ (nb : ByteArray) (a1 a2 a3 a4 a5 : Option Addr) (s1 c1 s2 c2 s3 c3 s4 c4 s5 c5 : Nat), v = .agg #[.string nb, .slice a1 s1 c1, .slice a2 s2 c2, .slice a3 s3 c3, .slice a4 s4 c4, .slice a5 s5 c5] := by
  obtain ⟨v1, v2, v3, v4, v5, rfl, h1, h2, h3, h4, h5⟩ := h
  obtain ⟨a1, c1, rfl, _, _⟩ := h1.openS
  obtain ⟨a2, c2, rfl, _, _⟩ := h2.openM
  obtain ⟨a3, c3, rfl, _, _⟩ := h3.openM
  obtain ⟨a4, c4, rfl, _, _⟩ := h4.openM
  obtain ⟨a5, c5, rfl, _, _⟩ := h5.openM
  exact ⟨_, _, _, _, _, _, _, _, _, _, _, _, _, _, _, _, rfl⟩
set_option maxRecDepth 100000 in
set_option maxHeartbeats 8000000 in
theorem checks_all (v : Value) (L : LayD) (w : World) (hG : GW w) (hv : RLay w v L) (hs : ∀ s ∈ allNames L, s.length ≤ 9223372036854775807) : Calls Tryd.prog 3 #[v] w (RetB w true) := by
  obtain ⟨nb, a1, a2, a3, a4, a5, s1, c1, s2, c2, s3, c3, s4, c4, s5, c5, rfl⟩ := lay_open hv
  have HV := Lib.hid hv
  clear hv
  obtain ⟨W1, hW⟩ : ∃ W1, W1 = w.alloc (.cells #[.string nb, .slice a1 s1 c1, .slice a2 s2 c2, .slice a3 s3 c3, .slice a4 s4 c4, .slice a5 s5 c5] 28) := ⟨_, rfl⟩
  have HB : Below w.heap.size w W1 := by rw [hW]; exact (Below.refl _ _).alloc (Nat.le_refl _) _
  have G1 : Blk W1 w.heap.size #[.string nb, .slice a1 s1 c1, .slice a2 s2 c2, .slice a3 s3 c3, .slice a4 s4 c4, .slice a5 s5 c5] := by rw [hW]; exact Blk.new _ _ _ _ rfl
  have SK : ∀ W W', Below W1.heap.size W1 W → Below W.heap.size W W' → (W'.cell? ⟨w.heap.size, 0, none⟩ = some (.string nb) ∧ W'.cell? ⟨w.heap.size, 1, none⟩ = some (.slice a1 s1 c1) ∧ W'.cell? ⟨w.heap.size, 2, none⟩ = some (.slice a2 s2 c2) ∧
      W'.cell? ⟨w.heap.size, 3, none⟩ = some (.slice a3 s3 c3) ∧ W'.cell? ⟨w.heap.size, 4, none⟩ = some (.slice a4 s4 c4) ∧ W'.cell? ⟨w.heap.size, 5, none⟩ = some (.slice a5 s5 c5) ∧ Below W1.heap.size W1 W') := by
    intro W W' h h'
    have h2 := h.trans (h'.mono h.size)
    have b := G1.below h2
    exact ⟨b.at 0 _ rfl, b.at 1 _ rfl, b.at 2 _ rfl, b.at 3 _ rfl, b.at 4 _ rfl, b.at 5 _ rfl, h2⟩
  have SD := SK _ W1.drew (Below.refl _ W1) (Below.refl _ _).drew
  have GB : ∀ W, Below W1.heap.size W1 W → GW W := fun W h => hG.below (HB.trans (h.mono HB.size))
  have VB : ∀ W, Below W1.heap.size W1 W → RLay W (.agg #[.string nb, .slice a1 s1 c1, .slice a2 s2 c2, .slice a3 s3 c3, .slice a4 s4 c4, .slice a5 s5 c5]) L := fun W h => HV.out.below (HB.trans (h.mono HB.size))
  have FB : ∀ W, Below W1.heap.size W1 W → Below w.heap.size w W := fun W h => HB.trans (h.mono HB.size)
  clear hG HV G1
  have K1 := fun vv ww (hh : RLay ww vv L) => few_any vv L ww hh
  cases hf : fewB L
  · rw [hf] at K1
    clear hf hs
    go_enter Tryd.func3, Tryd.ntmps3
    go_wp2_with fail
    rw [← hW]
    clear hW
    obtain ⟨k0, k1, k2, k3, k4, k5, _⟩ := SK W1 W1 (Below.refl _ W1) (Below.refl _ _)
    have VD := VB _ (Below.refl W1.heap.size W1).drew
    have BD : Below W1.heap.size W1 W1.drew := (Below.refl W1.heap.size W1).drew
    go_region_with (first
        | (go_at_call 7; refine (K1 _ _ VD).mono ?_; rintro e w2 ⟨rfl, bb⟩)
        | (go_at_call 10; refine (alive_any _ (GB _ (BD.trans (bb.mono BD.size)))).mono ?_; rintro e w3 ⟨rfl, b3⟩))
    all_goals
      go_wp2
      go_ret
      exact ⟨rfl, FB _ ((BD.trans (bb.mono BD.size)).trans (b3.mono (BD.trans (bb.mono BD.size)).size))⟩
  · have F := few_of hf hs
    have K2 := fun vv ww (hg : GW ww) (hh : RLay ww vv L) => check_any vv L ww hg hh F
    have K3 := fun vv ww (hh : RLay ww vv L) => rcheck_any vv L ww hh F
    rw [hf] at K1
    obtain ⟨q, hq⟩ : ∃ q, checkS isName L = q := ⟨_, rfl⟩
    rw [hq] at K2 K3
    clear hf hs F hq
    go_enter Tryd.func3, Tryd.ntmps3
    go_wp2_with fail
    rw [← hW]
    clear hW
    go_region_held3 (fun w' => w'.cell? ⟨w.heap.size, 0, none⟩ = some (.string nb) ∧ w'.cell? ⟨w.heap.size, 1, none⟩ = some (.slice a1 s1 c1) ∧ w'.cell? ⟨w.heap.size, 2, none⟩ = some (.slice a2 s2 c2) ∧ w'.cell? ⟨w.heap.size, 3, none⟩ = some (.slice a3 s3 c3) ∧ w'.cell? ⟨w.heap.size, 4, none⟩ = some (.slice a4 s4 c4) ∧ w'.cell? ⟨w.heap.size, 5, none⟩ = some (.slice a5 s5 c5) ∧ Below W1.heap.size W1 w')
      (first | exact SD | (go_split_ands; refine SK _ _ ?_ bb; assumption) | assumption)
      (first
        | (go_at_call 7; refine (K1 _ _ ?_).mono ?_; (go_split_ands; refine VB _ ?_; assumption); rintro e w' ⟨rfl, bb⟩)
        | (go_at_call 8; refine (K2 _ _ ?_ ?_).mono ?_; (go_split_ands; refine GB _ ?_; assumption); (go_split_ands; refine VB _ ?_; assumption); rintro e w' ⟨rfl, bb⟩)
        | (go_at_call 9; refine (K3 _ _ ?_).mono ?_; (go_split_ands; refine VB _ ?_; assumption); rintro e w' ⟨rfl, bb⟩)
        | (go_at_call 10; refine (alive_any _ ?_).mono ?_; (go_split_ands; refine GB _ ?_; assumption); rintro e w' ⟨rfl, bb⟩))
    rename_i hH
    obtain ⟨_, _, _, _, _, _, hH⟩ := hH
    go_wp2
    go_ret
    exact ⟨rfl, FB _ hH⟩
end Go.Proofs.YthoodaldmfojaaaDoor
