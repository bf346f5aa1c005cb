/- Contract of signalsDivideSections. Conditions: the layout can be read; it has few parts. -/
import Derived.Test.YthoodaldmfojaaaDoorDiv7
namespace Go.Proofs.YthoodaldmfojaaaDoor
open Go.ChangeShapes Go.WideShapes Go.ChangeAt Go.RowKit
set_option maxRecDepth 100000 in
set_option maxHeartbeats 4000000 in
theorem divide_any (v : Value) (L : LayD) (w : World) (hv : RLay w v L) (n3 : L.joints.length ≤ 100000) : Calls Tryd.prog 27 #[v] w (RetB w (L.sigs.all fun x => unsP L x.at_)) := by
  have HV := Lib.hid hv
  obtain ⟨v1, v2, v3, v4, v5, rfl, r1, r2, r3, r4, r5⟩ := hv
  obtain ⟨a1, c1, rfl, ⟨m1, _⟩, _⟩ := r1.openS
  obtain ⟨a2, c2, rfl, ⟨m2, _⟩, _⟩ := r2.openM
  obtain ⟨a3, c3, rfl, ⟨m3, _⟩, _⟩ := r3.openM
  obtain ⟨a4, c4, rfl, ⟨m4, _⟩, _⟩ := r4.openM
  obtain ⟨a5, c5, rfl, ⟨m5, _⟩, _⟩ := r5.openM
  have KE := fun W (h : Below w.heap.size w W) => ends_any _ L W (HV.out.below h) n3
  have hlk := fun e => mapJ_look e L.joints
  have hnd := (mapJ_keys L.joints.reverse).1
  obtain ⟨M, hM⟩ : ∃ M, mapJ L.joints.reverse = M := ⟨_, rfl⟩
  rw [hM] at KE hnd
  simp only [hM] at hlk
  obtain ⟨LV, hLV⟩ : ∃ LV : Array Value, LV = #[str L.name, .slice a1 L.secs.length c1, .slice a2 L.els.length c2, .slice a3 L.joints.length c3, .slice a4 L.sigs.length c4, .slice a5 L.bals.length c5] := ⟨_, rfl⟩
  obtain ⟨W1, hW⟩ : ∃ W1, W1 = w.alloc (.cells LV 28) := ⟨_, rfl⟩
  have HB : Below w.heap.size w W1 := by rw [hW]; exact b1w _ _
  have G1 : Blk W1 w.heap.size LV := by rw [hW]; exact Blk.new _ _ _ _ rfl
  rw [hLV] at G1
  have KA : ∀ w2 b, Below W1.heap.size W1 w2 → OwnM endV endV w2 b M → Calls Tryd.prog 49 #[.slice a4 L.sigs.length c4, .func (.func 66) #[] #[.pointer (some ⟨w2.heap.size, 0, none⟩), .pointer (some ⟨w.heap.size, 0, none⟩)]] (w2.alloc (.cells #[.map (some b)] 52)) (RetB (w2.alloc (.cells #[.map (some b)] 52)) (L.sigs.all fun x => unsP L x.at_)) := by
    intro w2 b h2 hO
    have h3 : Below W1.heap.size W1 (w2.alloc (.cells #[.map (some b)] 52)) := h2.alloc h2.size _
    have hw3 := HB.trans (h3.mono HB.size)
    refine all_G _ L.sigs _ 66 #[.pointer (some ⟨w2.heap.size, 0, none⟩), .pointer (some ⟨w.heap.size, 0, none⟩)] (fun x => unsP L x.at_) (enters_of Tryd.func66 (by kernel_rfl) rfl) (r4.below hw3) (fun x hx ww hb => ?_)
    have hm : ww.cell? ⟨w2.heap.size, 0, none⟩ = some (.map (some b)) := (hb.cell (p := ⟨w2.heap.size, 0, none⟩) (by simp)).trans (by rw [World.cell?_alloc_new]; rfl)
    exact div1_any x ww w2.heap.size w.heap.size b _ L M hm ((hO.below (b1w _ _)).below hb) hnd hlk (G1.below (h3.trans (hb.mono h3.size))) (HV.out.below (hw3.trans (hb.mono hw3.size)))
  have SK : ∀ W, Below W1.heap.size W1 W → Below w.heap.size w W ∧ W.cell? ⟨w.heap.size, 0, none⟩ = some (str L.name) ∧ W.cell? ⟨w.heap.size, 1, none⟩ = some (.slice a1 L.secs.length c1) ∧ W.cell? ⟨w.heap.size, 2, none⟩ = some (.slice a2 L.els.length c2) ∧
      W.cell? ⟨w.heap.size, 3, none⟩ = some (.slice a3 L.joints.length c3) ∧ W.cell? ⟨w.heap.size, 4, none⟩ = some (.slice a4 L.sigs.length c4) ∧ W.cell? ⟨w.heap.size, 5, none⟩ = some (.slice a5 L.bals.length c5) := by
    intro W h
    have b := G1.below h
    exact ⟨HB.trans (h.mono HB.size), b.at 0 _ rfl, b.at 1 _ rfl, b.at 2 _ rfl, b.at 3 _ rfl, b.at 4 _ rfl, b.at 5 _ rfl⟩
  obtain ⟨q, hq⟩ : ∃ q, (L.sigs.all fun x => unsP L x.at_) = q := ⟨_, rfl⟩
  rw [hq] at KA ⊢
  have K0 := KE W1 HB
  replace SK := Lib.hid SK
  replace KA := Lib.hid KA
  obtain ⟨_, k0, k1, k2, k3, k4, k5⟩ := SK.out W1 (Below.refl _ _)
  clear r1 r2 r3 r4 r5 HV KE G1 hlk hnd hM hq m1 m2 m3 m4 m5 n3
  go_enter Tryd.func27, Tryd.ntmps27
  go_wp2_with fail
  rw [← hLV, ← hW, hLV]
  clear hW hLV
  refine K0.mono ?_
  rintro e w2 ⟨b, rfl, hO, b2⟩
  have k2 := SK.out _ (b2.alloc b2.size (.cells #[.map (some b)] 52))
  obtain ⟨hw2, g0, g1, g2, g3, g4, g5⟩ := k2
  have KA2 := KA.out w2 b b2 hO
  clear k0 k1 k2 k3 k4 k5
  go_wp2_with fail
  refine KA2.mono ?_
  rintro e w3 ⟨rfl, b3⟩
  go_wp2
  go_ret
  exact ⟨rfl, hw2.trans (b3.mono hw2.size)⟩
end Go.Proofs.YthoodaldmfojaaaDoor
