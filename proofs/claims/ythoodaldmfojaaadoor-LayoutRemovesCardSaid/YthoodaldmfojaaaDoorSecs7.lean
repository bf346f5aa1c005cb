/- Contract of sectionsHaveElements. Conditions: the layout can be read; it has few parts. -/
import Derived.Test.YthoodaldmfojaaaDoorCond7
namespace Go.Proofs.YthoodaldmfojaaaDoor
open Go.ChangeShapes Go.WideShapes Go.ChangeAt Go.RowKit
set_option maxRecDepth 100000 in
set_option maxHeartbeats 4000000 in
theorem sections_any (v : Value) (L : LayD) (w : World) (hv : RLay w v L) (n2 : L.els.length ≤ 100000) : Calls Tryd.prog 22 #[v] w (RetB w (secB L)) := by
  obtain ⟨q, hq⟩ : ∃ q, secB L = q := ⟨_, rfl⟩
  rw [hq]
  replace hq := Lib.hid hq
  have HV := Lib.hid hv
  obtain ⟨v1, v2, v3, v4, v5, rfl, r1, r2, r3, r4, r5⟩ := hv
  obtain ⟨a1, c1, rfl, ⟨m1, _⟩, _⟩ := r1.openS
  obtain ⟨a2, c2, rfl, ⟨m2, _⟩, _⟩ := r2.openM
  obtain ⟨a3, c3, rfl, ⟨m3, _⟩, _⟩ := r3.openM
  obtain ⟨a4, c4, rfl, ⟨m4, _⟩, _⟩ := r4.openM
  obtain ⟨a5, c5, rfl, ⟨m5, _⟩, _⟩ := r5.openM
  obtain ⟨LV, hLV⟩ : ∃ LV : Array Value, LV = #[str L.name, .slice a1 L.secs.length c1, .slice a2 L.els.length c2, .slice a3 L.joints.length c3, .slice a4 L.sigs.length c4, .slice a5 L.bals.length c5] := ⟨_, rfl⟩
  obtain ⟨W1, hW⟩ : ∃ W1, W1 = w.alloc (.cells LV 28) := ⟨_, rfl⟩
  have HB : Below w.heap.size w W1 := by rw [hW]; exact b1w _ _
  have G1 : Blk W1 w.heap.size LV := by rw [hW]; exact Blk.new _ _ _ _ rfl
  rw [hLV] at G1
  have SK : ∀ W, Below W1.heap.size W1 W → Below w.heap.size w W ∧ W.cell? ⟨w.heap.size, 0, none⟩ = some (str L.name) ∧ W.cell? ⟨w.heap.size, 1, none⟩ = some (.slice a1 L.secs.length c1) ∧ W.cell? ⟨w.heap.size, 2, none⟩ = some (.slice a2 L.els.length c2) ∧
      W.cell? ⟨w.heap.size, 3, none⟩ = some (.slice a3 L.joints.length c3) ∧ W.cell? ⟨w.heap.size, 4, none⟩ = some (.slice a4 L.sigs.length c4) ∧ W.cell? ⟨w.heap.size, 5, none⟩ = some (.slice a5 L.bals.length c5) := by
    intro W h
    have b := G1.below h
    exact ⟨HB.trans (h.mono HB.size), b.at 0 _ rfl, b.at 1 _ rfl, b.at 2 _ rfl, b.at 3 _ rfl, b.at 4 _ rfl, b.at 5 _ rfl⟩
  replace SK := Lib.hid SK
  have KM := fun W (h : Below w.heap.size w W) s => membersP_own _ L s W (HV.out.below h) n2
  replace KM := Lib.hid KM
  clear r1 r2 r3 r4 r5 HV m2 m3 m4 m5 G1
  obtain ⟨sl, hsl⟩ : ∃ sl, L.secs.length = sl := ⟨_, rfl⟩
  rw [hsl] at m1
  replace hsl := Lib.hid hsl
  rw [hsl.out] at SK KM hLV ⊢
  go_enter Tryd.func22, Tryd.ntmps22
  go_wp2
  rw [← hLV, ← hW]
  clear hW hLV
  go_loopg [7] sl (fun g s7 wx => ∃ k : Nat, k + g = sl ∧ s7 = .int .i64 k ∧ Hid (∀ s : Nat, s < k → membersS L (s : Int) ≠ []) ∧ Below W1.heap.size W1 wx)
  case atStart => exact ⟨0, by omega, rfl, Lib.hid (fun s h => by omega), Below.refl _ _⟩
  case round =>
    obtain ⟨k, hk, rfl, HA, hbw⟩ := hrel
    obtain ⟨hw, k0, k1, k2, k3, k4, k5⟩ := SK.out _ hbw
    cases gk with
    | zero =>
      have hz : ¬ ((k : Int) < (sl : Int)) := by omega
      have hA : q = true := by
        rw [← hq.out]
        unfold secB
        rw [List.all_eq_true]
        intro s hs
        rw [List.mem_range, hsl.out] at hs
        exact decide_eq_true (HA.out s (by omega))
      subst hA
      clear HA
      go_wp2
      go_ret
      exact ⟨rfl, hw⟩
    | succ g =>
      have hz : ((k : Int) < (sl : Int)) := by omega
      go_wp2_with fail
      refine (KM.out _ hw (k : Int)).mono ?_
      rintro e w1 ⟨u, rfl, ho, b1⟩
      obtain ⟨au, cu, rfl⟩ := own_shape ho
      have d1 : Below W1.heap.size W1 w1 := hbw.trans (b1.mono hbw.size)
      have hw1 := (SK.out _ d1).1
      cases hm : membersS L (k : Int) with
      | nil =>
        have hA : q = false := by
          rw [← hq.out]
          unfold secB
          rw [List.all_eq_false]
          exact ⟨k, by rw [List.mem_range, hsl.out]; omega, by rw [hm]; simp⟩
        subst hA
        rw [List.length_nil]
        clear HA ho hm k0 k1 k2 k3 k4 k5
        go_wp2
        go_ret
        exact ⟨rfl, hw1⟩
      | cons z zs =>
        have N := Lib.hid (show ∀ s : Nat, s < k + 1 → membersS L (s : Int) ≠ [] from fun s hs => by
          by_cases h : s = k
          · subst h; rw [hm]; simp
          · exact HA.out s (by omega))
        obtain ⟨n, hn⟩ : ∃ n, (z :: zs).length = n := ⟨_, rfl⟩
        have hn0 : 0 < n := by rw [← hn]; simp
        rw [hn]
        have t0 : ((n : Int) == 0) = false := by simp; omega
        clear HA ho hm hn k0 k1 k2 k3 k4 k5
        go_wp2
        go_roundg g
        case measure => omega
        case rel => exact ⟨k + 1, by omega, by go_num, N, d1⟩
end Go.Proofs.YthoodaldmfojaaaDoor
