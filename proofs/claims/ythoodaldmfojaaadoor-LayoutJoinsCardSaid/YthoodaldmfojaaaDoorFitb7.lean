/- Contracts of the conditions on elements, sections, joints, signals and balises, for the whole layout. Conditions: the layout can be read; what the program reads (GW). -/
import Derived.Test.YthoodaldmfojaaaDoorFit7
namespace Go.Proofs.YthoodaldmfojaaaDoor
open Go.ChangeShapes Go.WideShapes Go.ChangeAt Go.RowKit
theorem bal_eq (els : List ElD) (b : BalD) : balS els b = (wiB b.id 1 1073741824 && ((decide (0 ≤ b.el) && decide (b.el < (els.length : Int))) && wiB b.off 0 (elAt els b.el ElD.length))) := by
  rw [Bool.eq_iff_iff]
  unfold balS wiB
  simp only [Bool.and_eq_true, decide_eq_true_eq]
  omega

set_option maxRecDepth 100000 in
set_option maxHeartbeats 4000000 in
theorem baFit1_any (x : BalD) (w : World) (B : Nat) (V : Array Value) (L : LayD) (hB : Blk w B V) (hv : RLay w (.agg V) L) :
    Calls Tryd.prog 68 #[.agg #[.int .i64 x.id, .int .i64 x.el, .int .i64 x.off], .pointer (some ⟨B, 0, none⟩)] w (RetB w (balS L.els x)) := by
  rw [bal_eq]
  have hlt : B < w.heap.size := hB.lt
  obtain ⟨v1, v2, v3, v4, v5, hV, r1, r2, r3, r4, r5⟩ := hv
  obtain ⟨a2, c2, rfl, ⟨m2, _⟩, HC⟩ := r2.openM
  simp only [Value.agg.injEq] at hV
  subst hV
  have kL := hB.at 2 _ rfl
  clear r1 r2 r3 r4 r5 hB
  obtain ⟨nm, es⟩ : ∃ s, str L.name = s := ⟨_, rfl⟩
  clear es
  have hbb : Below w.heap.size w w := Below.refl _ _
  have K1 := fun ww => within_any x.id 1 1073741824 ww
  have K2 := fun ww => isIndex_any x.el L.els.length ww (by omega) (by omega)
  cases h1 : wiB x.id 1 1073741824 with
  | false =>
    rw [h1] at K1
    clear K2 HC
    go_enter Tryd.func68, Tryd.ntmps68
    go_wp2
    go_quiet ((go_at_call 44; exact Calls.quiet_of_same ((K1 _).mono fun e w' h => ⟨h.1, h.2.symm⟩)))
    go_wp2
    go_ret
    exact ⟨rfl, bdrew (b1w _ _) _⟩
  | true =>
    rw [h1] at K1
    cases h2 : (decide (0 ≤ x.el) && decide (x.el < (L.els.length : Int))) with
    | false =>
      rw [h2] at K2
      clear HC
      go_enter Tryd.func68, Tryd.ntmps68
      go_wp2
      go_quiet ((first | (go_at_call 44; exact Calls.quiet_of_same ((K1 _).mono fun e w' h => ⟨h.1, h.2.symm⟩)) | (go_at_call 38; exact Calls.quiet_of_same ((K2 _).mono fun e w' h => ⟨h.1, h.2.symm⟩))))
      go_wp2
      go_ret
      exact ⟨rfl, bdrew (b1w _ _) _⟩
    | true =>
      rw [h2] at K2
      simp only [Bool.and_eq_true, decide_eq_true_eq] at h2
      obtain ⟨xi, xe, xo⟩ := x
      simp only at h1 h2 K1 K2 ⊢
      obtain ⟨k, rfl⟩ : ∃ k : Nat, xe = k := ⟨xe.toNat, by omega⟩
      have hk : k < L.els.length := by omega
      obtain ⟨y, hy, _⟩ := at_take hk
      obtain ⟨b, off, rfl, hltb, hc⟩ := HC.out.rd hbb hy
      have cK := hc 2 _ rfl
      rw [show elAt L.els (k : Int) ElD.length = y.length from by simp [elAt, hy]]
      obtain ⟨yl, hyl⟩ : ∃ yl, y.length = yl := ⟨_, rfl⟩
      rw [hyl]
      simp only [hyl] at cK
      have t3 : ((k : Int) < (L.els.length : Int)) := h2.2
      clear K1 h2 hc hy hyl HC m2
      go_enter Tryd.func68, Tryd.ntmps68
      go_wp2
      go_quiet ((first | (go_at_call 44; exact Calls.quiet_of_same ((within_any _ _ _ _).mono fun e w' h => ⟨h.1, h.2.symm⟩)) | (go_at_call 38; exact Calls.quiet_of_same ((K2 _).mono fun e w' h => ⟨h.1, h.2.symm⟩))))
      go_wp2
      go_ret
      exact ⟨rfl, bdrew (b1w _ _) _⟩

set_option maxRecDepth 100000 in
set_option maxHeartbeats 4000000 in
theorem elements_any (v : Value) (L : LayD) (w : World) (hG : GW w) (hv : RLay w v L) : Calls Tryd.prog 21 #[v] w (RetB w (elB L)) := by
  have HV := Lib.hid hv
  obtain ⟨v1, v2, v3, v4, v5, rfl, r1, r2, r3, r4, r5⟩ := hv
  obtain ⟨a1, c1, rfl, ⟨m1, _⟩, _⟩ := r1.openS
  obtain ⟨a2, c2, rfl, ⟨m2, _⟩, _⟩ := r2.openM
  obtain ⟨a3, c3, rfl, ⟨m3, _⟩, _⟩ := r3.openM
  obtain ⟨a4, c4, rfl, ⟨m4, _⟩, _⟩ := r4.openM
  obtain ⟨a5, c5, rfl, ⟨m5, _⟩, _⟩ := r5.openM
  obtain ⟨LV, hLV⟩ : ∃ LV : Array Value, LV = #[str L.name, .slice a1 L.secs.length c1, .slice a2 L.els.length c2, .slice a3 L.joints.length c3, .slice a4 L.sigs.length c4, .slice a5 L.bals.length c5] := ⟨_, rfl⟩
  obtain ⟨W1, hW⟩ : ∃ W1, W1 = w.alloc (.cells LV 28) := ⟨_, rfl⟩
  have HB : Below w.heap.size w W1 := by rw [hW]; exact b1w _ _
  have G1 : Blk W1 w.heap.size LV := by rw [hW]; exact Blk.new _ _ _ _ rfl
  rw [hLV] at G1
  have SK : ∀ W, Below W1.heap.size W1 W → Below w.heap.size w W ∧ Blk W w.heap.size #[str L.name, .slice a1 L.secs.length c1, .slice a2 L.els.length c2, .slice a3 L.joints.length c3, .slice a4 L.sigs.length c4, .slice a5 L.bals.length c5] ∧ W.cell? ⟨w.heap.size, 0, none⟩ = some (str L.name) ∧ W.cell? ⟨w.heap.size, 1, none⟩ = some (.slice a1 L.secs.length c1) ∧ W.cell? ⟨w.heap.size, 2, none⟩ = some (.slice a2 L.els.length c2) ∧
      W.cell? ⟨w.heap.size, 3, none⟩ = some (.slice a3 L.joints.length c3) ∧ W.cell? ⟨w.heap.size, 4, none⟩ = some (.slice a4 L.sigs.length c4) ∧ W.cell? ⟨w.heap.size, 5, none⟩ = some (.slice a5 L.bals.length c5) := by
    intro W h
    have b := G1.below h
    exact ⟨HB.trans (h.mono HB.size), b, b.at 0 _ rfl, b.at 1 _ rfl, b.at 2 _ rfl, b.at 3 _ rfl, b.at 4 _ rfl, b.at 5 _ rfl⟩
  replace SK := Lib.hid SK
  have K1 := all_E (.slice a2 L.els.length c2) L.els W1 57 #[.pointer (some ⟨w.heap.size, 0, none⟩)] (rightS L.secs.length) (enters_of Tryd.func57 (by kernel_rfl) rfl) ((r2).below HB) (fun x hx ww hb => elFit1_any x ww w.heap.size L.secs.length c1 a1 ((hG.below HB).below hb) ((SK.out ww hb).2.2.2.1) m1)
  obtain ⟨q1, e1⟩ : ∃ q, elB L = q := ⟨_, rfl⟩
  rw [e1]
  simp only [elB] at e1
  simp only [e1] at K1
  replace K1 := Lib.hid K1
  have k0 := (SK.out W1 (Below.refl _ _)).2.2
  obtain ⟨k00, k01, k02, k03, k04, k05⟩ := k0
  clear r1 r2 r3 r4 r5 HV e1 m1 m2 m3 m4 m5
  go_enter Tryd.func21, Tryd.ntmps21
  go_wp2_with fail
  rw [← hLV, ← hW]
  clear hW hLV
  refine K1.out.mono ?_
  rintro e w1 ⟨rfl, b1⟩
  go_wp2
  go_ret
  exact ⟨rfl, HB.trans (b1.mono HB.size)⟩
set_option maxRecDepth 100000 in
set_option maxHeartbeats 4000000 in
theorem joints_any (v : Value) (L : LayD) (w : World) (hG : GW w) (hv : RLay w v L) : Calls Tryd.prog 23 #[v] w (RetB w (jnB L)) := by
  have HV := Lib.hid hv
  obtain ⟨v1, v2, v3, v4, v5, rfl, r1, r2, r3, r4, r5⟩ := hv
  obtain ⟨a1, c1, rfl, ⟨m1, _⟩, _⟩ := r1.openS
  obtain ⟨a2, c2, rfl, ⟨m2, _⟩, _⟩ := r2.openM
  obtain ⟨a3, c3, rfl, ⟨m3, _⟩, _⟩ := r3.openM
  obtain ⟨a4, c4, rfl, ⟨m4, _⟩, _⟩ := r4.openM
  obtain ⟨a5, c5, rfl, ⟨m5, _⟩, _⟩ := r5.openM
  obtain ⟨LV, hLV⟩ : ∃ LV : Array Value, LV = #[str L.name, .slice a1 L.secs.length c1, .slice a2 L.els.length c2, .slice a3 L.joints.length c3, .slice a4 L.sigs.length c4, .slice a5 L.bals.length c5] := ⟨_, rfl⟩
  obtain ⟨W1, hW⟩ : ∃ W1, W1 = w.alloc (.cells LV 28) := ⟨_, rfl⟩
  have HB : Below w.heap.size w W1 := by rw [hW]; exact b1w _ _
  have G1 : Blk W1 w.heap.size LV := by rw [hW]; exact Blk.new _ _ _ _ rfl
  rw [hLV] at G1
  have SK : ∀ W, Below W1.heap.size W1 W → Below w.heap.size w W ∧ Blk W w.heap.size #[str L.name, .slice a1 L.secs.length c1, .slice a2 L.els.length c2, .slice a3 L.joints.length c3, .slice a4 L.sigs.length c4, .slice a5 L.bals.length c5] ∧ W.cell? ⟨w.heap.size, 0, none⟩ = some (str L.name) ∧ W.cell? ⟨w.heap.size, 1, none⟩ = some (.slice a1 L.secs.length c1) ∧ W.cell? ⟨w.heap.size, 2, none⟩ = some (.slice a2 L.els.length c2) ∧
      W.cell? ⟨w.heap.size, 3, none⟩ = some (.slice a3 L.joints.length c3) ∧ W.cell? ⟨w.heap.size, 4, none⟩ = some (.slice a4 L.sigs.length c4) ∧ W.cell? ⟨w.heap.size, 5, none⟩ = some (.slice a5 L.bals.length c5) := by
    intro W h
    have b := G1.below h
    exact ⟨HB.trans (h.mono HB.size), b, b.at 0 _ rfl, b.at 1 _ rfl, b.at 2 _ rfl, b.at 3 _ rfl, b.at 4 _ rfl, b.at 5 _ rfl⟩
  replace SK := Lib.hid SK
  have K1 := all_J (.slice a3 L.joints.length c3) L.joints W1 61 #[.pointer (some ⟨w.heap.size, 0, none⟩)] (fun x => exS L.els x.1 && (exS L.els x.2 && !(x.1 == x.2))) (enters_of Tryd.func61 (by kernel_rfl) rfl) ((r3).below HB) (fun x hx ww hb => joFit1_any x ww w.heap.size _ L ((hG.below HB).below hb) ((SK.out ww hb).2.1) (HV.out.below ((SK.out ww hb).1)))
  obtain ⟨q1, e1⟩ : ∃ q, jnB L = q := ⟨_, rfl⟩
  rw [e1]
  simp only [jnB] at e1
  simp only [e1] at K1
  replace K1 := Lib.hid K1
  have k0 := (SK.out W1 (Below.refl _ _)).2.2
  obtain ⟨k00, k01, k02, k03, k04, k05⟩ := k0
  clear r1 r2 r3 r4 r5 HV e1 m1 m2 m3 m4 m5
  go_enter Tryd.func23, Tryd.ntmps23
  go_wp2_with fail
  rw [← hLV, ← hW]
  clear hW hLV
  refine K1.out.mono ?_
  rintro e w1 ⟨rfl, b1⟩
  go_wp2
  go_ret
  exact ⟨rfl, HB.trans (b1.mono HB.size)⟩
set_option maxRecDepth 100000 in
set_option maxHeartbeats 4000000 in
theorem signals_any (v : Value) (L : LayD) (w : World) (hG : GW w) (hv : RLay w v L) : Calls Tryd.prog 25 #[v] w (RetB w (sgB L)) := by
  have HV := Lib.hid hv
  obtain ⟨v1, v2, v3, v4, v5, rfl, r1, r2, r3, r4, r5⟩ := hv
  obtain ⟨a1, c1, rfl, ⟨m1, _⟩, _⟩ := r1.openS
  obtain ⟨a2, c2, rfl, ⟨m2, _⟩, _⟩ := r2.openM
  obtain ⟨a3, c3, rfl, ⟨m3, _⟩, _⟩ := r3.openM
  obtain ⟨a4, c4, rfl, ⟨m4, _⟩, _⟩ := r4.openM
  obtain ⟨a5, c5, rfl, ⟨m5, _⟩, _⟩ := r5.openM
  obtain ⟨LV, hLV⟩ : ∃ LV : Array Value, LV = #[str L.name, .slice a1 L.secs.length c1, .slice a2 L.els.length c2, .slice a3 L.joints.length c3, .slice a4 L.sigs.length c4, .slice a5 L.bals.length c5] := ⟨_, rfl⟩
  obtain ⟨W1, hW⟩ : ∃ W1, W1 = w.alloc (.cells LV 28) := ⟨_, rfl⟩
  have HB : Below w.heap.size w W1 := by rw [hW]; exact b1w _ _
  have G1 : Blk W1 w.heap.size LV := by rw [hW]; exact Blk.new _ _ _ _ rfl
  rw [hLV] at G1
  have SK : ∀ W, Below W1.heap.size W1 W → Below w.heap.size w W ∧ Blk W w.heap.size #[str L.name, .slice a1 L.secs.length c1, .slice a2 L.els.length c2, .slice a3 L.joints.length c3, .slice a4 L.sigs.length c4, .slice a5 L.bals.length c5] ∧ W.cell? ⟨w.heap.size, 0, none⟩ = some (str L.name) ∧ W.cell? ⟨w.heap.size, 1, none⟩ = some (.slice a1 L.secs.length c1) ∧ W.cell? ⟨w.heap.size, 2, none⟩ = some (.slice a2 L.els.length c2) ∧
      W.cell? ⟨w.heap.size, 3, none⟩ = some (.slice a3 L.joints.length c3) ∧ W.cell? ⟨w.heap.size, 4, none⟩ = some (.slice a4 L.sigs.length c4) ∧ W.cell? ⟨w.heap.size, 5, none⟩ = some (.slice a5 L.bals.length c5) := by
    intro W h
    have b := G1.below h
    exact ⟨HB.trans (h.mono HB.size), b, b.at 0 _ rfl, b.at 1 _ rfl, b.at 2 _ rfl, b.at 3 _ rfl, b.at 4 _ rfl, b.at 5 _ rfl⟩
  replace SK := Lib.hid SK
  have K1 := all_G (.slice a4 L.sigs.length c4) L.sigs W1 63 #[.pointer (some ⟨w.heap.size, 0, none⟩)] (fun x => exS L.els x.at_ && wiB x.overlap 0 1000000) (enters_of Tryd.func63 (by kernel_rfl) rfl) ((r4).below HB) (fun x hx ww hb => sgFit1_any x ww w.heap.size _ L ((hG.below HB).below hb) ((SK.out ww hb).2.1) (HV.out.below ((SK.out ww hb).1)))
  obtain ⟨q1, e1⟩ : ∃ q, sgB L = q := ⟨_, rfl⟩
  rw [e1]
  simp only [sgB] at e1
  simp only [wiB] at K1
  simp only [e1] at K1
  replace K1 := Lib.hid K1
  have k0 := (SK.out W1 (Below.refl _ _)).2.2
  obtain ⟨k00, k01, k02, k03, k04, k05⟩ := k0
  clear r1 r2 r3 r4 r5 HV e1 m1 m2 m3 m4 m5
  go_enter Tryd.func25, Tryd.ntmps25
  go_wp2_with fail
  rw [← hLV, ← hW]
  clear hW hLV
  refine K1.out.mono ?_
  rintro e w1 ⟨rfl, b1⟩
  go_wp2
  go_ret
  exact ⟨rfl, HB.trans (b1.mono HB.size)⟩
set_option maxRecDepth 100000 in
set_option maxHeartbeats 4000000 in
theorem balises_any (v : Value) (L : LayD) (w : World) (_ : GW w) (hv : RLay w v L) : Calls Tryd.prog 28 #[v] w (RetB w (blB L)) := by
  have HV := Lib.hid hv
  obtain ⟨v1, v2, v3, v4, v5, rfl, r1, r2, r3, r4, r5⟩ := hv
  obtain ⟨a1, c1, rfl, ⟨m1, _⟩, _⟩ := r1.openS
  obtain ⟨a2, c2, rfl, ⟨m2, _⟩, _⟩ := r2.openM
  obtain ⟨a3, c3, rfl, ⟨m3, _⟩, _⟩ := r3.openM
  obtain ⟨a4, c4, rfl, ⟨m4, _⟩, _⟩ := r4.openM
  obtain ⟨a5, c5, rfl, ⟨m5, _⟩, _⟩ := r5.openM
  obtain ⟨LV, hLV⟩ : ∃ LV : Array Value, LV = #[str L.name, .slice a1 L.secs.length c1, .slice a2 L.els.length c2, .slice a3 L.joints.length c3, .slice a4 L.sigs.length c4, .slice a5 L.bals.length c5] := ⟨_, rfl⟩
  obtain ⟨W1, hW⟩ : ∃ W1, W1 = w.alloc (.cells LV 28) := ⟨_, rfl⟩
  have HB : Below w.heap.size w W1 := by rw [hW]; exact b1w _ _
  have G1 : Blk W1 w.heap.size LV := by rw [hW]; exact Blk.new _ _ _ _ rfl
  rw [hLV] at G1
  have SK : ∀ W, Below W1.heap.size W1 W → Below w.heap.size w W ∧ Blk W w.heap.size #[str L.name, .slice a1 L.secs.length c1, .slice a2 L.els.length c2, .slice a3 L.joints.length c3, .slice a4 L.sigs.length c4, .slice a5 L.bals.length c5] ∧ W.cell? ⟨w.heap.size, 0, none⟩ = some (str L.name) ∧ W.cell? ⟨w.heap.size, 1, none⟩ = some (.slice a1 L.secs.length c1) ∧ W.cell? ⟨w.heap.size, 2, none⟩ = some (.slice a2 L.els.length c2) ∧
      W.cell? ⟨w.heap.size, 3, none⟩ = some (.slice a3 L.joints.length c3) ∧ W.cell? ⟨w.heap.size, 4, none⟩ = some (.slice a4 L.sigs.length c4) ∧ W.cell? ⟨w.heap.size, 5, none⟩ = some (.slice a5 L.bals.length c5) := by
    intro W h
    have b := G1.below h
    exact ⟨HB.trans (h.mono HB.size), b, b.at 0 _ rfl, b.at 1 _ rfl, b.at 2 _ rfl, b.at 3 _ rfl, b.at 4 _ rfl, b.at 5 _ rfl⟩
  replace SK := Lib.hid SK
  have K1 := all_B (.slice a5 L.bals.length c5) L.bals W1 68 #[.pointer (some ⟨w.heap.size, 0, none⟩)] (balS L.els) (enters_of Tryd.func68 (by kernel_rfl) rfl) ((r5).below HB) (fun x hx ww hb => baFit1_any x ww w.heap.size _ L ((SK.out ww hb).2.1) (HV.out.below ((SK.out ww hb).1)))
  obtain ⟨q1, e1⟩ : ∃ q, blB L = q := ⟨_, rfl⟩
  rw [e1]
  simp only [blB] at e1
  simp only [e1] at K1
  replace K1 := Lib.hid K1
  have k0 := (SK.out W1 (Below.refl _ _)).2.2
  obtain ⟨k00, k01, k02, k03, k04, k05⟩ := k0
  clear r1 r2 r3 r4 r5 HV e1 m1 m2 m3 m4 m5
  go_enter Tryd.func28, Tryd.ntmps28
  go_wp2_with fail
  rw [← hLV, ← hW]
  clear hW hLV
  refine K1.out.mono ?_
  rintro e w1 ⟨rfl, b1⟩
  go_wp2
  go_ret
  exact ⟨rfl, HB.trans (b1.mono HB.size)⟩
end Go.Proofs.YthoodaldmfojaaaDoor
