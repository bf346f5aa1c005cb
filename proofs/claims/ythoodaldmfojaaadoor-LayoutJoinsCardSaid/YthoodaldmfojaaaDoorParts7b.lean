/- Contracts of Points, Members, Section, Element, Signal. Conditions: the layout can be read; it has few parts. -/
import Derived.Test.YthoodaldmfojaaaDoorWhere7
namespace Go.Proofs.YthoodaldmfojaaaDoor
open Go.ChangeShapes Go.WideShapes Go.ChangeAt Go.RowKit
theorem points1_any (x : ElD) (w : World) : Calls Tryd.prog 41 #[.agg #[str x.name, .int .i64 x.kind, .int .i64 x.length, .int .i64 x.grade, .int .i64 x.speed, .int .i64 x.slow, .int .i64 x.sec]] w (RetB w (decide (x.kind = 2))) := by
  have E : (x.kind == 2) = decide (x.kind = 2) := rfl
  go_enter Tryd.func41, Tryd.ntmps41
  go_wp2
  go_ret
  exact ⟨rfl, (Below.refl _ _).alloc (Nat.le_refl _) _⟩
theorem points_wh : ∀ (l : List ElD) (i : Nat), whF (fun x => decide (x.kind = 2)) i l = pointF i l
  | [], i => rfl
  | x :: r, i => by
    unfold whF pointF
    by_cases h : x.kind = 2 <;> simp [h, points_wh r (i + 1)]
theorem mem_wh (s : Int) : ∀ (l : List ElD) (i : Nat), whF (fun x => decide (x.sec = s)) i l = memG s i l
  | [], i => rfl
  | x :: r, i => by
    unfold whF memG
    by_cases h : x.sec = s <;> simp [h, mem_wh s r (i + 1)]
theorem RetO.alloc {w : World} {l : List Int} {o : Obj} {e : Ending} {w' : World} (h : RetO (w.alloc o) l e w') : RetO w l e w' := by
  obtain ⟨v, he, ho, hb⟩ := h
  exact ⟨v, he, own_mono ho (by simp), ((Below.refl _ _).alloc (Nat.le_refl _) _).trans (hb.mono (by simp))⟩
theorem RetO.list {w : World} {l : List Int} {e : Ending} {w' : World} (h : RetO w l e w') : RetL w l e w' := by
  obtain ⟨v, he, ho, hb⟩ := h
  exact ⟨v, he, RS.own ho, hb⟩
set_option maxRecDepth 100000 in
theorem pointsP_own (v : Value) (L : LayD) (w : World) (hv : RLay w v L) (hn : L.els.length ≤ 100000) : Calls Tryd.prog 16 #[v] w (RetO w (pointF 0 L.els)) := by
  have HV := Lib.hid hv
  obtain ⟨v1, v2, v3, v4, v5, rfl, h1, h2, h3, h4, h5⟩ := hv
  obtain ⟨a1, c1, rfl, _, _⟩ := h1.openS
  obtain ⟨a2, c2, rfl, _, _⟩ := h2.openM
  obtain ⟨a3, c3, rfl, _, _⟩ := h3.openM
  obtain ⟨a4, c4, rfl, _, _⟩ := h4.openM
  obtain ⟨a5, c5, rfl, _, _⟩ := h5.openM
  clear h1 h2 h3 h4 h5
  rw [← points_wh]
  have K := fun W (h : Below w.heap.size w W) => where_any _ L W 41 #[] (fun x => decide (x.kind = 2)) (enters_of Tryd.func41 (by kernel_rfl) rfl) (HV.out.below h) hn (fun x _ ww _ => points1_any x ww)
  replace K := Lib.hid K
  go_enter Tryd.func16, Tryd.ntmps16
  go_wp2_with fail
  refine (K.out _ ((Below.refl _ _).alloc (Nat.le_refl _) _)).mono ?_
  rintro e w1 ⟨u, rfl, h⟩
  go_wp2
  go_ret
  exact (RetO.alloc ⟨u, rfl, h⟩)
theorem members1_any (x : ElD) (w : World) (B : Nat) (s : Int) (hc : w.cell? ⟨B, 0, none⟩ = some (.int .i64 s)) : Calls Tryd.prog 40 #[.agg #[str x.name, .int .i64 x.kind, .int .i64 x.length, .int .i64 x.grade, .int .i64 x.speed, .int .i64 x.slow, .int .i64 x.sec], .pointer (some ⟨B, 0, none⟩)] w (RetB w (decide (x.sec = s))) := by
  have hl := World.block_lt_of_cell? w _ hc
  have hc2 : ∀ o, (w.alloc o).cell? ⟨B, 0, none⟩ = some (.int .i64 s) := fun o => (((Below.refl w.heap.size w).alloc (Nat.le_refl _) o).cell (p := ⟨B, 0, none⟩) hl).trans hc
  go_enter Tryd.func40, Tryd.ntmps40
  go_wp2
  go_ret
  exact ⟨rfl, (Below.refl _ _).alloc (Nat.le_refl _) _⟩
set_option maxRecDepth 100000 in
set_option maxHeartbeats 1000000 in
theorem membersP_own (v : Value) (L : LayD) (s : Int) (w : World) (hv : RLay w v L) (hn : L.els.length ≤ 100000) : Calls Tryd.prog 15 #[v, .int .i64 s] w (RetO w (membersS L s)) := by
  have HV := Lib.hid hv
  obtain ⟨v1, v2, v3, v4, v5, rfl, h1, h2, h3, h4, h5⟩ := hv
  obtain ⟨a1, c1, rfl, ⟨m1, _⟩, _⟩ := h1.openS
  obtain ⟨a2, c2, rfl, _, _⟩ := h2.openM
  obtain ⟨a3, c3, rfl, _, _⟩ := h3.openM
  obtain ⟨a4, c4, rfl, _, _⟩ := h4.openM
  obtain ⟨a5, c5, rfl, _, _⟩ := h5.openM
  clear h1 h2 h3 h4 h5
  have KI := fun ww => isIndex_any s L.secs.length ww (by omega) (by omega)
  by_cases hs : 0 ≤ s ∧ s < L.secs.length
  · have e1 : (decide (0 ≤ s) && decide (s < (L.secs.length : Int))) = true := by simp [hs]
    rw [show membersS L s = memG s 0 L.els from if_pos hs, ← mem_wh]
    simp only [e1] at KI
    clear e1 hs
    have K := fun W (h : Below w.heap.size w W) B (hc : W.cell? ⟨B, 0, none⟩ = some (.int .i64 s)) => where_any _ L W 40 #[.pointer (some ⟨B, 0, none⟩)] (fun x => decide (x.sec = s)) (enters_of Tryd.func40 (by kernel_rfl) rfl) (HV.out.below h) hn (fun x _ ww hb => members1_any x ww B s ((hb.cell (p := ⟨B, 0, none⟩) (World.block_lt_of_cell? W _ hc)).trans hc))
    replace K := Lib.hid K
    go_enter Tryd.func15, Tryd.ntmps15
    go_wp2_with (go_at_call 38; refine (KI _).mono ?_; rintro e w' ⟨rfl, rfl⟩)
    refine (K.out _ (((Below.refl _ _).alloc (Nat.le_refl _) _).alloc (by simp) _) _ (by simp)).mono ?_
    rintro e w1 ⟨u, rfl, h⟩
    go_wp2
    go_ret
    exact (RetO.alloc (RetO.alloc ⟨u, rfl, h⟩))
  · have e1 : (decide (0 ≤ s) && decide (s < (L.secs.length : Int))) = false := by
      by_cases h0 : 0 ≤ s <;> by_cases h1 : s < (L.secs.length : Int) <;> simp [h0, h1]
      exact hs ⟨h0, h1⟩
    rw [show membersS L s = [] from if_neg hs]
    simp only [e1] at KI
    clear e1 hs
    go_enter Tryd.func15, Tryd.ntmps15
    go_wp2_with (go_at_call 38; refine (KI _).mono ?_; rintro e w' ⟨rfl, rfl⟩)
    go_ret
    exact ⟨_, rfl, World.ownsRow_nil _ _ _ _, ((Below.refl _ _).alloc (Nat.le_refl _) _).alloc (by simp) _⟩
set_option maxRecDepth 100000 in
set_option maxHeartbeats 1000000 in
theorem sectionP_any (v : Value) (L : LayD) (e : Int) (w : World) (hv : RLay w v L) : Calls Tryd.prog 14 #[v, .int .i64 e] w (RetV w (.int .i64 (sectionS L e))) := by
  obtain ⟨v1, v2, v3, v4, v5, rfl, h1, h2, h3, h4, h5⟩ := hv
  clear h1 h3 h4 h5
  obtain ⟨a2, c2, rfl, ⟨m2, _⟩, HC⟩ := h2.openM
  clear h2
  obtain ⟨nm, es⟩ : ∃ s, str L.name = s := ⟨_, rfl⟩
  rw [es]
  have KI := fun ww => isIndex_any e L.els.length ww (by omega) (by omega)
  have hbb : Below w.heap.size w w := Below.refl _ _
  by_cases hs : e < 0 ∨ (L.els.length : Int) ≤ e
  · have e1 : (decide (0 ≤ e) && decide (e < (L.els.length : Int))) = false := by
      rcases hs with h | h
      · rw [decide_eq_false (by omega), Bool.false_and]
      · rw [decide_eq_false (p := e < _) (by omega), Bool.and_false]
    rw [show sectionS L e = -1 from if_pos hs]
    simp only [e1] at KI
    clear e1 hs
    go_enter Tryd.func14, Tryd.ntmps14
    go_wp2_with (go_at_call 38; refine (KI _).mono ?_; rintro e w' ⟨rfl, rfl⟩)
    go_ret
    exact ⟨rfl, hbb.alloc (Nat.le_refl _) _⟩
  · have e1 : (decide (0 ≤ e) && decide (e < (L.els.length : Int))) = true := by
      rw [decide_eq_true (by omega), decide_eq_true (by omega)]; rfl
    have hsec : sectionS L e = elAt L.els e ElD.sec := if_neg hs
    obtain ⟨k, rfl⟩ : ∃ k : Nat, e = k := ⟨e.toNat, by omega⟩
    have hk : k < L.els.length := by omega
    obtain ⟨y, hy, _⟩ := at_take hk
    rw [hsec, show elAt L.els (k : Int) ElD.sec = y.sec from by simp [elAt, hy]]
    obtain ⟨b, off, rfl, hlt, hc⟩ := HC.out.rd hbb hy
    have cK := hc 6 _ rfl
    obtain ⟨q, hq⟩ : ∃ q, y.sec = q := ⟨_, rfl⟩
    simp only [hq] at cK ⊢
    simp only [e1] at KI
    have t3 : ((k : Int) < (L.els.length : Int)) := by omega
    clear e1 hs hsec hc hq hy HC
    go_enter Tryd.func14, Tryd.ntmps14
    go_wp2_with (go_at_call 38; refine (KI _).mono ?_; rintro e w' ⟨rfl, rfl⟩)
    go_ret
    exact ⟨rfl, hbb.alloc (Nat.le_refl _) _⟩
theorem element1_any (x : ElD) (w : World) (B : Nat) (s : L8) (hc : w.cell? ⟨B, 0, none⟩ = some (str s)) : Calls Tryd.prog 43 #[.agg #[str x.name, .int .i64 x.kind, .int .i64 x.length, .int .i64 x.grade, .int .i64 x.speed, .int .i64 x.slow, .int .i64 x.sec], .pointer (some ⟨B, 0, none⟩)] w (RetB w (decide (x.name = s))) := by
  have hl := World.block_lt_of_cell? w _ hc
  have hc2 : ∀ o, (w.alloc o).cell? ⟨B, 0, none⟩ = some (str s) := fun o => (((Below.refl w.heap.size w).alloc (Nat.le_refl _) o).cell (p := ⟨B, 0, none⟩) hl).trans hc
  go_enter Tryd.func43, Tryd.ntmps43
  go_wp2
  go_ret
  refine ⟨?_, (Below.refl _ _).alloc (Nat.le_refl _) _⟩
  by_cases h : x.name = s <;> simp [h]
theorem name_idx (s : L8) : ∀ (l : List ElD) (i : Nat), idxF (fun x => decide (x.name = s)) i l = nameF s i l
  | [], i => rfl
  | x :: r, i => by
    unfold idxF nameF
    by_cases h : x.name = s <;> simp [h, name_idx s r (i + 1)]
theorem sig_idx (e : EndD) : ∀ (l : List SigD) (i : Nat), idxF (fun x => x.at_ == e) i l = sigF e i l
  | [], i => rfl
  | x :: r, i => by
    unfold idxF sigF
    by_cases h : x.at_ = e <;> simp [h, sig_idx e r (i + 1)]
theorem signal1_any (x : SigD) (w : World) (B : Nat) (e : EndD) (c0 : w.cell? ⟨B, 0, none⟩ = some (.int .i64 e.1)) (c1 : w.cell? ⟨B, 1, none⟩ = some (.int .i64 e.2)) : Calls Tryd.prog 37 #[.agg #[str x.name, .int .i64 x.at_.1, .int .i64 x.at_.2, .int .i64 x.overlap], .pointer (some ⟨B, 0, none⟩)] w (RetB w (x.at_ == e)) := by
  have hl := World.block_lt_of_cell? w _ c0
  have h0 : ∀ o, (w.alloc o).cell? ⟨B, 0, none⟩ = some (.int .i64 e.1) := fun o => (((Below.refl w.heap.size w).alloc (Nat.le_refl _) o).cell (p := ⟨B, 0, none⟩) hl).trans c0
  have h1 : ∀ o, (w.alloc o).cell? ⟨B, 1, none⟩ = some (.int .i64 e.2) := fun o => (((Below.refl w.heap.size w).alloc (Nat.le_refl _) o).cell (p := ⟨B, 1, none⟩) hl).trans c1
  have E := eql_end x.at_.1 x.at_.2 e.1 e.2
  rw [show ((x.at_.1, x.at_.2) == (e.1, e.2)) = (x.at_ == e) from rfl] at E
  go_enter Tryd.func37, Tryd.ntmps37
  go_wp2
  go_ret
  exact ⟨rfl, (Below.refl _ _).alloc (Nat.le_refl _) _⟩
set_option maxRecDepth 100000 in
theorem elementP_any (v : Value) (L : LayD) (s : L8) (w : World) (hv : RLay w v L) : Calls Tryd.prog 17 #[v, str s] w (RetV w (.int .i64 (nameF s 0 L.els))) := by
  have HV := Lib.hid hv
  obtain ⟨v1, v2, v3, v4, v5, rfl, h1, h2, h3, h4, h5⟩ := hv
  clear h1 h3 h4 h5
  have H2 := Lib.hid h2
  obtain ⟨a2, c2, rfl, _, _⟩ := h2.openM
  clear h2 HV
  obtain ⟨nm, es⟩ : ∃ s, str L.name = s := ⟨_, rfl⟩
  rw [es]
  clear es
  rw [← name_idx]
  have K := fun W (h : Below w.heap.size w W) B (hc : W.cell? ⟨B, 0, none⟩ = some (str s)) => index_E _ L.els W 43 (.pointer (some ⟨B, 0, none⟩)) (fun x => decide (x.name = s)) (enters_of Tryd.func43 (by kernel_rfl) rfl) (H2.out.below h) (fun x _ ww hb => element1_any x ww B s ((hb.cell (p := ⟨B, 0, none⟩) (World.block_lt_of_cell? W _ hc)).trans hc))
  replace K := Lib.hid K
  go_enter Tryd.func17, Tryd.ntmps17
  go_wp2_with fail
  refine (K.out _ (((Below.refl _ _).alloc (Nat.le_refl _) _).alloc (by simp) _) _ (by simp)).mono ?_
  rintro e w1 ⟨rfl, h⟩
  go_wp2
  go_ret
  exact ⟨rfl, (((Below.refl _ _).alloc (Nat.le_refl _) _).alloc (by simp) _).trans (h.mono (by simp; omega))⟩
set_option maxRecDepth 100000 in
theorem signalP_any (v : Value) (L : LayD) (e s : Int) (w : World) (hv : RLay w v L) : Calls Tryd.prog 13 #[v, .agg #[.int .i64 e, .int .i64 s]] w (RetV w (.int .i64 (sigF (e, s) 0 L.sigs))) := by
  obtain ⟨v1, v2, v3, v4, v5, rfl, h1, h2, h3, h4, h5⟩ := hv
  clear h1 h2 h3 h5
  have H2 := Lib.hid h4
  obtain ⟨a2, c2, rfl, _, _⟩ := h4.openM
  clear h4
  obtain ⟨nm, es⟩ : ∃ s, str L.name = s := ⟨_, rfl⟩
  rw [es]
  clear es
  rw [← sig_idx]
  have K := fun W (h : Below w.heap.size w W) B (c0 : W.cell? ⟨B, 0, none⟩ = some (.int .i64 e)) (c1 : W.cell? ⟨B, 1, none⟩ = some (.int .i64 s)) => index_G _ L.sigs W 37 (.pointer (some ⟨B, 0, none⟩)) (fun x => x.at_ == (e, s)) (enters_of Tryd.func37 (by kernel_rfl) rfl) (H2.out.below h) (fun x _ ww hb => signal1_any x ww B (e, s) ((hb.cell (p := ⟨B, 0, none⟩) (World.block_lt_of_cell? W _ c0)).trans c0) ((hb.cell (p := ⟨B, 1, none⟩) (World.block_lt_of_cell? W _ c1)).trans c1))
  replace K := Lib.hid K
  go_enter Tryd.func13, Tryd.ntmps13
  go_wp2_with fail
  refine (K.out _ (((Below.refl _ _).alloc (Nat.le_refl _) _).alloc (by simp) _) _ (by simp) (by simp)).mono ?_
  rintro e w1 ⟨rfl, h⟩
  go_wp2
  go_ret
  exact ⟨rfl, (((Below.refl _ _).alloc (Nat.le_refl _) _).alloc (by simp) _).trans (h.mono (by simp; omega))⟩
end Go.Proofs.YthoodaldmfojaaaDoor
