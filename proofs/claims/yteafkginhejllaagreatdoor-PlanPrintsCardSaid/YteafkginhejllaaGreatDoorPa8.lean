/- Contract of Parse. Conditions: bounds on the length; what the program reads (GT, GW). -/
import Derived.Test.YteafkginhejllaaGreatDoorCw8
import Derived.Test.YteafkginhejllaaGreatDoorPr8
namespace Go.Proofs.YteafkginhejllaaGreatDoor
open Go.ChangeShapes Go.WideShapes Go.ChangeAt Go.RowKit
theorem wlen_ge (ws : List L8) : ws.length ≤ wlen ws ∧ ∀ x ∈ ws, x.length ≤ wlen ws := by
  induction ws with
  | nil => simp
  | cons w r ih =>
    obtain ⟨h1, h2⟩ := ih
    have e : wlen (w :: r) = w.length + 1 + wlen r := by simp [wlen]
    rw [e]
    refine ⟨by simp; omega, fun x hx => ?_⟩
    simp only [List.mem_cons] at hx
    rcases hx with rfl | hx
    · omega
    · have := h2 x hx; omega
theorem textL_ge : ∀ (m : List (List L8)), m.all isL = true → m.length ≤ (textL m).length ∧ ∀ ws ∈ m, 0 < ws.length ∧ ws.length ≤ (textL m).length ∧ ∀ x ∈ ws, x.length ≤ (textL m).length
  | [], _ => by simp
  | l :: m, h => by
    simp only [List.all_cons, Bool.and_eq_true] at h
    obtain ⟨h1, h2⟩ := textL_ge m h.2
    have e : (textL (l :: m)).length = (lineT l).length + (textL m).length := by
      rw [show l :: m = [l] ++ m from rfl, textL_app, List.length_append]
      congr 1
      simp [textL]
    have hl0 : l ≠ [] := by
      intro e0; subst e0
      have := h.1
      simp [isL] at this
    obtain ⟨w, r, rfl⟩ : ∃ w r, l = w :: r := by cases l with | nil => exact absurd rfl hl0 | cons a b => exact ⟨a, b, rfl⟩
    have hw := lineT_len2 (w := w) (ws := r)
    obtain ⟨g1, g2⟩ := wlen_ge (w :: r)
    rw [e, hw]
    refine ⟨by simp at g1 ⊢; omega, fun ws hm => ?_⟩
    simp only [List.mem_cons] at hm
    rcases hm with rfl | hm
    · exact ⟨by simp, by omega, fun x hx => by have := g2 x hx; omega⟩
    · obtain ⟨a, b, c⟩ := h2 ws hm
      exact ⟨a, by omega, fun x hx => by have := c x hx; omega⟩
theorem lines_small {s : L8} (h : (linesR s).2.2 = 0) : (linesR s).1.length ≤ 32768 ∧ ∀ ws ∈ (linesR s).1, 0 < ws.length ∧ ws.length ≤ 32768 ∧ ∀ x ∈ ws, x.length ≤ 32768 := by
  obtain ⟨t1, t2, t3⟩ := text_back h
  have := textL_ge _ t2
  rw [t1] at this
  exact ⟨by omega, fun ws hm => by obtain ⟨a, b, c⟩ := this.2 ws hm; exact ⟨a, by omega, fun x hx => by have := c x hx; omega⟩⟩
theorem names_in (L : LayD) : ∀ s ∈ allNames L, ∃ l ∈ linesOf L, s ∈ l := by
  intro s hs
  simp only [allNames, List.mem_append, List.mem_singleton, List.mem_map] at hs
  rcases hs with ((rfl | hs) | ⟨x, hx, rfl⟩) | ⟨x, hx, rfl⟩
  · exact ⟨[kLayout, L.name], by simp [linesOf], by simp⟩
  · exact ⟨[kSection, s], by simp only [linesOf, List.mem_cons, List.mem_append, List.mem_map]; exact Or.inr (Or.inl ⟨s, hs, rfl⟩), by simp⟩
  · refine ⟨elLine L.secs x, by simp only [linesOf, List.mem_cons, List.mem_append, List.mem_map]; exact Or.inr (Or.inr (Or.inl ⟨x, hx, rfl⟩)), ?_⟩
    unfold elLine
    repeat' split
    all_goals simp
  · refine ⟨sgLine L.els x, by simp only [linesOf, List.mem_cons, List.mem_append, List.mem_map]; exact Or.inr (Or.inr (Or.inr (Or.inr (Or.inl ⟨x, hx, rfl⟩)))), by simp [sgLine]⟩
theorem big_lines {L : LayD} {s : L8} (h : (linesR s).2.2 = 0) (hL : linesOf L = (linesR s).1) : BigL L := by
  obtain ⟨h1, h2⟩ := lines_small h
  rw [← hL] at h1 h2
  rw [lines_len] at h1
  refine ⟨by omega, by omega, fun x hx => ?_⟩
  obtain ⟨l, hl, hx⟩ := names_in L x hx
  have := (h2 l hl).2.2 x hx
  omega
theorem parse_of {s : L8} (h : (linesR s).2.2 = 0) (hm : (linesR s).1 ≠ []) :
    ((outC (linesR s).1).2.2 ≠ 0 → parseS s = (zeroL, (outC (linesR s).1).2.1, (outC (linesR s).1).2.2)) ∧
    ((outC (linesR s).1).2.2 = 0 → BigL (outC (linesR s).1).1 ∧ parseS s = if checkS isName (outC (linesR s).1).1 = 0 then ((outC (linesR s).1).1, 0, 0) else (zeroL, 0, checkS isName (outC (linesR s).1).1)) := by
  have e1 : parseS s = parseL (linesR s).1 := by unfold parseS; rw [if_pos h]
  rw [e1]
  unfold parseL outC
  rw [if_neg hm]
  cases hr : runS start (linesR s).1 with
  | inl e =>
    have := (run_err _ _ _ hr).1
    exact ⟨fun _ => rfl, fun h => absurd h this⟩
  | inr st => exact ⟨fun h => absurd rfl h, fun _ => ⟨big_lines h (lines_back hr hm), rfl⟩⟩
set_option maxRecDepth 100000 in
set_option maxHeartbeats 4000000 in
theorem parse_any (s : L8) (w : World) (hT : GT w) (hG : GW w) (hl : s.length ≤ 100000) : Calls Tryz.prog 12 #[str s] w (RetC w (parseS s)) := by
  obtain ⟨W0, hW0⟩ : ∃ W0, W0 = w.alloc (.cells zL 28) := ⟨_, rfl⟩
  have b0 : Below w.heap.size w W0 := by rw [hW0]; exact (Below.refl _ _).alloc (Nat.le_refl _) _
  have GR : Blk W0 w.heap.size zL := by rw [hW0]; exact Blk.new _ _ _ _ rfl
  have K1 := lines_any s W0 (hT.below b0) hl
  obtain ⟨Q, hQ⟩ : ∃ Q, parseS s = Q := ⟨_, rfl⟩
  rw [hQ]
  by_cases hl0 : ¬ (linesR s).2.2 = 0
  · have E : Q = (zeroL, (linesR s).2.1, (linesR s).2.2) := by rw [← hQ]; unfold parseS; rw [if_neg hl0]
    have t : ((linesR s).2.2 == 0) = false := by simpa using hl0
    obtain ⟨q, hq⟩ : ∃ q, linesR s = q := ⟨_, rfl⟩
    rw [hq] at K1 E t
    obtain ⟨ls, n1, e1⟩ := q
    simp only at E t
    subst E
    clear hQ hl0 hq hT hG
    go_enter Tryz.func12, Tryz.ntmps12
    go_wp2_with (
      rw [← hW0]
      clear hW0
      go_at_call 14
      refine K1.mono ?_
      rintro e w2 ⟨v2, rfl, _, B2⟩
      have hR2 := GR.below B2
      have c0 := hR2.at 0 _ rfl
      have c1 := hR2.at 1 _ rfl
      have c2 := hR2.at 2 _ rfl
      have c3 := hR2.at 3 _ rfl
      have c4 := hR2.at 4 _ rfl
      have c5 := hR2.at 5 _ rfl
      have f0 := hR2.free 0
      have f1 := hR2.free 1
      have f2 := hR2.free 2
      have f3 := hR2.free 3
      have f4 := hR2.free 4
      have f5 := hR2.free 5
      clear K1)
    have bb := b0.trans (B2.mono b0.size)
    refine ret_cell3 rfl Tryz.underlying28 rfl (cs := #[_, _, _, _, _, _]) (by kernel_rfl) rfl ((((((hR2.set 0 _).set 1 _).set 2 _).set 3 _).set 4 _).set 5 _) rfl ⟨_, rfl, ?_, ?_⟩
    · exact layO_zero _ _
    · exact below_set (B := w.heap.size) (below_set (B := w.heap.size) (below_set (B := w.heap.size) (below_set (B := w.heap.size) (below_set (B := w.heap.size) (below_set (B := w.heap.size) bb (Nat.le_refl _) _ _) (Nat.le_refl _) _ _) (Nat.le_refl _) _ _) (Nat.le_refl _) _ _) (Nat.le_refl _) _ _) (Nat.le_refl _) _ _
  · have hl1 : (linesR s).2.2 = 0 := Classical.not_not.1 hl0
    have hP := parse_of (s := s) hl1
    obtain ⟨hsm, hsw⟩ := lines_small hl1
    obtain ⟨q, hq⟩ : ∃ q, linesR s = q := ⟨_, rfl⟩
    have hQ0 : q.1 = [] → parseS s = (zeroL, 1, 4) := by
      intro h
      subst hq
      unfold parseS parseL
      rw [if_pos hl1, if_pos h]
    rw [hq] at K1 hP hsm hsw hl1
    rw [hQ] at hP hQ0
    obtain ⟨ls, n1, e1⟩ := q
    simp only at hl1 hP hQ0 hsm hsw
    subst hl1
    clear hl0 hq hQ
    by_cases hm : ls = []
    · have E := hQ0 hm
      subst E
      subst hm
      clear hP hQ0 hT hG
      go_enter Tryz.func12, Tryz.ntmps12
      go_wp2_with (
        rw [← hW0]
        clear hW0
        go_at_call 14
        refine K1.mono ?_
        rintro e w2 ⟨v2, rfl, hv, B2⟩
        obtain ⟨a2, k2, rfl, _, _⟩ := hv.open
        have hR2 := GR.below B2
        have c0 := hR2.at 0 _ rfl
        have c1 := hR2.at 1 _ rfl
        have c2 := hR2.at 2 _ rfl
        have c3 := hR2.at 3 _ rfl
        have c4 := hR2.at 4 _ rfl
        have c5 := hR2.at 5 _ rfl
        have f0 := hR2.free 0
        have f1 := hR2.free 1
        have f2 := hR2.free 2
        have f3 := hR2.free 3
        have f4 := hR2.free 4
        have f5 := hR2.free 5
        clear K1)
      have bb := b0.trans (B2.mono b0.size)
      refine ret_cell3 rfl Tryz.underlying28 rfl (cs := #[_, _, _, _, _, _]) (by kernel_rfl) rfl ((((((hR2.set 0 _).set 1 _).set 2 _).set 3 _).set 4 _).set 5 _) rfl ⟨_, rfl, ?_, ?_⟩
      · exact layO_zero _ _
      · exact below_set (B := w.heap.size) (below_set (B := w.heap.size) (below_set (B := w.heap.size) (below_set (B := w.heap.size) (below_set (B := w.heap.size) (below_set (B := w.heap.size) bb (Nat.le_refl _) _ _) (Nat.le_refl _) _ _) (Nat.le_refl _) _ _) (Nat.le_refl _) _ _) (Nat.le_refl _) _ _) (Nat.le_refl _) _ _
    · obtain ⟨hE1, hE2⟩ := hP hm
      have hne : ((ls.length : Int) == 0) = false := by
        have : 0 < ls.length := List.length_pos_iff.2 hm
        simp; omega
      have KC := fun v W (h : LL W v ls) (g : GT W) => compose_any v ls W h g (by omega) (fun ws hw => by obtain ⟨a, b, c⟩ := hsw ws hw; exact ⟨a, by omega, fun x hx => by have := c x hx; omega⟩)
      clear hP hQ0 hsm hsw hm
      obtain ⟨q, hq⟩ : ∃ q, outC ls = q := ⟨_, rfl⟩
      rw [hq] at KC hE1 hE2
      obtain ⟨L, n2, e2⟩ := q
      simp only at hE1 hE2
      clear hq
      go_enter Tryz.func12, Tryz.ntmps12
      go_upto_region 7 with (first
          | (rw [← hW0]
             clear hW0
             go_at_call 14
             refine K1.mono ?_
             rintro e w2 ⟨v2, rfl, hv, B2⟩
             have K2 := KC _ _ hv (hT.below (b0.trans (B2.mono b0.size)))
             obtain ⟨a2, k2, rfl, _, _⟩ := hv.open
             clear K1)
          | (go_at_call 36
             refine K2.mono ?_
             rintro e w3 ⟨v3, rfl, hLO, B3⟩
             have HLO := Lib.hid hLO
             obtain ⟨_, _, _, _, _, rfl, o1, o2, o3, o4, o5⟩ := hLO
             obtain ⟨p1, r1, rfl⟩ := own_shape o1
             obtain ⟨p2, r2, rfl⟩ := own_shape o2
             obtain ⟨p3, r3, rfl⟩ := own_shape o3
             obtain ⟨p4, r4, rfl⟩ := own_shape o4
             obtain ⟨p5, r5, rfl⟩ := own_shape o5
             clear o1 o2 o3 o4 o5 K2))
      obtain ⟨W4, hW4⟩ : ∃ W, W = w3.alloc (.cells #[.string ⟨L.name.toArray⟩, .slice p1 L.secs.length r1, .slice p2 L.els.length r2, .slice p3 L.joints.length r3, .slice p4 L.sigs.length r4, .slice p5 L.bals.length r5] 28) := ⟨_, rfl⟩
      rw [← hW4]
      have B4 : Below w3.heap.size w3 W4 := by rw [hW4]; exact (Below.refl _ _).alloc (Nat.le_refl _) _
      have HB4 : Blk W4 w3.heap.size #[.string ⟨L.name.toArray⟩, .slice p1 L.secs.length r1, .slice p2 L.els.length r2, .slice p3 L.joints.length r3, .slice p4 L.sigs.length r4, .slice p5 L.bals.length r5] := by rw [hW4]; exact Blk.new _ _ _ _ rfl
      have HR4 := ((GR.below B2).below B3).below B4
      have hLO4 := HLO.out.below B4
      have BB4 : Below w.heap.size w W4 := b0.trans ((B2.trans ((B3.trans (B4.mono B3.size)).mono B2.size)).mono b0.size)
      have hRw : w.heap.size < w2.heap.size := by
        have := B2.size
        have h1 := GR.lt
        omega
      clear hW4 HLO B2 B3 B4 hv KC
      by_cases he : e2 = 0
      · obtain ⟨hbig, E⟩ := hE2 he
        subst he
        clear hE1 hE2
        have K4 := check_any _ L W4 (hG.below BB4) hLO4.rlay hbig
        have y0 := HB4.at 0 _ rfl
        have y1 := HB4.at 1 _ rfl
        have y2 := HB4.at 2 _ rfl
        have y3 := HB4.at 3 _ rfl
        have y4 := HB4.at 4 _ rfl
        have y5 := HB4.at 5 _ rfl
        by_cases hc : checkS isName L = 0
        · rw [if_pos hc] at E
          subst E
          rw [hc] at K4
          clear hc hG hT hbig
          go_wp2_with (
             go_at_call 11
             refine K4.mono ?_
             rintro e w5 ⟨rfl, B5⟩
             have HR := HR4.below B5
             have HB5 := HB4.below B5
             have hLO5 := hLO4.below B5
             have BB := BB4.trans (B5.mono BB4.size)
             clear y0 y1 y2 y3 y4 y5 HR4 HB4
             have z0 := HB5.at 0 _ rfl
             have z1 := HB5.at 1 _ rfl
             have z2 := HB5.at 2 _ rfl
             have z3 := HB5.at 3 _ rfl
             have z4 := HB5.at 4 _ rfl
             have z5 := HB5.at 5 _ rfl
             have c0 := HR.at 0 _ rfl
             have c1 := HR.at 1 _ rfl
             have c2 := HR.at 2 _ rfl
             have c3 := HR.at 3 _ rfl
             have c4 := HR.at 4 _ rfl
             have c5 := HR.at 5 _ rfl
             have f0 := HR.free 0
             have f1 := HR.free 1
             have f2 := HR.free 2
             have f3 := HR.free 3
             have f4 := HR.free 4
             have f5 := HR.free 5)
          refine ret_cell3 rfl Tryz.underlying28 rfl (cs := #[_, _, _, _, _, _]) (by kernel_rfl) rfl ((((((HR.set 0 _).set 1 _).set 2 _).set 3 _).set 4 _).set 5 _) rfl ⟨_, rfl, ?_, ?_⟩
          · exact LayO.low ((((((hLO5.setR hRw 0 _).setR hRw 1 _).setR hRw 2 _).setR hRw 3 _).setR hRw 4 _).setR hRw 5 _) (by omega)
          · exact below_set (B := w.heap.size) (below_set (B := w.heap.size) (below_set (B := w.heap.size) (below_set (B := w.heap.size) (below_set (B := w.heap.size) (below_set (B := w.heap.size) BB (Nat.le_refl _) _ _) (Nat.le_refl _) _ _) (Nat.le_refl _) _ _) (Nat.le_refl _) _ _) (Nat.le_refl _) _ _) (Nat.le_refl _) _ _
        · rw [if_neg hc] at E
          have t : (checkS isName L == 0) = false := by simpa using hc
          obtain ⟨ce, hce⟩ : ∃ e, checkS isName L = e := ⟨_, rfl⟩
          rw [hce] at K4 t E
          subst E
          clear hc hce hG hT hbig
          go_wp2_with (
             go_at_call 11
             refine K4.mono ?_
             rintro e w5 ⟨rfl, B5⟩
             have HR := HR4.below B5
             have BB := BB4.trans (B5.mono BB4.size)
             clear y0 y1 y2 y3 y4 y5 HR4 HB4
             have c0 := HR.at 0 _ rfl
             have c1 := HR.at 1 _ rfl
             have c2 := HR.at 2 _ rfl
             have c3 := HR.at 3 _ rfl
             have c4 := HR.at 4 _ rfl
             have c5 := HR.at 5 _ rfl
             have f0 := HR.free 0
             have f1 := HR.free 1
             have f2 := HR.free 2
             have f3 := HR.free 3
             have f4 := HR.free 4
             have f5 := HR.free 5)
          refine ret_cell3 rfl Tryz.underlying28 rfl (cs := #[_, _, _, _, _, _]) (by kernel_rfl) rfl ((((((HR.set 0 _).set 1 _).set 2 _).set 3 _).set 4 _).set 5 _) rfl ⟨_, rfl, ?_, ?_⟩
          · exact layO_zero _ _
          · exact below_set (B := w.heap.size) (below_set (B := w.heap.size) (below_set (B := w.heap.size) (below_set (B := w.heap.size) (below_set (B := w.heap.size) (below_set (B := w.heap.size) BB (Nat.le_refl _) _ _) (Nat.le_refl _) _ _) (Nat.le_refl _) _ _) (Nat.le_refl _) _ _) (Nat.le_refl _) _ _) (Nat.le_refl _) _ _
      · have E := hE1 he
        have t : (e2 == 0) = false := by simpa using he
        subst E
        clear hE1 hE2 hG hT
        have HR := HR4
        have BB := BB4
        have c0 := HR.at 0 _ rfl
        have c1 := HR.at 1 _ rfl
        have c2 := HR.at 2 _ rfl
        have c3 := HR.at 3 _ rfl
        have c4 := HR.at 4 _ rfl
        have c5 := HR.at 5 _ rfl
        have f0 := HR.free 0
        have f1 := HR.free 1
        have f2 := HR.free 2
        have f3 := HR.free 3
        have f4 := HR.free 4
        have f5 := HR.free 5

        go_wp2
        refine ret_cell3 rfl Tryz.underlying28 rfl (cs := #[_, _, _, _, _, _]) (by kernel_rfl) rfl ((((((HR.set 0 _).set 1 _).set 2 _).set 3 _).set 4 _).set 5 _) rfl ⟨_, rfl, ?_, ?_⟩
        · exact layO_zero _ _
        · exact below_set (B := w.heap.size) (below_set (B := w.heap.size) (below_set (B := w.heap.size) (below_set (B := w.heap.size) (below_set (B := w.heap.size) (below_set (B := w.heap.size) BB (Nat.le_refl _) _ _) (Nat.le_refl _) _ _) (Nat.le_refl _) _ _) (Nat.le_refl _) _ _) (Nat.le_refl _) _ _) (Nat.le_refl _) _ _
end Go.Proofs.YteafkginhejllaaGreatDoor
