/- The walk of the law on lines that are restored. Conditions: what the library reads (GW); the lengths' bounds of the reach. -/
import Derived.Test.YtblcigddinmiaaaDoorLawsB5
namespace Go.Proofs.YtblcigddinmiaaaDoor
open Go.ChangeShapes Go.WideShapes Go.ChangeAt Go.RowKit
theorem rt_lines {ll : List (List L8)} (h : (joinR ll).2 = 0) : linesR (joinR ll).1 = (ll, 0, 0) ∧ (joinR ll).1.length ≤ 100000 := by
  unfold joinR at h ⊢
  by_cases ha : ll.all isL = true
  · rw [if_pos ha] at h ⊢
    by_cases hb : 32768 < (textL ll).length
    · rw [if_pos hb] at h; simp at h
    · rw [if_neg hb]
      refine ⟨?_, by simp only; omega⟩
      rw [linesR_of hb, scan_text ll [] ha]; rfl
  · rw [if_neg ha] at h; simp at h
theorem tl_mem {ll : List (List L8)} {y : List L8} (h : y ∈ ll) : wl y ≤ tl ll := by
  obtain ⟨k, hk⟩ := List.mem_iff_getElem?.1 h
  obtain ⟨h1, h2⟩ := List.getElem?_eq_some_iff.1 hk
  have e := tl_snoc (ll.take k) y
  have e2 : ll.take k ++ [y] = ll.take (k + 1) := by rw [List.take_succ_eq_append_getElem h1, h2]
  rw [e2] at e
  have := take_le_tl (y := ll) (k + 1)
  omega
theorem wl_mem (y : List L8) : y.length ≤ wl y := by
  induction y with
  | nil => simp [wl]
  | cons x y ih => simp only [wl, List.map_cons, List.sum_cons, List.length_cons] at ih ⊢; omega
theorem tl_ge : ∀ (ll : List (List L8)), ll.all isL = true → ll.length ≤ tl ll
  | [], _ => by simp [tl]
  | y :: ll, h => by
    simp only [List.all_cons, Bool.and_eq_true] at h
    have h1 := tl_ge ll h.2
    have h2 := isL_pos h.1
    have h3 := wl_mem y
    simp only [tl, List.map_cons, List.sum_cons, List.length_cons] at h1 ⊢; omega
theorem fits_text {ll : List (List L8)} (ha : ll.all isL = true) (hl : (textL ll).length ≤ 100000) : Fits ll := by
  rw [textL_len ll ha] at hl
  refine ⟨Nat.le_trans (tl_ge ll ha) hl, fun l hm => ⟨?_, fun s hs => ?_⟩⟩
  · exact Nat.le_trans (wl_mem l) (Nat.le_trans (tl_mem hm) hl)
  · have := (isW_len (isL_all (List.all_eq_true.1 ha l hm) s hs)).2
    omega
theorem rt_text {s : L8} (h : (linesR s).2.2 = 0) : joinR (linesR s).1 = (s, 0) ∧ Fits (linesR s).1 := by
  by_cases hl : 32768 < s.length
  · rw [linesR_long hl] at h; simp at h
  · rw [linesR_of hl] at h ⊢
    cases hs : scan [] [] [] s with
    | bad n => rw [hs] at h; simp [outLines] at h
    | ok m =>
      obtain ⟨l, e1, e2, ha⟩ := text_of_scan _ s [] m (Nat.le_refl _) hs
      rw [List.nil_append] at e1
      subst e1
      have hm : (textL m).length ≤ 100000 := by rw [e2]; omega
      refine ⟨?_, (fits_text ha hm : Fits m)⟩
      simp only [outLines, joinR, if_pos ha, e2, if_neg hl]
set_option maxRecDepth 100000 in
set_option maxHeartbeats 4000000 in
theorem round_all (v : Value) (ll : List (List L8)) (s : L8) (w : World) (hG : GW w) (hv : LL w v ll) (h1 : ll.length ≤ 140737488355328) (h2 : ∀ l ∈ ll, l.length ≤ 140737488355328 ∧ ∀ s ∈ l, s.length ≤ 9223372036854775807) (hl : s.length ≤ 9223372036854775807) : Calls Tryd.prog 6 #[v, str s] w (RetB w true) := by
  have hs := Lib.hid (sb_size s)
  have HV := Lib.hid hv
  have KS := small_any v ll w hv h1 h2
  clear hv h1 h2
  go_enter Tryd.func6, Tryd.ntmps6
  go_wp2_with fail
  refine KS.mono ?_
  rintro e w0 ⟨b, rfl, rfl, hb⟩
  clear KS
  cases b with
  | false =>
    clear hb
    go_wp2_with fail
    refine (alive_any _ hG).mono ?_
    rintro e w1 ⟨rfl, b1⟩
    go_wp2
    go_ret
    exact ⟨rfl, b1⟩
  | true =>
    have hF := (hb rfl).fits
    clear hb
    by_cases c : 34000 < s.length
    · have t : decide ((34000 : Int) < (s.length : Int)) = true := by simp; omega
      clear c
      go_wp2_with fail
      refine (alive_any _ hG).mono ?_
      rintro e w1 ⟨rfl, b1⟩
      go_wp2
      go_ret
      exact ⟨rfl, b1⟩
    · have t : decide ((34000 : Int) < (s.length : Int)) = false := by simp; omega
      have K1 := fun u ww hh => join_any u ll ww hh hF
      have P1 := fun h => rt_lines (ll := ll) h
      obtain ⟨⟨x, e0⟩, hx⟩ : ∃ x, joinR ll = x := ⟨_, rfl⟩
      simp only [hx] at K1 P1
      replace hx := Lib.hid hx
      have K3 := fun ww hh => lines_any s ww hh (by omega)
      have P2 := fun h => rt_text (s := s) h
      obtain ⟨⟨y, n0, f0⟩, hy⟩ : ∃ y, linesR s = y := ⟨_, rfl⟩
      simp only [hy] at K3 P2
      replace hy := Lib.hid hy
      clear c hF
      have HB := Below.refl w.heap.size w
      by_cases he : e0 = 0
      · obtain ⟨p1, p2⟩ := P1 he
        have K2 := fun ww hh => lines_any x ww hh p2
        simp only [p1] at K2
        replace p1 := Lib.hid p1
        subst he
        clear P1
        by_cases hf : f0 = 0
        · obtain ⟨p3, p4⟩ := P2 hf
          have K4 := fun u ww hh => join_any u y ww hh p4
          simp only [p3] at K4
          replace p3 := Lib.hid p3
          replace p4 := Lib.hid p4
          subst hf
          clear P2
          go_wp2_with fail
          refine (K1 _ _ HV.out).mono ?_
          rintro e w1 ⟨rfl, bb⟩
          replace HV := Lib.hid (HV.out.below bb)
          replace HB := HB.trans (bb.mono HB.size)
          clear bb K1
          go_wp2_with fail
          refine (K2 _ (hG.below HB)).mono ?_
          rintro e w2 ⟨v2, rfl, R2, bb⟩
          replace HV := Lib.hid (HV.out.below bb)
          replace HB := HB.trans (bb.mono HB.size)
          replace R2 := Lib.hid R2
          clear bb K2
          go_wp2_with fail
          refine (same_any _ _ ll _ R2.out HV.out).mono ?_
          intro e w3 hh
          obtain ⟨rfl, bb⟩ := hh.below
          replace HV := Lib.hid (HV.out.below bb)
          replace HB := HB.trans (bb.mono HB.size)
          clear bb hh R2
          go_wp2_with fail
          refine (K3 _ (hG.below HB)).mono ?_
          rintro e w4 ⟨v4, rfl, R4, bb⟩
          replace HB := HB.trans (bb.mono HB.size)
          replace R4 := Lib.hid R4
          clear bb K3
          go_wp2_with fail
          refine (K4 _ _ R4.out).mono ?_
          rintro e w5 ⟨rfl, bb⟩
          replace HB := HB.trans (bb.mono HB.size)
          clear bb K4 R4
          go_wp2_with fail
          refine (alive_any _ (hG.below HB)).mono ?_
          rintro e w6 ⟨rfl, bb⟩
          replace HB := HB.trans (bb.mono HB.size)
          go_wp2
          go_ret
          exact ⟨rfl, HB⟩
        · have t1 : ((f0 : Int) == 0) = false := by simpa using hf
          clear P2
          go_wp2_with fail
          refine (K1 _ _ HV.out).mono ?_
          rintro e w1 ⟨rfl, bb⟩
          replace HV := Lib.hid (HV.out.below bb)
          replace HB := HB.trans (bb.mono HB.size)
          clear bb K1
          go_wp2_with fail
          refine (K2 _ (hG.below HB)).mono ?_
          rintro e w2 ⟨v2, rfl, R2, bb⟩
          replace HV := Lib.hid (HV.out.below bb)
          replace HB := HB.trans (bb.mono HB.size)
          replace R2 := Lib.hid R2
          clear bb K2
          go_wp2_with fail
          refine (same_any _ _ ll _ R2.out HV.out).mono ?_
          intro e w3 hh
          obtain ⟨rfl, bb⟩ := hh.below
          replace HV := Lib.hid (HV.out.below bb)
          replace HB := HB.trans (bb.mono HB.size)
          clear bb hh R2
          go_wp2_with fail
          refine (K3 _ (hG.below HB)).mono ?_
          rintro e w4 ⟨v4, rfl, R4, bb⟩
          replace HB := HB.trans (bb.mono HB.size)
          replace R4 := Lib.hid R4
          clear bb K3
          go_wp2_with fail
          refine (alive_any _ (hG.below HB)).mono ?_
          rintro e w6 ⟨rfl, bb⟩
          replace HB := HB.trans (bb.mono HB.size)
          go_wp2
          go_ret
          exact ⟨rfl, HB⟩
      · have t0 : ((e0 : Int) == 0) = false := by simpa using he
        clear P1
        by_cases hf : f0 = 0
        · obtain ⟨p3, p4⟩ := P2 hf
          have K4 := fun u ww hh => join_any u y ww hh p4
          simp only [p3] at K4
          replace p3 := Lib.hid p3
          replace p4 := Lib.hid p4
          subst hf
          clear P2
          go_wp2_with fail
          refine (K1 _ _ HV.out).mono ?_
          rintro e w1 ⟨rfl, bb⟩
          replace HV := Lib.hid (HV.out.below bb)
          replace HB := HB.trans (bb.mono HB.size)
          clear bb K1
          go_wp2_with fail
          refine (K3 _ (hG.below HB)).mono ?_
          rintro e w4 ⟨v4, rfl, R4, bb⟩
          replace HB := HB.trans (bb.mono HB.size)
          replace R4 := Lib.hid R4
          clear bb K3
          go_wp2_with fail
          refine (K4 _ _ R4.out).mono ?_
          rintro e w5 ⟨rfl, bb⟩
          replace HB := HB.trans (bb.mono HB.size)
          clear bb K4 R4
          go_wp2_with fail
          refine (alive_any _ (hG.below HB)).mono ?_
          rintro e w6 ⟨rfl, bb⟩
          replace HB := HB.trans (bb.mono HB.size)
          go_wp2
          go_ret
          exact ⟨rfl, HB⟩
        · have t1 : ((f0 : Int) == 0) = false := by simpa using hf
          clear P2
          go_wp2_with fail
          refine (K1 _ _ HV.out).mono ?_
          rintro e w1 ⟨rfl, bb⟩
          replace HV := Lib.hid (HV.out.below bb)
          replace HB := HB.trans (bb.mono HB.size)
          clear bb K1
          go_wp2_with fail
          refine (K3 _ (hG.below HB)).mono ?_
          rintro e w4 ⟨v4, rfl, R4, bb⟩
          replace HB := HB.trans (bb.mono HB.size)
          replace R4 := Lib.hid R4
          clear bb K3
          go_wp2_with fail
          refine (alive_any _ (hG.below HB)).mono ?_
          rintro e w6 ⟨rfl, bb⟩
          replace HB := HB.trans (bb.mono HB.size)
          go_wp2
          go_ret
          exact ⟨rfl, HB⟩
end Go.Proofs.YtblcigddinmiaaaDoor
