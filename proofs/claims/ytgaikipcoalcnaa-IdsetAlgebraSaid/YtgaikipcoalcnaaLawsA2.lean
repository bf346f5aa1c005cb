/- The walks of the five statements of layer 2: each returns true and changes nothing that was there. -/
import Derived.Test.YtgaikipcoalcnaaAlive2
namespace Go.Proofs.Ytgaikipcoalcnaa
open Go.ChangeShapes Go.WideShapes Go.ChangeAt Go.RowKit
def large (l m : List Int) : Bool := decide (200 < l.length ∨ 200 < m.length)
theorem largeb (v u : Value) (l m : List Int) (w : World) (hv : RS w v (intsV l)) (hu : RS w u (intsV m)) :
    Calls Try.prog 8 #[v, u] w fun e w' => e = .returned (.bool (large l m)) ∧ w = w' :=
  large_any v u l m w _ hv hu (by simp [large])
set_option maxHeartbeats 4000000 in
theorem makes_any (v : Value) (l : List Int) (w : World) (hl : RS w v (intsV l)) :
    Calls Try.prog 3 #[v] w (RetB w true) := by
  replace hl := Lib.hid hl
  have HB := Below.refl w.heap.size w
  cases hg : large l []
  case false =>
    have b1 : l.length ≤ 200 := by simpa [large] using hg
    have b2 := mk_length l
    replace hg := Lib.hid hg
    go_enter Try.func3, Try.ntmps3
    go_wp2_with fail
    refine (largeb _ _ l [] _ hl.out (RS.nil _ _ _)).mono ?_
    rintro e w' ⟨rfl, rfl⟩
    rw [hg.out]
    go_wp2_with fail
    refine (make_any _ l _ hl.out (by omega)).mono ?_
    rintro e W2 ⟨v2, rfl, R1, bb⟩
    replace R1 := Lib.hid R1
    replace hl := Lib.hid (hl.out.below bb)
    replace HB := HB.trans (bb.mono HB.size)
    clear bb
    go_wp2_with fail
    refine (rmake_any _ l _ hl.out (by omega)).mono ?_
    rintro e W3 ⟨v3, rfl, R2, bb⟩
    replace R2 := Lib.hid R2
    replace hl := Lib.hid (hl.out.below bb)
    replace R1 := Lib.hid (R1.out.below bb)
    replace HB := HB.trans (bb.mono HB.size)
    clear bb
    go_wp2_with fail
    refine (same_any _ _ (mk l) _ R1.out R2.out).mono ?_
    rintro e W4 ⟨rfl, bb⟩
    clear R2
    replace hl := Lib.hid (hl.out.below bb)
    replace R1 := Lib.hid (R1.out.below bb)
    replace HB := HB.trans (bb.mono HB.size)
    clear bb
    go_wp2_with fail
    refine (make_any _ (mk l) _ R1.out (by omega)).mono ?_
    rintro e W5 ⟨v5, rfl, R3, bb⟩
    replace R3 := Lib.hid R3
    replace hl := Lib.hid (hl.out.below bb)
    replace R1 := Lib.hid (R1.out.below bb)
    replace HB := HB.trans (bb.mono HB.size)
    clear bb
    rw [mk_mk] at R3
    go_wp2_with fail
    refine (same_any _ _ (mk l) _ R3.out R1.out).mono ?_
    rintro e W6 ⟨rfl, bb⟩
    clear R3
    clear R1
    replace hl := Lib.hid (hl.out.below bb)
    replace HB := HB.trans (bb.mono HB.size)
    clear bb
    go_wp2_with fail
    refine (alive_any _).mono ?_
    rintro e W7 ⟨rfl, bb⟩
    replace hl := Lib.hid (hl.out.below bb)
    replace HB := HB.trans (bb.mono HB.size)
    clear bb
    go_wp2
    go_ret
    exact ⟨rfl, HB⟩
  case true =>
    replace hg := Lib.hid hg
    go_enter Try.func3, Try.ntmps3
    go_wp2_with fail
    refine (largeb _ _ l [] _ hl.out (RS.nil _ _ _)).mono ?_
    rintro e w' ⟨rfl, rfl⟩
    rw [hg.out]
    go_wp2_with fail
    refine (alive_any _).mono ?_
    rintro e W2 ⟨rfl, bb⟩
    replace hl := Lib.hid (hl.out.below bb)
    replace HB := HB.trans (bb.mono HB.size)
    clear bb
    go_wp2
    go_ret
    exact ⟨rfl, HB⟩
theorem within_refl (l : List Int) : within l l = true := by
  unfold within
  rw [beq_iff_eq, sel_empty_iff]
  exact fun _ h => h
set_option maxHeartbeats 4000000 in
theorem hasl_any (v u : Value) (l m : List Int) (n : Int) (w : World) (hl : RS w v (intsV l)) (hm : RS w u (intsV m)) :
    Calls Try.prog 4 #[v, u, .int .i64 n] w (RetB w true) := by
  replace hl := Lib.hid hl
  replace hm := Lib.hid hm
  have HB := Below.refl w.heap.size w
  cases hg : large l m
  case false =>
    have b0 : l.length ≤ 200 ∧ m.length ≤ 200 := by simpa [large] using hg
    obtain ⟨b1, b2⟩ := b0
    have e1 := Lib.hid (within_refl l)
    have e2 : ((l.contains n) == (l.contains n)) = true := by simp
    have e3 : ((within l m) == (within l m)) = true := by simp
    replace hg := Lib.hid hg
    go_enter Try.func4, Try.ntmps4
    go_wp2_with fail
    refine (largeb _ _ l m _ hl.out hm.out).mono ?_
    rintro e w' ⟨rfl, rfl⟩
    rw [hg.out]
    go_wp2_with fail
    refine (has_any _ l n _ hl.out).mono ?_
    rintro e w' ⟨rfl, rfl⟩
    go_wp2_with fail
    refine (rhas_any _ l n _ hl.out).mono ?_
    rintro e w' ⟨rfl, rfl⟩
    go_wp2_with fail
    refine (within_any _ _ l m _ hl.out hm.out (by omega) (by omega)).mono ?_
    rintro e W4 ⟨rfl, bb⟩
    replace hl := Lib.hid (hl.out.below bb)
    replace hm := Lib.hid (hm.out.below bb)
    replace HB := HB.trans (bb.mono HB.size)
    clear bb
    go_wp2_with fail
    refine (rwithin_any _ _ l m _ hl.out hm.out (by omega)).mono ?_
    rintro e W5 ⟨rfl, bb⟩
    replace hl := Lib.hid (hl.out.below bb)
    replace hm := Lib.hid (hm.out.below bb)
    replace HB := HB.trans (bb.mono HB.size)
    clear bb
    go_wp2_with fail
    refine (within_any _ _ l l _ hl.out hl.out (by omega) (by omega)).mono ?_
    rintro e W6 ⟨rfl, bb⟩
    replace hl := Lib.hid (hl.out.below bb)
    replace hm := Lib.hid (hm.out.below bb)
    replace HB := HB.trans (bb.mono HB.size)
    clear bb
    rw [e1.out]
    go_wp2_with fail
    refine (alive_any _).mono ?_
    rintro e W7 ⟨rfl, bb⟩
    replace hl := Lib.hid (hl.out.below bb)
    replace hm := Lib.hid (hm.out.below bb)
    replace HB := HB.trans (bb.mono HB.size)
    clear bb
    go_wp2
    go_ret
    exact ⟨rfl, HB⟩
  case true =>
    replace hg := Lib.hid hg
    go_enter Try.func4, Try.ntmps4
    go_wp2_with fail
    refine (largeb _ _ l m _ hl.out hm.out).mono ?_
    rintro e w' ⟨rfl, rfl⟩
    rw [hg.out]
    go_wp2_with fail
    refine (alive_any _).mono ?_
    rintro e W2 ⟨rfl, bb⟩
    replace hl := Lib.hid (hl.out.below bb)
    replace hm := Lib.hid (hm.out.below bb)
    replace HB := HB.trans (bb.mono HB.size)
    clear bb
    go_wp2
    go_ret
    exact ⟨rfl, HB⟩
set_option maxHeartbeats 4000000 in
theorem combines_any (v u : Value) (l m : List Int) (w : World) (hl : RS w v (intsV l)) (hm : RS w u (intsV m)) :
    Calls Try.prog 5 #[v, u] w (RetB w true) := by
  replace hl := Lib.hid hl
  replace hm := Lib.hid hm
  have HB := Below.refl w.heap.size w
  cases hg : large l m
  case false =>
    have b0 : l.length ≤ 200 ∧ m.length ≤ 200 := by simpa [large] using hg
    obtain ⟨b1, b2⟩ := b0
    replace hg := Lib.hid hg
    go_enter Try.func5, Try.ntmps5
    go_wp2_with fail
    refine (largeb _ _ l m _ hl.out hm.out).mono ?_
    rintro e w' ⟨rfl, rfl⟩
    rw [hg.out]
    go_wp2_with fail
    refine (union_any _ _ l m _ hl.out hm.out (by omega) (by omega)).mono ?_
    rintro e W2 ⟨v2, rfl, R1, bb⟩
    replace R1 := Lib.hid R1
    replace hl := Lib.hid (hl.out.below bb)
    replace hm := Lib.hid (hm.out.below bb)
    replace HB := HB.trans (bb.mono HB.size)
    clear bb
    go_wp2_with fail
    refine (runion_any _ _ l m _ hl.out hm.out (by omega)).mono ?_
    rintro e W3 ⟨v3, rfl, R2, bb⟩
    replace R2 := Lib.hid R2
    replace hl := Lib.hid (hl.out.below bb)
    replace hm := Lib.hid (hm.out.below bb)
    replace R1 := Lib.hid (R1.out.below bb)
    replace HB := HB.trans (bb.mono HB.size)
    clear bb
    go_wp2_with fail
    refine (same_any _ _ (sel kU l m) _ R1.out R2.out).mono ?_
    rintro e W4 ⟨rfl, bb⟩
    clear R1
    clear R2
    replace hl := Lib.hid (hl.out.below bb)
    replace hm := Lib.hid (hm.out.below bb)
    replace HB := HB.trans (bb.mono HB.size)
    clear bb
    go_wp2_with fail
    refine (common_any _ _ l m _ hl.out hm.out (by omega) (by omega)).mono ?_
    rintro e W5 ⟨v5, rfl, R1, bb⟩
    replace R1 := Lib.hid R1
    replace hl := Lib.hid (hl.out.below bb)
    replace hm := Lib.hid (hm.out.below bb)
    replace HB := HB.trans (bb.mono HB.size)
    clear bb
    go_wp2_with fail
    refine (rcommon_any _ _ l m _ hl.out hm.out (by omega)).mono ?_
    rintro e W6 ⟨v6, rfl, R2, bb⟩
    replace R2 := Lib.hid R2
    replace hl := Lib.hid (hl.out.below bb)
    replace hm := Lib.hid (hm.out.below bb)
    replace R1 := Lib.hid (R1.out.below bb)
    replace HB := HB.trans (bb.mono HB.size)
    clear bb
    go_wp2_with fail
    refine (same_any _ _ (sel kC l m) _ R1.out R2.out).mono ?_
    rintro e W7 ⟨rfl, bb⟩
    clear R1
    clear R2
    replace hl := Lib.hid (hl.out.below bb)
    replace hm := Lib.hid (hm.out.below bb)
    replace HB := HB.trans (bb.mono HB.size)
    clear bb
    go_wp2_with fail
    refine (minus_any _ _ l m _ hl.out hm.out (by omega) (by omega)).mono ?_
    rintro e W8 ⟨v8, rfl, R1, bb⟩
    replace R1 := Lib.hid R1
    replace hl := Lib.hid (hl.out.below bb)
    replace hm := Lib.hid (hm.out.below bb)
    replace HB := HB.trans (bb.mono HB.size)
    clear bb
    go_wp2_with fail
    refine (rminus_any _ _ l m _ hl.out hm.out (by omega)).mono ?_
    rintro e W9 ⟨v9, rfl, R2, bb⟩
    replace R2 := Lib.hid R2
    replace hl := Lib.hid (hl.out.below bb)
    replace hm := Lib.hid (hm.out.below bb)
    replace R1 := Lib.hid (R1.out.below bb)
    replace HB := HB.trans (bb.mono HB.size)
    clear bb
    go_wp2_with fail
    refine (same_any _ _ (sel kM l m) _ R1.out R2.out).mono ?_
    rintro e W10 ⟨rfl, bb⟩
    clear R1
    clear R2
    replace hl := Lib.hid (hl.out.below bb)
    replace hm := Lib.hid (hm.out.below bb)
    replace HB := HB.trans (bb.mono HB.size)
    clear bb
    go_wp2_with fail
    refine (alive_any _).mono ?_
    rintro e W11 ⟨rfl, bb⟩
    replace hl := Lib.hid (hl.out.below bb)
    replace hm := Lib.hid (hm.out.below bb)
    replace HB := HB.trans (bb.mono HB.size)
    clear bb
    go_wp2
    go_ret
    exact ⟨rfl, HB⟩
  case true =>
    replace hg := Lib.hid hg
    go_enter Try.func5, Try.ntmps5
    go_wp2_with fail
    refine (largeb _ _ l m _ hl.out hm.out).mono ?_
    rintro e w' ⟨rfl, rfl⟩
    rw [hg.out]
    go_wp2_with fail
    refine (alive_any _).mono ?_
    rintro e W2 ⟨rfl, bb⟩
    replace hl := Lib.hid (hl.out.below bb)
    replace hm := Lib.hid (hm.out.below bb)
    replace HB := HB.trans (bb.mono HB.size)
    clear bb
    go_wp2
    go_ret
    exact ⟨rfl, HB⟩
end Go.Proofs.Ytgaikipcoalcnaa
