/- The examples of the chapter hold. Conditions: none. -/
import Derived.Test.YtgaikipcoalcnaaOps2
namespace Go.Proofs.Ytgaikipcoalcnaa
open Go.ChangeShapes Go.WideShapes Go.ChangeAt Go.RowKit
theorem RS.alloc {w : World} {v : Value} {vs : List Value} (h : RS w v vs) (o : Obj) : RS (w.alloc o) v vs := h.below ((Below.refl _ _).alloc (Nat.le_refl _) _)
theorem RS.newAt (w : World) (b n cap : Nat) (l : List Int) (cs : Array Value) (t : TypeId) (hb : b = w.heap.size) (hc : cs = (intsV l).toArray) (hn : n = l.length) (hv : n ≤ 9223372036854775807 ∧ n ≤ cap) :
    RS (w.alloc (.cells cs t)) (.slice (some ⟨b, 0, none⟩) n cap) (intsV l) := by
  subst hb
  exact RS.new _ _ _ _ _ _ hc (by rw [intsV_length]; exact hn) hv
set_option maxHeartbeats 4000000 in
theorem alive_any (w : World) : Calls Try.prog 9 #[] w (RetB w true) := by
  have RA := Lib.hid ((RS.newAt w _ 2 2 [3, 1] #[.int .i64 3, .int .i64 1] 3 rfl rfl rfl (by decide)).alloc (.cells #[.int .i64 2, .int .i64 3] 3))
  have RB := Lib.hid (RS.newAt (w.alloc (.cells #[.int .i64 3, .int .i64 1] 3)) (w.heap.size + 1) 2 2 [2, 3] #[.int .i64 2, .int .i64 3] 3 (by simp) rfl rfl (by decide))
  have HB := ((Below.refl w.heap.size w).alloc (Nat.le_refl _) (.cells #[.int .i64 3, .int .i64 1] 3)).alloc (by simp) (.cells #[.int .i64 2, .int .i64 3] 3)
  have N1 : ∀ a c, RS a c (intsV (mk [2, 1, 2])) → RS a c (intsV [1, 2]) := fun _ _ h => h
  have N2 : ∀ a c, RS a c (intsV (sel kU [3, 1] [2, 3])) → RS a c (intsV [1, 2, 3]) := fun _ _ h => h
  have N3 : ∀ a c, RS a c (intsV (sel kC [3, 1] [2, 3])) → RS a c (intsV [3]) := fun _ _ h => h
  have N4 : ∀ a c, RS a c (intsV (sel kM [3, 1] [2, 3])) → RS a c (intsV [1]) := fun _ _ h => h
  have E1 : ([3, 1] : List Int).contains 1 = true := by decide
  have E2 : ([] : List Int).contains 1 = false := by decide
  have E3 : within [] [3, 1] = true := by decide
  have E4 : within [3, 1] [2, 3] = false := by decide
  replace N1 := Lib.hid N1
  replace N2 := Lib.hid N2
  replace N3 := Lib.hid N3
  replace N4 := Lib.hid N4
  replace E1 := Lib.hid E1
  replace E2 := Lib.hid E2
  replace E3 := Lib.hid E3
  replace E4 := Lib.hid E4
  go_enter Try.func9, Try.ntmps9
  go_wp2_with fail
  refine (make_any _ [2, 1, 2] _ (RS.newAt _ _ _ _ [2, 1, 2] _ _ (by simp) rfl rfl (by decide)) (by decide)).mono ?_
  rintro e W1 ⟨v1, rfl, R1, bb⟩
  replace R1 := Lib.hid R1
  replace RA := Lib.hid ((RA.out.alloc _).below bb)
  replace RB := Lib.hid ((RB.out.alloc _).below bb)
  replace HB := (HB.alloc HB.size _).trans (bb.mono (by have := HB.size; simp; omega))
  clear bb
  go_wp2_with fail
  refine (same_any _ _ [1, 2] _ (RS.alloc (N1.out _ _ R1.out) _) (RS.newAt _ _ _ _ [1, 2] _ _ (by simp) rfl rfl (by decide))).mono ?_
  rintro e W2 ⟨rfl, bb⟩
  clear R1
  replace RA := Lib.hid ((RA.out.alloc _).below bb)
  replace RB := Lib.hid ((RB.out.alloc _).below bb)
  replace HB := (HB.alloc HB.size _).trans (bb.mono (by have := HB.size; simp; omega))
  clear bb
  go_wp2_with fail
  refine (union_any _ _ [3, 1] [2, 3] _ RA.out RB.out (by decide) (by decide)).mono ?_
  rintro e W3 ⟨v3, rfl, R2, bb⟩
  replace R2 := Lib.hid R2
  replace RA := Lib.hid (RA.out.below bb)
  replace RB := Lib.hid (RB.out.below bb)
  replace HB := HB.trans (bb.mono HB.size)
  clear bb
  go_wp2_with fail
  refine (same_any _ _ [1, 2, 3] _ (RS.alloc (N2.out _ _ R2.out) _) (RS.newAt _ _ _ _ [1, 2, 3] _ _ (by simp) rfl rfl (by decide))).mono ?_
  rintro e W4 ⟨rfl, bb⟩
  clear R2
  replace RA := Lib.hid ((RA.out.alloc _).below bb)
  replace RB := Lib.hid ((RB.out.alloc _).below bb)
  replace HB := (HB.alloc HB.size _).trans (bb.mono (by have := HB.size; simp; omega))
  clear bb
  go_wp2_with fail
  refine (common_any _ _ [3, 1] [2, 3] _ RA.out RB.out (by decide) (by decide)).mono ?_
  rintro e W5 ⟨v5, rfl, R3, bb⟩
  replace R3 := Lib.hid R3
  replace RA := Lib.hid (RA.out.below bb)
  replace RB := Lib.hid (RB.out.below bb)
  replace HB := HB.trans (bb.mono HB.size)
  clear bb
  go_wp2_with fail
  refine (same_any _ _ [3] _ (RS.alloc (N3.out _ _ R3.out) _) (RS.newAt _ _ _ _ [3] _ _ (by simp) rfl rfl (by decide))).mono ?_
  rintro e W6 ⟨rfl, bb⟩
  clear R3
  replace RA := Lib.hid ((RA.out.alloc _).below bb)
  replace RB := Lib.hid ((RB.out.alloc _).below bb)
  replace HB := (HB.alloc HB.size _).trans (bb.mono (by have := HB.size; simp; omega))
  clear bb
  go_wp2_with fail
  refine (minus_any _ _ [3, 1] [2, 3] _ RA.out RB.out (by decide) (by decide)).mono ?_
  rintro e W7 ⟨v7, rfl, R4, bb⟩
  replace R4 := Lib.hid R4
  replace RA := Lib.hid (RA.out.below bb)
  replace RB := Lib.hid (RB.out.below bb)
  replace HB := HB.trans (bb.mono HB.size)
  clear bb
  go_wp2_with fail
  refine (same_any _ _ [1] _ (RS.alloc (N4.out _ _ R4.out) _) (RS.newAt _ _ _ _ [1] _ _ (by simp) rfl rfl (by decide))).mono ?_
  rintro e W8 ⟨rfl, bb⟩
  clear R4
  replace RA := Lib.hid ((RA.out.alloc _).below bb)
  replace RB := Lib.hid ((RB.out.alloc _).below bb)
  replace HB := (HB.alloc HB.size _).trans (bb.mono (by have := HB.size; simp; omega))
  clear bb
  go_wp2_with fail
  refine (has_any _ [3, 1] 1 _ RA.out).mono ?_
  rintro e w' ⟨rfl, rfl⟩
  rw [E1.out]
  go_wp2_with fail
  refine (has_any _ [] 1 _ (RS.nil _ _ _)).mono ?_
  rintro e w' ⟨rfl, rfl⟩
  rw [E2.out]
  go_wp2_with fail
  refine (within_any _ _ [] [3, 1] _ (RS.nil _ _ _) RA.out (by decide) (by decide)).mono ?_
  rintro e W11 ⟨rfl, bb⟩
  replace RA := Lib.hid (RA.out.below bb)
  replace RB := Lib.hid (RB.out.below bb)
  replace HB := HB.trans (bb.mono HB.size)
  clear bb
  rw [E3.out]
  go_wp2_with fail
  refine (within_any _ _ [3, 1] [2, 3] _ RA.out RB.out (by decide) (by decide)).mono ?_
  rintro e W12 ⟨rfl, bb⟩
  replace RA := Lib.hid (RA.out.below bb)
  replace RB := Lib.hid (RB.out.below bb)
  replace HB := HB.trans (bb.mono HB.size)
  clear bb
  rw [E4.out]
  go_wp2
  go_ret
  exact ⟨rfl, HB⟩
end Go.Proofs.Ytgaikipcoalcnaa
