/- Contracts of Union, Common, Minus and Within. Conditions: lists of at most 500 numbers that can be read. -/
import Derived.Test.YtgaikipcoalcnaaMerge2
namespace Go.Proofs.Ytgaikipcoalcnaa
open Go.ChangeShapes Go.WideShapes Go.ChangeAt Go.RowKit
theorem union_any (v u : Value) (l m : List Int) (w : World) (hv : RS w v (intsV l)) (hu : RS w u (intsV m)) (hl : l.length ≤ 500) (hm : m.length ≤ 500) :
    Calls Try.prog 17 #[v, u] w (RetL w (sel kU l m)) := by
  have H := merge_any v u l m 28 kU w keepsU (enters_of Try.func28 (by kernel_rfl) rfl) hv hu hl hm
  clear hv hu
  go_enter Try.func17, Try.ntmps17
  go_wp2_with fail
  refine H.mono ?_
  rintro e w1 ⟨v1, rfl, hr1, hb⟩
  clear H
  replace hr1 := Lib.hid hr1
  go_wp2
  go_ret
  exact ⟨_, rfl, hr1.out, hb⟩
theorem common_any (v u : Value) (l m : List Int) (w : World) (hv : RS w v (intsV l)) (hu : RS w u (intsV m)) (hl : l.length ≤ 500) (hm : m.length ≤ 500) :
    Calls Try.prog 19 #[v, u] w (RetL w (sel kC l m)) := by
  have H := merge_any v u l m 29 kC w keepsC (enters_of Try.func29 (by kernel_rfl) rfl) hv hu hl hm
  clear hv hu
  go_enter Try.func19, Try.ntmps19
  go_wp2_with fail
  refine H.mono ?_
  rintro e w1 ⟨v1, rfl, hr1, hb⟩
  clear H
  replace hr1 := Lib.hid hr1
  go_wp2
  go_ret
  exact ⟨_, rfl, hr1.out, hb⟩
theorem minus_any (v u : Value) (l m : List Int) (w : World) (hv : RS w v (intsV l)) (hu : RS w u (intsV m)) (hl : l.length ≤ 500) (hm : m.length ≤ 500) :
    Calls Try.prog 21 #[v, u] w (RetL w (sel kM l m)) := by
  have H := merge_any v u l m 31 kM w keepsM (enters_of Try.func31 (by kernel_rfl) rfl) hv hu hl hm
  clear hv hu
  go_enter Try.func21, Try.ntmps21
  go_wp2_with fail
  refine H.mono ?_
  rintro e w1 ⟨v1, rfl, hr1, hb⟩
  clear H
  replace hr1 := Lib.hid hr1
  go_wp2
  go_ret
  exact ⟨_, rfl, hr1.out, hb⟩
theorem within_any (v u : Value) (l m : List Int) (w : World) (hv : RS w v (intsV l)) (hu : RS w u (intsV m)) (hl : l.length ≤ 500) (hm : m.length ≤ 500) :
    Calls Try.prog 15 #[v, u] w (RetB w (within l m)) := by
  have H := minus_any v u l m w hv hu hl hm
  clear hv hu
  go_enter Try.func15, Try.ntmps15
  go_wp2_with fail
  refine H.mono ?_
  rintro e w1 ⟨v1, rfl, hr1, hb⟩
  obtain ⟨a, cap, rfl, _, _⟩ := hr1.open
  clear H hr1
  obtain ⟨r, hr⟩ : ∃ r, within l m = r := ⟨_, rfl⟩
  have hr2 : (((sel kM l m).length : Int) == 0) = r := by rw [← hr, within, Bool.eq_iff_iff]; simp
  replace hr := Lib.hid hr
  go_wp2
  go_ret
  exact ⟨ret1_bool hr.out.symm, hb⟩
end Go.Proofs.Ytgaikipcoalcnaa
