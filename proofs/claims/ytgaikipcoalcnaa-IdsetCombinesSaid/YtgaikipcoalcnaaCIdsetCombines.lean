/- For every two lists of ints (longer than 200 are let by, as the statement says) Union, Common and Minus return the sets of the reference. No condition. -/
import Derived.Test.YtgaikipcoalcnaaFrame
import Derived.Test.YtgaikipcoalcnaaLawsA2
namespace Go.Proofs.Ytgaikipcoalcnaa
open Go.ChangeShapes Go.WideShapes Go.ChangeAt Go.RowKit
open Go.ChangeMaps (open_string shut_string)
theorem IdsetCombines_walk : LawWalk 5 Try.f5 := by
  intro H enc W base args ds p hval hA
  rw [Try.params5] at hA hval
  obtain ⟨v0, vs0, d0, ds0, p0, q0, hargs, rfl, rfl, h0, r0⟩ := trodAll_cons hA
  obtain ⟨v1, vs1, d1, ds1, p1, q1, rfl, rfl, rfl, h1, r1⟩ := trodAll_cons r0
  obtain ⟨rfl, rfl, rfl⟩ := trodAll_nil r1
  obtain rfl : args = #[v0, v1] := by cases args; simp_all
  obtain ⟨l0, s0, b0⟩ := open_intsRS (hval 0 _ v0 rfl rfl) h0
  obtain ⟨l1, s1, b1⟩ := open_intsRS (hval 1 _ v1 rfl rfl) h1
  exact combines_any v0 v1 l0 l1 W s0 s1
set_option maxRecDepth 100000 in
theorem IdsetCombines_holds : Rows.IdsetCombinesSaid :=
  OpenClaim.holds_of_wide 5 Try.f5 rfl rfl rfl rfl rfl rfl rfl ⟨rfl, rfl, rfl, rfl, rfl⟩ rfl rfl rfl rfl rfl (by kernel_rfl) Try.func5 (by kernel_rfl)
    (of_decide_eq_true (by kernel_rfl)) (by unfold Func.isWrapper; first | (rw [if_pos (by decide +kernel)]; kernel_rfl) | (rw [if_neg (by decide +kernel)]; exact ⟨rfl, rfl⟩))
    (fun os started H enc _ => law_lifted started 5 Try.f5 Rows.idsetCombinesSpec Try.func5 (by kernel_rfl) (by kernel_rfl) (by kernel_rfl) ⟨rfl, fun H ds h => by
        match ds, h with
        | [d0, d1], _ => rfl⟩
      (ChangeSpec.witness6 (enc := enc) (C := Try.checked) false ⟨#[], #[.slice none 0 0, .slice none 0 0], []⟩ 8 (by kernel_rfl) (by kernel_rfl) (by kernel_rfl) (by kernel_rfl))
      IdsetCombines_walk)
#print axioms IdsetCombines_holds
end Go.Proofs.Ytgaikipcoalcnaa
