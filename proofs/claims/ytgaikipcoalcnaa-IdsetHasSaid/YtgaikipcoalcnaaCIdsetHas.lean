/- For every two lists of ints (longer than 200 are let by, as the statement says) and every int Has and Within return what the reference says. No condition. -/
import Derived.Test.YtgaikipcoalcnaaFrame
import Derived.Test.YtgaikipcoalcnaaLawsA2
namespace Go.Proofs.Ytgaikipcoalcnaa
open Go.ChangeShapes Go.WideShapes Go.ChangeAt Go.RowKit
open Go.ChangeMaps (open_string shut_string)
theorem IdsetHas_walk : LawWalk 4 Try.f4 := by
  intro H enc W base args ds p hval hA
  rw [Try.params4] at hA hval
  obtain ⟨v0, vs0, d0, ds0, p0, q0, hargs, rfl, rfl, h0, r0⟩ := trodAll_cons hA
  obtain ⟨v1, vs1, d1, ds1, p1, q1, rfl, rfl, rfl, h1, r1⟩ := trodAll_cons r0
  obtain ⟨v2, vs2, d2, ds2, p2, q2, rfl, rfl, rfl, h2, r2⟩ := trodAll_cons r1
  obtain ⟨rfl, rfl, rfl⟩ := trodAll_nil r2
  obtain rfl : args = #[v0, v1, v2] := by cases args; simp_all
  obtain ⟨l0, s0, b0⟩ := open_intsRS (hval 0 _ v0 rfl rfl) h0
  obtain ⟨l1, s1, b1⟩ := open_intsRS (hval 1 _ v1 rfl rfl) h1
  obtain ⟨a2, rfl, rfl, rfl, w2⟩ := open_int Try.underlying3 (hval 2 _ v2 rfl rfl) h2
  exact hasl_any v0 v1 l0 l1 a2 W s0 s1
set_option maxRecDepth 100000 in
theorem IdsetHas_holds : Rows.IdsetHasSaid :=
  OpenClaim.holds_of_wide 4 Try.f4 rfl rfl rfl rfl rfl rfl rfl ⟨rfl, rfl, rfl, rfl, rfl⟩ rfl rfl rfl rfl rfl (by kernel_rfl) Try.func4 (by kernel_rfl)
    (of_decide_eq_true (by kernel_rfl)) (by unfold Func.isWrapper; first | (rw [if_pos (by decide +kernel)]; kernel_rfl) | (rw [if_neg (by decide +kernel)]; exact ⟨rfl, rfl⟩))
    (fun os started H enc _ => law_lifted started 4 Try.f4 Rows.idsetHasSpec Try.func4 (by kernel_rfl) (by kernel_rfl) (by kernel_rfl) ⟨rfl, fun H ds h => by
        match ds, h with
        | [d0, d1, d2], _ => rfl⟩
      (ChangeSpec.witness6 (enc := enc) (C := Try.checked) false ⟨#[], #[.slice none 0 0, .slice none 0 0, .int .i64 0], []⟩ 8 (by kernel_rfl) (by kernel_rfl) (by kernel_rfl) (by kernel_rfl))
      IdsetHas_walk)
#print axioms IdsetHas_holds
end Go.Proofs.Ytgaikipcoalcnaa
