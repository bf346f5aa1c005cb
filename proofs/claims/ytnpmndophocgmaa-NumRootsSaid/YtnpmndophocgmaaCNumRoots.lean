/- For every int Root is the greatest number whose square is not greater. No condition. -/
import Derived.Test.YtnpmndophocgmaaFrame
import Derived.Test.YtnpmndophocgmaaLaws1
namespace Go.Proofs.Ytnpmndophocgmaa
open Go.ChangeShapes Go.WideShapes Go.ChangeAt Go.RowKit
open Go.ChangeMaps (open_string shut_string)
theorem NumRoots_walk : LawWalk 5 Try.f5 := by
  intro H enc W base args ds p hval hA
  rw [Try.params5] at hA hval
  obtain ⟨v0, vs0, d0, ds0, p0, q0, hargs, rfl, rfl, h0, r0⟩ := trodAll_cons hA
  obtain ⟨rfl, rfl, rfl⟩ := trodAll_nil r0
  obtain rfl : args = #[v0] := by cases args; simp_all
  obtain ⟨a0, rfl, rfl, rfl, w0⟩ := open_int Try.underlying3 (hval 0 _ v0 rfl rfl) h0
  exact roots_any a0 (I64.of_wf w0) W
set_option maxRecDepth 100000 in
theorem NumRoots_holds : Rows.NumRootsSaid :=
  OpenClaim.holds_of_wide 5 Try.f5 rfl rfl rfl rfl rfl rfl rfl ⟨rfl, rfl, rfl, rfl, rfl⟩ rfl rfl rfl rfl rfl (by kernel_rfl) Try.func5 (by kernel_rfl)
    (of_decide_eq_true (by kernel_rfl)) (by unfold Func.isWrapper; first | (rw [if_pos (by decide +kernel)]; kernel_rfl) | (rw [if_neg (by decide +kernel)]; exact ⟨rfl, rfl⟩))
    (fun os started H enc _ => law_lifted started 5 Try.f5 Rows.numRootsSpec Try.func5 (by kernel_rfl) (by kernel_rfl) (by kernel_rfl) ⟨rfl, fun H ds h => by
        match ds, h with
        | [d0], _ => rfl⟩
      (ChangeSpec.witness6 (enc := enc) (C := Try.checked) false ⟨#[], #[.int .i64 0], []⟩ 8 (by kernel_rfl) (by kernel_rfl) (by kernel_rfl) (by kernel_rfl))
      NumRoots_walk)
#print axioms NumRoots_holds
end Go.Proofs.Ytnpmndophocgmaa
