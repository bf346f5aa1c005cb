/- For every value (texts and lists of more than 400 elements are let by), the encodings are those of the reference. No condition. -/
import Derived.Test.YtemhfhfbhdkedaaFrame
import Derived.Test.YtemhfhfbhdkedaaOpen3
import Derived.Test.YtemhfhfbhdkedaaLawsC3
namespace Go.Proofs.Ytemhfhfbhdkedaa
open Go.ChangeShapes Go.WideShapes Go.ChangeAt Go.RowKit
open Go.ChangeMaps (open_string shut_string)
theorem WireEncodes_walk : LawWalk 3 Try.f3 := by
  intro H enc W base args ds p hval hA
  rw [Try.params3] at hA hval
  obtain ⟨v0, vs0, d0, ds0, p0, q0, hargs, rfl, rfl, h0, r0⟩ := trodAll_cons hA
  obtain ⟨rfl, rfl, rfl⟩ := trodAll_nil r0
  obtain rfl : args = #[v0] := by cases args; simp_all
  obtain ⟨u0, n0, b0, s0, lv0, l0, rfl, rs0, zu0, zn0, zs0, zl0⟩ := open_value (hval 0 _ v0 rfl rfl) h0
  exact encodes_all u0 n0 b0 s0 lv0 l0 W rs0 zs0 zu0 zn0 zl0
set_option maxRecDepth 100000 in
theorem WireEncodes_holds : Rows.WireEncodesSaid :=
  OpenClaim.holds_of_wide 3 Try.f3 rfl rfl rfl rfl rfl rfl rfl ⟨rfl, rfl, rfl, rfl, rfl⟩ rfl rfl rfl rfl rfl (by kernel_rfl) Try.func3 (by kernel_rfl)
    (of_decide_eq_true (by kernel_rfl)) (by unfold Func.isWrapper; first | (rw [if_pos (by decide +kernel)]; kernel_rfl) | (rw [if_neg (by decide +kernel)]; exact ⟨rfl, rfl⟩))
    (fun os started H enc _ => law_lifted started 3 Try.f3 Rows.wireEncodesSpec Try.func3 (by kernel_rfl) (by kernel_rfl) (by kernel_rfl) ⟨rfl, fun H ds h => by
        match ds, h with
        | [d0], _ => rfl⟩
      (ChangeSpec.witness6 (enc := enc) (C := Try.checked) false ⟨#[], #[.agg #[.int .u64 0, .int .i64 0, .bool false, .string ByteArray.empty, .slice none 0 0]], []⟩ 8 (by kernel_rfl) (by kernel_rfl) (by kernel_rfl) (by kernel_rfl))
      WireEncodes_walk)
#print axioms WireEncodes_holds
end Go.Proofs.Ytemhfhfbhdkedaa
