/- For every text, offset and limit (texts of more than 2000 bytes are let by), a part from which a value is decoded is the encoding of this value. No condition. -/
import Derived.Test.YtemhfhfbhdkedaaFrame
import Derived.Test.YtemhfhfbhdkedaaOpen
import Derived.Test.YtemhfhfbhdkedaaExact3
namespace Go.Proofs.Ytemhfhfbhdkedaa
open Go.ChangeShapes Go.WideShapes Go.ChangeAt Go.RowKit
open Go.ChangeMaps (open_string shut_string)
theorem WireExact_walk : LawWalk 7 Try.f7 := by
  intro H enc W base args ds p hval hA
  rw [Try.params7] at hA hval
  obtain ⟨v0, vs0, d0, ds0, p0, q0, hargs, rfl, rfl, h0, r0⟩ := trodAll_cons hA
  obtain ⟨v1, vs1, d1, ds1, p1, q1, rfl, rfl, rfl, h1, r1⟩ := trodAll_cons r0
  obtain ⟨v2, vs2, d2, ds2, p2, q2, rfl, rfl, rfl, h2, r2⟩ := trodAll_cons r1
  obtain ⟨rfl, rfl, rfl⟩ := trodAll_nil r2
  obtain rfl : args = #[v0, v1, v2] := by cases args; simp_all
  obtain ⟨a0, rfl, rfl, rfl, w0⟩ := open_string Try.underlying9 (hval 0 _ v0 rfl rfl) h0
  obtain ⟨s0, rfl, z0⟩ := str_of a0 w0
  obtain ⟨a1, rfl, rfl, rfl, w1⟩ := open_int Try.underlying3 (hval 1 _ v1 rfl rfl) h1
  obtain ⟨a2, rfl, rfl, rfl, w2⟩ := open_int Try.underlying3 (hval 2 _ v2 rfl rfl) h2
  exact exact_any s0 a1 a2 W z0 (I64.of_wf w1) (I64.of_wf w2)
set_option maxRecDepth 100000 in
theorem WireExact_holds : Rows.WireExactSaid :=
  OpenClaim.holds_of_wide 7 Try.f7 rfl rfl rfl rfl rfl rfl rfl ⟨rfl, rfl, rfl, rfl, rfl⟩ rfl rfl rfl rfl rfl (by kernel_rfl) Try.func7 (by kernel_rfl)
    (of_decide_eq_true (by kernel_rfl)) (by unfold Func.isWrapper; first | (rw [if_pos (by decide +kernel)]; kernel_rfl) | (rw [if_neg (by decide +kernel)]; exact ⟨rfl, rfl⟩))
    (fun os started H enc _ => law_lifted started 7 Try.f7 Rows.wireExactSpec Try.func7 (by kernel_rfl) (by kernel_rfl) (by kernel_rfl) ⟨rfl, fun H ds h => by
        match ds, h with
        | [d0, d1, d2], _ => rfl⟩
      (ChangeSpec.witness6 (enc := enc) (C := Try.checked) false ⟨#[], #[.string ByteArray.empty, .int .i64 0, .int .i64 0], []⟩ 8 (by kernel_rfl) (by kernel_rfl) (by kernel_rfl) (by kernel_rfl))
      WireExact_walk)
#print axioms WireExact_holds
end Go.Proofs.Ytemhfhfbhdkedaa
