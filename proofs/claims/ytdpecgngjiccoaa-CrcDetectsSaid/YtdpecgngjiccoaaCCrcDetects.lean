/- For every text (one of more than 3000 bytes is let by), place and byte, a sealed text with this byte changed is not accepted. No condition. -/
import Derived.Test.YtdpecgngjiccoaaFrame0
import Derived.Test.YtdpecgngjiccoaaOpen0
import Derived.Test.YtdpecgngjiccoaaLawsB4
namespace Go.Proofs.Ytdpecgngjiccoaa
open Go.ChangeShapes Go.WideShapes Go.ChangeAt Go.RowKit
open Go.ChangeMaps (open_string shut_string)
theorem CrcDetects_walk : LawWalk 5 Try.f5 := by
  intro H enc W base args ds p hval hA
  rw [Try.params5] at hA hval
  obtain ⟨v0, vs0, d0, ds0, p0, q0, hargs, rfl, rfl, h0, r0⟩ := trodAll_cons hA
  obtain ⟨v1, vs1, d1, ds1, p1, q1, rfl, rfl, rfl, h1, r1⟩ := trodAll_cons r0
  obtain ⟨v2, vs2, d2, ds2, p2, q2, rfl, rfl, rfl, h2, r2⟩ := trodAll_cons r1
  obtain ⟨rfl, rfl, rfl⟩ := trodAll_nil r2
  obtain rfl : args = #[v0, v1, v2] := by cases args; simp_all
  obtain ⟨a0, rfl, rfl, rfl, w0⟩ := open_string Try.underlying9 (hval 0 _ v0 rfl rfl) h0
  obtain ⟨s0, rfl, z0⟩ := str_of a0 w0
  obtain ⟨a1, rfl, rfl, rfl, w1⟩ := open_int Try.underlying3 (hval 1 _ v1 rfl rfl) h1
  obtain ⟨i2, rfl, rfl, rfl, w2⟩ := open_int Try.underlying5 (hval 2 _ v2 rfl rfl) h2
  obtain ⟨a2, rfl⟩ := wf_u8 w2
  exact detects_all s0 a1 a2 W z0
set_option maxRecDepth 100000 in
theorem CrcDetects_holds : Rows.CrcDetectsSaid :=
  OpenClaim.holds_of_wide 5 Try.f5 rfl rfl rfl rfl rfl rfl rfl ⟨rfl, rfl, rfl, rfl, rfl⟩ rfl rfl rfl rfl rfl (by kernel_rfl) Try.func5 (by kernel_rfl)
    (of_decide_eq_true (by kernel_rfl)) (by unfold Func.isWrapper; first | (rw [if_pos (by decide +kernel)]; kernel_rfl) | (rw [if_neg (by decide +kernel)]; exact ⟨rfl, rfl⟩))
    (fun os started H enc _ => law_lifted started 5 Try.f5 Rows.crcDetectsSpec Try.func5 (by kernel_rfl) (by kernel_rfl) (by kernel_rfl) ⟨rfl, fun H ds h => by
        match ds, h with
        | [d0, d1, d2], _ => rfl⟩
      (ChangeSpec.witness6 (enc := enc) (C := Try.checked) false ⟨#[], #[.string ByteArray.empty, .int .i64 0, .int .u8 0], []⟩ 8 (by kernel_rfl) (by kernel_rfl) (by kernel_rfl) (by kernel_rfl))
      CrcDetects_walk)
#print axioms CrcDetects_holds
end Go.Proofs.Ytdpecgngjiccoaa
