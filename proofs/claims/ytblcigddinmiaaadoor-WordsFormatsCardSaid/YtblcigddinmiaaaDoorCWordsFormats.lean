/- For every int, Format gives its decimal form, from which Int restores it. No condition but the listed variables, which the card ties. -/
import Derived.Test.YtblcigddinmiaaaDoorOpenLL
import Derived.SevenTiedAt
import Derived.Test.YtblcigddinmiaaaDoorLawsA5
namespace Go.Proofs.YtblcigddinmiaaaDoor
open Go.ChangeShapes Go.WideShapes Go.ChangeAt Go.RowKit
open Go.ChangeMaps (open_string shut_string)
set_option maxRecDepth 100000 in
theorem WordsFormats_walk : LawWalkL 8 Tryd.f8 := by
  intro H enc W base args ds p hval hA hG hz
  rw [Tryd.params8] at hA hval hz
  obtain ⟨v0, vs0, d0, ds0, p0, q0', hargs, rfl, rfl, h0, r0⟩ := trodAll_cons hA
  obtain ⟨rfl, rfl, rfl⟩ := trodAll_nil r0
  obtain rfl : args = #[v0] := by cases args; simp_all
  obtain ⟨a0, rfl, rfl, rfl, w0⟩ := open_int Tryd.underlying3 (hval 0 _ v0 rfl rfl) h0
  exact formats_all a0 W hG (I64.of_wf w0)
set_option maxRecDepth 100000 in
theorem WordsFormats_said : Rows.WordsFormatsSaid :=
  OpenClaim.holds_of_cond 8 Tryd.f8 rfl rfl rfl rfl rfl rfl rfl ⟨rfl, rfl, rfl, rfl, rfl⟩ rfl rfl rfl rfl rfl (by kernel_rfl) Tryd.func8 (by kernel_rfl)
    (of_decide_eq_true (by kernel_rfl)) (by unfold Func.isWrapper; first | (rw [if_pos (by decide +kernel)]; kernel_rfl) | (rw [if_neg (by decide +kernel)]; exact ⟨rfl, rfl⟩))
    (fun os started H enc _ Fi => by
      rw [OpenClaim.pre_eq_preRow]
      exact law_liftedL started 8 Tryd.f8 Rows.wordsFormatsSpec Fi Tryd.func8 (by kernel_rfl) (by kernel_rfl) (by kernel_rfl) ⟨rfl, fun H ds h => by
          match ds, h with
          | [d0], _ => rfl⟩ rfl
        (witnessL (enc := enc) (os := os) 8 Tryd.f8 Rows.wordsFormatsSpec #[.int .i64 0] ([.lit (.int .i64 0)], [], []) (by kernel_rfl) (by kernel_rfl) (by kernel_rfl))
        WordsFormats_walk)
theorem WordsFormats_plain (f : FuncId) (fn : Func) (hf : Tryd.pinned.checked.prog.funcNamed "signalling/signallinglaw05.WordsFormats" = some f) (hfn : Tryd.pinned.checked.prog.funcs[f]? = some fn) :
    true = Tryd.pinned.checked.prog.looks [] ∧ ∀ (j : Nat) t, fn.params[j]? = some t → Tryd.pinned.checked.prog.wantsStandIn t = false := by
  obtain rfl : f = 8 := Option.some.inj ((show Tryd.prog.funcNamed "signalling/signallinglaw05.WordsFormats" = some 8 by kernel_rfl).symm.trans hf) |>.symm
  obtain rfl : fn = Tryd.f8 := (Option.some.inj (Tryd.func8.symm.trans hfn)).symm
  refine ⟨by kernel_rfl, fun j t ht => ?_⟩
  rw [Tryd.params8] at ht
  have hm : t ∈ [3] := by simpa using Array.mem_of_getElem? ht
  have hall : ([3].all fun u => !Tryd.prog.wantsStandIn u) = true := by kernel_rfl
  exact (show Tryd.prog.wantsStandIn t = false by simpa using List.all_eq_true.1 hall t hm)
set_option maxRecDepth 100000 in
theorem WordsFormats_holds : Rows.WordsFormatsCardSaid :=
  Claim7.holds_tied_plain_at .later [] _ _ _ _ WordsFormats_said (fun _ h => by cases h) (by kernel_rfl) (fun _ h => by cases h) wordsFormats_row_tie rfl ⟨rfl, rfl⟩ (by kernel_rfl) rfl WordsFormats_plain (by kernel_rfl)
#print axioms WordsFormats_holds
end Go.Proofs.YtblcigddinmiaaaDoor
