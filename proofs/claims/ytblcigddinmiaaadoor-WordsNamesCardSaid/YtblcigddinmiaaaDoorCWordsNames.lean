/- For every text (one of more than 1000 bytes is let by), Name answers as the reference. No condition but the listed variables, which the card ties. -/
import Derived.Test.YtblcigddinmiaaaDoorOpenLL
import Derived.SevenTiedAt
import Derived.Test.YtblcigddinmiaaaDoorLawsA5
namespace Go.Proofs.YtblcigddinmiaaaDoor
open Go.ChangeShapes Go.WideShapes Go.ChangeAt Go.RowKit
open Go.ChangeMaps (open_string shut_string)
set_option maxRecDepth 100000 in
theorem WordsNames_walk : LawWalkL 9 Tryd.f9 := by
  intro H enc W base args ds p hval hA hG hz
  rw [Tryd.params9] at hA hval hz
  obtain ⟨v0, vs0, d0, ds0, p0, q0', hargs, rfl, rfl, h0, r0⟩ := trodAll_cons hA
  obtain ⟨rfl, rfl, rfl⟩ := trodAll_nil r0
  obtain rfl : args = #[v0] := by cases args; simp_all
  obtain ⟨a0, rfl, rfl, rfl, w0⟩ := open_string Tryd.underlying9 (hval 0 _ v0 rfl rfl) h0
  obtain ⟨s0, rfl, z0⟩ := str_of a0 w0
  exact names_all s0 W hG z0
set_option maxRecDepth 100000 in
theorem WordsNames_said : Rows.WordsNamesSaid :=
  OpenClaim.holds_of_cond 9 Tryd.f9 rfl rfl rfl rfl rfl rfl rfl ⟨rfl, rfl, rfl, rfl, rfl⟩ rfl rfl rfl rfl rfl (by kernel_rfl) Tryd.func9 (by kernel_rfl)
    (of_decide_eq_true (by kernel_rfl)) (by unfold Func.isWrapper; first | (rw [if_pos (by decide +kernel)]; kernel_rfl) | (rw [if_neg (by decide +kernel)]; exact ⟨rfl, rfl⟩))
    (fun os started H enc _ Fi => by
      rw [OpenClaim.pre_eq_preRow]
      exact law_liftedL started 9 Tryd.f9 Rows.wordsNamesSpec Fi Tryd.func9 (by kernel_rfl) (by kernel_rfl) (by kernel_rfl) ⟨rfl, fun H ds h => by
          match ds, h with
          | [d0], _ => rfl⟩ rfl
        (witnessL (enc := enc) (os := os) 9 Tryd.f9 Rows.wordsNamesSpec #[.string ByteArray.empty] ([.lit (.string [])], [], []) (by kernel_rfl) (by kernel_rfl) (by kernel_rfl))
        WordsNames_walk)
theorem WordsNames_plain (f : FuncId) (fn : Func) (hf : Tryd.pinned.checked.prog.funcNamed "signalling/signallinglaw05.WordsNames" = some f) (hfn : Tryd.pinned.checked.prog.funcs[f]? = some fn) :
    true = Tryd.pinned.checked.prog.looks [] ∧ ∀ (j : Nat) t, fn.params[j]? = some t → Tryd.pinned.checked.prog.wantsStandIn t = false := by
  obtain rfl : f = 9 := Option.some.inj ((show Tryd.prog.funcNamed "signalling/signallinglaw05.WordsNames" = some 9 by kernel_rfl).symm.trans hf) |>.symm
  obtain rfl : fn = Tryd.f9 := (Option.some.inj (Tryd.func9.symm.trans hfn)).symm
  refine ⟨by kernel_rfl, fun j t ht => ?_⟩
  rw [Tryd.params9] at ht
  have hm : t ∈ [9] := by simpa using Array.mem_of_getElem? ht
  have hall : ([9].all fun u => !Tryd.prog.wantsStandIn u) = true := by kernel_rfl
  exact (show Tryd.prog.wantsStandIn t = false by simpa using List.all_eq_true.1 hall t hm)
set_option maxRecDepth 100000 in
theorem WordsNames_holds : Rows.WordsNamesCardSaid :=
  Claim7.holds_tied_plain_at .later [] _ _ _ _ WordsNames_said (fun _ h => by cases h) (by kernel_rfl) (fun _ h => by cases h) wordsNames_row_tie rfl ⟨rfl, rfl⟩ (by kernel_rfl) rfl WordsNames_plain (by kernel_rfl)
#print axioms WordsNames_holds
end Go.Proofs.YtblcigddinmiaaaDoor
