/- For every text and list of ints (longer ones than 1000 bytes and 200 numbers are let by), List and FormatList answer as the reference, what is accepted is the form of its result, and lists are restored from their text. No condition but the listed variables, which the card ties. -/
import Derived.Test.YtblcigddinmiaaaDoorOpenLL
import Derived.SevenTiedAt
import Derived.Test.YtblcigddinmiaaaDoorLawsB5
namespace Go.Proofs.YtblcigddinmiaaaDoor
open Go.ChangeShapes Go.WideShapes Go.ChangeAt Go.RowKit
open Go.ChangeMaps (open_string shut_string)
set_option maxRecDepth 100000 in
theorem WordsLists_walk : LawWalkL 10 Tryd.f10 := by
  intro H enc W base args ds p hval hA hG hz
  rw [Tryd.params10] at hA hval hz
  obtain ⟨v0, vs0, d0, ds0, p0, q0', hargs, rfl, rfl, h0, r0⟩ := trodAll_cons hA
  obtain ⟨v1, vs1, d1, ds1, p1, q1', rfl, rfl, rfl, h1, r1⟩ := trodAll_cons r0
  obtain ⟨rfl, rfl, rfl⟩ := trodAll_nil r1
  obtain rfl : args = #[v0, v1] := by cases args; simp_all
  obtain ⟨a0, rfl, rfl, rfl, w0⟩ := open_string Tryd.underlying9 (hval 0 _ v0 rfl rfl) h0
  obtain ⟨s0, rfl, z0⟩ := str_of a0 w0
  obtain ⟨l1, r1s, b1⟩ := open_intsL (hval 1 _ v1 rfl rfl) h1
  exact lists_all s0 v1 l1 W hG z0 r1s b1
set_option maxRecDepth 100000 in
theorem WordsLists_said : Rows.WordsListsSaid :=
  OpenClaim.holds_of_cond 10 Tryd.f10 rfl rfl rfl rfl rfl rfl rfl ⟨rfl, rfl, rfl, rfl, rfl⟩ rfl rfl rfl rfl rfl (by kernel_rfl) Tryd.func10 (by kernel_rfl)
    (of_decide_eq_true (by kernel_rfl)) (by unfold Func.isWrapper; first | (rw [if_pos (by decide +kernel)]; kernel_rfl) | (rw [if_neg (by decide +kernel)]; exact ⟨rfl, rfl⟩))
    (fun os started H enc _ Fi => by
      rw [OpenClaim.pre_eq_preRow]
      exact law_liftedL started 10 Tryd.f10 Rows.wordsListsSpec Fi Tryd.func10 (by kernel_rfl) (by kernel_rfl) (by kernel_rfl) ⟨rfl, fun H ds h => by
          match ds, h with
          | [d0, d1], _ => rfl⟩ rfl
        (witnessL (enc := enc) (os := os) 10 Tryd.f10 Rows.wordsListsSpec #[.string ByteArray.empty, .slice none 0 0] ([.lit (.string []), .nil], [], []) (by kernel_rfl) (by kernel_rfl) (by kernel_rfl))
        WordsLists_walk)
theorem WordsLists_plain (f : FuncId) (fn : Func) (hf : Tryd.pinned.checked.prog.funcNamed "signalling/signallinglaw05.WordsLists" = some f) (hfn : Tryd.pinned.checked.prog.funcs[f]? = some fn) :
    true = Tryd.pinned.checked.prog.looks [] ∧ ∀ (j : Nat) t, fn.params[j]? = some t → Tryd.pinned.checked.prog.wantsStandIn t = false := by
  obtain rfl : f = 10 := Option.some.inj ((show Tryd.prog.funcNamed "signalling/signallinglaw05.WordsLists" = some 10 by kernel_rfl).symm.trans hf) |>.symm
  obtain rfl : fn = Tryd.f10 := (Option.some.inj (Tryd.func10.symm.trans hfn)).symm
  refine ⟨by kernel_rfl, fun j t ht => ?_⟩
  rw [Tryd.params10] at ht
  have hm : t ∈ [9, 39] := by simpa using Array.mem_of_getElem? ht
  have hall : ([9, 39].all fun u => !Tryd.prog.wantsStandIn u) = true := by kernel_rfl
  exact (show Tryd.prog.wantsStandIn t = false by simpa using List.all_eq_true.1 hall t hm)
set_option maxRecDepth 100000 in
theorem WordsLists_holds : Rows.WordsListsCardSaid :=
  Claim7.holds_tied_plain_at .later [] _ _ _ _ WordsLists_said (fun _ h => by cases h) (by kernel_rfl) (fun _ h => by cases h) wordsLists_row_tie rfl ⟨rfl, rfl⟩ (by kernel_rfl) rfl WordsLists_plain (by kernel_rfl)
#print axioms WordsLists_holds
end Go.Proofs.YtblcigddinmiaaaDoor
