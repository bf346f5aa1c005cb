/- For every list of lines (one of more than 3000 words, or with a word of more than 100 bytes, is let by), Join answers as the reference. No condition but the listed variables, which the card ties. -/
import Derived.Test.YtblcigddinmiaaaDoorOpenLL
import Derived.SevenTiedAt
import Derived.Test.YtblcigddinmiaaaDoorLawsA5
namespace Go.Proofs.YtblcigddinmiaaaDoor
open Go.ChangeShapes Go.WideShapes Go.ChangeAt Go.RowKit
open Go.ChangeMaps (open_string shut_string)
set_option maxRecDepth 100000 in
theorem WordsJoins_walk : LawWalkL 4 Tryd.f4 := by
  intro H enc W base args ds p hval hA hG hz
  rw [Tryd.params4] at hA hval hz
  obtain ⟨v0, vs0, d0, ds0, p0, q0', hargs, rfl, rfl, h0, r0⟩ := trodAll_cons hA
  obtain ⟨rfl, rfl, rfl⟩ := trodAll_nil r0
  obtain rfl : args = #[v0] := by cases args; simp_all
  have q0 : ∀ n ∈ d0.weights Tryd.prog 23, n ≤ reachBytes := fun n hn => by
    have := List.all_eq_true.1 hz n (DataW.weights_mem_each (j := 0) rfl rfl n hn)
    simpa using this
  obtain ⟨l0, r0s, b0, c0⟩ := open_LL (hval 0 _ v0 rfl rfl) h0 q0
  exact joins_all v0 l0 W hG r0s b0 c0
set_option maxRecDepth 100000 in
theorem WordsJoins_said : Rows.WordsJoinsSaid :=
  OpenClaim.holds_of_cond 4 Tryd.f4 rfl rfl rfl rfl rfl rfl rfl ⟨rfl, rfl, rfl, rfl, rfl⟩ rfl rfl rfl rfl rfl (by kernel_rfl) Tryd.func4 (by kernel_rfl)
    (of_decide_eq_true (by kernel_rfl)) (by unfold Func.isWrapper; first | (rw [if_pos (by decide +kernel)]; kernel_rfl) | (rw [if_neg (by decide +kernel)]; exact ⟨rfl, rfl⟩))
    (fun os started H enc _ Fi => by
      rw [OpenClaim.pre_eq_preRow]
      exact law_liftedL started 4 Tryd.f4 Rows.wordsJoinsSpec Fi Tryd.func4 (by kernel_rfl) (by kernel_rfl) (by kernel_rfl) ⟨rfl, fun H ds h => by
          match ds, h with
          | [d0], _ => rfl⟩ rfl
        (witnessL (enc := enc) (os := os) 4 Tryd.f4 Rows.wordsJoinsSpec #[.slice none 0 0] ([.nil], [], []) (by kernel_rfl) (by kernel_rfl) (by kernel_rfl))
        WordsJoins_walk)
theorem WordsJoins_plain (f : FuncId) (fn : Func) (hf : Tryd.pinned.checked.prog.funcNamed "signalling/signallinglaw05.WordsJoins" = some f) (hfn : Tryd.pinned.checked.prog.funcs[f]? = some fn) :
    true = Tryd.pinned.checked.prog.looks [] ∧ ∀ (j : Nat) t, fn.params[j]? = some t → Tryd.pinned.checked.prog.wantsStandIn t = false := by
  obtain rfl : f = 4 := Option.some.inj ((show Tryd.prog.funcNamed "signalling/signallinglaw05.WordsJoins" = some 4 by kernel_rfl).symm.trans hf) |>.symm
  obtain rfl : fn = Tryd.f4 := (Option.some.inj (Tryd.func4.symm.trans hfn)).symm
  refine ⟨by kernel_rfl, fun j t ht => ?_⟩
  rw [Tryd.params4] at ht
  have hm : t ∈ [23] := by simpa using Array.mem_of_getElem? ht
  have hall : ([23].all fun u => !Tryd.prog.wantsStandIn u) = true := by kernel_rfl
  exact (show Tryd.prog.wantsStandIn t = false by simpa using List.all_eq_true.1 hall t hm)
set_option maxRecDepth 100000 in
theorem WordsJoins_holds : Rows.WordsJoinsCardSaid :=
  Claim7.holds_tied_plain_at .later [] _ _ _ _ WordsJoins_said (fun _ h => by cases h) (by kernel_rfl) (fun _ h => by cases h) wordsJoins_row_tie rfl ⟨rfl, rfl⟩ (by kernel_rfl) rfl WordsJoins_plain (by kernel_rfl)
#print axioms WordsJoins_holds
end Go.Proofs.YtblcigddinmiaaaDoor
