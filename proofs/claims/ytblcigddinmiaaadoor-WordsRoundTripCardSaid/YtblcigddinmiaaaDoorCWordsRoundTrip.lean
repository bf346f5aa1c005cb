/- For every list of lines and text (larger ones are let by), lines are restored from the joined text, and a text that is accepted is the joined text of its lines. No condition but the listed variables, which the card ties. -/
import Derived.Test.YtblcigddinmiaaaDoorOpenLL
import Derived.SevenTiedAt
import Derived.Test.YtblcigddinmiaaaDoorLawsC5
namespace Go.Proofs.YtblcigddinmiaaaDoor
open Go.ChangeShapes Go.WideShapes Go.ChangeAt Go.RowKit
open Go.ChangeMaps (open_string shut_string)
set_option maxRecDepth 100000 in
theorem WordsRoundTrip_walk : LawWalkL 6 Tryd.f6 := by
  intro H enc W base args ds p hval hA hG hz
  rw [Tryd.params6] at hA hval hz
  obtain ⟨v0, vs0, d0, ds0, p0, q0', hargs, rfl, rfl, h0, r0⟩ := trodAll_cons hA
  obtain ⟨v1, vs1, d1, ds1, p1, q1', rfl, rfl, rfl, h1, r1⟩ := trodAll_cons r0
  obtain ⟨rfl, rfl, rfl⟩ := trodAll_nil r1
  obtain rfl : args = #[v0, v1] := by cases args; simp_all
  have q0 : ∀ n ∈ d0.weights Tryd.prog 23, n ≤ reachBytes := fun n hn => by
    have := List.all_eq_true.1 hz n (DataW.weights_mem_each (j := 0) rfl rfl n hn)
    simpa using this
  obtain ⟨l0, r0s, b0, c0⟩ := open_LL (hval 0 _ v0 rfl rfl) h0 q0
  obtain ⟨a1, rfl, rfl, rfl, w1⟩ := open_string Tryd.underlying9 (hval 1 _ v1 rfl rfl) h1
  obtain ⟨s1, rfl, z1⟩ := str_of a1 w1
  exact round_all v0 l0 s1 W hG r0s b0 c0 z1
set_option maxRecDepth 100000 in
theorem WordsRoundTrip_said : Rows.WordsRoundTripSaid :=
  OpenClaim.holds_of_cond 6 Tryd.f6 rfl rfl rfl rfl rfl rfl rfl ⟨rfl, rfl, rfl, rfl, rfl⟩ rfl rfl rfl rfl rfl (by kernel_rfl) Tryd.func6 (by kernel_rfl)
    (of_decide_eq_true (by kernel_rfl)) (by unfold Func.isWrapper; first | (rw [if_pos (by decide +kernel)]; kernel_rfl) | (rw [if_neg (by decide +kernel)]; exact ⟨rfl, rfl⟩))
    (fun os started H enc _ Fi => by
      rw [OpenClaim.pre_eq_preRow]
      exact law_liftedL started 6 Tryd.f6 Rows.wordsRoundTripSpec Fi Tryd.func6 (by kernel_rfl) (by kernel_rfl) (by kernel_rfl) ⟨rfl, fun H ds h => by
          match ds, h with
          | [d0, d1], _ => rfl⟩ rfl
        (witnessL (enc := enc) (os := os) 6 Tryd.f6 Rows.wordsRoundTripSpec #[.slice none 0 0, .string ByteArray.empty] ([.nil, .lit (.string [])], [], []) (by kernel_rfl) (by kernel_rfl) (by kernel_rfl))
        WordsRoundTrip_walk)
theorem WordsRoundTrip_plain (f : FuncId) (fn : Func) (hf : Tryd.pinned.checked.prog.funcNamed "signalling/signallinglaw05.WordsRoundTrip" = some f) (hfn : Tryd.pinned.checked.prog.funcs[f]? = some fn) :
    true = Tryd.pinned.checked.prog.looks [] ∧ ∀ (j : Nat) t, fn.params[j]? = some t → Tryd.pinned.checked.prog.wantsStandIn t = false := by
  obtain rfl : f = 6 := Option.some.inj ((show Tryd.prog.funcNamed "signalling/signallinglaw05.WordsRoundTrip" = some 6 by kernel_rfl).symm.trans hf) |>.symm
  obtain rfl : fn = Tryd.f6 := (Option.some.inj (Tryd.func6.symm.trans hfn)).symm
  refine ⟨by kernel_rfl, fun j t ht => ?_⟩
  rw [Tryd.params6] at ht
  have hm : t ∈ [23, 9] := by simpa using Array.mem_of_getElem? ht
  have hall : ([23, 9].all fun u => !Tryd.prog.wantsStandIn u) = true := by kernel_rfl
  exact (show Tryd.prog.wantsStandIn t = false by simpa using List.all_eq_true.1 hall t hm)
set_option maxRecDepth 100000 in
theorem WordsRoundTrip_holds : Rows.WordsRoundTripCardSaid :=
  Claim7.holds_tied_plain_at .later [] _ _ _ _ WordsRoundTrip_said (fun _ h => by cases h) (by kernel_rfl) (fun _ h => by cases h) wordsRoundTrip_row_tie rfl ⟨rfl, rfl⟩ (by kernel_rfl) rfl WordsRoundTrip_plain (by kernel_rfl)
#print axioms WordsRoundTrip_holds
end Go.Proofs.YtblcigddinmiaaaDoor
