/- Out and Need are those of the reference, for all numbers. Conditions: those of the row (the tables as the program's text lays them). -/
import Derived.Test.YtdnadlpkeinnfaaDoorFrameL6
import Derived.SevenTiedAt
import Derived.Test.YtdnadlpkeinnfaaDoorLawsA6
namespace Go.Proofs.YtdnadlpkeinnfaaDoor
open Go.ChangeShapes Go.WideShapes Go.ChangeAt Go.RowKit
open Go.ChangeMaps (open_string shut_string)
set_option maxRecDepth 100000 in
theorem RailPassages_walk : LawWalkL 4 Tryd.f4 := by
  intro H enc W base args ds p hval hA hG hz
  rw [Tryd.params4] at hA hval hz
  obtain ⟨v0, vs0, d0, ds0, p0, q0', hargs, rfl, rfl, h0, r0⟩ := trodAll_cons hA
  obtain ⟨v1, vs1, d1, ds1, p1, q1', rfl, rfl, rfl, h1, r1⟩ := trodAll_cons r0
  obtain ⟨v2, vs2, d2, ds2, p2, q2', rfl, rfl, rfl, h2, r2⟩ := trodAll_cons r1
  obtain ⟨rfl, rfl, rfl⟩ := trodAll_nil r2
  obtain rfl : args = #[v0, v1, v2] := by cases args; simp_all
  obtain ⟨a0, rfl, rfl, rfl, w0⟩ := open_int Tryd.underlying3 (hval 0 _ v0 rfl rfl) h0
  obtain ⟨a1, rfl, rfl, rfl, w1⟩ := open_int Tryd.underlying3 (hval 1 _ v1 rfl rfl) h1
  obtain ⟨a2, rfl, rfl, rfl, w2⟩ := open_int Tryd.underlying3 (hval 2 _ v2 rfl rfl) h2
  exact passages_all a0 a1 a2 W hG
set_option maxRecDepth 100000 in
theorem RailPassages_said : Rows.RailPassagesSaid :=
  OpenClaim.holds_of_cond 4 Tryd.f4 rfl rfl rfl rfl rfl rfl rfl ⟨rfl, rfl, rfl, rfl, rfl⟩ rfl rfl rfl rfl rfl (by kernel_rfl) Tryd.func4 (by kernel_rfl)
    (of_decide_eq_true (by kernel_rfl)) (by unfold Func.isWrapper; first | (rw [if_pos (by decide +kernel)]; kernel_rfl) | (rw [if_neg (by decide +kernel)]; exact ⟨rfl, rfl⟩))
    (fun os started H enc _ Fi => by
      rw [OpenClaim.pre_eq_preRow]
      exact law_liftedL started 4 Tryd.f4 Rows.railPassagesSpec Fi Tryd.func4 (by kernel_rfl) (by kernel_rfl) (by kernel_rfl) ⟨rfl, fun H ds h => by
          match ds, h with
          | [d0, d1, d2], _ => rfl⟩ rfl
        (witnessL (enc := enc) (os := os) 4 Tryd.f4 Rows.railPassagesSpec #[.int .i64 0, .int .i64 0, .int .i64 0] ([.lit (.int .i64 0), .lit (.int .i64 0), .lit (.int .i64 0)], [], []) (by kernel_rfl) (by kernel_rfl) (by kernel_rfl))
        RailPassages_walk)
theorem RailPassages_plain (f : FuncId) (fn : Func) (hf : Tryd.pinned.checked.prog.funcNamed "signalling/signallinglaw06.RailPassages" = some f) (hfn : Tryd.pinned.checked.prog.funcs[f]? = some fn) :
    false = Tryd.pinned.checked.prog.looks [] ∧ ∀ (j : Nat) t, fn.params[j]? = some t → Tryd.pinned.checked.prog.wantsStandIn t = false := by
  obtain rfl : f = 4 := Option.some.inj ((show Tryd.prog.funcNamed "signalling/signallinglaw06.RailPassages" = some 4 by kernel_rfl).symm.trans hf) |>.symm
  obtain rfl : fn = Tryd.f4 := (Option.some.inj (Tryd.func4.symm.trans hfn)).symm
  refine ⟨by kernel_rfl, fun j t ht => ?_⟩
  rw [Tryd.params4] at ht
  have hm : t ∈ [3, 3, 3] := by simpa using Array.mem_of_getElem? ht
  have hall : ([3, 3, 3].all fun u => !Tryd.prog.wantsStandIn u) = true := by kernel_rfl
  exact (show Tryd.prog.wantsStandIn t = false by simpa using List.all_eq_true.1 hall t hm)
set_option maxRecDepth 100000 in
theorem RailPassages_holds : Rows.RailPassagesCardSaid :=
  Claim7.holds_tied_plain_at .later [] _ _ _ _ RailPassages_said (fun _ h => by cases h) (by kernel_rfl) (fun _ h => by cases h) railPassages_row_tie rfl ⟨rfl, rfl⟩ (by kernel_rfl) rfl RailPassages_plain (by kernel_rfl)
#print axioms RailPassages_holds
end Go.Proofs.YtdnadlpkeinnfaaDoor
