/- PlanPrints: for every input the law returns true and the layout reads as before. Conditions: as the row's own (its listed variables). -/
import Derived.Test.YteafkginhejllaaGreatDoorFr8
import Derived.SevenTiedAt
import Derived.Test.YteafkginhejllaaGreatDoorPp8
import Derived.Test.YteafkginhejllaaGreatDoorOp8
namespace Go.Proofs.YteafkginhejllaaGreatDoor
open Go.ChangeShapes Go.WideShapes Go.ChangeAt Go.RowKit
open Go.ChangeMaps (open_string shut_string)
set_option maxRecDepth 100000 in
theorem PlanPrints_walk : LawWalkL 3 Tryz.f3 := by
  intro H enc W base args ds p hval hA hG hz
  rw [Tryz.params3] at hA hval hz
  obtain ⟨v0, vs0, d0, ds0, p0, q0', hargs, rfl, rfl, h0, r0⟩ := trodAll_cons hA
  obtain ⟨rfl, rfl, rfl⟩ := trodAll_nil r0
  obtain rfl : args = #[v0] := by cases args; simp_all
  obtain ⟨L0, r0s, s0⟩ := open_lay (hval 0 _ v0 rfl rfl) h0
  exact prints_all _ L0 W hG.1 hG.2 r0s s0
set_option maxRecDepth 100000 in
theorem PlanPrints_said : Rows.PlanPrintsSaid :=
  OpenClaim.holds_of_cond 3 Tryz.f3 rfl rfl rfl rfl rfl rfl rfl ⟨rfl, rfl, rfl, rfl, rfl⟩ rfl rfl rfl rfl rfl (by kernel_rfl) Tryz.func3 (by kernel_rfl)
    (of_decide_eq_true (by kernel_rfl)) (by unfold Func.isWrapper; first | (rw [if_pos (by decide +kernel)]; kernel_rfl) | (rw [if_neg (by decide +kernel)]; exact ⟨rfl, rfl⟩))
    (fun os started H enc _ Fi => by
      rw [OpenClaim.pre_eq_preRow]
      exact law_liftedL started 3 Tryz.f3 Rows.planPrintsSpec Fi Tryz.func3 (by kernel_rfl) (by kernel_rfl) (by kernel_rfl) ⟨rfl, fun H ds h => by
          match ds, h with
          | [d0], _ => rfl⟩ rfl
        (witnessL (enc := enc) (os := os) 3 Tryz.f3 Rows.planPrintsSpec #[.agg #[.string ByteArray.empty, .slice none 0 0, .slice none 0 0, .slice none 0 0, .slice none 0 0, .slice none 0 0]] ([.agg [.lit (.string []), .nil, .nil, .nil, .nil, .nil]], [], []) (by kernel_rfl) (by kernel_rfl) (by kernel_rfl))
        PlanPrints_walk)
theorem PlanPrints_plain (f : FuncId) (fn : Func) (hf : Tryz.pinned.checked.prog.funcNamed "signalling/signallinglaw08.PlanPrints" = some f) (hfn : Tryz.pinned.checked.prog.funcs[f]? = some fn) :
    true = Tryz.pinned.checked.prog.looks [] ∧ ∀ (j : Nat) t, fn.params[j]? = some t → Tryz.pinned.checked.prog.wantsStandIn t = false := by
  obtain rfl : f = 3 := Option.some.inj ((show Tryz.prog.funcNamed "signalling/signallinglaw08.PlanPrints" = some 3 by kernel_rfl).symm.trans hf) |>.symm
  obtain rfl : fn = Tryz.f3 := (Option.some.inj (Tryz.func3.symm.trans hfn)).symm
  refine ⟨by kernel_rfl, fun j t ht => ?_⟩
  rw [Tryz.params3] at ht
  have hm : t ∈ [28] := by simpa using Array.mem_of_getElem? ht
  have hall : ([28].all fun u => !Tryz.prog.wantsStandIn u) = true := by kernel_rfl
  exact (show Tryz.prog.wantsStandIn t = false by simpa using List.all_eq_true.1 hall t hm)
set_option maxRecDepth 100000 in
theorem PlanPrints_holds : Rows.PlanPrintsCardSaid :=
  Claim7.holds_tied_plain_at .later [] _ _ _ _ PlanPrints_said (fun _ h => by cases h) (by kernel_rfl) (fun _ h => by cases h) planPrints_row_tie rfl ⟨rfl, rfl⟩ (by kernel_rfl) rfl PlanPrints_plain (by kernel_rfl)
#print axioms PlanPrints_holds
end Go.Proofs.YteafkginhejllaaGreatDoor
