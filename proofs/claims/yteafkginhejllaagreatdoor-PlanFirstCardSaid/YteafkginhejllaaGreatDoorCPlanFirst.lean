/- PlanFirst: for every input the law returns true and its arguments read as before. Conditions: as the row's own (its listed variables). -/
import Derived.Test.YteafkginhejllaaGreatDoorFr8
import Derived.SevenTiedAt
import Derived.Test.YteafkginhejllaaGreatDoorFt8
import Derived.Test.YteafkginhejllaaGreatDoorOl8
namespace Go.Proofs.YteafkginhejllaaGreatDoor
open Go.ChangeShapes Go.WideShapes Go.ChangeAt Go.RowKit
open Go.ChangeMaps (open_string shut_string)
set_option maxRecDepth 100000 in
theorem PlanFirst_walk : LawWalkL 6 Tryz.f6 := by
  intro H enc W base args ds p hval hA hG hz
  rw [Tryz.params6] at hA hval hz
  obtain ⟨v0, vs0, d0, ds0, p0, q0', hargs, rfl, rfl, h0, r0⟩ := trodAll_cons hA
  obtain ⟨v1, vs1, d1, ds1, p1, q1', rfl, rfl, rfl, h1, r1⟩ := trodAll_cons r0
  obtain ⟨rfl, rfl, rfl⟩ := trodAll_nil r1
  obtain rfl : args = #[v0, v1] := by cases args; simp_all
  obtain ⟨a0, rfl, rfl, rfl, w0⟩ := open_string Tryz.underlying9 (hval 0 _ v0 rfl rfl) h0
  obtain ⟨s0, rfl, z0⟩ := str_of a0 w0
  have q1 : ∀ n ∈ d1.weights Tryz.prog 39, n ≤ reachBytes := fun n hn => by
    have := List.all_eq_true.1 hz n (DataW.weights_mem_each (j := 1) rfl rfl n hn)
    simpa using this
  obtain ⟨l1, r1s, b1, c1⟩ := open_LL (hval 1 _ v1 rfl rfl) h1 q1
  exact first_walk _ l1 s0 W hG.1 hG.2 r1s c1
set_option maxRecDepth 100000 in
theorem PlanFirst_said : Rows.PlanFirstSaid :=
  OpenClaim.holds_of_cond 6 Tryz.f6 rfl rfl rfl rfl rfl rfl rfl ⟨rfl, rfl, rfl, rfl, rfl⟩ rfl rfl rfl rfl rfl (by kernel_rfl) Tryz.func6 (by kernel_rfl)
    (of_decide_eq_true (by kernel_rfl)) (by unfold Func.isWrapper; first | (rw [if_pos (by decide +kernel)]; kernel_rfl) | (rw [if_neg (by decide +kernel)]; exact ⟨rfl, rfl⟩))
    (fun os started H enc _ Fi => by
      rw [OpenClaim.pre_eq_preRow]
      exact law_liftedL started 6 Tryz.f6 Rows.planFirstSpec Fi Tryz.func6 (by kernel_rfl) (by kernel_rfl) (by kernel_rfl) ⟨rfl, fun H ds h => by
          match ds, h with
          | [d0, d1], _ => rfl⟩ rfl
        (witnessL (enc := enc) (os := os) 6 Tryz.f6 Rows.planFirstSpec #[.string ByteArray.empty, .slice none 0 0] ([.lit (.string []), .nil], [], []) (by kernel_rfl) (by kernel_rfl) (by kernel_rfl))
        PlanFirst_walk)
theorem PlanFirst_plain (f : FuncId) (fn : Func) (hf : Tryz.pinned.checked.prog.funcNamed "signalling/signallinglaw08.PlanFirst" = some f) (hfn : Tryz.pinned.checked.prog.funcs[f]? = some fn) :
    true = Tryz.pinned.checked.prog.looks [] ∧ ∀ (j : Nat) t, fn.params[j]? = some t → Tryz.pinned.checked.prog.wantsStandIn t = false := by
  obtain rfl : f = 6 := Option.some.inj ((show Tryz.prog.funcNamed "signalling/signallinglaw08.PlanFirst" = some 6 by kernel_rfl).symm.trans hf) |>.symm
  obtain rfl : fn = Tryz.f6 := (Option.some.inj (Tryz.func6.symm.trans hfn)).symm
  refine ⟨by kernel_rfl, fun j t ht => ?_⟩
  rw [Tryz.params6] at ht
  have hm : t ∈ [9, 39] := by simpa using Array.mem_of_getElem? ht
  have hall : ([9, 39].all fun u => !Tryz.prog.wantsStandIn u) = true := by kernel_rfl
  exact (show Tryz.prog.wantsStandIn t = false by simpa using List.all_eq_true.1 hall t hm)
set_option maxRecDepth 100000 in
theorem PlanFirst_holds : Rows.PlanFirstCardSaid :=
  Claim7.holds_tied_plain_at .later [] _ _ _ _ PlanFirst_said (fun _ h => by cases h) (by kernel_rfl) (fun _ h => by cases h) planFirst_row_tie rfl ⟨rfl, rfl⟩ (by kernel_rfl) rfl PlanFirst_plain (by kernel_rfl)
#print axioms PlanFirst_holds
end Go.Proofs.YteafkginhejllaaGreatDoor
