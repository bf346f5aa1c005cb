/- PlanRoundTrips: for every input the law returns true and its arguments read as before. Conditions: as the row's own (its listed variables). -/
import Derived.Test.YteafkginhejllaaGreatDoorFr8
import Derived.SevenTiedAt
import Derived.Test.YteafkginhejllaaGreatDoorRt8
import Derived.Test.YteafkginhejllaaGreatDoorOp8
import Derived.Test.YteafkginhejllaaGreatDoorOl8
namespace Go.Proofs.YteafkginhejllaaGreatDoor
open Go.ChangeShapes Go.WideShapes Go.ChangeAt Go.RowKit
open Go.ChangeMaps (open_string shut_string)
set_option maxRecDepth 100000 in
theorem PlanRoundTrips_walk : LawWalkL 4 Tryz.f4 := by
  intro H enc W base args ds p hval hA hG hz
  rw [Tryz.params4] at hA hval hz
  obtain ⟨v0, vs0, d0, ds0, p0, q0', hargs, rfl, rfl, h0, r0⟩ := trodAll_cons hA
  obtain ⟨v1, vs1, d1, ds1, p1, q1', rfl, rfl, rfl, h1, r1⟩ := trodAll_cons r0
  obtain ⟨rfl, rfl, rfl⟩ := trodAll_nil r1
  obtain rfl : args = #[v0, v1] := by cases args; simp_all
  obtain ⟨L0, r0s, s0⟩ := open_lay (hval 0 _ v0 rfl rfl) h0
  obtain ⟨a1, rfl, rfl, rfl, w1⟩ := open_string Tryz.underlying9 (hval 1 _ v1 rfl rfl) h1
  obtain ⟨s1, rfl, z1⟩ := str_of a1 w1
  exact trips_all _ L0 s1 W hG.1 hG.2 r0s s0
set_option maxRecDepth 100000 in
theorem PlanRoundTrips_said : Rows.PlanRoundTripsSaid :=
  OpenClaim.holds_of_cond 4 Tryz.f4 rfl rfl rfl rfl rfl rfl rfl ⟨rfl, rfl, rfl, rfl, rfl⟩ rfl rfl rfl rfl rfl (by kernel_rfl) Tryz.func4 (by kernel_rfl)
    (of_decide_eq_true (by kernel_rfl)) (by unfold Func.isWrapper; first | (rw [if_pos (by decide +kernel)]; kernel_rfl) | (rw [if_neg (by decide +kernel)]; exact ⟨rfl, rfl⟩))
    (fun os started H enc _ Fi => by
      rw [OpenClaim.pre_eq_preRow]
      exact law_liftedL started 4 Tryz.f4 Rows.planRoundTripsSpec Fi Tryz.func4 (by kernel_rfl) (by kernel_rfl) (by kernel_rfl) ⟨rfl, fun H ds h => by
          match ds, h with
          | [d0, d1], _ => rfl⟩ rfl
        (witnessL (enc := enc) (os := os) 4 Tryz.f4 Rows.planRoundTripsSpec #[.agg #[.string ByteArray.empty, .slice none 0 0, .slice none 0 0, .slice none 0 0, .slice none 0 0, .slice none 0 0], .string ByteArray.empty] ([.agg [.lit (.string []), .nil, .nil, .nil, .nil, .nil], .lit (.string [])], [], []) (by kernel_rfl) (by kernel_rfl) (by kernel_rfl))
        PlanRoundTrips_walk)
theorem PlanRoundTrips_plain (f : FuncId) (fn : Func) (hf : Tryz.pinned.checked.prog.funcNamed "signalling/signallinglaw08.PlanRoundTrips" = some f) (hfn : Tryz.pinned.checked.prog.funcs[f]? = some fn) :
    true = Tryz.pinned.checked.prog.looks [] ∧ ∀ (j : Nat) t, fn.params[j]? = some t → Tryz.pinned.checked.prog.wantsStandIn t = false := by
  obtain rfl : f = 4 := Option.some.inj ((show Tryz.prog.funcNamed "signalling/signallinglaw08.PlanRoundTrips" = some 4 by kernel_rfl).symm.trans hf) |>.symm
  obtain rfl : fn = Tryz.f4 := (Option.some.inj (Tryz.func4.symm.trans hfn)).symm
  refine ⟨by kernel_rfl, fun j t ht => ?_⟩
  rw [Tryz.params4] at ht
  have hm : t ∈ [28, 9] := by simpa using Array.mem_of_getElem? ht
  have hall : ([28, 9].all fun u => !Tryz.prog.wantsStandIn u) = true := by kernel_rfl
  exact (show Tryz.prog.wantsStandIn t = false by simpa using List.all_eq_true.1 hall t hm)
set_option maxRecDepth 100000 in
theorem PlanRoundTrips_holds : Rows.PlanRoundTripsCardSaid :=
  Claim7.holds_tied_plain_at .later [] _ _ _ _ PlanRoundTrips_said (fun _ h => by cases h) (by kernel_rfl) (fun _ h => by cases h) planRoundTrips_row_tie rfl ⟨rfl, rfl⟩ (by kernel_rfl) rfl PlanRoundTrips_plain (by kernel_rfl)
#print axioms PlanRoundTrips_holds
end Go.Proofs.YteafkginhejllaaGreatDoor
