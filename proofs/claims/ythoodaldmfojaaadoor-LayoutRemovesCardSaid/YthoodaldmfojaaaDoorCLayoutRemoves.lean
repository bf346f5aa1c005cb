/- LayoutRemoves: for every input the law returns true and its arguments read as before. Conditions: as the row's own (its listed variable). -/
import Derived.Test.YthoodaldmfojaaaDoorFrameL7
import Derived.SevenTiedAt
import Derived.Test.YthoodaldmfojaaaDoorLawsD7
import Derived.Test.YthoodaldmfojaaaDoorOpen7
namespace Go.Proofs.YthoodaldmfojaaaDoor
open Go.ChangeShapes Go.WideShapes Go.ChangeAt Go.RowKit
open Go.ChangeMaps (open_string shut_string)
set_option maxRecDepth 100000 in
theorem LayoutRemoves_walk : LawWalkL 6 Tryd.f6 := by
  intro H enc W base args ds p hval hA hG hz
  rw [Tryd.params6] at hA hval hz
  obtain ⟨v0, vs0, d0, ds0, p0, q0', hargs, rfl, rfl, h0, r0⟩ := trodAll_cons hA
  obtain ⟨v1, vs1, d1, ds1, p1, q1', rfl, rfl, rfl, h1, r1⟩ := trodAll_cons r0
  obtain ⟨rfl, rfl, rfl⟩ := trodAll_nil r1
  obtain rfl : args = #[v0, v1] := by cases args; simp_all
  obtain ⟨L0, r0s, s0⟩ := open_lay (hval 0 _ v0 rfl rfl) h0
  obtain ⟨a1, rfl, rfl, rfl, w1⟩ := open_int Tryd.underlying5 (hval 1 _ v1 rfl rfl) h1
  exact removes_u8 _ a1 w1 L0 W hG r0s s0
set_option maxRecDepth 100000 in
theorem LayoutRemoves_said : Rows.LayoutRemovesSaid :=
  OpenClaim.holds_of_cond 6 Tryd.f6 rfl rfl rfl rfl rfl rfl rfl ⟨rfl, rfl, rfl, rfl, rfl⟩ rfl rfl rfl rfl rfl (by kernel_rfl) Tryd.func6 (by kernel_rfl)
    (of_decide_eq_true (by kernel_rfl)) (by unfold Func.isWrapper; first | (rw [if_pos (by decide +kernel)]; kernel_rfl) | (rw [if_neg (by decide +kernel)]; exact ⟨rfl, rfl⟩))
    (fun os started H enc _ Fi => by
      rw [OpenClaim.pre_eq_preRow]
      exact law_liftedL started 6 Tryd.f6 Rows.layoutRemovesSpec Fi Tryd.func6 (by kernel_rfl) (by kernel_rfl) (by kernel_rfl) ⟨rfl, fun H ds h => by
          match ds, h with
          | [d0, d1], _ => rfl⟩ rfl
        (witnessL (enc := enc) (os := os) 6 Tryd.f6 Rows.layoutRemovesSpec #[.agg #[.string ByteArray.empty, .slice none 0 0, .slice none 0 0, .slice none 0 0, .slice none 0 0, .slice none 0 0], .int .u8 0] ([.agg [.lit (.string []), .nil, .nil, .nil, .nil, .nil], .lit (.int .u8 0)], [], []) (by kernel_rfl) (by kernel_rfl) (by kernel_rfl))
        LayoutRemoves_walk)
theorem LayoutRemoves_plain (f : FuncId) (fn : Func) (hf : Tryd.pinned.checked.prog.funcNamed "signalling/signallinglaw07.LayoutRemoves" = some f) (hfn : Tryd.pinned.checked.prog.funcs[f]? = some fn) :
    false = Tryd.pinned.checked.prog.looks [] ∧ ∀ (j : Nat) t, fn.params[j]? = some t → Tryd.pinned.checked.prog.wantsStandIn t = false := by
  obtain rfl : f = 6 := Option.some.inj ((show Tryd.prog.funcNamed "signalling/signallinglaw07.LayoutRemoves" = some 6 by kernel_rfl).symm.trans hf) |>.symm
  obtain rfl : fn = Tryd.f6 := (Option.some.inj (Tryd.func6.symm.trans hfn)).symm
  refine ⟨by kernel_rfl, fun j t ht => ?_⟩
  rw [Tryd.params6] at ht
  have hm : t ∈ [28, 5] := by simpa using Array.mem_of_getElem? ht
  have hall : ([28, 5].all fun u => !Tryd.prog.wantsStandIn u) = true := by kernel_rfl
  exact (show Tryd.prog.wantsStandIn t = false by simpa using List.all_eq_true.1 hall t hm)
set_option maxRecDepth 100000 in
theorem LayoutRemoves_holds : Rows.LayoutRemovesCardSaid :=
  Claim7.holds_tied_plain_at .later [] _ _ _ _ LayoutRemoves_said (fun _ h => by cases h) (by kernel_rfl) (fun _ h => by cases h) layoutRemoves_row_tie rfl ⟨rfl, rfl⟩ (by kernel_rfl) rfl LayoutRemoves_plain (by kernel_rfl)
#print axioms LayoutRemoves_holds
end Go.Proofs.YthoodaldmfojaaaDoor
