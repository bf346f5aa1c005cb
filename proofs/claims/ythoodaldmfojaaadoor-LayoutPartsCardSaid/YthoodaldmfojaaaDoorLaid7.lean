/- A start that meets the rows' condition on the listed variables: the heap that the door's own run leaves; and what that condition says of the blocks. No condition. -/
import Derived.Test.YthoodaldmfojaaaDoorRows
import Derived.Test.YthoodaldmfojaaaDoorGW7
import Derived.ProofKit
import Derived.LaidMore
import Derived.LaidHandle
import Derived.Stop.Joined
import Derived.Lib.LaidTab
import Derived.Stop.LaidErr
import Derived.Shelf.Vars
namespace Go.Proofs.YthoodaldmfojaaaDoor
open Go.ChangeShapes Go.WideShapes Go.ChangeAt Go.RowKit
def LaidL : List (String × DataW Unit) := Rows.layoutChecksRow.laid
noncomputable def laidWorld (os : Os) : World := World.doorLaid Tryd.prog 600 os
set_option maxRecDepth 100000 in
theorem laid_met (os : Os) (args : Array Value) : laidMetH Tryd.prog LaidL ((laidWorld os).forCall (fun _ _ => 0) ⟨#[], args, []⟩).memory :=
  laidMetH_of_parts3 (fuel := 8) (laidMet_of_run' 8 (by kernel_rfl) (by kernel_rfl)) (by kernel_rfl) (by kernel_rfl)
set_option maxRecDepth 100000 in
theorem laid_shaped (os : Os) (args : Array Value) : ((laidWorld os).forCall (fun _ _ => 0) ⟨#[], args, []⟩).Shaped Tryd.prog :=
  World.shaped_of_RefB (by kernel_rfl) (by kernel_rfl)
theorem var_block {P : Program} {w : World} {name : String} {g : Nat} {cs : Array Value} (hg : P.globalNamed name = some g) (h : w.var? P name = some cs) : ∃ t fr, w.heap[g]? = some (.cells cs t fr) := by
  unfold World.var? at h
  rw [hg] at h
  simp only [Option.bind_some] at h
  split at h
  · rename_i c t fr hh
    obtain rfl := Option.some.inj h
    exact ⟨_, _, hh⟩
  · cases h
/-- WHAT THE CONDITION GIVES: the table. -/
theorem gw_of {W : World} (hL : laidMetH Tryd.prog LaidL W) : GW W := by
  have h0 : laidMet Tryd.prog LaidL W := hL
  have := Lib.tabIs_of_head (k := .i64) (zs := [0, 2, 3, 4]) (g := 0) (t := 96) (e := 3) (n := 4) (by kernel_rfl) (by kernel_rfl) Tryd.underlying96 Tryd.underlying3 (by kernel_rfl) (by kernel_rfl) h0
  exact var_block (cs := sideC) (by kernel_rfl) this
end Go.Proofs.YthoodaldmfojaaaDoor
