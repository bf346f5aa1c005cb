/- A start that meets the rows' condition on the listed variables: the heap that the door's own run leaves; and what that condition says of the blocks. No condition. -/
import Derived.Test.YteafkginhejllaaGreatDoorRows
import Derived.Test.YteafkginhejllaaGreatDoorAl8
import Derived.OpenShut
import Derived.ProofKit
import Derived.LaidMore
import Derived.LaidHandle
import Derived.Stop.Joined
import Derived.Lib.LaidTab
import Derived.Stop.LaidErr
import Derived.Shelf.Vars
namespace Go.Proofs.YteafkginhejllaaGreatDoor
open Go.ChangeShapes Go.WideShapes Go.ChangeAt Go.RowKit
def LaidL : List (String × DataW Unit) := Rows.planLinesRow.laid
noncomputable def laidWorld (os : Os) : World := World.doorLaid Tryz.prog 600 os
set_option maxRecDepth 100000 in
theorem laid_met (os : Os) (args : Array Value) : laidMetH Tryz.prog LaidL ((laidWorld os).forCall (fun _ _ => 0) ⟨#[], args, []⟩).memory :=
  laidMetH_of_parts3 (fuel := 8) (laidMet_of_run' 8 (by kernel_rfl) (by kernel_rfl)) (by kernel_rfl) (by kernel_rfl)
set_option maxRecDepth 100000 in
theorem laid_shaped (os : Os) (args : Array Value) : ((laidWorld os).forCall (fun _ _ => 0) ⟨#[], args, []⟩).Shaped Tryz.prog :=
  World.shaped_of_RefB (by kernel_rfl) (by kernel_rfl)
theorem var_block {P : Program} {w : World} {name : String} {g : Nat} {cs : Array Value} (hg : P.globalNamed name = some g) (h : w.var? P name = some cs) : ∃ t fr, w.heap[g]? = some (.cells cs t fr) := by
  unfold World.var? at h
  rw [hg] at h
  simp only [Option.bind_some] at h
  split at h
  · rename_i c t fr hh
    obtain rfl := Option.some.inj h
    exact ⟨_, _, hh⟩
  · cases h
theorem star_err : "*" ++ "errors.errorString" = "*errors.errorString" := by decide +kernel
theorem row_err : ∀ u, Tryz.prog.typeName? 3 u = some "*errors.errorString" → u = 194 := fun u h =>
  typeName_ptr_named (nm := "errors.errorString") (by rw [star_err]; kernel_rfl) (by kernel_rfl) (by decide) u (by rw [star_err]; exact h)
/-- WHAT THE CONDITION AND THE WORLD's SHAPE GIVE: what the library and the program read. -/
theorem gw_of {W : World} (hL : laidMetH Tryz.prog LaidL W) (hS : W.ShapedOpen Tryz.prog) : GT W ∧ GW W := by
  have h0 : laidMet Tryz.prog LaidL W := hL
  have h2 := h0.tail.tail
  have h3 := h2.tail
  have h4 := h3.tail
  refine ⟨⟨?_, ?_, ?_⟩, ?_⟩
  · exact cell_of_shapedOpen_int (t := 3) (zero := #[.int .i64 0]) hS (of_decide_eq_true (by kernel_rfl)) (by kernel_rfl) rfl (by kernel_rfl) (by kernel_rfl) Tryz.underlying3
  · obtain ⟨a, s, hv, _⟩ := laid_sentinel (g := 4) (ti := 73) (tp := 194) (te := 196) h4 (by kernel_rfl) (by kernel_rfl) Tryz.underlying73 row_err Tryz.underlying194 Tryz.underlying196 rfl rfl Tryz.underlying9 (by kernel_rfl) (by kernel_rfl)
    have := World.var?_cell (g := 4) (by kernel_rfl) hv 0
    exact ⟨_, by simpa using this, Or.inr ⟨_, _, rfl⟩⟩
  · exact Lib.tabIs_of_head (g := 2) (t := 174) (e := 166) (n := 20) (by kernel_rfl) (by kernel_rfl) Tryz.underlying174 Tryz.underlying166 (by kernel_rfl) (by kernel_rfl) h2
  · have := Lib.tabIs_of_head (k := .i64) (zs := [0, 2, 3, 4]) (g := 0) (t := 132) (e := 3) (n := 4) (by kernel_rfl) (by kernel_rfl) Tryz.underlying132 Tryz.underlying3 (by kernel_rfl) (by kernel_rfl) h3
    exact var_block (cs := sideC) (by kernel_rfl) this
end Go.Proofs.YteafkginhejllaaGreatDoor
