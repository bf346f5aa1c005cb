/- The two tables of the program as blocks of a world, and a row of the second one. Condition: the blocks hold what the rows say (GW). -/
import Derived.Test.YtdnadlpkeinnfaaDoorKit
import Derived.Test.YtdnadlpkeinnfaaDoorRail6
import Derived.Laws.Rows
import Derived.Outline
namespace Go.Proofs.YtdnadlpkeinnfaaDoor
open Go.ChangeShapes Go.WideShapes Go.ChangeAt Go.RowKit
def row4 : Row4 → List Value := fun (a, b, c, d) => [.int .i64 a, .int .i64 b, .int .i64 c, .int .i64 d]
def sideC : Array Value := #[.int .i64 0, .int .i64 2, .int .i64 3, .int .i64 4]
def passC : Array Value := (tab.flatMap row4).toArray
/-- WHAT THE PROGRAM READS: its two tables. -/
def GW (w : World) : Prop := (∃ t fr, w.heap[0]? = some (.cells sideC t fr)) ∧ ∃ t fr, w.heap[1]? = some (.cells passC t fr)
theorem GW.below {w w' : World} (h : GW w) (hb : Below w.heap.size w w') : GW w' := by
  obtain ⟨⟨t, fr, h0⟩, t', fr', h1⟩ := h
  refine ⟨⟨t, fr, ?_⟩, t', fr', ?_⟩
  · rw [hb.block _ (Array.getElem?_eq_some_iff.1 h0).1]; exact h0
  · rw [hb.block _ (Array.getElem?_eq_some_iff.1 h1).1]; exact h1
theorem GW.side {w : World} (h : GW w) (j : Nat) (x : Value) (hx : sideC[j]? = some x) : w.cell? ⟨0, j, none⟩ = some x := by
  obtain ⟨⟨t, fr, h0⟩, _⟩ := h
  rw [cell_of_row w _ j sideC t fr h0]; exact hx
theorem info_pass : (Tryd.prog.info? 35).map (·.size) = some passC.size := by kernel_rfl
set_option maxRecDepth 100000 in
theorem pass_at (k : Nat) (hk : k < 10) : ∃ a b c d, tab.drop k = (a, b, c, d) :: tab.drop (k + 1) ∧
    ∀ w, (Instr.index 35 (.agg passC) (.int .i64 k)).run Tryd.prog w = .ok (.agg #[.int .i64 a, .int .i64 b, .int .i64 c, .int .i64 d]) w := by
  match k, hk with
  | 0, _ => exact ⟨_, _, _, _, rfl, fun w => by kernel_rfl⟩
  | 1, _ => exact ⟨_, _, _, _, rfl, fun w => by kernel_rfl⟩
  | 2, _ => exact ⟨_, _, _, _, rfl, fun w => by kernel_rfl⟩
  | 3, _ => exact ⟨_, _, _, _, rfl, fun w => by kernel_rfl⟩
  | 4, _ => exact ⟨_, _, _, _, rfl, fun w => by kernel_rfl⟩
  | 5, _ => exact ⟨_, _, _, _, rfl, fun w => by kernel_rfl⟩
  | 6, _ => exact ⟨_, _, _, _, rfl, fun w => by kernel_rfl⟩
  | 7, _ => exact ⟨_, _, _, _, rfl, fun w => by kernel_rfl⟩
  | 8, _ => exact ⟨_, _, _, _, rfl, fun w => by kernel_rfl⟩
  | 9, _ => exact ⟨_, _, _, _, rfl, fun w => by kernel_rfl⟩
  | k + 10, h => omega
def outV (x : Int × Bool) : Value := .tuple #[.int .i64 x.1, .bool x.2]
/-- A side or a position, and whether there is one, are handed back; nothing that was there has changed. -/
def RetP (w : World) (x : Int × Bool) (e : Ending) (w' : World) : Prop := e = .returned (outV x) ∧ Below w.heap.size w w'
end Go.Proofs.YtdnadlpkeinnfaaDoor
