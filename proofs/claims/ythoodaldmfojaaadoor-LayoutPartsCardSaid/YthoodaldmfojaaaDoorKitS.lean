/- Words for texts and lists of texts in a world. Conditions: as stated. -/
import Derived.Test.YthoodaldmfojaaaDoorKit
import Derived.Test.YthoodaldmfojaaaDoorL8
import Derived.Lib.OthersKept
import Derived.LoopTactic
import Derived.Outline
namespace Go.Proofs.YthoodaldmfojaaaDoor
open Go.ChangeShapes Go.WideShapes Go.ChangeAt Go.RowKit
theorem info_str : (Tryd.prog.info? 9).map (fun i => (i.zero, i.size, i.bytes)) = some (some (.string ByteArray.empty), 1, 16) := by kernel_rfl
theorem info_strs : (Tryd.prog.info? 22).map (fun i => (i.zero, i.size, i.bytes)) = some (some (.slice none 0 0), 1, 24) := by kernel_rfl
def strsV (l : List L8) : List Value := l.map fun x => str x
theorem strsV_length (l : List L8) : (strsV l).length = l.length := by simp [strsV]
theorem strsV_snoc (l : List L8) (x : L8) : strsV (l ++ [x]) = strsV l ++ [str x] := by simp [strsV]
/-- What the cells of a slice of texts hold. -/
def SCells (w : World) (a : Option Addr) (l : List L8) : Prop := ∀ (j : Nat) x, (strsV l)[j]? = some x → ∃ b off, a = some ⟨b, off, none⟩ ∧ b < w.heap.size ∧ w.cell? ⟨b, off + j, none⟩ = some x
theorem SCells.rd {w wr : World} {a : Option Addr} {l : List L8} {k : Nat} {y : L8} (h : SCells w a l) (hb : Below w.heap.size w wr) (hy : l[k]? = some y) :
    ∃ b off, a = some ⟨b, off, none⟩ ∧ b < wr.heap.size ∧ wr.cell? ⟨b, off + k, none⟩ = some (str y) := by
  obtain ⟨b, off, ha, hlt, hc⟩ := h k (str y) (by simp [strsV, hy])
  exact ⟨b, off, ha, Nat.lt_of_lt_of_le hlt hb.size, (hb.cell (p := ⟨b, off + k, none⟩) hlt).trans hc⟩
theorem RS.openS {w : World} {v : Value} {l : List L8} (h : RS w v (strsV l)) : ∃ a cap, v = .slice a l.length cap ∧ (l.length ≤ 9223372036854775807 ∧ l.length ≤ cap) ∧ Hid (SCells w a l) := by
  obtain ⟨a, cap, hv, hm, hc⟩ := h
  rw [strsV_length] at hv hm
  exact ⟨a, cap, hv, hm, Lib.hid hc⟩
theorem SCells.rs {w : World} {a : Option Addr} {cap : Nat} {l : List L8} (h : SCells w a l) (hm : l.length ≤ 9223372036854775807 ∧ l.length ≤ cap) : RS w (.slice a l.length cap) (strsV l) :=
  ⟨a, cap, by rw [strsV_length], by rw [strsV_length]; exact hm, h⟩
theorem one_str (x : L8) : ∀ u ∈ [str x], u.oneCell' = true := by simp [Value.oneCell']
theorem RS.shape {w : World} {v : Value} {vs : List Value} (h : RS w v vs) : ∃ a c, v = .slice a vs.length c := by
  obtain ⟨a, c, hv, _⟩ := h
  exact ⟨a, c, hv⟩
theorem cell_kept {w w' : World} (hb : Below w.heap.size w w') {a : Addr} {v : Value} (hc : w.cell? a = some v) : w'.cell? a = some v := (hb.cell (World.block_lt_of_cell? w a hc)).trans hc
end Go.Proofs.YthoodaldmfojaaaDoor
