/- More small laws over this seat's program: lists of ints and texts in a world; what a call leaves. Conditions: as stated. -/
import Derived.Test.YthoodaldmfojaaaDoorRows
import Derived.Test.YthoodaldmfojaaaDoorLib
import Derived.Lib.OwnBridge
import Derived.Lib.SmallJoins
import Derived.Laws.IdiomStrings
import Derived.Deep.QuietTactic
import Derived.BigQuiet
namespace Go.Proofs.YthoodaldmfojaaaDoor
open Go.ChangeShapes Go.WideShapes Go.ChangeAt Go.RowKit
theorem info_int : (Tryd.prog.info? 3).map (fun i => (i.zero, i.size, i.bytes)) = some (some (.int .i64 0), 1, 8) := by kernel_rfl
theorem info_u8 : (Tryd.prog.info? 5).map (fun i => (i.zero, i.size, i.bytes)) = some (some (.int .u8 0), 1, 1) := by kernel_rfl
/-- What the cells of a slice hold. -/
def Cells (w : World) (a : Option Addr) (l : List Int) : Prop := ∀ (j : Nat) x, (intsV l)[j]? = some x → ∃ b off, a = some ⟨b, off, none⟩ ∧ b < w.heap.size ∧ w.cell? ⟨b, off + j, none⟩ = some x
theorem Cells.rd {w wr : World} {a : Option Addr} {l : List Int} {k : Nat} {y : Int} (h : Cells w a l) (hb : Below w.heap.size w wr) (hy : l[k]? = some y) :
    ∃ b off, a = some ⟨b, off, none⟩ ∧ b < wr.heap.size ∧ wr.cell? ⟨b, off + k, none⟩ = some (.int .i64 y) := by
  obtain ⟨b, off, ha, hlt, hc⟩ := h k (.int .i64 y) (by simp [intsV, hy])
  exact ⟨b, off, ha, Nat.lt_of_lt_of_le hlt hb.size, (hb.cell (p := ⟨b, off + k, none⟩) hlt).trans hc⟩
theorem at_take {α : Type} {l : List α} {k : Nat} (h : k < l.length) : ∃ y, l[k]? = some y ∧ l.take (k+1) = l.take k ++ [y] ∧ y ∈ l := by
  refine ⟨l[k], by simp [h], by rw [List.take_succ_eq_append_getElem h], List.getElem_mem h⟩
theorem RS.open {w : World} {v : Value} {l : List Int} (h : RS w v (intsV l)) : ∃ a cap, v = .slice a l.length cap ∧ l.length ≤ 9223372036854775807 ∧ Hid (Cells w a l) := by
  obtain ⟨a, cap, hv, ⟨hm, _⟩, hc⟩ := h
  rw [intsV_length] at hv hm
  exact ⟨a, cap, hv, hm, Lib.hid hc⟩
theorem Cells.rs {w : World} {a : Option Addr} {cap : Nat} {l : List Int} (h : Cells w a l) (hm : l.length ≤ 9223372036854775807 ∧ l.length ≤ cap) : RS w (.slice a l.length cap) (intsV l) :=
  ⟨a, cap, by rw [intsV_length], by rw [intsV_length]; exact hm, h⟩
theorem RS.alloc {w : World} {v : Value} {vs : List Value} (h : RS w v vs) (o : Obj) : RS (w.alloc o) v vs := h.below ((Below.refl _ _).alloc (Nat.le_refl _) _)
theorem RS.drewN {w : World} {v : Value} {vs : List Value} (h : RS w v vs) (n : Nat) : RS (w.drewN n) v vs := h
theorem RS.newAt (w : World) (b n cap : Nat) (l : List Int) (cs : Array Value) (t : TypeId) (hb : b = w.heap.size) (hc : cs = (intsV l).toArray) (hn : n = l.length) (hv : n ≤ 9223372036854775807 ∧ n ≤ cap) :
    RS (w.alloc (.cells cs t)) (.slice (some ⟨b, 0, none⟩) n cap) (intsV l) := by
  subst hb
  exact RS.new _ _ _ _ _ _ hc (by rw [intsV_length]; exact hn) hv
theorem bdrew {B : Nat} {a w : World} (h : Below B a w) (n : Nat) : Below B a (w.drewN n) := h.trans ⟨rfl, rfl, rfl, Nat.le_refl _, fun _ _ => rfl⟩
/-- A list is handed back; nothing that was there has changed. -/
def RetL (w : World) (l : List Int) (e : Ending) (w' : World) : Prop := ∃ v, e = .returned v ∧ RS w' v (intsV l) ∧ Below w.heap.size w w'
/-- A value is handed back; nothing that was there has changed. -/
def RetV (w : World) (v : Value) (e : Ending) (w' : World) : Prop := e = .returned v ∧ Below w.heap.size w w'
def RetB (w : World) (b : Bool) (e : Ending) (w' : World) : Prop := e = .returned (.bool b) ∧ Below w.heap.size w w'
/-- A text of a list of bytes. -/
abbrev sb (l : List UInt8) : ByteArray := ⟨l.toArray⟩
abbrev str (l : List UInt8) : Value := .string ⟨l.toArray⟩
theorem sb_size (l : List UInt8) : (sb l).size = l.length := by simp [ByteArray.size]
theorem sb_all (s : ByteArray) : ∃ l : List UInt8, s = ⟨l.toArray⟩ ∧ l.length = s.size := ⟨s.data.toList, rfl, Array.length_toList⟩
def bytesV (l : List UInt8) : List Value := l.map fun b => Value.int .u8 (b.toNat : Int)
theorem bytesV_length (l : List UInt8) : (bytesV l).length = l.length := by simp [bytesV]
theorem bytesV_append (a b : List UInt8) : bytesV (a ++ b) = bytesV a ++ bytesV b := by simp [bytesV]
/-- 'string(b)' of an owned row of bytes. -/
theorem run_string_own {w : World} {base : Nat} {v : Value} {l : List UInt8} {P : Program} (src dst e : TypeId) (hs : P.underlying src = some (.slice e)) (he : P.underlying e = some (.int .u8)) (hd : P.underlying dst = some .string)
    (h : w.ownsRow base e 1 v l.length (bytesV l)) (hl : 0 < l.length) : (convert src dst v).run P w = .ok (str l) w := by
  obtain ⟨b, cap, hv⟩ := Joins.ownsRow_form h hl
  subst hv
  refine run_convert_bytes_back w src dst e _ cap l hs he hd fun j hj => ?_
  exact h.cells (g := b) rfl j _ (by simp [bytesV, hj])
end Go.Proofs.YthoodaldmfojaaaDoor
