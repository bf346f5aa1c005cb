/- Words for layer 7: rows of structs in a world; a layout as a value. Conditions: as stated. -/
import Derived.Test.YthoodaldmfojaaaDoorKitS
import Derived.Test.YthoodaldmfojaaaDoorLay7
import Derived.Laws.Rows
import Derived.Laws.ResultCell
import Derived.Handy
namespace Go.Proofs.YthoodaldmfojaaaDoor
open Go.ChangeShapes Go.WideShapes Go.ChangeAt Go.RowKit
/-- What the cells of a slice of elements of m cells hold. -/
def MCells (w : World) (a : Option Addr) (m : Nat) (vss : List (List Value)) : Prop :=
  ∀ (j : Nat) r, vss[j]? = some r → ∃ b off, a = some ⟨b, off, none⟩ ∧ b < w.heap.size ∧ ∀ (i : Nat) x, r[i]? = some x → w.cell? ⟨b, off + j * m + i, none⟩ = some x
/-- A slice value whose elements take m cells each, read in a world. -/
def RM (w : World) (v : Value) (m : Nat) (vss : List (List Value)) : Prop :=
  ∃ a cap, v = .slice a vss.length cap ∧ (vss.length ≤ 9223372036854775807 ∧ vss.length ≤ cap) ∧ MCells w a m vss
theorem MCells.below {w w' : World} {a : Option Addr} {m : Nat} {vss : List (List Value)} (h : MCells w a m vss) (hb : Below w.heap.size w w') : MCells w' a m vss := by
  intro j r hr
  obtain ⟨b, off, ha, hlt, hc⟩ := h j r hr
  exact ⟨b, off, ha, Nat.lt_of_lt_of_le hlt hb.size, fun i x hx => (hb.cell (p := ⟨b, off + j * m + i, none⟩) hlt).trans (hc i x hx)⟩
theorem RM.below {w w' : World} {v : Value} {m : Nat} {vss : List (List Value)} (h : RM w v m vss) (hb : Below w.heap.size w w') : RM w' v m vss := by
  obtain ⟨a, cap, hv, hm, hc⟩ := h
  exact ⟨a, cap, hv, hm, hc.below hb⟩
def elV (x : ElD) : List Value := [str x.name, .int .i64 x.kind, .int .i64 x.length, .int .i64 x.grade, .int .i64 x.speed, .int .i64 x.slow, .int .i64 x.sec]
def joV (j : EndD × EndD) : List Value := [.int .i64 j.1.1, .int .i64 j.1.2, .int .i64 j.2.1, .int .i64 j.2.2]
def sgV (s : SigD) : List Value := [str s.name, .int .i64 s.at_.1, .int .i64 s.at_.2, .int .i64 s.overlap]
def blV (b : BalD) : List Value := [.int .i64 b.id, .int .i64 b.el, .int .i64 b.off]
def enV (e : EndD) : List Value := [.int .i64 e.1, .int .i64 e.2]
/-- A layout as a value, read in a world. -/
def RLay (w : World) (v : Value) (L : LayD) : Prop :=
  ∃ v1 v2 v3 v4 v5, v = .agg #[str L.name, v1, v2, v3, v4, v5] ∧ RS w v1 (strsV L.secs) ∧ RM w v2 7 (L.els.map elV) ∧ RM w v3 4 (L.joints.map joV) ∧ RM w v4 4 (L.sigs.map sgV) ∧ RM w v5 3 (L.bals.map blV)
theorem RLay.below {w w' : World} {v : Value} {L : LayD} (h : RLay w v L) (hb : Below w.heap.size w w') : RLay w' v L := by
  obtain ⟨v1, v2, v3, v4, v5, hv, h1, h2, h3, h4, h5⟩ := h
  exact ⟨v1, v2, v3, v4, v5, hv, h1.below hb, h2.below hb, h3.below hb, h4.below hb, h5.below hb⟩
theorem RM.openM {α : Type} {w : World} {v : Value} {m : Nat} {l : List α} {f : α → List Value} (h : RM w v m (l.map f)) :
    ∃ a cap, v = .slice a l.length cap ∧ (l.length ≤ 9223372036854775807 ∧ l.length ≤ cap) ∧ Hid (MCells w a m (l.map f)) := by
  obtain ⟨a, cap, hv, hm, hc⟩ := h
  rw [List.length_map] at hv hm
  exact ⟨a, cap, hv, hm, Lib.hid hc⟩
theorem MCells.rm {α : Type} {w : World} {a : Option Addr} {cap m : Nat} {l : List α} {f : α → List Value} (h : MCells w a m (l.map f)) (hm : l.length ≤ 9223372036854775807 ∧ l.length ≤ cap) : RM w (.slice a l.length cap) m (l.map f) :=
  ⟨a, cap, by rw [List.length_map], by rw [List.length_map]; exact hm, h⟩
/-- One element, its cells in a later world. -/
theorem MCells.rd {α : Type} {w wr : World} {a : Option Addr} {m : Nat} {l : List α} {f : α → List Value} {k : Nat} {y : α} (h : MCells w a m (l.map f)) (hb : Below w.heap.size w wr) (hy : l[k]? = some y) :
    ∃ b off, a = some ⟨b, off, none⟩ ∧ b < wr.heap.size ∧ ∀ (i : Nat) x, (f y)[i]? = some x → wr.cell? ⟨b, off + k * m + i, none⟩ = some x := by
  obtain ⟨b, off, ha, hlt, hc⟩ := h k (f y) (by simp [hy])
  exact ⟨b, off, ha, Nat.lt_of_lt_of_le hlt hb.size, fun i x hx => (hb.cell (p := ⟨b, off + k * m + i, none⟩) hlt).trans (hc i x hx)⟩
/-- A block of a world, as the call laid it. -/
def Blk (w : World) (n : Nat) (cs : Array Value) : Prop := ∃ t, w.heap[n]? = some (.cells cs t (0, 0))
theorem Blk.at {w : World} {n : Nat} {cs : Array Value} (h : Blk w n cs) (j : Nat) (x : Value) (hx : cs[j]? = some x) : w.cell? ⟨n, j, none⟩ = some x := by
  obtain ⟨t, h⟩ := h
  rw [cell_of_row w n j cs t (0, 0) h]; exact hx
theorem Blk.free {w : World} {n : Nat} {cs : Array Value} (h : Blk w n cs) (j : Nat) : w.frozen? ⟨n, j, none⟩ = false := by
  obtain ⟨t, h⟩ := h
  simp [World.frozen?, h]
theorem Blk.lt {w : World} {n : Nat} {cs : Array Value} (h : Blk w n cs) : n < w.heap.size := by
  obtain ⟨t, h⟩ := h
  exact (Array.getElem?_eq_some_iff.1 h).1
theorem Blk.below {w w' : World} {n : Nat} {cs : Array Value} (h : Blk w n cs) (hb : Below w.heap.size w w') : Blk w' n cs := by
  have hl := h.lt
  obtain ⟨t, h⟩ := h
  exact ⟨t, by rw [hb.block n hl]; exact h⟩
theorem Blk.new (w : World) (cs : Array Value) (t : TypeId) (n : Nat) (hn : n = w.heap.size) : Blk (w.alloc (.cells cs t)) n cs := by
  subst hn
  exact ⟨t, heap_alloc_new w _⟩
theorem Blk.old {w : World} {n : Nat} {cs : Array Value} (h : Blk w n cs) (o : Obj) : Blk (w.alloc o) n cs := h.below ((Below.refl _ _).alloc (Nat.le_refl _) _)
theorem Blk.set {w : World} {n : Nat} {cs : Array Value} (h : Blk w n cs) (j : Nat) (v : Value) : Blk (w.setCell ⟨n, j, none⟩ v) n (cs.setIfInBounds j v) := by
  obtain ⟨t, h⟩ := h
  refine ⟨t, ?_⟩
  simp only [World.setCell, Array.getElem?_modify, ↓reduceIte, h, Option.map_some]
  simp
theorem Blk.other {w : World} {n m : Nat} {cs : Array Value} (h : Blk w n cs) (hne : n ≠ m) (j : Nat) (v : Value) : Blk (w.setCell ⟨m, j, none⟩ v) n cs := by
  obtain ⟨t, h⟩ := h
  exact ⟨t, by rw [Below.heap_setCell _ _ _ _ hne]; exact h⟩
/-- A struct that is a result and lies in a block of its own, beside a second result. -/
theorem ret_cell2 {P : Program} {fn : Func} {p u : Tmp} {ty : TypeId} {R : Ending → World → Prop} {a : Act} {w : World} (hr : fn.results = #[.cell p ty, .tmp u]) {d : TypeDesc} (hu : P.underlying ty = some d)
    (hd : (match d with | .struct _ | .array _ _ => true | _ => false) = true) {n : Nat} {cs : Array Value} (hi : (P.info? ty).map (·.size) = some cs.size) (hp : a.tmps.getD p undef = .pointer (some ⟨n, 0, none⟩))
    (hB : Blk w n cs) (hf : a.defers = []) (hR : R (.returned (.tuple #[.agg cs, a.tmps.getD u undef])) w) : bodyPost P fn R .ret a w := by
  obtain ⟨t, h⟩ := hB
  refine bodyPost_ret (v := .tuple #[.agg cs, a.tmps.getD u undef]) ?_ hf hR
  rw [results_cell_tmp hr, hp]
  simp [asAddr, run_loadVar_row w n t ty cs (0, 0) d h hu hd hi]
theorem alloc_below {B : Nat} {a w : World} (h : Below B a w) (hs : B ≤ a.heap.size) (o : Obj) : Below B a (w.alloc o) := h.alloc (Nat.le_trans hs h.size) o
theorem drop_get {α : Type} {l : List α} {k : Nat} {y : α} (h : l[k]? = some y) : l.drop k = y :: l.drop (k + 1) := by
  obtain ⟨h1, h2⟩ := List.getElem?_eq_some_iff.1 h
  rw [List.drop_eq_getElem_cons h1, h2]
end Go.Proofs.YthoodaldmfojaaaDoor
