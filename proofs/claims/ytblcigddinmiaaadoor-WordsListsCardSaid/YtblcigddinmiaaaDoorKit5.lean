/- Words for layer 5: texts, lists of texts and lists of lines in a world; what the library's contracts ask of the world. Conditions: as stated. -/
import Derived.Test.YtblcigddinmiaaaDoorKit
import Derived.Test.YtblcigddinmiaaaDoorDec5
import Derived.Test.YtblcigddinmiaaaDoorShelf
import Derived.Lib.OthersKept
import Derived.Lib.DecodeN
import Derived.Laws.RangeAny
import Derived.LoopTactic
import Derived.Outline
namespace Go.Proofs.YtblcigddinmiaaaDoor
open Go.ChangeShapes Go.WideShapes Go.ChangeAt Go.RowKit
theorem info_str : (Tryd.prog.info? 9).map (fun i => (i.zero, i.size, i.bytes)) = some (some (.string ByteArray.empty), 1, 16) := by kernel_rfl
theorem info_strs : (Tryd.prog.info? 33).map (fun i => (i.zero, i.size, i.bytes)) = some (some (.slice none 0 0), 1, 24) := by kernel_rfl
def strsV (l : List L8) : List Value := l.map fun x => str x
theorem strsV_length (l : List L8) : (strsV l).length = l.length := by simp [strsV]
theorem strsV_snoc (l : List L8) (x : L8) : strsV (l ++ [x]) = strsV l ++ [str x] := by simp [strsV]
/-- What the cells of a slice of texts hold. -/
def SCells (w : World) (a : Option Addr) (l : List L8) : Prop := ∀ (j : Nat) x, (strsV l)[j]? = some x → ∃ b off, a = some ⟨b, off, none⟩ ∧ b < w.heap.size ∧ w.cell? ⟨b, off + j, none⟩ = some x
theorem SCells.rd {w wr : World} {a : Option Addr} {l : List L8} {k : Nat} {y : L8} (h : SCells w a l) (hb : Below w.heap.size w wr) (hy : l[k]? = some y) :
    ∃ b off, a = some ⟨b, off, none⟩ ∧ b < wr.heap.size ∧ wr.cell? ⟨b, off + k, none⟩ = some (str y) := by
  obtain ⟨b, off, ha, hlt, hc⟩ := h k (str y) (by simp [strsV, hy])
  exact ⟨b, off, ha, Nat.lt_of_lt_of_le hlt hb.size, (hb.cell (p := ⟨b, off + k, none⟩) hlt).trans hc⟩
theorem RS.openS {w : World} {v : Value} {l : List L8} (h : RS w v (strsV l)) : ∃ a cap, v = .slice a l.length cap ∧ (l.length ≤ 9223372036854775807 ∧ l.length ≤ cap) ∧ Hid (SCells w a l) := by
  obtain ⟨a, cap, hv, hm, hc⟩ := h
  rw [strsV_length] at hv hm
  exact ⟨a, cap, hv, hm, Lib.hid hc⟩
theorem SCells.rs {w : World} {a : Option Addr} {cap : Nat} {l : List L8} (h : SCells w a l) (hm : l.length ≤ 9223372036854775807 ∧ l.length ≤ cap) : RS w (.slice a l.length cap) (strsV l) :=
  ⟨a, cap, by rw [strsV_length], by rw [strsV_length]; exact hm, h⟩
/-- A slice of slices of texts. -/
def LL (w : World) (v : Value) (l : List (List L8)) : Prop := ∃ vs, RS w v vs ∧ vs.length = l.length ∧ ∀ (j : Nat) x y, vs[j]? = some x → l[j]? = some y → RS w x (strsV y)
theorem LL.below {w w' : World} {v : Value} {l : List (List L8)} (h : LL w v l) (hb : Below w.heap.size w w') : LL w' v l := by
  obtain ⟨vs, h1, h2, h3⟩ := h
  exact ⟨vs, h1.below hb, h2, fun j x y hx hy => (h3 j x y hx hy).below hb⟩
theorem LL.nil (w : World) (a : Option Addr) (cap : Nat) : LL w (.slice a 0 cap) [] := ⟨[], RS.nil _ _ _, rfl, fun j x y hx => by simp at hx⟩
def RowsL (w : World) (vs : List Value) (l : List (List L8)) : Prop := vs.length = l.length ∧ ∀ (j : Nat) x y, vs[j]? = some x → l[j]? = some y → RS w x (strsV y)
theorem RowsL.nil (w : World) : RowsL w [] [] := ⟨rfl, fun j x y hx => by simp at hx⟩
theorem RowsL.below {w w' : World} {vs : List Value} {l : List (List L8)} (h : RowsL w vs l) (hb : Below w.heap.size w w') : RowsL w' vs l := ⟨h.1, fun j x y hx hy => (h.2 j x y hx hy).below hb⟩
theorem RowsL.snoc {w : World} {vs : List Value} {l : List (List L8)} {v : Value} {x : List L8} (h : RowsL w vs l) (hx : RS w v (strsV x)) : RowsL w (vs ++ [v]) (l ++ [x]) := by
  refine ⟨by simp [h.1], fun j a y ha hy => ?_⟩
  by_cases hj : j < vs.length
  · rw [List.getElem?_append_left hj] at ha
    rw [List.getElem?_append_left (by rw [← h.1]; exact hj)] at hy
    exact h.2 j a y ha hy
  · by_cases he : j = vs.length
    · subst he
      rw [List.getElem?_append_right (by omega), Nat.sub_self] at ha
      rw [List.getElem?_append_right (by rw [h.1]; omega), h.1, Nat.sub_self] at hy
      simp at ha hy
      subst ha hy
      exact hx
    · rw [List.getElem?_eq_none (by simp; omega)] at ha
      cases ha
theorem LL.of {w : World} {v : Value} {vs : List Value} {l : List (List L8)} (h : RS w v vs) (hr : RowsL w vs l) : LL w v l := ⟨vs, h, hr.1, hr.2⟩
/-- One row of a slice of slices of texts, in a later world. -/
def LCells (w : World) (a : Option Addr) (l : List (List L8)) : Prop := ∀ (j : Nat) y, l[j]? = some y → ∃ b off x, a = some ⟨b, off, none⟩ ∧ b < w.heap.size ∧ w.cell? ⟨b, off + j, none⟩ = some x ∧ RS w x (strsV y)
theorem LL.open {w : World} {v : Value} {l : List (List L8)} (h : LL w v l) : ∃ a cap, v = .slice a l.length cap ∧ l.length ≤ 9223372036854775807 ∧ Hid (LCells w a l) := by
  obtain ⟨vs, ⟨a, cap, hv, ⟨hm, _⟩, hc⟩, h2, h3⟩ := h
  rw [h2] at hv hm
  refine ⟨a, cap, hv, hm, Lib.hid fun j y hy => ?_⟩
  have hj : j < l.length := (List.getElem?_eq_some_iff.1 hy).1
  have hx : vs[j]? = some (vs[j]'(by omega)) := List.getElem?_eq_getElem (by omega)
  obtain ⟨b, off, ha, hlt, hcell⟩ := hc j _ hx
  exact ⟨b, off, _, ha, hlt, hcell, h3 j _ y hx hy⟩
theorem LCells.rd {w wr : World} {a : Option Addr} {l : List (List L8)} {k : Nat} {y : List L8} (h : LCells w a l) (hb : Below w.heap.size w wr) (hy : l[k]? = some y) :
    ∃ b off x, a = some ⟨b, off, none⟩ ∧ b < wr.heap.size ∧ wr.cell? ⟨b, off + k, none⟩ = some x ∧ RS wr x (strsV y) := by
  obtain ⟨b, off, x, ha, hlt, hc, hr⟩ := h k y hy
  exact ⟨b, off, x, ha, Nat.lt_of_lt_of_le hlt hb.size, (hb.cell (p := ⟨b, off + k, none⟩) hlt).trans hc, hr.below hb⟩
theorem one_slice (a : Option Addr) (n c : Nat) : ∀ u ∈ [Value.slice a n c], u.oneCell' = true := by simp [Value.oneCell']
theorem one_str (x : L8) : ∀ u ∈ [str x], u.oneCell' = true := by simp [Value.oneCell']
theorem RS.shape {w : World} {v : Value} {vs : List Value} (h : RS w v vs) : ∃ a c, v = .slice a vs.length c := by
  obtain ⟨a, c, hv, _⟩ := h
  exact ⟨a, c, hv⟩
/-- What the library reads: its variable MaxLen, the table of powers of ten, the error of range. -/
def GW (w : World) : Prop := (∃ m, w.cell? ⟨0, 0, none⟩ = some (.int .i64 m)) ∧ (∃ ev, w.cell? ⟨2, 0, none⟩ = some ev ∧ (ev = .nilIface ∨ ∃ te pe, ev = .iface te pe)) ∧ Lib.TabIs Tryd.prog w "internal/strconv.uint64pow10" .u64 Lib.pow10Tab
theorem cell_kept {w w' : World} (hb : Below w.heap.size w w') {a : Addr} {v : Value} (hc : w.cell? a = some v) : w'.cell? a = some v := (hb.cell (World.block_lt_of_cell? w a hc)).trans hc
theorem GW.below {w w' : World} (h : GW w) (hb : Below w.heap.size w w') : GW w' := by
  obtain ⟨⟨m, hm⟩, ⟨ev, he, hv⟩, ht⟩ := h
  refine ⟨⟨m, cell_kept hb hm⟩, ⟨ev, cell_kept hb he, hv⟩, ?_⟩
  unfold Lib.TabIs at ht ⊢
  have hg : Tryd.prog.globalNamed "internal/strconv.uint64pow10" = some 3 := by kernel_rfl
  unfold World.var? at ht ⊢
  rw [hg] at ht ⊢
  simp only [Option.bind_some] at ht ⊢
  have hlt : 3 < w.heap.size := by
    rcases Nat.lt_or_ge 3 w.heap.size with h' | h'
    · exact h'
    · rw [Array.getElem?_eq_none h'] at ht; cases ht
  rw [hb.block _ hlt]
  exact ht
theorem GW.of {B : Nat} {w w' : World} (h : GW w) (hb : Below B w w') (hB : B = w.heap.size) : GW w' := h.below (hB ▸ hb)
/-- A byte that is not ASCII: the rune is none either, and so is each byte that it takes. -/
theorem high_rune {s : ByteArray} {pos : Nat} (h : pos < s.size) (h0 : 128 ≤ (s.get! pos).toNat) :
    128 ≤ (Utf8.decode s pos).1 ∧ (Utf8.decode s pos).1 < 2147483648 ∧ 1 ≤ (Utf8.decode s pos).2 ∧ pos + (Utf8.decode s pos).2 ≤ s.size ∧ ∀ j, j < (Utf8.decode s pos).2 → 128 ≤ (s.get! (pos + j)).toNat := by
  have lt : ∀ k, (s.get! k).toNat < 256 := fun k => by have := (s.get! k).toNat_lt; omega
  have l0 := lt pos
  have l1 := lt (pos + 1)
  have l2 := lt (pos + 2)
  have l3 := lt (pos + 3)
  rw [Lib.decode_at]
  unfold Lib.decodeN
  have key : ∀ (n : Nat), n ≤ 4 → (∀ j, 1 ≤ j → j < n → 128 ≤ (s.get! (pos + j)).toNat) → ∀ j, j < n → 128 ≤ (s.get! (pos + j)).toNat := by
    intro n _ hn j hj
    by_cases hz : j = 0
    · subst hz; exact h0
    · exact hn j (by omega) hj
  repeat' split
  all_goals (refine ⟨by simp only; omega, by simp only; omega, by simp only; omega, by simp only; omega, key _ (by simp only; omega) ?_⟩; intro j h1 h2; simp only at h2)
  all_goals first
    | omega
    | (have : j = 1 := by omega
       subst this; omega)
    | (have : j = 1 ∨ j = 2 := by omega
       rcases this with rfl | rfl <;> omega)
    | (have : j = 1 ∨ j = 2 ∨ j = 3 := by omega
       rcases this with rfl | rfl | rfl <;> omega)
end Go.Proofs.YtblcigddinmiaaaDoor
