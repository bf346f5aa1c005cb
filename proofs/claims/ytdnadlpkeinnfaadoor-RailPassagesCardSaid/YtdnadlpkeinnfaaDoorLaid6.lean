/- A start that meets the rows' condition on the listed variables: the heap that the door's own run leaves; and what that condition says of the blocks. No condition. -/
import Derived.Test.YtdnadlpkeinnfaaDoorRows
import Derived.Test.YtdnadlpkeinnfaaDoorGlob6
import Derived.ProofKit
import Derived.LaidMore
import Derived.LaidHandle
import Derived.Stop.Joined
import Derived.Lib.LaidTab
import Derived.Stop.LaidErr
import Derived.Shelf.Vars
namespace Go.Proofs.YtdnadlpkeinnfaaDoor
open Go.ChangeShapes Go.WideShapes Go.ChangeAt Go.RowKit
def LaidL : List (String × DataW Unit) := Rows.railSidesRow.laid
noncomputable def laidWorld (os : Os) : World := World.doorLaid Tryd.prog 600 os
set_option maxRecDepth 100000 in
theorem laid_met (os : Os) (args : Array Value) : laidMetH Tryd.prog LaidL ((laidWorld os).forCall (fun _ _ => 0) ⟨#[], args, []⟩).memory :=
  laidMetH_of_parts3 (fuel := 8) (laidMet_of_run' 8 (by kernel_rfl) (by kernel_rfl)) (by kernel_rfl) (by kernel_rfl)
set_option maxRecDepth 100000 in
theorem laid_shaped (os : Os) (args : Array Value) : ((laidWorld os).forCall (fun _ _ => 0) ⟨#[], args, []⟩).Shaped Tryd.prog :=
  World.shaped_of_RefB (by kernel_rfl) (by kernel_rfl)
section
variable {H : Type} {enc : TypeId × Value → H} {w : World} {base : Nat} {spare : Nat → Bool} {held : Bool} {fuel : Nat}
def rowD {H : Type} : Row4 → DataW H := fun (a, b, c, d) => .agg [.lit (.int .i64 a), .lit (.int .i64 b), .lit (.int .i64 c), .lit (.int .i64 d)]
theorem row_cells {r : Row4} {cs : List Value} {p : List MemPlace} (h : DataW.trod enc Tryd.prog w base spare held fuel 34 cs = some (rowD r, p)) : cs = row4 r := by
  obtain ⟨a, b, c, d⟩ := r
  obtain ⟨xs, n, _, hx, hl, hlen, hf⟩ := DataW.trod_struct Tryd.underlying34 h
  have hC : Tryd.prog.cellsOf 34 = 4 := by kernel_rfl
  have hI : Tryd.prog.cellsOf 3 = 1 := by kernel_rfl
  rw [hC] at hl
  match cs, hl with
  | [c0, c1, c2, c3], _ =>
    have hm : xs.map (·.1) = [.lit (.int .i64 a), .lit (.int .i64 b), .lit (.int .i64 c), .lit (.int .i64 d)] := by
      have := congrArg Prod.fst hx
      simp only [rowD] at this
      injection this with this
      exact this.symm
    match xs, hm with
    | [y0, y1, y2, y3], hm =>
      simp only [List.map_cons, List.map_nil, List.cons.injEq, and_true] at hm
      have f0 : DataW.trod enc Tryd.prog w base spare held n 3 (List.take (Tryd.prog.cellsOf 3) (List.drop 0 [c0, c1, c2, c3])) = some y0 := hf 0 _ rfl
      have f1 : DataW.trod enc Tryd.prog w base spare held n 3 (List.take (Tryd.prog.cellsOf 3) (List.drop 1 [c0, c1, c2, c3])) = some y1 := hf 1 _ rfl
      have f2 : DataW.trod enc Tryd.prog w base spare held n 3 (List.take (Tryd.prog.cellsOf 3) (List.drop 2 [c0, c1, c2, c3])) = some y2 := hf 2 _ rfl
      have f3 : DataW.trod enc Tryd.prog w base spare held n 3 (List.take (Tryd.prog.cellsOf 3) (List.drop 3 [c0, c1, c2, c3])) = some y3 := hf 3 _ rfl
      rw [hI] at f0 f1 f2 f3
      obtain ⟨z0, e0, g0, _⟩ := DataW.trod_int Tryd.underlying3 f0
      obtain ⟨z1, e1, g1, _⟩ := DataW.trod_int Tryd.underlying3 f1
      obtain ⟨z2, e2, g2, _⟩ := DataW.trod_int Tryd.underlying3 f2
      obtain ⟨z3, e3, g3, _⟩ := DataW.trod_int Tryd.underlying3 f3
      subst g0 g1 g2 g3
      simp at e0 e1 e2 e3 hm
      obtain ⟨rfl, rfl, rfl, rfl⟩ := hm
      subst e0 e1 e2 e3
      rfl
theorem chunks : ∀ (rs : List Row4) (cs : List Value), cs.length = 4 * rs.length → (∀ (i : Nat) r, rs[i]? = some r → (cs.drop (i * 4)).take 4 = row4 r) → cs = rs.flatMap row4
  | [], cs, hl, _ => by simpa using hl
  | r :: rs, cs, hl, h => by
    have h0 := h 0 r rfl
    simp only [Nat.zero_mul, List.drop_zero] at h0
    have ih := chunks rs (cs.drop 4) (by simp only [List.length_drop, List.length_cons] at *; omega) fun i r' hr => by
      have := h (i + 1) r' hr
      rw [List.drop_drop, show 4 + i * 4 = (i + 1) * 4 by omega]
      exact this
    rw [List.flatMap_cons, ← h0, ← ih, List.take_append_drop]
theorem pass_cells {cs : List Value} {p : List MemPlace} (h : DataW.trod enc Tryd.prog w base spare held fuel 35 cs = some (.agg (tab.map rowD), p)) : cs = tab.flatMap row4 := by
  obtain ⟨xs, n, _, hx, hl, hlen, hf⟩ := DataW.trod_array Tryd.underlying35 h
  have hC : Tryd.prog.cellsOf 34 = 4 := by kernel_rfl
  have hA : Tryd.prog.cellsOf 35 = 40 := by kernel_rfl
  rw [hA] at hl
  have hm : xs.map (·.1) = tab.map rowD := by
    have := congrArg Prod.fst hx
    injection this with this
    exact this.symm
  refine chunks tab cs (by rw [hl]; rfl) fun i r hr => ?_
  have hi : i < 10 := (List.getElem?_eq_some_iff.1 hr).1
  have h1 := hf i hi
  rw [hC, List.getElem?_eq_getElem (by omega)] at h1
  have h2 : (xs[i]'(by omega)).1 = rowD r := by
    have h3 : (xs.map (·.1))[i]? = (tab.map rowD)[i]? := by rw [hm]
    rw [List.getElem?_map, List.getElem?_map, hr, List.getElem?_eq_getElem (by omega)] at h3
    simpa using h3
  obtain ⟨y, hy⟩ : ∃ y, xs[i]'(by omega) = y := ⟨_, rfl⟩
  rw [hy] at h1 h2
  obtain ⟨y1, y2⟩ := y
  simp only at h2
  subst h2
  exact row_cells h1
end
theorem var_block {P : Program} {w : World} {name : String} {g : Nat} {cs : Array Value} (hg : P.globalNamed name = some g) (h : w.var? P name = some cs) : ∃ t fr, w.heap[g]? = some (.cells cs t fr) := by
  unfold World.var? at h
  rw [hg] at h
  simp only [Option.bind_some] at h
  split at h
  · rename_i c t fr hh
    obtain rfl := Option.some.inj h
    exact ⟨_, _, hh⟩
  · cases h
/-- WHAT THE CONDITION GIVES: the two tables. -/
theorem gw_of {W : World} (hL : laidMetH Tryd.prog LaidL W) : GW W := by
  have h0 : laidMet Tryd.prog LaidL W := hL
  have h1 := h0.tail
  refine ⟨?_, ?_⟩
  · have := Lib.tabIs_of_head (k := .i64) (zs := [0, 2, 3, 4]) (g := 0) (t := 32) (e := 3) (n := 4) (by kernel_rfl) (by kernel_rfl) Tryd.underlying32 Tryd.underlying3 (by kernel_rfl) (by kernel_rfl) h0
    exact var_block (cs := sideC) (by kernel_rfl) this
  · obtain ⟨ps, ⟨g', t', cs, fuel, p, q, hg', ht', hvar, hd, _, _⟩, _⟩ := h1
    obtain rfl := Option.some.inj ((show Tryd.prog.globalNamed "signalling/rail.passages" = some 1 by kernel_rfl).symm.trans hg')
    obtain rfl := Option.some.inj ((show (Tryd.prog.globals[1]?).map (·.type) = some 35 by kernel_rfl).symm.trans ht')
    have e := pass_cells hd
    have : cs = passC := by
      apply Array.toList_inj.1
      rw [e]; rfl
    subst this
    exact var_block (by kernel_rfl) hvar
end Go.Proofs.YtdnadlpkeinnfaaDoor
