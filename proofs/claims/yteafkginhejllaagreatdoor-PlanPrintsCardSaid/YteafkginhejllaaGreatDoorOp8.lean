/- What comes in: a layout by value, its slices of structs opened cell by cell. Conditions: none beyond the readings. -/
import Derived.Test.YteafkginhejllaaGreatDoorAl8
import Derived.Test.YteafkginhejllaaGreatDoorFr8
import Derived.Deep.Slices
import Derived.Lib.LaidTab
import Derived.ProofKit
namespace Go.Proofs.YteafkginhejllaaGreatDoor
open Go.ChangeShapes Go.WideShapes Go.ChangeAt Go.RowKit
open Go.Deep
theorem RM.nil (w : World) (a : Option Addr) (c m : Nat) : RM w (.slice a 0 c) m [] := ⟨a, c, rfl, by simp, fun j r hr => by simp at hr⟩
theorem elV_len (x : ElD) : (elV x).length = 7 := rfl
theorem joV_len (x : EndD × EndD) : (joV x).length = 4 := rfl
theorem sgV_len (x : SigD) : (sgV x).length = 4 := rfl
set_option maxRecDepth 100000 in
theorem pick_list {α : Type} {Q : Nat → α → Prop} : ∀ (n : Nat), (∀ i, i < n → ∃ x, Q i x) → ∃ l : List α, l.length = n ∧ ∀ (i : Nat) x, l[i]? = some x → Q i x
  | 0, _ => ⟨[], rfl, fun i x h => by simp at h⟩
  | n + 1, h => by
    obtain ⟨l, hl, hq⟩ := pick_list n fun i hi => h i (by omega)
    obtain ⟨x, hx⟩ := h n (by omega)
    refine ⟨l ++ [x], by simp [hl], fun i y hy => ?_⟩
    by_cases hi : i < n
    · rw [List.getElem?_append_left (by omega)] at hy
      exact hq i y hy
    · have hi2 : i = n := by
        have := (List.getElem?_eq_some_iff.1 hy).1
        simp [hl] at this
        omega
      subst hi2
      rw [List.getElem?_append_right (by omega), hl, Nat.sub_self] at hy
      simp at hy; subst hy; exact hx
set_option maxRecDepth 100000 in
theorem cells_at {w : World} {base : Nat} {a : Addr} : ∀ {n : Nat} {cs : List Value}, w.cells? base a n = some cs → cs.length = n ∧ ∀ (j : Nat) x, cs[j]? = some x → w.cell? (a.add j) = some x := by
  intro n cs h
  unfold World.cells? at h
  split at h
  · refine ⟨by simpa using Lib.mapM_length h, fun j x hx => ?_⟩
    have hj : j < n := by have := (List.getElem?_eq_some_iff.1 hx).1; have h2 := Lib.mapM_length h; simp at h2; omega
    obtain ⟨y, hy, hc⟩ := Lib.mapM_at h j j (by simp [hj])
    rw [hx] at hy
    obtain rfl := Option.some.inj hy
    exact hc
  · cases h
section
variable {H : Type} {enc : TypeId × Value → H} {P : Program} {w : World}
set_option maxRecDepth 100000 in
theorem open_rows {α : Type} (f : α → List Value) (m : Nat) (Pr : α → Prop) (hfm : ∀ x, (f x).length = m) (hm0 : 0 < m) {t e : TypeId} {fuel : Nat} {v : Value} {x : DataW H × List MemPlace} (ht : P.underlying t = some (.slice e)) (hc : P.cellsOf e = m)
    (conv : ∀ (n : Nat) (cs : List Value) (y : DataW H × List MemPlace), DataW.trod enc P w 0 (fun _ => true) true n e cs = some y → ∃ z, cs = f z ∧ Pr z)
    (h : DataW.trod enc P w 0 (fun _ => true) true fuel t [v] = some x) : ∃ l : List α, RM w v m (l.map f) ∧ ∀ z ∈ l, Pr z := by
  rcases open_slice ht h with ⟨hcs, _⟩ | ⟨a, len, cap, m', n, D, Pl, hcs, _, hl, hm, hmm, _, hel⟩
  · simp only [List.cons.injEq, and_true] at hcs
    subst hcs
    exact ⟨[], RM.nil _ _ _ _, by simp⟩
  · simp only [List.cons.injEq, and_true] at hcs
    subst hcs
    rw [if_pos rfl] at hmm
    subst hmm
    obtain ⟨l, hl1, hl2⟩ := pick_list (Q := fun i z => (∀ (j : Nat) x, (f z)[j]? = some x → w.cell? ((a.add (i * m)).add j) = some x) ∧ Pr z) len fun i hi => by
      obtain ⟨cs, hcell, htr⟩ := hel i (by omega)
      rw [hc] at hcell
      obtain ⟨z, rfl, hz⟩ := conv _ _ _ htr
      exact ⟨z, (cells_at hcell).2, hz⟩
    refine ⟨l, ⟨some a, _, by rw [List.length_map, hl1], ⟨by rw [List.length_map]; simp only [maxLen] at hm; omega, by rw [List.length_map]; omega⟩, fun j r hr => ?_⟩, fun z hz => ?_⟩
    · rw [List.getElem?_map, Option.map_eq_some_iff] at hr
      obtain ⟨z, hz, rfl⟩ := hr
      obtain ⟨hcell, _⟩ := hl2 j z hz
      obtain ⟨b, off, spot⟩ := a
      have h0 := hcell 0 _ (List.getElem?_eq_getElem (by rw [hfm]; exact hm0))
      have hspot : spot = none := by
        have hl0 : 0 < l.length := by have := (List.getElem?_eq_some_iff.1 hz).1; omega
        have hz0 := (hl2 0 _ (List.getElem?_eq_getElem hl0)).1 0 _ (List.getElem?_eq_getElem (by rw [hfm]; exact hm0))
        rw [Nat.zero_mul, show ((⟨b, off, spot⟩ : Addr).add 0).add 0 = ⟨b, off, spot⟩ from rfl] at hz0
        exact World.cell?_spot hz0
      subst hspot
      have ea : ∀ k, ((⟨b, off, none⟩ : Addr).add (j * m)).add k = ⟨b, off + j * m + k, none⟩ := fun k => by
        unfold Addr.add
        repeat' split
        all_goals simp_all
      have h1 := h0
      rw [ea] at h1
      exact ⟨b, off, rfl, World.block_lt_of_cell? w ⟨b, off + j * m + 0, none⟩ h1, fun i x hx => by have := hcell i x hx; rwa [ea] at this⟩
    · obtain ⟨i, hi, rfl⟩ := List.getElem_of_mem hz
      exact (hl2 i _ (List.getElem?_eq_getElem hi)).2
end
section
variable {H : Type} {enc : TypeId × Value → H} {w : World}
set_option maxRecDepth 100000 in
theorem conv_str (n : Nat) (cs : List Value) (y : DataW H × List MemPlace) (h : DataW.trod enc Tryz.prog w 0 (fun _ => true) true n 9 cs = some y) : ∃ z : L8, cs = [str z] ∧ z.length ≤ 9223372036854775807 := by
  obtain ⟨s, hs, _, hm⟩ := DataW.trod_string Tryz.underlying9 h
  obtain ⟨l, rfl, hl⟩ := sb_all s
  exact ⟨l, hs, by simp only [maxLen] at hm; omega⟩
set_option maxRecDepth 100000 in
theorem one_int {n : Nat} {c : List Value} {y : Option (DataW H × List MemPlace)} (hn : y.isSome = true) (h : DataW.trod enc Tryz.prog w 0 (fun _ => true) true n 3 c = y) : ∃ z : Int, c = [.int .i64 z] := by
  obtain ⟨y, rfl⟩ := Option.isSome_iff_exists.1 hn
  obtain ⟨z, hz, _, _⟩ := DataW.trod_int Tryz.underlying3 h
  exact ⟨z, hz⟩
set_option maxRecDepth 100000 in
theorem conv_end (n : Nat) (cs : List Value) (y : DataW H × List MemPlace) (h : DataW.trod enc Tryz.prog w 0 (fun _ => true) true n 47 cs = some y) : ∃ z : EndD, cs = enV z := by
  obtain ⟨xs, n', _, _, hl, hlen, hf⟩ := DataW.trod_struct Tryz.underlying47 h
  have hC : Tryz.prog.cellsOf 47 = 2 := by kernel_rfl
  have hI : Tryz.prog.cellsOf 3 = 1 := by kernel_rfl
  rw [hC] at hl
  have hlen : xs.length = 2 := hlen
  match cs, hl with
  | [c0, c1], _ =>
    have f0 : DataW.trod enc Tryz.prog w 0 (fun _ => true) true n' 3 (List.take (Tryz.prog.cellsOf 3) (List.drop 0 [c0, c1])) = xs[0]? := hf 0 _ rfl
    have f1 : DataW.trod enc Tryz.prog w 0 (fun _ => true) true n' 3 (List.take (Tryz.prog.cellsOf 3) (List.drop 1 [c0, c1])) = xs[1]? := hf 1 _ rfl
    rw [hI] at f0 f1
    obtain ⟨z0, e0⟩ := one_int (by simp [hlen]) f0
    obtain ⟨z1, e1⟩ := one_int (by simp [hlen]) f1
    simp at e0 e1
    subst e0 e1
    exact ⟨(z0, z1), rfl⟩
set_option maxRecDepth 100000 in
theorem conv_el (n : Nat) (cs : List Value) (y : DataW H × List MemPlace) (h : DataW.trod enc Tryz.prog w 0 (fun _ => true) true n 45 cs = some y) : ∃ z : ElD, cs = elV z ∧ z.name.length ≤ 9223372036854775807 := by
  obtain ⟨xs, n', _, _, hl, hlen, hf⟩ := DataW.trod_struct Tryz.underlying45 h
  have hC : Tryz.prog.cellsOf 45 = 7 := by kernel_rfl
  have hI : Tryz.prog.cellsOf 3 = 1 := by kernel_rfl
  have hS : Tryz.prog.cellsOf 9 = 1 := by kernel_rfl
  rw [hC] at hl
  have hlen : xs.length = 7 := hlen
  match cs, hl with
  | [c0, c1, c2, c3, c4, c5, c6], _ =>
    have f0 : DataW.trod enc Tryz.prog w 0 (fun _ => true) true n' 9 (List.take (Tryz.prog.cellsOf 9) (List.drop 0 [c0, c1, c2, c3, c4, c5, c6])) = xs[0]? := hf 0 _ rfl
    have f1 : DataW.trod enc Tryz.prog w 0 (fun _ => true) true n' 3 (List.take (Tryz.prog.cellsOf 3) (List.drop 1 [c0, c1, c2, c3, c4, c5, c6])) = xs[1]? := hf 1 _ rfl
    have f2 : DataW.trod enc Tryz.prog w 0 (fun _ => true) true n' 3 (List.take (Tryz.prog.cellsOf 3) (List.drop 2 [c0, c1, c2, c3, c4, c5, c6])) = xs[2]? := hf 2 _ rfl
    have f3 : DataW.trod enc Tryz.prog w 0 (fun _ => true) true n' 3 (List.take (Tryz.prog.cellsOf 3) (List.drop 3 [c0, c1, c2, c3, c4, c5, c6])) = xs[3]? := hf 3 _ rfl
    have f4 : DataW.trod enc Tryz.prog w 0 (fun _ => true) true n' 3 (List.take (Tryz.prog.cellsOf 3) (List.drop 4 [c0, c1, c2, c3, c4, c5, c6])) = xs[4]? := hf 4 _ rfl
    have f5 : DataW.trod enc Tryz.prog w 0 (fun _ => true) true n' 3 (List.take (Tryz.prog.cellsOf 3) (List.drop 5 [c0, c1, c2, c3, c4, c5, c6])) = xs[5]? := hf 5 _ rfl
    have f6 : DataW.trod enc Tryz.prog w 0 (fun _ => true) true n' 3 (List.take (Tryz.prog.cellsOf 3) (List.drop 6 [c0, c1, c2, c3, c4, c5, c6])) = xs[6]? := hf 6 _ rfl
    rw [hS, List.getElem?_eq_getElem (by omega)] at f0
    rw [hI] at f1 f2 f3 f4 f5 f6
    obtain ⟨z0, e0, hz0⟩ := conv_str _ _ _ f0
    obtain ⟨z1, e1⟩ := one_int (by simp [hlen]) f1
    obtain ⟨z2, e2⟩ := one_int (by simp [hlen]) f2
    obtain ⟨z3, e3⟩ := one_int (by simp [hlen]) f3
    obtain ⟨z4, e4⟩ := one_int (by simp [hlen]) f4
    obtain ⟨z5, e5⟩ := one_int (by simp [hlen]) f5
    obtain ⟨z6, e6⟩ := one_int (by simp [hlen]) f6
    simp at e0 e1 e2 e3 e4 e5 e6
    subst e0 e1 e2 e3 e4 e5 e6
    exact ⟨⟨z0, z1, z2, z3, z4, z5, z6⟩, rfl, hz0⟩
set_option maxRecDepth 100000 in
theorem conv_joint (n : Nat) (cs : List Value) (y : DataW H × List MemPlace) (h : DataW.trod enc Tryz.prog w 0 (fun _ => true) true n 49 cs = some y) : ∃ z : EndD × EndD, cs = joV z ∧ True := by
  obtain ⟨xs, n', _, _, hl, hlen, hf⟩ := DataW.trod_struct Tryz.underlying49 h
  have hC : Tryz.prog.cellsOf 49 = 4 := by kernel_rfl
  have hE : Tryz.prog.cellsOf 47 = 2 := by kernel_rfl
  rw [hC] at hl
  have hlen : xs.length = 2 := hlen
  match cs, hl with
  | [c0, c1, c2, c3], _ =>
    have f0 : DataW.trod enc Tryz.prog w 0 (fun _ => true) true n' 47 (List.take (Tryz.prog.cellsOf 47) (List.drop 0 [c0, c1, c2, c3])) = xs[0]? := hf 0 _ rfl
    have f1 : DataW.trod enc Tryz.prog w 0 (fun _ => true) true n' 47 (List.take (Tryz.prog.cellsOf 47) (List.drop 2 [c0, c1, c2, c3])) = xs[1]? := hf 1 _ rfl
    rw [hE, List.getElem?_eq_getElem (by omega)] at f0 f1
    obtain ⟨⟨a, b⟩, e0⟩ := conv_end _ _ _ f0
    obtain ⟨⟨c, d⟩, e1⟩ := conv_end _ _ _ f1
    simp [enV] at e0 e1
    obtain ⟨rfl, rfl⟩ := e0
    obtain ⟨rfl, rfl⟩ := e1
    exact ⟨((a, b), (c, d)), rfl, trivial⟩
set_option maxRecDepth 100000 in
theorem conv_sig (n : Nat) (cs : List Value) (y : DataW H × List MemPlace) (h : DataW.trod enc Tryz.prog w 0 (fun _ => true) true n 51 cs = some y) : ∃ z : SigD, cs = sgV z ∧ z.name.length ≤ 9223372036854775807 := by
  obtain ⟨xs, n', _, _, hl, hlen, hf⟩ := DataW.trod_struct Tryz.underlying51 h
  have hC : Tryz.prog.cellsOf 51 = 4 := by kernel_rfl
  have hE : Tryz.prog.cellsOf 47 = 2 := by kernel_rfl
  have hI : Tryz.prog.cellsOf 3 = 1 := by kernel_rfl
  have hS : Tryz.prog.cellsOf 9 = 1 := by kernel_rfl
  rw [hC] at hl
  have hlen : xs.length = 3 := hlen
  match cs, hl with
  | [c0, c1, c2, c3], _ =>
    have f0 : DataW.trod enc Tryz.prog w 0 (fun _ => true) true n' 9 (List.take (Tryz.prog.cellsOf 9) (List.drop 0 [c0, c1, c2, c3])) = xs[0]? := hf 0 _ rfl
    have f1 : DataW.trod enc Tryz.prog w 0 (fun _ => true) true n' 47 (List.take (Tryz.prog.cellsOf 47) (List.drop 1 [c0, c1, c2, c3])) = xs[1]? := hf 1 _ rfl
    have f2 : DataW.trod enc Tryz.prog w 0 (fun _ => true) true n' 3 (List.take (Tryz.prog.cellsOf 3) (List.drop 3 [c0, c1, c2, c3])) = xs[2]? := hf 2 _ rfl
    rw [hS, List.getElem?_eq_getElem (by omega)] at f0
    rw [hE, List.getElem?_eq_getElem (by omega)] at f1
    rw [hI] at f2
    obtain ⟨z0, e0, hz0⟩ := conv_str _ _ _ f0
    obtain ⟨⟨a, b⟩, e1⟩ := conv_end _ _ _ f1
    obtain ⟨z2, e2⟩ := one_int (by simp [hlen]) f2
    simp [enV] at e0 e1 e2
    obtain ⟨rfl, rfl⟩ := e1
    subst e0 e2
    exact ⟨⟨z0, (a, b), z2⟩, rfl, hz0⟩
set_option maxRecDepth 100000 in
theorem conv_bal (n : Nat) (cs : List Value) (y : DataW H × List MemPlace) (h : DataW.trod enc Tryz.prog w 0 (fun _ => true) true n 59 cs = some y) : ∃ z : BalD, cs = blV z ∧ True := by
  obtain ⟨xs, n', _, _, hl, hlen, hf⟩ := DataW.trod_struct Tryz.underlying59 h
  have hC : Tryz.prog.cellsOf 59 = 3 := by kernel_rfl
  have hI : Tryz.prog.cellsOf 3 = 1 := by kernel_rfl
  rw [hC] at hl
  have hlen : xs.length = 3 := hlen
  match cs, hl with
  | [c0, c1, c2], _ =>
    have f0 : DataW.trod enc Tryz.prog w 0 (fun _ => true) true n' 3 (List.take (Tryz.prog.cellsOf 3) (List.drop 0 [c0, c1, c2])) = xs[0]? := hf 0 _ rfl
    have f1 : DataW.trod enc Tryz.prog w 0 (fun _ => true) true n' 3 (List.take (Tryz.prog.cellsOf 3) (List.drop 1 [c0, c1, c2])) = xs[1]? := hf 1 _ rfl
    have f2 : DataW.trod enc Tryz.prog w 0 (fun _ => true) true n' 3 (List.take (Tryz.prog.cellsOf 3) (List.drop 2 [c0, c1, c2])) = xs[2]? := hf 2 _ rfl
    rw [hI] at f0 f1 f2
    obtain ⟨z0, e0⟩ := one_int (by simp [hlen]) f0
    obtain ⟨z1, e1⟩ := one_int (by simp [hlen]) f1
    obtain ⟨z2, e2⟩ := one_int (by simp [hlen]) f2
    simp at e0 e1 e2
    subst e0 e1 e2
    exact ⟨⟨z0, z1, z2⟩, rfl, trivial⟩
set_option maxRecDepth 100000 in
theorem rs_of_rm {v : Value} {l : List L8} (h : RM w v 1 (l.map fun z => [str z])) : RS w v (strsV l) := by
  obtain ⟨a, cap, hv, hm, hc⟩ := h
  rw [List.length_map] at hv hm
  refine ⟨a, cap, by rw [strsV_length]; exact hv, by rw [strsV_length]; exact hm, fun j x hx => ?_⟩
  simp only [strsV, List.getElem?_map, Option.map_eq_some_iff] at hx
  obtain ⟨z, hz, rfl⟩ := hx
  obtain ⟨b, off, ha, hlt, hcc⟩ := hc j [str z] (by simp [hz])
  refine ⟨b, off, ha, hlt, ?_⟩
  have := hcc 0 _ rfl
  simpa using this
set_option maxRecDepth 100000 in
/-- A layout that came in. -/
theorem open_lay {b0 : Nat} {v : Value} {d : DataW H} {p : List MemPlace} (hv : Value.okWide Tryz.prog w .any b0 28 v) (h : DataW.Trod enc Tryz.prog w 0 (fun _ => true) true 28 v d p) :
    ∃ L : LayD, RLay w v L ∧ ∀ s ∈ allNames L, s.length ≤ 9223372036854775807 := by
  obtain ⟨cs, rfl, hsz⟩ := okWide_struct Tryz.underlying28 hv
  obtain ⟨fuel, hf⟩ := h
  obtain ⟨xs, n, _, _, hl, hlen, hg⟩ := DataW.trod_struct Tryz.underlying28 hf
  have hC : Tryz.prog.cellsOf 28 = 6 := by kernel_rfl
  have hS : Tryz.prog.cellsOf 9 = 1 := by kernel_rfl
  have h1 : Tryz.prog.cellsOf 22 = 1 := by kernel_rfl
  have h2 : Tryz.prog.cellsOf 23 = 1 := by kernel_rfl
  have h3 : Tryz.prog.cellsOf 24 = 1 := by kernel_rfl
  have h4 : Tryz.prog.cellsOf 25 = 1 := by kernel_rfl
  have h5 : Tryz.prog.cellsOf 26 = 1 := by kernel_rfl
  have hlen : xs.length = 6 := hlen
  rw [hC] at hl
  obtain ⟨cl, hcl⟩ : ∃ cl : List Value, cs = cl.toArray := ⟨cs.toList, by simp⟩
  subst hcl
  have hc : (Value.cells (.agg cl.toArray)).toList = cl := rfl
  rw [hc] at hl hg
  match cl, hl with
  | [c0, c1, c2, c3, c4, c5], _ =>
    have f0 : DataW.trod enc Tryz.prog w 0 (fun _ => true) true n 9 (List.take (Tryz.prog.cellsOf 9) (List.drop 0 [c0, c1, c2, c3, c4, c5])) = xs[0]? := hg 0 _ rfl
    have f1 : DataW.trod enc Tryz.prog w 0 (fun _ => true) true n 22 (List.take (Tryz.prog.cellsOf 22) (List.drop 1 [c0, c1, c2, c3, c4, c5])) = xs[1]? := hg 1 _ rfl
    have f2 : DataW.trod enc Tryz.prog w 0 (fun _ => true) true n 23 (List.take (Tryz.prog.cellsOf 23) (List.drop 2 [c0, c1, c2, c3, c4, c5])) = xs[2]? := hg 2 _ rfl
    have f3 : DataW.trod enc Tryz.prog w 0 (fun _ => true) true n 24 (List.take (Tryz.prog.cellsOf 24) (List.drop 3 [c0, c1, c2, c3, c4, c5])) = xs[3]? := hg 3 _ rfl
    have f4 : DataW.trod enc Tryz.prog w 0 (fun _ => true) true n 25 (List.take (Tryz.prog.cellsOf 25) (List.drop 4 [c0, c1, c2, c3, c4, c5])) = xs[4]? := hg 4 _ rfl
    have f5 : DataW.trod enc Tryz.prog w 0 (fun _ => true) true n 26 (List.take (Tryz.prog.cellsOf 26) (List.drop 5 [c0, c1, c2, c3, c4, c5])) = xs[5]? := hg 5 _ rfl
    rw [hS, List.getElem?_eq_getElem (by omega)] at f0
    rw [h1, List.getElem?_eq_getElem (by omega)] at f1
    rw [h2, List.getElem?_eq_getElem (by omega)] at f2
    rw [h3, List.getElem?_eq_getElem (by omega)] at f3
    rw [h4, List.getElem?_eq_getElem (by omega)] at f4
    rw [h5, List.getElem?_eq_getElem (by omega)] at f5
    obtain ⟨nm, e0, hn⟩ := conv_str _ _ _ f0
    have e0 : c0 = str nm := by simpa using e0
    subst e0
    obtain ⟨l1, r1, p1⟩ := open_rows (fun z : L8 => [str z]) 1 (fun z => z.length ≤ 9223372036854775807) (fun _ => rfl) (by omega) Tryz.underlying22 hS conv_str f1
    obtain ⟨l2, r2, p2⟩ := open_rows elV 7 (fun z => z.name.length ≤ 9223372036854775807) elV_len (by omega) Tryz.underlying23 (by kernel_rfl) conv_el f2
    obtain ⟨l3, r3, _⟩ := open_rows joV 4 (fun _ => True) joV_len (by omega) Tryz.underlying24 (by kernel_rfl) conv_joint f3
    obtain ⟨l4, r4, p4⟩ := open_rows sgV 4 (fun z => z.name.length ≤ 9223372036854775807) sgV_len (by omega) Tryz.underlying25 (by kernel_rfl) conv_sig f4
    obtain ⟨l5, r5, _⟩ := open_rows blV 3 (fun _ => True) (fun _ => rfl) (by omega) Tryz.underlying26 (by kernel_rfl) conv_bal f5
    refine ⟨⟨nm, l1, l2, l3, l4, l5⟩, ⟨c1, c2, c3, c4, c5, rfl, rs_of_rm r1, r2, r3, r4, r5⟩, fun s hs => ?_⟩
    simp only [allNames, List.mem_append, List.mem_cons, List.mem_nil_iff, or_false, List.mem_map] at hs
    rcases hs with ((rfl | hs) | ⟨x, hx, rfl⟩) | ⟨x, hx, rfl⟩
    · exact hn
    · exact p1 s hs
    · exact p2 x hx
    · exact p4 x hx
end
end Go.Proofs.YteafkginhejllaaGreatDoor
