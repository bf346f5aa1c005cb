/- Contract of Line: the line of the document. No condition. -/
import Derived.Test.YthoodaldmfojaaaDoorRchk7
import Derived.Deep.Cut
namespace Go.Proofs.YthoodaldmfojaaaDoor
open Go.ChangeShapes Go.WideShapes Go.ChangeAt Go.RowKit
section
variable {α : Type} (f : α → List Value) (m : Nat) (hm : ∀ x, (f x).length = m)
include hm
theorem flat_len (l : List α) : (l.flatMap f).length = l.length * m := by
  induction l with
  | nil => simp
  | cons x xs ih => rw [List.flatMap_cons, List.length_append, ih, hm, List.length_cons, Nat.add_mul, Nat.one_mul, Nat.add_comm]
theorem flat_at : ∀ (l : List α) (j : Nat) (e : α) (i : Nat) (x : Value), l[j]? = some e → (f e)[i]? = some x → (l.flatMap f)[j * m + i]? = some x
  | [], j, e, i, x, h, _ => by simp at h
  | y :: ys, 0, e, i, x, h, hx => by
    simp at h; subst h
    have hi := (List.getElem?_eq_some_iff.1 hx).1
    rw [List.flatMap_cons, List.getElem?_append_left (by omega)]
    simpa using hx
  | y :: ys, j + 1, e, i, x, h, hx => by
    have h1 := hm y
    have e1 : (j + 1) * m + i - (f y).length = j * m + i := by rw [h1, Nat.add_mul, Nat.one_mul]; omega
    rw [List.flatMap_cons, List.getElem?_append_right (by rw [h1, Nat.add_mul, Nat.one_mul]; omega), e1]
    exact flat_at ys j e i x (by simpa using h) hx
theorem RM.ownF {w : World} {base : Nat} {e : TypeId} {v : Value} {l : List α} (h : w.ownsRow base e m v l.length (l.flatMap f)) : RM w v m (l.map f) := by
  obtain ⟨hl, h⟩ := h
  rcases h with ⟨rfl, hn⟩ | ⟨g, cap, cur, rfl, hg, hh, hnc, hcm, hcs, ht⟩
  · obtain rfl : l = [] := List.eq_nil_of_length_eq_zero hn
    exact ⟨none, 0, rfl, by simp, fun j r hr => by simp at hr⟩
  · refine ⟨some ⟨g, 0, none⟩, cap, by rw [List.length_map], by rw [List.length_map]; simp only [maxLen] at hcm; omega, fun j r hr => ⟨g, 0, rfl, (Array.getElem?_eq_some_iff.1 hh).1, fun i x hx => ?_⟩⟩
    rw [List.getElem?_map, Option.map_eq_some_iff] at hr
    obtain ⟨y, hy, rfl⟩ := hr
    have hj := (List.getElem?_eq_some_iff.1 hy).1
    have hi : i < m := by have := (List.getElem?_eq_some_iff.1 hx).1; rwa [hm] at this
    have h2 := flat_at f m hm l j y i x hy hx
    have hlt : j * m + i < l.length * m := by
      have : (j + 1) * m ≤ l.length * m := Nat.mul_le_mul_right m hj
      rw [Nat.add_mul, Nat.one_mul] at this
      omega
    rw [← ht, List.getElem?_take, if_pos hlt] at h2
    simp only [World.cell?, hh, Nat.zero_add]
    simpa using h2
theorem RM.newF (w : World) (l : List α) (cs : Array Value) (t : TypeId) (n b : Nat) (hb : b = w.heap.size) (hc : cs = (l.flatMap f).toArray) (hn : n = l.length) (hn2 : n ≤ 9223372036854775807) : RM (w.alloc (.cells cs t)) (.slice (some ⟨b, 0, none⟩) n n) m (l.map f) := by
  subst hb hc hn
  refine ⟨_, _, by rw [List.length_map], by rw [List.length_map]; exact ⟨hn2, Nat.le_refl _⟩, fun j r hr => ⟨_, 0, rfl, by simp, fun i x hx => ?_⟩⟩
  rw [List.getElem?_map, Option.map_eq_some_iff] at hr
  obtain ⟨y, hy, rfl⟩ := hr
  rw [World.cell?_alloc_new, Nat.zero_add]
  simpa using flat_at f m hm l j y i x hy hx
theorem RM.blkF {w : World} {l : List α} {cs : Array Value} {n b : Nat} (h : Blk w b cs) (hc : cs = (l.flatMap f).toArray) (hn : n = l.length) (hn2 : n ≤ 9223372036854775807) : RM w (.slice (some ⟨b, 0, none⟩) n n) m (l.map f) := by
  subst hn
  refine ⟨_, _, by rw [List.length_map], by rw [List.length_map]; exact ⟨hn2, Nat.le_refl _⟩, fun j r hr => ⟨_, 0, rfl, h.lt, fun i x hx => ?_⟩⟩
  rw [List.getElem?_map, Option.map_eq_some_iff] at hr
  obtain ⟨y, hy, rfl⟩ := hr
  have := flat_at f m hm l j y i x hy hx
  rw [Nat.zero_add]
  exact h.at _ _ (by rw [hc]; simpa using this)
end
theorem RS.blk {w : World} {vs : List Value} {n b : Nat} (h : Blk w b vs.toArray) (hn : n = vs.length) (hn2 : n ≤ 9223372036854775807) : RS w (.slice (some ⟨b, 0, none⟩) n n) vs := by
  subst hn
  refine ⟨_, _, rfl, ⟨hn2, Nat.le_refl _⟩, fun j x hx => ⟨_, 0, rfl, h.lt, ?_⟩⟩
  rw [Nat.zero_add]
  exact h.at _ _ (by simpa using hx)
theorem RM.nil (w : World) (a : Option Addr) (c m : Nat) : RM w (.slice a 0 c) m [] := ⟨a, c, rfl, by simp, fun j r hr => by simp at hr⟩
theorem RM.tail {α : Type} {f : α → List Value} {w : World} {b off n c m : Nat} {y : α} {l : List α} (h : RM w (.slice (some ⟨b, off, none⟩) (n + 1) (c + 1)) m ((y :: l).map f)) : RM w (.slice (some ⟨b, off + m, none⟩) n c) m (l.map f) := by
  obtain ⟨a, cap, hv, hmm, hc⟩ := h
  injection hv with e1 e2 e3
  subst e1 e3
  rw [List.length_map, List.length_cons] at e2 hmm
  refine ⟨_, c, by rw [List.length_map]; congr 1; omega, by rw [List.length_map]; omega, fun j r hr => ?_⟩
  obtain ⟨b', off', he, hlt, hcc⟩ := hc (j + 1) r (by simpa using hr)
  simp only [Option.some.injEq, Addr.mk.injEq, and_true] at he
  obtain ⟨rfl, rfl⟩ := he
  refine ⟨b, off + m, rfl, hlt, fun i x hx => ?_⟩
  have := hcc i x hx
  rwa [show off + (j + 1) * m + i = off + m + j * m + i by rw [Nat.add_mul, Nat.one_mul]; omega] at this
def eA : ElD := ⟨[97], 1, 20000, 0, 3000, 0, 0⟩
def eB : ElD := ⟨[98], 1, 20000, 0, 3000, 0, 1⟩
def eC : ElD := ⟨[99], 1, 20000, 0, 3000, 0, 2⟩
def lineJ : List (EndD × EndD) := [((0, 1), (1, 0)), ((1, 1), (2, 0))]
def lineL : LayD := ⟨[108, 105, 110, 101], [[120], [121], [122]], [eA, eB, eC], lineJ, [⟨[115, 49], (0, 1), 0⟩, ⟨[115, 50], (1, 1), 0⟩], []⟩
def cutL : LayD := { lineL with joints := [((1, 1), (2, 0))] }
theorem elV_len (x : ElD) : (elV x).length = 7 := rfl
theorem joV_len (x : EndD × EndD) : (joV x).length = 4 := rfl
theorem sgV_len (x : SigD) : (sgV x).length = 4 := rfl
theorem info_el : (Tryd.prog.info? 34).map (fun i => (i.zero, i.size, i.bytes)) = some (some (.agg #[.string ByteArray.empty, .int .i64 0, .int .i64 0, .int .i64 0, .int .i64 0, .int .i64 0, .int .i64 0]), 7, 64) := by kernel_rfl
/-- A layout is handed back, with its joints in a block that can be cut; nothing that was there has changed. -/
def RetY (w : World) (e : Ending) (w' : World) : Prop :=
  ∃ v1 v2 b v4 v5, e = .returned (.agg #[str lineL.name, v1, v2, .slice (some ⟨b, 0, none⟩) 2 2, v4, v5]) ∧ v1.oneCell' = true ∧ v2.oneCell' = true ∧ v4.oneCell' = true ∧ v5.oneCell' = true ∧
    RLay w' (.agg #[str lineL.name, v1, v2, .slice (some ⟨b, 0, none⟩) 2 2, v4, v5]) lineL ∧ Below w.heap.size w w'
def zeroC : Array Value := #[.string ByteArray.empty, .slice none 0 0, .slice none 0 0, .slice none 0 0, .slice none 0 0, .slice none 0 0]
structure LnS (w W : World) (v2 : Value) (k : Nat) : Prop where
  b0 : Blk W w.heap.size zeroC
  b1 : Blk W (w.heap.size + 1) #[str [120], str [121], str [122]]
  b2 : Blk W (w.heap.size + 2) #[str [108, 105, 110, 101], .slice (some ⟨w.heap.size + 1, 0, none⟩) 3 3, v2, .slice none 0 0, .slice none 0 0, .slice none 0 0]
  b3 : Blk W (w.heap.size + 3) #[str [97], str [98], str [99]]
  ow : W.ownsRow (w.heap.size + 4) 34 7 v2 k (([eA, eB, eC].take k).flatMap elV)
  bel : Below w.heap.size w W
  sz : w.heap.size + 4 ≤ W.heap.size
theorem LnS.push {w W W' : World} {v2 v' : Value} {k : Nat} (h : LnS w W v2 k) (ho : W'.ownsRow (w.heap.size + 4) 34 7 v' (k + 1) (([eA, eB, eC].take (k + 1)).flatMap elV)) (hg : W.grownBy W' v2.ownBlock) :
    LnS w (W'.setCell ⟨w.heap.size + 2, 2, none⟩ v') v' (k + 1) := by
  have nb : ∀ B, B < w.heap.size + 4 → v2.ownBlock ≠ some B := fun B hB => own_lt h.ow hB
  have hs := hg.size
  have hsz := h.sz
  refine ⟨(h.b0.grown hg (nb _ (by omega))).other (by omega) _ _, (h.b1.grown hg (nb _ (by omega))).other (by omega) _ _, (h.b2.grown hg (nb _ (by omega))).set 2 v', (h.b3.grown hg (nb _ (by omega))).other (by omega) _ _, own_set ho _ (by omega) _ _, ?_, by simp; omega⟩
  exact below_set (below_grown h.bel hg h.ow (by omega) (by omega)) (by omega) _ _
theorem own_shape7 {w : World} {base size : Nat} {e : TypeId} {v : Value} {n : Nat} {xs : List Value} (h : w.ownsRow base e size v n xs) : ∃ a c, v = .slice a n c := own_shape h
set_option maxRecDepth 100000 in
set_option maxHeartbeats 8000000 in
theorem line_any (w : World) : Calls Tryd.prog 34 #[] w (RetY w) := by
  obtain ⟨W4, hW⟩ : ∃ W4, W4 = (((w.alloc (.cells zeroC 28)).alloc (.cells #[str [120], str [121], str [122]] 9)).alloc (.cells #[str [108, 105, 110, 101], .slice (some ⟨w.heap.size + 1, 0, none⟩) 3 3, .slice none 0 0, .slice none 0 0, .slice none 0 0, .slice none 0 0] 28)).alloc (.cells #[str [97], str [98], str [99]] 9) := ⟨_, rfl⟩
  have H4 : Hid (LnS w W4 (.slice none 0 0) 0) := Lib.hid (by
    rw [hW]
    exact ⟨(((Blk.new _ _ _ _ rfl).old _).old _).old _, ((Blk.new _ _ _ _ (by simp)).old _).old _, (Blk.new _ _ _ _ (by simp)).old _, Blk.new _ _ _ _ (by simp), World.ownsRow_nil _ _ _ _,
      ((((Below.refl _ _).alloc (Nat.le_refl _) _).alloc (by simp) _).alloc (by simp; omega) _).alloc (by simp; omega) _, by simp⟩)
  unfold zeroC at hW
  go_enter Tryd.func34, Tryd.ntmps34
  go_wp2
  rw [show (ByteArray.empty : ByteArray) = ⟨#[]⟩ from rfl] at hW
  rw [← hW]
  clear hW
  go_loopg [8] 3 (fun g s8 wx => ∃ (k : Nat) (v2 : Value), k + g = 3 ∧ s8 = .int .i64 k ∧ Hid (LnS w wx v2 k))
  case atStart => exact ⟨0, _, rfl, rfl, H4⟩
  case round =>
    clear H4
    obtain ⟨k, v2, hk, rfl, HL⟩ := hrel
    have hsz := HL.out.sz
    have hl2 : w.heap.size + 2 < wr.heap.size := by omega
    have hl3 : w.heap.size + 3 < wr.heap.size := by omega
    cases gk with
    | zero =>
      have hz : ¬ ((k : Int) < 3) := by omega
      obtain rfl : k = 3 := by omega
      have O2 := HL.out.ow
      obtain ⟨ax, cx, e2⟩ := own_shape O2
      subst e2
      have O3 := Lib.hid (RM.ownF elV 7 elV_len (l := [eA, eB, eC]) O2)
      have k0 := HL.out.b2.at 0 _ rfl
      have k1 := HL.out.b2.at 1 _ rfl
      have k2 := HL.out.b2.at 2 _ rfl
      have k3 := HL.out.b2.at 3 _ rfl
      have k4 := HL.out.b2.at 4 _ rfl
      have k5 := HL.out.b2.at 5 _ rfl
      have f3 := HL.out.b2.free 3
      have f4 := HL.out.b2.free 4
      have z0 := HL.out.b0.at 0 _ rfl
      have z1 := HL.out.b0.at 1 _ rfl
      have z2 := HL.out.b0.at 2 _ rfl
      have z3 := HL.out.b0.at 3 _ rfl
      have z4 := HL.out.b0.at 4 _ rfl
      have z5 := HL.out.b0.at 5 _ rfl
      have g0 := HL.out.b0.free 0
      have g1 := HL.out.b0.free 1
      have g2 := HL.out.b0.free 2
      have g3 := HL.out.b0.free 3
      have g4 := HL.out.b0.free 4
      have g5 := HL.out.b0.free 5
      have hl0 : w.heap.size < wr.heap.size := by omega
      have C4 : ∀ v o1 o2, (((wr.setCell ⟨w.heap.size + 1 + 1, 3, none⟩ v).alloc o1).alloc o2).cell? ⟨w.heap.size + 1 + 1, 4, none⟩ = some (.slice none 0 0) := fun v o1 o2 => (((HL.out.b2.set 3 v).old o1).old o2).at 4 _ rfl
      have F4 : ∀ v o1 o2, (((wr.setCell ⟨w.heap.size + 1 + 1, 3, none⟩ v).alloc o1).alloc o2).frozen? ⟨w.heap.size + 1 + 1, 4, none⟩ = false := fun v o1 o2 => (((HL.out.b2.set 3 v).old o1).old o2).free 4
      obtain ⟨X9, hX⟩ : ∃ X9, X9 = (((wr.setCell ⟨w.heap.size + 1 + 1, 3, none⟩ (.slice (some ⟨wr.heap.size, 0, none⟩) 2 2)).alloc (.cells #[.int .i64 0, .int .i64 1, .int .i64 1, .int .i64 0, .int .i64 1, .int .i64 1, .int .i64 2, .int .i64 0] 47)).alloc
        (.cells #[str [115, 49], .int .i64 0, .int .i64 1, .int .i64 0, str [115, 50], .int .i64 1, .int .i64 1, .int .i64 0] 56)).setCell ⟨w.heap.size + 1 + 1, 4, none⟩ (.slice (some ⟨wr.heap.size + 1, 0, none⟩) 2 2) := ⟨_, rfl⟩
      have P2 : Blk X9 (w.heap.size + 2) #[str [108, 105, 110, 101], .slice (some ⟨w.heap.size + 1, 0, none⟩) 3 3, .slice ax 3 cx, .slice (some ⟨wr.heap.size, 0, none⟩) 2 2, .slice (some ⟨wr.heap.size + 1, 0, none⟩) 2 2, .slice none 0 0] := by
        rw [hX]; exact (((HL.out.b2.set 3 _).old _).old _).set 4 _
      have P0 : Blk X9 w.heap.size zeroC := by rw [hX]; exact (((HL.out.b0.other (by omega) _ _).old _).old _).other (by omega) _ _
      have P1 : Blk X9 (w.heap.size + 1) #[str [120], str [121], str [122]] := by rw [hX]; exact (((HL.out.b1.other (by omega) _ _).old _).old _).other (by omega) _ _
      have P3 : Blk X9 wr.heap.size #[.int .i64 0, .int .i64 1, .int .i64 1, .int .i64 0, .int .i64 1, .int .i64 1, .int .i64 2, .int .i64 0] := by
        rw [hX]; exact ((Blk.new _ _ _ _ (by simp)).old _).other (by omega) _ _
      have P4 : Blk X9 (wr.heap.size + 1) #[str [115, 49], .int .i64 0, .int .i64 1, .int .i64 0, str [115, 50], .int .i64 1, .int .i64 1, .int .i64 0] := by
        rw [hX]; exact (Blk.new _ _ _ _ (by simp)).other (by omega) _ _
      have O9 : X9.ownsRow (w.heap.size + 4) 34 7 (.slice ax 3 cx) 3 ([eA, eB, eC].flatMap elV) := by
        rw [hX]; exact own_set (((own_set O2 (w.heap.size + 2) (by omega) _ _).alloc _).alloc _) (w.heap.size + 2) (by omega) _ _
      have B9 : Below w.heap.size w X9 := by
        rw [hX]; exact below_set (B := w.heap.size + 2) (alloc_below (alloc_below (below_set (B := w.heap.size + 2) HL.out.bel (by omega) _ _) (Nat.le_refl _) _) (Nat.le_refl _) _) (by omega) _ _
      replace P1 := Lib.hid P1
      replace P3 := Lib.hid P3
      replace P4 := Lib.hid P4
      replace O9 := Lib.hid O9
      clear O2 hk z0 z1 z2 z3 z4 z5 g0 g1 g2 g3 g4 g5
      go_upto_region 9 with fail
      rw [← hX]
      clear k0 k1 k2 k3 k4 k5 f3 f4 F4 C4
      have k0 := P2.at 0 _ rfl
      have k1 := P2.at 1 _ rfl
      have k2 := P2.at 2 _ rfl
      have k3 := P2.at 3 _ rfl
      have k4 := P2.at 4 _ rfl
      have k5 := P2.at 5 _ rfl
      have z0 := P0.at 0 _ rfl
      have z1 := P0.at 1 _ rfl
      have z2 := P0.at 2 _ rfl
      have z3 := P0.at 3 _ rfl
      have z4 := P0.at 4 _ rfl
      have z5 := P0.at 5 _ rfl
      have g0 := P0.free 0
      have g1 := P0.free 1
      have g2 := P0.free 2
      have g3 := P0.free 3
      have g4 := P0.free 4
      have g5 := P0.free 5
      replace hX := Lib.hid hX
      replace P0 := Lib.hid P0
      go_wp2
      refine ret_cell1 rfl Tryd.underlying28 rfl (cs := #[str [108, 105, 110, 101], .slice (some ⟨w.heap.size + 1, 0, none⟩) 3 3, .slice ax 3 cx, .slice (some ⟨wr.heap.size, 0, none⟩) 2 2, .slice (some ⟨wr.heap.size + 1, 0, none⟩) 2 2, .slice none 0 0]) (by kernel_rfl) rfl
        ((((((P0.out.set 0 _).set 1 _).set 2 _).set 3 _).set 4 _).set 5 _) rfl ⟨_, _, _, _, _, rfl, rfl, rfl, rfl, rfl, ⟨_, _, _, _, _, rfl, ?_, ?_, ?_, ?_, ?_⟩, ?_⟩
      · exact RS.blk (vs := strsV [[120], [121], [122]]) ((((((P1.out.other (by omega) _ _).other (by omega) _ _).other (by omega) _ _).other (by omega) _ _).other (by omega) _ _).other (by omega) _ _) rfl (by decide)
      · exact RM.ownF elV 7 elV_len (l := [eA, eB, eC]) (own_set (own_set (own_set (own_set (own_set (own_set O9.out w.heap.size (by omega) _ _) w.heap.size (by omega) _ _) w.heap.size (by omega) _ _) w.heap.size (by omega) _ _) w.heap.size (by omega) _ _) w.heap.size (by omega) _ _)
      · exact RM.blkF joV 4 joV_len (l := lineJ) ((((((P3.out.other (by omega) _ _).other (by omega) _ _).other (by omega) _ _).other (by omega) _ _).other (by omega) _ _).other (by omega) _ _) rfl rfl (by decide)
      · exact RM.blkF sgV 4 sgV_len (l := lineL.sigs) ((((((P4.out.other (by omega) _ _).other (by omega) _ _).other (by omega) _ _).other (by omega) _ _).other (by omega) _ _).other (by omega) _ _) rfl rfl (by decide)
      · exact RM.nil _ _ _ _
      · exact below_set (below_set (below_set (below_set (below_set (below_set B9 (Nat.le_refl _) _ _) (Nat.le_refl _) _ _) (Nat.le_refl _) _ _) (Nat.le_refl _) _ _) (Nat.le_refl _) _ _) (Nat.le_refl _) _ _
    | succ g =>
      have hz : (k : Int) < 3 := by omega
      have hk3 : k < 3 := by omega
      have k2 := HL.out.b2.at 2 _ rfl
      obtain ⟨y, hy, c3⟩ : ∃ y : UInt8, ([eA, eB, eC].take (k + 1)).flatMap elV = ([eA, eB, eC].take k).flatMap elV ++ [str [y], .int .i64 1, .int .i64 20000, .int .i64 0, .int .i64 3000, .int .i64 0, .int .i64 k] ∧ wr.cell? ⟨w.heap.size + 3, k, none⟩ = some (str [y]) := by
        match k, hk3 with
        | 0, _ => exact ⟨97, rfl, HL.out.b3.at 0 _ rfl⟩
        | 1, _ => exact ⟨98, rfl, HL.out.b3.at 1 _ rfl⟩
        | 2, _ => exact ⟨99, rfl, HL.out.b3.at 2 _ rfl⟩
        | k + 3, h => omega
      replace hk := Lib.hid hk
      replace hy := Lib.hid hy
      go_wp2_with (at_builtin
                   refine wpList_pushN _ rfl _ _ 23 rfl (w.heap.size + 4) 34 (.agg #[.string ByteArray.empty, .int .i64 0, .int .i64 0, .int .i64 0, .int .i64 0, .int .i64 0, .int .i64 0]) 7 64 Tryd.underlying23 info_el rfl (by omega) v2 k _ rfl HL.out.ow wr.heap.size rfl 1 [str [y], .int .i64 1, .int .i64 20000, .int .i64 0, .int .i64 3000, .int .i64 0, .int .i64 k] rfl rfl (by simp [Value.oneCell']) (by omega) (by omega) hsz ?_
                   intro v3 w3 p3 gr3 nb3
                   rw [← hy.out] at p3
                   obtain ⟨a3, c3', rfl⟩ := own_shape p3
                   have BB := HL.out.b2.grown gr3 (own_lt HL.out.ow (by omega))
                   have q0 := BB.at 2 _ rfl
                   have q1 := BB.free 2
                   have N3 := Lib.hid (HL.out.push p3 gr3)
                   clear BB p3 gr3 nb3)
      go_roundg g
      case measure => omega
      case rel => exact ⟨k + 1, _, by have := hk.out; omega, by go_num, N3⟩
end Go.Proofs.YthoodaldmfojaaaDoor
