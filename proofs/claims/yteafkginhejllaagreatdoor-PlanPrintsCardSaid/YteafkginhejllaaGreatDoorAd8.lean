/- Contracts of the functions that put a line into a layout. Conditions: as stated. -/
import Derived.Test.YteafkginhejllaaGreatDoorNu8
import Derived.Test.YteafkginhejllaaGreatDoorS8
import Derived.Deep.RegionLaw
namespace Go.Proofs.YteafkginhejllaaGreatDoor
open Go.ChangeShapes Go.WideShapes Go.ChangeAt Go.RowKit
/-- A layout that the call itself has laid: its own block B, and rows from block base on. -/
def LayP (w : World) (B base : Nat) (L : LayD) (v1 v2 v3 v4 v5 : Value) : Prop :=
  Blk w B #[str L.name, v1, v2, v3, v4, v5] ∧ B < base ∧ base ≤ w.heap.size ∧ w.ownsRow base 9 1 v1 L.secs.length (strsV L.secs) ∧ w.ownsRow base 45 7 v2 L.els.length (L.els.map elV).flatten ∧
    w.ownsRow base 49 4 v3 L.joints.length (L.joints.map joV).flatten ∧ w.ownsRow base 51 4 v4 L.sigs.length (L.sigs.map sgV).flatten ∧ w.ownsRow base 59 3 v5 L.bals.length (L.bals.map blV).flatten
def LayB (w : World) (B base : Nat) (L : LayD) : Prop := ∃ v1 v2 v3 v4 v5, LayP w B base L v1 v2 v3 v4 v5
/-- The element types of a layout's rows. -/
def rowTy (t : TypeId) : Bool := t == 9 || (t == 45 || (t == 49 || (t == 51 || t == 59)))
/-- What is kept: all blocks below base but B, and all blocks but B of other types than a layout's rows. -/
structure Kept (B base : Nat) (w w' : World) : Prop where
  os : w'.os = w.os
  tape : w'.tape = w.tape
  output : w'.output = w.output
  size : w.heap.size ≤ w'.heap.size
  block : ∀ k, k < base → k ≠ B → w'.heap[k]? = w.heap[k]?
  typed : ∀ (k : Nat) (cs : Array Value) (t : TypeId) (fr : Nat × Nat), w.heap[k]? = some (.cells cs t fr) → k ≠ B → rowTy t = false → w'.heap[k]? = some (.cells cs t fr)
theorem Kept.refl (B base : Nat) (w : World) : Kept B base w w := ⟨rfl, rfl, rfl, Nat.le_refl _, fun _ _ _ => rfl, fun _ _ _ _ h _ _ => h⟩
theorem Kept.trans {B base : Nat} {a b c : World} (h : Kept B base a b) (k : Kept B base b c) : Kept B base a c :=
  ⟨k.os.trans h.os, k.tape.trans h.tape, k.output.trans h.output, Nat.le_trans h.size k.size, fun i hi hn => (k.block i hi hn).trans (h.block i hi hn), fun j cs t fr hj hn ht => k.typed j cs t fr (h.typed j cs t fr hj hn ht) hn ht⟩
theorem Kept.of_below {B base : Nat} {w w' : World} (h : Below w.heap.size w w') (hb : base ≤ w.heap.size) : Kept B base w w' := ⟨h.os, h.tape, h.output, h.size, fun k hk _ => h.block k (by omega), fun k cs t fr hk _ _ => (h.block k (Array.getElem?_eq_some_iff.1 hk).1).trans hk⟩
theorem Kept.below {B base B0 : Nat} {w w' : World} (h : Kept B base w w') (h1 : B0 ≤ B) (h2 : B0 ≤ base) : Below B0 w w' := ⟨h.os, h.tape, h.output, h.size, fun k hk => h.block k (by omega) (by omega)⟩
theorem Kept.grown {B base : Nat} {w w' : World} (h : Kept B base w w') (h1 : w.heap.size ≤ base) : w.grownBy w' (some B) := ⟨h.os, h.tape, h.output, h.size, fun k hk hn => h.block k (by omega) (fun e => hn (by rw [e]))⟩
theorem own_typesG {w : World} {B B' s s' : Nat} {e e' : TypeId} {v u : Value} {n m : Nat} {xs ys : List Value} (h : w.ownsRow B e s v n xs) (k : w.ownsRow B' e' s' u m ys) (hne : e ≠ e') : ∀ g, v.ownBlock = some g → u.ownBlock ≠ some g := by
  intro g hg hu
  rcases h.2 with ⟨rfl, _⟩ | ⟨g1, c1, cur1, rfl, _, h1, _⟩
  · simp [Value.ownBlock] at hg
  · rcases k.2 with ⟨rfl, _⟩ | ⟨g2, c2, cur2, rfl, _, h2, _⟩
    · simp [Value.ownBlock] at hu
    · simp only [Value.ownBlock, Option.some.injEq] at hg hu
      subst hg
      rw [hu] at h2
      rw [h1] at h2
      simp only [Option.some.injEq, Obj.cells.injEq] at h2
      exact hne h2.2.1
theorem LayP.below {w w' : World} {B base : Nat} {L : LayD} {v1 v2 v3 v4 v5 : Value} (h : LayP w B base L v1 v2 v3 v4 v5) (hb : Below w.heap.size w w') : LayP w' B base L v1 v2 v3 v4 v5 := by
  obtain ⟨h0, h1, h2, o1, o2, o3, o4, o5⟩ := h
  exact ⟨h0.below hb, h1, Nat.le_trans h2 hb.size, own_below o1 hb, own_below o2 hb, own_below o3 hb, own_below o4 hb, own_below o5 hb⟩
theorem LayB.below {w w' : World} {B base : Nat} {L : LayD} (h : LayB w B base L) (hb : Below w.heap.size w w') : LayB w' B base L := by
  obtain ⟨v1, v2, v3, v4, v5, h⟩ := h
  exact ⟨v1, v2, v3, v4, v5, h.below hb⟩
theorem kept_set {w wA w1 : World} {B base i : Nat} {v x : Value} {e : TypeId} {s n : Nat} {xs : List Value} (hA : Below w.heap.size w wA) (hb : base ≤ w.heap.size) (ho : wA.ownsRow base e s v n xs) (hg : wA.grownBy w1 v.ownBlock) (he : rowTy e = true := by rfl) : Kept B base w (w1.setCell ⟨B, i, none⟩ x) := by
  refine ⟨hg.os.trans hA.os, hg.tape.trans hA.tape, hg.output.trans hA.output, by simp; exact Nat.le_trans hA.size hg.size, fun k hk hn => ?_, fun k cs t fr hk hn ht => ?_⟩
  · rw [Below.heap_setCell _ _ _ _ (by exact hn)]
    exact (hg.block k (by have := hA.size; omega) (fun e => by have := (ho.lt k e.symm).1; omega)).trans (hA.block k (by omega))
  · have hlt := (Array.getElem?_eq_some_iff.1 hk).1
    have hkA := (hA.block k hlt).trans hk
    rw [Below.heap_setCell _ _ _ _ (by exact hn)]
    refine (hg.block k (by have := hA.size; omega) (fun e2 => ?_)).trans hkA
    rcases ho.2 with ⟨rfl, _⟩ | ⟨g1, c1, cur1, rfl, _, h1, _⟩
    · simp [Value.ownBlock] at e2
    · simp only [Value.ownBlock, Option.some.injEq] at e2
      subst e2
      rw [hkA] at h1
      simp only [Option.some.injEq, Obj.cells.injEq] at h1
      rw [h1.2.1, he] at ht
      cases ht
theorem LayP.push1 {wA w1 : World} {B base : Nat} {L : LayD} {v1 v2 v3 v4 v5 v' : Value} {l : List L8} (h : LayP wA B base L v1 v2 v3 v4 v5) (ho' : w1.ownsRow base 9 1 v' l.length (strsV l)) (hg : wA.grownBy w1 v1.ownBlock) :
    LayP (w1.setCell ⟨B, 1, none⟩ v') B base { L with secs := l } v' v2 v3 v4 v5 := by
  obtain ⟨h0, hB, hs, o1, o2, o3, o4, o5⟩ := h
  refine ⟨?_, hB, by simp; exact Nat.le_trans hs hg.size, own_set ho' _ hB _ _, own_set (own_kept o2 hg (own_typesG o2 o1 (by decide))) _ hB _ _, own_set (own_kept o3 hg (own_typesG o3 o1 (by decide))) _ hB _ _, own_set (own_kept o4 hg (own_typesG o4 o1 (by decide))) _ hB _ _, own_set (own_kept o5 hg (own_typesG o5 o1 (by decide))) _ hB _ _⟩
  exact (h0.grown hg (own_lt o1 hB)).set 1 v'
theorem LayP.push2 {wA w1 : World} {B base : Nat} {L : LayD} {v1 v2 v3 v4 v5 v' : Value} {l : List ElD} (h : LayP wA B base L v1 v2 v3 v4 v5) (ho' : w1.ownsRow base 45 7 v' l.length ((l.map elV).flatten)) (hg : wA.grownBy w1 v2.ownBlock) :
    LayP (w1.setCell ⟨B, 2, none⟩ v') B base { L with els := l } v1 v' v3 v4 v5 := by
  obtain ⟨h0, hB, hs, o1, o2, o3, o4, o5⟩ := h
  refine ⟨?_, hB, by simp; exact Nat.le_trans hs hg.size, own_set (own_kept o1 hg (own_typesG o1 o2 (by decide))) _ hB _ _, own_set ho' _ hB _ _, own_set (own_kept o3 hg (own_typesG o3 o2 (by decide))) _ hB _ _, own_set (own_kept o4 hg (own_typesG o4 o2 (by decide))) _ hB _ _, own_set (own_kept o5 hg (own_typesG o5 o2 (by decide))) _ hB _ _⟩
  exact (h0.grown hg (own_lt o2 hB)).set 2 v'
theorem LayP.push3 {wA w1 : World} {B base : Nat} {L : LayD} {v1 v2 v3 v4 v5 v' : Value} {l : List (EndD × EndD)} (h : LayP wA B base L v1 v2 v3 v4 v5) (ho' : w1.ownsRow base 49 4 v' l.length ((l.map joV).flatten)) (hg : wA.grownBy w1 v3.ownBlock) :
    LayP (w1.setCell ⟨B, 3, none⟩ v') B base { L with joints := l } v1 v2 v' v4 v5 := by
  obtain ⟨h0, hB, hs, o1, o2, o3, o4, o5⟩ := h
  refine ⟨?_, hB, by simp; exact Nat.le_trans hs hg.size, own_set (own_kept o1 hg (own_typesG o1 o3 (by decide))) _ hB _ _, own_set (own_kept o2 hg (own_typesG o2 o3 (by decide))) _ hB _ _, own_set ho' _ hB _ _, own_set (own_kept o4 hg (own_typesG o4 o3 (by decide))) _ hB _ _, own_set (own_kept o5 hg (own_typesG o5 o3 (by decide))) _ hB _ _⟩
  exact (h0.grown hg (own_lt o3 hB)).set 3 v'
theorem LayP.push4 {wA w1 : World} {B base : Nat} {L : LayD} {v1 v2 v3 v4 v5 v' : Value} {l : List SigD} (h : LayP wA B base L v1 v2 v3 v4 v5) (ho' : w1.ownsRow base 51 4 v' l.length ((l.map sgV).flatten)) (hg : wA.grownBy w1 v4.ownBlock) :
    LayP (w1.setCell ⟨B, 4, none⟩ v') B base { L with sigs := l } v1 v2 v3 v' v5 := by
  obtain ⟨h0, hB, hs, o1, o2, o3, o4, o5⟩ := h
  refine ⟨?_, hB, by simp; exact Nat.le_trans hs hg.size, own_set (own_kept o1 hg (own_typesG o1 o4 (by decide))) _ hB _ _, own_set (own_kept o2 hg (own_typesG o2 o4 (by decide))) _ hB _ _, own_set (own_kept o3 hg (own_typesG o3 o4 (by decide))) _ hB _ _, own_set ho' _ hB _ _, own_set (own_kept o5 hg (own_typesG o5 o4 (by decide))) _ hB _ _⟩
  exact (h0.grown hg (own_lt o4 hB)).set 4 v'
theorem LayP.push5 {wA w1 : World} {B base : Nat} {L : LayD} {v1 v2 v3 v4 v5 v' : Value} {l : List BalD} (h : LayP wA B base L v1 v2 v3 v4 v5) (ho' : w1.ownsRow base 59 3 v' l.length ((l.map blV).flatten)) (hg : wA.grownBy w1 v5.ownBlock) :
    LayP (w1.setCell ⟨B, 5, none⟩ v') B base { L with bals := l } v1 v2 v3 v4 v' := by
  obtain ⟨h0, hB, hs, o1, o2, o3, o4, o5⟩ := h
  refine ⟨?_, hB, by simp; exact Nat.le_trans hs hg.size, own_set (own_kept o1 hg (own_typesG o1 o5 (by decide))) _ hB _ _, own_set (own_kept o2 hg (own_typesG o2 o5 (by decide))) _ hB _ _, own_set (own_kept o3 hg (own_typesG o3 o5 (by decide))) _ hB _ _, own_set (own_kept o4 hg (own_typesG o4 o5 (by decide))) _ hB _ _, own_set ho' _ hB _ _⟩
  exact (h0.grown hg (own_lt o5 hB)).set 5 v'
theorem info_el8 : (Tryz.prog.info? 45).map (fun i => (i.zero, i.size, i.bytes)) = some (some (.agg #[.string ByteArray.empty, .int .i64 0, .int .i64 0, .int .i64 0, .int .i64 0, .int .i64 0, .int .i64 0]), 7, 64) := by kernel_rfl
theorem info_bal8 : (Tryz.prog.info? 59).map (fun i => (i.zero, i.size, i.bytes)) = some (some (.agg #[.int .i64 0, .int .i64 0, .int .i64 0]), 3, 24) := by kernel_rfl
theorem info_sig8 : (Tryz.prog.info? 51).map (fun i => (i.zero, i.size, i.bytes)) = some (some (.agg #[.string ByteArray.empty, .int .i64 0, .int .i64 0, .int .i64 0]), 4, 40) := by kernel_rfl
theorem info_jo8 : (Tryz.prog.info? 49).map (fun i => (i.zero, i.size, i.bytes)) = some (some (.agg #[.int .i64 0, .int .i64 0, .int .i64 0, .int .i64 0]), 4, 32) := by kernel_rfl
/-- What a function that adds leaves. -/
def RetA (w : World) (B base : Nat) (L : LayD) (e : Ending) (w' : World) : Prop := e = .returned (.tuple #[]) ∧ LayB w' B base L ∧ Kept B base w w'
theorem add1_any (B base : Nat) (L : LayD) (x : L8) (v : Value) (w : World) (h : LayB w B base L) : Calls Tryz.prog 119 #[.pointer (some ⟨B, 0, none⟩), str x, v] w (RetA w B base { L with name := x }) := by
  obtain ⟨v1, v2, v3, v4, v5, h0, hB, hs, o1, o2, o3, o4, o5⟩ := h
  have c0 := h0.at 0 _ rfl
  have f0 := h0.free 0
  have R : RetA w B base { L with name := x } (.returned (.tuple #[])) (w.setCell ⟨B, 0, none⟩ (str x)) := by
    refine ⟨rfl, ⟨v1, v2, v3, v4, v5, h0.set 0 (str x), hB, by simp; exact hs, own_set o1 _ hB _ _, own_set o2 _ hB _ _, own_set o3 _ hB _ _, own_set o4 _ hB _ _, own_set o5 _ hB _ _⟩, rfl, rfl, rfl, by simp, fun k hk hn => Below.heap_setCell _ _ _ _ hn, fun k cs t fr hk hn _ => (Below.heap_setCell _ _ _ _ hn).trans hk⟩
  clear h0 o1 o2 o3 o4 o5
  go_enter Tryz.func119, Tryz.ntmps119
  go_wp2
  go_end0
  exact R
set_option maxRecDepth 100000 in
set_option maxHeartbeats 2000000 in
theorem add2_any (B base : Nat) (L : LayD) (x : L8) (v : Value) (w : World) (h : LayB w B base L) (hl : L.secs.length ≤ 100000) : Calls Tryz.prog 120 #[.pointer (some ⟨B, 0, none⟩), str x, v] w (RetA w B base { L with secs := L.secs ++ [x] }) := by
  obtain ⟨v1, v2, v3, v4, v5, hP⟩ := h
  have hP2 := hP
  obtain ⟨h0, hB, hs, o1, _⟩ := hP2
  have c1 := h0.at 1 _ rfl
  have b1 : Below w.heap.size w w := Below.refl _ _
  have o1A := o1
  have hsA := hs
  have hA := Lib.hid hP
  clear h0 o1 hP
  go_enter Tryz.func120, Tryz.ntmps120
  go_wp2_with (at_builtin
               refine wpList_push _ rfl _ _ 22 rfl base 9 (.string ByteArray.empty) 1 16 Tryz.underlying22 info_str rfl (by omega) v1 _ _ rfl o1A [str x] rfl rfl (one_str x) (by omega) (by omega) hsA ?_
               intro v6 w6 p6 gr6 nb6
               have p7 : w6.ownsRow base 9 1 v6 (L.secs ++ [x]).length (strsV (L.secs ++ [x])) := by rw [List.length_append, strsV_snoc]; exact p6
               have L6 := hA.out.push1 p7 gr6
               have K6 : Kept B base w (w6.setCell ⟨B, 1, none⟩ v6) := kept_set b1 hs o1A gr6
               have hk := hA.out.1.grown gr6 (own_lt o1A hB)
               have k1 := hk.at 1 _ rfl
               have f1 := hk.free 1
               obtain ⟨a6, c6, rfl⟩ := own_slice p7
               obtain ⟨n6, en6⟩ : ∃ n, (L.secs ++ [x]).length = n := ⟨_, rfl⟩
               rw [en6] at L6 K6 ⊢
               replace L6 := Lib.hid L6
               replace K6 := Lib.hid K6
               clear p6 p7 gr6 nb6 hk en6)
  go_end0
  exact ⟨rfl, ⟨_, _, _, _, _, L6.out⟩, K6.out⟩
theorem at_val {l : List Int} {k : Nat} (h : k < l.length) : ∃ y, l[k]? = some y := ⟨l[k], by simp [h]⟩
theorem lit_rm {α : Type} {f : α → List Value} {m : Nat} (w : World) (y : α) (e : TypeId) : RM (w.alloc (.cells (f y).toArray e)) (.slice (some ⟨w.heap.size, 0, none⟩) 1 1) m ([y].map f) := by
  refine ⟨_, 1, rfl, ⟨by simp, by simp⟩, fun j r hr => ⟨w.heap.size, 0, rfl, by simp, fun i x hx => ?_⟩⟩
  have hj : j = 0 := by
    have := (List.getElem?_eq_some_iff.1 hr).1
    simp at this; omega
  subst hj
  simp at hr
  subst hr
  rw [World.cell?_alloc_new]
  simpa using hx
theorem rows8 {α : Type} {f : α → List Value} {m : Nat} (hf : ∀ x, (f x).length = m) (l : List α) : ∀ r ∈ l.map f, r.length = m := by
  intro r hr
  obtain ⟨x, _, rfl⟩ := List.mem_map.1 hr
  exact hf x
theorem one_bl8 (y : BalD) : ∀ r ∈ [y].map blV, ∀ x ∈ r, x.oneCell' = true := by
  intro r hr x hx
  simp [blV] at hr
  subst hr
  simp at hx
  rcases hx with rfl | rfl | rfl <;> rfl
theorem one_sg8 (y : SigD) : ∀ r ∈ [y].map sgV, ∀ x ∈ r, x.oneCell' = true := by
  intro r hr x hx
  simp [sgV] at hr
  subst hr
  simp at hx
  rcases hx with rfl | rfl | rfl | rfl <;> rfl
theorem one_jo8 (y : EndD × EndD) : ∀ r ∈ [y].map joV, ∀ x ∈ r, x.oneCell' = true := by
  intro r hr x hx
  simp [joV] at hr
  subst hr
  simp at hx
  rcases hx with rfl | rfl | rfl | rfl <;> rfl
theorem one_el8 (y : ElD) : ∀ r ∈ [y].map elV, ∀ x ∈ r, x.oneCell' = true := by
  intro r hr x hx
  simp [elV] at hr
  subst hr
  simp at hx
  rcases hx with rfl | rfl | rfl | rfl | rfl | rfl | rfl <;> rfl
end Go.Proofs.YteafkginhejllaaGreatDoor
