/- A layout without one of its balises, signals or joints: its value, its bounds, that it is valid. Conditions: as stated. -/
import Derived.Test.YthoodaldmfojaaaDoorLawsA7
import Derived.Test.YthoodaldmfojaaaDoorAppM7
namespace Go.Proofs.YthoodaldmfojaaaDoor
open Go.ChangeShapes Go.WideShapes Go.ChangeAt Go.RowKit
theorem RLay.setB {w : World} {x v1 v2 v3 v4 v5 u : Value} {L : LayD} (h : RLay w (.agg #[x, v1, v2, v3, v4, v5]) L) (bs : List BalD) (hu : RM w u 3 (bs.map blV)) : RLay w (.agg #[x, v1, v2, v3, v4, u]) { L with bals := bs } := by
  obtain ⟨u1, u2, u3, u4, u5, he, h1, h2, h3, h4, h5⟩ := h
  simp only [Value.agg.injEq, Array.mk.injEq, List.cons.injEq, and_true] at he
  obtain ⟨rfl, rfl, rfl, rfl, rfl, rfl⟩ := he
  exact ⟨_, _, _, _, _, rfl, h1, h2, h3, h4, hu⟩
theorem RLay.setG {w : World} {x v1 v2 v3 v4 v5 u : Value} {L : LayD} (h : RLay w (.agg #[x, v1, v2, v3, v4, v5]) L) (ss : List SigD) (hu : RM w u 4 (ss.map sgV)) : RLay w (.agg #[x, v1, v2, v3, u, v5]) { L with sigs := ss } := by
  obtain ⟨u1, u2, u3, u4, u5, he, h1, h2, h3, h4, h5⟩ := h
  simp only [Value.agg.injEq, Array.mk.injEq, List.cons.injEq, and_true] at he
  obtain ⟨rfl, rfl, rfl, rfl, rfl, rfl⟩ := he
  exact ⟨_, _, _, _, _, rfl, h1, h2, h3, hu, h5⟩
theorem RLay.setJ {w : World} {x v1 v2 v3 v4 v5 u : Value} {L : LayD} (h : RLay w (.agg #[x, v1, v2, v3, v4, v5]) L) (js : List (EndD × EndD)) (hu : RM w u 4 (js.map joV)) : RLay w (.agg #[x, v1, v2, u, v4, v5]) { L with joints := js } := by
  obtain ⟨u1, u2, u3, u4, u5, he, h1, h2, h3, h4, h5⟩ := h
  simp only [Value.agg.injEq, Array.mk.injEq, List.cons.injEq, and_true] at he
  obtain ⟨rfl, rfl, rfl, rfl, rfl, rfl⟩ := he
  exact ⟨_, _, _, _, _, rfl, h1, h2, hu, h4, h5⟩
theorem few_bals {L : LayD} (F : FewL L) (i : Nat) : FewL { L with bals := L.bals.eraseIdx i } :=
  ⟨F.n1, F.n2, F.n3, F.n4, Nat.le_trans (List.eraseIdx_sublist _ _).length_le F.n5, F.hs⟩
theorem few_joints {L : LayD} (F : FewL L) (i : Nat) : FewL { L with joints := L.joints.eraseIdx i } :=
  ⟨F.n1, F.n2, Nat.le_trans (List.eraseIdx_sublist _ _).length_le F.n3, F.n4, F.n5, F.hs⟩
theorem few_sigs {L : LayD} (F : FewL L) (i : Nat) : FewL { L with sigs := L.sigs.eraseIdx i } :=
  ⟨F.n1, F.n2, F.n3, Nat.le_trans (List.eraseIdx_sublist _ _).length_le F.n4, F.n5, fun s hs => F.hs s (by
    simp only [allNames, List.mem_append, List.mem_map] at hs ⊢
    rcases hs with hs | ⟨x, hx, rfl⟩
    · exact Or.inl hs
    · exact Or.inr ⟨x, (List.eraseIdx_sublist _ _).subset hx, rfl⟩)⟩
theorem check_bals {L : LayD} (V : Valid isName L) (i : Nat) : checkS isName { L with bals := L.bals.eraseIdx i } = 0 := (valid_iff _ _).2 (valid_bal V _ (List.eraseIdx_sublist _ _))
theorem check_sigs {L : LayD} (V : Valid isName L) (i : Nat) : checkS isName { L with sigs := L.sigs.eraseIdx i } = 0 := (valid_iff _ _).2 (valid_sigs V _ (List.eraseIdx_sublist _ _))
theorem check_joints {L : LayD} (V : Valid isName L) (i : Nat) (j : EndD × EndD) (hj : L.joints[i]? = some j) (h1 : sigF j.1 0 L.sigs < 0) (h2 : sigF j.2 0 L.sigs < 0) : checkS isName { L with joints := L.joints.eraseIdx i } = 0 := (valid_iff _ _).2 (valid_joints V i j hj h1 h2)
theorem erase_parts {α : Type} (l : List α) (f : α → List Value) (i : Nat) : (l.take i).map f ++ (l.drop (i + 1)).map f = (l.eraseIdx i).map f := by
  rw [← List.map_append, List.eraseIdx_eq_take_drop_succ]
theorem rows_m {α : Type} {f : α → List Value} {m : Nat} (hf : ∀ x, (f x).length = m) (l : List α) : ∀ r ∈ l.map f, r.length = m := by
  intro r hr
  obtain ⟨x, _, rfl⟩ := List.mem_map.1 hr
  exact hf x
theorem rows_bl (l : List BalD) : ∀ r ∈ l.map blV, r.length = 3 := rows_m (f := blV) (fun _ => rfl) l
theorem rows_sg (l : List SigD) : ∀ r ∈ l.map sgV, r.length = 4 := rows_m (f := sgV) (fun _ => rfl) l
theorem rows_jo (l : List (EndD × EndD)) : ∀ r ∈ l.map joV, r.length = 4 := rows_m (f := joV) (fun _ => rfl) l
theorem info_bal : (Tryd.prog.info? 80).map (fun i => (i.zero, i.size, i.bytes)) = some (some (.agg #[.int .i64 0, .int .i64 0, .int .i64 0]), 3, 24) := by kernel_rfl
theorem info_sig : (Tryd.prog.info? 56).map (fun i => (i.zero, i.size, i.bytes)) = some (some (.agg #[.string ByteArray.empty, .int .i64 0, .int .i64 0, .int .i64 0]), 4, 40) := by kernel_rfl
theorem info_jo : (Tryd.prog.info? 47).map (fun i => (i.zero, i.size, i.bytes)) = some (some (.agg #[.int .i64 0, .int .i64 0, .int .i64 0, .int .i64 0]), 4, 32) := by kernel_rfl
theorem one_bl (l : List BalD) : ∀ r ∈ l.map blV, ∀ x ∈ r, x.oneCell' = true := by
  intro r hr x hx
  obtain ⟨y, _, rfl⟩ := List.mem_map.1 hr
  simp [blV] at hx
  rcases hx with rfl | rfl | rfl <;> rfl
theorem one_sg (l : List SigD) : ∀ r ∈ l.map sgV, ∀ x ∈ r, x.oneCell' = true := by
  intro r hr x hx
  obtain ⟨y, _, rfl⟩ := List.mem_map.1 hr
  simp [sgV] at hx
  rcases hx with rfl | rfl | rfl | rfl <;> rfl
theorem one_jo (l : List (EndD × EndD)) : ∀ r ∈ l.map joV, ∀ x ∈ r, x.oneCell' = true := by
  intro r hr x hx
  obtain ⟨y, _, rfl⟩ := List.mem_map.1 hr
  simp [joV] at hx
  rcases hx with rfl | rfl | rfl | rfl <;> rfl
theorem lit_owns (w : World) (B : Nat) (e : TypeId) (m : Nat) (hB : B = w.heap.size) : (w.alloc (.cells #[] e)).ownsRow B e m (.slice (some ⟨B, 0, none⟩) 0 0) 0 [] := by
  subst hB
  exact World.ownsRow_lit (base := w.heap.size) w #[] 0 (by simp) (by unfold maxLen; omega) (by simp)
end Go.Proofs.YthoodaldmfojaaaDoor
