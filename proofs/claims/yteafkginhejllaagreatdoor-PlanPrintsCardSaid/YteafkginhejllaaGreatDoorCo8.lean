/- Contract of compose. Conditions: the lines can be read; bounds on the lengths; what the program reads (GT). -/
import Derived.Test.YteafkginhejllaaGreatDoorAa8
namespace Go.Proofs.YteafkginhejllaaGreatDoor
open Go.ChangeShapes Go.WideShapes Go.ChangeAt Go.RowKit
open Go.ChangeMaps
open Go.MapKept Go.Maps
theorem results_cell_tmp3 {fn : Func} {p u x : Tmp} {ty : TypeId} (h : fn.results = #[.cell p ty, .tmp u, .tmp x]) (tmps : Array Value) (P : Program) (w : World) :
    (results fn tmps).run P w = ((asAddr (tmps.getD p undef)).run P w).andThen fun a w₁ => ((loadVar ty a).run P w₁).andThen fun v w₂ => .ok (.tuple #[v, tmps.getD u undef, tmps.getD x undef]) w₂ := by
  simp only [results, h]
  simp [Sem.run_bind, Result.andThen]
theorem ret_cell3 {P : Program} {fn : Func} {p u x : Tmp} {ty : TypeId} {R : Ending → World → Prop} {a : Act} {w : World} (hr : fn.results = #[.cell p ty, .tmp u, .tmp x]) {d : TypeDesc} (hu : P.underlying ty = some d)
    (hd : (match d with | .struct _ | .array _ _ => true | _ => false) = true) {n : Nat} {cs : Array Value} (hi : (P.info? ty).map (·.size) = some cs.size) (hp : a.tmps.getD p undef = .pointer (some ⟨n, 0, none⟩))
    (hB : Blk w n cs) (hf : a.defers = []) (hR : R (.returned (.tuple #[.agg cs, a.tmps.getD u undef, a.tmps.getD x undef])) w) : bodyPost P fn R .ret a w := by
  obtain ⟨t, h⟩ := hB
  refine bodyPost_ret (v := .tuple #[.agg cs, a.tmps.getD u undef, a.tmps.getD x undef]) ?_ hf hR
  rw [results_cell_tmp3 hr, hp]
  simp [asAddr, run_loadVar_row w n t ty cs (0, 0) d h hu hd hi]
abbrev zL : Array Value := #[.string ⟨#[]⟩, noS, noS, noS, noS, noS]
theorem rlay_zero (w : World) : RLay w (.agg zL) zeroL :=
  ⟨noS, noS, noS, noS, noS, rfl, RS.nil _ _ _, ⟨none, 0, rfl, by simp [zeroL], fun j r hr => by simp [zeroL] at hr⟩, ⟨none, 0, rfl, by simp [zeroL], fun j r hr => by simp [zeroL] at hr⟩, ⟨none, 0, rfl, by simp [zeroL], fun j r hr => by simp [zeroL] at hr⟩, ⟨none, 0, rfl, by simp [zeroL], fun j r hr => by simp [zeroL] at hr⟩⟩
theorem LayP.rlay {w : World} {B base : Nat} {L : LayD} {v1 v2 v3 v4 v5 : Value} (h : LayP w B base L v1 v2 v3 v4 v5) : RLay w (.agg #[str L.name, v1, v2, v3, v4, v5]) L := by
  obtain ⟨_, _, _, o1, o2, o3, o4, o5⟩ := h
  have l2 : L.els.length = (L.els.map elV).length := by simp
  have l3 : L.joints.length = (L.joints.map joV).length := by simp
  have l4 : L.sigs.length = (L.sigs.map sgV).length := by simp
  have l5 : L.bals.length = (L.bals.map blV).length := by simp
  rw [l2] at o2
  rw [l3] at o3
  rw [l4] at o4
  rw [l5] at o5
  exact ⟨v1, v2, v3, v4, v5, rfl, RS.own o1, RM.ownM o2 (rows8 (f := elV) (m := 7) (fun _ => rfl) _), RM.ownM o3 (rows8 (f := joV) (m := 4) (fun _ => rfl) _), RM.ownM o4 (rows8 (f := sgV) (m := 4) (fun _ => rfl) _), RM.ownM o5 (rows8 (f := blV) (m := 3) (fun _ => rfl) _)⟩
theorem LayP.setR {w : World} {B base : Nat} {L : LayD} {v1 v2 v3 v4 v5 : Value} (h : LayP w B base L v1 v2 v3 v4 v5) {R : Nat} (hR : R < base) (hn : R ≠ B) (i : Nat) (x : Value) : LayP (w.setCell ⟨R, i, none⟩ x) B base L v1 v2 v3 v4 v5 := by
  obtain ⟨h0, hB, hs, o1, o2, o3, o4, o5⟩ := h
  exact ⟨h0.other (fun e => hn e.symm) i x, hB, by simp; exact hs, own_set o1 R hR _ _, own_set o2 R hR _ _, own_set o3 R hR _ _, own_set o4 R hR _ _, own_set o5 R hR _ _⟩
/-- A layout's value whose rows lie from block base on. -/
def LayO (base : Nat) (w : World) (lv : Value) (L : LayD) : Prop := ∃ v1 v2 v3 v4 v5, lv = .agg #[str L.name, v1, v2, v3, v4, v5] ∧ w.ownsRow base 9 1 v1 L.secs.length (strsV L.secs) ∧ w.ownsRow base 45 7 v2 L.els.length (L.els.map elV).flatten ∧
    w.ownsRow base 49 4 v3 L.joints.length (L.joints.map joV).flatten ∧ w.ownsRow base 51 4 v4 L.sigs.length (L.sigs.map sgV).flatten ∧ w.ownsRow base 59 3 v5 L.bals.length (L.bals.map blV).flatten
theorem layO_zero (base : Nat) (w : World) : LayO base w (.agg zL) zeroL :=
  ⟨noS, noS, noS, noS, noS, rfl, World.ownsRow_nil _ _ _ _, World.ownsRow_nil _ _ _ _, World.ownsRow_nil _ _ _ _, World.ownsRow_nil _ _ _ _, World.ownsRow_nil _ _ _ _⟩
theorem LayO.rlay {base : Nat} {w : World} {lv : Value} {L : LayD} (h : LayO base w lv L) : RLay w lv L := by
  obtain ⟨v1, v2, v3, v4, v5, rfl, o1, o2, o3, o4, o5⟩ := h
  have l2 : L.els.length = (L.els.map elV).length := by simp
  have l3 : L.joints.length = (L.joints.map joV).length := by simp
  have l4 : L.sigs.length = (L.sigs.map sgV).length := by simp
  have l5 : L.bals.length = (L.bals.map blV).length := by simp
  rw [l2] at o2
  rw [l3] at o3
  rw [l4] at o4
  rw [l5] at o5
  exact ⟨v1, v2, v3, v4, v5, rfl, RS.own o1, RM.ownM o2 (rows8 (f := elV) (m := 7) (fun _ => rfl) _), RM.ownM o3 (rows8 (f := joV) (m := 4) (fun _ => rfl) _), RM.ownM o4 (rows8 (f := sgV) (m := 4) (fun _ => rfl) _), RM.ownM o5 (rows8 (f := blV) (m := 3) (fun _ => rfl) _)⟩
theorem LayO.below {base : Nat} {w w' : World} {lv : Value} {L : LayD} (h : LayO base w lv L) (hb : Below w.heap.size w w') : LayO base w' lv L := by
  obtain ⟨v1, v2, v3, v4, v5, rfl, o1, o2, o3, o4, o5⟩ := h
  exact ⟨v1, v2, v3, v4, v5, rfl, own_below o1 hb, own_below o2 hb, own_below o3 hb, own_below o4 hb, own_below o5 hb⟩
theorem LayO.low {base base' : Nat} {w : World} {lv : Value} {L : LayD} (h : LayO base w lv L) (hb : base' ≤ base) : LayO base' w lv L := by
  obtain ⟨v1, v2, v3, v4, v5, rfl, o1, o2, o3, o4, o5⟩ := h
  exact ⟨v1, v2, v3, v4, v5, rfl, own_mono o1 hb, own_mono o2 hb, own_mono o3 hb, own_mono o4 hb, own_mono o5 hb⟩
theorem LayO.setR {base : Nat} {w : World} {lv : Value} {L : LayD} (h : LayO base w lv L) {R : Nat} (hR : R < base) (i : Nat) (x : Value) : LayO base (w.setCell ⟨R, i, none⟩ x) lv L := by
  obtain ⟨v1, v2, v3, v4, v5, rfl, o1, o2, o3, o4, o5⟩ := h
  exact ⟨v1, v2, v3, v4, v5, rfl, own_set o1 R hR _ _, own_set o2 R hR _ _, own_set o3 R hR _ _, own_set o4 R hR _ _, own_set o5 R hR _ _⟩
theorem LayP.layO {w : World} {B base base' : Nat} {L : LayD} {v1 v2 v3 v4 v5 : Value} (h : LayP w B base L v1 v2 v3 v4 v5) (hb : base' ≤ base) : LayO base' w (.agg #[str L.name, v1, v2, v3, v4, v5]) L :=
  LayO.low ⟨v1, v2, v3, v4, v5, rfl, h.2.2.2⟩ hb
set_option maxRecDepth 100000 in
/-- s[1:] of a slice of texts. -/
theorem tail_S {w : World} {b off n cap : Nat} {x : L8} {xs : List L8} (h : RS w (.slice (some ⟨b, off, none⟩) n cap) (strsV (x :: xs))) :
    ∃ u, (∀ ww : World, (Instr.slice 22 (.slice (some ⟨b, off, none⟩) n cap) (some (.int .i64 1)) none none).run Tryz.prog ww = .ok u ww) ∧ RS w u (strsV xs) := by
  obtain ⟨a, c, e, hm, hc⟩ := h
  injection e with e1 e2 e3
  subst e1 e2 e3
  have hM : MCells w (some ⟨b, off, none⟩) 1 ((x :: xs).map fun y => [str y]) := by
    intro j r hr
    rw [List.getElem?_map, Option.map_eq_some_iff] at hr
    obtain ⟨y, hy, rfl⟩ := hr
    obtain ⟨b', off', e, hlt, hcell⟩ := hc j (str y) (by show ((x :: xs).map fun z => str z)[j]? = _; rw [List.getElem?_map, hy]; rfl)
    refine ⟨b', off', e, hlt, fun i z hz => ?_⟩
    have hi : i = 0 := by
      have := (List.getElem?_eq_some_iff.1 hz).1
      simp at this; omega
    subst hi
    simp at hz
    subst hz
    rw [Nat.mul_one, Nat.add_zero]; exact hcell
  have hl : (strsV (x :: xs)).length = (x :: xs).length := strsV_length _
  rw [hl] at hm ⊢
  obtain ⟨a', C, R⟩ := cut_from (P := Tryz.prog) (t := 22) rfl (k := 1) hM (fun _ => rfl) (by simp) hm
  refine ⟨_, C, ?_⟩
  obtain ⟨a2, c2, e2, hm2, hc2⟩ := R
  refine ⟨a2, c2, ?_, ?_, fun j y hj => ?_⟩
  · rw [e2]; simp [strsV]
  · rw [strsV_length]; simpa using hm2
  · obtain ⟨b3, off3, e3, hlt3, hc3⟩ := hc2 j [y] (by
      simp only [strsV, List.getElem?_map, Option.map_eq_some_iff] at hj
      obtain ⟨z, hz, rfl⟩ := hj
      simp [hz])
    refine ⟨b3, off3, e3, hlt3, ?_⟩
    have := hc3 0 y rfl
    rw [Nat.mul_one, Nat.add_zero] at this
    exact this
/-! ### one step -/
theorem rank_ge {k : L8} {q : Int × List Int × Nat × Option Int} (h : formK k = some q) : 0 ≤ q.1 := by
  unfold formK at h
  by_cases a1 : k = kLayout
  · subst a1; simp (decide := true) at h; subst h; decide
  by_cases a2 : k = kSection
  · subst a2; simp (decide := true) at h; subst h; decide
  by_cases a3 : k = kJoint
  · subst a3; simp (decide := true) at h; subst h; decide
  by_cases a4 : k = kSignal
  · subst a4; simp (decide := true) at h; subst h; decide
  by_cases a5 : k = kBalise
  · subst a5; simp (decide := true) at h; subst h; decide
  by_cases a6 : k = kTrack
  · subst a6; simp (decide := true) at h; subst h; decide
  by_cases a7 : k = kPoints
  · subst a7; simp (decide := true) at h; subst h; decide
  by_cases a8 : k = kCross
  · subst a8; simp (decide := true) at h; subst h; decide
  simp [a1, a2, a3, a4, a5, a6, a7, a8] at h
theorem step_none {st : StD} {k : L8} {xs : List L8} (h : formK k = none) (hl : 0 ≤ st.last) : stepS st (k :: xs) = .inl (st.i + 1, 4) := by
  unfold stepS
  rw [if_pos]
  right
  simp only [hd, List.headD_cons, rank_none h]
  omega
theorem in_iff {p l : Int} {i : Nat} : inPl p (i : Int) l = true ↔ ¬ ((decide (p = 0) != decide (i = 0)) = true ∨ p < l) := by
  unfold inPl
  have e1 : (p == 0) = decide (p = 0) := rfl
  have e2 : ((i : Int) == 0) = decide (i = 0) := by
    by_cases h : i = 0 <;> simp [h]
  rw [e1, e2]
  cases decide (p = 0) <;> cases decide (i = 0) <;> simp
theorem step_place {st : StD} {k : L8} {xs : List L8} {q : Int × List Int × Nat × Option Int} (h : formK k = some q) (hp : inPl q.1 (st.i : Int) st.last = false) : stepS st (k :: xs) = .inl (st.i + 1, 4) := by
  unfold stepS
  simp only [hd, List.headD_cons, rank_form h]
  rw [if_pos]
  exact Classical.byContradiction fun hh => by
    rw [in_iff.2 hh] at hp; cases hp
theorem step_bad {st : StD} {k : L8} {xs : List L8} {q : Int × List Int × Nat × Option Int} (h : formK k = some q) (hp : inPl q.1 (st.i : Int) st.last = true) (he : (lineS st.lay (k :: xs)).1 ≠ 0) : stepS st (k :: xs) = .inl (st.i + 1, (lineS st.lay (k :: xs)).1) := by
  unfold stepS
  simp only [hd, List.headD_cons, rank_form h]
  rw [if_neg (in_iff.1 hp), if_neg he]
theorem step_good {st : StD} {k : L8} {xs : List L8} {q : Int × List Int × Nat × Option Int} (h : formK k = some q) (hp : inPl q.1 (st.i : Int) st.last = true) (he : (lineS st.lay (k :: xs)).1 = 0) : stepS st (k :: xs) = .inr ⟨st.i + 1, q.1, (lineS st.lay (k :: xs)).2⟩ := by
  unfold stepS
  simp only [hd, List.headD_cons, rank_form h]
  rw [if_neg (in_iff.1 hp), if_pos he]
/-- Each list has at most k elements. -/
def LenB (L : LayD) (k : Nat) : Prop := L.secs.length ≤ k ∧ L.els.length ≤ k ∧ L.joints.length ≤ k ∧ L.sigs.length ≤ k ∧ L.bals.length ≤ k
theorem line_len {L : LayD} {k : Nat} (h : LenB L k) (ws : List L8) : LenB (lineS L ws).2 (k + 1) := by
  obtain ⟨h1, h2, h3, h4, h5⟩ := h
  have hL : LenB L (k + 1) := ⟨by omega, by omega, by omega, by omega, by omega⟩
  unfold lineS
  repeat' split
  all_goals first
    | exact hL
    | (refine ⟨?_, ?_, ?_, ?_, ?_⟩ <;> simp [elS] <;> omega)
def outQ : (Nat × Int) ⊕ StD → LayD × Int × Int
  | .inl e => (zeroL, (e.1 : Int), e.2)
  | .inr st => (st.lay, 0, 0)
def outC (m : List (List L8)) : LayD × Int × Int := outQ (runS start m)
def RetC (w : World) (q : LayD × Int × Int) (e : Ending) (w' : World) : Prop := ∃ lv, e = .returned (.tuple #[lv, .int .i64 q.2.1, .int .i64 q.2.2]) ∧ LayO w.heap.size w' lv q.1 ∧ Below w.heap.size w w'
end Go.Proofs.YteafkginhejllaaGreatDoor
