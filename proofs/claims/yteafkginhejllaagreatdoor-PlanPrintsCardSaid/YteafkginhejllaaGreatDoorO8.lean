/- Texts of the layers 5 to 7, merged. -/
import Derived.RangeFuncNested
import Derived.RangeFuncBound
import Derived.RangeFuncCalls
import Derived.RangeFuncLeaves
import Derived.Shelf.Abstract
import Derived.Shelf.RegionOpen
import Derived.OwnWalkIn
import Derived.TacticsInMore
import Derived.LoopNIn
import Derived.LoopIn
import Derived.Maps.OwnIn
import Derived.Test.YteafkginhejllaaGreatDoorM8
namespace Go.Proofs.YteafkginhejllaaGreatDoor
section

def mapJ (l : List (EndD × EndD)) : List (EndD × EndD) := l.foldl (fun m j => putM j.2 j.1 (putM j.1 j.2 m)) []
theorem mapJ_snoc (l : List (EndD × EndD)) (j : EndD × EndD) : mapJ (l ++ [j]) = putM j.2 j.1 (putM j.1 j.2 (mapJ l)) := by simp [mapJ]
theorem put_keys {κ ν : Type} [DecidableEq κ] (x : κ) (v : ν) : ∀ (m : List (κ × ν)) (y : κ), y ∈ (putM x v m).map Prod.fst ↔ y = x ∨ y ∈ m.map Prod.fst
  | [], y => by simp [putM]
  | (a, b) :: r, y => by
    unfold putM
    split
    · rename_i h
      subst h
      simp
    · simp only [List.map_cons, List.mem_cons, put_keys x v r y]
      grind
theorem put_len {κ ν : Type} [DecidableEq κ] (x : κ) (v : ν) : ∀ (m : List (κ × ν)), (putM x v m).length = if x ∈ m.map Prod.fst then m.length else m.length + 1
  | [] => by simp [putM]
  | (a, b) :: r => by
    unfold putM
    by_cases h : a = x
    · simp [h]
    · rw [if_neg h, List.length_cons, put_len x v r]
      by_cases h2 : x ∈ r.map Prod.fst
      · rw [if_pos h2, if_pos (by rw [List.map_cons]; exact List.mem_cons_of_mem _ h2)]; rfl
      · rw [if_neg h2, if_neg (by rw [List.map_cons, List.mem_cons, not_or]; exact ⟨fun e => h e.symm, h2⟩)]; rfl
theorem snoc_ind {α : Type} {p : List α → Prop} (h0 : p []) (h1 : ∀ l x, p l → p (l ++ [x])) (l : List α) : p l := by
  have : ∀ l : List α, p l.reverse := by
    intro l
    induction l with
    | nil => exact h0
    | cons x xs ih => rw [List.reverse_cons]; exact h1 _ _ ih
  have := this l.reverse
  rwa [List.reverse_reverse] at this
theorem endsJ_snoc (l : List (EndD × EndD)) (j : EndD × EndD) : endsJ (l ++ [j]) = endsJ l ++ [j.1, j.2] := by simp [endsJ]
theorem mapJ_keys (l : List (EndD × EndD)) : ((mapJ l).map Prod.fst).Nodup ∧ ∀ e, e ∈ (mapJ l).map Prod.fst ↔ e ∈ endsJ l := by
  induction l using snoc_ind with
  | h0 => simp [mapJ, endsJ]
  | h1 l j ih =>
    rw [mapJ_snoc, endsJ_snoc]
    refine ⟨(keys_put _ _ _ (keys_put _ _ _ ih.1).1).1, fun e => ?_⟩
    rw [put_keys, put_keys, ih.2, List.mem_append]
    simp only [List.mem_cons, List.mem_nil_iff, or_false]
    grind
theorem mapJ_len (l : List (EndD × EndD)) : (mapJ l).length ≤ 2 * l.length ∧ ((mapJ l).length = 2 * l.length ↔ (endsJ l).Nodup) := by
  induction l using snoc_ind with
  | h0 => simp [mapJ, endsJ]
  | h1 l j ih =>
    have hk := (mapJ_keys l).2
    rw [mapJ_snoc, endsJ_snoc, put_len, put_len, List.length_append, List.nodup_append]
    have e2 : j.2 ∈ (putM j.1 j.2 (mapJ l)).map Prod.fst ↔ j.2 = j.1 ∨ j.2 ∈ endsJ l := by rw [put_keys, hk]
    have e1 : j.1 ∈ (mapJ l).map Prod.fst ↔ j.1 ∈ endsJ l := hk _
    simp only [e1, e2, List.length_cons, List.length_nil, List.nodup_cons, List.mem_cons, List.mem_nil_iff, or_false, not_false_eq_true, List.nodup_nil, and_true]
    obtain ⟨i1, i2⟩ := ih
    by_cases h1 : j.1 ∈ endsJ l
    · rw [if_pos h1]
      constructor
      · split <;> omega
      · constructor
        · intro h; split at h <;> omega
        · intro h; exact absurd rfl (h.2.2 _ h1 _ (Or.inl rfl))
    · rw [if_neg h1]
      by_cases h2 : j.2 = j.1 ∨ j.2 ∈ endsJ l
      · rw [if_pos h2]
        constructor
        · omega
        · constructor
          · intro h; omega
          · intro h
            rcases h2 with h2 | h2
            · exact absurd h2.symm h.2.1
            · exact absurd rfl (h.2.2 _ h2 _ (Or.inr rfl))
      · rw [if_neg h2]
        rw [not_or] at h2
        constructor
        · omega
        · constructor
          · intro h
            refine ⟨i2.1 (by omega), fun e => h2.1 e.symm, fun a ha b hb => ?_⟩
            rcases hb with rfl | rfl
            · exact fun e => h1 (e ▸ ha)
            · exact fun e => h2.2 (e ▸ ha)
          · intro h
            have := i2.2 h.1
            omega
theorem ends_rev (js : List (EndD × EndD)) : (endsJ js.reverse).Nodup ↔ (endsJ js).Nodup :=
  List.Perm.nodup_iff (List.Perm.flatMap_right _ (List.reverse_perm js))
theorem mapJ_rev_len (js : List (EndD × EndD)) : decide ((mapJ js.reverse).length = 2 * js.length) = decide (endsJ js).Nodup := by
  rw [Bool.eq_iff_iff, decide_eq_true_eq, decide_eq_true_eq, ← ends_rev, ← (mapJ_len js.reverse).2, List.length_reverse]
theorem mapJ_look (e : EndD) : ∀ js : List (EndD × EndD), lookM e (mapJ js.reverse) = joinF e js
  | [] => rfl
  | (a, b) :: r => by
    rw [List.reverse_cons, mapJ_snoc, lookM_put, lookM_put, mapJ_look e r, joinF]
    by_cases ha : a = e
    · by_cases hb : b = e
      · simp [ha, hb]
      · simp [ha, hb]
    · by_cases hb : b = e
      · simp [ha, hb]
      · simp [ha, hb]
end
section
open Go.ChangeShapes Go.WideShapes Go.ChangeAt Go.RowKit Go.Shelf
attribute [local go_sem] Oper.semAt_some
/-- What a round that goes on keeps: what lay below n, and the block B. -/
def KB (n B : Nat) (W W' : World) : Prop := Below n W W' ∧ W'.heap[B]? = W.heap[B]?
theorem KB.t {n B : Nat} {X Y Z : World} (h : KB n B X Y) (k : KB n B Y Z) : KB n B X Z := ⟨h.1.trans k.1, k.2.trans h.2⟩
abbrev PJ := Int × (EndD × EndD)
abbrev pjV (x : PJ) : Array Value := #[.int .i64 x.1, .agg #[.int .i64 x.2.1.1, .int .i64 x.2.1.2, .int .i64 x.2.2.1, .int .i64 x.2.2.2]]
set_option maxRecDepth 100000 in
set_option maxHeartbeats 4000000 in
theorem back1_in (l0 Bs n₀ : Nat) (a : Option Addr) (cap : Nat) (js : List (EndD × EndD)) (w0 : World) (hn0 : n₀ = w0.heap.size) (hm : js.length ≤ 9223372036854775807) (HC : MCells w0 a 4 (js.map joV)) (J Jx : List PJ → World → Prop)
    (hY : ∀ pre x W, J pre W → pre.length < js.length → YieldAt Fence.wide 1 Tryz.prog l0 (pjV x) W fun e W' => (e = .returned (.bool true) ∧ J (pre ++ [x]) W' ∧ KB n₀ Bs W W') ∨ (e = .returned (.bool false) ∧ Jx (pre ++ [x]) W'))
    (W : World) (hW : Below n₀ w0 W) (hBs : W.heap[Bs]? = some (.cells #[.slice a js.length cap] 24 (0, 0))) (h0 : J [] W) :
    CallsIn Fence.wide 2 Tryz.prog 136 #[.func (.yield l0) #[] #[], .pointer (some ⟨Bs, 0, none⟩)] W fun e W' => (∃ v, e = .returned v) ∧
      ((∃ ys, ys.map Prod.snd = js.reverse ∧ J ys W') ∨ (∃ pre, True ∧ Jx pre W')) := by
  refine callsIn_of_wp Tryz.func136 rfl trivial ?_ rfl
  simp only [Tryz.ntmps136, List.size_toArray, List.length_cons, List.length_nil, Nat.reduceAdd, Nat.reduceSub, Array.replicate_succ, Array.replicate_zero, List.push_toArray, List.append_toArray, List.nil_append, List.cons_append]
  have cB : W.cell? ⟨Bs, 0, none⟩ = some (.slice a js.length cap) := by simp [World.cell?, hBs]
  gi_wp2
  gi_loopw [3] (fun i wr => ∃ (k : Nat) (pre : List PJ), k ≤ js.length ∧ i = .int .i64 ((k : Int) - 1) ∧ pre.map Prod.snd = (js.drop k).reverse ∧ pre.length = js.length - k ∧ J pre wr ∧ Below n₀ W wr ∧ wr.heap[Bs]? = some (.cells #[.slice a js.length cap] 24 (0, 0)))
    (fun i _ => (intOf i + 1).toNat)
  case atStart => exact ⟨js.length, [], Nat.le_refl _, rfl, by simp, by simp, h0, Below.refl _ _, hBs⟩
  case round =>
    obtain ⟨k, pre, hk, rfl, hpre, hlen, hJs, hbw, hbs⟩ := hrel
    clear cB hBs
    have cB : wr.cell? ⟨Bs, 0, none⟩ = some (.slice a js.length cap) := by simp [World.cell?, hbs]
    cases k with
    | zero =>
      rw [show (((0 : Nat) : Int) - 1) = -1 from rfl]
      gi_wp2
      go_end0
      exact ⟨⟨_, rfl⟩, .inl ⟨pre, by rw [hpre]; rfl, hJs⟩⟩
    | succ k =>
      rw [show (((k + 1 : Nat) : Int) - 1) = (k : Int) from by omega]
      obtain ⟨y, hy, _⟩ := at_take (l := js) (k := k) (by omega)
      have hbk : Below w0.heap.size w0 wr := by rw [← hn0]; exact hW.trans hbw
      obtain ⟨b, off, rfl, hlt, hc⟩ := HC.rd hbk hy
      have c0 := hc 0 _ rfl
      have c1 := hc 1 _ rfl
      have c2 := hc 2 _ rfl
      have c3 := hc 3 _ rfl
      simp only [Nat.add_zero] at c0
      have hD : pre.map Prod.snd ++ [y] = (js.drop k).reverse := by rw [hpre, drop_get hy, List.reverse_cons]
      have hlt2 : (k : Int) < (js.length : Int) := by omega
      obtain ⟨fn, tmps, assign, body, hy, hR⟩ := hY pre ((k : Int), y) wr hJs (by omega)
      gi_wp2
      refine hR.mono ?_
      rintro e W3 (⟨rfl, hJ3, hk3⟩ | ⟨rfl, hJx3⟩)
      · gi_wp2
        go_roundw
        case rel => exact ⟨k, pre ++ [((k : Int), y)], by omega, rfl, by rw [List.map_append]; exact hD, by rw [List.length_append, hlen]; simp; omega, hJ3, hbw.trans hk3.1, hk3.2.trans hbs⟩
        case measure => simp [intOf]
      · gi_wp2
        refine bodyPost_ret (results_none rfl _ _ _) rfl ?_
        exact ⟨⟨_, rfl⟩, .inr ⟨_, trivial, hJx3⟩⟩
set_option maxHeartbeats 1000000 in
theorem backward_in (a : Option Addr) (n cap : Nat) (w : World) : CallsIn Fence.wide 2 Tryz.prog 116 #[.slice a n cap] w fun e w' => e = .returned (.func (.func 136) #[] #[.pointer (some ⟨w.heap.size, 0, none⟩)]) ∧ w' = w.alloc (.cells #[.slice a n cap] 24) := by
  refine callsIn_of_wp Tryz.func116 rfl trivial ?_ rfl
  simp only [Tryz.ntmps116, List.size_toArray, List.length_cons, List.length_nil, Nat.reduceAdd, Nat.reduceSub, Array.replicate_succ, Array.replicate_zero, List.push_toArray, List.append_toArray, List.nil_append, List.cons_append]
  gi_wp2
  go_ret
  exact ⟨rfl, rfl⟩
theorem back_stops (Bs : Nat) (a : Option Addr) (cap : Nat) (js : List (EndD × EndD)) (w0 w : World) (hm : js.length ≤ 9223372036854775807) (HC : MCells w0 a 4 (js.map joV)) (hb : Below w0.heap.size w0 w) (hBs : w.heap[Bs]? = some (.cells #[.slice a js.length cap] 24 (0, 0))) :
    SeqStopsK Fence.wide 2 Tryz.prog 136 #[.pointer (some ⟨Bs, 0, none⟩)] pjV (KB w0.heap.size Bs) (fun ys => ys.map Prod.snd = js.reverse) (fun _ => True) js.length w := fun l J Jx W hW _ _ hY h0 => by
  have hlt : Bs < w.heap.size := (Array.getElem?_eq_some_iff.1 hBs).1
  exact back1_in l Bs _ a cap js w0 rfl hm HC J Jx hY W (hb.trans (hW.mono hb.size)) ((hW.block _ hlt).trans hBs) h0
/-- 'm[k] = v' at the operation, inside a fence. -/
theorem wpListIn_store {κ ν : Type} [DecidableEq κ] {kv : κ → Value} {vv : ν → Value} {F : Fence} {nF : Nat} {P : Program} (w : World) {ops : Array Oper} {rest : List Oper} {o : Oper} {a : Act} {Q : Exit → Act → World → Prop}
    (hg : o.guard = none) (m x v : Operand) (t : TypeId) (hop : o.op = Op.mapUpdate t m x v)
    (k e : TypeId) (K : Key P k kv) (ht : P.underlying t = some (.map k e)) (b : Nat) (M : List (κ × ν)) (hm : a.eval m = .map (some b)) (hown : OwnM kv vv w b M) (hu : (M.map Prod.fst).Nodup) (x0 : κ) (v0 : ν)
    (hx : a.eval x = kv x0) (hv : a.eval v = vv v0)
    (hK : ∀ w', OwnM kv vv w' b (putM x0 v0 M) → w.grownBy w' (some b) → wpListIn F nF P ops Q rest (a.put o.dst undef) w') :
    wpListIn F nF P ops Q (o :: rest) a w := by
  refine wpListIn_plain hg fun K' hK' => ?_
  obtain ⟨w', hrun, r1, r2⟩ := hown.store K hu ht x0 v0
  unfold Oper.wpIn
  refine ⟨by simp [Oper.about, hop], ?_⟩
  rw [Oper.semAt_plain F _ _ (by rw [hop]; intro c hc'; cases hc')]
  simp [execOp, hop, hm, hx, hv, hrun, Result.andThen]
  exact hK' _ _ (hK w' r1 r2)
theorem make_map (n : Int) : ∀ w : World, (Instr.makeMap 100 (some (.int .i64 n))).run Tryz.prog w = .ok (.map (some w.heap.size)) (w.alloc (.map #[] 0)) := by
  intro w
  simp [Instr.makeMap, run_underlying Tryz.underlying100, Result.andThen, asInt]
  rfl
set_option maxRecDepth 100000 in
set_option maxHeartbeats 4000000 in
theorem ends_in (v : Value) (L : LayD) (w : World) (hv : RLay w v L) (n3 : L.joints.length ≤ 100000) : CallsIn Fence.wide 3 Tryz.prog 75 #[v] w fun e W' => e = .returned (.map (some (w.heap.size + 1))) ∧ OwnM endV endV W' (w.heap.size + 1) (mapJ L.joints.reverse) ∧ Below w.heap.size w W' := by
  obtain ⟨v1, v2, v3, v4, v5, rfl, r1, r2, r3, r4, r5⟩ := hv
  clear r1 r2 r4 r5
  obtain ⟨a3, c3, rfl, ⟨m3, _⟩, HC⟩ := r3.openM
  clear r3
  obtain ⟨nm, es⟩ : ∃ s, str L.name = s := ⟨_, rfl⟩
  rw [es]
  clear es
  obtain ⟨js, ej⟩ : ∃ js, L.joints = js := ⟨_, rfl⟩
  rw [ej] at n3 m3 HC ⊢
  clear ej
  have hmm := make_map
  refine callsIn_of_wp_marks Tryz.func75 rfl trivial ?_ rfl
  simp only [Tryz.ntmps75, List.size_toArray, List.length_cons, List.length_nil, Nat.reduceAdd, Nat.reduceSub, Array.replicate_succ, Array.replicate_zero, List.push_toArray, List.append_toArray, List.nil_append, List.cons_append]
  gi_wp2_with (refine ⟨trivial, ?_⟩; gi_at_call 116; refine (backward_in _ _ _ _).mono ?_; rintro e w' ⟨rfl, rfl⟩)
  obtain ⟨W0, hW0⟩ : ∃ W0, W0 = (((w.alloc (.cells #[nm, v1, v2, .slice a3 js.length c3, v4, v5] 28)).alloc (.map #[] 0)).alloc (.cells #[.map (some (w.heap.size + 1))] 100)).alloc (.cells #[.slice a3 js.length c3] 24) := ⟨_, rfl⟩
  have hsz : W0.heap.size = w.heap.size + 4 := by rw [hW0]; simp
  have hB0 : Below w.heap.size w W0 := by rw [hW0]; exact ((((Below.refl _ w).alloc (Nat.le_refl _) _).alloc (by simp) _).alloc (by simp; omega) _).alloc (by simp; omega) _
  have b1 : OwnM endV endV W0 (w.heap.size + 1) ([] : List (EndD × EndD)) := by
    rw [hW0]
    have h := OwnM.made (kv := endV) (vv := endV) (w.alloc (.cells #[nm, v1, v2, .slice a3 js.length c3, v4, v5] 28))
    rw [World.size_alloc] at h
    exact (h.below ((Below.refl _ _).alloc (Nat.le_refl _) _)).below ((Below.refl _ _).alloc (Nat.le_refl _) _)
  have b2 : W0.heap[w.heap.size + 2]? = some (.cells #[.map (some (w.heap.size + 1))] 100 (0, 0)) := by
    rw [hW0]
    have h := World.alloc_heap_new ((w.alloc (.cells #[nm, v1, v2, .slice a3 js.length c3, v4, v5] 28)).alloc (.map #[] 0)) (.cells #[.map (some (w.heap.size + 1))] 100)
    simp only [World.size_alloc] at h
    exact (Below.heap_alloc _ _ _ (by simp)).trans h
  have b3 : W0.heap[w.heap.size + 3]? = some (.cells #[.slice a3 js.length c3] 24 (0, 0)) := by
    rw [hW0]
    have h := World.alloc_heap_new (((w.alloc (.cells #[nm, v1, v2, .slice a3 js.length c3, v4, v5] 28)).alloc (.map #[] 0)).alloc (.cells #[.map (some (w.heap.size + 1))] 100)) (.cells #[.slice a3 js.length c3] 24)
    simp only [World.size_alloc] at h
    exact h
  rw [← hW0]
  clear hW0 hmm
  rw [show w.heap.size + 2 = w.heap.size + 1 + 1 from rfl] at b2
  rw [show w.heap.size + 3 = w.heap.size + 1 + 1 + 1 from rfl] at b3
  have keep : ∀ (A B : World) (row : Option Nat), A.grownBy B row → (∀ r, row = some r → W0.heap.size ≤ r ∧ ∃ o : Obj, A.heap[r]? = some o ∧ o.isCells = false) → ∀ k, k < A.heap.size → k < W0.heap.size → B.heap[k]? = A.heap[k]? :=
    fun A B row hg hr k hk hk0 => hg.block k hk (fun e => by have := (hr k e.symm).1; omega)
  refine wpIn_rangeFunc_ownH rfl (by decide) (gf := 136) (lb := #[.pointer (some ⟨w.heap.size + 1 + 1 + 1, 0, none⟩)]) rfl trivial (enters_of Tryz.func136 (by kernel_rfl) rfl)
    (back_stops (w.heap.size + 1 + 1 + 1) a3 c3 js w W0 m3 HC.out hB0 b3) (fun h k => h.t k) ?kb (Below.refl _ _) (fun _ => rfl)
    (fun pre W => (W.heap[w.heap.size + 1 + 1]? = some (.cells #[.map (some (w.heap.size + 1))] 100 (0, 0)) ∧ OwnM endV endV W (w.heap.size + 1) (mapJ (pre.map Prod.snd)) ∧ W0.heap.size ≤ W.heap.size) ∧ Below w.heap.size w W)
    (fun _ _ _ => False) ?own (fun _ _ _ _ _ hs _ _ => hs) ⟨⟨b2, b1, Nat.le_refl _⟩, hB0⟩
    (fun x a' W => ∃ Bx, W0.heap.size ≤ Bx ∧ W.heap[Bx]? = some (.cells #[.int .i64 x.2.1.1, .int .i64 x.2.1.2, .int .i64 x.2.2.1, .int .i64 x.2.2.2] 49 (0, 0)) ∧
      a' = { tmps := #[.agg #[nm, v1, v2, .slice a3 js.length c3, v4, v5], .pointer (some ⟨w.heap.size, 0, none⟩), .map none, .pointer (some ⟨w.heap.size + 1 + 1, 0, none⟩), undef, .pointer (some ⟨Bx, 0, none⟩),
        .pointer (some ⟨w.heap.size, 3, none⟩), .slice a3 js.length c3, .int .i64 js.length, .int .i64 (2 * js.length), .map (some (w.heap.size + 1)), .pointer (some ⟨w.heap.size, 3, none⟩), .slice a3 js.length c3,
        .func (.func 136) #[] #[.pointer (some ⟨w.heap.size + 1 + 1 + 1, 0, none⟩)], .int .i64 x.1, .agg #[.int .i64 x.2.1.1, .int .i64 x.2.1.2, .int .i64 x.2.2.1, .int .i64 x.2.2.2],
        undef, undef, undef, undef, undef, undef, undef, undef, undef, undef, undef], defers := [] })
    ?ownx ?assign ?body ?done ?stop
  case kb => exact fun W l o o' hl h h1 h2 => ⟨belowK_b (by omega) W l o o' hl h h1 h2, World.putObj_heap_other (by omega)⟩
  case own =>
    refine OwnFrom.and (fun s A B row hs hg hr => ?_) (ownFrom_below (Nat.le_refl _) (by omega))
    have h2 := (Array.getElem?_eq_some_iff.1 hs.1).1
    exact ⟨(keep A B row hg hr _ h2 (by omega)).trans hs.1, hs.2.1.same (keep A B row hg hr _ hs.2.1.lt (by omega)), Nat.le_trans hs.2.2 hg.size⟩
  case ownx =>
    rintro x a' _ A B row ⟨Bx, hBx, hb, he⟩ hg hr
    refine ⟨Bx, hBx, (hg.block Bx (Array.getElem?_eq_some_iff.1 hb).1 (fun e => ?_)).trans hb, he⟩
    obtain ⟨_, o, ho, hc⟩ := hr Bx e.symm
    rw [ho] at hb
    cases hb
    cases hc
  case assign =>
    rintro l pre x W K ⟨⟨hE, hM, hZ⟩, hB⟩ hK
    have hs := hB.size
    have hlt := (Array.getElem?_eq_some_iff.1 hE).1
    gi_wp2
    refine hK _ _ ((KeepsOthers.alloc _ _).from _) ⟨(Below.refl _ W).alloc hs _, Below.heap_alloc _ _ _ ?_⟩ ⟨⟨(Below.heap_alloc _ _ _ hlt).trans hE, hM.below ((Below.refl _ _).alloc (Nat.le_refl _) _), Nat.le_trans hZ (by simp)⟩, hB.alloc hs _⟩ ⟨W.heap.size, ?_, World.alloc_heap_new W _, rfl⟩
    · omega
    · exact hZ
  case body =>
    rintro l pre x a' W hl ⟨r, hr⟩ ⟨⟨hE, hM, hZ⟩, hB⟩ ⟨Bx, hBx, bX, rfl⟩ hlt
    have cE : W.cell? ⟨w.heap.size + 1 + 1, 0, none⟩ = some (.map (some (w.heap.size + 1))) := by simp [World.cell?, hE]
    have x0 : W.cell? ⟨Bx, 0, none⟩ = some (.int .i64 x.2.1.1) := by simp [World.cell?, bX]
    have x1 : W.cell? ⟨Bx, 1, none⟩ = some (.int .i64 x.2.1.2) := by simp [World.cell?, bX]
    have x2 : W.cell? ⟨Bx, 2, none⟩ = some (.int .i64 x.2.2.1) := by simp [World.cell?, bX]
    have x3 : W.cell? ⟨Bx, 3, none⟩ = some (.int .i64 x.2.2.2) := by simp [World.cell?, bX]
    have n1 := (mapJ_keys (pre.map Prod.snd)).1
    have hE2 := Lib.hid hE
    have hX2 := Lib.hid bX
    have lE := (Array.getElem?_eq_some_iff.1 hE).1
    have lX := (Array.getElem?_eq_some_iff.1 bX).1
    have step : ∀ w1 : World, W.grownBy w1 (some (w.heap.size + 1)) → w1.heap[w.heap.size + 1 + 1]? = some (.cells #[.map (some (w.heap.size + 1))] 100 (0, 0)) ∧ w1.heap[Bx]? = some (.cells #[.int .i64 x.2.1.1, .int .i64 x.2.1.2, .int .i64 x.2.2.1, .int .i64 x.2.2.2] 49 (0, 0)) :=
      fun w1 g => ⟨(g.block _ lE (fun e => by injection e with e; omega)).trans hE2.out, (g.block _ lX (fun e => by injection e with e; omega)).trans hX2.out⟩
    replace step := Lib.hid step
    have EQ := mapJ_snoc (pre.map Prod.snd) x.2
    rw [show pre.map Prod.snd ++ [x.2] = (pre ++ [x]).map Prod.snd from by simp] at EQ
    obtain ⟨M, hMM⟩ : ∃ M, mapJ (pre.map Prod.snd) = M := ⟨_, rfl⟩
    rw [hMM] at EQ n1 hM
    have n2 := (keys_put x.2.1 x.2.2 M n1).1
    replace EQ := Lib.hid EQ
    replace n1 := Lib.hid n1
    replace n2 := Lib.hid n2
    clear hE bX hMM
    gi_wp2_with (first
      | (gi_at_mapUpdate; refine wpListIn_store _ rfl _ _ _ 100 rfl 47 47 key_end Tryz.underlying100 (w.heap.size + 1) M rfl hM n1.out x.2.1 x.2.2 rfl rfl ?_
         intro w1 hM1 g1
         clear hM
         have q1 := step.out w1 g1
         have cE1 : w1.cell? ⟨w.heap.size + 1 + 1, 0, none⟩ = some (.map (some (w.heap.size + 1))) := by simp [World.cell?, q1.1]
         have y0 : w1.cell? ⟨Bx, 0, none⟩ = some (.int .i64 x.2.1.1) := by simp [World.cell?, q1.2]
         have y1 : w1.cell? ⟨Bx, 1, none⟩ = some (.int .i64 x.2.1.2) := by simp [World.cell?, q1.2]
         have y2 : w1.cell? ⟨Bx, 2, none⟩ = some (.int .i64 x.2.2.1) := by simp [World.cell?, q1.2]
         have y3 : w1.cell? ⟨Bx, 3, none⟩ = some (.int .i64 x.2.2.2) := by simp [World.cell?, q1.2]
         clear q1)
      | (gi_at_mapUpdate; refine wpListIn_store _ rfl _ _ _ 100 rfl 47 47 key_end Tryz.underlying100 (w.heap.size + 1) (putM x.2.1 x.2.2 M) rfl hM1 n2.out x.2.2 x.2.1 rfl rfl ?_
         intro w2 hM2 g2))
    have g : W.grownBy w2 (some (w.heap.size + 1)) := g1.trans g2
    exact ⟨KeepsFrom.of_grownBy g (fun j e => by cases e; omega), ⟨(Below.refl _ W).grown g hB.size (fun k e => by cases e; omega), g.block _ (by omega) (fun e => by injection e with e; omega)⟩,
      ⟨(step.out w2 g).1, by rw [EQ.out]; exact hM2, Nat.le_trans hZ g.size⟩, hB.grown g hB.size (fun k e => by cases e; omega)⟩
  case done =>
    rintro D ys W hD hys ⟨⟨hE, hM, hZ⟩, hB⟩ hK
    have cE : W.cell? ⟨w.heap.size + 1 + 1, 0, none⟩ = some (.map (some (w.heap.size + 1))) := by simp [World.cell?, hE]
    rw [hys] at hM
    gi_wp2
    refine ⟨by simp, .inl ⟨_, _, rfl, run_takeDeferred hK, ?_⟩⟩
    exact ⟨_, results_tmp rfl _ _ _, rfl, hM.same (World.putObj_heap_other (by omega)), hB.trans (belowK_b (w := w) (Nat.le_refl _) W D _ _ (by omega) hK rfl rfl)⟩
  case stop =>
    rintro D c pre W _ _ h _
    exact h.elim
/-- A map is handed back; nothing that was there has changed. -/
def RetM (w : World) (m : List (EndD × EndD)) (e : Ending) (w' : World) : Prop := ∃ b, e = .returned (.map (some b)) ∧ OwnM endV endV w' b m ∧ Below w.heap.size w w'
theorem ends_any (v : Value) (L : LayD) (w : World) (hv : RLay w v L) (n3 : L.joints.length ≤ 100000) : Calls Tryz.prog 75 #[v] w (RetM w (mapJ L.joints.reverse)) :=
  (callsIn_wide.1 (ends_in v L w hv n3)).mono fun _ _ h => ⟨_, h.1, h.2.1, h.2.2⟩
end
end Go.Proofs.YteafkginhejllaaGreatDoor
