/- Maps that a call has made, as lists of entries: made, asked, stored into, counted. Conditions: as stated. -/
import Derived.Test.YthoodaldmfojaaaDoorEq7
import Derived.Maps.OwnSet
namespace Go.Proofs.YthoodaldmfojaaaDoor
open Go.ChangeShapes Go.WideShapes Go.ChangeAt Go.RowKit
open Go.ChangeMaps
open Go.MapKept Go.Maps
section
set_option linter.unusedSectionVars false
variable {κ ν : Type} [DecidableEq κ]
def lookM (x : κ) : List (κ × ν) → Option ν
  | [] => none
  | (a, b) :: r => if a = x then some b else lookM x r
def putM (x : κ) (v : ν) : List (κ × ν) → List (κ × ν)
  | [] => [(x, v)]
  | (a, b) :: r => if a = x then (x, v) :: r else (a, b) :: putM x v r
theorem lookM_put (x y : κ) (v : ν) : ∀ m : List (κ × ν), lookM y (putM x v m) = if x = y then some v else lookM y m
  | [] => by simp only [putM, lookM]
  | (a, b) :: r => by
    unfold putM
    by_cases h : a = x
    · rw [if_pos h]
      subst h
      by_cases h2 : a = y
      · simp [lookM, h2]
      · simp [lookM, h2]
    · rw [if_neg h]
      simp only [lookM]
      rw [lookM_put x y v r]
      by_cases h2 : a = y
      · subst h2
        rw [if_pos rfl, if_pos rfl, if_neg (fun e : x = a => h e.symm)]
      · rw [if_neg h2, if_neg h2]
theorem putM_new (x : κ) (v : ν) : ∀ m : List (κ × ν), lookM x m = none → putM x v m = m ++ [(x, v)]
  | [], _ => rfl
  | (a, b) :: r, h => by
    unfold lookM at h
    split at h
    · cases h
    · rename_i hn
      rw [putM, if_neg hn, putM_new x v r h]; rfl
theorem lookM_none (x : κ) : ∀ m : List (κ × ν), lookM x m = none ↔ x ∉ m.map Prod.fst
  | [] => by simp [lookM]
  | (a, b) :: r => by
    unfold lookM
    by_cases h : a = x
    · simp [h]
    · rw [if_neg h, lookM_none x r, List.map_cons, List.mem_cons, not_or]
      exact ⟨fun hh => ⟨fun e => h e.symm, hh⟩, fun hh => hh.2⟩
variable (kv : κ → Value) (vv : ν → Value)
/-- BLOCK b OF w IS A MAP WITH THESE ENTRIES. -/
def OwnM (w : World) (b : Nat) (m : List (κ × ν)) : Prop :=
  ∃ es clock, w.heap[b]? = some (.map es clock) ∧ es.toList.map (fun e => (e.key, e.val)) = m.map (fun p => (kv p.1, vv p.2))
/-- What is asked of the key's type. -/
structure Key (P : Program) (k : TypeId) (kv : κ → Value) : Prop where
  inj : ∀ {x y}, kv x = kv y → x = y
  check : ∀ (w : World) (em : Bool) (x : κ), (Instr.checkKey em 10000 k (kv x)).run P w = .ok () w
  find : ∀ (w : World) (x : κ) (es : List MapEntry), (∀ e ∈ es, ∃ y, e.key = kv y) →
    ((Instr.findKey k (kv x) es).run P w = .ok none w ∧ ∀ e ∈ es, e.key ≠ kv x) ∨ ∃ j e, (Instr.findKey k (kv x) es).run P w = .ok (some (j, e.val)) w ∧ es[j]? = some e ∧ e.key = kv x
  stays : ∀ (w : World) (x : κ), (Instr.keyThatStays (kv x) (kv x)).run P w = .ok (kv x) w
theorem Key.plain {P : Program} {k : TypeId} {kv : κ → Value} {d : TypeDesc} (hd : P.underlying k = some d) (hk : ∀ x, IsKey d (kv x)) (hi : ∀ {x y}, kv x = kv y → x = y) : Key P k kv where
  inj := hi
  check w em x := run_checkKey hd (hk x) em 9999
  find w x es hes := by
    rcases findNow_spec (hk x) es 0 (fun e he => by obtain ⟨y, hy⟩ := hes e he; rw [hy]; exact hk y) with ⟨h1, h2⟩ | ⟨j, e0, h1, h2, h3⟩
    · exact Or.inl ⟨run_findKey hd h1, h2⟩
    · exact Or.inr ⟨j, e0, by simpa using run_findKey hd h1, h2, h3⟩
  stays w x := run_keyThatStays (hk x)
variable {kv vv} {P : Program} {k : TypeId} {w : World} {b : Nat} {m : List (κ × ν)}
theorem OwnM.lt (h : OwnM kv vv w b m) : b < w.heap.size := by
  obtain ⟨es, clock, hb, _⟩ := h
  exact (Array.getElem?_eq_some_iff.1 hb).1
theorem OwnM.below {w' : World} (h : OwnM kv vv w b m) (hb : Below w.heap.size w w') : OwnM kv vv w' b m := by
  have hl := h.lt
  obtain ⟨es, clock, h1, h2⟩ := h
  exact ⟨es, clock, by rw [hb.block b hl]; exact h1, h2⟩
theorem OwnM.same {w' : World} (h : OwnM kv vv w b m) (hb : w'.heap[b]? = w.heap[b]?) : OwnM kv vv w' b m := by
  obtain ⟨es, clock, h1, h2⟩ := h
  exact ⟨es, clock, hb.trans h1, h2⟩
theorem OwnM.made (w : World) : OwnM kv vv (w.alloc (.map #[] 0)) w.heap.size ([] : List (κ × ν)) :=
  ⟨#[], 0, (MapKept.heap_alloc w _).1, by simp⟩
theorem find_list (K : Key P k kv) (w : World) (x : κ) (es : List MapEntry) (m : List (κ × ν)) (h : es.map (fun e => (e.key, e.val)) = m.map (fun p => (kv p.1, vv p.2))) (hu : (m.map Prod.fst).Nodup) :
    ((Instr.findKey k (kv x) es).run P w = .ok none w ∧ lookM x m = none) ∨
    ∃ j e v, (Instr.findKey k (kv x) es).run P w = .ok (some (j, e.val)) w ∧ es[j]? = some e ∧ e.key = kv x ∧ lookM x m = some v ∧ e.val = vv v ∧ m[j]? = some (x, v) := by
  have hkeys : ∀ e ∈ es, ∃ y, e.key = kv y := by
    intro e he
    have : (e.key, e.val) ∈ es.map (fun e => (e.key, e.val)) := List.mem_map_of_mem he
    rw [h] at this
    obtain ⟨p, _, hp⟩ := List.mem_map.1 this
    exact ⟨p.1, (Prod.mk.inj hp).1.symm⟩
  rcases K.find w x es hkeys with ⟨h1, h2⟩ | ⟨j, e, h1, h2, h3⟩
  · refine Or.inl ⟨h1, (lookM_none x m).2 fun hx => ?_⟩
    obtain ⟨p, hp, hpx⟩ := List.mem_map.1 hx
    have : (kv p.1, vv p.2) ∈ m.map (fun p => (kv p.1, vv p.2)) := List.mem_map_of_mem hp
    rw [← h] at this
    obtain ⟨e, he, hee⟩ := List.mem_map.1 this
    exact h2 e he (by rw [(Prod.mk.inj hee).1, hpx])
  · refine Or.inr ⟨j, e, ?_⟩
    have hj : (es.map (fun e => (e.key, e.val)))[j]? = some (e.key, e.val) := by simp [h2]
    rw [h, List.getElem?_map, Option.map_eq_some_iff] at hj
    obtain ⟨⟨p, v⟩, hp, hpe⟩ := hj
    have e1 := (Prod.mk.inj hpe).1
    have e2 := (Prod.mk.inj hpe).2
    have hpx : p = x := K.inj (by rw [e1, h3])
    subst hpx
    refine ⟨v, h1, h2, h3, ?_, e2.symm, hp⟩
    clear h e1 e2 hpe h1 h2 h3
    induction m generalizing j with
    | nil => simp at hp
    | cons q r ih =>
      obtain ⟨a, c⟩ := q
      cases j with
      | zero =>
        simp at hp
        obtain ⟨rfl, rfl⟩ := hp
        simp [lookM]
      | succ j =>
        simp only [List.map_cons, List.nodup_cons] at hu
        have hr : r[j]? = some (p, v) := by simpa using hp
        have hne : a ≠ p := fun e => hu.1 (by rw [e]; exact List.mem_map_of_mem (List.mem_of_getElem? hr))
        rw [lookM, if_neg hne]
        exact ih hu.2 j hr
/-- 'm[k]', 'v, ok := m[k]'. -/
theorem OwnM.look (h : OwnM kv vv w b m) (K : Key P k kv) (hu : (m.map Prod.fst).Nodup) {t e : TypeId} (ht : P.underlying t = some (.map k e)) {z : Value} (hz : (zeroValue e).run P w = .ok z w) (x : κ) (c : Bool) :
    (Instr.lookup t (.map (some b)) (kv x) c).run P w = .ok (if c then .tuple #[((lookM x m).map vv).getD z, .bool (lookM x m).isSome] else ((lookM x m).map vv).getD z) w := by
  obtain ⟨es, clock, hb, hm⟩ := h
  rcases find_list K w x es.toList m hm hu with ⟨h1, h2⟩ | ⟨j, e0, v, h1, _, _, h4, h5, _⟩
  · simp [Instr.lookup, run_underlying ht, MapKept.run_getObj_map hb, K.check, h1, h2, hz, Result.andThen]
  · simp [Instr.lookup, run_underlying ht, MapKept.run_getObj_map hb, K.check, h1, h4, h5, Result.andThen]
theorem keys_put (x : κ) (v : ν) : ∀ m : List (κ × ν), (m.map Prod.fst).Nodup → ((putM x v m).map Prod.fst).Nodup ∧ ∀ y, y ∈ (putM x v m).map Prod.fst → y = x ∨ y ∈ m.map Prod.fst
  | [], _ => by simp [putM]
  | (a, c) :: r, h => by
    simp only [List.map_cons, List.nodup_cons] at h
    obtain ⟨h1, h2⟩ := keys_put x v r h.2
    unfold putM
    split
    · rename_i ha
      subst ha
      simp only [List.map_cons, List.nodup_cons]
      exact ⟨h, fun y hy => Or.inr hy⟩
    · rename_i ha
      simp only [List.map_cons, List.nodup_cons]
      refine ⟨⟨fun hc => ?_, h1⟩, fun y hy => ?_⟩
      · rcases h2 a hc with rfl | hc
        · exact ha rfl
        · exact h.1 hc
      · rcases List.mem_cons.1 hy with rfl | hy
        · exact Or.inr (by simp)
        · rcases h2 y hy with rfl | hy
          · exact Or.inl rfl
          · exact Or.inr (List.mem_cons_of_mem _ hy)
theorem put_at {x : κ} {v v0 : ν} : ∀ {m : List (κ × ν)} {j : Nat}, (m.map Prod.fst).Nodup → m[j]? = some (x, v0) → putM x v m = m.set j (x, v)
  | [], j, _, h => by simp at h
  | (a, c) :: r, 0, _, h => by
    simp at h
    obtain ⟨rfl, rfl⟩ := h
    simp [putM]
  | (a, c) :: r, j + 1, hu, h => by
    simp only [List.map_cons, List.nodup_cons] at hu
    have hr : r[j]? = some (x, v0) := by simpa using h
    have hne : a ≠ x := fun e => hu.1 (by rw [e]; exact List.mem_map_of_mem (List.mem_of_getElem? hr))
    rw [putM, if_neg hne, put_at hu.2 hr, List.set_cons_succ]
/-- 'm[k] = v'. -/
theorem OwnM.store (h : OwnM kv vv w b m) (K : Key P k kv) (hu : (m.map Prod.fst).Nodup) {t e : TypeId} (ht : P.underlying t = some (.map k e)) (x : κ) (v : ν) :
    ∃ w', (Instr.mapUpdate t (.map (some b)) (kv x) (vv v)).run P w = .ok () w' ∧ OwnM kv vv w' b (putM x v m) ∧ w.grownBy w' (some b) := by
  obtain ⟨es, clock, hb, hm⟩ := h
  have hg : ∀ o, w.grownBy (setBlock w b o) (some b) := fun o => ⟨rfl, rfl, rfl, by simp [setBlock], fun i _ hi => heap_setBlock_other hb _ (fun e => hi (by rw [e]))⟩
  rcases find_list K w x es.toList m hm hu with ⟨h1, h2⟩ | ⟨j, e0, v0, h1, h3, h3k, h4, h5, h6⟩
  · refine ⟨setBlock w b (.map (es.push { key := kv x, val := vv v, born := clock }) (clock + 1)), ?_, ⟨_, _, heap_setBlock_same hb _, ?_⟩, hg _⟩
    · simp [Instr.mapUpdate, run_underlying ht, MapKept.run_getObj_map hb, K.check, h1, MapKept.run_setObj_map _ hb, setBlock, Result.andThen]
    · rw [putM_new x v m h2]; simp [hm]
  · have hj : es[j]? = some e0 := by rw [← Array.getElem?_toList]; exact h3
    refine ⟨setBlock w b (.map (es.modify j fun e => { e with key := kv x, val := vv v }) clock), ?_, ⟨_, _, heap_setBlock_same hb _, ?_⟩, hg _⟩
    · simp [Instr.mapUpdate, run_underlying ht, MapKept.run_getObj_map hb, K.check, h1, hj, h3k, K.stays, MapKept.run_setObj_map _ hb, setBlock, Result.andThen]
    · rw [put_at hu h6]
      have : (es.modify j fun e => { e with key := kv x, val := vv v }).toList = es.toList.modify j fun e => { e with key := kv x, val := vv v } := by simp
      rw [this, List.map_set, ← hm]
      apply List.ext_getElem?
      intro i
      simp only [List.getElem?_map, List.getElem?_modify, List.getElem?_set]
      by_cases hi : j = i
      · subst hi
        have hlt : j < es.size := (Array.getElem?_eq_some_iff.1 hj).1
        simp [hlt]
      · simp [hi]
theorem OwnM.len (h : OwnM kv vv w b m) {t e : TypeId} (ht : P.underlying t = some (.map k e)) (ty : TypeId) : (Builtin.len_ #[t] ty #[.map (some b)]).run P w = .ok (.int .i64 m.length) w := by
  obtain ⟨es, clock, hb, hm⟩ := h
  have e1 : es.size = m.length := by have := congrArg List.length hm; simpa using this
  simp [Builtin.len_, run_underlying ht, MapKept.run_getObj_map hb, goInt, Result.andThen, e1]
end
/-- 'm[k] = v' at the operation. -/
theorem wpList_store {κ ν : Type} [DecidableEq κ] {kv : κ → Value} {vv : ν → Value} {P : Program} (w : World) {ops : Array Oper} {rest : List Oper} {o : Oper} {a : Act} {Q : Exit → Act → World → Prop}
    (hg : o.guard = none) (m x v : Operand) (t : TypeId) (hop : o.op = Op.mapUpdate t m x v)
    (k e : TypeId) (K : Key P k kv) (ht : P.underlying t = some (.map k e)) (b : Nat) (M : List (κ × ν)) (hm : a.eval m = .map (some b)) (hown : OwnM kv vv w b M) (hu : (M.map Prod.fst).Nodup) (x0 : κ) (v0 : ν)
    (hx : a.eval x = kv x0) (hv : a.eval v = vv v0)
    (hK : ∀ w', OwnM kv vv w' b (putM x0 v0 M) → w.grownBy w' (some b) → wpList P ops Q rest (a.put o.dst undef) w') :
    wpList P ops Q (o :: rest) a w := by
  refine wpList_plain hg fun K' hK' => ?_
  obtain ⟨w', hrun, r1, r2⟩ := hown.store K hu ht x0 v0
  unfold Oper.wp
  simp [execOp, hop, hm, hx, hv, hrun, Result.andThen]
  exact hK' _ _ (hK w' r1 r2)
/-! ### the keys of this program's maps: texts, numbers, ends -/
theorem key_str : Key Tryd.prog 9 (fun s : L8 => str s) := Key.plain Tryd.underlying9 (fun x => trivial) (fun {x y} h => by simpa using h)
theorem key_int : Key Tryd.prog 3 (fun n : Int => Value.int .i64 n) := Key.plain Tryd.underlying3 (fun x => rfl) (fun {x y} h => by simpa using h)
abbrev endV (e : EndD) : Value := .agg #[.int .i64 e.1, .int .i64 e.2]
theorem endV_inj {x y : EndD} (h : endV x = endV y) : x = y := by
  obtain ⟨a, b⟩ := x; obtain ⟨c, d⟩ := y
  simpa [endV] using h
theorem asking_end (w : World) (x : EndD) : ∀ (es : List MapEntry) (i : Nat), (∀ e ∈ es, ∃ y, e.key = endV y) →
    ((Instr.findAsking 37 (endV x) es i).run Tryd.prog w = .ok none w ∧ ∀ e ∈ es, e.key ≠ endV x) ∨ ∃ j e, (Instr.findAsking 37 (endV x) es i).run Tryd.prog w = .ok (some (i + j, e.val)) w ∧ es[j]? = some e ∧ e.key = endV x
  | [], i, _ => Or.inl ⟨rfl, by simp⟩
  | e :: es, i, h => by
    obtain ⟨y, hy⟩ := h e (by simp)
    have hq : (Op.equal 37 (endV x) e.key).run Tryd.prog w = .ok (x == y) w := by rw [hy]; exact equal_end _ _ _ _ w
    by_cases hxy : x = y
    · refine Or.inr ⟨0, e, ?_, rfl, by rw [hy, hxy]⟩
      have hf : (x == y) = true := by simpa using hxy
      rw [hf] at hq
      simp [Instr.findAsking, hq, Result.andThen]
    · have hf : (x == y) = false := by simpa using hxy
      rw [hf] at hq
      rcases asking_end w x es (i + 1) (fun e he => h e (by simp [he])) with ⟨h1, h2⟩ | ⟨j, e0, h1, h2, h3⟩
      · refine Or.inl ⟨by simp [Instr.findAsking, hq, h1, Result.andThen], fun e' he => ?_⟩
        rcases List.mem_cons.1 he with rfl | he
        · rw [hy]; exact fun hh => hxy (endV_inj hh).symm
        · exact h2 e' he
      · refine Or.inr ⟨j + 1, e0, ?_, by simpa using h2, h3⟩
        simp [Instr.findAsking, hq, h1, Result.andThen]; omega
theorem key_end : Key Tryd.prog 37 endV where
  inj := endV_inj
  check w em x := by
    obtain ⟨a, b⟩ := x
    unfold Instr.checkKey
    simp [run_underlying Tryd.underlying37, Result.andThen, part, run_checkKey Tryd.underlying3 (k := .int .i64 a) rfl, run_checkKey Tryd.underlying3 (k := .int .i64 b) rfl]
  find w x es hes := by
    cases es with
    | nil => exact Or.inl ⟨by simp [Instr.findKey, run_underlying Tryd.underlying37, Instr.findNow, Result.andThen], by simp⟩
    | cons e es =>
      obtain ⟨y, hy⟩ := hes e (by simp)
      rcases asking_end w x (e :: es) 0 hes with h | ⟨j, e0, h1, h2, h3⟩
      · exact Or.inl ⟨by simp only [Instr.findKey, Sem.run_bind, run_underlying Tryd.underlying37, Result.andThen_ok, Instr.findNow, Instr.sameNow]; exact h.1, h.2⟩
      · rw [Nat.zero_add] at h1
        exact Or.inr ⟨j, e0, by simp only [Instr.findKey, Sem.run_bind, run_underlying Tryd.underlying37, Result.andThen_ok, Instr.findNow, Instr.sameNow]; exact h1, h2, h3⟩
  stays w x := by
    simp [Instr.keyThatStays, Instr.sameBits]
end Go.Proofs.YthoodaldmfojaaaDoor
