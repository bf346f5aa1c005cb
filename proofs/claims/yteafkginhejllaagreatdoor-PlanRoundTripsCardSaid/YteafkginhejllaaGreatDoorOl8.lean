/- What comes in: a slice of slices of texts, a slice of ints, texts; with the reach's bound on each length. Conditions: none beyond the readings. -/
import Derived.Test.YteafkginhejllaaGreatDoorFr8
import Derived.Lib.SmallJoins
namespace Go.Proofs.YteafkginhejllaaGreatDoor
open Go.ChangeShapes Go.WideShapes Go.ChangeAt Go.RowKit
section
variable {H : Type} {enc : TypeId × Value → H} {P : Program} {w : World}
/-- A slice whose elements take one cell each: its cells, each with its reading. -/
theorem open_elems {t e : TypeId} {fuel : Nat} {v : Value} {d : DataW H} {p : List MemPlace} (ht : P.underlying t = some (.slice e)) (hc : P.cellsOf e = 1)
    (h : DataW.trod enc P w 0 (fun _ => true) true fuel t [v] = some (d, p)) :
    ∃ (vs : List Value) (ds : List (DataW H)), RS w v vs ∧ ds.length = vs.length ∧ (∀ (j : Nat) x, vs[j]? = some x → ∃ y n q, ds[j]? = some y ∧ DataW.trod enc P w 0 (fun _ => true) true n e [x] = some (y, q)) ∧ (ds = [] ∨ ∃ sp, d = .slice ds sp) := by
  rcases DataW.trod_slice ht h with ⟨hcs, hx⟩ | ⟨a, len, cap, elems, rest, n, _, hcs, hx, _, hl, hm, hlen, hel, _⟩
  · simp only [List.cons.injEq, and_true] at hcs
    subst hcs
    exact ⟨[], [], RS.nil _ _ _, rfl, fun j x hx => by simp at hx, Or.inl rfl⟩
  · simp only [List.cons.injEq, and_true] at hcs
    subst hcs
    simp only [Prod.mk.injEq] at hx
    have cells : ∀ i, i < len → ∃ c y q, w.cell? (a.add i) = some c ∧ elems[i]? = some (y, q) ∧ DataW.trod enc P w 0 (fun _ => true) true n e [c] = some (y, q) := by
      intro i hi
      have hE := hel i hi
      rw [hc, Nat.mul_one] at hE
      have hy : elems[i]? = some (elems[i]'(by omega)) := List.getElem?_eq_getElem (by omega)
      rw [hy] at hE
      simp only [Option.bind_eq_some_iff] at hE
      obtain ⟨c1, hc1, hy1⟩ := hE
      have e0 : (a.add i).add 0 = a.add i := by simp [Addr.add]
      have : ∃ c, c1 = [c] ∧ w.cell? (a.add i) = some c := by
        unfold World.cells? at hc1
        split at hc1
        · simp only [List.range_succ, List.range_zero, List.nil_append, List.mapM_cons, List.mapM_nil, e0] at hc1
          cases hcc : w.cell? (a.add i) with
          | none => simp [hcc] at hc1
          | some c => simp [hcc] at hc1; exact ⟨c, hc1.symm, rfl⟩
        · cases hc1
      obtain ⟨c, rfl, hcell⟩ := this
      exact ⟨c, (elems[i]'(by omega)).1, (elems[i]'(by omega)).2, hcell, hy, hy1⟩
    obtain ⟨vs, hvl, hvs⟩ : ∃ vs : List Value, vs.length = len ∧ ∀ (j : Nat) x, vs[j]? = some x → w.cell? (a.add j) = some x := by
      refine ⟨(List.range len).map fun i => (w.cell? (a.add i)).getD (.bool false), by simp, fun j x hj => ?_⟩
      rw [List.getElem?_map] at hj
      cases hr : (List.range len)[j]? with
      | none => rw [hr] at hj; cases hj
      | some k =>
        rw [hr] at hj
        have hk : k = j := by
          obtain ⟨h1, h2⟩ := List.getElem?_eq_some_iff.1 hr
          rw [List.getElem_range] at h2
          exact h2.symm
        have hjl : j < len := by have := (List.getElem?_eq_some_iff.1 hr).1; simpa using this
        subst hk
        obtain ⟨c, y, q, h1, _, _⟩ := cells k hjl
        simp only [Option.map_some, h1, Option.getD_some] at hj
        rw [h1]; exact hj
    refine ⟨vs, elems.map (·.1), ⟨some a, cap, by rw [hvl], ⟨by simp only [maxLen] at hm; omega, by omega⟩, fun j x hj => ?_⟩, by simp; omega, fun j x hj => ?_, Or.inr ⟨_, hx.1⟩⟩
    · have h1 := hvs j x hj
      obtain ⟨b, off, spot⟩ := a
      have hjl : j < vs.length := (List.getElem?_eq_some_iff.1 hj).1
      have h0 := hvs 0 (vs[0]'(by omega)) (List.getElem?_eq_getElem _)
      have hspot : spot = none := by simpa [Addr.add] using World.cell?_spot h0
      subst hspot
      have h2 : w.cell? ⟨b, off + j, none⟩ = some x := by
        rw [← h1]
        unfold Addr.add
        split
        · rename_i hz
          rw [hz]; rfl
        · rfl
      exact ⟨b, off, rfl, World.block_lt_of_cell? w ⟨b, off + j, none⟩ h2, h2⟩
    · have hjl : j < len := by have := (List.getElem?_eq_some_iff.1 hj).1; omega
      obtain ⟨c, y, q, h1, h2, h3⟩ := cells j hjl
      have h4 := hvs j x hj
      rw [h1] at h4
      obtain rfl := Option.some.inj h4
      exact ⟨y, n, q, by simp [h2], h3⟩
theorem weights_mem {e : TypeId} {y : DataW H} : ∀ {ds : List (DataW H)} {j : Nat}, ds[j]? = some y → ∀ n ∈ y.weights P e, n ∈ DataW.weightsAll P e ds
  | [], _, h, _, _ => by simp at h
  | d :: r, 0, h, n, hn => by
    simp at h
    subst h
    simp only [DataW.weightsAll, List.mem_append]
    exact Or.inl hn
  | d :: r, j + 1, h, n, hn => by
    simp only [DataW.weightsAll, List.mem_append]
    exact Or.inr (weights_mem (by simpa using h) n hn)
end
theorem list_strs : ∀ (vs : List Value), (∀ (j : Nat) x, vs[j]? = some x → ∃ s : L8, x = str s ∧ s.length ≤ 9223372036854775807) → ∃ l : List L8, vs = strsV l ∧ ∀ s ∈ l, s.length ≤ 9223372036854775807
  | [], _ => ⟨[], rfl, by simp⟩
  | v :: vs, h => by
    obtain ⟨s, rfl, hs⟩ := h 0 v rfl
    obtain ⟨l, rfl, hl⟩ := list_strs vs (fun j x hx => h (j + 1) x (by simpa using hx))
    exact ⟨s :: l, rfl, by simpa [hs] using hl⟩
theorem RowsL.cons {w : World} {v : Value} {vs : List Value} {x : List L8} {l : List (List L8)} (hx : RS w v (strsV x)) (h : RowsL w vs l) : RowsL w (v :: vs) (x :: l) := by
  refine ⟨by simp [h.1], fun j a y ha hy => ?_⟩
  cases j with
  | zero => simp at ha hy; subst ha hy; exact hx
  | succ j => exact h.2 j a y (by simpa using ha) (by simpa using hy)
theorem list_rows {w : World} {B : Nat} : ∀ (vs : List Value), (∀ (j : Nat) x, vs[j]? = some x → ∃ l : List L8, RS w x (strsV l) ∧ l.length ≤ B ∧ ∀ s ∈ l, s.length ≤ 9223372036854775807) → ∃ ll, RowsL w vs ll ∧ ∀ l ∈ ll, l.length ≤ B ∧ ∀ s ∈ l, s.length ≤ 9223372036854775807
  | [], _ => ⟨[], RowsL.nil _, by simp⟩
  | v :: vs, h => by
    obtain ⟨x, hx, hb⟩ := h 0 v rfl
    obtain ⟨ll, hr, hl⟩ := list_rows vs (fun j x hx => h (j + 1) x (by simpa using hx))
    refine ⟨x :: ll, RowsL.cons hx hr, ?_⟩
    intro y hy
    rcases List.mem_cons.1 hy with rfl | hy
    · exact hb
    · exact hl y hy
def big : Nat := 140737488355328
set_option maxRecDepth 100000 in
/-- A slice of slices of texts that came in. -/
theorem open_LL {H : Type} {enc : TypeId × Value → H} {W : World} {v : Value} {d : DataW H} {p : List MemPlace} {base : Nat} (hk : Value.okWide Tryz.prog W .any base 39 v)
    (h : DataW.Trod enc Tryz.prog W 0 (fun _ => true) true 39 v d p) (hz : ∀ n ∈ d.weights Tryz.prog 39, n ≤ reachBytes) : ∃ ll : List (List L8), LL W v ll ∧ ll.length ≤ big ∧ ∀ l ∈ ll, l.length ≤ big ∧ ∀ s ∈ l, s.length ≤ 9223372036854775807 := by
  obtain ⟨a0, len0, cap0, rfl⟩ := okWide_slice Tryz.underlying39 hk
  obtain ⟨fuel, hf⟩ := h
  have hf' : DataW.trod enc Tryz.prog W 0 (fun _ => true) true fuel 39 [Value.slice a0 len0 cap0] = some (d, p) := hf
  obtain ⟨vs, ds, hrs, hdl, hel, hd⟩ := open_elems Tryz.underlying39 (by kernel_rfl) hf'
  have rb := reachBytes_lt
  have b24 : Tryz.prog.bytesOf 22 = 24 := by kernel_rfl
  have b16 : Tryz.prog.bytesOf 9 = 16 := by kernel_rfl
  have hz1 : vs.length ≤ big := by
    rcases hd with hd | ⟨sp, hd⟩
    · rw [hd] at hdl; simp at hdl; omega
    · have := hz ((ds.length + sp.length) * Tryz.prog.bytesOf 22) (by rw [hd]; simp [DataW.weights, Tryz.underlying39])
      rw [b24] at this
      unfold big
      omega
  have inner : ∀ (j : Nat) x, vs[j]? = some x → ∃ l : List L8, RS W x (strsV l) ∧ l.length ≤ big ∧ ∀ s ∈ l, s.length ≤ 9223372036854775807 := by
    intro j x hx
    obtain ⟨y, n, q, hy, ht⟩ := hel j x hx
    obtain ⟨us, es, hus, hel2, hstr, hy2⟩ := open_elems Tryz.underlying22 (by kernel_rfl) ht
    obtain ⟨l, rfl, hl⟩ := list_strs us (fun k u hu => by
      obtain ⟨y2, n2, q2, _, ht2⟩ := hstr k u hu
      obtain ⟨s, hs, _, hm⟩ := DataW.trod_string Tryz.underlying9 ht2
      simp only [List.cons.injEq, and_true] at hs
      exact ⟨s.data.toList, hs, by simp only [maxLen] at hm; rw [Array.length_toList]; exact hm⟩)
    refine ⟨l, hus, ?_, hl⟩
    rw [strsV_length] at hel2
    rcases hy2 with hy2 | ⟨sp2, hy2⟩
    · rw [hy2] at hel2; simp at hel2; omega
    · have hm : (es.length + sp2.length) * Tryz.prog.bytesOf 9 ∈ y.weights Tryz.prog 22 := by
        rw [hy2]; simp [DataW.weights, Tryz.underlying22]
      have : (es.length + sp2.length) * Tryz.prog.bytesOf 9 ≤ reachBytes := by
        rcases hd with hd | ⟨sp, hd⟩
        · rw [hd] at hy; simp at hy
        · refine hz _ ?_
          rw [hd]
          simp only [DataW.weights, Tryz.underlying39, List.mem_cons, List.mem_append]
          exact Or.inr (Or.inl (weights_mem hy _ hm))
      rw [b16] at this
      unfold big
      omega
  obtain ⟨ll, hll, hb⟩ := list_rows vs inner
  exact ⟨ll, LL.of hrs hll, by rw [← hll.1]; exact hz1, hb⟩
set_option maxRecDepth 100000 in
/-- A slice of ints that came in. -/
theorem open_intsL {H : Type} {enc : TypeId × Value → H} {W : World} {v : Value} {d : DataW H} {p : List MemPlace} {base : Nat} (hk : Value.okWide Tryz.prog W .any base 81 v)
    (h : DataW.Trod enc Tryz.prog W 0 (fun _ => true) true 81 v d p) : ∃ l : List Int, RS W v (intsV l) ∧ ∀ n ∈ l, -9223372036854775808 ≤ n ∧ n ≤ 9223372036854775807 := by
  obtain ⟨a0, len0, cap0, rfl⟩ := okWide_slice Tryz.underlying81 hk
  obtain ⟨fuel, hf⟩ := h
  have hf' : DataW.trod enc Tryz.prog W 0 (fun _ => true) true fuel 81 [Value.slice a0 len0 cap0] = some (d, p) := hf
  obtain ⟨vs, ds, hrs, hdl, hel, hd⟩ := open_elems Tryz.underlying81 (by kernel_rfl) hf'
  have key : ∀ (us : List Value), (∀ (j : Nat) x, us[j]? = some x → ∃ n : Int, x = .int .i64 n ∧ I64 n) → ∃ l : List Int, us = intsV l ∧ ∀ n ∈ l, I64 n := by
    intro us
    induction us with
    | nil => intro _; exact ⟨[], rfl, by simp⟩
    | cons u us ih =>
      intro hu
      obtain ⟨n, rfl, hn⟩ := hu 0 u rfl
      obtain ⟨l, rfl, hl⟩ := ih (fun j x hx => hu (j + 1) x (by simpa using hx))
      exact ⟨n :: l, rfl, by simpa [hn] using hl⟩
  obtain ⟨l, rfl, hl⟩ := key vs (fun j x hx => by
    obtain ⟨y, n, q, _, ht⟩ := hel j x hx
    obtain ⟨m, hm, _, hw⟩ := DataW.trod_int Tryz.underlying3 ht
    simp only [List.cons.injEq, and_true] at hm
    exact ⟨m, hm, I64.of_wf hw⟩)
  exact ⟨l, hrs, hl⟩
theorem str_of (s : ByteArray) (h : s.size ≤ maxLen) : ∃ l : List UInt8, s = ⟨l.toArray⟩ ∧ l.length ≤ 9223372036854775807 := by
  obtain ⟨l, e, hl⟩ := sb_all s
  exact ⟨l, e, by unfold maxLen at h; omega⟩
end Go.Proofs.YteafkginhejllaaGreatDoor
