/- Texts of the layers 5 to 7, merged. -/
import Derived.Test.YteafkginhejllaaGreatDoorG8
namespace Go.Proofs.YteafkginhejllaaGreatDoor
section
open Go.ChangeShapes Go.WideShapes Go.ChangeAt Go.RowKit
theorem flatM_len {α : Type} {m : Nat} : ∀ (vss : List (List α)), (∀ r ∈ vss, r.length = m) → vss.flatten.length = vss.length * m
  | [], _ => by simp
  | r :: rs, h => by
    rw [List.flatten_cons, List.length_append, flatM_len rs fun x hx => h x (by simp [hx]), h r (by simp), List.length_cons, Nat.succ_mul, Nat.add_comm]
theorem flatM_at {α : Type} {m : Nat} : ∀ (vss : List (List α)) (j : Nat) (u : α), (∀ r ∈ vss, r.length = m) → vss.flatten[j]? = some u → ∃ q i r, vss[q]? = some r ∧ r[i]? = some u ∧ j = q * m + i
  | [], j, u, _, h => by simp at h
  | r :: rs, j, u, hl, h => by
    rw [List.flatten_cons] at h
    have hr := hl r (by simp)
    by_cases hj : j < r.length
    · rw [List.getElem?_append_left hj] at h
      exact ⟨0, j, r, rfl, h, by omega⟩
    · rw [List.getElem?_append_right (by omega)] at h
      obtain ⟨q, i, r', h1, h2, h3⟩ := flatM_at rs _ u (fun x hx => hl x (by simp [hx])) h
      exact ⟨q + 1, i, r', h1, h2, by rw [Nat.succ_mul]; omega⟩
theorem RM.take {α : Type} {w : World} {a : Option Addr} {cap m k : Nat} {l : List α} {f : α → List Value} (h : MCells w a m (l.map f)) (hk : k ≤ l.length) (hn : l.length ≤ 9223372036854775807 ∧ l.length ≤ cap) : RM w (.slice a k cap) m ((l.take k).map f) := by
  refine ⟨a, cap, by simp [Nat.min_eq_left hk], by simp [Nat.min_eq_left hk]; omega, ?_⟩
  intro j r hr
  rw [List.map_take, List.getElem?_take] at hr
  split at hr
  · exact h j r hr
  · cases hr
theorem RM.drop {α : Type} {w : World} {b off cap m k : Nat} {l : List α} {f : α → List Value} (h : MCells w (some ⟨b, off, none⟩) m (l.map f)) (_ : k ≤ l.length) (hn : l.length ≤ 9223372036854775807 ∧ l.length ≤ cap) : RM w (.slice (some ⟨b, off + k * m, none⟩) (l.length - k) (cap - k)) m ((l.drop k).map f) := by
  refine ⟨some ⟨b, off + k * m, none⟩, cap - k, by simp, by simp; omega, ?_⟩
  intro j r hr
  rw [List.map_drop, List.getElem?_drop] at hr
  obtain ⟨b', off', e, hlt, hc⟩ := h (k + j) r hr
  simp only [Option.some.injEq, Addr.mk.injEq, and_true] at e
  obtain ⟨rfl, rfl⟩ := e
  refine ⟨b, off + k * m, rfl, hlt, fun i x hx => ?_⟩
  have := hc i x hx
  rw [Nat.add_mul] at this
  rw [show off + k * m + j * m + i = off + (k * m + j * m) + i by omega]
  exact this
theorem flatM_get {α : Type} {m : Nat} : ∀ (vss : List (List α)) (q i : Nat) (r : List α) (u : α), (∀ r ∈ vss, r.length = m) → vss[q]? = some r → r[i]? = some u → vss.flatten[q * m + i]? = some u
  | [], q, i, r, u, _, h, _ => by simp at h
  | x :: rs, 0, i, r, u, hl, h, hu => by
    simp at h; subst h
    rw [List.flatten_cons, Nat.zero_mul, Nat.zero_add, List.getElem?_append_left (List.getElem?_eq_some_iff.1 hu).1]; exact hu
  | x :: rs, q + 1, i, r, u, hl, h, hu => by
    have hx := hl x (by simp)
    rw [List.flatten_cons, Nat.succ_mul, List.getElem?_append_right (by omega), show q * m + m + i - x.length = q * m + i by omega]
    exact flatM_get rs q i r u (fun y hy => hl y (by simp [hy])) (by simpa using h) hu
theorem RM.ownM {w : World} {base m : Nat} {e : TypeId} {v : Value} {vss : List (List Value)} (h : w.ownsRow base e m v vss.length vss.flatten) (hl : ∀ r ∈ vss, r.length = m) : RM w v m vss := by
  obtain ⟨hl0, h⟩ := h
  rcases h with ⟨rfl, hn⟩ | ⟨g, cap, cur, rfl, hg, hh, hnc, hcm, hcs, ht⟩
  · obtain rfl : vss = [] := List.eq_nil_of_length_eq_zero hn
    exact ⟨none, 0, rfl, by simp, fun j r hr => by simp at hr⟩
  · refine ⟨some ⟨g, 0, none⟩, cap, rfl, by simp only [maxLen] at hcm; omega, fun j r hr => ⟨g, 0, rfl, (Array.getElem?_eq_some_iff.1 hh).1, fun i x hx => ?_⟩⟩
    have h2 := flatM_get vss j i r x hl hr hx
    have hlt := (List.getElem?_eq_some_iff.1 h2).1
    rw [← ht, List.getElem?_take] at h2
    split at h2
    · simp only [World.cell?, hh, Nat.zero_add]
      simpa using h2
    · cases h2
section
variable {P : Program} {w : World}
theorem run_append_rm (w : World) (base : Nat) (t ty e : TypeId) (z : Value) (size bytes : Nat) (ht : P.underlying t = some (.slice e)) (hi : (P.info? e).map (fun i => (i.zero, i.size, i.bytes)) = some (some z, size, bytes))
    (hzs : z.cells.size = size) (hsz : 0 < size) (v : Value) (n : Nat) (xs : List Value) (hown : w.ownsRow base e size v n xs) (u : Value) (vss : List (List Value)) (hu : RM w u size vss) (hl : ∀ r ∈ vss, r.length = size) (h1 : ∀ r ∈ vss, ∀ x ∈ r, x.oneCell' = true)
    (h63 : n + vss.length ≤ 9223372036854775807) (hbytes : (n + vss.length) * bytes ≤ 140737488355328) (hbase : base ≤ w.heap.size) :
    ∃ v' w', (Builtin.append_ #[t, t] ty #[v, u]).run P w = .ok v' w' ∧ w'.ownsRow base e size v' (n + vss.length) (xs ++ vss.flatten) ∧ w.grownBy w' v.ownBlock ∧ (∀ g, v'.ownBlock = some g → v.ownBlock = some g ∨ w.heap.size ≤ g) := by
  obtain ⟨i, hi', hz, hsize, hby⟩ := info_parts hi
  obtain ⟨a, c, rfl, hm, hc⟩ := hu
  by_cases h0 : vss.length = 0
  · obtain rfl : vss = [] := List.eq_nil_of_length_eq_zero h0
    refine ⟨v, w, run_append_zero base t ty e i size ht hi' v n xs hown a c, by simpa using hown, ⟨rfl, rfl, rfl, Nat.le_refl _, fun _ _ _ => rfl⟩, fun g hg => Or.inl hg⟩
  · obtain ⟨b, off, rfl, _, _⟩ := hc 0 vss[0] (by simp)
    have hnews : ∀ j x, vss.flatten[j]? = some x → w.cell? ((⟨b, off, none⟩ : Addr).add j) = some x := by
      intro j x hj
      obtain ⟨q, i, r, hq, hr, rfl⟩ := flatM_at vss j x hl hj
      obtain ⟨b', off', he, _, hcc⟩ := hc q r hq
      simp only [Option.some.injEq, Addr.mk.injEq, and_true] at he
      obtain ⟨rfl, rfl⟩ := he
      have : (⟨b, off, none⟩ : Addr).add (q * size + i) = ⟨b, off + (q * size + i), none⟩ := by unfold Addr.add; split <;> simp_all
      rw [this, ← Nat.add_assoc]; exact hcc i x hr
    exact run_append_told (P := P) w base t ty e i z size bytes ht hi' hz hsize hby hzs hsz v n xs hown ⟨b, off, none⟩ vss.length c vss.flatten (flatM_len vss hl) hnews (fun x hx => by obtain ⟨r, hr, hxr⟩ := List.mem_flatten.1 hx; exact h1 r hr x hxr) (by simp only [maxLen]; omega) hbytes hbase
/-- The same as a step of a drawn region. -/
theorem step_append_rm {ops : Array Oper} {o : Oper} {a : Act} {w : World} {K : Act → World → Prop} {Q : Exit → Act → World → Prop} {E : Prop}
    (hg : o.guard = none) (s x : Operand) (t : TypeId) (hop : o.op = .call { callee := .builtin .append, args := #[s, x], argTypes := #[t, t] })
    (base : Nat) (e : TypeId) (z : Value) (size bytes : Nat) (ht : P.underlying t = some (.slice e)) (hi : (P.info? e).map (fun i => (i.zero, i.size, i.bytes)) = some (some z, size, bytes))
    (hzs : z.cells.size = size) (hsz : 0 < size) (v : Value) (n : Nat) (xs : List Value) (hs : a.eval s = v) (hown : w.ownsRow base e size v n xs) (u : Value) (hx : a.eval x = u) (vss : List (List Value)) (hu : RM w u size vss) (hl : ∀ r ∈ vss, r.length = size) (h1 : ∀ r ∈ vss, ∀ x ∈ r, x.oneCell' = true)
    (h63 : n + vss.length ≤ 9223372036854775807) (hbytes : (n + vss.length) * bytes ≤ 140737488355328) (hbase : base ≤ w.heap.size)
    (hK : ∀ v' w', w'.ownsRow base e size v' (n + vss.length) (xs ++ vss.flatten) → w.grownBy w' v.ownBlock → (∀ g, v'.ownBlock = some g → v.ownBlock = some g ∨ w.heap.size ≤ g) → K (a.put o.dst v') w') :
    if Region.wanted o (yielded ops a.tmps) = true then Oper.wp P o a w K Q else E := by
  have hw : Region.wanted o (yielded ops a.tmps) = true := by simp [Region.wanted, hg]
  rw [if_pos hw]
  obtain ⟨v', w', hr, h2, h3, h4⟩ := run_append_rm (P := P) w base t o.type e z size bytes ht hi hzs hsz v n xs hown u vss hu hl h1 h63 hbytes hbase
  unfold Oper.wp execOp
  simp only [hop, resolve, invoke, builtin, Sem.run_bind, Sem.run_pure, Result.andThen_ok, List.map_toArray, List.map_cons, List.map_nil, hs, hx, hr]
  exact hK _ _ h2 h3 h4
end
theorem addr_add (b off k : Nat) : (⟨b, off, none⟩ : Addr).add k = ⟨b, off + k, none⟩ := by unfold Addr.add; split <;> simp_all
/-- l[:k] and l[k:] of a slice that can be read. -/
theorem cut_to {P : Program} {t : TypeId} (ht : P.underlying t = some (.slice (P.elem t))) {m b off n cap k : Nat} (hz : ∀ ww, (sizeOf (P.elem t)).run P ww = .ok m ww) (hk : k ≤ n) (hn : n ≤ cap) :
    ∀ ww : World, (Instr.slice t (.slice (some ⟨b, off, none⟩) n cap) none (some (.int .i64 (k : Int))) none).run P ww = .ok (.slice (some ⟨b, off, none⟩) k cap) ww := by
  intro ww
  rw [run_slice_h ww t _ n cap ht .i64 (k : Int) (by omega) (by omega), hz]
  simp only [Result.andThen_ok, sliced, Option.map_some, addr_add]
  simp
theorem cut_from {P : Program} {α : Type} {w : World} {t : TypeId} (ht : P.underlying t = some (.slice (P.elem t))) {m b off cap k : Nat} {l : List α} {f : α → List Value} (h : MCells w (some ⟨b, off, none⟩) m (l.map f)) (hz : ∀ ww, (sizeOf (P.elem t)).run P ww = .ok m ww) (hk : k ≤ l.length) (hn : l.length ≤ 9223372036854775807 ∧ l.length ≤ cap) :
    ∃ a', (∀ ww : World, (Instr.slice t (.slice (some ⟨b, off, none⟩) l.length cap) (some (.int .i64 (k : Int))) none none).run P ww = .ok (.slice a' (l.length - k) (cap - k)) ww) ∧ RM w (.slice a' (l.length - k) (cap - k)) m ((l.drop k).map f) := by
  by_cases hc : cap = k
  · refine ⟨some ⟨b, off, none⟩, fun ww => ?_, ?_⟩
    · rw [run_slice_l ww t _ l.length cap ht .i64 (k : Int) (by omega) (by omega), hz]
      simp only [Result.andThen_ok, sliced]
      simp [hc]
    · rw [show l.drop k = [] from List.drop_eq_nil_of_le (by omega), show l.length - k = 0 by omega]
      exact ⟨_, _, rfl, by simp, fun j r hr => by simp at hr⟩
  · refine ⟨some ⟨b, off + k * m, none⟩, fun ww => ?_, RM.drop h hk hn⟩
    rw [run_slice_l ww t _ l.length cap ht .i64 (k : Int) (by omega) (by omega), hz]
    simp only [Result.andThen_ok, sliced, Option.map_some, addr_add]
    simp [hc]
end
end Go.Proofs.YteafkginhejllaaGreatDoor
