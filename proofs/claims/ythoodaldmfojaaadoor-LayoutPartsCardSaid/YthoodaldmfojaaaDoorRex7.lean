/- Contract of the reference's exists. Conditions: the layout can be read. -/
import Derived.Test.YthoodaldmfojaaaDoorFew7
namespace Go.Proofs.YthoodaldmfojaaaDoor
open Go.ChangeShapes Go.WideShapes Go.ChangeAt Go.RowKit
theorem exS_false {els : List ElD} {e : EndD} (h : e.1 < 0 ∨ (els.length : Int) ≤ e.1 ∨ e.2 < 0) : exS els e = false := by
  rw [← Bool.not_eq_true]
  intro hh
  simp only [exS, Bool.and_eq_true, decide_eq_true_eq] at hh
  omega
theorem exS_in {els : List ElD} {k : Nat} {y : ElD} {s : Int} (hy : els[k]? = some y) (hs : ¬ s < 0) : exS els ((k : Int), s) = decide (s < sidesS y.kind) := by
  have hk : k < els.length := (List.getElem?_eq_some_iff.1 hy).1
  have h1 : decide ((0 : Int) ≤ ((k : Nat) : Int)) = true := by simp
  have h2 : decide (((k : Nat) : Int) < (els.length : Int)) = true := by simp; omega
  have h3 : decide ((0 : Int) ≤ s) = true := by simp; omega
  have h4 : elAt els ((k : Nat) : Int) ElD.kind = y.kind := by simp [elAt, hy]
  simp only [exS, h1, h2, h3, h4, Bool.true_and]
set_option maxRecDepth 100000 in
set_option maxHeartbeats 4000000 in
theorem rexists_any (v : Value) (L : LayD) (e s : Int) (w : World) (hv : RLay w v L) : Calls Tryd.prog 76 #[v, .agg #[.int .i64 e, .int .i64 s]] w (RetB w (exS L.els (e, s))) := by
  obtain ⟨v1, v2, v3, v4, v5, rfl, h1, h2, h3, h4, h5⟩ := hv
  clear h1 h3 h4 h5
  obtain ⟨a2, c2, rfl, ⟨m2, _⟩, HC⟩ := h2.openM
  clear h2
  obtain ⟨n, en⟩ : ∃ n, L.els.length = n := ⟨_, rfl⟩
  obtain ⟨nm, es⟩ : ∃ s, str L.name = s := ⟨_, rfl⟩
  have hbb : Below w.heap.size w w := Below.refl _ _
  by_cases t1 : e < 0
  · rw [exS_false (Or.inl t1), es, en]
    have t0 : decide (0 ≤ e) = false := by simp; omega
    clear t1 HC en es
    go_enter Tryd.func76, Tryd.ntmps76
    go_wp2
    go_quiet (fail)
    go_wp2
    go_ret
    exact ⟨rfl, bdrew ((hbb.alloc (Nat.le_refl _) _).alloc (by simp) _) _⟩
  by_cases t2 : (n : Int) ≤ e
  · rw [exS_false (Or.inr (Or.inl (by rw [en]; exact t2))), es, en]
    have t0 : (0 ≤ e) := by omega
    have t3 : decide (e < (n : Int)) = false := by simp; omega
    clear t1 t2 HC en es
    go_enter Tryd.func76, Tryd.ntmps76
    go_wp2
    go_quiet (fail)
    go_wp2
    go_ret
    exact ⟨rfl, bdrew ((hbb.alloc (Nat.le_refl _) _).alloc (by simp) _) _⟩
  by_cases t4 : s < 0
  · rw [exS_false (Or.inr (Or.inr t4)), es, en]
    have t0 : (0 ≤ e) := by omega
    have t3 : (e < (n : Int)) := by omega
    have t5 : decide (0 ≤ s) = false := by simp; omega
    clear t1 t2 HC en es t4
    go_enter Tryd.func76, Tryd.ntmps76
    go_wp2
    go_quiet (fail)
    go_wp2
    go_ret
    exact ⟨rfl, bdrew ((hbb.alloc (Nat.le_refl _) _).alloc (by simp) _) _⟩
  · obtain ⟨k, rfl⟩ : ∃ k : Nat, e = k := ⟨e.toNat, by omega⟩
    have hk : k < L.els.length := by omega
    obtain ⟨y, hy, _⟩ := at_take hk
    rw [exS_in hy t4, es, en]
    obtain ⟨b, off, rfl, hlt, hc⟩ := HC.out.rd hbb hy
    have cK := hc 1 _ rfl
    have t3 : ((k : Int) < (n : Int)) := by omega
    have t3n : k < n := by omega
    have t5 : (0 ≤ s) := by omega
    clear t1 t2 HC en es t4 hc hk hy
    have K := fun ww => rsides_any y.kind ww
    obtain ⟨q, hq⟩ : ∃ q, sidesS y.kind = q := ⟨_, rfl⟩
    rw [hq]
    simp only [hq] at K
    obtain ⟨kd, hkd⟩ : ∃ kd, y.kind = kd := ⟨_, rfl⟩
    simp only [hkd] at K cK
    clear hq hkd
    go_enter Tryd.func76, Tryd.ntmps76
    go_wp2
    go_quiet ((go_at_call 11; exact Calls.quiet_of_same ((K _).mono fun e w' h => ⟨h.1, h.2.symm⟩)))
    go_wp2
    go_ret
    exact ⟨rfl, bdrew ((hbb.alloc (Nat.le_refl _) _).alloc (by simp) _) _⟩
end Go.Proofs.YthoodaldmfojaaaDoor
