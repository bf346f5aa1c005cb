/- Contracts of Few and of the reference's Sides. Conditions: the layout can be read. -/
import Derived.Test.YthoodaldmfojaaaDoorKit7
namespace Go.Proofs.YthoodaldmfojaaaDoor
open Go.ChangeShapes Go.WideShapes Go.ChangeAt Go.RowKit
theorem rsides_any (k : Int) (w : World) : Calls Tryd.prog 11 #[.int .i64 k] w fun e w' => e = .returned (.int .i64 (sidesS k)) ∧ w = w' := by
  have hk : k = 1 ∨ k = 2 ∨ k = 3 ∨ (k ≠ 1 ∧ k ≠ 2 ∧ k ≠ 3) := by omega
  rcases hk with rfl | rfl | rfl | ⟨h1, h2, h3⟩
  · go_enter Tryd.func11, Tryd.ntmps11
    go_wp2
    go_ret
    exact ⟨rfl, rfl⟩
  · go_enter Tryd.func11, Tryd.ntmps11
    go_wp2
    go_ret
    exact ⟨rfl, rfl⟩
  · go_enter Tryd.func11, Tryd.ntmps11
    go_wp2
    go_ret
    exact ⟨rfl, rfl⟩
  have e : sidesS k = 0 := by unfold sidesS; rw [if_neg h1, if_neg h2, if_neg h3]
  rw [e]
  have b1 : (k == 1) = false := by simpa using h1
  have b2 : (k == 2) = false := by simpa using h2
  have b3 : (k == 3) = false := by simpa using h3
  go_enter Tryd.func11, Tryd.ntmps11
  go_wp2
  go_ret
  exact ⟨rfl, rfl⟩
def fewB (L : LayD) : Bool := decide (L.secs.length ≤ 60) && (decide (L.els.length ≤ 60) && (decide (L.joints.length ≤ 100) && (decide (L.sigs.length ≤ 60) && decide (L.bals.length ≤ 60))))
set_option maxHeartbeats 2000000 in
theorem few_any (v : Value) (L : LayD) (w : World) (hv : RLay w v L) : Calls Tryd.prog 7 #[v] w (RetB w (fewB L)) := by
  obtain ⟨v1, v2, v3, v4, v5, rfl, h1, h2, h3, h4, h5⟩ := hv
  obtain ⟨a1, c1, rfl, m1, _⟩ := h1.openS
  obtain ⟨a2, c2, rfl, m2, _⟩ := h2.openM
  obtain ⟨a3, c3, rfl, m3, _⟩ := h3.openM
  obtain ⟨a4, c4, rfl, m4, _⟩ := h4.openM
  obtain ⟨a5, c5, rfl, m5, _⟩ := h5.openM
  clear h1 h2 h3 h4 h5
  unfold fewB
  obtain ⟨n1, e1⟩ : ∃ n, L.secs.length = n := ⟨_, rfl⟩
  obtain ⟨n2, e2⟩ : ∃ n, L.els.length = n := ⟨_, rfl⟩
  obtain ⟨n3, e3⟩ : ∃ n, L.joints.length = n := ⟨_, rfl⟩
  obtain ⟨n4, e4⟩ : ∃ n, L.sigs.length = n := ⟨_, rfl⟩
  obtain ⟨n5, e5⟩ : ∃ n, L.bals.length = n := ⟨_, rfl⟩
  obtain ⟨s, es⟩ : ∃ s, str L.name = s := ⟨_, rfl⟩
  rw [e1, e2, e3, e4, e5, es]
  clear e1 e2 e3 e4 e5 es m1 m2 m3 m4 m5
  by_cases t1 : n1 ≤ 60
  · have u1 : decide ((n1 : Int) ≤ 60) = true := by simp; omega
    by_cases t2 : n2 ≤ 60
    · have u2 : decide ((n2 : Int) ≤ 60) = true := by simp; omega
      by_cases t3 : n3 ≤ 100
      · have u3 : decide ((n3 : Int) ≤ 100) = true := by simp; omega
        by_cases t4 : n4 ≤ 60
        · have u4 : decide ((n4 : Int) ≤ 60) = true := by simp; omega
          have u5 : decide (n5 ≤ 60) = decide ((n5 : Int) ≤ 60) := by by_cases t : n5 ≤ 60 <;> simp [t] <;> omega
          rw [decide_eq_true t1, decide_eq_true t2, decide_eq_true t3, decide_eq_true t4, u5]
          clear t1 t2 t3 t4 u5
          go_enter Tryd.func7, Tryd.ntmps7
          go_wp2
          go_ret
          exact ⟨rfl, (Below.refl _ _).alloc (Nat.le_refl _) _⟩
        · have u4 : decide ((n4 : Int) ≤ 60) = false := by simp; omega
          rw [decide_eq_true t1, decide_eq_true t2, decide_eq_true t3, decide_eq_false t4]
          clear t1 t2 t3 t4
          go_enter Tryd.func7, Tryd.ntmps7
          go_wp2
          go_ret
          exact ⟨rfl, (Below.refl _ _).alloc (Nat.le_refl _) _⟩
      · have u3 : decide ((n3 : Int) ≤ 100) = false := by simp; omega
        rw [decide_eq_true t1, decide_eq_true t2, decide_eq_false t3]
        clear t1 t2 t3
        go_enter Tryd.func7, Tryd.ntmps7
        go_wp2
        go_ret
        exact ⟨rfl, (Below.refl _ _).alloc (Nat.le_refl _) _⟩
    · have u2 : decide ((n2 : Int) ≤ 60) = false := by simp; omega
      rw [decide_eq_true t1, decide_eq_false t2]
      clear t1 t2
      go_enter Tryd.func7, Tryd.ntmps7
      go_wp2
      go_ret
      exact ⟨rfl, (Below.refl _ _).alloc (Nat.le_refl _) _⟩
  · have u1 : decide ((n1 : Int) ≤ 60) = false := by simp; omega
    rw [decide_eq_false t1]
    clear t1
    go_enter Tryd.func7, Tryd.ntmps7
    go_wp2
    go_ret
    exact ⟨rfl, (Below.refl _ _).alloc (Nat.le_refl _) _⟩
end Go.Proofs.YthoodaldmfojaaaDoor
