/- Contract of the reference's right. Conditions: the layout's sections can be read. -/
import Derived.Test.YthoodaldmfojaaaDoorFew7
namespace Go.Proofs.YthoodaldmfojaaaDoor
open Go.ChangeShapes Go.WideShapes Go.ChangeAt Go.RowKit
theorem rightS_bad {n : Nat} {x : ElD} (h : x.kind < 1 ∨ 3 < x.kind ∨ x.length < 500 ∨ 1000000 < x.length ∨ x.grade < -50 ∨ 50 < x.grade ∨ x.speed < 100 ∨ 10000 < x.speed ∨ x.sec < 0 ∨ (n : Int) ≤ x.sec) : rightS n x = false := by
  unfold rightS
  rw [decide_eq_false (by omega)]; rfl
theorem rightS_ok {n : Nat} {x : ElD} (h : ¬ (x.kind < 1 ∨ 3 < x.kind ∨ x.length < 500 ∨ 1000000 < x.length ∨ x.grade < -50 ∨ 50 < x.grade ∨ x.speed < 100 ∨ 10000 < x.speed ∨ x.sec < 0 ∨ (n : Int) ≤ x.sec)) : rightS n x = slowS x := by
  unfold rightS
  rw [decide_eq_true (by omega)]; rfl
theorem two_below (w : World) (o1 o2 : Obj) : Below w.heap.size w ((w.alloc o1).alloc o2) := ((Below.refl _ _).alloc (Nat.le_refl _) _).alloc (by simp) _
def elA (x : ElD) : Value := .agg #[str x.name, .int .i64 x.kind, .int .i64 x.length, .int .i64 x.grade, .int .i64 x.speed, .int .i64 x.slow, .int .i64 x.sec]
set_option maxRecDepth 100000 in
set_option maxHeartbeats 8000000 in
theorem rright_any (v : Value) (L : LayD) (x : ElD) (w : World) (hv : RLay w v L) : Calls Tryd.prog 74 #[v, elA x] w (RetB w (rightS L.secs.length x)) := by
  obtain ⟨v1, v2, v3, v4, v5, rfl, h1, h2, h3, h4, h5⟩ := hv
  clear h2 h3 h4 h5
  obtain ⟨a1, c1, rfl, ⟨m1, _⟩, _⟩ := h1.openS
  clear h1
  obtain ⟨n, en⟩ : ∃ n, L.secs.length = n := ⟨_, rfl⟩
  obtain ⟨lm, es⟩ : ∃ s, str L.name = s := ⟨_, rfl⟩
  rw [en, es]
  clear en es m1
  obtain ⟨xn, kd, ln, gr, sp, sl, sc⟩ := x
  unfold elA
  simp only
  obtain ⟨xm, ex⟩ : ∃ s, str xn = s := ⟨_, rfl⟩
  rw [ex]
  clear ex
  obtain ⟨x, hx⟩ : ∃ x : ElD, x = ⟨xn, kd, ln, gr, sp, sl, sc⟩ := ⟨_, rfl⟩
  rw [← hx]
  by_cases c0 : kd < 1
  · have e : rightS n x = false := by rw [hx]; exact rightS_bad (by simp only; omega)
    rw [e]
    have u0 : decide (kd < 1) = true := by simp; omega
    clear c0 e
    go_enter Tryd.func74, Tryd.ntmps74
    go_wp2
    go_ret
    exact ⟨rfl, two_below w _ _⟩
  by_cases c1 : 3 < kd
  · have e : rightS n x = false := by rw [hx]; exact rightS_bad (by simp only; omega)
    rw [e]
    have u0 : decide (kd < 1) = false := by simp; omega
    have u1 : decide (3 < kd) = true := by simp; omega
    clear c0 c1 e
    go_enter Tryd.func74, Tryd.ntmps74
    go_wp2
    go_ret
    exact ⟨rfl, two_below w _ _⟩
  by_cases c2 : ln < 500
  · have e : rightS n x = false := by rw [hx]; exact rightS_bad (by simp only; omega)
    rw [e]
    have u0 : decide (kd < 1) = false := by simp; omega
    have u1 : decide (3 < kd) = false := by simp; omega
    have u2 : decide (ln < 500) = true := by simp; omega
    clear c0 c1 c2 e
    go_enter Tryd.func74, Tryd.ntmps74
    go_wp2
    go_ret
    exact ⟨rfl, two_below w _ _⟩
  by_cases c3 : 1000000 < ln
  · have e : rightS n x = false := by rw [hx]; exact rightS_bad (by simp only; omega)
    rw [e]
    have u0 : decide (kd < 1) = false := by simp; omega
    have u1 : decide (3 < kd) = false := by simp; omega
    have u2 : decide (ln < 500) = false := by simp; omega
    have u3 : decide (1000000 < ln) = true := by simp; omega
    clear c0 c1 c2 c3 e
    go_enter Tryd.func74, Tryd.ntmps74
    go_wp2
    go_ret
    exact ⟨rfl, two_below w _ _⟩
  by_cases c4 : gr < -50
  · have e : rightS n x = false := by rw [hx]; exact rightS_bad (by simp only; omega)
    rw [e]
    have u0 : decide (kd < 1) = false := by simp; omega
    have u1 : decide (3 < kd) = false := by simp; omega
    have u2 : decide (ln < 500) = false := by simp; omega
    have u3 : decide (1000000 < ln) = false := by simp; omega
    have u4 : decide (gr < -50) = true := by simp; omega
    clear c0 c1 c2 c3 c4 e
    go_enter Tryd.func74, Tryd.ntmps74
    go_wp2
    go_ret
    exact ⟨rfl, two_below w _ _⟩
  by_cases c5 : 50 < gr
  · have e : rightS n x = false := by rw [hx]; exact rightS_bad (by simp only; omega)
    rw [e]
    have u0 : decide (kd < 1) = false := by simp; omega
    have u1 : decide (3 < kd) = false := by simp; omega
    have u2 : decide (ln < 500) = false := by simp; omega
    have u3 : decide (1000000 < ln) = false := by simp; omega
    have u4 : decide (gr < -50) = false := by simp; omega
    have u5 : decide (50 < gr) = true := by simp; omega
    clear c0 c1 c2 c3 c4 c5 e
    go_enter Tryd.func74, Tryd.ntmps74
    go_wp2
    go_ret
    exact ⟨rfl, two_below w _ _⟩
  by_cases c6 : sp < 100
  · have e : rightS n x = false := by rw [hx]; exact rightS_bad (by simp only; omega)
    rw [e]
    have u0 : decide (kd < 1) = false := by simp; omega
    have u1 : decide (3 < kd) = false := by simp; omega
    have u2 : decide (ln < 500) = false := by simp; omega
    have u3 : decide (1000000 < ln) = false := by simp; omega
    have u4 : decide (gr < -50) = false := by simp; omega
    have u5 : decide (50 < gr) = false := by simp; omega
    have u6 : decide (sp < 100) = true := by simp; omega
    clear c0 c1 c2 c3 c4 c5 c6 e
    go_enter Tryd.func74, Tryd.ntmps74
    go_wp2
    go_ret
    exact ⟨rfl, two_below w _ _⟩
  by_cases c7 : 10000 < sp
  · have e : rightS n x = false := by rw [hx]; exact rightS_bad (by simp only; omega)
    rw [e]
    have u0 : decide (kd < 1) = false := by simp; omega
    have u1 : decide (3 < kd) = false := by simp; omega
    have u2 : decide (ln < 500) = false := by simp; omega
    have u3 : decide (1000000 < ln) = false := by simp; omega
    have u4 : decide (gr < -50) = false := by simp; omega
    have u5 : decide (50 < gr) = false := by simp; omega
    have u6 : decide (sp < 100) = false := by simp; omega
    have u7 : decide (10000 < sp) = true := by simp; omega
    clear c0 c1 c2 c3 c4 c5 c6 c7 e
    go_enter Tryd.func74, Tryd.ntmps74
    go_wp2
    go_ret
    exact ⟨rfl, two_below w _ _⟩
  by_cases c8 : sc < 0
  · have e : rightS n x = false := by rw [hx]; exact rightS_bad (by simp only; omega)
    rw [e]
    have u0 : decide (kd < 1) = false := by simp; omega
    have u1 : decide (3 < kd) = false := by simp; omega
    have u2 : decide (ln < 500) = false := by simp; omega
    have u3 : decide (1000000 < ln) = false := by simp; omega
    have u4 : decide (gr < -50) = false := by simp; omega
    have u5 : decide (50 < gr) = false := by simp; omega
    have u6 : decide (sp < 100) = false := by simp; omega
    have u7 : decide (10000 < sp) = false := by simp; omega
    have u8 : decide (sc < 0) = true := by simp; omega
    clear c0 c1 c2 c3 c4 c5 c6 c7 c8 e
    go_enter Tryd.func74, Tryd.ntmps74
    go_wp2
    go_ret
    exact ⟨rfl, two_below w _ _⟩
  by_cases c9 : (n : Int) ≤ sc
  · have e : rightS n x = false := by rw [hx]; exact rightS_bad (by simp only; omega)
    rw [e]
    have u0 : decide (kd < 1) = false := by simp; omega
    have u1 : decide (3 < kd) = false := by simp; omega
    have u2 : decide (ln < 500) = false := by simp; omega
    have u3 : decide (1000000 < ln) = false := by simp; omega
    have u4 : decide (gr < -50) = false := by simp; omega
    have u5 : decide (50 < gr) = false := by simp; omega
    have u6 : decide (sp < 100) = false := by simp; omega
    have u7 : decide (10000 < sp) = false := by simp; omega
    have u8 : decide (sc < 0) = false := by simp; omega
    have u9 : decide ((n : Int) ≤ sc) = true := by simp; omega
    clear c0 c1 c2 c3 c4 c5 c6 c7 c8 c9 e
    go_enter Tryd.func74, Tryd.ntmps74
    go_wp2
    go_ret
    exact ⟨rfl, two_below w _ _⟩
  have e : rightS n x = slowS x := by rw [hx]; exact rightS_ok (by simp only; omega)
  rw [e]
  have u0 : decide (kd < 1) = false := by simp; omega
  have u1 : decide (3 < kd) = false := by simp; omega
  have u2 : decide (ln < 500) = false := by simp; omega
  have u3 : decide (1000000 < ln) = false := by simp; omega
  have u4 : decide (gr < -50) = false := by simp; omega
  have u5 : decide (50 < gr) = false := by simp; omega
  have u6 : decide (sp < 100) = false := by simp; omega
  have u7 : decide (10000 < sp) = false := by simp; omega
  have u8 : decide (sc < 0) = false := by simp; omega
  have u9 : decide ((n : Int) ≤ sc) = false := by simp; omega
  clear e c0 c1 c2 c3 c4 c5 c6 c7 c8 c9
  have es : slowS x = if kd = 2 then decide (100 ≤ sl) && decide (sl ≤ sp) else sl == 0 := by rw [hx]; rfl
  rw [es]
  clear es
  by_cases k2 : kd = 2
  · rw [if_pos k2]
    have b2 : (kd == 2) = true := by simpa using k2
    clear k2
    cases b3 : decide (100 ≤ sl)
    · go_enter Tryd.func74, Tryd.ntmps74
      go_wp2
      go_ret
      exact ⟨rfl, two_below w _ _⟩
    · go_enter Tryd.func74, Tryd.ntmps74
      go_wp2
      go_ret
      exact ⟨by simp, two_below w _ _⟩
  · rw [if_neg k2]
    have b2 : (kd == 2) = false := by simpa using k2
    clear k2
    go_enter Tryd.func74, Tryd.ntmps74
    go_wp2
    go_ret
    exact ⟨rfl, two_below w _ _⟩
end Go.Proofs.YthoodaldmfojaaaDoor
