/- Contracts of the comparisons: of one list with itself. Conditions: two readings of one list. -/
import Derived.Test.YtblcigddinmiaaaDoorRlines5
namespace Go.Proofs.YtblcigddinmiaaaDoor
open Go.ChangeShapes Go.WideShapes Go.ChangeAt Go.RowKit
/-- True; only draws. -/
def RetT (w : World) (e : Ending) (w' : World) : Prop := e = .returned (.bool true) ∧ ∃ m, w' = w.drewN m
theorem RetT.below {w : World} {e : Ending} {w' : World} (h : RetT w e w') : e = .returned (.bool true) ∧ Below w.heap.size w w' := by
  obtain ⟨h1, m, rfl⟩ := h
  exact ⟨h1, bdrew (Below.refl _ _) m⟩
set_option maxHeartbeats 1000000 in
theorem sameLine_any (v u : Value) (l : List L8) (w : World) (hv : RS w v (strsV l)) (hu : RS w u (strsV l)) :
    Calls Tryd.prog 33 #[v, u] w (RetT w) := by
  obtain ⟨a, cap, rfl, ⟨hm, _⟩, HC⟩ := hv.openS
  obtain ⟨a2, cap2, rfl, _, HD⟩ := hu.openS
  clear hv hu
  go_enter Tryd.func33, Tryd.ntmps33
  go_wp2
  go_loopg [5] l.length (fun g s5 wx => ∃ k n : Nat, k + g = l.length ∧ s5 = .int .i64 k ∧ wx = w.drewN n)
  case atStart => exact ⟨0, 0, by omega, rfl, rfl⟩
  case round =>
    obtain ⟨k, n, hk, rfl, rfl⟩ := hrel
    cases gk with
    | zero =>
      have hz : ¬ ((k : Int) < (l.length : Int)) := by omega
      replace hk := Lib.hid hk
      go_wp2
      go_ret
      exact ⟨rfl, n, rfl⟩
    | succ g =>
      have hz : (k : Int) < (l.length : Int) := by omega
      obtain ⟨y, hy, _⟩ := at_take (l := l) (k := k) (by omega)
      obtain ⟨b1, o1, rfl, _, c1⟩ := HC.out.rd (Below.refl _ _) hy
      obtain ⟨b2, o2, rfl, _, c2⟩ := HD.out.rd (Below.refl _ _) hy
      replace hk := Lib.hid hk
      replace hy := Lib.hid hy
      go_wp2
      go_quiet (fail)
      go_wp2
      go_roundg g
      case measure => omega
      case rel => exact ⟨k + 1, n + nq, by have := hk.out; omega, by go_num, rfl⟩
set_option maxHeartbeats 1000000 in
theorem same_any (v u : Value) (l : List (List L8)) (w : World) (hv : LL w v l) (hu : LL w u l) :
    Calls Tryd.prog 14 #[v, u] w (RetT w) := by
  obtain ⟨a, cap, rfl, hm, HC⟩ := hv.open
  obtain ⟨a2, cap2, rfl, _, HD⟩ := hu.open
  clear hv hu
  go_enter Tryd.func14, Tryd.ntmps14
  go_wp2
  go_loopg [5] l.length (fun g s5 wx => ∃ k n : Nat, k + g = l.length ∧ s5 = .int .i64 k ∧ wx = w.drewN n)
  case atStart => exact ⟨0, 0, by omega, rfl, rfl⟩
  case round =>
    obtain ⟨k, n, hk, rfl, hw⟩ := hrel
    have hbw : Below w.heap.size w wr := by rw [hw]; exact bdrew (Below.refl _ _) n
    replace hw := Lib.hid hw
    cases gk with
    | zero =>
      have hz : ¬ ((k : Int) < (l.length : Int)) := by omega
      replace hk := Lib.hid hk
      go_wp2
      go_ret
      exact ⟨rfl, n, hw.out⟩
    | succ g =>
      have hz : (k : Int) < (l.length : Int) := by omega
      obtain ⟨y, hy, _⟩ := at_take (l := l) (k := k) (by omega)
      obtain ⟨b1, o1, x1, rfl, _, c1, r1⟩ := HC.out.rd hbw hy
      obtain ⟨b2, o2, x2, rfl, _, c2, r2⟩ := HD.out.rd hbw hy
      replace hk := Lib.hid hk
      replace hy := Lib.hid hy
      obtain ⟨e1, f1, rfl⟩ := r1.shape
      obtain ⟨e2, f2, rfl⟩ := r2.shape
      rw [strsV_length] at r1 r2 c1 c2
      have Q : ∀ nn, Calls Tryd.prog 33 #[.slice e1 y.length f1, .slice e2 y.length f2] (wr.drewN nn) fun e w'' => e = .returned (.bool true) ∧ ∃ m, w'' = wr.drewN m :=
        fun nn => (sameLine_any _ _ y (wr.drewN nn) r1 r2).mono fun e w' h => ⟨h.1, by
          obtain ⟨_, m, rfl⟩ := h
          exact ⟨nn + m, World.drewN_drewN _ _ _⟩⟩
      replace r1 := Lib.hid r1
      replace r2 := Lib.hid r2
      go_wp2
      go_quiet ((go_at_call 33; exact Q _))
      go_wp2
      go_roundg g
      case measure => omega
      case rel => exact ⟨k + 1, n + nq, by have := hk.out; omega, by go_num, by rw [hw.out, World.drewN_drewN]⟩
set_option maxHeartbeats 1000000 in
theorem sameInts_any (v u : Value) (l : List Int) (w : World) (hv : RS w v (intsV l)) (hu : RS w u (intsV l)) :
    Calls Tryd.prog 26 #[v, u] w (RetT w) := by
  obtain ⟨a, cap, rfl, hm, HC⟩ := hv.open
  obtain ⟨a2, cap2, rfl, _, HD⟩ := hu.open
  clear hv hu
  go_enter Tryd.func26, Tryd.ntmps26
  go_wp2
  go_loopg [5] l.length (fun g s5 wx => ∃ k n : Nat, k + g = l.length ∧ s5 = .int .i64 k ∧ wx = w.drewN n)
  case atStart => exact ⟨0, 0, by omega, rfl, rfl⟩
  case round =>
    obtain ⟨k, n, hk, rfl, rfl⟩ := hrel
    cases gk with
    | zero =>
      have hz : ¬ ((k : Int) < (l.length : Int)) := by omega
      replace hk := Lib.hid hk
      go_wp2
      go_ret
      exact ⟨rfl, n, rfl⟩
    | succ g =>
      have hz : (k : Int) < (l.length : Int) := by omega
      obtain ⟨y, hy, _⟩ := at_take (l := l) (k := k) (by omega)
      obtain ⟨b1, o1, rfl, _, c1⟩ := HC.out.rd (Below.refl _ _) hy
      obtain ⟨b2, o2, rfl, _, c2⟩ := HD.out.rd (Below.refl _ _) hy
      replace hk := Lib.hid hk
      replace hy := Lib.hid hy
      go_wp2
      go_quiet (fail)
      go_wp2
      go_roundg g
      case measure => omega
      case rel => exact ⟨k + 1, n + nq, by have := hk.out; omega, by go_num, rfl⟩
end Go.Proofs.YtblcigddinmiaaaDoor
