/- Contract of the law's bound on lines. Conditions: the lengths' bounds of the reach. -/
import Derived.Test.YtblcigddinmiaaaDoorSame5
namespace Go.Proofs.YtblcigddinmiaaaDoor
open Go.ChangeShapes Go.WideShapes Go.ChangeAt Go.RowKit
def OKL (l : List L8) : Prop := l.length ≤ 3000 ∧ ∀ s ∈ l, s.length ≤ 100
def SmallP (ll : List (List L8)) : Prop := ll.length ≤ 3000 ∧ ∀ l ∈ ll, OKL l
def RetQ (w : World) (Q : Prop) (e : Ending) (w' : World) : Prop := ∃ b : Bool, e = .returned (.bool b) ∧ w = w' ∧ (b = true → Q)
set_option maxRecDepth 100000 in
set_option maxHeartbeats 2000000 in
theorem small_any (v : Value) (ll : List (List L8)) (w : World) (hv : LL w v ll) (h1 : ll.length ≤ 140737488355328) (h2 : ∀ l ∈ ll, l.length ≤ 140737488355328 ∧ ∀ s ∈ l, s.length ≤ 9223372036854775807) :
    Calls Tryd.prog 15 #[v] w (RetQ w (SmallP ll)) := by
  obtain ⟨a, cap, rfl, hm, HC⟩ := hv.open
  clear hv
  go_enter Tryd.func15, Tryd.ntmps15
  go_wp2
  go_loopg [3, 4] ll.length (fun g s3 s4 wx => ∃ (i n : Nat), s3 = .int .i64 n ∧ s4 = .int .i64 i ∧ i + g = ll.length ∧ (ll.length ≤ n ∧ n ≤ 281474976710656) ∧ Hid (n ≤ 3000 → ∀ l ∈ ll.take i, OKL l) ∧ w = wx)
  case atStart => exact ⟨0, ll.length, rfl, rfl, by omega, by omega, Lib.hid (by simp), rfl⟩
  case round =>
    obtain ⟨i, n, rfl, rfl, hg, hn, HN, rfl⟩ := hrel
    cases gk with
    | zero =>
      have h : ¬ ((i : Int) < (ll.length : Int)) := by omega
      have HA := HN.out
      rw [List.take_of_length_le (by omega)] at HA
      replace HA := Lib.hid HA
      clear HN
      have hn' := hn
      replace hn := Lib.hid hn
      by_cases c : n ≤ 3000
      · have t : decide ((n : Int) ≤ 3000) = true := by simp; omega
        have c' := Lib.hid c
        clear c hn'
        go_wp2
        go_ret
        exact ⟨true, rfl, rfl, fun _ => ⟨by have := hn.out; have := c'.out; omega, HA.out c'.out⟩⟩
      · have t : decide ((n : Int) ≤ 3000) = false := by simp; omega
        clear c hn'
        go_wp2
        go_ret
        exact ⟨false, rfl, rfl, fun e => by cases e⟩
    | succ g =>
      have h : ((i : Int) < (ll.length : Int)) := by omega
      by_cases c : n ≤ 3000
      · have t : decide ((n : Int) ≤ 3000) = true := by simp; omega
        obtain ⟨y, hy, htk, hmem⟩ := at_take (l := ll) (k := i) (by omega)
        obtain ⟨b1, o1, x1, rfl, _, c1, r1⟩ := HC.out.rd (Below.refl _ _) hy
        obtain ⟨a2, f2, rfl, ⟨hm2, _⟩, HD⟩ := r1.openS
        clear r1
        obtain ⟨hyl, hys⟩ := h2 y hmem
        replace hys := Lib.hid hys
        replace hy := Lib.hid hy
        go_wp2
        go_loopg [5] y.length (fun g2 s5 wx => ∃ (k : Nat), s5 = .int .i64 k ∧ k + g2 = y.length ∧ Hid (∀ s ∈ y.take k, s.length ≤ 100) ∧ w = wx)
        case atStart => exact ⟨0, rfl, by omega, Lib.hid (by simp), rfl⟩
        case round =>
          obtain ⟨k, rfl, hg2, HM, rfl⟩ := hrel
          cases gk with
          | zero =>
            have hk : ¬ ((k : Int) < (y.length : Int)) := by omega
            have HA := HM.out
            rw [List.take_of_length_le (by omega)] at HA
            have N := Lib.hid (show n + y.length ≤ 3000 → ∀ l ∈ ll.take (i + 1), OKL l by
              intro hle l hl
              rw [htk] at hl
              rcases List.mem_append.1 hl with hl | hl
              · exact HN.out (by omega) l hl
              · simp at hl; subst hl
                exact ⟨by omega, HA⟩)
            clear HN HM HA htk
            go_wp2
            go_roundg g
            case measure => omega
            case rel => exact ⟨i + 1, n + y.length, by go_num, by go_num, by omega, by omega, N, rfl⟩
          | succ g2 =>
            have hk : ((k : Int) < (y.length : Int)) := by omega
            by_cases c2 : n + y.length ≤ 3000
            · have t2 : decide ((n : Int) + (y.length : Int) ≤ 3000) = true := by simp; omega
              obtain ⟨z, hz, htz, hmz⟩ := at_take (l := y) (k := k) (by omega)
              obtain ⟨b3, o3, rfl, _, c3⟩ := HD.out.rd (Below.refl _ _) hz
              have hzl := hys.out z hmz
              by_cases c4 : z.length ≤ 100
              · have t4 : decide ((100 : Int) < (z.length : Int)) = false := by simp; omega
                have N := Lib.hid (show ∀ s ∈ y.take (k + 1), s.length ≤ 100 by
                  intro s hs
                  rw [htz] at hs
                  rcases List.mem_append.1 hs with hs | hs
                  · exact HM.out s hs
                  · simp at hs; subst hs; exact c4)
                replace hz := Lib.hid hz
                clear HM htz
                go_wp2
                go_roundg g2
                case measure => omega
                case rel => exact ⟨k + 1, by go_num, by omega, N, rfl⟩
              · have t4 : decide ((100 : Int) < (z.length : Int)) = true := by simp; omega
                replace hz := Lib.hid hz
                clear HM htz
                go_wp2
                go_ret
                exact ⟨false, rfl, rfl, fun e => by cases e⟩
            · have t2 : decide ((n : Int) + (y.length : Int) ≤ 3000) = false := by simp; omega
              have N := Lib.hid (show n + y.length ≤ 3000 → ∀ l ∈ ll.take (i + 1), OKL l from fun e => absurd e c2)
              clear HM HN htk
              go_wp2
              go_roundg g
              case measure => omega
              case rel => exact ⟨i + 1, n + y.length, by go_num, by go_num, by omega, by omega, N, rfl⟩
      · have t : decide ((n : Int) ≤ 3000) = false := by simp; omega
        clear c
        go_wp2
        go_ret
        exact ⟨false, rfl, rfl, fun e => by cases e⟩
end Go.Proofs.YtblcigddinmiaaaDoor
