/- Contracts of the reference's ends, texts and numbers: whether something is in a list twice. Conditions: the list can be read. -/
import Derived.Test.YthoodaldmfojaaaDoorRmem7
import Derived.Test.YthoodaldmfojaaaDoorEq7
namespace Go.Proofs.YthoodaldmfojaaaDoor
open Go.ChangeShapes Go.WideShapes Go.ChangeAt Go.RowKit
theorem not_nodup {α : Type} {l : List α} {i k : Nat} {y : α} (hk : l[k]? = some y) (hi : l[i]? = some y) (h : k < i) : ¬ l.Nodup := by
  intro hn
  obtain ⟨h1, e1⟩ := List.getElem?_eq_some_iff.1 hk
  obtain ⟨h2, e2⟩ := List.getElem?_eq_some_iff.1 hi
  have := (List.getElem_inj hn).1 (e1.trans e2.symm)
  omega
theorem nodup_next {α : Type} {l : List α} {i : Nat} {y : α} (h : (l.take i).Nodup) (ht : l.take (i + 1) = l.take i ++ [y]) (hy : y ∉ l.take i) : (l.take (i + 1)).Nodup := by
  rw [ht, List.nodup_append]
  exact ⟨h, by simp, fun a ha b hb => by simp at hb; subst hb; rintro rfl; exact hy ha⟩
theorem notin_next {α : Type} {l : List α} {k : Nat} {y z : α} (h : y ∉ l.take k) (ht : l.take (k + 1) = l.take k ++ [z]) (hz : z ≠ y) : y ∉ l.take (k + 1) := by
  rw [ht]; simp [h]; exact fun e => hz e.symm
set_option maxRecDepth 100000 in
set_option maxHeartbeats 4000000 in
theorem rends_any (v : Value) (l : List EndD) (w : World) (hv : RM w v 2 (l.map enV)) : Calls Tryd.prog 77 #[v] w (RetB w (!decide l.Nodup)) := by
  obtain ⟨a, c, rfl, ⟨m, _⟩, HC⟩ := hv.openM
  clear hv
  have EE := eql_end
  obtain ⟨q, hq⟩ : ∃ q, (!decide l.Nodup) = q := ⟨_, rfl⟩
  rw [hq]
  replace hq := Lib.hid hq
  go_enter Tryd.func77, Tryd.ntmps77
  go_wp2
  go_loopg [7] l.length (fun g s7 wx => ∃ i : Nat, i + g = l.length ∧ s7 = .int .i64 i ∧ Hid ((l.take i).Nodup) ∧ Below w.heap.size w wx)
  case atStart => exact ⟨0, by omega, rfl, Lib.hid (by simp), Below.refl _ _⟩
  case round =>
    obtain ⟨i, hi, rfl, HN, hbw⟩ := hrel
    cases gk with
    | zero =>
      have hz : ¬ ((i : Int) < (l.length : Int)) := by omega
      obtain rfl : q = false := by rw [← hq.out]; have := HN.out; rw [List.take_of_length_le (by omega)] at this; simp [this]
      replace hi := Lib.hid hi
      go_wp2
      go_ret
      exact ⟨rfl, hbw⟩
    | succ g =>
      have hz : (i : Int) < (l.length : Int) := by omega
      obtain ⟨y, hy, hty, _⟩ := at_take (l := l) (k := i) (by omega)
      replace hi := Lib.hid hi
      replace hy := Lib.hid hy
      replace hty := Lib.hid hty
      go_wp2
      go_loopg [11] i (fun g s11 wx => ∃ k : Nat, k + g = i ∧ s11 = .int .i64 k ∧ Hid (y ∉ l.take k) ∧ Below w.heap.size w wx)
      case atStart => exact ⟨0, by omega, rfl, Lib.hid (by simp), hbw⟩
      case round =>
        obtain ⟨k, hk, rfl, HY, hbw2⟩ := hrel
        clear hbw
        cases gk with
        | zero =>
          have h2 : ¬ ((k : Int) < (i : Int)) := by omega
          obtain rfl : k = i := by omega
          clear hk
          go_wp2
          go_roundg g
          case measure => omega
          case rel => exact ⟨k + 1, by have := hi.out; omega, by go_num, Lib.hid (nodup_next HN.out hty.out HY.out), hbw2⟩
        | succ g2 =>
          have h2 : (k : Int) < (i : Int) := by omega
          have hkl : (k : Int) < (l.length : Int) := by have := hi.out; omega
          obtain ⟨z, hzz, htz, _⟩ := at_take (l := l) (k := k) (by have := hi.out; omega)
          obtain ⟨b1, o1, rfl, hl1, cy⟩ := HC.out.rd hbw2 hy.out
          have y0 := cy 0 _ rfl
          have y1 := cy 1 _ rfl
          simp only [Nat.add_zero] at y0 y1
          obtain ⟨b2, o2, e2, hl2, cz⟩ := HC.out.rd hbw2 hzz
          obtain ⟨rfl, rfl⟩ : b1 = b2 ∧ o1 = o2 := by simpa using e2
          have z0 := cz 0 _ rfl
          have z1 := cz 1 _ rfl
          simp only [Nat.add_zero] at z0 z1
          clear cy cz e2 hl2
          replace hk := Lib.hid hk
          replace hzz := Lib.hid hzz
          replace htz := Lib.hid htz
          cases t : (((y.1, y.2) : EndD) == (z.1, z.2))
          · have hne : z ≠ y := by
              rintro rfl
              simp at t
            have hne2 := Lib.hid hne
            clear hne
            go_wp2
            go_quiet (fail)
            go_wp2
            go_roundg g2
            case measure => omega
            case rel => exact ⟨k + 1, by have := hk.out; omega, by go_num, Lib.hid (notin_next HY.out htz.out hne2.out), bdrew hbw2 _⟩
          · obtain rfl : q = true := by
              have e : y = z := by simp at t; exact Prod.ext t.1 t.2
              subst e
              rw [← hq.out]; simp; exact not_nodup hzz.out hy.out (by omega)
            go_wp2
            go_quiet (fail)
            go_wp2
            go_ret
            exact ⟨rfl, bdrew hbw2 _⟩
set_option maxRecDepth 100000 in
set_option maxHeartbeats 4000000 in
theorem rtexts_any (v : Value) (l : List L8) (w : World) (hv : RS w v (strsV l)) : Calls Tryd.prog 73 #[v] w (RetB w (!decide l.Nodup)) := by
  obtain ⟨a, c, rfl, ⟨m, _⟩, HC⟩ := hv.openS
  clear hv
  obtain ⟨q, hq⟩ : ∃ q, (!decide l.Nodup) = q := ⟨_, rfl⟩
  rw [hq]
  replace hq := Lib.hid hq
  go_enter Tryd.func73, Tryd.ntmps73
  go_wp2
  go_loopg [7] l.length (fun g s7 wx => ∃ i : Nat, i + g = l.length ∧ s7 = .int .i64 i ∧ Hid ((l.take i).Nodup) ∧ Below w.heap.size w wx)
  case atStart => exact ⟨0, by omega, rfl, Lib.hid (by simp), Below.refl _ _⟩
  case round =>
    obtain ⟨i, hi, rfl, HN, hbw⟩ := hrel
    cases gk with
    | zero =>
      have hz : ¬ ((i : Int) < (l.length : Int)) := by omega
      obtain rfl : q = false := by rw [← hq.out]; have := HN.out; rw [List.take_of_length_le (by omega)] at this; simp [this]
      replace hi := Lib.hid hi
      go_wp2
      go_ret
      exact ⟨rfl, hbw⟩
    | succ g =>
      have hz : (i : Int) < (l.length : Int) := by omega
      obtain ⟨y, hy, hty, _⟩ := at_take (l := l) (k := i) (by omega)
      replace hi := Lib.hid hi
      replace hy := Lib.hid hy
      replace hty := Lib.hid hty
      go_wp2
      go_loopg [11] i (fun g s11 wx => ∃ k : Nat, k + g = i ∧ s11 = .int .i64 k ∧ Hid (y ∉ l.take k) ∧ Below w.heap.size w wx)
      case atStart => exact ⟨0, by omega, rfl, Lib.hid (by simp), hbw⟩
      case round =>
        obtain ⟨k, hk, rfl, HY, hbw2⟩ := hrel
        clear hbw
        cases gk with
        | zero =>
          have h2 : ¬ ((k : Int) < (i : Int)) := by omega
          obtain rfl : k = i := by omega
          clear hk
          go_wp2
          go_roundg g
          case measure => omega
          case rel => exact ⟨k + 1, by have := hi.out; omega, by go_num, Lib.hid (nodup_next HN.out hty.out HY.out), hbw2⟩
        | succ g2 =>
          have h2 : (k : Int) < (i : Int) := by omega
          have hkl : (k : Int) < (l.length : Int) := by have := hi.out; omega
          obtain ⟨z, hzz, htz, _⟩ := at_take (l := l) (k := k) (by have := hi.out; omega)
          obtain ⟨b1, o1, rfl, hl1, y0⟩ := HC.out.rd hbw2 hy.out
          obtain ⟨b2, o2, e2, hl2, z0⟩ := HC.out.rd hbw2 hzz
          obtain ⟨rfl, rfl⟩ : b1 = b2 ∧ o1 = o2 := by simpa using e2
          clear e2 hl2
          replace hk := Lib.hid hk
          replace hzz := Lib.hid hzz
          replace htz := Lib.hid htz
          cases t : (y == z)
          · have hne : z ≠ y := by
              rintro rfl
              simp at t
            have hne2 := Lib.hid hne
            clear hne
            go_wp2
            go_quiet (fail)
            go_wp2
            go_roundg g2
            case measure => omega
            case rel => exact ⟨k + 1, by have := hk.out; omega, by go_num, Lib.hid (notin_next HY.out htz.out hne2.out), bdrew hbw2 _⟩
          · obtain rfl : q = true := by
              have e : y = z := by simpa using t
              subst e
              rw [← hq.out]; simp; exact not_nodup hzz.out hy.out (by omega)
            go_wp2
            go_quiet (fail)
            go_wp2
            go_ret
            exact ⟨rfl, bdrew hbw2 _⟩
set_option maxRecDepth 100000 in
set_option maxHeartbeats 4000000 in
theorem rnumbers_any (v : Value) (l : List Int) (w : World) (hv : RS w v (intsV l)) : Calls Tryd.prog 79 #[v] w (RetB w (!decide l.Nodup)) := by
  obtain ⟨a, c, rfl, m, HC⟩ := hv.open
  clear hv
  obtain ⟨q, hq⟩ : ∃ q, (!decide l.Nodup) = q := ⟨_, rfl⟩
  rw [hq]
  replace hq := Lib.hid hq
  go_enter Tryd.func79, Tryd.ntmps79
  go_wp2
  go_loopg [7] l.length (fun g s7 wx => ∃ i : Nat, i + g = l.length ∧ s7 = .int .i64 i ∧ Hid ((l.take i).Nodup) ∧ Below w.heap.size w wx)
  case atStart => exact ⟨0, by omega, rfl, Lib.hid (by simp), Below.refl _ _⟩
  case round =>
    obtain ⟨i, hi, rfl, HN, hbw⟩ := hrel
    cases gk with
    | zero =>
      have hz : ¬ ((i : Int) < (l.length : Int)) := by omega
      obtain rfl : q = false := by rw [← hq.out]; have := HN.out; rw [List.take_of_length_le (by omega)] at this; simp [this]
      replace hi := Lib.hid hi
      go_wp2
      go_ret
      exact ⟨rfl, hbw⟩
    | succ g =>
      have hz : (i : Int) < (l.length : Int) := by omega
      obtain ⟨y, hy, hty, _⟩ := at_take (l := l) (k := i) (by omega)
      replace hi := Lib.hid hi
      replace hy := Lib.hid hy
      replace hty := Lib.hid hty
      go_wp2
      go_loopg [11] i (fun g s11 wx => ∃ k : Nat, k + g = i ∧ s11 = .int .i64 k ∧ Hid (y ∉ l.take k) ∧ Below w.heap.size w wx)
      case atStart => exact ⟨0, by omega, rfl, Lib.hid (by simp), hbw⟩
      case round =>
        obtain ⟨k, hk, rfl, HY, hbw2⟩ := hrel
        clear hbw
        cases gk with
        | zero =>
          have h2 : ¬ ((k : Int) < (i : Int)) := by omega
          obtain rfl : k = i := by omega
          clear hk
          go_wp2
          go_roundg g
          case measure => omega
          case rel => exact ⟨k + 1, by have := hi.out; omega, by go_num, Lib.hid (nodup_next HN.out hty.out HY.out), hbw2⟩
        | succ g2 =>
          have h2 : (k : Int) < (i : Int) := by omega
          have hkl : (k : Int) < (l.length : Int) := by have := hi.out; omega
          obtain ⟨z, hzz, htz, _⟩ := at_take (l := l) (k := k) (by have := hi.out; omega)
          obtain ⟨b1, o1, rfl, hl1, y0⟩ := HC.out.rd hbw2 hy.out
          obtain ⟨b2, o2, e2, hl2, z0⟩ := HC.out.rd hbw2 hzz
          obtain ⟨rfl, rfl⟩ : b1 = b2 ∧ o1 = o2 := by simpa using e2
          clear e2 hl2
          replace hk := Lib.hid hk
          replace hzz := Lib.hid hzz
          replace htz := Lib.hid htz
          cases t : (y == z)
          · have hne : z ≠ y := by
              rintro rfl
              simp at t
            have hne2 := Lib.hid hne
            clear hne
            go_wp2
            go_quiet (fail)
            go_wp2
            go_roundg g2
            case measure => omega
            case rel => exact ⟨k + 1, by have := hk.out; omega, by go_num, Lib.hid (notin_next HY.out htz.out hne2.out), bdrew hbw2 _⟩
          · obtain rfl : q = true := by
              have e : y = z := by simpa using t
              subst e
              rw [← hq.out]; simp; exact not_nodup hzz.out hy.out (by omega)
            go_wp2
            go_quiet (fail)
            go_wp2
            go_ret
            exact ⟨rfl, bdrew hbw2 _⟩
end Go.Proofs.YthoodaldmfojaaaDoor
