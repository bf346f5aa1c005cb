/- Contracts of rail.Need and rail.Out. Condition: what the program reads (GW). -/
import Derived.Test.YtdnadlpkeinnfaaDoorGlob6
namespace Go.Proofs.YtdnadlpkeinnfaaDoor
open Go.ChangeShapes Go.WideShapes Go.ChangeAt Go.RowKit
theorem need_hit {k i o a b c d : Int} {rs : List Row4} (h1 : (a == k) = true) (h2 : (b == i) = true) (h3 : (c == o) = true) : needF k i o ((a, b, c, d) :: rs) = (d, true) := by
  simp at h1 h2 h3
  rw [needF, if_pos ⟨h1, h2, h3⟩]
theorem need_miss {k i o a b c d : Int} {rs : List Row4} (h : (a == k) = false ∨ (b == i) = false ∨ (c == o) = false) : needF k i o ((a, b, c, d) :: rs) = needF k i o rs := by
  rw [needF, if_neg]
  rintro ⟨rfl, rfl, rfl⟩
  simp at h
theorem out_hit {k i p a b c d : Int} {rs : List Row4} (h1 : (a == k) = true) (h2 : (b == i) = true) (h3 : (d == 0) = true ∨ (d == p) = true) : outF k i p ((a, b, c, d) :: rs) = (c, true) := by
  simp at h1 h2 h3
  rw [outF, if_pos ⟨h1, h2, h3⟩]
theorem out_miss {k i p a b c d : Int} {rs : List Row4} (h : (a == k) = false ∨ (b == i) = false ∨ ((d == 0) = false ∧ (d == p) = false)) : outF k i p ((a, b, c, d) :: rs) = outF k i p rs := by
  rw [outF, if_neg]
  rintro ⟨rfl, rfl, h3⟩
  simp at h
  exact h3.elim h.1 h.2
theorem drop10 : tab.drop 10 = [] := rfl
theorem alloc_below {B : Nat} {a w : World} (h : Below B a w) (hs : B ≤ a.heap.size) (o : Obj) : Below B a (w.alloc o) := h.alloc (Nat.le_trans hs h.size) o
set_option maxRecDepth 100000 in
set_option maxHeartbeats 4000000 in
theorem need_any (k i o : Int) (w : World) (hG : GW w) : Calls Tryd.prog 18 #[.int .i64 k, .int .i64 i, .int .i64 o] w (RetP w (needF k i o tab)) := by
  obtain ⟨_, t, fr, hg⟩ := hG
  obtain ⟨⟨r, b⟩, hr⟩ : ∃ q, needF k i o tab = q := ⟨_, rfl⟩
  rw [hr]
  replace hr := Lib.hid hr
  go_enter Tryd.func18, Tryd.ntmps18
  go_wp2_with (refine wpList_load_row rfl 35 _ rfl 1 rfl t passC fr _ hg Tryd.underlying35 rfl info_pass ?_)
  clear hg
  go_loopg [11] 10 (fun g s11 wx => ∃ n : Nat, n + g = 10 ∧ s11 = .int .i64 n ∧ Hid (needF k i o (tab.drop n) = (r, b)) ∧ Below w.heap.size w wx)
  case atStart => exact ⟨0, rfl, rfl, hr, Below.refl _ _⟩
  case round =>
    obtain ⟨n, hn, rfl, E, hbw⟩ := hrel
    clear hr
    cases gk with
    | zero =>
      obtain rfl : n = 10 := by omega
      have E' := E.out
      rw [drop10] at E'
      obtain ⟨rfl, rfl⟩ := Prod.mk.inj E'
      clear E E' hn
      go_wp2
      go_ret2
      exact ⟨rfl, hbw⟩
    | succ g =>
      have hz : (n : Int) < 10 := by omega
      obtain ⟨x1, x2, x3, x4, hd, hix⟩ := pass_at n (by omega)
      have E' := E.out
      rw [hd] at E'
      clear E hd
      replace hn := Lib.hid hn
      cases m1 : (x1 == k)
      · rw [need_miss (Or.inl m1)] at E'
        replace E' := Lib.hid E'
        go_wp2
        go_roundg g
        case measure => omega
        case rel => exact ⟨n + 1, by have := hn.out; omega, by go_num, E', alloc_below hbw (Nat.le_refl _) _⟩
      · cases m2 : (x2 == i)
        · rw [need_miss (Or.inr (Or.inl m2))] at E'
          replace E' := Lib.hid E'
          go_wp2
          go_roundg g
          case measure => omega
          case rel => exact ⟨n + 1, by have := hn.out; omega, by go_num, E', alloc_below hbw (Nat.le_refl _) _⟩
        · cases m3 : (x3 == o)
          · rw [need_miss (Or.inr (Or.inr m3))] at E'
            replace E' := Lib.hid E'
            go_wp2
            go_roundg g
            case measure => omega
            case rel => exact ⟨n + 1, by have := hn.out; omega, by go_num, E', alloc_below hbw (Nat.le_refl _) _⟩
          · rw [need_hit m1 m2 m3] at E'
            obtain ⟨rfl, rfl⟩ := Prod.mk.inj E'
            clear E'
            go_wp2
            go_ret2
            exact ⟨rfl, alloc_below hbw (Nat.le_refl _) _⟩
set_option maxRecDepth 100000 in
set_option maxHeartbeats 4000000 in
theorem out_any (k i p : Int) (w : World) (hG : GW w) : Calls Tryd.prog 16 #[.int .i64 k, .int .i64 i, .int .i64 p] w (RetP w (outF k i p tab)) := by
  obtain ⟨_, t, fr, hg⟩ := hG
  obtain ⟨⟨r, b⟩, hr⟩ : ∃ q, outF k i p tab = q := ⟨_, rfl⟩
  rw [hr]
  replace hr := Lib.hid hr
  go_enter Tryd.func16, Tryd.ntmps16
  go_wp2_with (refine wpList_load_row rfl 35 _ rfl 1 rfl t passC fr _ hg Tryd.underlying35 rfl info_pass ?_)
  clear hg
  go_loopg [11] 10 (fun g s11 wx => ∃ n : Nat, n + g = 10 ∧ s11 = .int .i64 n ∧ Hid (outF k i p (tab.drop n) = (r, b)) ∧ Below w.heap.size w wx)
  case atStart => exact ⟨0, rfl, rfl, hr, Below.refl _ _⟩
  case round =>
    obtain ⟨n, hn, rfl, E, hbw⟩ := hrel
    clear hr
    cases gk with
    | zero =>
      obtain rfl : n = 10 := by omega
      have E' := E.out
      rw [drop10] at E'
      obtain ⟨rfl, rfl⟩ := Prod.mk.inj E'
      clear E E' hn
      go_wp2
      go_ret2
      exact ⟨rfl, hbw⟩
    | succ g =>
      have hz : (n : Int) < 10 := by omega
      obtain ⟨x1, x2, x3, x4, hd, hix⟩ := pass_at n (by omega)
      have E' := E.out
      rw [hd] at E'
      clear E hd
      replace hn := Lib.hid hn
      cases m1 : (x1 == k)
      · rw [out_miss (Or.inl m1)] at E'
        replace E' := Lib.hid E'
        go_wp2
        go_roundg g
        case measure => omega
        case rel => exact ⟨n + 1, by have := hn.out; omega, by go_num, E', alloc_below hbw (Nat.le_refl _) _⟩
      · cases m2 : (x2 == i)
        · rw [out_miss (Or.inr (Or.inl m2))] at E'
          replace E' := Lib.hid E'
          go_wp2
          go_roundg g
          case measure => omega
          case rel => exact ⟨n + 1, by have := hn.out; omega, by go_num, E', alloc_below hbw (Nat.le_refl _) _⟩
        · cases m3 : (x4 == 0)
          · cases m4 : (x4 == p)
            · rw [out_miss (Or.inr (Or.inr ⟨m3, m4⟩))] at E'
              replace E' := Lib.hid E'
              go_wp2
              go_roundg g
              case measure => omega
              case rel => exact ⟨n + 1, by have := hn.out; omega, by go_num, E', alloc_below hbw (Nat.le_refl _) _⟩
            · rw [out_hit m1 m2 (Or.inr m4)] at E'
              obtain ⟨rfl, rfl⟩ := Prod.mk.inj E'
              clear E'
              go_wp2
              go_ret2
              exact ⟨rfl, alloc_below hbw (Nat.le_refl _) _⟩
          · rw [out_hit m1 m2 (Or.inl m3)] at E'
            obtain ⟨rfl, rfl⟩ := Prod.mk.inj E'
            clear E'
            go_wp2
            go_ret2
            exact ⟨rfl, alloc_below hbw (Nat.le_refl _) _⟩
end Go.Proofs.YtdnadlpkeinnfaaDoor
