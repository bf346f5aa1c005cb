/- Contracts of numbers, slices.Grow of nothing, slices.Concat. Conditions: bounds on lengths and numbers; what the library reads (GT). -/
import Derived.Test.YteafkginhejllaaGreatDoorKw8
import Derived.Test.YteafkginhejllaaGreatDoorH8
import Derived.Lib.AppendZerosOnto
import Derived.Lib.SliceRun
namespace Go.Proofs.YteafkginhejllaaGreatDoor
open Go.ChangeShapes Go.WideShapes Go.ChangeAt Go.RowKit
def Ints8 (l : List Int) : Prop := ∀ n ∈ l, -9223372036854775808 ≤ n ∧ n ≤ 9223372036854775807
def itoas8 (l : List Int) : List L8 := l.map Lib.itoa
theorem itoas8_take {l : List Int} {k : Nat} {n : Int} (h : l[k]? = some n) : itoas8 (l.take (k + 1)) = itoas8 (l.take k) ++ [Lib.itoa n] := by
  obtain ⟨h1, h2⟩ := List.getElem?_eq_some_iff.1 h
  rw [List.take_succ_eq_append_getElem h1, h2]; simp [itoas8]
set_option maxRecDepth 100000 in
set_option maxHeartbeats 2000000 in
theorem numbers_any (v : Value) (l : List Int) (w : World) (hr : RS w v (intsV l)) (hG : GT w) (hl : l.length ≤ 1000) (hb : Ints8 l) :
    Calls Tryz.prog 48 #[v] w (RetS w (itoas8 l)) := by
  obtain ⟨a, cap, rfl, hm, HC⟩ := hr.open
  clear hr
  obtain ⟨q, hq⟩ : ∃ q, itoas8 l = q := ⟨_, rfl⟩
  rw [hq]
  replace hq := Lib.hid hq
  replace hb := Lib.hid hb
  go_enter Tryz.func48, Tryz.ntmps48
  go_wp2
  go_loopg [3, 8] l.length (fun g s3 s8 wx => ∃ (k : Nat) (fs : List L8), s8 = .int .i64 k ∧ k + g = l.length ∧ fs.length = k ∧ wx.ownsRow w.heap.size 9 1 s3 fs.length (strsV fs) ∧ Hid (fs = itoas8 (l.take k)) ∧ Below w.heap.size w wx)
  case atStart => exact ⟨0, [], rfl, by omega, rfl, World.ownsRow_nil _ _ _ _, Lib.hid rfl, Below.refl _ _⟩
  case round =>
    obtain ⟨k, fs, rfl, hg, hfl, ho, HN, hbw⟩ := hrel
    have hsz := hbw.size
    cases gk with
    | zero =>
      have h : ¬ ((k : Int) < (l.length : Int)) := by omega
      have E := HN.out
      rw [List.take_of_length_le (by omega), hq.out] at E
      subst E
      obtain ⟨a3, c3, rfl⟩ := own_slice ho
      replace hfl := Lib.hid hfl
      replace ho := Lib.hid ho
      clear HN
      go_wp2
      go_ret
      exact ⟨_, rfl, ho.out, hbw⟩
    | succ g =>
      have h : ((k : Int) < (l.length : Int)) := by omega
      obtain ⟨n, hn, _, hmem⟩ := at_take (l := l) (k := k) (by omega)
      obtain ⟨b, off, rfl, hlt, hcell⟩ := HC.out.rd hbw hn
      have K := format_any n wr (hb.out n hmem) (hG.below hbw)
      have N := Lib.hid (show fs ++ [Lib.itoa n] = itoas8 (l.take (k + 1)) by rw [itoas8_take hn, HN.out])
      obtain ⟨x, hx⟩ : ∃ x, Lib.itoa n = x := ⟨_, rfl⟩
      rw [hx] at K N
      have hfl2 : fs.length ≤ 100001 := by omega
      replace hx := Lib.hid hx
      replace hn := Lib.hid hn
      replace hfl := Lib.hid hfl
      clear HN
      go_wp2_with (first
        | (go_at_call 49; refine K.mono ?_; rintro e w2 ⟨rfl, b2⟩; have ho2 := own_below ho b2; have hbw2 := hbw.trans (b2.mono hsz); have hsz2 := hbw2.size; clear ho)
        | (at_builtin
           refine wpList_push _ rfl _ _ 22 rfl w.heap.size 9 (.string ByteArray.empty) 1 16 Tryz.underlying22 info_str rfl (by omega) u3 fs.length _ rfl ho2 [str x] rfl rfl (one_str x) (by omega) (by omega) hsz2 ?_
           intro v3 w3 p3 gr3 nb3
           have hbw3 := below_grown hbw2 gr3 ho2 (Nat.le_refl _) hsz2
           replace p3 := Lib.hid p3
           clear nb3 gr3))
      go_roundg g
      case measure => omega
      case rel => exact ⟨k + 1, fs ++ [x], by go_num, by omega, by have := hfl.out; simp; omega, by rw [strsV_snoc, List.length_append]; exact p3.out, N, hbw3⟩
set_option maxRecDepth 100000 in
set_option maxHeartbeats 2000000 in
theorem grow_any (n : Nat) (hn : n ≤ 100000) (w : World) : Calls Tryz.prog 93 #[.slice none 0 0, .int .i64 n] w (RetS w []) := by
  have h1 : ¬ ((n : Int) < 0) := by omega
  by_cases h0 : n = 0
  · subst h0
    go_enter Tryz.func93, Tryz.ntmps93
    go_wp2
    go_ret
    exact ⟨_, rfl, World.ownsRow_nil _ _ _ _, Below.refl _ _⟩
  · obtain ⟨i, hi, hz, hsize, hby⟩ := info_parts info_str
    have h4 : (0 : Int) < (n : Int) := by omega
    have hold : (Builtin.firstCells i.size 0 (.slice none 0 0)).run Tryz.prog w.drew = .ok ([] : List Value).toArray w.drew := run_firstCells_none w.drew i.size 0 0 0
    have hrz := fun ty => Lib.run_append_grow_zeros w 22 3 ty 9 i (.string ByteArray.empty) .i64 .i64 Tryz.underlying22 Tryz.underlying3 hi hz none 0 0 [] hold n (by omega) (by omega) (by omega) (by omega) (by rw [hby]; omega)
      (growslice_fits (by omega) (by rw [hby]; omega))
    rw [Nat.zero_add] at hrz
    have hGn : n ≤ grownCap w n 0 9 := grownCap_ge w _ _ _
    have hG63 := grownCap_le_maxLen w n 0 9 (by unfold maxLen; omega)
    obtain ⟨G, hG⟩ : ∃ G, G = grownCap w n 0 9 := ⟨_, rfl⟩
    rw [← hG] at hrz hGn hG63
    obtain ⟨cs, hcs⟩ : ∃ cs, cs = ([] : List Value).toArray ++ Builtin.zeroCells (Value.string ByteArray.empty).cells n ++ Builtin.zeroCells (Value.string ByteArray.empty).cells (G - n) := ⟨_, rfl⟩
    have hsz : cs.size = G * 1 := by
      rw [hcs]
      simp only [Array.size_append, size_zeroCells]
      simp [Value.cells]
      omega
    rw [← hcs] at hrz
    have hOwn := World.ownsRow_made (e := 9) (base := w.heap.size) (size := 1) w.drew cs G (Nat.le_refl _) hG63 hsz
    have hB : Below w.heap.size w (w.drew.alloc (.cells cs 9)) := (Below.refl _ _).drew.alloc (Nat.le_refl _) _
    unfold maxLen at hG63
    clear hold hG hcs hsz
    go_enter Tryz.func93, Tryz.ntmps93
    go_wp2_with (at_builtin; refine Lib.wpList_append_run _ rfl _ _ _ _ rfl _ _ rfl rfl _ _ (hrz _) ?_)
    all_goals (go_ret; exact ⟨_, rfl, hOwn, hB⟩)
theorem flat_take {ll : List (List L8)} {k : Nat} {y : List L8} (h : ll[k]? = some y) : (ll.take (k + 1)).flatten = (ll.take k).flatten ++ y := by
  obtain ⟨h1, h2⟩ := List.getElem?_eq_some_iff.1 h
  rw [List.take_succ_eq_append_getElem h1, h2]; simp
theorem flat_len : ∀ (ll : List (List L8)) (c : Nat), (∀ l ∈ ll, l.length ≤ c) → ll.flatten.length ≤ ll.length * c
  | [], c, _ => by simp
  | x :: r, c, h => by
    have h1 := h x (by simp)
    have h2 := flat_len r c (fun l hl => h l (by simp [hl]))
    simp only [List.flatten_cons, List.length_append, List.length_cons]
    rw [Nat.add_mul]
    omega
theorem strsV_app (a b : List L8) : strsV (a ++ b) = strsV a ++ strsV b := by simp [strsV]
set_option maxRecDepth 100000 in
set_option maxHeartbeats 2000000 in
theorem concat_any (v : Value) (ll : List (List L8)) (w : World) (hv : LL w v ll) (hn : ll.length ≤ 10) (hl : ∀ l ∈ ll, l.length ≤ 1000) :
    Calls Tryz.prog 46 #[v] w (RetS w ll.flatten) := by
  have hsum : ∀ k, (ll.take k).flatten.length ≤ 10000 := fun k => by
    have := flat_len (ll.take k) 1000 (fun l h => hl l (List.mem_of_mem_take h))
    have h2 : (ll.take k).length ≤ 10 := by rw [List.length_take]; omega
    omega
  obtain ⟨a, cap, rfl, hm, HC⟩ := hv.open
  clear hv
  obtain ⟨q, hq⟩ : ∃ q, ll.flatten = q := ⟨_, rfl⟩
  rw [hq]
  replace hq := Lib.hid hq
  replace hl := Lib.hid hl
  replace hsum := Lib.hid hsum
  have hq2 := hsum.out ll.length
  rw [List.take_length, hq.out] at hq2
  go_enter Tryz.func46, Tryz.ntmps46
  go_wp2
  go_loopg [3, 11] ll.length (fun g s3 s11 wx => ∃ (k n : Nat), s11 = .int .i64 k ∧ k + g = ll.length ∧ s3 = .int .i64 n ∧ Hid (n = (ll.take k).flatten.length) ∧ w = wx)
  case atStart => exact ⟨0, 0, rfl, by omega, rfl, Lib.hid (by simp), rfl⟩
  case round =>
    obtain ⟨k, n, rfl, hg, rfl, HN, rfl⟩ := hrel
    cases gk with
    | zero =>
      have h : ¬ ((k : Int) < (ll.length : Int)) := by omega
      have E : n = q.length := by have := HN.out; rw [List.take_of_length_le (by omega), hq.out] at this; exact this
      subst E
      have K := grow_any q.length (by omega) w
      clear HN
      go_wp2_with (go_at_call 93; refine K.mono ?_; rintro e w1 ⟨v1, rfl, o1, b1⟩)
      clear K
      go_loopg [6, 27] ll.length (fun g s6 s27 wx => ∃ (k : Nat) (xs : List L8), s27 = .int .i64 k ∧ k + g = ll.length ∧ Hid (xs = (ll.take k).flatten) ∧ wx.ownsRow w.heap.size 9 1 s6 xs.length (strsV xs) ∧ Below w.heap.size w wx)
      case atStart => exact ⟨0, [], rfl, by omega, Lib.hid (by simp), o1, b1⟩
      case round =>
        clear hg o1 b1
        obtain ⟨k, xs, rfl, hg, HX, ho, hbw⟩ := hrel
        have hsz := hbw.size
        cases gk with
        | zero =>
          have h : ¬ ((k : Int) < (ll.length : Int)) := by omega
          have E : xs = q := by have := HX.out; rw [List.take_of_length_le (by omega), hq.out] at this; exact this
          subst E
          obtain ⟨a3, c3, rfl⟩ := own_slice ho
          replace ho := Lib.hid ho
          clear HX
          go_wp2
          go_ret
          exact ⟨_, rfl, ho.out, hbw⟩
        | succ g =>
          have h : ((k : Int) < (ll.length : Int)) := by omega
          obtain ⟨y, hy, _, hmem⟩ := at_take (l := ll) (k := k) (by omega)
          obtain ⟨b, off, x, rfl, hlt, hcell, hrow⟩ := HC.out.rd hbw hy
          have hyl := hl.out y hmem
          have hxl : xs.length ≤ 10000 := by rw [HX.out]; exact hsum.out k
          have N := Lib.hid (show xs ++ y = (ll.take (k + 1)).flatten by rw [flat_take hy, HX.out])
          obtain ⟨ay, cy, rfl⟩ := hrow.shape
          have hyl2 : (strsV y).length ≤ 1000 := by rw [strsV_length]; exact hyl
          clear HX
          go_wp2_with (at_builtin
                       refine wpList_append_rs _ rfl _ _ 22 rfl w.heap.size 9 (.string ByteArray.empty) 16 Tryz.underlying22 info_str rfl _ _ _ rfl ho _ rfl (strsV y) hrow (strs_one _) (by omega) (by omega) hsz ?_
                       intro v3 w3 p3 gr3 nb3
                       have hbw3 := below_grown hbw gr3 ho (Nat.le_refl _) hsz
                       have p4 : Hid (w3.ownsRow w.heap.size 9 1 v3 (xs ++ y).length (strsV (xs ++ y))) := Lib.hid (by rw [strsV_app, List.length_append]; rw [strsV_length] at p3; exact p3)
                       clear p3 nb3 gr3)
          go_roundg g
          case measure => omega
          case rel => exact ⟨k + 1, xs ++ y, by go_num, by omega, N, p4.out, hbw3⟩
    | succ g =>
      have h : ((k : Int) < (ll.length : Int)) := by omega
      obtain ⟨y, hy, _, hmem⟩ := at_take (l := ll) (k := k) (by omega)
      obtain ⟨b, off, x, rfl, hlt, hcell, hrow⟩ := HC.out.rd (Below.refl _ _) hy
      obtain ⟨ay, cy, rfl⟩ := hrow.shape
      have hyl := hl.out y hmem
      have N := Lib.hid (show n + y.length = (ll.take (k + 1)).flatten.length by rw [flat_take hy, List.length_append, ← HN.out])
      have hn1 := HN.out
      have hn2 := hsum.out k
      rw [← hn1] at hn2
      have hn3 : n ≤ 10000 := hn2
      have h0 : ¬ (((n : Int) + (y.length : Int)) < 0) := by omega
      have hyl2 : (strsV y).length = y.length := strsV_length y
      rw [hyl2] at hcell
      clear hn1 hn2 HN hyl2 hrow
      go_wp2
      go_roundg g
      case measure => omega
      case rel => exact ⟨k + 1, n + y.length, by go_num, by omega, by go_num, N, rfl⟩
end Go.Proofs.YteafkginhejllaaGreatDoor
