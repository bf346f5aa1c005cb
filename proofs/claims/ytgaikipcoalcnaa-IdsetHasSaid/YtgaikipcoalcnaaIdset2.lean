/- Contracts of idset: what each function returns is a set with the stated elements, and nothing that was there changes. Conditions: lists of at most 500 numbers that can be read. -/
import Derived.Test.YtgaikipcoalcnaaRef2
import Derived.Test.YtgaikipcoalcnaaSort2
import Derived.Test.YtgaikipcoalcnaaShelf
import Derived.Lib.OwnBridge
import Derived.Shelf.Abstract
namespace Go.Proofs.Ytgaikipcoalcnaa
open Go.ChangeShapes Go.WideShapes Go.ChangeAt Go.RowKit
open Go.Sort (Holds putRow grow holds_grow holds_putRow holds_ahead)
theorem cells_get {w : World} {a : Option Addr} {l : List Int} (h : Cells w a l) (hl : 0 < l.length) :
    ∃ b off, a = some ⟨b, off, none⟩ ∧ b < w.heap.size ∧ ∀ j, j < l.length → w.cell? ⟨b, off + j, none⟩ = some (.int .i64 (l.getD j 0)) := by
  obtain ⟨b, off, ha, hb, _⟩ := h 0 (.int .i64 (l[0])) (by simp [intsV, hl])
  refine ⟨b, off, ha, hb, fun j hj => ?_⟩
  obtain ⟨b', off', ha', _, hc⟩ := h j (.int .i64 (l[j])) (by simp [intsV, hj])
  rw [ha] at ha'
  injection ha' with ha'
  injection ha' with h1 h2
  subst h1 h2
  rw [hc, List.getD_eq_getElem?_getD, List.getElem?_eq_getElem hj]; rfl
theorem has_any (v : Value) (l : List Int) (n : Int) (w : World) (hv : RS w v (intsV l)) :
    Calls Try.prog 13 #[v, .int .i64 n] w fun e w' => e = .returned (.bool (l.contains n)) ∧ w = w' := by
  obtain ⟨a, cap, rfl, hm, HC⟩ := hv.open
  obtain ⟨r, hr⟩ : ∃ r, l.contains n = r := ⟨_, rfl⟩
  rw [hr]
  have H : Calls Try.prog 26 #[.slice a l.length cap, .int .i64 n] w fun e w' => e = .returned (.bool r) ∧ w' = w := by
    by_cases hl : 0 < l.length
    · obtain ⟨b, off, rfl, _, hc⟩ := cells_get HC.out hl
      have := Try.slices_Contains_int b off l.length cap l n w (Nat.le_refl _) hm hc
      rwa [List.take_length, hr] at this
    · have h0 : l = [] := List.eq_nil_of_length_eq_zero (by omega)
      subst h0
      have := Try.slices_Contains_int_empty a cap n w
      have hr' : r = false := by simpa using hr.symm
      subst hr'
      exact this
  replace hr := Lib.hid hr
  clear hv
  go_enter Try.func13, Try.ntmps13
  go_wp2_with fail
  refine H.mono ?_
  rintro e w' ⟨rfl, rfl⟩
  go_wp2
  go_ret
  exact ⟨rfl, rfl⟩
theorem below_grow {B : Nat} {a w : World} (h : Below B a w) (os : Array Obj) (hB : B ≤ w.heap.size) : Below B a (grow w os) :=
  ⟨h.os, h.tape, h.output, by have := h.size; simp [grow]; omega, fun k hk => by rw [Go.Sort.heap_grow_old w os (by omega)]; exact h.block k hk⟩
theorem rs_of_holds {w : World} {g cap : Nat} {l r : List Int} (hH : Holds (Value.int .i64) w g 0 (l ++ r).toArray) (hg : g < w.heap.size) (hl : l.length ≤ 9223372036854775807 ∧ l.length ≤ cap) : RS w (.slice (some ⟨g, 0, none⟩) l.length cap) (intsV l) := by
  refine ⟨_, cap, by rw [intsV_length], by rw [intsV_length]; exact hl, fun j x hj => ⟨g, 0, rfl, hg, ?_⟩⟩
  have hj' : j < l.length := by
    have := (List.getElem?_eq_some_iff.1 hj).1
    rwa [intsV_length] at this
  have := (hH j (by simp; omega)).1
  rw [this, ← hj]
  simp [intsV, hj', getElem!_pos, List.getElem_append_left, Nat.lt_add_right]
set_option maxHeartbeats 1000000 in
theorem ordered_any (v : Value) (l : List Int) (w : World) (hv : RS w v (intsV l)) (hl : l.length ≤ 1000) :
    Calls Try.prog 24 #[v] w (RetL w (mk l)) := by
  obtain ⟨a, cap, rfl, hm, HC⟩ := hv.open
  clear hv
  by_cases hn : a = none
  · subst hn
    have h0 : l = [] := by
      cases l with
      | nil => rfl
      | cons x l => obtain ⟨b, off, h, _⟩ := cells_get HC.out (by simp); cases h
    subst h0
    have H1 := Try.slices_Clone_int_nil 0 cap w
    have H2 := Try.slices_Sort_int_none none 0 w
    have H3 := Try.slices_Compact_int_empty none 0 w
    simp only [List.length_nil]
    go_enter Try.func24, Try.ntmps24
    go_wp2_with fail
    refine H1.mono ?_
    rintro e w' ⟨rfl, rfl⟩
    go_wp2_with fail
    refine H2.mono ?_
    rintro e w' ⟨rfl, rfl⟩
    go_wp2_with fail
    refine H3.mono ?_
    rintro e w' ⟨rfl, rfl⟩
    go_wp2
    go_ret
    exact ⟨_, rfl, RS.nil _ _ _, Below.refl _ _⟩
  · have H1 : Calls Try.prog 32 #[.slice a l.length cap] w fun e w' => ∃ v', e = .returned v' ∧ w'.ownsRow w.heap.size 3 1 v' l.length (l.map (Value.int .i64)) ∧ v' ≠ .slice none 0 0 ∧ Below w.heap.size w w' := by
      by_cases h0 : 0 < l.length
      · obtain ⟨b, off, rfl, _, hc⟩ := cells_get HC.out h0
        have := Try.slices_Clone_int b off l.length cap l w (Nat.le_refl _) (by omega) hc
        rwa [List.take_length] at this
      · have h0 : l = [] := List.eq_nil_of_length_eq_zero (by omega)
        subst h0
        obtain ⟨x, rfl⟩ : ∃ x, a = some x := by cases a with | none => exact absurd rfl hn | some x => exact ⟨x, rfl⟩
        exact Try.slices_Clone_int_zero x cap w
    clear hn HC
    go_enter Try.func24, Try.ntmps24
    go_wp2_with fail
    refine H1.mono ?_
    rintro e w1 ⟨v1, rfl, hown, hnn, hbel⟩
    obtain ⟨g, cap1, rfl, hbg, hgl, hncap, hcm, hlen, hH⟩ := Lib.holds_of_ownsRow hown hnn
    obtain ⟨s, hs⟩ : ∃ s, (l.mergeSort fun x y => decide (x ≤ y)) = s := ⟨_, rfl⟩
    have hsl : s.length = l.length := by rw [← hs, List.length_mergeSort]
    have hcs := compact_sorted l
    rw [hs] at hcs
    have H2 := Try.slices_Sort_int g 0 cap1 l w1 hH hgl (by omega)
    rw [hs] at H2
    have HX := Lib.hid (And.intro hs (And.intro hsl (And.intro hH (And.intro hgl (And.intro hbel (And.intro hbg (And.intro hncap hcs)))))))
    clear H1 hown hnn hH hlen hs hsl hcs hbel hcm hncap hbg hgl
    go_wp2_with fail
    refine H2.mono ?_
    rintro e w2 ⟨rfl, q, os, hw2⟩
    obtain ⟨hs, hsl, hH, hgl, hbel, hbg, hncap, hcs⟩ := HX.out
    have hH1 : Holds (Value.int .i64) (putRow (Value.int .i64) (Go.Sort.ahead w1 q) g 0 s.toArray) g 0 s.toArray := holds_putRow _ _ _ _ _ _ (holds_ahead _ w1 q g 0 _ hH) (by simp [hsl])
    have hz1 : (putRow (Value.int .i64) (Go.Sort.ahead w1 q) g 0 s.toArray).heap.size = w1.heap.size := by simp [putRow, Go.Sort.mapBlock, Go.Sort.ahead]
    have hH2 : Holds (Value.int .i64) w2 g 0 s.toArray := by rw [hw2]; exact holds_grow _ _ _ _ _ _ (by rw [hz1]; exact hgl) hH1
    have hb2 : Below w.heap.size w w2 := by rw [hw2]; exact below_grow (Lib.below_putRow hbel hbg) _ (by rw [hz1]; exact hbel.size)
    have hz2 : g < w2.heap.size := by rw [hw2]; simp [grow, hz1]; omega
    have H3 := Try.slices_Compact_int g 0 cap1 s w2 hH2 (by omega) (by omega)
    rw [hsl, hcs] at H3
    have hml := mk_length l
    have HY := Lib.hid (And.intro hH2 (And.intro hb2 (And.intro hz2 (And.intro hbg (And.intro hsl (And.intro hncap hml))))))
    clear H2 HX hw2 hs hsl hH hgl hbel hbg hncap hcs hH1 hz1 hH2 hb2 hz2 hml
    go_wp2_with fail
    refine H3.mono ?_
    rintro e w3 ⟨rfl, q3, hw3⟩
    obtain ⟨hH2, hb2, hz2, hbg, hsl, hncap, hml⟩ := HY.out
    have hsz : (mk l ++ List.replicate (l.length - (mk l).length) (0:Int)).length = l.length := by simp; omega
    have hH3 : Holds (Value.int .i64) w3 g 0 (mk l ++ List.replicate (l.length - (mk l).length) 0).toArray := by
      rw [hw3]; exact holds_putRow _ _ _ _ _ _ (holds_ahead _ w2 q3 g 0 _ hH2) (by rw [List.size_toArray, hsz, List.size_toArray, hsl])
    have hz3 : g < w3.heap.size := by rw [hw3]; simpa [putRow, Go.Sort.mapBlock, Go.Sort.ahead] using hz2
    have hb3 : Below w.heap.size w w3 := by rw [hw3]; exact Lib.below_putRow hb2 hbg
    have hr3 := Lib.hid (rs_of_holds (cap := cap1) hH3 hz3 (by constructor <;> omega))
    clear H3 HY hw3 hH2 hb2 hz2 hbg hsl hml hsz hH3 hz3 hncap
    go_wp2
    go_ret
    exact ⟨_, rfl, hr3.out, hb3⟩
theorem make_any (v : Value) (l : List Int) (w : World) (hv : RS w v (intsV l)) (hl : l.length ≤ 1000) :
    Calls Try.prog 10 #[v] w (RetL w (mk l)) := by
  have H := ordered_any v l w hv hl
  clear hv
  go_enter Try.func10, Try.ntmps10
  go_wp2_with fail
  refine H.mono ?_
  rintro e w1 ⟨v1, rfl, hr1, hb⟩
  clear H
  replace hr1 := Lib.hid hr1
  go_wp2
  go_ret
  exact ⟨_, rfl, hr1.out, hb⟩
def cmpF : List Int → List Int → Int
  | [], _ => 1
  | _ :: _, [] => -1
  | x :: _, y :: _ => Lib.compareInt x y
theorem cmpFirst_any (v u : Value) (l m : List Int) (w : World) (hv : RS w v (intsV l)) (hu : RS w u (intsV m)) :
    Calls Try.prog 36 #[v, u] w fun e w' => e = .returned (.int .i64 (cmpF l m)) ∧ ∃ n, w' = w.drewN n := by
  obtain ⟨a, cap, rfl, hm, HC⟩ := hv.open
  obtain ⟨b, cap', rfl, _, HD⟩ := hu.open
  clear hv hu
  cases l with
  | nil =>
    simp only [List.length_nil, cmpF]
    go_enter Try.func36, Try.ntmps36
    go_wp2
    go_ret
    exact ⟨rfl, 0, rfl⟩
  | cons x l =>
    have e1 : (((l.length + 1 : Nat) : Int) == 0) = false := by rw [beq_eq_false_iff_ne]; omega
    cases m with
    | nil =>
      simp only [List.length_nil, List.length_cons, cmpF]
      go_enter Try.func36, Try.ntmps36
      go_wp2
      go_ret
      exact ⟨rfl, 0, rfl⟩
    | cons y m =>
      have e2 : (((m.length + 1 : Nat) : Int) == 0) = false := by rw [beq_eq_false_iff_ne]; omega
      obtain ⟨b1, o1, rfl, _, c1⟩ := HC.out.rd (k := 0) (y := x) (Below.refl _ _) (by simp)
      obtain ⟨b2, o2, rfl, _, c2⟩ := HD.out.rd (k := 0) (y := y) (Below.refl _ _) (by simp)
      simp only [List.length_cons, cmpF, Nat.add_zero] at *
      go_enter Try.func36, Try.ntmps36
      go_wp2
      go_quiet ((go_at_call 40; exact Calls.quiet_of_same (Try.cmp_Compare_int x y _)))
      go_wp2
      go_ret
      exact ⟨rfl, _, rfl⟩
theorem first_any (v u : Value) (l m : List Int) (c : Bool) (x : Int) (w : World) (hv : RS w v (intsV l)) (hu : RS w u (intsV m)) (hx : (if c then l[0]? else m[0]?) = some x) :
    Calls Try.prog 37 #[v, u, .bool c] w fun e w' => e = .returned (.int .i64 x) ∧ w = w' := by
  obtain ⟨a, cap, rfl, hm, HC⟩ := hv.open
  obtain ⟨b, cap', rfl, _, HD⟩ := hu.open
  clear hv hu
  cases c with
  | true =>
    obtain ⟨b1, o1, rfl, _, c1⟩ := HC.out.rd (k := 0) (y := x) (Below.refl _ _) (by simpa using hx)
    have hp : (0 : Int) < (l.length : Int) := by cases l with | nil => simp at hx | cons => simp
    simp only [Nat.add_zero] at c1
    replace hx := Lib.hid hx
    go_enter Try.func37, Try.ntmps37
    go_wp2
    go_ret
    exact ⟨rfl, rfl⟩
  | false =>
    obtain ⟨b1, o1, rfl, _, c1⟩ := HD.out.rd (k := 0) (y := x) (Below.refl _ _) (by simpa using hx)
    have hp : (0 : Int) < (m.length : Int) := by cases m with | nil => simp at hx | cons => simp
    simp only [Nat.add_zero] at c1
    replace hx := Lib.hid hx
    go_enter Try.func37, Try.ntmps37
    go_wp2
    go_ret
    exact ⟨rfl, rfl⟩
/-- A condition on membership, as a function value that captures nothing. -/
def Keeps (g : FuncId) (k : Bool → Bool → Bool) : Prop := ∀ (x y : Bool) (w : World), Calls Try.prog g #[.bool x, .bool y] w fun e w' => e = .returned (.bool (k x y)) ∧ w = w'
theorem keepsU : Keeps 28 kU := by
  intro x y w
  cases x <;> cases y
  all_goals
    go_enter Try.func28, Try.ntmps28
    go_wp2
    go_ret
    exact ⟨rfl, rfl⟩
theorem keepsC : Keeps 29 kC := by
  intro x y w
  cases x <;> cases y
  all_goals
    go_enter Try.func29, Try.ntmps29
    go_wp2
    go_ret
    exact ⟨rfl, rfl⟩
theorem keepsM : Keeps 31 kM := by
  intro x y w
  cases x <;> cases y
  all_goals
    go_enter Try.func31, Try.ntmps31
    go_wp2
    go_ret
    exact ⟨rfl, rfl⟩
/-- A slice without its first element. -/
theorem RS.tail1 {w : World} {a : Option Addr} {cap : Nat} {x : Int} {l : List Int} (h : Cells w a (x :: l)) (hm : l.length + 1 ≤ 9223372036854775807 ∧ l.length + 1 ≤ cap) : RS w (.slice (Option.map (fun x => { block := x.block, off := x.off + 1 }) a) l.length (cap - 1)) (intsV l) := by
  refine ⟨_, cap - 1, by rw [intsV_length], by rw [intsV_length]; constructor <;> omega, fun j y hj => ?_⟩
  obtain ⟨b', off', e, hlt, hc⟩ := h (j+1) y (by simpa [intsV] using hj)
  subst e
  exact ⟨_, _, rfl, hlt, by rw [← hc]; show w.cell? ⟨b', off' + 1 + j, none⟩ = w.cell? ⟨b', off' + (j + 1), none⟩; rw [Nat.add_assoc, Nat.add_comm 1 j]⟩
theorem RS.tail0 {w : World} {a : Option Addr} {cap c : Nat} {l : List Int} (hm : l.length + 1 ≤ 9223372036854775807 ∧ l.length + 1 ≤ cap) (h : cap = 1) : RS w (.slice a l.length c) (intsV l) := by
  have : l = [] := List.eq_nil_of_length_eq_zero (by omega)
  subst this
  exact RS.nil _ _ _
theorem round_cases (a b : List Int) (h : Asc a ∧ Asc b) : (a = [] ∧ b = []) ∨ ∃ (x c : Int) (inA inB : Bool) (a' b' : List Int), cmpF a b = c ∧
    (c = -1 ∧ inA = true ∧ inB = false ∧ a = x :: a' ∧ b' = b ∨ c = 0 ∧ inA = true ∧ inB = true ∧ a = x :: a' ∧ b = x :: b' ∨ c = 1 ∧ inA = false ∧ inB = true ∧ b = x :: b' ∧ a' = a) ∧
    (Asc a' ∧ Asc b') ∧ (∀ k, sel k a b = one (k inA inB) x ++ sel k a' b') ∧ (if inA then a[0]? else b[0]?) = some x := by
  have only : ∀ (c : Bool) (x n : Int), (c = true ∧ n = x) ∨ n ∈ ([] : List Int) ↔ (c = true ∧ n = x) := by simp
  cases a with
  | nil =>
    cases b with
    | nil => exact Or.inl ⟨rfl, rfl⟩
    | cons y b =>
      refine Or.inr ⟨y, 1, false, true, [], b, rfl, Or.inr (Or.inr ⟨rfl, rfl, rfl, rfl, rfl⟩), ⟨trivial, h.2.2⟩, fun k => ?_, rfl⟩
      exact sel_step k _ _ _ _ y false true (Or.inr rfl) (by simp) (by simp) (by simp) h.2.1
  | cons x a =>
    cases b with
    | nil =>
      refine Or.inr ⟨x, -1, true, false, a, [], rfl, Or.inl ⟨rfl, rfl, rfl, rfl, rfl⟩, ⟨h.1.2, trivial⟩, fun k => ?_, rfl⟩
      exact sel_step k _ _ _ _ x true false (Or.inl rfl) (by simp) (by simp) h.1.1 (by simp)
    | cons y b =>
      by_cases h1 : x < y
      · refine Or.inr ⟨x, -1, true, false, a, y :: b, by simp [cmpF, Lib.compareInt, h1], Or.inl ⟨rfl, rfl, rfl, rfl, rfl⟩, ⟨h.1.2, h.2⟩, fun k => ?_, rfl⟩
        refine sel_step k _ _ _ _ x true false (Or.inl rfl) (by simp) (by simp) h.1.1 fun z hz => ?_
        rcases List.mem_cons.1 hz with rfl | hz
        · exact h1
        · have := h.2.1 z hz; omega
      · by_cases h2 : y < x
        · refine Or.inr ⟨y, 1, false, true, x :: a, b, by simp [cmpF, Lib.compareInt, h1, h2], Or.inr (Or.inr ⟨rfl, rfl, rfl, rfl, rfl⟩), ⟨h.1, h.2.2⟩, fun k => ?_, rfl⟩
          refine sel_step k _ _ _ _ y false true (Or.inr rfl) (by simp) (by simp) (fun z hz => ?_) h.2.1
          rcases List.mem_cons.1 hz with rfl | hz
          · exact h2
          · have := h.1.1 z hz; omega
        · obtain rfl : x = y := by omega
          refine Or.inr ⟨x, 0, true, true, a, b, by simp [cmpF, Lib.compareInt], Or.inr (Or.inl ⟨rfl, rfl, rfl, rfl, rfl⟩), ⟨h.1.2, h.2.2⟩, fun k => ?_, rfl⟩
          exact sel_step k _ _ _ _ x true true (Or.inl rfl) (by simp) (by simp) h.1.1 h.2.1
end Go.Proofs.Ytgaikipcoalcnaa
