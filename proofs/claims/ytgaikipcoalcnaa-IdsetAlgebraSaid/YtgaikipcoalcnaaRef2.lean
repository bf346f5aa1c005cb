/- Contracts of the reference of layer 2 and of the helpers of its statements. Conditions: lists of at most 1000 numbers that can be read. -/
import Derived.Test.YtgaikipcoalcnaaRows
import Derived.Test.YtgaikipcoalcnaaLib
import Derived.Test.YtgaikipcoalcnaaSet
import Derived.Deep.QuietTactic
import Derived.BigQuiet
namespace Go.Proofs.Ytgaikipcoalcnaa
open Go.ChangeShapes Go.WideShapes Go.ChangeAt Go.RowKit
theorem info_int : (Try.prog.info? 3).map (fun i => (i.zero, i.size, i.bytes)) = some (some (.int .i64 0), 1, 8) := by kernel_rfl
/-- What the cells of a slice hold. -/
def Cells (w : World) (a : Option Addr) (l : List Int) : Prop := ∀ (j : Nat) x, (intsV l)[j]? = some x → ∃ b off, a = some ⟨b, off, none⟩ ∧ b < w.heap.size ∧ w.cell? ⟨b, off + j, none⟩ = some x
theorem Cells.rd {w wr : World} {a : Option Addr} {l : List Int} {k : Nat} {y : Int} (h : Cells w a l) (hb : Below w.heap.size w wr) (hy : l[k]? = some y) :
    ∃ b off, a = some ⟨b, off, none⟩ ∧ b < wr.heap.size ∧ wr.cell? ⟨b, off + k, none⟩ = some (.int .i64 y) := by
  obtain ⟨b, off, ha, hlt, hc⟩ := h k (.int .i64 y) (by simp [intsV, hy])
  exact ⟨b, off, ha, Nat.lt_of_lt_of_le hlt hb.size, (hb.cell (p := ⟨b, off + k, none⟩) hlt).trans hc⟩
theorem at_take {l : List Int} {k : Nat} (h : k < l.length) : ∃ y, l[k]? = some y ∧ l.take (k+1) = l.take k ++ [y] ∧ y ∈ l := by
  refine ⟨l[k], by simp [h], by rw [List.take_succ_eq_append_getElem h], List.getElem_mem h⟩
theorem RS.open {w : World} {v : Value} {l : List Int} (h : RS w v (intsV l)) : ∃ a cap, v = .slice a l.length cap ∧ l.length ≤ 9223372036854775807 ∧ Hid (Cells w a l) := by
  obtain ⟨a, cap, hv, ⟨hm, _⟩, hc⟩ := h
  rw [intsV_length] at hv hm
  exact ⟨a, cap, hv, hm, Lib.hid hc⟩
theorem RS.open2 {w : World} {v : Value} {l : List Int} (h : RS w v (intsV l)) : ∃ a cap, v = .slice a l.length cap ∧ (l.length ≤ 9223372036854775807 ∧ l.length ≤ cap) ∧ Hid (Cells w a l) := by
  obtain ⟨a, cap, hv, hm, hc⟩ := h
  rw [intsV_length] at hv hm
  exact ⟨a, cap, hv, hm, Lib.hid hc⟩
theorem Cells.rs {w : World} {a : Option Addr} {cap : Nat} {l : List Int} (h : Cells w a l) (hm : l.length ≤ 9223372036854775807 ∧ l.length ≤ cap) : RS w (.slice a l.length cap) (intsV l) :=
  ⟨a, cap, by rw [intsV_length], by rw [intsV_length]; exact hm, h⟩
/-- A list is handed back; nothing that was there has changed. -/
def RetL (w : World) (l : List Int) (e : Ending) (w' : World) : Prop := ∃ v, e = .returned v ∧ RS w' v (intsV l) ∧ Below w.heap.size w w'
theorem bdrew {B : Nat} {a w : World} (h : Below B a w) (n : Nat) : Below B a (w.drewN n) := h.trans ⟨rfl, rfl, rfl, Nat.le_refl _, fun _ _ => rfl⟩
def RetB (w : World) (b : Bool) (e : Ending) (w' : World) : Prop := e = .returned (.bool b) ∧ Below w.heap.size w w'
set_option maxHeartbeats 400000 in
theorem same_any (v u : Value) (l : List Int) (w : World) (hv : RS w v (intsV l)) (hu : RS w u (intsV l)) :
    Calls Try.prog 11 #[v, u] w (RetB w true) := by
  obtain ⟨a, cap, rfl, hm, HC⟩ := hv.open
  obtain ⟨b, cap', rfl, _, HD⟩ := hu.open
  clear hv hu
  go_enter Try.func11, Try.ntmps11
  go_wp2
  go_loopg [5] l.length (fun g s5 wx => ∃ k : Nat, k + g = l.length ∧ s5 = .int .i64 k ∧ Below w.heap.size w wx)
  case atStart => exact ⟨0, by omega, rfl, Below.refl _ _⟩
  case round =>
    obtain ⟨k, hk, rfl, hbw⟩ := hrel
    cases gk with
    | zero =>
      have hz : ¬ ((k : Int) < (l.length : Int)) := by omega
      replace hk := Lib.hid hk
      go_wp2
      go_ret
      exact ⟨rfl, hbw⟩
    | succ g =>
      have hz : (k : Int) < (l.length : Int) := by omega
      obtain ⟨y, hy, _⟩ := at_take (l := l) (k := k) (by omega)
      obtain ⟨b1, o1, rfl, _, c1⟩ := HC.out.rd hbw hy
      obtain ⟨b2, o2, rfl, _, c2⟩ := HD.out.rd hbw hy
      replace hk := Lib.hid hk
      replace hy := Lib.hid hy
      go_wp2
      go_quiet (fail)
      go_wp2
      go_roundg g
      case measure => omega
      case rel => exact ⟨k+1, by have := hk.out; omega, by go_num, bdrew hbw _⟩
set_option maxHeartbeats 400000 in
theorem rhas_any (v : Value) (l : List Int) (n : Int) (w : World) (hv : RS w v (intsV l)) :
    Calls Try.prog 14 #[v, .int .i64 n] w fun e w' => e = .returned (.bool (l.contains n)) ∧ w = w' := by
  obtain ⟨a, cap, rfl, hm, HC⟩ := hv.open
  clear hv
  obtain ⟨r, hr⟩ : ∃ r, l.contains n = r := ⟨_, rfl⟩
  rw [hr]
  replace hr := Lib.hid hr
  go_enter Try.func14, Try.ntmps14
  go_wp2
  go_loopg [5] l.length (fun g s5 wx => ∃ k : Nat, k + g = l.length ∧ s5 = .int .i64 k ∧ Hid (n ∉ l.take k) ∧ w = wx)
  case atStart => exact ⟨0, by omega, rfl, Lib.hid (by simp), rfl⟩
  case round =>
    obtain ⟨k, hk, rfl, HN, rfl⟩ := hrel
    cases gk with
    | zero =>
      have hz : ¬ ((k : Int) < (l.length : Int)) := by omega
      obtain rfl : r = false := by rw [← hr.out]; have := HN.out; rw [List.take_of_length_le (by omega)] at this; simpa using this
      replace hk := Lib.hid hk
      go_wp2
      go_ret
      exact ⟨rfl, rfl⟩
    | succ g =>
      have hz : (k : Int) < (l.length : Int) := by omega
      obtain ⟨y, hy, ht, hmem⟩ := at_take (l := l) (k := k) (by omega)
      obtain ⟨b1, o1, rfl, hb1, c1⟩ := HC.out.rd (Below.refl _ _) hy
      replace ht := Lib.hid ht
      replace hk := Lib.hid hk
      replace hy := Lib.hid hy
      replace hmem := Lib.hid hmem
      by_cases hn : y = n
      · subst hn
        obtain rfl : r = true := by rw [← hr.out]; simpa using hmem.out
        have e1 : (y == y) = true := by simp
        go_wp2
        go_ret
        exact ⟨rfl, rfl⟩
      · have e1 : (y == n) = false := by simp [hn]
        have HN2 := Lib.hid (show n ∉ l.take (k+1) by rw [ht.out]; simp; exact ⟨HN.out, fun h => hn h.symm⟩)
        clear hn HN
        go_wp2
        go_roundg g
        case measure => omega
        case rel => exact ⟨k+1, by have := hk.out; omega, by go_num, HN2, rfl⟩
def InsRel (n : Int) (p o : List Int) (d : Bool) : Prop := (d = false → o = p ∧ ∀ x ∈ p, ¬ n < x) ∧ (d = true → o = put n p ∧ ∃ x ∈ p, n < x)
theorem put_le (n : Int) (q : List Int) : ∀ p : List Int, (∀ x ∈ p, ¬ n < x) → put n (p ++ q) = p ++ put n q
  | [], _ => rfl
  | x :: p, h => by
    rw [List.cons_append, put, if_neg (h x (by simp)), put_le n q p fun y hy => h y (by simp [hy]), List.cons_append]
theorem put_gt (n : Int) (q : List Int) : ∀ p : List Int, (∃ x ∈ p, n < x) → put n (p ++ q) = put n p ++ q
  | [], ⟨x, h, _⟩ => by cases h
  | y :: p, ⟨x, h, hx⟩ => by
    rw [List.cons_append, put, put]
    by_cases hy : n < y
    · rw [if_pos hy, if_pos hy]; rfl
    · rw [if_neg hy, if_neg hy, List.cons_append]
      rcases List.mem_cons.1 h with rfl | h
      · exact absurd hx hy
      · rw [put_gt n q p ⟨x, h, hx⟩]
theorem InsRel.start (n : Int) : InsRel n [] [] false := ⟨fun _ => ⟨rfl, by simp⟩, by simp⟩
theorem InsRel.here {n x : Int} {p o : List Int} (h : InsRel n p o false) (hx : n < x) : InsRel n (p ++ [x]) (o ++ [n] ++ [x]) true := by
  obtain ⟨rfl, h1⟩ := h.1 rfl
  exact ⟨by simp, fun _ => ⟨by rw [put_le n [x] o h1]; simp [put, hx], x, by simp, hx⟩⟩
theorem InsRel.on {n x : Int} {p o : List Int} {d : Bool} (h : InsRel n p o d) (hx : d = false → ¬ n < x) : InsRel n (p ++ [x]) (o ++ [x]) d := by
  refine ⟨fun hd => ?_, fun hd => ?_⟩
  · obtain ⟨rfl, h1⟩ := h.1 hd
    exact ⟨rfl, fun y hy => by
      rcases List.mem_append.1 hy with hy | hy
      · exact h1 y hy
      · rw [List.mem_singleton.1 hy]; exact hx hd⟩
  · obtain ⟨rfl, y, h1, h2⟩ := h.2 hd
    exact ⟨by rw [put_gt n [x] p ⟨y, h1, h2⟩], y, by simp [h1], h2⟩
theorem InsRel.endF {n : Int} {p o : List Int} (h : InsRel n p o false) : o ++ [n] = put n p := by
  obtain ⟨rfl, h1⟩ := h.1 rfl
  have := put_le n [] o h1
  simpa [put] using this.symm
theorem InsRel.endT {n : Int} {p o : List Int} (h : InsRel n p o true) : o = put n p := (h.2 rfl).1
theorem intsV_snoc (l : List Int) (x : Int) : intsV (l ++ [x]) = intsV l ++ [.int .i64 x] := by simp [intsV]
set_option maxHeartbeats 1000000 in
theorem insert_any (v : Value) (l : List Int) (n : Int) (w : World) (hv : RS w v (intsV l)) (hl : l.length ≤ 1000) :
    Calls Try.prog 25 #[v, .int .i64 n] w (RetL w (ins l n)) := by
  have HV := Lib.hid hv
  obtain ⟨a, cap, rfl, hm, HC⟩ := hv.open
  have H := rhas_any _ l n w hv
  clear hv
  by_cases hr : l.contains n = true
  · have E := Lib.hid (show ins l n = l by unfold ins; rw [if_pos hr])
    rw [hr] at H
    go_enter Try.func25, Try.ntmps25
    go_wp2_with fail
    refine H.mono ?_
    rintro e w' ⟨rfl, rfl⟩
    go_wp2
    go_ret
    exact ⟨_, rfl, by rw [E.out]; exact HV.out, Below.refl _ _⟩
  · have hr' : l.contains n = false := by simpa using hr
    have E := Lib.hid (show ins l n = put n l by unfold ins; rw [if_neg hr])
    rw [hr'] at H
    clear hr hr'
    go_enter Try.func25, Try.ntmps25
    go_wp2_with fail
    refine H.mono ?_
    rintro e w' ⟨rfl, rfl⟩
    clear H
    go_wp2
    go_loopg [5, 6, 7] l.length (fun g s5 s6 s7 wx => ∃ (k : Nat) (o : List Int) (d : Bool), k + g = l.length ∧ s7 = .int .i64 k ∧ s6 = .bool d ∧ wx.ownsRow w.heap.size 3 1 s5 o.length (intsV o) ∧ o.length ≤ k + 1 ∧ Hid (InsRel n (l.take k) o d) ∧ Below w.heap.size w wx)
    case atStart => exact ⟨0, [], false, by omega, rfl, rfl, World.ownsRow_nil _ _ _ _, by simp, Lib.hid (InsRel.start n), Below.refl _ _⟩
    case round =>
      obtain ⟨k, o, d, hk, rfl, rfl, o1, ho, HI, hbw⟩ := hrel
      have hsz := hbw.size
      cases gk with
      | zero =>
        have hz : ¬ ((k : Int) < (l.length : Int)) := by omega
        have ht : l.take k = l := List.take_of_length_le (by omega)
        have HI2 := Lib.hid (show InsRel n l o d by have := HI.out; rw [ht] at this; exact this)
        have ho2 : o.length ≤ 1002 := by omega
        replace hk := Lib.hid hk
        clear ht HI ho
        cases d with
        | true =>
          go_wp2
          go_ret
          refine ⟨_, rfl, ?_, hbw⟩
          rw [E.out, ← HI2.out.endT]
          exact RS.own o1
        | false =>
          go_wp2_with (at_builtin
                       refine wpList_push _ rfl _ _ 22 rfl w.heap.size 3 (.int .i64 0) 1 8 Try.underlying22 info_int rfl (by omega) u5 o.length _ rfl o1 [.int .i64 n] rfl rfl (by simp [Value.oneCell']) (by omega) (by omega) hsz ?_
                       intro v1 w1 p1 gr1 nb1
                       have bw1 := below_grown hbw gr1 o1 (Nat.le_refl _) hsz
                       replace p1 := Lib.hid p1
                       clear nb1 gr1 o1)
          go_ret
          refine ⟨_, rfl, ?_, bw1⟩
          rw [E.out, ← HI2.out.endF, intsV_snoc]
          exact RS.own p1.out
      | succ g =>
        have hz : (k : Int) < (l.length : Int) := by omega
        obtain ⟨y, hy, ht, _⟩ := at_take (l := l) (k := k) (by omega)
        obtain ⟨b1, o2, rfl, hb1, c1⟩ := HC.out.rd hbw hy
        have ho2 : o.length ≤ 1001 := by omega
        have ho3 := Lib.hid (show o.length ≤ k + 1 from ho)
        have hk2 := Lib.hid hk
        have hy' := Lib.hid hy
        clear ho hk hy
        replace ht := Lib.hid ht
        cases d with
        | false =>
          by_cases hn : n < y
          · have HI2 := Lib.hid (HI.out.here hn)
            have hx : decide (n < y) = true := by simpa using hn
            have c1' := Lib.hid c1
            have ho4 : o.length ≤ k := by have := (HI.out.1 rfl).1; rw [this, List.length_take]; omega
            go_wp2_with (first
              | (at_builtin
                 refine wpList_push _ rfl _ _ 22 rfl w.heap.size 3 (.int .i64 0) 1 8 Try.underlying22 info_int rfl (by omega) u5 o.length _ rfl o1 [.int .i64 n] rfl rfl (by simp [Value.oneCell']) (by omega) (by omega) hsz ?_
                 intro v1 w1 p1 gr1 nb1
                 have bw1 := below_grown hbw gr1 o1 (Nat.le_refl _) hsz
                 have c2 : w1.cell? ⟨b1, o2 + k, none⟩ = some (.int .i64 y) := by
                   obtain ⟨b2, o3, e, _, c⟩ := HC.out.rd bw1 hy'.out
                   cases e
                   exact c
                 clear nb1 gr1 o1 c1)
              | (at_builtin
                 refine wpList_push _ rfl _ _ 22 rfl w.heap.size 3 (.int .i64 0) 1 8 Try.underlying22 info_int rfl (by omega) v1 (o.length + 1) _ rfl p1 [.int .i64 y] rfl rfl (by simp [Value.oneCell']) (by omega) (by omega) bw1.size ?_
                 intro v2 w2 p2 gr2 nb2
                 have bw2 := below_grown bw1 gr2 p1 (Nat.le_refl _) bw1.size
                 clear nb2 gr2 p1 c2))
            go_roundg g
            case measure => omega
            case rel => exact ⟨k+1, o ++ [n] ++ [y], true, by have := hk2.out; omega, by go_num, rfl, by simpa [intsV] using p2, by simp; omega, by rw [ht.out]; exact HI2, bw2⟩
          · have HI2 := Lib.hid (HI.out.on fun _ => hn)
            have hx : decide (n < y) = false := by simpa using hn
            go_wp2_with (at_builtin
                         refine wpList_push _ rfl _ _ 22 rfl w.heap.size 3 (.int .i64 0) 1 8 Try.underlying22 info_int rfl (by omega) u5 o.length _ rfl o1 [.int .i64 y] rfl rfl (by simp [Value.oneCell']) (by omega) (by omega) hsz ?_
                         intro v1 w1 p1 gr1 nb1
                         have bw1 := below_grown hbw gr1 o1 (Nat.le_refl _) hsz
                         clear nb1 gr1 o1 c1)
            go_roundg g
            case measure => omega
            case rel => exact ⟨k+1, o ++ [y], false, by have := hk2.out; omega, by go_num, rfl, by simpa [intsV] using p1, by have := ho3.out; simp; omega, by rw [ht.out]; exact HI2, bw1⟩
        | true =>
            have HI2 := Lib.hid (HI.out.on (x := y) (by simp))
            go_wp2_with (at_builtin
                         refine wpList_push _ rfl _ _ 22 rfl w.heap.size 3 (.int .i64 0) 1 8 Try.underlying22 info_int rfl (by omega) u5 o.length _ rfl o1 [.int .i64 y] rfl rfl (by simp [Value.oneCell']) (by omega) (by omega) hsz ?_
                         intro v1 w1 p1 gr1 nb1
                         have bw1 := below_grown hbw gr1 o1 (Nat.le_refl _) hsz
                         clear nb1 gr1 o1 c1)
            go_roundg g
            case measure => omega
            case rel => exact ⟨k+1, o ++ [y], true, by have := hk2.out; omega, by go_num, rfl, by simpa [intsV] using p1, by have := ho3.out; simp; omega, by rw [ht.out]; exact HI2, bw1⟩
theorem put_length_le (l : List Int) (n : Int) : (ins l n).length ≤ l.length + 1 := length_ins l n
set_option maxHeartbeats 400000 in
theorem rmake_any (v : Value) (l : List Int) (w : World) (hv : RS w v (intsV l)) (hl : l.length ≤ 999) :
    Calls Try.prog 12 #[v] w (RetL w (mk l)) := by
  obtain ⟨a, cap, rfl, hm, HC⟩ := hv.open
  clear hv
  go_enter Try.func12, Try.ntmps12
  go_wp2
  go_loopg [3, 4] l.length (fun g s3 s4 wx => ∃ k : Nat, k + g = l.length ∧ s4 = .int .i64 k ∧ Hid (RS wx s3 (intsV (mk (l.take k)))) ∧ Below w.heap.size w wx)
  case atStart => exact ⟨0, by omega, rfl, Lib.hid (RS.nil _ _ _), Below.refl _ _⟩
  case round =>
    obtain ⟨k, hk, rfl, HR, hbw⟩ := hrel
    cases gk with
    | zero =>
      have hz : ¬ ((k : Int) < (l.length : Int)) := by omega
      have HR2 := Lib.hid (show RS wr u3 (intsV (mk l)) by have := HR.out; rw [List.take_of_length_le (by omega)] at this; exact this)
      replace hk := Lib.hid hk
      clear HR
      go_wp2
      go_ret
      exact ⟨_, rfl, HR2.out, hbw⟩
    | succ g =>
      have hz : (k : Int) < (l.length : Int) := by omega
      obtain ⟨y, hy, ht, _⟩ := at_take (l := l) (k := k) (by omega)
      obtain ⟨b1, o1, rfl, hb1, c1⟩ := HC.out.rd hbw hy
      have H := insert_any _ (mk (l.take k)) y wr HR.out (by have := mk_length (l.take k); have := List.length_take_le k l; omega)
      rw [show ins (mk (l.take k)) y = mk (l.take (k+1)) by rw [ht, mk_snoc]] at H
      replace ht := Lib.hid ht
      replace hk := Lib.hid hk
      replace hy := Lib.hid hy
      clear HR
      go_wp2_with fail
      refine H.mono ?_
      rintro e w1 ⟨v1, rfl, hr1, hb⟩
      have hbw1 := hbw.trans (hb.mono hbw.size)
      replace hr1 := Lib.hid hr1
      clear H c1 hb
      go_wp2
      go_roundg g
      case measure => omega
      case rel => exact ⟨k+1, by have := hk.out; omega, by go_num, hr1, hbw1⟩
set_option maxHeartbeats 400000 in
theorem runion_any (v u : Value) (l m : List Int) (w : World) (hv : RS w v (intsV l)) (hu : RS w u (intsV m)) (hl : l.length + m.length ≤ 999) :
    Calls Try.prog 18 #[v, u] w (RetL w (sel kU l m)) := by
  rw [← selU]
  obtain ⟨a, cap, rfl, hm, HC⟩ := hu.open
  have H0 := rmake_any _ l w hv (by omega)
  clear hv hu
  go_enter Try.func18, Try.ntmps18
  go_wp2_with fail
  refine H0.mono ?_
  rintro e w1 ⟨v1, rfl, hr1, hb1⟩
  replace hr1 := Lib.hid hr1
  clear H0
  go_wp2
  go_loopg [5, 6] m.length (fun g s5 s6 wx => ∃ k : Nat, k + g = m.length ∧ s6 = .int .i64 k ∧ Hid (RS wx s5 (intsV (mk (l ++ m.take k)))) ∧ Below w.heap.size w wx)
  case atStart => exact ⟨0, by omega, rfl, Lib.hid (by simpa using hr1.out), hb1⟩
  case round =>
    obtain ⟨k, hk, rfl, HR, hbw⟩ := hrel
    clear hr1 hb1
    cases gk with
    | zero =>
      have hz : ¬ ((k : Int) < (m.length : Int)) := by omega
      have HR2 := Lib.hid (show RS wr u5 (intsV (mk (l ++ m))) by have := HR.out; rw [List.take_of_length_le (by omega)] at this; exact this)
      replace hk := Lib.hid hk
      clear HR
      go_wp2
      go_ret
      exact ⟨_, rfl, HR2.out, hbw⟩
    | succ g =>
      have hz : (k : Int) < (m.length : Int) := by omega
      obtain ⟨y, hy, ht, _⟩ := at_take (l := m) (k := k) (by omega)
      obtain ⟨b1, o1, rfl, hb1, c1⟩ := HC.out.rd hbw hy
      have H := insert_any _ (mk (l ++ m.take k)) y wr HR.out (by have := mk_length (l ++ m.take k); have := List.length_take_le k m; simp at *; omega)
      rw [show ins (mk (l ++ m.take k)) y = mk (l ++ m.take (k+1)) by rw [ht, ← List.append_assoc, mk_snoc]] at H
      replace ht := Lib.hid ht
      replace hk := Lib.hid hk
      replace hy := Lib.hid hy
      clear HR
      go_wp2_with fail
      refine H.mono ?_
      rintro e w1 ⟨v1, rfl, hr1, hb⟩
      have hbw1 := hbw.trans (hb.mono hbw.size)
      replace hr1 := Lib.hid hr1
      clear H c1 hb
      go_wp2
      go_roundg g
      case measure => omega
      case rel => exact ⟨k+1, by have := hk.out; omega, by go_num, hr1, hbw1⟩
set_option maxHeartbeats 400000 in
theorem chosen_any (v u : Value) (l m : List Int) (c : Bool) (w : World) (hv : RS w v (intsV l)) (hu : RS w u (intsV m)) (hl : l.length ≤ 999) :
    Calls Try.prog 30 #[v, u, .bool c] w (RetL w (mk (l.filter fun n => m.contains n == c))) := by
  obtain ⟨a, cap, rfl, hm, HC⟩ := hv.open
  have HU := Lib.hid hu
  clear hv hu
  obtain ⟨L, hL⟩ : ∃ L, mk (l.filter fun n => m.contains n == c) = L := ⟨_, rfl⟩
  rw [hL]
  replace hL := Lib.hid hL
  go_enter Try.func30, Try.ntmps30
  go_wp2
  go_loopg [7, 8] l.length (fun g s7 s8 wx => ∃ k : Nat, k + g = l.length ∧ s8 = .int .i64 k ∧ Hid (RS wx s7 (intsV (mk ((l.take k).filter fun n => m.contains n == c)))) ∧ Below w.heap.size w wx)
  case atStart => exact ⟨0, by omega, rfl, Lib.hid (RS.nil _ _ _), Below.refl _ _⟩
  case round =>
    obtain ⟨k, hk, rfl, HR, hbw⟩ := hrel
    cases gk with
    | zero =>
      have hz : ¬ ((k : Int) < (l.length : Int)) := by omega
      have HR2 := Lib.hid (show RS wr u7 (intsV L) by have := HR.out; rw [List.take_of_length_le (by omega), hL.out] at this; exact this)
      replace hk := Lib.hid hk
      clear HR
      go_wp2
      go_ret
      exact ⟨_, rfl, HR2.out, hbw⟩
    | succ g =>
      have hz : (k : Int) < (l.length : Int) := by omega
      obtain ⟨y, hy, ht, _⟩ := at_take (l := l) (k := k) (by omega)
      obtain ⟨b1, o1, rfl, hb1, c1⟩ := HC.out.rd hbw hy
      have G := rhas_any u m y wr (HU.out.below hbw)
      have H := insert_any _ (mk ((l.take k).filter fun n => m.contains n == c)) y wr HR.out (by have := mk_length ((l.take k).filter fun n => m.contains n == c); have := List.length_filter_le (fun n => m.contains n == c) (l.take k); have := List.length_take_le k l; omega)
      have HT := Lib.hid ht
      replace hk := Lib.hid hk
      replace hy := Lib.hid hy
      obtain ⟨q, hq⟩ : ∃ q, m.contains y = q := ⟨_, rfl⟩
      rw [hq] at G
      by_cases hqc : q = c
      · have e1 : (q == c) = true := by simpa using hqc
        rw [show ins (mk ((l.take k).filter fun n => m.contains n == c)) y = mk ((l.take (k+1)).filter fun n => m.contains n == c) by
          rw [ht, List.filter_append, show ([y].filter fun n => m.contains n == c) = [y] by simp only [List.filter_cons, hq, e1, if_true, List.filter_nil], mk_snoc]] at H
        replace hq := Lib.hid hq
        clear HR ht hqc
        go_wp2_with fail
        refine G.mono ?_
        rintro e w' ⟨rfl, rfl⟩
        go_wp2_with fail
        refine H.mono ?_
        rintro e w1 ⟨v1, rfl, hr1, hb⟩
        have hbw1 := hbw.trans (hb.mono hbw.size)
        replace hr1 := Lib.hid hr1
        clear H G c1 hb
        go_wp2
        go_roundg g
        case measure => omega
        case rel => exact ⟨k+1, by have := hk.out; omega, by go_num, hr1, hbw1⟩
      · have e1 : (q == c) = false := by simpa using hqc
        have HR2 := Lib.hid (show RS wr u7 (intsV (mk ((l.take (k+1)).filter fun n => m.contains n == c))) by
          rw [ht, List.filter_append, show ([y].filter fun n => m.contains n == c) = [] by simp only [List.filter_cons, hq, e1, if_false, List.filter_nil, Bool.false_eq_true], List.append_nil]; exact HR.out)
        replace hq := Lib.hid hq
        clear HR ht hqc H
        go_wp2_with fail
        refine G.mono ?_
        rintro e w' ⟨rfl, rfl⟩
        go_wp2
        go_roundg g
        case measure => omega
        case rel => exact ⟨k+1, by have := hk.out; omega, by go_num, HR2, hbw⟩
theorem rcommon_any (v u : Value) (l m : List Int) (w : World) (hv : RS w v (intsV l)) (hu : RS w u (intsV m)) (hl : l.length ≤ 999) :
    Calls Try.prog 20 #[v, u] w (RetL w (sel kC l m)) := by
  have H := chosen_any v u l m true w hv hu hl
  rw [selC] at H
  clear hv hu
  go_enter Try.func20, Try.ntmps20
  go_wp2_with fail
  refine H.mono ?_
  rintro e w1 ⟨v1, rfl, hr1, hb⟩
  clear H
  replace hr1 := Lib.hid hr1
  go_wp2
  go_ret
  exact ⟨_, rfl, hr1.out, hb⟩
theorem rminus_any (v u : Value) (l m : List Int) (w : World) (hv : RS w v (intsV l)) (hu : RS w u (intsV m)) (hl : l.length ≤ 999) :
    Calls Try.prog 22 #[v, u] w (RetL w (sel kM l m)) := by
  have H := chosen_any v u l m false w hv hu hl
  rw [selM] at H
  clear hv hu
  go_enter Try.func22, Try.ntmps22
  go_wp2_with fail
  refine H.mono ?_
  rintro e w1 ⟨v1, rfl, hr1, hb⟩
  clear H
  replace hr1 := Lib.hid hr1
  go_wp2
  go_ret
  exact ⟨_, rfl, hr1.out, hb⟩
def within (l m : List Int) : Bool := (sel kM l m).length == 0
theorem rwithin_any (v u : Value) (l m : List Int) (w : World) (hv : RS w v (intsV l)) (hu : RS w u (intsV m)) (hl : l.length ≤ 999) :
    Calls Try.prog 16 #[v, u] w (RetB w (within l m)) := by
  have H := rminus_any v u l m w hv hu hl
  clear hv hu
  go_enter Try.func16, Try.ntmps16
  go_wp2_with fail
  refine H.mono ?_
  rintro e w1 ⟨v1, rfl, hr1, hb⟩
  obtain ⟨a, cap, rfl, _, _⟩ := hr1.open
  clear H hr1
  obtain ⟨r, hr⟩ : ∃ r, within l m = r := ⟨_, rfl⟩
  have hr2 : (((sel kM l m).length : Int) == 0) = r := by rw [← hr, within, Bool.eq_iff_iff]; simp
  replace hr := Lib.hid hr
  go_wp2
  go_ret
  exact ⟨ret1_bool hr.out.symm, hb⟩
set_option maxHeartbeats 400000 in
theorem ascending_any (v : Value) (l : List Int) (w : World) (hv : RS w v (intsV l)) (ha : Asc l) :
    Calls Try.prog 23 #[v] w (RetB w true) := by
  obtain ⟨a, cap, rfl, hm, HC⟩ := hv.open
  replace ha := Lib.hid ha
  clear hv
  go_enter Try.func23, Try.ntmps23
  go_wp2
  go_loopg [3] l.length (fun g s3 wx => ∃ k : Nat, 1 ≤ k ∧ l.length ≤ k + g ∧ s3 = .int .i64 k ∧ Below w.heap.size w wx)
  case atStart => exact ⟨1, by omega, by omega, rfl, Below.refl _ _⟩
  case round =>
    obtain ⟨k, hk1, hk, rfl, hbw⟩ := hrel
    by_cases hz : (k : Int) < (l.length : Int)
    · obtain ⟨y, hy, _, _⟩ := at_take (l := l) (k := k) (by omega)
      obtain ⟨x, hx, _, _⟩ := at_take (l := l) (k := k-1) (by omega)
      obtain ⟨b1, o1, rfl, _, c1⟩ := HC.out.rd hbw hy
      obtain ⟨b2, o2, e, _, c2⟩ := HC.out.rd hbw hx
      cases e
      have lt : ¬ y ≤ x := by have := asc_lt ha.out (show k-1 < k by omega) hx hy; omega
      obtain ⟨g, rfl⟩ : ∃ g, gk = g + 1 := ⟨gk - 1, by omega⟩
      have hkn : 0 ≤ (k : Int) - 1 := by omega
      replace hy := Lib.hid hy
      replace hx := Lib.hid hx
      have hk2 := Lib.hid hk
      clear hk
      obtain ⟨j, rfl⟩ : ∃ j, k = j + 1 := ⟨k - 1, by omega⟩
      simp only [Nat.add_sub_cancel] at c2
      go_wp2
      go_quiet (fail)
      go_wp2
      go_roundg g
      case measure => omega
      case rel => exact ⟨j+1+1, by omega, by have := hk2.out; omega, by go_num, bdrew hbw _⟩
    · go_wp2
      go_ret
      exact ⟨rfl, hbw⟩
theorem large_any (v u : Value) (l m : List Int) (w : World) (r : Bool) (hv : RS w v (intsV l)) (hu : RS w u (intsV m)) (hr : r = true ↔ (200 < l.length ∨ 200 < m.length)) :
    Calls Try.prog 8 #[v, u] w fun e w' => e = .returned (.bool r) ∧ w = w' := by
  obtain ⟨a, cap, rfl, _, HC⟩ := hv.open
  obtain ⟨b, cap', rfl, _, HD⟩ := hu.open
  clear hv hu
  by_cases h : 200 < l.length
  · have h1 : (200 : Int) < (l.length : Int) := by omega
    obtain rfl : r = true := hr.2 (Or.inl h)
    clear h hr
    go_enter Try.func8, Try.ntmps8
    go_wp2
    go_ret
    exact ⟨rfl, rfl⟩
  · have h1 : ¬ (200 : Int) < (l.length : Int) := by omega
    by_cases h' : 200 < m.length
    · have h2 : (200 : Int) < (m.length : Int) := by omega
      obtain rfl : r = true := hr.2 (Or.inr h')
      clear h h' hr
      go_enter Try.func8, Try.ntmps8
      go_wp2
      go_ret
      exact ⟨rfl, rfl⟩
    · have h2 : ¬ (200 : Int) < (m.length : Int) := by omega
      obtain rfl : r = false := by cases r with | false => rfl | true => exact absurd (hr.1 rfl) (by simp [h, h'])
      clear h h' hr
      go_enter Try.func8, Try.ntmps8
      go_wp2
      go_ret
      exact ⟨rfl, rfl⟩
end Go.Proofs.Ytgaikipcoalcnaa
