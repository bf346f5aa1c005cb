/- Texts of the layers 5 to 7, merged. -/
import Derived.Laws.Rows
import Derived.Shelf.Abstract
import Derived.Test.YteafkginhejllaaGreatDoorF8
namespace Go.Proofs.YteafkginhejllaaGreatDoor
section
open Go.ChangeShapes Go.WideShapes Go.ChangeAt Go.RowKit
def sideC : Array Value := #[.int .i64 0, .int .i64 2, .int .i64 3, .int .i64 4]
/-- WHAT THE PROGRAM READS: its table. -/
def GW (w : World) : Prop := ∃ t fr, w.heap[0]? = some (.cells sideC t fr)
theorem GW.below {w w' : World} (h : GW w) (hb : Below w.heap.size w w') : GW w' := by
  obtain ⟨t, fr, h0⟩ := h
  exact ⟨t, fr, by rw [hb.block _ (Array.getElem?_eq_some_iff.1 h0).1]; exact h0⟩
theorem GW.side {w : World} (h : GW w) (j : Nat) (x : Value) (hx : sideC[j]? = some x) : w.cell? ⟨0, j, none⟩ = some x := by
  obtain ⟨t, fr, h0⟩ := h
  rw [cell_of_row w _ j sideC t fr h0]; exact hx
theorem sides_any (k : Int) (w : World) (hG : GW w) : Calls Tryz.prog 68 #[.int .i64 k] w fun e w' => e = .returned (.int .i64 (sidesS k)) ∧ w = w' := by
  by_cases h : k < 0 ∨ 4 ≤ k
  · have e : sidesS k = 0 := by unfold sidesS; rw [if_neg (by omega), if_neg (by omega), if_neg (by omega)]
    rw [e]
    rcases h with h | h
    · go_enter Tryz.func68, Tryz.ntmps68
      go_wp2
      go_ret
      exact ⟨rfl, rfl⟩
    · have h0 : ¬ (k < 0) := by omega
      go_enter Tryz.func68, Tryz.ntmps68
      go_wp2
      go_ret
      exact ⟨rfl, rfl⟩
  · have c0 := hG.side 0 _ rfl
    have c1 := hG.side 1 _ rfl
    have c2 := hG.side 2 _ rfl
    have c3 := hG.side 3 _ rfl
    have hk : k = 0 ∨ k = 1 ∨ k = 2 ∨ k = 3 := by omega
    clear h
    rcases hk with rfl | rfl | rfl | rfl
    all_goals
      go_enter Tryz.func68, Tryz.ntmps68
      go_wp2
      go_ret
      exact ⟨rfl, rfl⟩
def wiB (n lo hi : Int) : Bool := decide (lo ≤ n) && decide (n ≤ hi)
theorem within_any (n lo hi : Int) (w : World) : Calls Tryz.prog 54 #[.int .i64 n, .int .i64 lo, .int .i64 hi] w fun e w' => e = .returned (.bool (wiB n lo hi)) ∧ w = w' := by
  unfold wiB
  by_cases h : lo ≤ n
  · have t1 : decide (lo ≤ n) = true := by simpa using h
    rw [t1]
    clear h
    cases h2 : decide (n ≤ hi) <;>
    · go_enter Tryz.func54, Tryz.ntmps54
      go_wp2
      go_ret
      exact ⟨rfl, rfl⟩
  · have t1 : decide (lo ≤ n) = false := by simpa using h
    rw [t1]
    clear h
    go_enter Tryz.func54, Tryz.ntmps54
    go_wp2
    go_ret
    exact ⟨rfl, rfl⟩
theorem isIndex_any (n k : Int) (w : World) (h0 : 0 ≤ k) (h1 : k ≤ 9223372036854775807) : Calls Tryz.prog 70 #[.int .i64 n, .int .i64 k] w fun e w' => e = .returned (.bool (decide (0 ≤ n) && decide (n < k))) ∧ w = w' := by
  have E : wiB n 0 (k - 1) = (decide (0 ≤ n) && decide (n < k)) := by
    unfold wiB
    by_cases h : n < k <;> simp [h] <;> omega
  rw [← E]
  clear E
  have K := fun ww => within_any n 0 (k - 1) ww
  obtain ⟨q, hq⟩ : ∃ q, wiB n 0 (k - 1) = q := ⟨_, rfl⟩
  rw [hq]
  simp only [hq] at K
  clear hq
  go_enter Tryz.func70, Tryz.ntmps70
  go_wp2_with (go_at_call 54; refine (K _).mono ?_; rintro e w' ⟨rfl, rfl⟩)
  go_ret
  exact ⟨rfl, rfl⟩
end
section
open Go.ChangeShapes Go.WideShapes Go.ChangeAt Go.RowKit
def idxF {α : Type} (q : α → Bool) (i : Nat) : List α → Int
  | [] => -1
  | x :: r => if q x = true then (i : Int) else idxF q (i + 1) r
theorem idx_any {α : Type} (q : α → Bool) : ∀ (l : List α) (i : Nat), decide (0 ≤ idxF q i l) = l.any q
  | [], i => by simp [idxF]
  | x :: r, i => by
    unfold idxF
    cases h : q x
    · rw [if_neg (by decide), idx_any q r (i + 1)]; simp [h]
    · simp [h]


set_option maxHeartbeats 1000000 in
theorem index_S (v : Value) (l : List L8) (w : World) (g : Nat) (p : Value) (q : L8 → Bool) (eg : ∀ (args : Array Value) (w : World), (callFunc g args).run Tryz.prog w = .ok (.enter g args) w) (hr : RS w v (strsV l))
    (K : ∀ x ∈ l, ∀ ww, Below w.heap.size w ww → Calls Tryz.prog g #[str x, p] ww (RetB ww (q x))) :
    Calls Tryz.prog 132 #[v, .func (.func g) #[] #[p]] w (RetV w (.int .i64 (idxF q 0 l))) := by
  obtain ⟨a, cap, rfl, ⟨hm, _⟩, HC⟩ := hr.openS
  clear hr
  obtain ⟨res, hres⟩ : ∃ r, idxF q 0 l = r := ⟨_, rfl⟩
  rw [hres]
  have H0 := Lib.hid (show idxF q 0 (l.drop 0) = res from hres)
  clear hres
  replace K := Lib.hid K
  go_enter Tryz.func132, Tryz.ntmps132
  go_wp2
  go_loopg [8] l.length (fun g s8 wx => ∃ (k : Nat), s8 = .int .i64 k ∧ k + g = l.length ∧ Hid (idxF q k (l.drop k) = res) ∧ Below w.heap.size w wx)
  case atStart => exact ⟨0, rfl, by omega, H0, Below.refl _ _⟩
  case round =>
    obtain ⟨k, rfl, hg, HN, hbw⟩ := hrel
    clear H0
    cases gk with
    | zero =>
      have h : ¬ ((k : Int) < (l.length : Int)) := by omega
      have E : res = -1 := by have := HN.out; rw [List.drop_eq_nil_of_le (by omega)] at this; exact this.symm
      subst E
      clear HN
      go_wp2
      go_ret
      exact ⟨rfl, hbw⟩
    | succ g' =>
      have h : ((k : Int) < (l.length : Int)) := by omega
      obtain ⟨y, hy, _, hmem⟩ := at_take (l := l) (k := k) (by omega)
      obtain ⟨b, off, rfl, hlt, hc⟩ := HC.out.rd hbw hy
      have KK := K.out y hmem wr hbw
      have D := drop_get hy
      cases hw : q y with
      | true =>
        rw [hw] at KK
        have E : res = k := by have := HN.out; rw [D, idxF, if_pos hw] at this; exact this.symm
        subst E
        clear HN D hy hw
        go_wp2_with fail
        refine KK.mono ?_
        rintro e w1 ⟨rfl, b1⟩
        clear KK eg
        go_wp2
        go_ret
        exact ⟨rfl, hbw.trans (b1.mono hbw.size)⟩
      | false =>
        rw [hw] at KK
        have N := Lib.hid (show idxF q (k+1) (l.drop (k+1)) = res by have := HN.out; rwa [D, idxF, if_neg (by rw [hw]; decide)] at this)
        clear HN D hy hw
        go_wp2_with fail
        refine KK.mono ?_
        rintro e w1 ⟨rfl, b1⟩
        clear KK eg
        go_wp2
        go_roundg g'
        case measure => omega
        case rel => exact ⟨k + 1, by go_num, by omega, N, hbw.trans (b1.mono hbw.size)⟩
theorem contains_S (v : Value) (l : List L8) (w : World) (g : Nat) (p : Value) (q : L8 → Bool) (eg : ∀ (args : Array Value) (w : World), (callFunc g args).run Tryz.prog w = .ok (.enter g args) w) (hr : RS w v (strsV l))
    (K : ∀ x ∈ l, ∀ ww, Below w.heap.size w ww → Calls Tryz.prog g #[str x, p] ww (RetB ww (q x))) :
    Calls Tryz.prog 106 #[v, .func (.func g) #[] #[p]] w (RetB w (l.any q)) := by
  have KI := index_S v l w g p q eg hr K
  rw [← idx_any q l 0]
  obtain ⟨n, hn⟩ : ∃ n, idxF q 0 l = n := ⟨_, rfl⟩
  rw [hn] at KI ⊢
  clear hn K hr eg
  go_enter Tryz.func106, Tryz.ntmps106
  go_wp2_with (go_at_call 132; refine KI.mono ?_; rintro e w1 ⟨rfl, b1⟩)
  go_ret
  exact ⟨rfl, b1⟩
theorem allc_S (x : L8) (w : World) (B h : Nat) (lb : Array Value) (b : Bool) (eg : ∀ (args : Array Value) (w : World), (callFunc h args).run Tryz.prog w = .ok (.enter h args) w) (hc : w.cell? ⟨B, 0, none⟩ = some (.func (.func h) #[] lb))
    (K : ∀ ww, Below w.heap.size w ww → Calls Tryz.prog h (#[str x] ++ lb) ww (RetB ww b)) :
    Calls Tryz.prog 107 #[str x, .pointer (some ⟨B, 0, none⟩)] w (RetB w (!b)) := by
  have hl := World.block_lt_of_cell? w _ hc
  go_enter Tryz.func107, Tryz.ntmps107
  go_wp2_with fail
  refine (K _ (Below.refl _ _)).mono ?_
  rintro e w1 ⟨rfl, b1⟩
  clear K eg
  go_wp2
  go_ret
  exact ⟨rfl, b1⟩
theorem all_S (v : Value) (l : List L8) (w : World) (h : Nat) (lb : Array Value) (q : L8 → Bool) (eg : ∀ (args : Array Value) (w : World), (callFunc h args).run Tryz.prog w = .ok (.enter h args) w) (hr : RS w v (strsV l))
    (K : ∀ x ∈ l, ∀ ww, Below w.heap.size w ww → Calls Tryz.prog h (#[str x] ++ lb) ww (RetB ww (q x))) :
    Calls Tryz.prog 56 #[v, .func (.func h) #[] lb] w (RetB w (l.all q)) := by
  have HB : ∀ o, Below w.heap.size w (w.alloc o) := fun o => (Below.refl _ _).alloc (Nat.le_refl _) _
  have KC := contains_S v l (w.alloc (.cells #[.func (.func h) #[] lb] 77)) 107 (.pointer (some ⟨w.heap.size, 0, none⟩)) (fun x => !q x) (enters_of Tryz.func107 (by kernel_rfl) rfl) (hr.below (HB _))
    (fun x hx ww hb => by
      have hc : ww.cell? ⟨w.heap.size, 0, none⟩ = some (.func (.func h) #[] lb) := (hb.cell (p := ⟨w.heap.size, 0, none⟩) (by simp)).trans (by rw [World.cell?_alloc_new]; rfl)
      exact allc_S x ww w.heap.size h lb (q x) eg hc fun w2 h2 => K x hx w2 (((HB _).trans (hb.mono (by simp))).trans (h2.mono (Nat.le_trans (by simp) hb.size))))
  have E : (!(l.any fun x => !q x)) = l.all q := by rw [List.not_any_eq_all_not]; simp
  rw [← E]
  obtain ⟨n, hn⟩ : ∃ n, (l.any fun x => !q x) = n := ⟨_, rfl⟩
  rw [hn] at KC ⊢
  clear hn K hr eg E
  go_enter Tryz.func56, Tryz.ntmps56
  go_wp2_with (go_at_call 106; refine KC.mono ?_; rintro e w1 ⟨rfl, b1⟩)
  go_ret
  exact ⟨rfl, (HB _).trans (b1.mono (by simp))⟩


set_option maxHeartbeats 1000000 in
theorem index_E (v : Value) (l : List ElD) (w : World) (g : Nat) (p : Value) (q : ElD → Bool) (eg : ∀ (args : Array Value) (w : World), (callFunc g args).run Tryz.prog w = .ok (.enter g args) w) (hr : RM w v 7 (l.map elV))
    (K : ∀ x ∈ l, ∀ ww, Below w.heap.size w ww → Calls Tryz.prog g #[.agg #[str x.name, .int .i64 x.kind, .int .i64 x.length, .int .i64 x.grade, .int .i64 x.speed, .int .i64 x.slow, .int .i64 x.sec], p] ww (RetB ww (q x))) :
    Calls Tryz.prog 133 #[v, .func (.func g) #[] #[p]] w (RetV w (.int .i64 (idxF q 0 l))) := by
  obtain ⟨a, cap, rfl, ⟨hm, _⟩, HC⟩ := hr.openM
  clear hr
  obtain ⟨res, hres⟩ : ∃ r, idxF q 0 l = r := ⟨_, rfl⟩
  rw [hres]
  have H0 := Lib.hid (show idxF q 0 (l.drop 0) = res from hres)
  clear hres
  replace K := Lib.hid K
  go_enter Tryz.func133, Tryz.ntmps133
  go_wp2
  go_loopg [8] l.length (fun g s8 wx => ∃ (k : Nat), s8 = .int .i64 k ∧ k + g = l.length ∧ Hid (idxF q k (l.drop k) = res) ∧ Below w.heap.size w wx)
  case atStart => exact ⟨0, rfl, by omega, H0, Below.refl _ _⟩
  case round =>
    obtain ⟨k, rfl, hg, HN, hbw⟩ := hrel
    clear H0
    cases gk with
    | zero =>
      have h : ¬ ((k : Int) < (l.length : Int)) := by omega
      have E : res = -1 := by have := HN.out; rw [List.drop_eq_nil_of_le (by omega)] at this; exact this.symm
      subst E
      clear HN
      go_wp2
      go_ret
      exact ⟨rfl, hbw⟩
    | succ g' =>
      have h : ((k : Int) < (l.length : Int)) := by omega
      obtain ⟨y, hy, _, hmem⟩ := at_take (l := l) (k := k) (by omega)
      obtain ⟨b, off, rfl, hlt, hc⟩ := HC.out.rd hbw hy
      have c0 := hc 0 _ rfl
      have c1 := hc 1 _ rfl
      have c2 := hc 2 _ rfl
      have c3 := hc 3 _ rfl
      have c4 := hc 4 _ rfl
      have c5 := hc 5 _ rfl
      have c6 := hc 6 _ rfl
      simp only [Nat.add_zero] at c0
      clear hc
      have KK := K.out y hmem wr hbw
      have D := drop_get hy
      cases hw : q y with
      | true =>
        rw [hw] at KK
        have E : res = k := by have := HN.out; rw [D, idxF, if_pos hw] at this; exact this.symm
        subst E
        clear HN D hy hw
        go_wp2_with fail
        refine KK.mono ?_
        rintro e w1 ⟨rfl, b1⟩
        clear KK eg
        go_wp2
        go_ret
        exact ⟨rfl, hbw.trans (b1.mono hbw.size)⟩
      | false =>
        rw [hw] at KK
        have N := Lib.hid (show idxF q (k+1) (l.drop (k+1)) = res by have := HN.out; rwa [D, idxF, if_neg (by rw [hw]; decide)] at this)
        clear HN D hy hw
        go_wp2_with fail
        refine KK.mono ?_
        rintro e w1 ⟨rfl, b1⟩
        clear KK eg
        go_wp2
        go_roundg g'
        case measure => omega
        case rel => exact ⟨k + 1, by go_num, by omega, N, hbw.trans (b1.mono hbw.size)⟩
theorem contains_E (v : Value) (l : List ElD) (w : World) (g : Nat) (p : Value) (q : ElD → Bool) (eg : ∀ (args : Array Value) (w : World), (callFunc g args).run Tryz.prog w = .ok (.enter g args) w) (hr : RM w v 7 (l.map elV))
    (K : ∀ x ∈ l, ∀ ww, Below w.heap.size w ww → Calls Tryz.prog g #[.agg #[str x.name, .int .i64 x.kind, .int .i64 x.length, .int .i64 x.grade, .int .i64 x.speed, .int .i64 x.slow, .int .i64 x.sec], p] ww (RetB ww (q x))) :
    Calls Tryz.prog 108 #[v, .func (.func g) #[] #[p]] w (RetB w (l.any q)) := by
  have KI := index_E v l w g p q eg hr K
  rw [← idx_any q l 0]
  obtain ⟨n, hn⟩ : ∃ n, idxF q 0 l = n := ⟨_, rfl⟩
  rw [hn] at KI ⊢
  clear hn K hr eg
  go_enter Tryz.func108, Tryz.ntmps108
  go_wp2_with (go_at_call 133; refine KI.mono ?_; rintro e w1 ⟨rfl, b1⟩)
  go_ret
  exact ⟨rfl, b1⟩
theorem allc_E (x : ElD) (w : World) (B h : Nat) (lb : Array Value) (b : Bool) (eg : ∀ (args : Array Value) (w : World), (callFunc h args).run Tryz.prog w = .ok (.enter h args) w) (hc : w.cell? ⟨B, 0, none⟩ = some (.func (.func h) #[] lb))
    (K : ∀ ww, Below w.heap.size w ww → Calls Tryz.prog h (#[.agg #[str x.name, .int .i64 x.kind, .int .i64 x.length, .int .i64 x.grade, .int .i64 x.speed, .int .i64 x.slow, .int .i64 x.sec]] ++ lb) ww (RetB ww b)) :
    Calls Tryz.prog 109 #[.agg #[str x.name, .int .i64 x.kind, .int .i64 x.length, .int .i64 x.grade, .int .i64 x.speed, .int .i64 x.slow, .int .i64 x.sec], .pointer (some ⟨B, 0, none⟩)] w (RetB w (!b)) := by
  have hl := World.block_lt_of_cell? w _ hc
  have hc2 : ∀ o, (w.alloc o).cell? ⟨B, 0, none⟩ = some (.func (.func h) #[] lb) := fun o => (((Below.refl w.heap.size w).alloc (Nat.le_refl _) o).cell (p := ⟨B, 0, none⟩) hl).trans hc
  go_enter Tryz.func109, Tryz.ntmps109
  go_wp2_with fail
  refine (K _ ((Below.refl _ _).alloc (Nat.le_refl _) _)).mono ?_
  rintro e w1 ⟨rfl, b1⟩
  clear K eg
  go_wp2
  go_ret
  exact ⟨rfl, ((Below.refl _ _).alloc (Nat.le_refl _) _).trans (b1.mono (by simp))⟩
theorem all_E (v : Value) (l : List ElD) (w : World) (h : Nat) (lb : Array Value) (q : ElD → Bool) (eg : ∀ (args : Array Value) (w : World), (callFunc h args).run Tryz.prog w = .ok (.enter h args) w) (hr : RM w v 7 (l.map elV))
    (K : ∀ x ∈ l, ∀ ww, Below w.heap.size w ww → Calls Tryz.prog h (#[.agg #[str x.name, .int .i64 x.kind, .int .i64 x.length, .int .i64 x.grade, .int .i64 x.speed, .int .i64 x.slow, .int .i64 x.sec]] ++ lb) ww (RetB ww (q x))) :
    Calls Tryz.prog 57 #[v, .func (.func h) #[] lb] w (RetB w (l.all q)) := by
  have HB : ∀ o, Below w.heap.size w (w.alloc o) := fun o => (Below.refl _ _).alloc (Nat.le_refl _) _
  have KC := contains_E v l (w.alloc (.cells #[.func (.func h) #[] lb] 85)) 109 (.pointer (some ⟨w.heap.size, 0, none⟩)) (fun x => !q x) (enters_of Tryz.func109 (by kernel_rfl) rfl) (hr.below (HB _))
    (fun x hx ww hb => by
      have hc : ww.cell? ⟨w.heap.size, 0, none⟩ = some (.func (.func h) #[] lb) := (hb.cell (p := ⟨w.heap.size, 0, none⟩) (by simp)).trans (by rw [World.cell?_alloc_new]; rfl)
      exact allc_E x ww w.heap.size h lb (q x) eg hc fun w2 h2 => K x hx w2 (((HB _).trans (hb.mono (by simp))).trans (h2.mono (Nat.le_trans (by simp) hb.size))))
  have E : (!(l.any fun x => !q x)) = l.all q := by rw [List.not_any_eq_all_not]; simp
  rw [← E]
  obtain ⟨n, hn⟩ : ∃ n, (l.any fun x => !q x) = n := ⟨_, rfl⟩
  rw [hn] at KC ⊢
  clear hn K hr eg E
  go_enter Tryz.func57, Tryz.ntmps57
  go_wp2_with (go_at_call 108; refine KC.mono ?_; rintro e w1 ⟨rfl, b1⟩)
  go_ret
  exact ⟨rfl, (HB _).trans (b1.mono (by simp))⟩


set_option maxHeartbeats 1000000 in
theorem index_G (v : Value) (l : List SigD) (w : World) (g : Nat) (p : Value) (q : SigD → Bool) (eg : ∀ (args : Array Value) (w : World), (callFunc g args).run Tryz.prog w = .ok (.enter g args) w) (hr : RM w v 4 (l.map sgV))
    (K : ∀ x ∈ l, ∀ ww, Below w.heap.size w ww → Calls Tryz.prog g #[.agg #[str x.name, .int .i64 x.at_.1, .int .i64 x.at_.2, .int .i64 x.overlap], p] ww (RetB ww (q x))) :
    Calls Tryz.prog 134 #[v, .func (.func g) #[] #[p]] w (RetV w (.int .i64 (idxF q 0 l))) := by
  obtain ⟨a, cap, rfl, ⟨hm, _⟩, HC⟩ := hr.openM
  clear hr
  obtain ⟨res, hres⟩ : ∃ r, idxF q 0 l = r := ⟨_, rfl⟩
  rw [hres]
  have H0 := Lib.hid (show idxF q 0 (l.drop 0) = res from hres)
  clear hres
  replace K := Lib.hid K
  go_enter Tryz.func134, Tryz.ntmps134
  go_wp2
  go_loopg [8] l.length (fun g s8 wx => ∃ (k : Nat), s8 = .int .i64 k ∧ k + g = l.length ∧ Hid (idxF q k (l.drop k) = res) ∧ Below w.heap.size w wx)
  case atStart => exact ⟨0, rfl, by omega, H0, Below.refl _ _⟩
  case round =>
    obtain ⟨k, rfl, hg, HN, hbw⟩ := hrel
    clear H0
    cases gk with
    | zero =>
      have h : ¬ ((k : Int) < (l.length : Int)) := by omega
      have E : res = -1 := by have := HN.out; rw [List.drop_eq_nil_of_le (by omega)] at this; exact this.symm
      subst E
      clear HN
      go_wp2
      go_ret
      exact ⟨rfl, hbw⟩
    | succ g' =>
      have h : ((k : Int) < (l.length : Int)) := by omega
      obtain ⟨y, hy, _, hmem⟩ := at_take (l := l) (k := k) (by omega)
      obtain ⟨b, off, rfl, hlt, hc⟩ := HC.out.rd hbw hy
      have c0 := hc 0 _ rfl
      have c1 := hc 1 _ rfl
      have c2 := hc 2 _ rfl
      have c3 := hc 3 _ rfl
      simp only [Nat.add_zero] at c0
      clear hc
      have KK := K.out y hmem wr hbw
      have D := drop_get hy
      cases hw : q y with
      | true =>
        rw [hw] at KK
        have E : res = k := by have := HN.out; rw [D, idxF, if_pos hw] at this; exact this.symm
        subst E
        clear HN D hy hw
        go_wp2_with fail
        refine KK.mono ?_
        rintro e w1 ⟨rfl, b1⟩
        clear KK eg
        go_wp2
        go_ret
        exact ⟨rfl, hbw.trans (b1.mono hbw.size)⟩
      | false =>
        rw [hw] at KK
        have N := Lib.hid (show idxF q (k+1) (l.drop (k+1)) = res by have := HN.out; rwa [D, idxF, if_neg (by rw [hw]; decide)] at this)
        clear HN D hy hw
        go_wp2_with fail
        refine KK.mono ?_
        rintro e w1 ⟨rfl, b1⟩
        clear KK eg
        go_wp2
        go_roundg g'
        case measure => omega
        case rel => exact ⟨k + 1, by go_num, by omega, N, hbw.trans (b1.mono hbw.size)⟩
theorem contains_G (v : Value) (l : List SigD) (w : World) (g : Nat) (p : Value) (q : SigD → Bool) (eg : ∀ (args : Array Value) (w : World), (callFunc g args).run Tryz.prog w = .ok (.enter g args) w) (hr : RM w v 4 (l.map sgV))
    (K : ∀ x ∈ l, ∀ ww, Below w.heap.size w ww → Calls Tryz.prog g #[.agg #[str x.name, .int .i64 x.at_.1, .int .i64 x.at_.2, .int .i64 x.overlap], p] ww (RetB ww (q x))) :
    Calls Tryz.prog 110 #[v, .func (.func g) #[] #[p]] w (RetB w (l.any q)) := by
  have KI := index_G v l w g p q eg hr K
  rw [← idx_any q l 0]
  obtain ⟨n, hn⟩ : ∃ n, idxF q 0 l = n := ⟨_, rfl⟩
  rw [hn] at KI ⊢
  clear hn K hr eg
  go_enter Tryz.func110, Tryz.ntmps110
  go_wp2_with (go_at_call 134; refine KI.mono ?_; rintro e w1 ⟨rfl, b1⟩)
  go_ret
  exact ⟨rfl, b1⟩
theorem allc_G (x : SigD) (w : World) (B h : Nat) (lb : Array Value) (b : Bool) (eg : ∀ (args : Array Value) (w : World), (callFunc h args).run Tryz.prog w = .ok (.enter h args) w) (hc : w.cell? ⟨B, 0, none⟩ = some (.func (.func h) #[] lb))
    (K : ∀ ww, Below w.heap.size w ww → Calls Tryz.prog h (#[.agg #[str x.name, .int .i64 x.at_.1, .int .i64 x.at_.2, .int .i64 x.overlap]] ++ lb) ww (RetB ww b)) :
    Calls Tryz.prog 111 #[.agg #[str x.name, .int .i64 x.at_.1, .int .i64 x.at_.2, .int .i64 x.overlap], .pointer (some ⟨B, 0, none⟩)] w (RetB w (!b)) := by
  have hl := World.block_lt_of_cell? w _ hc
  have hc2 : ∀ o, (w.alloc o).cell? ⟨B, 0, none⟩ = some (.func (.func h) #[] lb) := fun o => (((Below.refl w.heap.size w).alloc (Nat.le_refl _) o).cell (p := ⟨B, 0, none⟩) hl).trans hc
  go_enter Tryz.func111, Tryz.ntmps111
  go_wp2_with fail
  refine (K _ ((Below.refl _ _).alloc (Nat.le_refl _) _)).mono ?_
  rintro e w1 ⟨rfl, b1⟩
  clear K eg
  go_wp2
  go_ret
  exact ⟨rfl, ((Below.refl _ _).alloc (Nat.le_refl _) _).trans (b1.mono (by simp))⟩
theorem all_G (v : Value) (l : List SigD) (w : World) (h : Nat) (lb : Array Value) (q : SigD → Bool) (eg : ∀ (args : Array Value) (w : World), (callFunc h args).run Tryz.prog w = .ok (.enter h args) w) (hr : RM w v 4 (l.map sgV))
    (K : ∀ x ∈ l, ∀ ww, Below w.heap.size w ww → Calls Tryz.prog h (#[.agg #[str x.name, .int .i64 x.at_.1, .int .i64 x.at_.2, .int .i64 x.overlap]] ++ lb) ww (RetB ww (q x))) :
    Calls Tryz.prog 59 #[v, .func (.func h) #[] lb] w (RetB w (l.all q)) := by
  have HB : ∀ o, Below w.heap.size w (w.alloc o) := fun o => (Below.refl _ _).alloc (Nat.le_refl _) _
  have KC := contains_G v l (w.alloc (.cells #[.func (.func h) #[] lb] 87)) 111 (.pointer (some ⟨w.heap.size, 0, none⟩)) (fun x => !q x) (enters_of Tryz.func111 (by kernel_rfl) rfl) (hr.below (HB _))
    (fun x hx ww hb => by
      have hc : ww.cell? ⟨w.heap.size, 0, none⟩ = some (.func (.func h) #[] lb) := (hb.cell (p := ⟨w.heap.size, 0, none⟩) (by simp)).trans (by rw [World.cell?_alloc_new]; rfl)
      exact allc_G x ww w.heap.size h lb (q x) eg hc fun w2 h2 => K x hx w2 (((HB _).trans (hb.mono (by simp))).trans (h2.mono (Nat.le_trans (by simp) hb.size))))
  have E : (!(l.any fun x => !q x)) = l.all q := by rw [List.not_any_eq_all_not]; simp
  rw [← E]
  obtain ⟨n, hn⟩ : ∃ n, (l.any fun x => !q x) = n := ⟨_, rfl⟩
  rw [hn] at KC ⊢
  clear hn K hr eg E
  go_enter Tryz.func59, Tryz.ntmps59
  go_wp2_with (go_at_call 110; refine KC.mono ?_; rintro e w1 ⟨rfl, b1⟩)
  go_ret
  exact ⟨rfl, (HB _).trans (b1.mono (by simp))⟩


set_option maxHeartbeats 1000000 in
theorem index_J (v : Value) (l : List (EndD × EndD)) (w : World) (g : Nat) (p : Value) (q : (EndD × EndD) → Bool) (eg : ∀ (args : Array Value) (w : World), (callFunc g args).run Tryz.prog w = .ok (.enter g args) w) (hr : RM w v 4 (l.map joV))
    (K : ∀ x ∈ l, ∀ ww, Below w.heap.size w ww → Calls Tryz.prog g #[.agg #[.int .i64 x.1.1, .int .i64 x.1.2, .int .i64 x.2.1, .int .i64 x.2.2], p] ww (RetB ww (q x))) :
    Calls Tryz.prog 135 #[v, .func (.func g) #[] #[p]] w (RetV w (.int .i64 (idxF q 0 l))) := by
  obtain ⟨a, cap, rfl, ⟨hm, _⟩, HC⟩ := hr.openM
  clear hr
  obtain ⟨res, hres⟩ : ∃ r, idxF q 0 l = r := ⟨_, rfl⟩
  rw [hres]
  have H0 := Lib.hid (show idxF q 0 (l.drop 0) = res from hres)
  clear hres
  replace K := Lib.hid K
  go_enter Tryz.func135, Tryz.ntmps135
  go_wp2
  go_loopg [8] l.length (fun g s8 wx => ∃ (k : Nat), s8 = .int .i64 k ∧ k + g = l.length ∧ Hid (idxF q k (l.drop k) = res) ∧ Below w.heap.size w wx)
  case atStart => exact ⟨0, rfl, by omega, H0, Below.refl _ _⟩
  case round =>
    obtain ⟨k, rfl, hg, HN, hbw⟩ := hrel
    clear H0
    cases gk with
    | zero =>
      have h : ¬ ((k : Int) < (l.length : Int)) := by omega
      have E : res = -1 := by have := HN.out; rw [List.drop_eq_nil_of_le (by omega)] at this; exact this.symm
      subst E
      clear HN
      go_wp2
      go_ret
      exact ⟨rfl, hbw⟩
    | succ g' =>
      have h : ((k : Int) < (l.length : Int)) := by omega
      obtain ⟨y, hy, _, hmem⟩ := at_take (l := l) (k := k) (by omega)
      obtain ⟨b, off, rfl, hlt, hc⟩ := HC.out.rd hbw hy
      have c0 := hc 0 _ rfl
      have c1 := hc 1 _ rfl
      have c2 := hc 2 _ rfl
      have c3 := hc 3 _ rfl
      simp only [Nat.add_zero] at c0
      clear hc
      have KK := K.out y hmem wr hbw
      have D := drop_get hy
      cases hw : q y with
      | true =>
        rw [hw] at KK
        have E : res = k := by have := HN.out; rw [D, idxF, if_pos hw] at this; exact this.symm
        subst E
        clear HN D hy hw
        go_wp2_with fail
        refine KK.mono ?_
        rintro e w1 ⟨rfl, b1⟩
        clear KK eg
        go_wp2
        go_ret
        exact ⟨rfl, hbw.trans (b1.mono hbw.size)⟩
      | false =>
        rw [hw] at KK
        have N := Lib.hid (show idxF q (k+1) (l.drop (k+1)) = res by have := HN.out; rwa [D, idxF, if_neg (by rw [hw]; decide)] at this)
        clear HN D hy hw
        go_wp2_with fail
        refine KK.mono ?_
        rintro e w1 ⟨rfl, b1⟩
        clear KK eg
        go_wp2
        go_roundg g'
        case measure => omega
        case rel => exact ⟨k + 1, by go_num, by omega, N, hbw.trans (b1.mono hbw.size)⟩
theorem contains_J (v : Value) (l : List (EndD × EndD)) (w : World) (g : Nat) (p : Value) (q : (EndD × EndD) → Bool) (eg : ∀ (args : Array Value) (w : World), (callFunc g args).run Tryz.prog w = .ok (.enter g args) w) (hr : RM w v 4 (l.map joV))
    (K : ∀ x ∈ l, ∀ ww, Below w.heap.size w ww → Calls Tryz.prog g #[.agg #[.int .i64 x.1.1, .int .i64 x.1.2, .int .i64 x.2.1, .int .i64 x.2.2], p] ww (RetB ww (q x))) :
    Calls Tryz.prog 114 #[v, .func (.func g) #[] #[p]] w (RetB w (l.any q)) := by
  have KI := index_J v l w g p q eg hr K
  rw [← idx_any q l 0]
  obtain ⟨n, hn⟩ : ∃ n, idxF q 0 l = n := ⟨_, rfl⟩
  rw [hn] at KI ⊢
  clear hn K hr eg
  go_enter Tryz.func114, Tryz.ntmps114
  go_wp2_with (go_at_call 135; refine KI.mono ?_; rintro e w1 ⟨rfl, b1⟩)
  go_ret
  exact ⟨rfl, b1⟩
theorem allc_J (x : (EndD × EndD)) (w : World) (B h : Nat) (lb : Array Value) (b : Bool) (eg : ∀ (args : Array Value) (w : World), (callFunc h args).run Tryz.prog w = .ok (.enter h args) w) (hc : w.cell? ⟨B, 0, none⟩ = some (.func (.func h) #[] lb))
    (K : ∀ ww, Below w.heap.size w ww → Calls Tryz.prog h (#[.agg #[.int .i64 x.1.1, .int .i64 x.1.2, .int .i64 x.2.1, .int .i64 x.2.2]] ++ lb) ww (RetB ww b)) :
    Calls Tryz.prog 115 #[.agg #[.int .i64 x.1.1, .int .i64 x.1.2, .int .i64 x.2.1, .int .i64 x.2.2], .pointer (some ⟨B, 0, none⟩)] w (RetB w (!b)) := by
  have hl := World.block_lt_of_cell? w _ hc
  have hc2 : ∀ o, (w.alloc o).cell? ⟨B, 0, none⟩ = some (.func (.func h) #[] lb) := fun o => (((Below.refl w.heap.size w).alloc (Nat.le_refl _) o).cell (p := ⟨B, 0, none⟩) hl).trans hc
  go_enter Tryz.func115, Tryz.ntmps115
  go_wp2_with fail
  refine (K _ ((Below.refl _ _).alloc (Nat.le_refl _) _)).mono ?_
  rintro e w1 ⟨rfl, b1⟩
  clear K eg
  go_wp2
  go_ret
  exact ⟨rfl, ((Below.refl _ _).alloc (Nat.le_refl _) _).trans (b1.mono (by simp))⟩
theorem all_J (v : Value) (l : List (EndD × EndD)) (w : World) (h : Nat) (lb : Array Value) (q : (EndD × EndD) → Bool) (eg : ∀ (args : Array Value) (w : World), (callFunc h args).run Tryz.prog w = .ok (.enter h args) w) (hr : RM w v 4 (l.map joV))
    (K : ∀ x ∈ l, ∀ ww, Below w.heap.size w ww → Calls Tryz.prog h (#[.agg #[.int .i64 x.1.1, .int .i64 x.1.2, .int .i64 x.2.1, .int .i64 x.2.2]] ++ lb) ww (RetB ww (q x))) :
    Calls Tryz.prog 72 #[v, .func (.func h) #[] lb] w (RetB w (l.all q)) := by
  have HB : ∀ o, Below w.heap.size w (w.alloc o) := fun o => (Below.refl _ _).alloc (Nat.le_refl _) _
  have KC := contains_J v l (w.alloc (.cells #[.func (.func h) #[] lb] 99)) 115 (.pointer (some ⟨w.heap.size, 0, none⟩)) (fun x => !q x) (enters_of Tryz.func115 (by kernel_rfl) rfl) (hr.below (HB _))
    (fun x hx ww hb => by
      have hc : ww.cell? ⟨w.heap.size, 0, none⟩ = some (.func (.func h) #[] lb) := (hb.cell (p := ⟨w.heap.size, 0, none⟩) (by simp)).trans (by rw [World.cell?_alloc_new]; rfl)
      exact allc_J x ww w.heap.size h lb (q x) eg hc fun w2 h2 => K x hx w2 (((HB _).trans (hb.mono (by simp))).trans (h2.mono (Nat.le_trans (by simp) hb.size))))
  have E : (!(l.any fun x => !q x)) = l.all q := by rw [List.not_any_eq_all_not]; simp
  rw [← E]
  obtain ⟨n, hn⟩ : ∃ n, (l.any fun x => !q x) = n := ⟨_, rfl⟩
  rw [hn] at KC ⊢
  clear hn K hr eg E
  go_enter Tryz.func72, Tryz.ntmps72
  go_wp2_with (go_at_call 114; refine KC.mono ?_; rintro e w1 ⟨rfl, b1⟩)
  go_ret
  exact ⟨rfl, (HB _).trans (b1.mono (by simp))⟩


set_option maxHeartbeats 1000000 in
theorem index_B (v : Value) (l : List BalD) (w : World) (g : Nat) (p : Value) (q : BalD → Bool) (eg : ∀ (args : Array Value) (w : World), (callFunc g args).run Tryz.prog w = .ok (.enter g args) w) (hr : RM w v 3 (l.map blV))
    (K : ∀ x ∈ l, ∀ ww, Below w.heap.size w ww → Calls Tryz.prog g #[.agg #[.int .i64 x.id, .int .i64 x.el, .int .i64 x.off], p] ww (RetB ww (q x))) :
    Calls Tryz.prog 137 #[v, .func (.func g) #[] #[p]] w (RetV w (.int .i64 (idxF q 0 l))) := by
  obtain ⟨a, cap, rfl, ⟨hm, _⟩, HC⟩ := hr.openM
  clear hr
  obtain ⟨res, hres⟩ : ∃ r, idxF q 0 l = r := ⟨_, rfl⟩
  rw [hres]
  have H0 := Lib.hid (show idxF q 0 (l.drop 0) = res from hres)
  clear hres
  replace K := Lib.hid K
  go_enter Tryz.func137, Tryz.ntmps137
  go_wp2
  go_loopg [8] l.length (fun g s8 wx => ∃ (k : Nat), s8 = .int .i64 k ∧ k + g = l.length ∧ Hid (idxF q k (l.drop k) = res) ∧ Below w.heap.size w wx)
  case atStart => exact ⟨0, rfl, by omega, H0, Below.refl _ _⟩
  case round =>
    obtain ⟨k, rfl, hg, HN, hbw⟩ := hrel
    clear H0
    cases gk with
    | zero =>
      have h : ¬ ((k : Int) < (l.length : Int)) := by omega
      have E : res = -1 := by have := HN.out; rw [List.drop_eq_nil_of_le (by omega)] at this; exact this.symm
      subst E
      clear HN
      go_wp2
      go_ret
      exact ⟨rfl, hbw⟩
    | succ g' =>
      have h : ((k : Int) < (l.length : Int)) := by omega
      obtain ⟨y, hy, _, hmem⟩ := at_take (l := l) (k := k) (by omega)
      obtain ⟨b, off, rfl, hlt, hc⟩ := HC.out.rd hbw hy
      have c0 := hc 0 _ rfl
      have c1 := hc 1 _ rfl
      have c2 := hc 2 _ rfl
      simp only [Nat.add_zero] at c0
      clear hc
      have KK := K.out y hmem wr hbw
      have D := drop_get hy
      cases hw : q y with
      | true =>
        rw [hw] at KK
        have E : res = k := by have := HN.out; rw [D, idxF, if_pos hw] at this; exact this.symm
        subst E
        clear HN D hy hw
        go_wp2_with fail
        refine KK.mono ?_
        rintro e w1 ⟨rfl, b1⟩
        clear KK eg
        go_wp2
        go_ret
        exact ⟨rfl, hbw.trans (b1.mono hbw.size)⟩
      | false =>
        rw [hw] at KK
        have N := Lib.hid (show idxF q (k+1) (l.drop (k+1)) = res by have := HN.out; rwa [D, idxF, if_neg (by rw [hw]; decide)] at this)
        clear HN D hy hw
        go_wp2_with fail
        refine KK.mono ?_
        rintro e w1 ⟨rfl, b1⟩
        clear KK eg
        go_wp2
        go_roundg g'
        case measure => omega
        case rel => exact ⟨k + 1, by go_num, by omega, N, hbw.trans (b1.mono hbw.size)⟩
theorem contains_B (v : Value) (l : List BalD) (w : World) (g : Nat) (p : Value) (q : BalD → Bool) (eg : ∀ (args : Array Value) (w : World), (callFunc g args).run Tryz.prog w = .ok (.enter g args) w) (hr : RM w v 3 (l.map blV))
    (K : ∀ x ∈ l, ∀ ww, Below w.heap.size w ww → Calls Tryz.prog g #[.agg #[.int .i64 x.id, .int .i64 x.el, .int .i64 x.off], p] ww (RetB ww (q x))) :
    Calls Tryz.prog 117 #[v, .func (.func g) #[] #[p]] w (RetB w (l.any q)) := by
  have KI := index_B v l w g p q eg hr K
  rw [← idx_any q l 0]
  obtain ⟨n, hn⟩ : ∃ n, idxF q 0 l = n := ⟨_, rfl⟩
  rw [hn] at KI ⊢
  clear hn K hr eg
  go_enter Tryz.func117, Tryz.ntmps117
  go_wp2_with (go_at_call 137; refine KI.mono ?_; rintro e w1 ⟨rfl, b1⟩)
  go_ret
  exact ⟨rfl, b1⟩
theorem allc_B (x : BalD) (w : World) (B h : Nat) (lb : Array Value) (b : Bool) (eg : ∀ (args : Array Value) (w : World), (callFunc h args).run Tryz.prog w = .ok (.enter h args) w) (hc : w.cell? ⟨B, 0, none⟩ = some (.func (.func h) #[] lb))
    (K : ∀ ww, Below w.heap.size w ww → Calls Tryz.prog h (#[.agg #[.int .i64 x.id, .int .i64 x.el, .int .i64 x.off]] ++ lb) ww (RetB ww b)) :
    Calls Tryz.prog 118 #[.agg #[.int .i64 x.id, .int .i64 x.el, .int .i64 x.off], .pointer (some ⟨B, 0, none⟩)] w (RetB w (!b)) := by
  have hl := World.block_lt_of_cell? w _ hc
  have hc2 : ∀ o, (w.alloc o).cell? ⟨B, 0, none⟩ = some (.func (.func h) #[] lb) := fun o => (((Below.refl w.heap.size w).alloc (Nat.le_refl _) o).cell (p := ⟨B, 0, none⟩) hl).trans hc
  go_enter Tryz.func118, Tryz.ntmps118
  go_wp2_with fail
  refine (K _ ((Below.refl _ _).alloc (Nat.le_refl _) _)).mono ?_
  rintro e w1 ⟨rfl, b1⟩
  clear K eg
  go_wp2
  go_ret
  exact ⟨rfl, ((Below.refl _ _).alloc (Nat.le_refl _) _).trans (b1.mono (by simp))⟩
theorem all_B (v : Value) (l : List BalD) (w : World) (h : Nat) (lb : Array Value) (q : BalD → Bool) (eg : ∀ (args : Array Value) (w : World), (callFunc h args).run Tryz.prog w = .ok (.enter h args) w) (hr : RM w v 3 (l.map blV))
    (K : ∀ x ∈ l, ∀ ww, Below w.heap.size w ww → Calls Tryz.prog h (#[.agg #[.int .i64 x.id, .int .i64 x.el, .int .i64 x.off]] ++ lb) ww (RetB ww (q x))) :
    Calls Tryz.prog 81 #[v, .func (.func h) #[] lb] w (RetB w (l.all q)) := by
  have HB : ∀ o, Below w.heap.size w (w.alloc o) := fun o => (Below.refl _ _).alloc (Nat.le_refl _) _
  have KC := contains_B v l (w.alloc (.cells #[.func (.func h) #[] lb] 107)) 118 (.pointer (some ⟨w.heap.size, 0, none⟩)) (fun x => !q x) (enters_of Tryz.func118 (by kernel_rfl) rfl) (hr.below (HB _))
    (fun x hx ww hb => by
      have hc : ww.cell? ⟨w.heap.size, 0, none⟩ = some (.func (.func h) #[] lb) := (hb.cell (p := ⟨w.heap.size, 0, none⟩) (by simp)).trans (by rw [World.cell?_alloc_new]; rfl)
      exact allc_B x ww w.heap.size h lb (q x) eg hc fun w2 h2 => K x hx w2 (((HB _).trans (hb.mono (by simp))).trans (h2.mono (Nat.le_trans (by simp) hb.size))))
  have E : (!(l.any fun x => !q x)) = l.all q := by rw [List.not_any_eq_all_not]; simp
  rw [← E]
  obtain ⟨n, hn⟩ : ∃ n, (l.any fun x => !q x) = n := ⟨_, rfl⟩
  rw [hn] at KC ⊢
  clear hn K hr eg E
  go_enter Tryz.func81, Tryz.ntmps81
  go_wp2_with (go_at_call 117; refine KC.mono ?_; rintro e w1 ⟨rfl, b1⟩)
  go_ret
  exact ⟨rfl, (HB _).trans (b1.mono (by simp))⟩
end
end Go.Proofs.YteafkginhejllaaGreatDoor
