/- Contracts of IndexFunc, ContainsFunc and all at the element types of a layout. Conditions: the list can be read; the function that is handed over is told by its contract. -/
import Derived.Test.YthoodaldmfojaaaDoorGW7
import Derived.Shelf.Abstract
namespace Go.Proofs.YthoodaldmfojaaaDoor
open Go.ChangeShapes Go.WideShapes Go.ChangeAt Go.RowKit
def idxF {α : Type} (q : α → Bool) (i : Nat) : List α → Int
  | [] => -1
  | x :: r => if q x = true then (i : Int) else idxF q (i + 1) r
theorem idx_any {α : Type} (q : α → Bool) : ∀ (l : List α) (i : Nat), decide (0 ≤ idxF q i l) = l.any q
  | [], i => by simp [idxF]
  | x :: r, i => by
    unfold idxF
    cases h : q x
    · rw [if_neg (by decide), idx_any q r (i + 1)]; simp [h]
    · simp [h]


set_option maxHeartbeats 1000000 in
theorem index_S (v : Value) (l : List L8) (w : World) (g : Nat) (p : Value) (q : L8 → Bool) (eg : ∀ (args : Array Value) (w : World), (callFunc g args).run Tryd.prog w = .ok (.enter g args) w) (hr : RS w v (strsV l))
    (K : ∀ x ∈ l, ∀ ww, Below w.heap.size w ww → Calls Tryd.prog g #[str x, p] ww (RetB ww (q x))) :
    Calls Tryd.prog 94 #[v, .func (.func g) #[] #[p]] w (RetV w (.int .i64 (idxF q 0 l))) := by
  obtain ⟨a, cap, rfl, ⟨hm, _⟩, HC⟩ := hr.openS
  clear hr
  obtain ⟨res, hres⟩ : ∃ r, idxF q 0 l = r := ⟨_, rfl⟩
  rw [hres]
  have H0 := Lib.hid (show idxF q 0 (l.drop 0) = res from hres)
  clear hres
  replace K := Lib.hid K
  go_enter Tryd.func94, Tryd.ntmps94
  go_wp2
  go_loopg [8] l.length (fun g s8 wx => ∃ (k : Nat), s8 = .int .i64 k ∧ k + g = l.length ∧ Hid (idxF q k (l.drop k) = res) ∧ Below w.heap.size w wx)
  case atStart => exact ⟨0, rfl, by omega, H0, Below.refl _ _⟩
  case round =>
    obtain ⟨k, rfl, hg, HN, hbw⟩ := hrel
    clear H0
    cases gk with
    | zero =>
      have h : ¬ ((k : Int) < (l.length : Int)) := by omega
      have E : res = -1 := by have := HN.out; rw [List.drop_eq_nil_of_le (by omega)] at this; exact this.symm
      subst E
      clear HN
      go_wp2
      go_ret
      exact ⟨rfl, hbw⟩
    | succ g' =>
      have h : ((k : Int) < (l.length : Int)) := by omega
      obtain ⟨y, hy, _, hmem⟩ := at_take (l := l) (k := k) (by omega)
      obtain ⟨b, off, rfl, hlt, hc⟩ := HC.out.rd hbw hy
      have KK := K.out y hmem wr hbw
      have D := drop_get hy
      cases hw : q y with
      | true =>
        rw [hw] at KK
        have E : res = k := by have := HN.out; rw [D, idxF, if_pos hw] at this; exact this.symm
        subst E
        clear HN D hy hw
        go_wp2_with fail
        refine KK.mono ?_
        rintro e w1 ⟨rfl, b1⟩
        clear KK eg
        go_wp2
        go_ret
        exact ⟨rfl, hbw.trans (b1.mono hbw.size)⟩
      | false =>
        rw [hw] at KK
        have N := Lib.hid (show idxF q (k+1) (l.drop (k+1)) = res by have := HN.out; rwa [D, idxF, if_neg (by rw [hw]; decide)] at this)
        clear HN D hy hw
        go_wp2_with fail
        refine KK.mono ?_
        rintro e w1 ⟨rfl, b1⟩
        clear KK eg
        go_wp2
        go_roundg g'
        case measure => omega
        case rel => exact ⟨k + 1, by go_num, by omega, N, hbw.trans (b1.mono hbw.size)⟩
theorem contains_S (v : Value) (l : List L8) (w : World) (g : Nat) (p : Value) (q : L8 → Bool) (eg : ∀ (args : Array Value) (w : World), (callFunc g args).run Tryd.prog w = .ok (.enter g args) w) (hr : RS w v (strsV l))
    (K : ∀ x ∈ l, ∀ ww, Below w.heap.size w ww → Calls Tryd.prog g #[str x, p] ww (RetB ww (q x))) :
    Calls Tryd.prog 83 #[v, .func (.func g) #[] #[p]] w (RetB w (l.any q)) := by
  have KI := index_S v l w g p q eg hr K
  rw [← idx_any q l 0]
  obtain ⟨n, hn⟩ : ∃ n, idxF q 0 l = n := ⟨_, rfl⟩
  rw [hn] at KI ⊢
  clear hn K hr eg
  go_enter Tryd.func83, Tryd.ntmps83
  go_wp2_with (go_at_call 94; refine KI.mono ?_; rintro e w1 ⟨rfl, b1⟩)
  go_ret
  exact ⟨rfl, b1⟩
theorem allc_S (x : L8) (w : World) (B h : Nat) (lb : Array Value) (b : Bool) (eg : ∀ (args : Array Value) (w : World), (callFunc h args).run Tryd.prog w = .ok (.enter h args) w) (hc : w.cell? ⟨B, 0, none⟩ = some (.func (.func h) #[] lb))
    (K : ∀ ww, Below w.heap.size w ww → Calls Tryd.prog h (#[str x] ++ lb) ww (RetB ww b)) :
    Calls Tryd.prog 84 #[str x, .pointer (some ⟨B, 0, none⟩)] w (RetB w (!b)) := by
  have hl := World.block_lt_of_cell? w _ hc
  go_enter Tryd.func84, Tryd.ntmps84
  go_wp2_with fail
  refine (K _ (Below.refl _ _)).mono ?_
  rintro e w1 ⟨rfl, b1⟩
  clear K eg
  go_wp2
  go_ret
  exact ⟨rfl, b1⟩
theorem all_S (v : Value) (l : List L8) (w : World) (h : Nat) (lb : Array Value) (q : L8 → Bool) (eg : ∀ (args : Array Value) (w : World), (callFunc h args).run Tryd.prog w = .ok (.enter h args) w) (hr : RS w v (strsV l))
    (K : ∀ x ∈ l, ∀ ww, Below w.heap.size w ww → Calls Tryd.prog h (#[str x] ++ lb) ww (RetB ww (q x))) :
    Calls Tryd.prog 46 #[v, .func (.func h) #[] lb] w (RetB w (l.all q)) := by
  have HB : ∀ o, Below w.heap.size w (w.alloc o) := fun o => (Below.refl _ _).alloc (Nat.le_refl _) _
  have KC := contains_S v l (w.alloc (.cells #[.func (.func h) #[] lb] 63)) 84 (.pointer (some ⟨w.heap.size, 0, none⟩)) (fun x => !q x) (enters_of Tryd.func84 (by kernel_rfl) rfl) (hr.below (HB _))
    (fun x hx ww hb => by
      have hc : ww.cell? ⟨w.heap.size, 0, none⟩ = some (.func (.func h) #[] lb) := (hb.cell (p := ⟨w.heap.size, 0, none⟩) (by simp)).trans (by rw [World.cell?_alloc_new]; rfl)
      exact allc_S x ww w.heap.size h lb (q x) eg hc fun w2 h2 => K x hx w2 (((HB _).trans (hb.mono (by simp))).trans (h2.mono (Nat.le_trans (by simp) hb.size))))
  have E : (!(l.any fun x => !q x)) = l.all q := by rw [List.not_any_eq_all_not]; simp
  rw [← E]
  obtain ⟨n, hn⟩ : ∃ n, (l.any fun x => !q x) = n := ⟨_, rfl⟩
  rw [hn] at KC ⊢
  clear hn K hr eg E
  go_enter Tryd.func46, Tryd.ntmps46
  go_wp2_with (go_at_call 83; refine KC.mono ?_; rintro e w1 ⟨rfl, b1⟩)
  go_ret
  exact ⟨rfl, (HB _).trans (b1.mono (by simp))⟩


set_option maxHeartbeats 1000000 in
theorem index_E (v : Value) (l : List ElD) (w : World) (g : Nat) (p : Value) (q : ElD → Bool) (eg : ∀ (args : Array Value) (w : World), (callFunc g args).run Tryd.prog w = .ok (.enter g args) w) (hr : RM w v 7 (l.map elV))
    (K : ∀ x ∈ l, ∀ ww, Below w.heap.size w ww → Calls Tryd.prog g #[.agg #[str x.name, .int .i64 x.kind, .int .i64 x.length, .int .i64 x.grade, .int .i64 x.speed, .int .i64 x.slow, .int .i64 x.sec], p] ww (RetB ww (q x))) :
    Calls Tryd.prog 42 #[v, .func (.func g) #[] #[p]] w (RetV w (.int .i64 (idxF q 0 l))) := by
  obtain ⟨a, cap, rfl, ⟨hm, _⟩, HC⟩ := hr.openM
  clear hr
  obtain ⟨res, hres⟩ : ∃ r, idxF q 0 l = r := ⟨_, rfl⟩
  rw [hres]
  have H0 := Lib.hid (show idxF q 0 (l.drop 0) = res from hres)
  clear hres
  replace K := Lib.hid K
  go_enter Tryd.func42, Tryd.ntmps42
  go_wp2
  go_loopg [8] l.length (fun g s8 wx => ∃ (k : Nat), s8 = .int .i64 k ∧ k + g = l.length ∧ Hid (idxF q k (l.drop k) = res) ∧ Below w.heap.size w wx)
  case atStart => exact ⟨0, rfl, by omega, H0, Below.refl _ _⟩
  case round =>
    obtain ⟨k, rfl, hg, HN, hbw⟩ := hrel
    clear H0
    cases gk with
    | zero =>
      have h : ¬ ((k : Int) < (l.length : Int)) := by omega
      have E : res = -1 := by have := HN.out; rw [List.drop_eq_nil_of_le (by omega)] at this; exact this.symm
      subst E
      clear HN
      go_wp2
      go_ret
      exact ⟨rfl, hbw⟩
    | succ g' =>
      have h : ((k : Int) < (l.length : Int)) := by omega
      obtain ⟨y, hy, _, hmem⟩ := at_take (l := l) (k := k) (by omega)
      obtain ⟨b, off, rfl, hlt, hc⟩ := HC.out.rd hbw hy
      have c0 := hc 0 _ rfl
      have c1 := hc 1 _ rfl
      have c2 := hc 2 _ rfl
      have c3 := hc 3 _ rfl
      have c4 := hc 4 _ rfl
      have c5 := hc 5 _ rfl
      have c6 := hc 6 _ rfl
      simp only [Nat.add_zero] at c0
      clear hc
      have KK := K.out y hmem wr hbw
      have D := drop_get hy
      cases hw : q y with
      | true =>
        rw [hw] at KK
        have E : res = k := by have := HN.out; rw [D, idxF, if_pos hw] at this; exact this.symm
        subst E
        clear HN D hy hw
        go_wp2_with fail
        refine KK.mono ?_
        rintro e w1 ⟨rfl, b1⟩
        clear KK eg
        go_wp2
        go_ret
        exact ⟨rfl, hbw.trans (b1.mono hbw.size)⟩
      | false =>
        rw [hw] at KK
        have N := Lib.hid (show idxF q (k+1) (l.drop (k+1)) = res by have := HN.out; rwa [D, idxF, if_neg (by rw [hw]; decide)] at this)
        clear HN D hy hw
        go_wp2_with fail
        refine KK.mono ?_
        rintro e w1 ⟨rfl, b1⟩
        clear KK eg
        go_wp2
        go_roundg g'
        case measure => omega
        case rel => exact ⟨k + 1, by go_num, by omega, N, hbw.trans (b1.mono hbw.size)⟩
theorem contains_E (v : Value) (l : List ElD) (w : World) (g : Nat) (p : Value) (q : ElD → Bool) (eg : ∀ (args : Array Value) (w : World), (callFunc g args).run Tryd.prog w = .ok (.enter g args) w) (hr : RM w v 7 (l.map elV))
    (K : ∀ x ∈ l, ∀ ww, Below w.heap.size w ww → Calls Tryd.prog g #[.agg #[str x.name, .int .i64 x.kind, .int .i64 x.length, .int .i64 x.grade, .int .i64 x.speed, .int .i64 x.slow, .int .i64 x.sec], p] ww (RetB ww (q x))) :
    Calls Tryd.prog 85 #[v, .func (.func g) #[] #[p]] w (RetB w (l.any q)) := by
  have KI := index_E v l w g p q eg hr K
  rw [← idx_any q l 0]
  obtain ⟨n, hn⟩ : ∃ n, idxF q 0 l = n := ⟨_, rfl⟩
  rw [hn] at KI ⊢
  clear hn K hr eg
  go_enter Tryd.func85, Tryd.ntmps85
  go_wp2_with (go_at_call 42; refine KI.mono ?_; rintro e w1 ⟨rfl, b1⟩)
  go_ret
  exact ⟨rfl, b1⟩
theorem allc_E (x : ElD) (w : World) (B h : Nat) (lb : Array Value) (b : Bool) (eg : ∀ (args : Array Value) (w : World), (callFunc h args).run Tryd.prog w = .ok (.enter h args) w) (hc : w.cell? ⟨B, 0, none⟩ = some (.func (.func h) #[] lb))
    (K : ∀ ww, Below w.heap.size w ww → Calls Tryd.prog h (#[.agg #[str x.name, .int .i64 x.kind, .int .i64 x.length, .int .i64 x.grade, .int .i64 x.speed, .int .i64 x.slow, .int .i64 x.sec]] ++ lb) ww (RetB ww b)) :
    Calls Tryd.prog 86 #[.agg #[str x.name, .int .i64 x.kind, .int .i64 x.length, .int .i64 x.grade, .int .i64 x.speed, .int .i64 x.slow, .int .i64 x.sec], .pointer (some ⟨B, 0, none⟩)] w (RetB w (!b)) := by
  have hl := World.block_lt_of_cell? w _ hc
  have hc2 : ∀ o, (w.alloc o).cell? ⟨B, 0, none⟩ = some (.func (.func h) #[] lb) := fun o => (((Below.refl w.heap.size w).alloc (Nat.le_refl _) o).cell (p := ⟨B, 0, none⟩) hl).trans hc
  go_enter Tryd.func86, Tryd.ntmps86
  go_wp2_with fail
  refine (K _ ((Below.refl _ _).alloc (Nat.le_refl _) _)).mono ?_
  rintro e w1 ⟨rfl, b1⟩
  clear K eg
  go_wp2
  go_ret
  exact ⟨rfl, ((Below.refl _ _).alloc (Nat.le_refl _) _).trans (b1.mono (by simp))⟩
theorem all_E (v : Value) (l : List ElD) (w : World) (h : Nat) (lb : Array Value) (q : ElD → Bool) (eg : ∀ (args : Array Value) (w : World), (callFunc h args).run Tryd.prog w = .ok (.enter h args) w) (hr : RM w v 7 (l.map elV))
    (K : ∀ x ∈ l, ∀ ww, Below w.heap.size w ww → Calls Tryd.prog h (#[.agg #[str x.name, .int .i64 x.kind, .int .i64 x.length, .int .i64 x.grade, .int .i64 x.speed, .int .i64 x.slow, .int .i64 x.sec]] ++ lb) ww (RetB ww (q x))) :
    Calls Tryd.prog 47 #[v, .func (.func h) #[] lb] w (RetB w (l.all q)) := by
  have HB : ∀ o, Below w.heap.size w (w.alloc o) := fun o => (Below.refl _ _).alloc (Nat.le_refl _) _
  have KC := contains_E v l (w.alloc (.cells #[.func (.func h) #[] lb] 60)) 86 (.pointer (some ⟨w.heap.size, 0, none⟩)) (fun x => !q x) (enters_of Tryd.func86 (by kernel_rfl) rfl) (hr.below (HB _))
    (fun x hx ww hb => by
      have hc : ww.cell? ⟨w.heap.size, 0, none⟩ = some (.func (.func h) #[] lb) := (hb.cell (p := ⟨w.heap.size, 0, none⟩) (by simp)).trans (by rw [World.cell?_alloc_new]; rfl)
      exact allc_E x ww w.heap.size h lb (q x) eg hc fun w2 h2 => K x hx w2 (((HB _).trans (hb.mono (by simp))).trans (h2.mono (Nat.le_trans (by simp) hb.size))))
  have E : (!(l.any fun x => !q x)) = l.all q := by rw [List.not_any_eq_all_not]; simp
  rw [← E]
  obtain ⟨n, hn⟩ : ∃ n, (l.any fun x => !q x) = n := ⟨_, rfl⟩
  rw [hn] at KC ⊢
  clear hn K hr eg E
  go_enter Tryd.func47, Tryd.ntmps47
  go_wp2_with (go_at_call 85; refine KC.mono ?_; rintro e w1 ⟨rfl, b1⟩)
  go_ret
  exact ⟨rfl, (HB _).trans (b1.mono (by simp))⟩


set_option maxHeartbeats 1000000 in
theorem index_G (v : Value) (l : List SigD) (w : World) (g : Nat) (p : Value) (q : SigD → Bool) (eg : ∀ (args : Array Value) (w : World), (callFunc g args).run Tryd.prog w = .ok (.enter g args) w) (hr : RM w v 4 (l.map sgV))
    (K : ∀ x ∈ l, ∀ ww, Below w.heap.size w ww → Calls Tryd.prog g #[.agg #[str x.name, .int .i64 x.at_.1, .int .i64 x.at_.2, .int .i64 x.overlap], p] ww (RetB ww (q x))) :
    Calls Tryd.prog 36 #[v, .func (.func g) #[] #[p]] w (RetV w (.int .i64 (idxF q 0 l))) := by
  obtain ⟨a, cap, rfl, ⟨hm, _⟩, HC⟩ := hr.openM
  clear hr
  obtain ⟨res, hres⟩ : ∃ r, idxF q 0 l = r := ⟨_, rfl⟩
  rw [hres]
  have H0 := Lib.hid (show idxF q 0 (l.drop 0) = res from hres)
  clear hres
  replace K := Lib.hid K
  go_enter Tryd.func36, Tryd.ntmps36
  go_wp2
  go_loopg [8] l.length (fun g s8 wx => ∃ (k : Nat), s8 = .int .i64 k ∧ k + g = l.length ∧ Hid (idxF q k (l.drop k) = res) ∧ Below w.heap.size w wx)
  case atStart => exact ⟨0, rfl, by omega, H0, Below.refl _ _⟩
  case round =>
    obtain ⟨k, rfl, hg, HN, hbw⟩ := hrel
    clear H0
    cases gk with
    | zero =>
      have h : ¬ ((k : Int) < (l.length : Int)) := by omega
      have E : res = -1 := by have := HN.out; rw [List.drop_eq_nil_of_le (by omega)] at this; exact this.symm
      subst E
      clear HN
      go_wp2
      go_ret
      exact ⟨rfl, hbw⟩
    | succ g' =>
      have h : ((k : Int) < (l.length : Int)) := by omega
      obtain ⟨y, hy, _, hmem⟩ := at_take (l := l) (k := k) (by omega)
      obtain ⟨b, off, rfl, hlt, hc⟩ := HC.out.rd hbw hy
      have c0 := hc 0 _ rfl
      have c1 := hc 1 _ rfl
      have c2 := hc 2 _ rfl
      have c3 := hc 3 _ rfl
      simp only [Nat.add_zero] at c0
      clear hc
      have KK := K.out y hmem wr hbw
      have D := drop_get hy
      cases hw : q y with
      | true =>
        rw [hw] at KK
        have E : res = k := by have := HN.out; rw [D, idxF, if_pos hw] at this; exact this.symm
        subst E
        clear HN D hy hw
        go_wp2_with fail
        refine KK.mono ?_
        rintro e w1 ⟨rfl, b1⟩
        clear KK eg
        go_wp2
        go_ret
        exact ⟨rfl, hbw.trans (b1.mono hbw.size)⟩
      | false =>
        rw [hw] at KK
        have N := Lib.hid (show idxF q (k+1) (l.drop (k+1)) = res by have := HN.out; rwa [D, idxF, if_neg (by rw [hw]; decide)] at this)
        clear HN D hy hw
        go_wp2_with fail
        refine KK.mono ?_
        rintro e w1 ⟨rfl, b1⟩
        clear KK eg
        go_wp2
        go_roundg g'
        case measure => omega
        case rel => exact ⟨k + 1, by go_num, by omega, N, hbw.trans (b1.mono hbw.size)⟩
theorem contains_G (v : Value) (l : List SigD) (w : World) (g : Nat) (p : Value) (q : SigD → Bool) (eg : ∀ (args : Array Value) (w : World), (callFunc g args).run Tryd.prog w = .ok (.enter g args) w) (hr : RM w v 4 (l.map sgV))
    (K : ∀ x ∈ l, ∀ ww, Below w.heap.size w ww → Calls Tryd.prog g #[.agg #[str x.name, .int .i64 x.at_.1, .int .i64 x.at_.2, .int .i64 x.overlap], p] ww (RetB ww (q x))) :
    Calls Tryd.prog 87 #[v, .func (.func g) #[] #[p]] w (RetB w (l.any q)) := by
  have KI := index_G v l w g p q eg hr K
  rw [← idx_any q l 0]
  obtain ⟨n, hn⟩ : ∃ n, idxF q 0 l = n := ⟨_, rfl⟩
  rw [hn] at KI ⊢
  clear hn K hr eg
  go_enter Tryd.func87, Tryd.ntmps87
  go_wp2_with (go_at_call 36; refine KI.mono ?_; rintro e w1 ⟨rfl, b1⟩)
  go_ret
  exact ⟨rfl, b1⟩
theorem allc_G (x : SigD) (w : World) (B h : Nat) (lb : Array Value) (b : Bool) (eg : ∀ (args : Array Value) (w : World), (callFunc h args).run Tryd.prog w = .ok (.enter h args) w) (hc : w.cell? ⟨B, 0, none⟩ = some (.func (.func h) #[] lb))
    (K : ∀ ww, Below w.heap.size w ww → Calls Tryd.prog h (#[.agg #[str x.name, .int .i64 x.at_.1, .int .i64 x.at_.2, .int .i64 x.overlap]] ++ lb) ww (RetB ww b)) :
    Calls Tryd.prog 88 #[.agg #[str x.name, .int .i64 x.at_.1, .int .i64 x.at_.2, .int .i64 x.overlap], .pointer (some ⟨B, 0, none⟩)] w (RetB w (!b)) := by
  have hl := World.block_lt_of_cell? w _ hc
  have hc2 : ∀ o, (w.alloc o).cell? ⟨B, 0, none⟩ = some (.func (.func h) #[] lb) := fun o => (((Below.refl w.heap.size w).alloc (Nat.le_refl _) o).cell (p := ⟨B, 0, none⟩) hl).trans hc
  go_enter Tryd.func88, Tryd.ntmps88
  go_wp2_with fail
  refine (K _ ((Below.refl _ _).alloc (Nat.le_refl _) _)).mono ?_
  rintro e w1 ⟨rfl, b1⟩
  clear K eg
  go_wp2
  go_ret
  exact ⟨rfl, ((Below.refl _ _).alloc (Nat.le_refl _) _).trans (b1.mono (by simp))⟩
theorem all_G (v : Value) (l : List SigD) (w : World) (h : Nat) (lb : Array Value) (q : SigD → Bool) (eg : ∀ (args : Array Value) (w : World), (callFunc h args).run Tryd.prog w = .ok (.enter h args) w) (hr : RM w v 4 (l.map sgV))
    (K : ∀ x ∈ l, ∀ ww, Below w.heap.size w ww → Calls Tryd.prog h (#[.agg #[str x.name, .int .i64 x.at_.1, .int .i64 x.at_.2, .int .i64 x.overlap]] ++ lb) ww (RetB ww (q x))) :
    Calls Tryd.prog 49 #[v, .func (.func h) #[] lb] w (RetB w (l.all q)) := by
  have HB : ∀ o, Below w.heap.size w (w.alloc o) := fun o => (Below.refl _ _).alloc (Nat.le_refl _) _
  have KC := contains_G v l (w.alloc (.cells #[.func (.func h) #[] lb] 57)) 88 (.pointer (some ⟨w.heap.size, 0, none⟩)) (fun x => !q x) (enters_of Tryd.func88 (by kernel_rfl) rfl) (hr.below (HB _))
    (fun x hx ww hb => by
      have hc : ww.cell? ⟨w.heap.size, 0, none⟩ = some (.func (.func h) #[] lb) := (hb.cell (p := ⟨w.heap.size, 0, none⟩) (by simp)).trans (by rw [World.cell?_alloc_new]; rfl)
      exact allc_G x ww w.heap.size h lb (q x) eg hc fun w2 h2 => K x hx w2 (((HB _).trans (hb.mono (by simp))).trans (h2.mono (Nat.le_trans (by simp) hb.size))))
  have E : (!(l.any fun x => !q x)) = l.all q := by rw [List.not_any_eq_all_not]; simp
  rw [← E]
  obtain ⟨n, hn⟩ : ∃ n, (l.any fun x => !q x) = n := ⟨_, rfl⟩
  rw [hn] at KC ⊢
  clear hn K hr eg E
  go_enter Tryd.func49, Tryd.ntmps49
  go_wp2_with (go_at_call 87; refine KC.mono ?_; rintro e w1 ⟨rfl, b1⟩)
  go_ret
  exact ⟨rfl, (HB _).trans (b1.mono (by simp))⟩


set_option maxHeartbeats 1000000 in
theorem index_J (v : Value) (l : List (EndD × EndD)) (w : World) (g : Nat) (p : Value) (q : (EndD × EndD) → Bool) (eg : ∀ (args : Array Value) (w : World), (callFunc g args).run Tryd.prog w = .ok (.enter g args) w) (hr : RM w v 4 (l.map joV))
    (K : ∀ x ∈ l, ∀ ww, Below w.heap.size w ww → Calls Tryd.prog g #[.agg #[.int .i64 x.1.1, .int .i64 x.1.2, .int .i64 x.2.1, .int .i64 x.2.2], p] ww (RetB ww (q x))) :
    Calls Tryd.prog 95 #[v, .func (.func g) #[] #[p]] w (RetV w (.int .i64 (idxF q 0 l))) := by
  obtain ⟨a, cap, rfl, ⟨hm, _⟩, HC⟩ := hr.openM
  clear hr
  obtain ⟨res, hres⟩ : ∃ r, idxF q 0 l = r := ⟨_, rfl⟩
  rw [hres]
  have H0 := Lib.hid (show idxF q 0 (l.drop 0) = res from hres)
  clear hres
  replace K := Lib.hid K
  go_enter Tryd.func95, Tryd.ntmps95
  go_wp2
  go_loopg [8] l.length (fun g s8 wx => ∃ (k : Nat), s8 = .int .i64 k ∧ k + g = l.length ∧ Hid (idxF q k (l.drop k) = res) ∧ Below w.heap.size w wx)
  case atStart => exact ⟨0, rfl, by omega, H0, Below.refl _ _⟩
  case round =>
    obtain ⟨k, rfl, hg, HN, hbw⟩ := hrel
    clear H0
    cases gk with
    | zero =>
      have h : ¬ ((k : Int) < (l.length : Int)) := by omega
      have E : res = -1 := by have := HN.out; rw [List.drop_eq_nil_of_le (by omega)] at this; exact this.symm
      subst E
      clear HN
      go_wp2
      go_ret
      exact ⟨rfl, hbw⟩
    | succ g' =>
      have h : ((k : Int) < (l.length : Int)) := by omega
      obtain ⟨y, hy, _, hmem⟩ := at_take (l := l) (k := k) (by omega)
      obtain ⟨b, off, rfl, hlt, hc⟩ := HC.out.rd hbw hy
      have c0 := hc 0 _ rfl
      have c1 := hc 1 _ rfl
      have c2 := hc 2 _ rfl
      have c3 := hc 3 _ rfl
      simp only [Nat.add_zero] at c0
      clear hc
      have KK := K.out y hmem wr hbw
      have D := drop_get hy
      cases hw : q y with
      | true =>
        rw [hw] at KK
        have E : res = k := by have := HN.out; rw [D, idxF, if_pos hw] at this; exact this.symm
        subst E
        clear HN D hy hw
        go_wp2_with fail
        refine KK.mono ?_
        rintro e w1 ⟨rfl, b1⟩
        clear KK eg
        go_wp2
        go_ret
        exact ⟨rfl, hbw.trans (b1.mono hbw.size)⟩
      | false =>
        rw [hw] at KK
        have N := Lib.hid (show idxF q (k+1) (l.drop (k+1)) = res by have := HN.out; rwa [D, idxF, if_neg (by rw [hw]; decide)] at this)
        clear HN D hy hw
        go_wp2_with fail
        refine KK.mono ?_
        rintro e w1 ⟨rfl, b1⟩
        clear KK eg
        go_wp2
        go_roundg g'
        case measure => omega
        case rel => exact ⟨k + 1, by go_num, by omega, N, hbw.trans (b1.mono hbw.size)⟩
theorem contains_J (v : Value) (l : List (EndD × EndD)) (w : World) (g : Nat) (p : Value) (q : (EndD × EndD) → Bool) (eg : ∀ (args : Array Value) (w : World), (callFunc g args).run Tryd.prog w = .ok (.enter g args) w) (hr : RM w v 4 (l.map joV))
    (K : ∀ x ∈ l, ∀ ww, Below w.heap.size w ww → Calls Tryd.prog g #[.agg #[.int .i64 x.1.1, .int .i64 x.1.2, .int .i64 x.2.1, .int .i64 x.2.2], p] ww (RetB ww (q x))) :
    Calls Tryd.prog 89 #[v, .func (.func g) #[] #[p]] w (RetB w (l.any q)) := by
  have KI := index_J v l w g p q eg hr K
  rw [← idx_any q l 0]
  obtain ⟨n, hn⟩ : ∃ n, idxF q 0 l = n := ⟨_, rfl⟩
  rw [hn] at KI ⊢
  clear hn K hr eg
  go_enter Tryd.func89, Tryd.ntmps89
  go_wp2_with (go_at_call 95; refine KI.mono ?_; rintro e w1 ⟨rfl, b1⟩)
  go_ret
  exact ⟨rfl, b1⟩
theorem allc_J (x : (EndD × EndD)) (w : World) (B h : Nat) (lb : Array Value) (b : Bool) (eg : ∀ (args : Array Value) (w : World), (callFunc h args).run Tryd.prog w = .ok (.enter h args) w) (hc : w.cell? ⟨B, 0, none⟩ = some (.func (.func h) #[] lb))
    (K : ∀ ww, Below w.heap.size w ww → Calls Tryd.prog h (#[.agg #[.int .i64 x.1.1, .int .i64 x.1.2, .int .i64 x.2.1, .int .i64 x.2.2]] ++ lb) ww (RetB ww b)) :
    Calls Tryd.prog 90 #[.agg #[.int .i64 x.1.1, .int .i64 x.1.2, .int .i64 x.2.1, .int .i64 x.2.2], .pointer (some ⟨B, 0, none⟩)] w (RetB w (!b)) := by
  have hl := World.block_lt_of_cell? w _ hc
  have hc2 : ∀ o, (w.alloc o).cell? ⟨B, 0, none⟩ = some (.func (.func h) #[] lb) := fun o => (((Below.refl w.heap.size w).alloc (Nat.le_refl _) o).cell (p := ⟨B, 0, none⟩) hl).trans hc
  go_enter Tryd.func90, Tryd.ntmps90
  go_wp2_with fail
  refine (K _ ((Below.refl _ _).alloc (Nat.le_refl _) _)).mono ?_
  rintro e w1 ⟨rfl, b1⟩
  clear K eg
  go_wp2
  go_ret
  exact ⟨rfl, ((Below.refl _ _).alloc (Nat.le_refl _) _).trans (b1.mono (by simp))⟩
theorem all_J (v : Value) (l : List (EndD × EndD)) (w : World) (h : Nat) (lb : Array Value) (q : (EndD × EndD) → Bool) (eg : ∀ (args : Array Value) (w : World), (callFunc h args).run Tryd.prog w = .ok (.enter h args) w) (hr : RM w v 4 (l.map joV))
    (K : ∀ x ∈ l, ∀ ww, Below w.heap.size w ww → Calls Tryd.prog h (#[.agg #[.int .i64 x.1.1, .int .i64 x.1.2, .int .i64 x.2.1, .int .i64 x.2.2]] ++ lb) ww (RetB ww (q x))) :
    Calls Tryd.prog 60 #[v, .func (.func h) #[] lb] w (RetB w (l.all q)) := by
  have HB : ∀ o, Below w.heap.size w (w.alloc o) := fun o => (Below.refl _ _).alloc (Nat.le_refl _) _
  have KC := contains_J v l (w.alloc (.cells #[.func (.func h) #[] lb] 75)) 90 (.pointer (some ⟨w.heap.size, 0, none⟩)) (fun x => !q x) (enters_of Tryd.func90 (by kernel_rfl) rfl) (hr.below (HB _))
    (fun x hx ww hb => by
      have hc : ww.cell? ⟨w.heap.size, 0, none⟩ = some (.func (.func h) #[] lb) := (hb.cell (p := ⟨w.heap.size, 0, none⟩) (by simp)).trans (by rw [World.cell?_alloc_new]; rfl)
      exact allc_J x ww w.heap.size h lb (q x) eg hc fun w2 h2 => K x hx w2 (((HB _).trans (hb.mono (by simp))).trans (h2.mono (Nat.le_trans (by simp) hb.size))))
  have E : (!(l.any fun x => !q x)) = l.all q := by rw [List.not_any_eq_all_not]; simp
  rw [← E]
  obtain ⟨n, hn⟩ : ∃ n, (l.any fun x => !q x) = n := ⟨_, rfl⟩
  rw [hn] at KC ⊢
  clear hn K hr eg E
  go_enter Tryd.func60, Tryd.ntmps60
  go_wp2_with (go_at_call 89; refine KC.mono ?_; rintro e w1 ⟨rfl, b1⟩)
  go_ret
  exact ⟨rfl, (HB _).trans (b1.mono (by simp))⟩


set_option maxHeartbeats 1000000 in
theorem index_B (v : Value) (l : List BalD) (w : World) (g : Nat) (p : Value) (q : BalD → Bool) (eg : ∀ (args : Array Value) (w : World), (callFunc g args).run Tryd.prog w = .ok (.enter g args) w) (hr : RM w v 3 (l.map blV))
    (K : ∀ x ∈ l, ∀ ww, Below w.heap.size w ww → Calls Tryd.prog g #[.agg #[.int .i64 x.id, .int .i64 x.el, .int .i64 x.off], p] ww (RetB ww (q x))) :
    Calls Tryd.prog 96 #[v, .func (.func g) #[] #[p]] w (RetV w (.int .i64 (idxF q 0 l))) := by
  obtain ⟨a, cap, rfl, ⟨hm, _⟩, HC⟩ := hr.openM
  clear hr
  obtain ⟨res, hres⟩ : ∃ r, idxF q 0 l = r := ⟨_, rfl⟩
  rw [hres]
  have H0 := Lib.hid (show idxF q 0 (l.drop 0) = res from hres)
  clear hres
  replace K := Lib.hid K
  go_enter Tryd.func96, Tryd.ntmps96
  go_wp2
  go_loopg [8] l.length (fun g s8 wx => ∃ (k : Nat), s8 = .int .i64 k ∧ k + g = l.length ∧ Hid (idxF q k (l.drop k) = res) ∧ Below w.heap.size w wx)
  case atStart => exact ⟨0, rfl, by omega, H0, Below.refl _ _⟩
  case round =>
    obtain ⟨k, rfl, hg, HN, hbw⟩ := hrel
    clear H0
    cases gk with
    | zero =>
      have h : ¬ ((k : Int) < (l.length : Int)) := by omega
      have E : res = -1 := by have := HN.out; rw [List.drop_eq_nil_of_le (by omega)] at this; exact this.symm
      subst E
      clear HN
      go_wp2
      go_ret
      exact ⟨rfl, hbw⟩
    | succ g' =>
      have h : ((k : Int) < (l.length : Int)) := by omega
      obtain ⟨y, hy, _, hmem⟩ := at_take (l := l) (k := k) (by omega)
      obtain ⟨b, off, rfl, hlt, hc⟩ := HC.out.rd hbw hy
      have c0 := hc 0 _ rfl
      have c1 := hc 1 _ rfl
      have c2 := hc 2 _ rfl
      simp only [Nat.add_zero] at c0
      clear hc
      have KK := K.out y hmem wr hbw
      have D := drop_get hy
      cases hw : q y with
      | true =>
        rw [hw] at KK
        have E : res = k := by have := HN.out; rw [D, idxF, if_pos hw] at this; exact this.symm
        subst E
        clear HN D hy hw
        go_wp2_with fail
        refine KK.mono ?_
        rintro e w1 ⟨rfl, b1⟩
        clear KK eg
        go_wp2
        go_ret
        exact ⟨rfl, hbw.trans (b1.mono hbw.size)⟩
      | false =>
        rw [hw] at KK
        have N := Lib.hid (show idxF q (k+1) (l.drop (k+1)) = res by have := HN.out; rwa [D, idxF, if_neg (by rw [hw]; decide)] at this)
        clear HN D hy hw
        go_wp2_with fail
        refine KK.mono ?_
        rintro e w1 ⟨rfl, b1⟩
        clear KK eg
        go_wp2
        go_roundg g'
        case measure => omega
        case rel => exact ⟨k + 1, by go_num, by omega, N, hbw.trans (b1.mono hbw.size)⟩
theorem contains_B (v : Value) (l : List BalD) (w : World) (g : Nat) (p : Value) (q : BalD → Bool) (eg : ∀ (args : Array Value) (w : World), (callFunc g args).run Tryd.prog w = .ok (.enter g args) w) (hr : RM w v 3 (l.map blV))
    (K : ∀ x ∈ l, ∀ ww, Below w.heap.size w ww → Calls Tryd.prog g #[.agg #[.int .i64 x.id, .int .i64 x.el, .int .i64 x.off], p] ww (RetB ww (q x))) :
    Calls Tryd.prog 91 #[v, .func (.func g) #[] #[p]] w (RetB w (l.any q)) := by
  have KI := index_B v l w g p q eg hr K
  rw [← idx_any q l 0]
  obtain ⟨n, hn⟩ : ∃ n, idxF q 0 l = n := ⟨_, rfl⟩
  rw [hn] at KI ⊢
  clear hn K hr eg
  go_enter Tryd.func91, Tryd.ntmps91
  go_wp2_with (go_at_call 96; refine KI.mono ?_; rintro e w1 ⟨rfl, b1⟩)
  go_ret
  exact ⟨rfl, b1⟩
theorem allc_B (x : BalD) (w : World) (B h : Nat) (lb : Array Value) (b : Bool) (eg : ∀ (args : Array Value) (w : World), (callFunc h args).run Tryd.prog w = .ok (.enter h args) w) (hc : w.cell? ⟨B, 0, none⟩ = some (.func (.func h) #[] lb))
    (K : ∀ ww, Below w.heap.size w ww → Calls Tryd.prog h (#[.agg #[.int .i64 x.id, .int .i64 x.el, .int .i64 x.off]] ++ lb) ww (RetB ww b)) :
    Calls Tryd.prog 92 #[.agg #[.int .i64 x.id, .int .i64 x.el, .int .i64 x.off], .pointer (some ⟨B, 0, none⟩)] w (RetB w (!b)) := by
  have hl := World.block_lt_of_cell? w _ hc
  have hc2 : ∀ o, (w.alloc o).cell? ⟨B, 0, none⟩ = some (.func (.func h) #[] lb) := fun o => (((Below.refl w.heap.size w).alloc (Nat.le_refl _) o).cell (p := ⟨B, 0, none⟩) hl).trans hc
  go_enter Tryd.func92, Tryd.ntmps92
  go_wp2_with fail
  refine (K _ ((Below.refl _ _).alloc (Nat.le_refl _) _)).mono ?_
  rintro e w1 ⟨rfl, b1⟩
  clear K eg
  go_wp2
  go_ret
  exact ⟨rfl, ((Below.refl _ _).alloc (Nat.le_refl _) _).trans (b1.mono (by simp))⟩
theorem all_B (v : Value) (l : List BalD) (w : World) (h : Nat) (lb : Array Value) (q : BalD → Bool) (eg : ∀ (args : Array Value) (w : World), (callFunc h args).run Tryd.prog w = .ok (.enter h args) w) (hr : RM w v 3 (l.map blV))
    (K : ∀ x ∈ l, ∀ ww, Below w.heap.size w ww → Calls Tryd.prog h (#[.agg #[.int .i64 x.id, .int .i64 x.el, .int .i64 x.off]] ++ lb) ww (RetB ww (q x))) :
    Calls Tryd.prog 67 #[v, .func (.func h) #[] lb] w (RetB w (l.all q)) := by
  have HB : ∀ o, Below w.heap.size w (w.alloc o) := fun o => (Below.refl _ _).alloc (Nat.le_refl _) _
  have KC := contains_B v l (w.alloc (.cells #[.func (.func h) #[] lb] 81)) 92 (.pointer (some ⟨w.heap.size, 0, none⟩)) (fun x => !q x) (enters_of Tryd.func92 (by kernel_rfl) rfl) (hr.below (HB _))
    (fun x hx ww hb => by
      have hc : ww.cell? ⟨w.heap.size, 0, none⟩ = some (.func (.func h) #[] lb) := (hb.cell (p := ⟨w.heap.size, 0, none⟩) (by simp)).trans (by rw [World.cell?_alloc_new]; rfl)
      exact allc_B x ww w.heap.size h lb (q x) eg hc fun w2 h2 => K x hx w2 (((HB _).trans (hb.mono (by simp))).trans (h2.mono (Nat.le_trans (by simp) hb.size))))
  have E : (!(l.any fun x => !q x)) = l.all q := by rw [List.not_any_eq_all_not]; simp
  rw [← E]
  obtain ⟨n, hn⟩ : ∃ n, (l.any fun x => !q x) = n := ⟨_, rfl⟩
  rw [hn] at KC ⊢
  clear hn K hr eg E
  go_enter Tryd.func67, Tryd.ntmps67
  go_wp2_with (go_at_call 91; refine KC.mono ?_; rintro e w1 ⟨rfl, b1⟩)
  go_ret
  exact ⟨rfl, (HB _).trans (b1.mono (by simp))⟩
end Go.Proofs.YthoodaldmfojaaaDoor
