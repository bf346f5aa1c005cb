/- Contracts of differ at the element types and keys of a layout. Conditions: the list can be read; the function that gives the keys is told by its contract. -/
import Derived.Test.YthoodaldmfojaaaDoorIdx7
import Derived.Test.YthoodaldmfojaaaDoorMap7
namespace Go.Proofs.YthoodaldmfojaaaDoor
open Go.ChangeShapes Go.WideShapes Go.ChangeAt Go.RowKit
theorem look_seen {α κ : Type} [DecidableEq κ] (key : α → κ) (x : κ) : ∀ l : List α, lookM x (l.map fun y => (key y, true)) = if x ∈ l.map key then some true else none
  | [] => by simp [lookM]
  | y :: r => by
    simp only [List.map_cons, lookM]
    by_cases h : key y = x
    · rw [if_pos h, if_pos (by simp [h])]
    · rw [if_neg h, look_seen key x r]
      by_cases h2 : x ∈ r.map key
      · rw [if_pos h2, if_pos (List.mem_cons_of_mem _ h2)]
      · rw [if_neg h2, if_neg (by rw [List.mem_cons, not_or]; exact ⟨fun e => h e.symm, h2⟩)]
theorem seen_keys {α κ : Type} (key : α → κ) (l : List α) : (l.map fun y => (key y, true)).map Prod.fst = l.map key := by simp [Function.comp_def]
theorem nodup_yes {α κ : Type} {key : α → κ} {l : List α} {k : Nat} {y : α} (hy : l[k]? = some y) (h : ((l.take k).map key).Nodup) (hn : key y ∉ (l.take k).map key) : ((l.take (k + 1)).map key).Nodup := by
  obtain ⟨h1, h2⟩ := List.getElem?_eq_some_iff.1 hy
  rw [List.take_succ_eq_append_getElem h1, h2, List.map_append, List.nodup_append]
  refine ⟨h, by simp, fun a ha b hb => ?_⟩
  simp at hb
  subst hb
  exact fun e => hn (e ▸ ha)
theorem nodup_no {α κ : Type} {key : α → κ} {l : List α} {k : Nat} {y : α} (hy : l[k]? = some y) (hn : key y ∈ (l.take k).map key) : ¬ (l.map key).Nodup := by
  intro h
  rw [← List.take_append_drop k l, drop_get hy, List.map_append, List.nodup_append] at h
  exact h.2.2 _ hn _ (by simp) rfl
theorem take_snoc {α : Type} {l : List α} {k : Nat} {y : α} (hy : l[k]? = some y) : l.take (k + 1) = l.take k ++ [y] := by
  obtain ⟨h1, h2⟩ := List.getElem?_eq_some_iff.1 hy
  rw [List.take_succ_eq_append_getElem h1, h2]


set_option maxRecDepth 100000 in
set_option maxHeartbeats 2000000 in
theorem differ_Ss (v : Value) (l : List L8) (w : World) (g : Nat) (key : L8 → L8) (eg : ∀ (args : Array Value) (w : World), (callFunc g args).run Tryd.prog w = .ok (.enter g args) w) (hr : RS w v (strsV l))
    (K : ∀ x ∈ l, ∀ ww, Below w.heap.size w ww → Calls Tryd.prog g #[str x] ww (RetV ww (str (key x)))) :
    Calls Tryd.prog 51 #[v, .func (.func g) #[] #[]] w (RetB w (decide (l.map key).Nodup)) := by
  obtain ⟨a, cap, rfl, ⟨hm, _⟩, HC⟩ := hr.openS
  clear hr
  obtain ⟨res, hres⟩ : ∃ r, decide (l.map key).Nodup = r := ⟨_, rfl⟩
  rw [hres]
  replace hres := Lib.hid hres
  replace K := Lib.hid K
  have hmm := @run_makeMap Tryd.prog
  have HB0 : Below w.heap.size w (w.alloc (.map #[] 0)) := (Below.refl _ _).alloc (Nat.le_refl _) _
  go_enter Tryd.func51, Tryd.ntmps51
  go_wp2
  clear hmm
  go_loopg [12] l.length (fun g s12 wx => ∃ (k : Nat), s12 = .int .i64 k ∧ k + g = l.length ∧ Hid (((l.take k).map key).Nodup) ∧ Hid (OwnM (fun s : L8 => str s) (fun b : Bool => Value.bool b) wx w.heap.size ((l.take k).map fun x => (key x, true))) ∧ Below w.heap.size w wx)
  case atStart => exact ⟨0, rfl, by omega, Lib.hid (by simp), Lib.hid (OwnM.made w), HB0⟩
  case round =>
    obtain ⟨k, rfl, hg, HN, HM, hbw⟩ := hrel
    cases gk with
    | zero =>
      have h : ¬ ((k : Int) < (l.length : Int)) := by omega
      have E : res = true := by have := HN.out; rw [List.take_of_length_le (by omega)] at this; rw [← hres.out]; exact decide_eq_true this
      subst E
      clear HN HM
      go_wp2
      go_ret
      exact ⟨rfl, hbw⟩
    | succ g' =>
      have h : ((k : Int) < (l.length : Int)) := by omega
      obtain ⟨y, hy, _, hmem⟩ := at_take (l := l) (k := k) (by omega)
      have hsz : w.heap.size < wr.heap.size := HM.out.lt
      obtain ⟨b, off, rfl, hlt, hc⟩ := HC.out.rd hbw hy
      have KK := K.out y hmem wr hbw
      replace hy := Lib.hid hy
      go_wp2_with fail
      refine KK.mono ?_
      rintro e w1 ⟨rfl, b1⟩
      have HM1 : OwnM (fun s : L8 => str s) (fun b : Bool => Value.bool b) w1 w.heap.size ((l.take k).map fun x => (key x, true)) := HM.out.below b1
      have hb2 : Below w.heap.size w w1 := (hbw).trans (b1.mono (Below.size hbw))
      have hz : (zeroValue 4).run Tryd.prog w1 = .ok (.bool false) w1 := Tryd.zeroValue4 _
      have L := HM1.look key_str (by rw [seen_keys]; exact HN.out) Tryd.underlying95 hz (key y) false
      rw [look_seen] at L
      clear hz KK eg
      by_cases hin : key y ∈ (l.take k).map key
      · rw [if_pos hin] at L
        simp only [Option.map_some, Option.getD_some, Bool.false_eq_true, if_false] at L
        have E : res = false := by rw [← hres.out]; exact decide_eq_false (nodup_no hy.out hin)
        subst E
        clear hin HM HN HM1
        go_wp2
        go_ret
        exact ⟨rfl, hb2⟩
      · rw [if_neg hin] at L
        simp only [Option.map_none, Option.getD_none, Bool.false_eq_true, if_false] at L
        have hN := Lib.hid (nodup_yes hy.out HN.out hin)
        have hP := putM_new (key y) true _ (by rw [look_seen, if_neg hin] : lookM (key y) ((l.take k).map fun x => (key x, true)) = none)
        have hT := take_snoc hy.out
        replace hP := Lib.hid hP
        replace hT := Lib.hid hT
        have hU := Lib.hid (show (((l.take k).map fun x => (key x, true)).map Prod.fst).Nodup by rw [seen_keys]; exact HN.out)
        replace HM1 := Lib.hid HM1
        clear hin HM HN
        go_wp2_with (at_mapUpdate; refine wpList_store _ rfl _ _ _ 95 rfl 9 4 key_str Tryd.underlying95 w.heap.size _ rfl HM1.out hU.out (key y) true rfl rfl ?_; intro w2 HM2 G2)
        go_roundg g'
        case measure => omega
        case rel => exact ⟨k + 1, by go_num, by omega, hN, Lib.hid (by rw [hT.out, List.map_append]; rw [hP.out] at HM2; exact HM2), hb2.grown G2 hb2.size (fun j e => by cases e; exact Nat.le_refl _)⟩


set_option maxRecDepth 100000 in
set_option maxHeartbeats 2000000 in
theorem differ_Es (v : Value) (l : List ElD) (w : World) (g : Nat) (key : ElD → L8) (eg : ∀ (args : Array Value) (w : World), (callFunc g args).run Tryd.prog w = .ok (.enter g args) w) (hr : RM w v 7 (l.map elV))
    (K : ∀ x ∈ l, ∀ ww, Below w.heap.size w ww → Calls Tryd.prog g #[.agg #[str x.name, .int .i64 x.kind, .int .i64 x.length, .int .i64 x.grade, .int .i64 x.speed, .int .i64 x.slow, .int .i64 x.sec]] ww (RetV ww (str (key x)))) :
    Calls Tryd.prog 53 #[v, .func (.func g) #[] #[]] w (RetB w (decide (l.map key).Nodup)) := by
  obtain ⟨a, cap, rfl, ⟨hm, _⟩, HC⟩ := hr.openM
  clear hr
  obtain ⟨res, hres⟩ : ∃ r, decide (l.map key).Nodup = r := ⟨_, rfl⟩
  rw [hres]
  replace hres := Lib.hid hres
  replace K := Lib.hid K
  have hmm := @run_makeMap Tryd.prog
  have HB0 : Below w.heap.size w (w.alloc (.map #[] 0)) := (Below.refl _ _).alloc (Nat.le_refl _) _
  go_enter Tryd.func53, Tryd.ntmps53
  go_wp2
  clear hmm
  go_loopg [12] l.length (fun g s12 wx => ∃ (k : Nat), s12 = .int .i64 k ∧ k + g = l.length ∧ Hid (((l.take k).map key).Nodup) ∧ Hid (OwnM (fun s : L8 => str s) (fun b : Bool => Value.bool b) wx w.heap.size ((l.take k).map fun x => (key x, true))) ∧ Below w.heap.size w wx)
  case atStart => exact ⟨0, rfl, by omega, Lib.hid (by simp), Lib.hid (OwnM.made w), HB0⟩
  case round =>
    obtain ⟨k, rfl, hg, HN, HM, hbw⟩ := hrel
    cases gk with
    | zero =>
      have h : ¬ ((k : Int) < (l.length : Int)) := by omega
      have E : res = true := by have := HN.out; rw [List.take_of_length_le (by omega)] at this; rw [← hres.out]; exact decide_eq_true this
      subst E
      clear HN HM
      go_wp2
      go_ret
      exact ⟨rfl, hbw⟩
    | succ g' =>
      have h : ((k : Int) < (l.length : Int)) := by omega
      obtain ⟨y, hy, _, hmem⟩ := at_take (l := l) (k := k) (by omega)
      have hsz : w.heap.size < wr.heap.size := HM.out.lt
      obtain ⟨b, off, rfl, hlt, hc⟩ := HC.out.rd hbw hy
      have c0 := hc 0 _ rfl
      have c1 := hc 1 _ rfl
      have c2 := hc 2 _ rfl
      have c3 := hc 3 _ rfl
      have c4 := hc 4 _ rfl
      have c5 := hc 5 _ rfl
      have c6 := hc 6 _ rfl
      simp only [Nat.add_zero] at c0
      clear hc
      have KK := K.out y hmem (wr.alloc (.cells #[str y.name, .int .i64 y.kind, .int .i64 y.length, .int .i64 y.grade, .int .i64 y.speed, .int .i64 y.slow, .int .i64 y.sec] 34)) (hbw.alloc (by have := hbw.size; omega) _)
      replace hy := Lib.hid hy
      go_wp2_with fail
      refine KK.mono ?_
      rintro e w1 ⟨rfl, b1⟩
      have HM1 : OwnM (fun s : L8 => str s) (fun b : Bool => Value.bool b) w1 w.heap.size ((l.take k).map fun x => (key x, true)) := (HM.out.below ((Below.refl _ _).alloc (Nat.le_refl _) _)).below b1
      have hb2 : Below w.heap.size w w1 := ((hbw.alloc (by have := hbw.size; omega) _)).trans (b1.mono (Below.size (hbw.alloc (by have := hbw.size; omega) _)))
      have hz : (zeroValue 4).run Tryd.prog w1 = .ok (.bool false) w1 := Tryd.zeroValue4 _
      have L := HM1.look key_str (by rw [seen_keys]; exact HN.out) Tryd.underlying95 hz (key y) false
      rw [look_seen] at L
      clear hz KK eg
      by_cases hin : key y ∈ (l.take k).map key
      · rw [if_pos hin] at L
        simp only [Option.map_some, Option.getD_some, Bool.false_eq_true, if_false] at L
        have E : res = false := by rw [← hres.out]; exact decide_eq_false (nodup_no hy.out hin)
        subst E
        clear hin HM HN HM1
        go_wp2
        go_ret
        exact ⟨rfl, hb2⟩
      · rw [if_neg hin] at L
        simp only [Option.map_none, Option.getD_none, Bool.false_eq_true, if_false] at L
        have hN := Lib.hid (nodup_yes hy.out HN.out hin)
        have hP := putM_new (key y) true _ (by rw [look_seen, if_neg hin] : lookM (key y) ((l.take k).map fun x => (key x, true)) = none)
        have hT := take_snoc hy.out
        replace hP := Lib.hid hP
        replace hT := Lib.hid hT
        have hU := Lib.hid (show (((l.take k).map fun x => (key x, true)).map Prod.fst).Nodup by rw [seen_keys]; exact HN.out)
        replace HM1 := Lib.hid HM1
        clear hin HM HN
        go_wp2_with (at_mapUpdate; refine wpList_store _ rfl _ _ _ 95 rfl 9 4 key_str Tryd.underlying95 w.heap.size _ rfl HM1.out hU.out (key y) true rfl rfl ?_; intro w2 HM2 G2)
        go_roundg g'
        case measure => omega
        case rel => exact ⟨k + 1, by go_num, by omega, hN, Lib.hid (by rw [hT.out, List.map_append]; rw [hP.out] at HM2; exact HM2), hb2.grown G2 hb2.size (fun j e => by cases e; exact Nat.le_refl _)⟩


set_option maxRecDepth 100000 in
set_option maxHeartbeats 2000000 in
theorem differ_Gs (v : Value) (l : List SigD) (w : World) (g : Nat) (key : SigD → L8) (eg : ∀ (args : Array Value) (w : World), (callFunc g args).run Tryd.prog w = .ok (.enter g args) w) (hr : RM w v 4 (l.map sgV))
    (K : ∀ x ∈ l, ∀ ww, Below w.heap.size w ww → Calls Tryd.prog g #[.agg #[str x.name, .int .i64 x.at_.1, .int .i64 x.at_.2, .int .i64 x.overlap]] ww (RetV ww (str (key x)))) :
    Calls Tryd.prog 55 #[v, .func (.func g) #[] #[]] w (RetB w (decide (l.map key).Nodup)) := by
  obtain ⟨a, cap, rfl, ⟨hm, _⟩, HC⟩ := hr.openM
  clear hr
  obtain ⟨res, hres⟩ : ∃ r, decide (l.map key).Nodup = r := ⟨_, rfl⟩
  rw [hres]
  replace hres := Lib.hid hres
  replace K := Lib.hid K
  have hmm := @run_makeMap Tryd.prog
  have HB0 : Below w.heap.size w (w.alloc (.map #[] 0)) := (Below.refl _ _).alloc (Nat.le_refl _) _
  go_enter Tryd.func55, Tryd.ntmps55
  go_wp2
  clear hmm
  go_loopg [12] l.length (fun g s12 wx => ∃ (k : Nat), s12 = .int .i64 k ∧ k + g = l.length ∧ Hid (((l.take k).map key).Nodup) ∧ Hid (OwnM (fun s : L8 => str s) (fun b : Bool => Value.bool b) wx w.heap.size ((l.take k).map fun x => (key x, true))) ∧ Below w.heap.size w wx)
  case atStart => exact ⟨0, rfl, by omega, Lib.hid (by simp), Lib.hid (OwnM.made w), HB0⟩
  case round =>
    obtain ⟨k, rfl, hg, HN, HM, hbw⟩ := hrel
    cases gk with
    | zero =>
      have h : ¬ ((k : Int) < (l.length : Int)) := by omega
      have E : res = true := by have := HN.out; rw [List.take_of_length_le (by omega)] at this; rw [← hres.out]; exact decide_eq_true this
      subst E
      clear HN HM
      go_wp2
      go_ret
      exact ⟨rfl, hbw⟩
    | succ g' =>
      have h : ((k : Int) < (l.length : Int)) := by omega
      obtain ⟨y, hy, _, hmem⟩ := at_take (l := l) (k := k) (by omega)
      have hsz : w.heap.size < wr.heap.size := HM.out.lt
      obtain ⟨b, off, rfl, hlt, hc⟩ := HC.out.rd hbw hy
      have c0 := hc 0 _ rfl
      have c1 := hc 1 _ rfl
      have c2 := hc 2 _ rfl
      have c3 := hc 3 _ rfl
      simp only [Nat.add_zero] at c0
      clear hc
      have KK := K.out y hmem (wr.alloc (.cells #[str y.name, .int .i64 y.at_.1, .int .i64 y.at_.2, .int .i64 y.overlap] 56)) (hbw.alloc (by have := hbw.size; omega) _)
      replace hy := Lib.hid hy
      go_wp2_with fail
      refine KK.mono ?_
      rintro e w1 ⟨rfl, b1⟩
      have HM1 : OwnM (fun s : L8 => str s) (fun b : Bool => Value.bool b) w1 w.heap.size ((l.take k).map fun x => (key x, true)) := (HM.out.below ((Below.refl _ _).alloc (Nat.le_refl _) _)).below b1
      have hb2 : Below w.heap.size w w1 := ((hbw.alloc (by have := hbw.size; omega) _)).trans (b1.mono (Below.size (hbw.alloc (by have := hbw.size; omega) _)))
      have hz : (zeroValue 4).run Tryd.prog w1 = .ok (.bool false) w1 := Tryd.zeroValue4 _
      have L := HM1.look key_str (by rw [seen_keys]; exact HN.out) Tryd.underlying95 hz (key y) false
      rw [look_seen] at L
      clear hz KK eg
      by_cases hin : key y ∈ (l.take k).map key
      · rw [if_pos hin] at L
        simp only [Option.map_some, Option.getD_some, Bool.false_eq_true, if_false] at L
        have E : res = false := by rw [← hres.out]; exact decide_eq_false (nodup_no hy.out hin)
        subst E
        clear hin HM HN HM1
        go_wp2
        go_ret
        exact ⟨rfl, hb2⟩
      · rw [if_neg hin] at L
        simp only [Option.map_none, Option.getD_none, Bool.false_eq_true, if_false] at L
        have hN := Lib.hid (nodup_yes hy.out HN.out hin)
        have hP := putM_new (key y) true _ (by rw [look_seen, if_neg hin] : lookM (key y) ((l.take k).map fun x => (key x, true)) = none)
        have hT := take_snoc hy.out
        replace hP := Lib.hid hP
        replace hT := Lib.hid hT
        have hU := Lib.hid (show (((l.take k).map fun x => (key x, true)).map Prod.fst).Nodup by rw [seen_keys]; exact HN.out)
        replace HM1 := Lib.hid HM1
        clear hin HM HN
        go_wp2_with (at_mapUpdate; refine wpList_store _ rfl _ _ _ 95 rfl 9 4 key_str Tryd.underlying95 w.heap.size _ rfl HM1.out hU.out (key y) true rfl rfl ?_; intro w2 HM2 G2)
        go_roundg g'
        case measure => omega
        case rel => exact ⟨k + 1, by go_num, by omega, hN, Lib.hid (by rw [hT.out, List.map_append]; rw [hP.out] at HM2; exact HM2), hb2.grown G2 hb2.size (fun j e => by cases e; exact Nat.le_refl _)⟩


set_option maxRecDepth 100000 in
set_option maxHeartbeats 2000000 in
theorem differ_Ge (v : Value) (l : List SigD) (w : World) (g : Nat) (key : SigD → EndD) (eg : ∀ (args : Array Value) (w : World), (callFunc g args).run Tryd.prog w = .ok (.enter g args) w) (hr : RM w v 4 (l.map sgV))
    (K : ∀ x ∈ l, ∀ ww, Below w.heap.size w ww → Calls Tryd.prog g #[.agg #[str x.name, .int .i64 x.at_.1, .int .i64 x.at_.2, .int .i64 x.overlap]] ww (RetV ww (endV (key x)))) :
    Calls Tryd.prog 64 #[v, .func (.func g) #[] #[]] w (RetB w (decide (l.map key).Nodup)) := by
  obtain ⟨a, cap, rfl, ⟨hm, _⟩, HC⟩ := hr.openM
  clear hr
  obtain ⟨res, hres⟩ : ∃ r, decide (l.map key).Nodup = r := ⟨_, rfl⟩
  rw [hres]
  replace hres := Lib.hid hres
  replace K := Lib.hid K
  have hmm := @run_makeMap Tryd.prog
  have HB0 : Below w.heap.size w (w.alloc (.map #[] 0)) := (Below.refl _ _).alloc (Nat.le_refl _) _
  go_enter Tryd.func64, Tryd.ntmps64
  go_wp2
  clear hmm
  go_loopg [12] l.length (fun g s12 wx => ∃ (k : Nat), s12 = .int .i64 k ∧ k + g = l.length ∧ Hid (((l.take k).map key).Nodup) ∧ Hid (OwnM endV (fun b : Bool => Value.bool b) wx w.heap.size ((l.take k).map fun x => (key x, true))) ∧ Below w.heap.size w wx)
  case atStart => exact ⟨0, rfl, by omega, Lib.hid (by simp), Lib.hid (OwnM.made w), HB0⟩
  case round =>
    obtain ⟨k, rfl, hg, HN, HM, hbw⟩ := hrel
    cases gk with
    | zero =>
      have h : ¬ ((k : Int) < (l.length : Int)) := by omega
      have E : res = true := by have := HN.out; rw [List.take_of_length_le (by omega)] at this; rw [← hres.out]; exact decide_eq_true this
      subst E
      clear HN HM
      go_wp2
      go_ret
      exact ⟨rfl, hbw⟩
    | succ g' =>
      have h : ((k : Int) < (l.length : Int)) := by omega
      obtain ⟨y, hy, _, hmem⟩ := at_take (l := l) (k := k) (by omega)
      have hsz : w.heap.size < wr.heap.size := HM.out.lt
      obtain ⟨b, off, rfl, hlt, hc⟩ := HC.out.rd hbw hy
      have c0 := hc 0 _ rfl
      have c1 := hc 1 _ rfl
      have c2 := hc 2 _ rfl
      have c3 := hc 3 _ rfl
      simp only [Nat.add_zero] at c0
      clear hc
      have KK := K.out y hmem (wr.alloc (.cells #[str y.name, .int .i64 y.at_.1, .int .i64 y.at_.2, .int .i64 y.overlap] 56)) (hbw.alloc (by have := hbw.size; omega) _)
      replace hy := Lib.hid hy
      go_wp2_with fail
      refine KK.mono ?_
      rintro e w1 ⟨rfl, b1⟩
      have HM1 : OwnM endV (fun b : Bool => Value.bool b) (w1.alloc (.cells #[.int .i64 (key y).1, .int .i64 (key y).2] 37)) w.heap.size ((l.take k).map fun x => (key x, true)) := ((HM.out.below ((Below.refl _ _).alloc (Nat.le_refl _) _)).below b1).below ((Below.refl _ _).alloc (Nat.le_refl _) _)
      have hb2 : Below w.heap.size w (w1.alloc (.cells #[.int .i64 (key y).1, .int .i64 (key y).2] 37)) := (((hbw.alloc (by have := hbw.size; omega) _)).trans (b1.mono (Below.size (hbw.alloc (by have := hbw.size; omega) _)))).alloc (Nat.le_trans (Below.size (hbw.alloc (by have := hbw.size; omega) _)) b1.size) _
      have hz : (zeroValue 4).run Tryd.prog (w1.alloc (.cells #[.int .i64 (key y).1, .int .i64 (key y).2] 37)) = .ok (.bool false) (w1.alloc (.cells #[.int .i64 (key y).1, .int .i64 (key y).2] 37)) := Tryd.zeroValue4 _
      have L := HM1.look key_end (by rw [seen_keys]; exact HN.out) Tryd.underlying97 hz (key y) false
      rw [look_seen] at L
      clear hz KK eg
      by_cases hin : key y ∈ (l.take k).map key
      · rw [if_pos hin] at L
        simp only [Option.map_some, Option.getD_some, Bool.false_eq_true, if_false] at L
        have E : res = false := by rw [← hres.out]; exact decide_eq_false (nodup_no hy.out hin)
        subst E
        clear hin HM HN HM1
        go_wp2
        go_ret
        exact ⟨rfl, hb2⟩
      · rw [if_neg hin] at L
        simp only [Option.map_none, Option.getD_none, Bool.false_eq_true, if_false] at L
        have hN := Lib.hid (nodup_yes hy.out HN.out hin)
        have hP := putM_new (key y) true _ (by rw [look_seen, if_neg hin] : lookM (key y) ((l.take k).map fun x => (key x, true)) = none)
        have hT := take_snoc hy.out
        replace hP := Lib.hid hP
        replace hT := Lib.hid hT
        have hU := Lib.hid (show (((l.take k).map fun x => (key x, true)).map Prod.fst).Nodup by rw [seen_keys]; exact HN.out)
        replace HM1 := Lib.hid HM1
        clear hin HM HN
        go_wp2_with (at_mapUpdate; refine wpList_store _ rfl _ _ _ 97 rfl 37 4 key_end Tryd.underlying97 w.heap.size _ rfl HM1.out hU.out (key y) true rfl rfl ?_; intro w2 HM2 G2)
        go_roundg g'
        case measure => omega
        case rel => exact ⟨k + 1, by go_num, by omega, hN, Lib.hid (by rw [hT.out, List.map_append]; rw [hP.out] at HM2; exact HM2), hb2.grown G2 hb2.size (fun j e => by cases e; exact Nat.le_refl _)⟩


set_option maxRecDepth 100000 in
set_option maxHeartbeats 2000000 in
theorem differ_Bi (v : Value) (l : List BalD) (w : World) (g : Nat) (key : BalD → Int) (eg : ∀ (args : Array Value) (w : World), (callFunc g args).run Tryd.prog w = .ok (.enter g args) w) (hr : RM w v 3 (l.map blV))
    (K : ∀ x ∈ l, ∀ ww, Below w.heap.size w ww → Calls Tryd.prog g #[.agg #[.int .i64 x.id, .int .i64 x.el, .int .i64 x.off]] ww (RetV ww (.int .i64 (key x)))) :
    Calls Tryd.prog 69 #[v, .func (.func g) #[] #[]] w (RetB w (decide (l.map key).Nodup)) := by
  obtain ⟨a, cap, rfl, ⟨hm, _⟩, HC⟩ := hr.openM
  clear hr
  obtain ⟨res, hres⟩ : ∃ r, decide (l.map key).Nodup = r := ⟨_, rfl⟩
  rw [hres]
  replace hres := Lib.hid hres
  replace K := Lib.hid K
  have hmm := @run_makeMap Tryd.prog
  have HB0 : Below w.heap.size w (w.alloc (.map #[] 0)) := (Below.refl _ _).alloc (Nat.le_refl _) _
  go_enter Tryd.func69, Tryd.ntmps69
  go_wp2
  clear hmm
  go_loopg [12] l.length (fun g s12 wx => ∃ (k : Nat), s12 = .int .i64 k ∧ k + g = l.length ∧ Hid (((l.take k).map key).Nodup) ∧ Hid (OwnM (fun n : Int => Value.int .i64 n) (fun b : Bool => Value.bool b) wx w.heap.size ((l.take k).map fun x => (key x, true))) ∧ Below w.heap.size w wx)
  case atStart => exact ⟨0, rfl, by omega, Lib.hid (by simp), Lib.hid (OwnM.made w), HB0⟩
  case round =>
    obtain ⟨k, rfl, hg, HN, HM, hbw⟩ := hrel
    cases gk with
    | zero =>
      have h : ¬ ((k : Int) < (l.length : Int)) := by omega
      have E : res = true := by have := HN.out; rw [List.take_of_length_le (by omega)] at this; rw [← hres.out]; exact decide_eq_true this
      subst E
      clear HN HM
      go_wp2
      go_ret
      exact ⟨rfl, hbw⟩
    | succ g' =>
      have h : ((k : Int) < (l.length : Int)) := by omega
      obtain ⟨y, hy, _, hmem⟩ := at_take (l := l) (k := k) (by omega)
      have hsz : w.heap.size < wr.heap.size := HM.out.lt
      obtain ⟨b, off, rfl, hlt, hc⟩ := HC.out.rd hbw hy
      have c0 := hc 0 _ rfl
      have c1 := hc 1 _ rfl
      have c2 := hc 2 _ rfl
      simp only [Nat.add_zero] at c0
      clear hc
      have KK := K.out y hmem (wr.alloc (.cells #[.int .i64 y.id, .int .i64 y.el, .int .i64 y.off] 80)) (hbw.alloc (by have := hbw.size; omega) _)
      replace hy := Lib.hid hy
      go_wp2_with fail
      refine KK.mono ?_
      rintro e w1 ⟨rfl, b1⟩
      have HM1 : OwnM (fun n : Int => Value.int .i64 n) (fun b : Bool => Value.bool b) w1 w.heap.size ((l.take k).map fun x => (key x, true)) := (HM.out.below ((Below.refl _ _).alloc (Nat.le_refl _) _)).below b1
      have hb2 : Below w.heap.size w w1 := ((hbw.alloc (by have := hbw.size; omega) _)).trans (b1.mono (Below.size (hbw.alloc (by have := hbw.size; omega) _)))
      have hz : (zeroValue 4).run Tryd.prog w1 = .ok (.bool false) w1 := Tryd.zeroValue4 _
      have L := HM1.look key_int (by rw [seen_keys]; exact HN.out) Tryd.underlying98 hz (key y) false
      rw [look_seen] at L
      clear hz KK eg
      by_cases hin : key y ∈ (l.take k).map key
      · rw [if_pos hin] at L
        simp only [Option.map_some, Option.getD_some, Bool.false_eq_true, if_false] at L
        have E : res = false := by rw [← hres.out]; exact decide_eq_false (nodup_no hy.out hin)
        subst E
        clear hin HM HN HM1
        go_wp2
        go_ret
        exact ⟨rfl, hb2⟩
      · rw [if_neg hin] at L
        simp only [Option.map_none, Option.getD_none, Bool.false_eq_true, if_false] at L
        have hN := Lib.hid (nodup_yes hy.out HN.out hin)
        have hP := putM_new (key y) true _ (by rw [look_seen, if_neg hin] : lookM (key y) ((l.take k).map fun x => (key x, true)) = none)
        have hT := take_snoc hy.out
        replace hP := Lib.hid hP
        replace hT := Lib.hid hT
        have hU := Lib.hid (show (((l.take k).map fun x => (key x, true)).map Prod.fst).Nodup by rw [seen_keys]; exact HN.out)
        replace HM1 := Lib.hid HM1
        clear hin HM HN
        go_wp2_with (at_mapUpdate; refine wpList_store _ rfl _ _ _ 98 rfl 3 4 key_int Tryd.underlying98 w.heap.size _ rfl HM1.out hU.out (key y) true rfl rfl ?_; intro w2 HM2 G2)
        go_roundg g'
        case measure => omega
        case rel => exact ⟨k + 1, by go_num, by omega, hN, Lib.hid (by rw [hT.out, List.map_append]; rw [hP.out] at HM2; exact HM2), hb2.grown G2 hb2.size (fun j e => by cases e; exact Nat.le_refl _)⟩
end Go.Proofs.YthoodaldmfojaaaDoor
