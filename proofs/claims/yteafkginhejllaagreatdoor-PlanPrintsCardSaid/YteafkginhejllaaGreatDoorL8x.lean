/- Texts of the layers 5 to 7, merged. -/
import Derived.Test.YteafkginhejllaaGreatDoorK8
import Derived.Test.YteafkginhejllaaGreatDoorG8
namespace Go.Proofs.YteafkginhejllaaGreatDoor
section
open Go.ChangeShapes Go.WideShapes Go.ChangeAt Go.RowKit
theorem look_seen {α κ : Type} [DecidableEq κ] (key : α → κ) (x : κ) : ∀ l : List α, lookM x (l.map fun y => (key y, true)) = if x ∈ l.map key then some true else none
  | [] => by simp [lookM]
  | y :: r => by
    simp only [List.map_cons, lookM]
    by_cases h : key y = x
    · rw [if_pos h, if_pos (by simp [h])]
    · rw [if_neg h, look_seen key x r]
      by_cases h2 : x ∈ r.map key
      · rw [if_pos h2, if_pos (List.mem_cons_of_mem _ h2)]
      · rw [if_neg h2, if_neg (by rw [List.mem_cons, not_or]; exact ⟨fun e => h e.symm, h2⟩)]
theorem seen_keys {α κ : Type} (key : α → κ) (l : List α) : (l.map fun y => (key y, true)).map Prod.fst = l.map key := by simp [Function.comp_def]
theorem nodup_yes {α κ : Type} {key : α → κ} {l : List α} {k : Nat} {y : α} (hy : l[k]? = some y) (h : ((l.take k).map key).Nodup) (hn : key y ∉ (l.take k).map key) : ((l.take (k + 1)).map key).Nodup := by
  obtain ⟨h1, h2⟩ := List.getElem?_eq_some_iff.1 hy
  rw [List.take_succ_eq_append_getElem h1, h2, List.map_append, List.nodup_append]
  refine ⟨h, by simp, fun a ha b hb => ?_⟩
  simp at hb
  subst hb
  exact fun e => hn (e ▸ ha)
theorem nodup_no {α κ : Type} {key : α → κ} {l : List α} {k : Nat} {y : α} (hy : l[k]? = some y) (hn : key y ∈ (l.take k).map key) : ¬ (l.map key).Nodup := by
  intro h
  rw [← List.take_append_drop k l, drop_get hy, List.map_append, List.nodup_append] at h
  exact h.2.2 _ hn _ (by simp) rfl
theorem take_snoc {α : Type} {l : List α} {k : Nat} {y : α} (hy : l[k]? = some y) : l.take (k + 1) = l.take k ++ [y] := by
  obtain ⟨h1, h2⟩ := List.getElem?_eq_some_iff.1 hy
  rw [List.take_succ_eq_append_getElem h1, h2]


set_option maxRecDepth 100000 in
set_option maxHeartbeats 2000000 in
theorem differ_Ss (v : Value) (l : List L8) (w : World) (g : Nat) (key : L8 → L8) (eg : ∀ (args : Array Value) (w : World), (callFunc g args).run Tryz.prog w = .ok (.enter g args) w) (hr : RS w v (strsV l))
    (K : ∀ x ∈ l, ∀ ww, Below w.heap.size w ww → Calls Tryz.prog g #[str x] ww (RetV ww (str (key x)))) :
    Calls Tryz.prog 61 #[v, .func (.func g) #[] #[]] w (RetB w (decide (l.map key).Nodup)) := by
  obtain ⟨a, cap, rfl, ⟨hm, _⟩, HC⟩ := hr.openS
  clear hr
  obtain ⟨res, hres⟩ : ∃ r, decide (l.map key).Nodup = r := ⟨_, rfl⟩
  rw [hres]
  replace hres := Lib.hid hres
  replace K := Lib.hid K
  have hmm := @run_makeMap Tryz.prog
  have HB0 : Below w.heap.size w (w.alloc (.map #[] 0)) := (Below.refl _ _).alloc (Nat.le_refl _) _
  go_enter Tryz.func61, Tryz.ntmps61
  go_wp2
  clear hmm
  go_loopg [12] l.length (fun g s12 wx => ∃ (k : Nat), s12 = .int .i64 k ∧ k + g = l.length ∧ Hid (((l.take k).map key).Nodup) ∧ Hid (OwnM (fun s : L8 => str s) (fun b : Bool => Value.bool b) wx w.heap.size ((l.take k).map fun x => (key x, true))) ∧ Below w.heap.size w wx)
  case atStart => exact ⟨0, rfl, by omega, Lib.hid (by simp), Lib.hid (OwnM.made w), HB0⟩
  case round =>
    obtain ⟨k, rfl, hg, HN, HM, hbw⟩ := hrel
    cases gk with
    | zero =>
      have h : ¬ ((k : Int) < (l.length : Int)) := by omega
      have E : res = true := by have := HN.out; rw [List.take_of_length_le (by omega)] at this; rw [← hres.out]; exact decide_eq_true this
      subst E
      clear HN HM
      go_wp2
      go_ret
      exact ⟨rfl, hbw⟩
    | succ g' =>
      have h : ((k : Int) < (l.length : Int)) := by omega
      obtain ⟨y, hy, _, hmem⟩ := at_take (l := l) (k := k) (by omega)
      have hsz : w.heap.size < wr.heap.size := HM.out.lt
      obtain ⟨b, off, rfl, hlt, hc⟩ := HC.out.rd hbw hy
      have KK := K.out y hmem wr hbw
      replace hy := Lib.hid hy
      go_wp2_with fail
      refine KK.mono ?_
      rintro e w1 ⟨rfl, b1⟩
      have HM1 : OwnM (fun s : L8 => str s) (fun b : Bool => Value.bool b) w1 w.heap.size ((l.take k).map fun x => (key x, true)) := HM.out.below b1
      have hb2 : Below w.heap.size w w1 := (hbw).trans (b1.mono (Below.size hbw))
      have hz : (zeroValue 4).run Tryz.prog w1 = .ok (.bool false) w1 := Tryz.zeroValue4 _
      have L := HM1.look key_str (by rw [seen_keys]; exact HN.out) Tryz.underlying131 hz (key y) false
      rw [look_seen] at L
      clear hz KK eg
      by_cases hin : key y ∈ (l.take k).map key
      · rw [if_pos hin] at L
        simp only [Option.map_some, Option.getD_some, Bool.false_eq_true, if_false] at L
        have E : res = false := by rw [← hres.out]; exact decide_eq_false (nodup_no hy.out hin)
        subst E
        clear hin HM HN HM1
        go_wp2
        go_ret
        exact ⟨rfl, hb2⟩
      · rw [if_neg hin] at L
        simp only [Option.map_none, Option.getD_none, Bool.false_eq_true, if_false] at L
        have hN := Lib.hid (nodup_yes hy.out HN.out hin)
        have hP := putM_new (key y) true _ (by rw [look_seen, if_neg hin] : lookM (key y) ((l.take k).map fun x => (key x, true)) = none)
        have hT := take_snoc hy.out
        replace hP := Lib.hid hP
        replace hT := Lib.hid hT
        have hU := Lib.hid (show (((l.take k).map fun x => (key x, true)).map Prod.fst).Nodup by rw [seen_keys]; exact HN.out)
        replace HM1 := Lib.hid HM1
        clear hin HM HN
        go_wp2_with (at_mapUpdate; refine wpList_store _ rfl _ _ _ 131 rfl 9 4 key_str Tryz.underlying131 w.heap.size _ rfl HM1.out hU.out (key y) true rfl rfl ?_; intro w2 HM2 G2)
        go_roundg g'
        case measure => omega
        case rel => exact ⟨k + 1, by go_num, by omega, hN, Lib.hid (by rw [hT.out, List.map_append]; rw [hP.out] at HM2; exact HM2), hb2.grown G2 hb2.size (fun j e => by cases e; exact Nat.le_refl _)⟩


set_option maxRecDepth 100000 in
set_option maxHeartbeats 2000000 in
theorem differ_Es (v : Value) (l : List ElD) (w : World) (g : Nat) (key : ElD → L8) (eg : ∀ (args : Array Value) (w : World), (callFunc g args).run Tryz.prog w = .ok (.enter g args) w) (hr : RM w v 7 (l.map elV))
    (K : ∀ x ∈ l, ∀ ww, Below w.heap.size w ww → Calls Tryz.prog g #[.agg #[str x.name, .int .i64 x.kind, .int .i64 x.length, .int .i64 x.grade, .int .i64 x.speed, .int .i64 x.slow, .int .i64 x.sec]] ww (RetV ww (str (key x)))) :
    Calls Tryz.prog 63 #[v, .func (.func g) #[] #[]] w (RetB w (decide (l.map key).Nodup)) := by
  obtain ⟨a, cap, rfl, ⟨hm, _⟩, HC⟩ := hr.openM
  clear hr
  obtain ⟨res, hres⟩ : ∃ r, decide (l.map key).Nodup = r := ⟨_, rfl⟩
  rw [hres]
  replace hres := Lib.hid hres
  replace K := Lib.hid K
  have hmm := @run_makeMap Tryz.prog
  have HB0 : Below w.heap.size w (w.alloc (.map #[] 0)) := (Below.refl _ _).alloc (Nat.le_refl _) _
  go_enter Tryz.func63, Tryz.ntmps63
  go_wp2
  clear hmm
  go_loopg [12] l.length (fun g s12 wx => ∃ (k : Nat), s12 = .int .i64 k ∧ k + g = l.length ∧ Hid (((l.take k).map key).Nodup) ∧ Hid (OwnM (fun s : L8 => str s) (fun b : Bool => Value.bool b) wx w.heap.size ((l.take k).map fun x => (key x, true))) ∧ Below w.heap.size w wx)
  case atStart => exact ⟨0, rfl, by omega, Lib.hid (by simp), Lib.hid (OwnM.made w), HB0⟩
  case round =>
    obtain ⟨k, rfl, hg, HN, HM, hbw⟩ := hrel
    cases gk with
    | zero =>
      have h : ¬ ((k : Int) < (l.length : Int)) := by omega
      have E : res = true := by have := HN.out; rw [List.take_of_length_le (by omega)] at this; rw [← hres.out]; exact decide_eq_true this
      subst E
      clear HN HM
      go_wp2
      go_ret
      exact ⟨rfl, hbw⟩
    | succ g' =>
      have h : ((k : Int) < (l.length : Int)) := by omega
      obtain ⟨y, hy, _, hmem⟩ := at_take (l := l) (k := k) (by omega)
      have hsz : w.heap.size < wr.heap.size := HM.out.lt
      obtain ⟨b, off, rfl, hlt, hc⟩ := HC.out.rd hbw hy
      have c0 := hc 0 _ rfl
      have c1 := hc 1 _ rfl
      have c2 := hc 2 _ rfl
      have c3 := hc 3 _ rfl
      have c4 := hc 4 _ rfl
      have c5 := hc 5 _ rfl
      have c6 := hc 6 _ rfl
      simp only [Nat.add_zero] at c0
      clear hc
      have KK := K.out y hmem (wr.alloc (.cells #[str y.name, .int .i64 y.kind, .int .i64 y.length, .int .i64 y.grade, .int .i64 y.speed, .int .i64 y.slow, .int .i64 y.sec] 45)) (hbw.alloc (by have := hbw.size; omega) _)
      replace hy := Lib.hid hy
      go_wp2_with fail
      refine KK.mono ?_
      rintro e w1 ⟨rfl, b1⟩
      have HM1 : OwnM (fun s : L8 => str s) (fun b : Bool => Value.bool b) w1 w.heap.size ((l.take k).map fun x => (key x, true)) := (HM.out.below ((Below.refl _ _).alloc (Nat.le_refl _) _)).below b1
      have hb2 : Below w.heap.size w w1 := ((hbw.alloc (by have := hbw.size; omega) _)).trans (b1.mono (Below.size (hbw.alloc (by have := hbw.size; omega) _)))
      have hz : (zeroValue 4).run Tryz.prog w1 = .ok (.bool false) w1 := Tryz.zeroValue4 _
      have L := HM1.look key_str (by rw [seen_keys]; exact HN.out) Tryz.underlying131 hz (key y) false
      rw [look_seen] at L
      clear hz KK eg
      by_cases hin : key y ∈ (l.take k).map key
      · rw [if_pos hin] at L
        simp only [Option.map_some, Option.getD_some, Bool.false_eq_true, if_false] at L
        have E : res = false := by rw [← hres.out]; exact decide_eq_false (nodup_no hy.out hin)
        subst E
        clear hin HM HN HM1
        go_wp2
        go_ret
        exact ⟨rfl, hb2⟩
      · rw [if_neg hin] at L
        simp only [Option.map_none, Option.getD_none, Bool.false_eq_true, if_false] at L
        have hN := Lib.hid (nodup_yes hy.out HN.out hin)
        have hP := putM_new (key y) true _ (by rw [look_seen, if_neg hin] : lookM (key y) ((l.take k).map fun x => (key x, true)) = none)
        have hT := take_snoc hy.out
        replace hP := Lib.hid hP
        replace hT := Lib.hid hT
        have hU := Lib.hid (show (((l.take k).map fun x => (key x, true)).map Prod.fst).Nodup by rw [seen_keys]; exact HN.out)
        replace HM1 := Lib.hid HM1
        clear hin HM HN
        go_wp2_with (at_mapUpdate; refine wpList_store _ rfl _ _ _ 131 rfl 9 4 key_str Tryz.underlying131 w.heap.size _ rfl HM1.out hU.out (key y) true rfl rfl ?_; intro w2 HM2 G2)
        go_roundg g'
        case measure => omega
        case rel => exact ⟨k + 1, by go_num, by omega, hN, Lib.hid (by rw [hT.out, List.map_append]; rw [hP.out] at HM2; exact HM2), hb2.grown G2 hb2.size (fun j e => by cases e; exact Nat.le_refl _)⟩


set_option maxRecDepth 100000 in
set_option maxHeartbeats 2000000 in
theorem differ_Gs (v : Value) (l : List SigD) (w : World) (g : Nat) (key : SigD → L8) (eg : ∀ (args : Array Value) (w : World), (callFunc g args).run Tryz.prog w = .ok (.enter g args) w) (hr : RM w v 4 (l.map sgV))
    (K : ∀ x ∈ l, ∀ ww, Below w.heap.size w ww → Calls Tryz.prog g #[.agg #[str x.name, .int .i64 x.at_.1, .int .i64 x.at_.2, .int .i64 x.overlap]] ww (RetV ww (str (key x)))) :
    Calls Tryz.prog 65 #[v, .func (.func g) #[] #[]] w (RetB w (decide (l.map key).Nodup)) := by
  obtain ⟨a, cap, rfl, ⟨hm, _⟩, HC⟩ := hr.openM
  clear hr
  obtain ⟨res, hres⟩ : ∃ r, decide (l.map key).Nodup = r := ⟨_, rfl⟩
  rw [hres]
  replace hres := Lib.hid hres
  replace K := Lib.hid K
  have hmm := @run_makeMap Tryz.prog
  have HB0 : Below w.heap.size w (w.alloc (.map #[] 0)) := (Below.refl _ _).alloc (Nat.le_refl _) _
  go_enter Tryz.func65, Tryz.ntmps65
  go_wp2
  clear hmm
  go_loopg [12] l.length (fun g s12 wx => ∃ (k : Nat), s12 = .int .i64 k ∧ k + g = l.length ∧ Hid (((l.take k).map key).Nodup) ∧ Hid (OwnM (fun s : L8 => str s) (fun b : Bool => Value.bool b) wx w.heap.size ((l.take k).map fun x => (key x, true))) ∧ Below w.heap.size w wx)
  case atStart => exact ⟨0, rfl, by omega, Lib.hid (by simp), Lib.hid (OwnM.made w), HB0⟩
  case round =>
    obtain ⟨k, rfl, hg, HN, HM, hbw⟩ := hrel
    cases gk with
    | zero =>
      have h : ¬ ((k : Int) < (l.length : Int)) := by omega
      have E : res = true := by have := HN.out; rw [List.take_of_length_le (by omega)] at this; rw [← hres.out]; exact decide_eq_true this
      subst E
      clear HN HM
      go_wp2
      go_ret
      exact ⟨rfl, hbw⟩
    | succ g' =>
      have h : ((k : Int) < (l.length : Int)) := by omega
      obtain ⟨y, hy, _, hmem⟩ := at_take (l := l) (k := k) (by omega)
      have hsz : w.heap.size < wr.heap.size := HM.out.lt
      obtain ⟨b, off, rfl, hlt, hc⟩ := HC.out.rd hbw hy
      have c0 := hc 0 _ rfl
      have c1 := hc 1 _ rfl
      have c2 := hc 2 _ rfl
      have c3 := hc 3 _ rfl
      simp only [Nat.add_zero] at c0
      clear hc
      have KK := K.out y hmem (wr.alloc (.cells #[str y.name, .int .i64 y.at_.1, .int .i64 y.at_.2, .int .i64 y.overlap] 51)) (hbw.alloc (by have := hbw.size; omega) _)
      replace hy := Lib.hid hy
      go_wp2_with fail
      refine KK.mono ?_
      rintro e w1 ⟨rfl, b1⟩
      have HM1 : OwnM (fun s : L8 => str s) (fun b : Bool => Value.bool b) w1 w.heap.size ((l.take k).map fun x => (key x, true)) := (HM.out.below ((Below.refl _ _).alloc (Nat.le_refl _) _)).below b1
      have hb2 : Below w.heap.size w w1 := ((hbw.alloc (by have := hbw.size; omega) _)).trans (b1.mono (Below.size (hbw.alloc (by have := hbw.size; omega) _)))
      have hz : (zeroValue 4).run Tryz.prog w1 = .ok (.bool false) w1 := Tryz.zeroValue4 _
      have L := HM1.look key_str (by rw [seen_keys]; exact HN.out) Tryz.underlying131 hz (key y) false
      rw [look_seen] at L
      clear hz KK eg
      by_cases hin : key y ∈ (l.take k).map key
      · rw [if_pos hin] at L
        simp only [Option.map_some, Option.getD_some, Bool.false_eq_true, if_false] at L
        have E : res = false := by rw [← hres.out]; exact decide_eq_false (nodup_no hy.out hin)
        subst E
        clear hin HM HN HM1
        go_wp2
        go_ret
        exact ⟨rfl, hb2⟩
      · rw [if_neg hin] at L
        simp only [Option.map_none, Option.getD_none, Bool.false_eq_true, if_false] at L
        have hN := Lib.hid (nodup_yes hy.out HN.out hin)
        have hP := putM_new (key y) true _ (by rw [look_seen, if_neg hin] : lookM (key y) ((l.take k).map fun x => (key x, true)) = none)
        have hT := take_snoc hy.out
        replace hP := Lib.hid hP
        replace hT := Lib.hid hT
        have hU := Lib.hid (show (((l.take k).map fun x => (key x, true)).map Prod.fst).Nodup by rw [seen_keys]; exact HN.out)
        replace HM1 := Lib.hid HM1
        clear hin HM HN
        go_wp2_with (at_mapUpdate; refine wpList_store _ rfl _ _ _ 131 rfl 9 4 key_str Tryz.underlying131 w.heap.size _ rfl HM1.out hU.out (key y) true rfl rfl ?_; intro w2 HM2 G2)
        go_roundg g'
        case measure => omega
        case rel => exact ⟨k + 1, by go_num, by omega, hN, Lib.hid (by rw [hT.out, List.map_append]; rw [hP.out] at HM2; exact HM2), hb2.grown G2 hb2.size (fun j e => by cases e; exact Nat.le_refl _)⟩


set_option maxRecDepth 100000 in
set_option maxHeartbeats 2000000 in
theorem differ_Ge (v : Value) (l : List SigD) (w : World) (g : Nat) (key : SigD → EndD) (eg : ∀ (args : Array Value) (w : World), (callFunc g args).run Tryz.prog w = .ok (.enter g args) w) (hr : RM w v 4 (l.map sgV))
    (K : ∀ x ∈ l, ∀ ww, Below w.heap.size w ww → Calls Tryz.prog g #[.agg #[str x.name, .int .i64 x.at_.1, .int .i64 x.at_.2, .int .i64 x.overlap]] ww (RetV ww (endV (key x)))) :
    Calls Tryz.prog 77 #[v, .func (.func g) #[] #[]] w (RetB w (decide (l.map key).Nodup)) := by
  obtain ⟨a, cap, rfl, ⟨hm, _⟩, HC⟩ := hr.openM
  clear hr
  obtain ⟨res, hres⟩ : ∃ r, decide (l.map key).Nodup = r := ⟨_, rfl⟩
  rw [hres]
  replace hres := Lib.hid hres
  replace K := Lib.hid K
  have hmm := @run_makeMap Tryz.prog
  have HB0 : Below w.heap.size w (w.alloc (.map #[] 0)) := (Below.refl _ _).alloc (Nat.le_refl _) _
  go_enter Tryz.func77, Tryz.ntmps77
  go_wp2
  clear hmm
  go_loopg [12] l.length (fun g s12 wx => ∃ (k : Nat), s12 = .int .i64 k ∧ k + g = l.length ∧ Hid (((l.take k).map key).Nodup) ∧ Hid (OwnM endV (fun b : Bool => Value.bool b) wx w.heap.size ((l.take k).map fun x => (key x, true))) ∧ Below w.heap.size w wx)
  case atStart => exact ⟨0, rfl, by omega, Lib.hid (by simp), Lib.hid (OwnM.made w), HB0⟩
  case round =>
    obtain ⟨k, rfl, hg, HN, HM, hbw⟩ := hrel
    cases gk with
    | zero =>
      have h : ¬ ((k : Int) < (l.length : Int)) := by omega
      have E : res = true := by have := HN.out; rw [List.take_of_length_le (by omega)] at this; rw [← hres.out]; exact decide_eq_true this
      subst E
      clear HN HM
      go_wp2
      go_ret
      exact ⟨rfl, hbw⟩
    | succ g' =>
      have h : ((k : Int) < (l.length : Int)) := by omega
      obtain ⟨y, hy, _, hmem⟩ := at_take (l := l) (k := k) (by omega)
      have hsz : w.heap.size < wr.heap.size := HM.out.lt
      obtain ⟨b, off, rfl, hlt, hc⟩ := HC.out.rd hbw hy
      have c0 := hc 0 _ rfl
      have c1 := hc 1 _ rfl
      have c2 := hc 2 _ rfl
      have c3 := hc 3 _ rfl
      simp only [Nat.add_zero] at c0
      clear hc
      have KK := K.out y hmem (wr.alloc (.cells #[str y.name, .int .i64 y.at_.1, .int .i64 y.at_.2, .int .i64 y.overlap] 51)) (hbw.alloc (by have := hbw.size; omega) _)
      replace hy := Lib.hid hy
      go_wp2_with fail
      refine KK.mono ?_
      rintro e w1 ⟨rfl, b1⟩
      have HM1 : OwnM endV (fun b : Bool => Value.bool b) (w1.alloc (.cells #[.int .i64 (key y).1, .int .i64 (key y).2] 47)) w.heap.size ((l.take k).map fun x => (key x, true)) := ((HM.out.below ((Below.refl _ _).alloc (Nat.le_refl _) _)).below b1).below ((Below.refl _ _).alloc (Nat.le_refl _) _)
      have hb2 : Below w.heap.size w (w1.alloc (.cells #[.int .i64 (key y).1, .int .i64 (key y).2] 47)) := (((hbw.alloc (by have := hbw.size; omega) _)).trans (b1.mono (Below.size (hbw.alloc (by have := hbw.size; omega) _)))).alloc (Nat.le_trans (Below.size (hbw.alloc (by have := hbw.size; omega) _)) b1.size) _
      have hz : (zeroValue 4).run Tryz.prog (w1.alloc (.cells #[.int .i64 (key y).1, .int .i64 (key y).2] 47)) = .ok (.bool false) (w1.alloc (.cells #[.int .i64 (key y).1, .int .i64 (key y).2] 47)) := Tryz.zeroValue4 _
      have L := HM1.look key_end (by rw [seen_keys]; exact HN.out) Tryz.underlying137 hz (key y) false
      rw [look_seen] at L
      clear hz KK eg
      by_cases hin : key y ∈ (l.take k).map key
      · rw [if_pos hin] at L
        simp only [Option.map_some, Option.getD_some, Bool.false_eq_true, if_false] at L
        have E : res = false := by rw [← hres.out]; exact decide_eq_false (nodup_no hy.out hin)
        subst E
        clear hin HM HN HM1
        go_wp2
        go_ret
        exact ⟨rfl, hb2⟩
      · rw [if_neg hin] at L
        simp only [Option.map_none, Option.getD_none, Bool.false_eq_true, if_false] at L
        have hN := Lib.hid (nodup_yes hy.out HN.out hin)
        have hP := putM_new (key y) true _ (by rw [look_seen, if_neg hin] : lookM (key y) ((l.take k).map fun x => (key x, true)) = none)
        have hT := take_snoc hy.out
        replace hP := Lib.hid hP
        replace hT := Lib.hid hT
        have hU := Lib.hid (show (((l.take k).map fun x => (key x, true)).map Prod.fst).Nodup by rw [seen_keys]; exact HN.out)
        replace HM1 := Lib.hid HM1
        clear hin HM HN
        go_wp2_with (at_mapUpdate; refine wpList_store _ rfl _ _ _ 137 rfl 47 4 key_end Tryz.underlying137 w.heap.size _ rfl HM1.out hU.out (key y) true rfl rfl ?_; intro w2 HM2 G2)
        go_roundg g'
        case measure => omega
        case rel => exact ⟨k + 1, by go_num, by omega, hN, Lib.hid (by rw [hT.out, List.map_append]; rw [hP.out] at HM2; exact HM2), hb2.grown G2 hb2.size (fun j e => by cases e; exact Nat.le_refl _)⟩


set_option maxRecDepth 100000 in
set_option maxHeartbeats 2000000 in
theorem differ_Bi (v : Value) (l : List BalD) (w : World) (g : Nat) (key : BalD → Int) (eg : ∀ (args : Array Value) (w : World), (callFunc g args).run Tryz.prog w = .ok (.enter g args) w) (hr : RM w v 3 (l.map blV))
    (K : ∀ x ∈ l, ∀ ww, Below w.heap.size w ww → Calls Tryz.prog g #[.agg #[.int .i64 x.id, .int .i64 x.el, .int .i64 x.off]] ww (RetV ww (.int .i64 (key x)))) :
    Calls Tryz.prog 83 #[v, .func (.func g) #[] #[]] w (RetB w (decide (l.map key).Nodup)) := by
  obtain ⟨a, cap, rfl, ⟨hm, _⟩, HC⟩ := hr.openM
  clear hr
  obtain ⟨res, hres⟩ : ∃ r, decide (l.map key).Nodup = r := ⟨_, rfl⟩
  rw [hres]
  replace hres := Lib.hid hres
  replace K := Lib.hid K
  have hmm := @run_makeMap Tryz.prog
  have HB0 : Below w.heap.size w (w.alloc (.map #[] 0)) := (Below.refl _ _).alloc (Nat.le_refl _) _
  go_enter Tryz.func83, Tryz.ntmps83
  go_wp2
  clear hmm
  go_loopg [12] l.length (fun g s12 wx => ∃ (k : Nat), s12 = .int .i64 k ∧ k + g = l.length ∧ Hid (((l.take k).map key).Nodup) ∧ Hid (OwnM (fun n : Int => Value.int .i64 n) (fun b : Bool => Value.bool b) wx w.heap.size ((l.take k).map fun x => (key x, true))) ∧ Below w.heap.size w wx)
  case atStart => exact ⟨0, rfl, by omega, Lib.hid (by simp), Lib.hid (OwnM.made w), HB0⟩
  case round =>
    obtain ⟨k, rfl, hg, HN, HM, hbw⟩ := hrel
    cases gk with
    | zero =>
      have h : ¬ ((k : Int) < (l.length : Int)) := by omega
      have E : res = true := by have := HN.out; rw [List.take_of_length_le (by omega)] at this; rw [← hres.out]; exact decide_eq_true this
      subst E
      clear HN HM
      go_wp2
      go_ret
      exact ⟨rfl, hbw⟩
    | succ g' =>
      have h : ((k : Int) < (l.length : Int)) := by omega
      obtain ⟨y, hy, _, hmem⟩ := at_take (l := l) (k := k) (by omega)
      have hsz : w.heap.size < wr.heap.size := HM.out.lt
      obtain ⟨b, off, rfl, hlt, hc⟩ := HC.out.rd hbw hy
      have c0 := hc 0 _ rfl
      have c1 := hc 1 _ rfl
      have c2 := hc 2 _ rfl
      simp only [Nat.add_zero] at c0
      clear hc
      have KK := K.out y hmem (wr.alloc (.cells #[.int .i64 y.id, .int .i64 y.el, .int .i64 y.off] 59)) (hbw.alloc (by have := hbw.size; omega) _)
      replace hy := Lib.hid hy
      go_wp2_with fail
      refine KK.mono ?_
      rintro e w1 ⟨rfl, b1⟩
      have HM1 : OwnM (fun n : Int => Value.int .i64 n) (fun b : Bool => Value.bool b) w1 w.heap.size ((l.take k).map fun x => (key x, true)) := (HM.out.below ((Below.refl _ _).alloc (Nat.le_refl _) _)).below b1
      have hb2 : Below w.heap.size w w1 := ((hbw.alloc (by have := hbw.size; omega) _)).trans (b1.mono (Below.size (hbw.alloc (by have := hbw.size; omega) _)))
      have hz : (zeroValue 4).run Tryz.prog w1 = .ok (.bool false) w1 := Tryz.zeroValue4 _
      have L := HM1.look key_int (by rw [seen_keys]; exact HN.out) Tryz.underlying138 hz (key y) false
      rw [look_seen] at L
      clear hz KK eg
      by_cases hin : key y ∈ (l.take k).map key
      · rw [if_pos hin] at L
        simp only [Option.map_some, Option.getD_some, Bool.false_eq_true, if_false] at L
        have E : res = false := by rw [← hres.out]; exact decide_eq_false (nodup_no hy.out hin)
        subst E
        clear hin HM HN HM1
        go_wp2
        go_ret
        exact ⟨rfl, hb2⟩
      · rw [if_neg hin] at L
        simp only [Option.map_none, Option.getD_none, Bool.false_eq_true, if_false] at L
        have hN := Lib.hid (nodup_yes hy.out HN.out hin)
        have hP := putM_new (key y) true _ (by rw [look_seen, if_neg hin] : lookM (key y) ((l.take k).map fun x => (key x, true)) = none)
        have hT := take_snoc hy.out
        replace hP := Lib.hid hP
        replace hT := Lib.hid hT
        have hU := Lib.hid (show (((l.take k).map fun x => (key x, true)).map Prod.fst).Nodup by rw [seen_keys]; exact HN.out)
        replace HM1 := Lib.hid HM1
        clear hin HM HN
        go_wp2_with (at_mapUpdate; refine wpList_store _ rfl _ _ _ 138 rfl 3 4 key_int Tryz.underlying138 w.heap.size _ rfl HM1.out hU.out (key y) true rfl rfl ?_; intro w2 HM2 G2)
        go_roundg g'
        case measure => omega
        case rel => exact ⟨k + 1, by go_num, by omega, hN, Lib.hid (by rw [hT.out, List.map_append]; rw [hP.out] at HM2; exact HM2), hb2.grown G2 hb2.size (fun j e => by cases e; exact Nat.le_refl _)⟩
end
section
open Go.ChangeShapes Go.WideShapes Go.ChangeAt Go.RowKit
/-- A list in memory of the call's own. -/
def RetO (w : World) (l : List Int) (e : Ending) (w' : World) : Prop := ∃ v, e = .returned v ∧ w'.ownsRow w.heap.size 3 1 v l.length (intsV l) ∧ Below w.heap.size w w'
def whF {α : Type} (q : α → Bool) (i : Nat) : List α → List Int
  | [] => []
  | x :: r => if q x = true then (i : Int) :: whF q (i + 1) r else whF q (i + 1) r
theorem whF_len {α : Type} (q : α → Bool) : ∀ (l : List α) (i : Nat), (whF q i l).length ≤ l.length
  | [], i => by simp [whF]
  | x :: r, i => by
    have := whF_len q r (i + 1)
    unfold whF
    split <;> simp <;> omega
theorem own_belowW {w w' : World} {B : Nat} {e : TypeId} {k : Nat} {v : Value} {n : Nat} {xs : List Value} (h : w.ownsRow B e k v n xs) (hb : Below w.heap.size w w') : w'.ownsRow B e k v n xs :=
  h.kept (row := none) ⟨hb.os, hb.tape, hb.output, hb.size, fun j hj _ => hb.block j hj⟩ (by cases v.ownBlock <;> simp)
set_option maxRecDepth 100000 in
set_option maxHeartbeats 4000000 in
theorem where_any (v : Value) (L : LayD) (w : World) (g : Nat) (lb : Array Value) (q : ElD → Bool) (eg : ∀ (args : Array Value) (w : World), (callFunc g args).run Tryz.prog w = .ok (.enter g args) w) (hv : RLay w v L) (hn : L.els.length ≤ 100000)
    (K : ∀ x ∈ L.els, ∀ ww, Below w.heap.size w ww → Calls Tryz.prog g (#[.agg #[str x.name, .int .i64 x.kind, .int .i64 x.length, .int .i64 x.grade, .int .i64 x.speed, .int .i64 x.slow, .int .i64 x.sec]] ++ lb) ww (RetB ww (q x))) :
    Calls Tryz.prog 112 #[v, .func (.func g) #[] lb] w (RetO w (whF q 0 L.els)) := by
  obtain ⟨v1, v2, v3, v4, v5, rfl, h1, h2, h3, h4, h5⟩ := hv
  clear h1 h3 h4 h5
  obtain ⟨a, cap, rfl, ⟨hm, _⟩, HC⟩ := h2.openM
  clear h2
  obtain ⟨nm, es⟩ : ∃ s : ByteArray, (⟨L.name.toArray⟩ : ByteArray) = s := ⟨_, rfl⟩
  rw [show str L.name = .string nm from by rw [← es]]
  clear es
  obtain ⟨l, el⟩ : ∃ l, L.els = l := ⟨_, rfl⟩
  rw [el] at hm hn HC K ⊢
  clear el
  obtain ⟨res, hres⟩ : ∃ r, whF q 0 l = r := ⟨_, rfl⟩
  have hlen : res.length ≤ l.length := by rw [← hres]; exact whF_len q l 0
  rw [hres]
  have H0 := Lib.hid (show ([] : List Int) ++ whF q 0 (l.drop 0) = res from hres)
  clear hres
  replace K := Lib.hid K
  have HB0 : ∀ o, Below w.heap.size w (w.alloc o) := fun o => (Below.refl _ _).alloc (Nat.le_refl _) _
  go_enter Tryz.func112, Tryz.ntmps112
  go_wp2
  go_loopg [5, 11] l.length (fun g s5 s11 wx => ∃ (k : Nat) (acc : List Int), s11 = .int .i64 k ∧ k + g = l.length ∧ Hid (acc ++ whF q k (l.drop k) = res) ∧ wx.ownsRow w.heap.size 3 1 s5 acc.length (intsV acc) ∧ Below w.heap.size w wx)
  case atStart => exact ⟨0, [], rfl, by omega, H0, World.ownsRow_nil _ _ _ _, HB0 _⟩
  case round =>
    obtain ⟨k, acc, rfl, hg, HN, hown, hbw⟩ := hrel
    clear H0
    have hsz := hbw.size
    cases gk with
    | zero =>
      have h : ¬ ((k : Int) < (l.length : Int)) := by omega
      have E : res = acc := by have := HN.out; rw [List.drop_eq_nil_of_le (by omega)] at this; simpa [whF] using this.symm
      subst E
      obtain ⟨a5, c5, rfl⟩ := own_shape hown
      clear HN
      go_wp2
      go_ret
      exact ⟨_, rfl, hown, hbw⟩
    | succ g' =>
      have h : ((k : Int) < (l.length : Int)) := by omega
      obtain ⟨y, hy, _, hmem⟩ := at_take (l := l) (k := k) (by omega)
      obtain ⟨b, off, rfl, hlt, hc⟩ := HC.out.rd hbw hy
      have c0 := hc 0 _ rfl
      have c1 := hc 1 _ rfl
      have c2 := hc 2 _ rfl
      have c3 := hc 3 _ rfl
      have c4 := hc 4 _ rfl
      have c5 := hc 5 _ rfl
      have c6 := hc 6 _ rfl
      simp only [Nat.add_zero] at c0
      clear hc
      have D := drop_get hy
      have hal : acc.length ≤ 100000 := by
        have := congrArg List.length HN.out
        rw [List.length_append] at this
        omega
      obtain ⟨a5, c55, rfl⟩ := own_shape hown
      have KK := K.out y hmem (wr.alloc (.cells #[str y.name, .int .i64 y.kind, .int .i64 y.length, .int .i64 y.grade, .int .i64 y.speed, .int .i64 y.slow, .int .i64 y.sec] 45)) (hbw.alloc hsz _)
      go_wp2_with fail
      refine KK.mono ?_
      rintro e w1 ⟨rfl, b1⟩
      have hb1 : Below w.heap.size w w1 := (hbw.alloc hsz _).trans (b1.mono (by simp; omega))
      have ho1 : w1.ownsRow w.heap.size 3 1 (.slice a5 acc.length c55) acc.length (intsV acc) :=
        own_belowW hown (((Below.refl _ _).alloc (Nat.le_refl _) _).trans (b1.mono (by simp)))
      have hs1 := hb1.size
      clear KK eg c0 c1 c2 c3 c4 c5 c6 b1
      cases hw : q y with
      | true =>
        have N := Lib.hid (show (acc ++ [(k : Int)]) ++ whF q (k + 1) (l.drop (k + 1)) = res by have := HN.out; rw [D, whF, if_pos hw] at this; rw [List.append_assoc]; exact this)
        clear HN D hy hw hown
        go_wp2_with (at_builtin; refine wpList_push _ rfl _ _ 81 rfl w.heap.size 3 (.int .i64 0) 1 8 Tryz.underlying81 info_int rfl (by omega) (.slice a5 acc.length c55) acc.length _ rfl ho1 [.int .i64 (k : Int)] rfl rfl (by simp [Value.oneCell']) (by omega) (by omega) hs1 ?_; intro v3 w3 p3 g3 nb3)
        go_roundg g'
        case measure => omega
        case rel => exact ⟨k + 1, acc ++ [(k : Int)], by go_num, by omega, N, by rw [List.length_append, intsV_snoc]; exact p3, below_grown hb1 g3 ho1 (Nat.le_refl _) hs1⟩
      | false =>
        have N := Lib.hid (show acc ++ whF q (k + 1) (l.drop (k + 1)) = res by have := HN.out; rwa [D, whF, if_neg (by rw [hw]; decide)] at this)
        clear HN D hy hw hown
        go_wp2
        go_roundg g'
        case measure => omega
        case rel => exact ⟨k + 1, acc, by go_num, by omega, N, ho1, hb1⟩
end
section
open Go.ChangeShapes Go.WideShapes Go.ChangeAt Go.RowKit
theorem points_wh : ∀ (l : List ElD) (i : Nat), whF (fun x => decide (x.kind = 2)) i l = pointF i l
  | [], i => rfl
  | x :: r, i => by
    unfold whF pointF
    by_cases h : x.kind = 2 <;> simp [h, points_wh r (i + 1)]
theorem mem_wh (s : Int) : ∀ (l : List ElD) (i : Nat), whF (fun x => decide (x.sec = s)) i l = memG s i l
  | [], i => rfl
  | x :: r, i => by
    unfold whF memG
    by_cases h : x.sec = s <;> simp [h, mem_wh s r (i + 1)]
theorem RetO.alloc {w : World} {l : List Int} {o : Obj} {e : Ending} {w' : World} (h : RetO (w.alloc o) l e w') : RetO w l e w' := by
  obtain ⟨v, he, ho, hb⟩ := h
  exact ⟨v, he, own_mono ho (by simp), ((Below.refl _ _).alloc (Nat.le_refl _) _).trans (hb.mono (by simp))⟩
theorem RetO.list {w : World} {l : List Int} {e : Ending} {w' : World} (h : RetO w l e w') : RetL w l e w' := by
  obtain ⟨v, he, ho, hb⟩ := h
  exact ⟨v, he, RS.own ho, hb⟩
theorem members1_any (x : ElD) (w : World) (B : Nat) (s : Int) (hc : w.cell? ⟨B, 0, none⟩ = some (.int .i64 s)) : Calls Tryz.prog 113 #[.agg #[str x.name, .int .i64 x.kind, .int .i64 x.length, .int .i64 x.grade, .int .i64 x.speed, .int .i64 x.slow, .int .i64 x.sec], .pointer (some ⟨B, 0, none⟩)] w (RetB w (decide (x.sec = s))) := by
  have hl := World.block_lt_of_cell? w _ hc
  have hc2 : ∀ o, (w.alloc o).cell? ⟨B, 0, none⟩ = some (.int .i64 s) := fun o => (((Below.refl w.heap.size w).alloc (Nat.le_refl _) o).cell (p := ⟨B, 0, none⟩) hl).trans hc
  go_enter Tryz.func113, Tryz.ntmps113
  go_wp2
  go_ret
  exact ⟨rfl, (Below.refl _ _).alloc (Nat.le_refl _) _⟩
set_option maxRecDepth 100000 in
set_option maxHeartbeats 1000000 in
theorem membersP_own (v : Value) (L : LayD) (s : Int) (w : World) (hv : RLay w v L) (hn : L.els.length ≤ 100000) : Calls Tryz.prog 71 #[v, .int .i64 s] w (RetO w (membersS L s)) := by
  have HV := Lib.hid hv
  obtain ⟨v1, v2, v3, v4, v5, rfl, h1, h2, h3, h4, h5⟩ := hv
  obtain ⟨a1, c1, rfl, ⟨m1, _⟩, _⟩ := h1.openS
  obtain ⟨a2, c2, rfl, _, _⟩ := h2.openM
  obtain ⟨a3, c3, rfl, _, _⟩ := h3.openM
  obtain ⟨a4, c4, rfl, _, _⟩ := h4.openM
  obtain ⟨a5, c5, rfl, _, _⟩ := h5.openM
  clear h1 h2 h3 h4 h5
  have KI := fun ww => isIndex_any s L.secs.length ww (by omega) (by omega)
  by_cases hs : 0 ≤ s ∧ s < L.secs.length
  · have e1 : (decide (0 ≤ s) && decide (s < (L.secs.length : Int))) = true := by simp [hs]
    rw [show membersS L s = memG s 0 L.els from if_pos hs, ← mem_wh]
    simp only [e1] at KI
    clear e1 hs
    have K := fun W (h : Below w.heap.size w W) B (hc : W.cell? ⟨B, 0, none⟩ = some (.int .i64 s)) => where_any _ L W 113 #[.pointer (some ⟨B, 0, none⟩)] (fun x => decide (x.sec = s)) (enters_of Tryz.func113 (by kernel_rfl) rfl) (HV.out.below h) hn (fun x _ ww hb => members1_any x ww B s ((hb.cell (p := ⟨B, 0, none⟩) (World.block_lt_of_cell? W _ hc)).trans hc))
    replace K := Lib.hid K
    go_enter Tryz.func71, Tryz.ntmps71
    go_wp2_with (go_at_call 70; refine (KI _).mono ?_; rintro e w' ⟨rfl, rfl⟩)
    refine (K.out _ (((Below.refl _ _).alloc (Nat.le_refl _) _).alloc (by simp) _) _ (by simp)).mono ?_
    rintro e w1 ⟨u, rfl, h⟩
    go_wp2
    go_ret
    exact (RetO.alloc (RetO.alloc ⟨u, rfl, h⟩))
  · have e1 : (decide (0 ≤ s) && decide (s < (L.secs.length : Int))) = false := by
      by_cases h0 : 0 ≤ s <;> by_cases h1 : s < (L.secs.length : Int) <;> simp [h0, h1]
      exact hs ⟨h0, h1⟩
    rw [show membersS L s = [] from if_neg hs]
    simp only [e1] at KI
    clear e1 hs
    go_enter Tryz.func71, Tryz.ntmps71
    go_wp2_with (go_at_call 70; refine (KI _).mono ?_; rintro e w' ⟨rfl, rfl⟩)
    go_ret
    exact ⟨_, rfl, World.ownsRow_nil _ _ _ _, ((Below.refl _ _).alloc (Nat.le_refl _) _).alloc (by simp) _⟩
set_option maxRecDepth 100000 in
set_option maxHeartbeats 1000000 in
theorem sectionP_any (v : Value) (L : LayD) (e : Int) (w : World) (hv : RLay w v L) : Calls Tryz.prog 80 #[v, .int .i64 e] w (RetV w (.int .i64 (sectionS L e))) := by
  obtain ⟨v1, v2, v3, v4, v5, rfl, h1, h2, h3, h4, h5⟩ := hv
  clear h1 h3 h4 h5
  obtain ⟨a2, c2, rfl, ⟨m2, _⟩, HC⟩ := h2.openM
  clear h2
  obtain ⟨nm, es⟩ : ∃ s, str L.name = s := ⟨_, rfl⟩
  rw [es]
  have KI := fun ww => isIndex_any e L.els.length ww (by omega) (by omega)
  have hbb : Below w.heap.size w w := Below.refl _ _
  by_cases hs : e < 0 ∨ (L.els.length : Int) ≤ e
  · have e1 : (decide (0 ≤ e) && decide (e < (L.els.length : Int))) = false := by
      rcases hs with h | h
      · rw [decide_eq_false (by omega), Bool.false_and]
      · rw [decide_eq_false (p := e < _) (by omega), Bool.and_false]
    rw [show sectionS L e = -1 from if_pos hs]
    simp only [e1] at KI
    clear e1 hs
    go_enter Tryz.func80, Tryz.ntmps80
    go_wp2_with (go_at_call 70; refine (KI _).mono ?_; rintro e w' ⟨rfl, rfl⟩)
    go_ret
    exact ⟨rfl, hbb.alloc (Nat.le_refl _) _⟩
  · have e1 : (decide (0 ≤ e) && decide (e < (L.els.length : Int))) = true := by
      rw [decide_eq_true (by omega), decide_eq_true (by omega)]; rfl
    have hsec : sectionS L e = elAt L.els e ElD.sec := if_neg hs
    obtain ⟨k, rfl⟩ : ∃ k : Nat, e = k := ⟨e.toNat, by omega⟩
    have hk : k < L.els.length := by omega
    obtain ⟨y, hy, _⟩ := at_take hk
    rw [hsec, show elAt L.els (k : Int) ElD.sec = y.sec from by simp [elAt, hy]]
    obtain ⟨b, off, rfl, hlt, hc⟩ := HC.out.rd hbb hy
    have cK := hc 6 _ rfl
    obtain ⟨q, hq⟩ : ∃ q, y.sec = q := ⟨_, rfl⟩
    simp only [hq] at cK ⊢
    simp only [e1] at KI
    have t3 : ((k : Int) < (L.els.length : Int)) := by omega
    clear e1 hs hsec hc hq hy HC
    go_enter Tryz.func80, Tryz.ntmps80
    go_wp2_with (go_at_call 70; refine (KI _).mono ?_; rintro e w' ⟨rfl, rfl⟩)
    go_ret
    exact ⟨rfl, hbb.alloc (Nat.le_refl _) _⟩
theorem element1_any (x : ElD) (w : World) (B : Nat) (s : L8) (hc : w.cell? ⟨B, 0, none⟩ = some (str s)) : Calls Tryz.prog 149 #[.agg #[str x.name, .int .i64 x.kind, .int .i64 x.length, .int .i64 x.grade, .int .i64 x.speed, .int .i64 x.slow, .int .i64 x.sec], .pointer (some ⟨B, 0, none⟩)] w (RetB w (decide (x.name = s))) := by
  have hl := World.block_lt_of_cell? w _ hc
  have hc2 : ∀ o, (w.alloc o).cell? ⟨B, 0, none⟩ = some (str s) := fun o => (((Below.refl w.heap.size w).alloc (Nat.le_refl _) o).cell (p := ⟨B, 0, none⟩) hl).trans hc
  go_enter Tryz.func149, Tryz.ntmps149
  go_wp2
  go_ret
  refine ⟨?_, (Below.refl _ _).alloc (Nat.le_refl _) _⟩
  by_cases h : x.name = s <;> simp [h]
theorem name_idx (s : L8) : ∀ (l : List ElD) (i : Nat), idxF (fun x => decide (x.name = s)) i l = nameF s i l
  | [], i => rfl
  | x :: r, i => by
    unfold idxF nameF
    by_cases h : x.name = s <;> simp [h, name_idx s r (i + 1)]
theorem sig_idx (e : EndD) : ∀ (l : List SigD) (i : Nat), idxF (fun x => x.at_ == e) i l = sigF e i l
  | [], i => rfl
  | x :: r, i => by
    unfold idxF sigF
    by_cases h : x.at_ = e <;> simp [h, sig_idx e r (i + 1)]
set_option maxRecDepth 100000 in
theorem elementP_any (v : Value) (L : LayD) (s : L8) (w : World) (hv : RLay w v L) : Calls Tryz.prog 141 #[v, str s] w (RetV w (.int .i64 (nameF s 0 L.els))) := by
  have HV := Lib.hid hv
  obtain ⟨v1, v2, v3, v4, v5, rfl, h1, h2, h3, h4, h5⟩ := hv
  clear h1 h3 h4 h5
  have H2 := Lib.hid h2
  obtain ⟨a2, c2, rfl, _, _⟩ := h2.openM
  clear h2 HV
  obtain ⟨nm, es⟩ : ∃ s, str L.name = s := ⟨_, rfl⟩
  rw [es]
  clear es
  rw [← name_idx]
  have K := fun W (h : Below w.heap.size w W) B (hc : W.cell? ⟨B, 0, none⟩ = some (str s)) => index_E _ L.els W 149 (.pointer (some ⟨B, 0, none⟩)) (fun x => decide (x.name = s)) (enters_of Tryz.func149 (by kernel_rfl) rfl) (H2.out.below h) (fun x _ ww hb => element1_any x ww B s ((hb.cell (p := ⟨B, 0, none⟩) (World.block_lt_of_cell? W _ hc)).trans hc))
  replace K := Lib.hid K
  go_enter Tryz.func141, Tryz.ntmps141
  go_wp2_with fail
  refine (K.out _ (((Below.refl _ _).alloc (Nat.le_refl _) _).alloc (by simp) _) _ (by simp)).mono ?_
  rintro e w1 ⟨rfl, h⟩
  go_wp2
  go_ret
  exact ⟨rfl, (((Below.refl _ _).alloc (Nat.le_refl _) _).alloc (by simp) _).trans (h.mono (by simp; omega))⟩
end
end Go.Proofs.YteafkginhejllaaGreatDoor
