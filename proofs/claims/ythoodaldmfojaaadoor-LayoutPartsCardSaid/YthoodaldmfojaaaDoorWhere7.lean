/- Contracts of elementsWhere, Members, Points, Section, Element, Signal. Conditions: the layout can be read; the function that is handed over is told by its contract. -/
import Derived.Test.YthoodaldmfojaaaDoorIdx7
import Derived.Test.YthoodaldmfojaaaDoorEq7
namespace Go.Proofs.YthoodaldmfojaaaDoor
open Go.ChangeShapes Go.WideShapes Go.ChangeAt Go.RowKit
/-- A list in memory of the call's own. -/
def RetO (w : World) (l : List Int) (e : Ending) (w' : World) : Prop := ∃ v, e = .returned v ∧ w'.ownsRow w.heap.size 3 1 v l.length (intsV l) ∧ Below w.heap.size w w'
def whF {α : Type} (q : α → Bool) (i : Nat) : List α → List Int
  | [] => []
  | x :: r => if q x = true then (i : Int) :: whF q (i + 1) r else whF q (i + 1) r
theorem whF_len {α : Type} (q : α → Bool) : ∀ (l : List α) (i : Nat), (whF q i l).length ≤ l.length
  | [], i => by simp [whF]
  | x :: r, i => by
    have := whF_len q r (i + 1)
    unfold whF
    split <;> simp <;> omega
theorem own_belowW {w w' : World} {B : Nat} {e : TypeId} {k : Nat} {v : Value} {n : Nat} {xs : List Value} (h : w.ownsRow B e k v n xs) (hb : Below w.heap.size w w') : w'.ownsRow B e k v n xs :=
  h.kept (row := none) ⟨hb.os, hb.tape, hb.output, hb.size, fun j hj _ => hb.block j hj⟩ (by cases v.ownBlock <;> simp)
theorem intsV_snoc (l : List Int) (x : Int) : intsV (l ++ [x]) = intsV l ++ [.int .i64 x] := by simp [intsV]
set_option maxRecDepth 100000 in
set_option maxHeartbeats 4000000 in
theorem where_any (v : Value) (L : LayD) (w : World) (g : Nat) (lb : Array Value) (q : ElD → Bool) (eg : ∀ (args : Array Value) (w : World), (callFunc g args).run Tryd.prog w = .ok (.enter g args) w) (hv : RLay w v L) (hn : L.els.length ≤ 100000)
    (K : ∀ x ∈ L.els, ∀ ww, Below w.heap.size w ww → Calls Tryd.prog g (#[.agg #[str x.name, .int .i64 x.kind, .int .i64 x.length, .int .i64 x.grade, .int .i64 x.speed, .int .i64 x.slow, .int .i64 x.sec]] ++ lb) ww (RetB ww (q x))) :
    Calls Tryd.prog 39 #[v, .func (.func g) #[] lb] w (RetO w (whF q 0 L.els)) := by
  obtain ⟨v1, v2, v3, v4, v5, rfl, h1, h2, h3, h4, h5⟩ := hv
  clear h1 h3 h4 h5
  obtain ⟨a, cap, rfl, ⟨hm, _⟩, HC⟩ := h2.openM
  clear h2
  obtain ⟨nm, es⟩ : ∃ s : ByteArray, (⟨L.name.toArray⟩ : ByteArray) = s := ⟨_, rfl⟩
  rw [show str L.name = .string nm from by rw [← es]]
  clear es
  obtain ⟨l, el⟩ : ∃ l, L.els = l := ⟨_, rfl⟩
  rw [el] at hm hn HC K ⊢
  clear el
  obtain ⟨res, hres⟩ : ∃ r, whF q 0 l = r := ⟨_, rfl⟩
  have hlen : res.length ≤ l.length := by rw [← hres]; exact whF_len q l 0
  rw [hres]
  have H0 := Lib.hid (show ([] : List Int) ++ whF q 0 (l.drop 0) = res from hres)
  clear hres
  replace K := Lib.hid K
  have HB0 : ∀ o, Below w.heap.size w (w.alloc o) := fun o => (Below.refl _ _).alloc (Nat.le_refl _) _
  go_enter Tryd.func39, Tryd.ntmps39
  go_wp2
  go_loopg [5, 11] l.length (fun g s5 s11 wx => ∃ (k : Nat) (acc : List Int), s11 = .int .i64 k ∧ k + g = l.length ∧ Hid (acc ++ whF q k (l.drop k) = res) ∧ wx.ownsRow w.heap.size 3 1 s5 acc.length (intsV acc) ∧ Below w.heap.size w wx)
  case atStart => exact ⟨0, [], rfl, by omega, H0, World.ownsRow_nil _ _ _ _, HB0 _⟩
  case round =>
    obtain ⟨k, acc, rfl, hg, HN, hown, hbw⟩ := hrel
    clear H0
    have hsz := hbw.size
    cases gk with
    | zero =>
      have h : ¬ ((k : Int) < (l.length : Int)) := by omega
      have E : res = acc := by have := HN.out; rw [List.drop_eq_nil_of_le (by omega)] at this; simpa [whF] using this.symm
      subst E
      obtain ⟨a5, c5, rfl⟩ := own_shape hown
      clear HN
      go_wp2
      go_ret
      exact ⟨_, rfl, hown, hbw⟩
    | succ g' =>
      have h : ((k : Int) < (l.length : Int)) := by omega
      obtain ⟨y, hy, _, hmem⟩ := at_take (l := l) (k := k) (by omega)
      obtain ⟨b, off, rfl, hlt, hc⟩ := HC.out.rd hbw hy
      have c0 := hc 0 _ rfl
      have c1 := hc 1 _ rfl
      have c2 := hc 2 _ rfl
      have c3 := hc 3 _ rfl
      have c4 := hc 4 _ rfl
      have c5 := hc 5 _ rfl
      have c6 := hc 6 _ rfl
      simp only [Nat.add_zero] at c0
      clear hc
      have D := drop_get hy
      have hal : acc.length ≤ 100000 := by
        have := congrArg List.length HN.out
        rw [List.length_append] at this
        omega
      obtain ⟨a5, c55, rfl⟩ := own_shape hown
      have KK := K.out y hmem (wr.alloc (.cells #[str y.name, .int .i64 y.kind, .int .i64 y.length, .int .i64 y.grade, .int .i64 y.speed, .int .i64 y.slow, .int .i64 y.sec] 34)) (hbw.alloc hsz _)
      go_wp2_with fail
      refine KK.mono ?_
      rintro e w1 ⟨rfl, b1⟩
      have hb1 : Below w.heap.size w w1 := (hbw.alloc hsz _).trans (b1.mono (by simp; omega))
      have ho1 : w1.ownsRow w.heap.size 3 1 (.slice a5 acc.length c55) acc.length (intsV acc) :=
        own_belowW hown (((Below.refl _ _).alloc (Nat.le_refl _) _).trans (b1.mono (by simp)))
      have hs1 := hb1.size
      clear KK eg c0 c1 c2 c3 c4 c5 c6 b1
      cases hw : q y with
      | true =>
        have N := Lib.hid (show (acc ++ [(k : Int)]) ++ whF q (k + 1) (l.drop (k + 1)) = res by have := HN.out; rw [D, whF, if_pos hw] at this; rw [List.append_assoc]; exact this)
        clear HN D hy hw hown
        go_wp2_with (at_builtin; refine wpList_push _ rfl _ _ 42 rfl w.heap.size 3 (.int .i64 0) 1 8 Tryd.underlying42 info_int rfl (by omega) (.slice a5 acc.length c55) acc.length _ rfl ho1 [.int .i64 (k : Int)] rfl rfl (by simp [Value.oneCell']) (by omega) (by omega) hs1 ?_; intro v3 w3 p3 g3 nb3)
        go_roundg g'
        case measure => omega
        case rel => exact ⟨k + 1, acc ++ [(k : Int)], by go_num, by omega, N, by rw [List.length_append, intsV_snoc]; exact p3, below_grown hb1 g3 ho1 (Nat.le_refl _) hs1⟩
      | false =>
        have N := Lib.hid (show acc ++ whF q (k + 1) (l.drop (k + 1)) = res by have := HN.out; rwa [D, whF, if_neg (by rw [hw]; decide)] at this)
        clear HN D hy hw hown
        go_wp2
        go_roundg g'
        case measure => omega
        case rel => exact ⟨k + 1, acc, by go_num, by omega, N, ho1, hb1⟩
end Go.Proofs.YthoodaldmfojaaaDoor
