/- Contracts of index, inPlace, value. Conditions: the layout can be read; the word's length; what the program reads (GT). -/
import Derived.Test.YteafkginhejllaaGreatDoorNu8
import Derived.Test.YteafkginhejllaaGreatDoorL8x
namespace Go.Proofs.YteafkginhejllaaGreatDoor
open Go.ChangeShapes Go.WideShapes Go.ChangeAt Go.RowKit
def idxR (i : Int) : Int × Int := if i < 0 then (0, 9) else (i, 0)
theorem index8_any (i : Int) (w : World) : Calls Tryz.prog 139 #[.int .i64 i] w fun e w' => e = .returned (outI (idxR i)) ∧ w = w' := by
  unfold idxR outI
  by_cases h : i < 0
  · rw [if_pos h]
    go_enter Tryz.func139, Tryz.ntmps139
    go_wp2
    go_ret2
    exact ⟨rfl, rfl⟩
  · rw [if_neg h]
    go_enter Tryz.func139, Tryz.ntmps139
    go_wp2
    go_ret2
    exact ⟨rfl, rfl⟩
/-- What a word stands for: a number, a section, an element. -/
def valueS (L : LayD) (k : Int) (x : L8) : Int × Int := if k = 2 then idxR (placeF x 0 L.secs) else if k = 3 then idxR (nameF x 0 L.els) else if numB x = true then ((intL x).1, 0) else (0, 4)
def inPl (p i l : Int) : Bool := ((p == 0) == (i == 0)) && decide (l ≤ p)
theorem inPlace_any (p i l : Int) (w : World) : Calls Tryz.prog 86 #[.int .i64 p, .int .i64 i, .int .i64 l] w fun e w' => e = .returned (.bool (inPl p i l)) ∧ w = w' := by
  unfold inPl
  cases h3 : decide (l ≤ p) <;> cases h1 : (p == 0) <;> cases h2 : (i == 0) <;>
  · have t : (p ≥ l) = (l ≤ p) := rfl
    go_enter Tryz.func86, Tryz.ntmps86
    go_wp2
    go_ret
    exact ⟨rfl, rfl⟩
set_option maxRecDepth 100000 in
set_option maxHeartbeats 2000000 in
theorem sindex_any (v : Value) (l : List L8) (x : L8) (w : World) (hr : RS w v (strsV l)) : Calls Tryz.prog 140 #[v, str x] w fun e w' => e = .returned (.int .i64 (placeF x 0 l)) ∧ w = w' := by
  obtain ⟨a, cap, rfl, ⟨hm, _⟩, HC⟩ := hr.openS
  clear hr
  obtain ⟨res, hres⟩ : ∃ r, placeF x 0 l = r := ⟨_, rfl⟩
  rw [hres]
  have H0 := Lib.hid (show placeF x 0 (l.drop 0) = res from hres)
  clear hres
  go_enter Tryz.func140, Tryz.ntmps140
  go_wp2
  go_loopg [8] l.length (fun g s8 wx => ∃ (k : Nat), s8 = .int .i64 k ∧ k + g = l.length ∧ Hid (placeF x k (l.drop k) = res) ∧ w = wx)
  case atStart => exact ⟨0, rfl, by omega, H0, rfl⟩
  case round =>
    obtain ⟨k, rfl, hg, HN, rfl⟩ := hrel
    clear H0
    cases gk with
    | zero =>
      have h : ¬ ((k : Int) < (l.length : Int)) := by omega
      have E : res = -1 := by have := HN.out; rw [List.drop_eq_nil_of_le (by omega)] at this; exact this.symm
      subst E
      clear HN
      go_wp2
      go_ret
      exact ⟨rfl, rfl⟩
    | succ g' =>
      have h : ((k : Int) < (l.length : Int)) := by omega
      obtain ⟨y, hy, _, _⟩ := at_take (l := l) (k := k) (by omega)
      obtain ⟨b, off, rfl, hlt, hc⟩ := HC.out.rd (Below.refl _ _) hy
      have D := drop_get hy
      by_cases hw : y = x
      · have E : res = k := by have := HN.out; rw [D, placeF, if_pos hw] at this; exact this.symm
        subst E
        subst hw
        clear HN D hy
        go_wp2
        go_ret
        exact ⟨rfl, rfl⟩
      · have N := Lib.hid (show placeF x (k + 1) (l.drop (k + 1)) = res by have := HN.out; rwa [D, placeF, if_neg hw] at this)
        have hne : (x == y) = false := by simpa using fun e : x = y => hw e.symm
        clear HN D hy hw
        go_wp2
        go_roundg g'
        case measure => omega
        case rel => exact ⟨k + 1, by go_num, by omega, N, rfl⟩
set_option maxRecDepth 100000 in
set_option maxHeartbeats 2000000 in
theorem value_any (v : Value) (L : LayD) (k : Int) (x : L8) (w : World) (hv : RLay w v L) (hG : GT w) (hk : k = 1 ∨ k = 2 ∨ k = 3) (hx : x.length ≤ 100000) :
    Calls Tryz.prog 126 #[.int .i64 k, v, str x] w (RetV w (outI (valueS L k x))) := by
  have HV := Lib.hid hv
  obtain ⟨v1, v2, v3, v4, v5, rfl, h1, h2, h3, h4, h5⟩ := hv
  obtain ⟨nm, en⟩ : ∃ s, str L.name = s := ⟨_, rfl⟩
  rw [en] at HV ⊢
  obtain ⟨W1, hW⟩ : ∃ W1, W1 = w.alloc (.cells #[nm, v1, v2, v3, v4, v5] 28) := ⟨_, rfl⟩
  have HB : Below w.heap.size w W1 := by rw [hW]; exact (Below.refl _ _).alloc (Nat.le_refl _) _
  have KI := fun i ww => index8_any i ww
  rcases hk with rfl | rfl | rfl
  · have e : valueS L 1 x = if numB x = true then ((intL x).1, 0) else (0, 4) := by unfold valueS; rw [if_neg (by decide), if_neg (by decide)]
    rw [e]
    have K := int_any x W1 (hG.below HB) hx
    clear h1 h2 h3 h4 h5 HV
    unfold numB
    obtain ⟨⟨n, er⟩, hq⟩ : ∃ q, intL x = q := ⟨_, rfl⟩
    rw [hq] at K ⊢
    simp only [outI] at K ⊢
    clear hq e
    by_cases h0 : er = 0
    · subst h0
      rw [if_pos (by simp)]
      rw [hW] at K
      go_enter Tryz.func126, Tryz.ntmps126
      go_wp2_with (go_at_call 142; refine K.mono ?_; rintro e w2 ⟨rfl, b2⟩)
      go_ret2
      rw [← hW] at b2
      exact ⟨rfl, HB.trans (b2.mono HB.size)⟩
    · have t : (er == 0) = false := by simpa using h0
      have t2 : decide (er = 0) = false := by simpa using h0
      rw [t2, if_neg (by decide)]
      rw [hW] at K
      go_enter Tryz.func126, Tryz.ntmps126
      go_wp2_with (go_at_call 142; refine K.mono ?_; rintro e w2 ⟨rfl, b2⟩)
      go_ret2
      rw [← hW] at b2
      exact ⟨rfl, HB.trans (b2.mono HB.size)⟩
  · have e : valueS L 2 x = idxR (placeF x 0 L.secs) := by unfold valueS; rw [if_pos rfl]
    rw [e]
    have K := sindex_any v1 L.secs x W1 (h1.below HB)
    obtain ⟨r, hr⟩ : ∃ r, placeF x 0 L.secs = r := ⟨_, rfl⟩
    rw [hr] at K ⊢
    obtain ⟨a1, c1, rfl, _, _⟩ := h1.openS
    clear hr e h1 h2 h3 h4 h5 HV
    rw [hW] at K
    simp only [outI] at KI ⊢
    go_enter Tryz.func126, Tryz.ntmps126
    go_wp2_with (first
      | (go_at_call 140; refine K.mono ?_; rintro e w2 ⟨rfl, rfl⟩)
      | (go_at_call 139; refine (KI _ _).mono ?_; rintro e w3 ⟨rfl, rfl⟩))
    go_ret2
    rw [← hW]
    exact ⟨rfl, HB⟩
  · have e : valueS L 3 x = idxR (nameF x 0 L.els) := by unfold valueS; rw [if_neg (by decide), if_pos rfl]
    rw [e]
    have K := elementP_any _ L x W1 (HV.out.below HB)
    obtain ⟨r, hr⟩ : ∃ r, nameF x 0 L.els = r := ⟨_, rfl⟩
    rw [hr] at K ⊢
    clear hr e h1 h2 h3 h4 h5 HV
    rw [hW] at K
    simp only [outI] at KI ⊢
    go_enter Tryz.func126, Tryz.ntmps126
    go_wp2_with (first
      | (go_at_call 141; refine K.mono ?_; rintro e w2 ⟨rfl, b2⟩)
      | (go_at_call 139; refine (KI _ _).mono ?_; rintro e w3 ⟨rfl, rfl⟩))
    go_ret2
    rw [← hW] at b2
    exact ⟨rfl, HB.trans (b2.mono HB.size)⟩
end Go.Proofs.YteafkginhejllaaGreatDoor
