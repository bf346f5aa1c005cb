/- Texts of the layers 5 to 7, merged. -/
import Derived.Test.YteafkginhejllaaGreatDoorD8
namespace Go.Proofs.YteafkginhejllaaGreatDoor
section
open Go.ChangeShapes Go.WideShapes Go.ChangeAt Go.RowKit
/-- True; only draws. -/
def RetT (w : World) (e : Ending) (w' : World) : Prop := e = .returned (.bool true) ∧ ∃ m, w' = w.drewN m
theorem RetT.below {w : World} {e : Ending} {w' : World} (h : RetT w e w') : e = .returned (.bool true) ∧ Below w.heap.size w w' := by
  obtain ⟨h1, m, rfl⟩ := h
  exact ⟨h1, bdrew (Below.refl _ _) m⟩
set_option maxHeartbeats 1000000 in
theorem sameLine_any (v u : Value) (l : List L8) (w : World) (hv : RS w v (strsV l)) (hu : RS w u (strsV l)) :
    Calls Tryz.prog 37 #[v, u] w (RetT w) := by
  obtain ⟨a, cap, rfl, ⟨hm, _⟩, HC⟩ := hv.openS
  obtain ⟨a2, cap2, rfl, _, HD⟩ := hu.openS
  clear hv hu
  go_enter Tryz.func37, Tryz.ntmps37
  go_wp2
  go_loopg [5] l.length (fun g s5 wx => ∃ k n : Nat, k + g = l.length ∧ s5 = .int .i64 k ∧ wx = w.drewN n)
  case atStart => exact ⟨0, 0, by omega, rfl, rfl⟩
  case round =>
    obtain ⟨k, n, hk, rfl, rfl⟩ := hrel
    cases gk with
    | zero =>
      have hz : ¬ ((k : Int) < (l.length : Int)) := by omega
      replace hk := Lib.hid hk
      go_wp2
      go_ret
      exact ⟨rfl, n, rfl⟩
    | succ g =>
      have hz : (k : Int) < (l.length : Int) := by omega
      obtain ⟨y, hy, _⟩ := at_take (l := l) (k := k) (by omega)
      obtain ⟨b1, o1, rfl, _, c1⟩ := HC.out.rd (Below.refl _ _) hy
      obtain ⟨b2, o2, rfl, _, c2⟩ := HD.out.rd (Below.refl _ _) hy
      replace hk := Lib.hid hk
      replace hy := Lib.hid hy
      go_wp2
      go_quiet (fail)
      go_wp2
      go_roundg g
      case measure => omega
      case rel => exact ⟨k + 1, n + nq, by have := hk.out; omega, by go_num, rfl⟩
end
section
open Go.ChangeShapes Go.WideShapes Go.ChangeAt Go.RowKit
def OKL (l : List L8) : Prop := l.length ≤ 3000 ∧ ∀ s ∈ l, s.length ≤ 100
def SmallP (ll : List (List L8)) : Prop := ll.length ≤ 3000 ∧ ∀ l ∈ ll, OKL l
def RetQ (w : World) (Q : Prop) (e : Ending) (w' : World) : Prop := ∃ b : Bool, e = .returned (.bool b) ∧ w = w' ∧ (b = true → Q)
end
section
open Go.ChangeShapes Go.WideShapes Go.ChangeAt Go.RowKit
/-- Lines that no sum overflows at. -/
def Fits (ll : List (List L8)) : Prop := ll.length ≤ 100000 ∧ ∀ l ∈ ll, l.length ≤ 100000 ∧ ∀ s ∈ l, s.length ≤ 100000
theorem SmallP.fits {ll : List (List L8)} (h : SmallP ll) : Fits ll := by
  refine ⟨by have := h.1; omega, fun l hl => ?_⟩
  obtain ⟨h1, h2⟩ := h.2 l hl
  exact ⟨by omega, fun s hs => by have := h2 s hs; omega⟩
def wl (y : List L8) : Nat := (y.map fun x => x.length + 1).sum
def tl (ll : List (List L8)) : Nat := (ll.map wl).sum
theorem wl_snoc (y : List L8) (x : L8) : wl (y ++ [x]) = wl y + (x.length + 1) := by simp [wl]
theorem tl_snoc (ll : List (List L8)) (y : List L8) : tl (ll ++ [y]) = tl ll + wl y := by simp [tl]
theorem joinTail_len (c : UInt8) : ∀ (r : List L8), (Lib.joinTail [c] r).length = wl r
  | [] => rfl
  | x :: r => by
    have := joinTail_len c r
    simp only [Lib.joinTail, List.map_cons, List.flatten_cons, List.length_append, List.length_cons, List.length_nil, wl, List.sum_cons] at this ⊢
    omega
theorem join_len (c : UInt8) {y : List L8} (h : 0 < y.length) : (Lib.join y [c]).length + 1 = wl y := by
  cases y with
  | nil => simp at h
  | cons x r =>
    rw [Lib.join_cons, List.length_append, joinTail_len]
    simp only [wl, List.map_cons, List.sum_cons]; omega
theorem lineT_len {y : List L8} (h : 0 < y.length) : (lineT y).length = wl y := by
  rw [lineT, List.length_append, ← join_len 32 h]; simp
theorem textL_len : ∀ (ll : List (List L8)), ll.all isL = true → (textL ll).length = tl ll
  | [], _ => rfl
  | y :: ll, h => by
    simp only [List.all_cons, Bool.and_eq_true] at h
    rw [textL_cons, List.length_append, lineT_len (isL_pos h.1), textL_len ll h.2]
    simp [tl]
theorem wl_le {y : List L8} {m n : Nat} (h1 : y.length ≤ m) (h2 : ∀ s ∈ y, s.length ≤ n) : wl y ≤ m * (n + 1) := by
  have key : ∀ (y : List L8), (∀ s ∈ y, s.length ≤ n) → wl y ≤ y.length * (n + 1) := by
    intro y
    induction y with
    | nil => intro _; simp [wl]
    | cons x y ih =>
      intro h
      have h3 := ih (fun s hs => h s (by simp [hs]))
      have h4 := h x (by simp)
      simp only [wl, List.map_cons, List.sum_cons, List.length_cons, Nat.add_mul, Nat.one_mul] at h3 ⊢
      omega
  exact Nat.le_trans (key y h2) (Nat.mul_le_mul_right _ h1)
theorem tl_le {ll : List (List L8)} (h : Fits ll) : tl ll ≤ 1000010000000000 := by
  have key : ∀ (ll : List (List L8)), (∀ l ∈ ll, wl l ≤ 10000100000) → tl ll ≤ ll.length * 10000100000 := by
    intro ll
    induction ll with
    | nil => intro _; simp [tl]
    | cons x y ih =>
      intro h
      have h3 := ih (fun s hs => h s (by simp [hs]))
      have h4 := h x (by simp)
      simp only [tl, List.map_cons, List.sum_cons, List.length_cons, Nat.add_mul, Nat.one_mul] at h3 ⊢
      omega
  have := key ll (fun l hl => wl_le (h.2 l hl).1 (h.2 l hl).2)
  have h5 := Nat.mul_le_mul_right 10000100000 h.1
  omega
theorem take_le_wl {y : List L8} (k : Nat) : wl (y.take k) ≤ wl y := by
  have app : ∀ a b, wl (a ++ b) = wl a + wl b := fun a b => by simp [wl]
  have e := app (y.take k) (y.drop k)
  rw [List.take_append_drop] at e
  omega
theorem take_le_tl {y : List (List L8)} (k : Nat) : tl (y.take k) ≤ tl y := by
  have app : ∀ a b, tl (a ++ b) = tl a + tl b := fun a b => by simp [tl]
  have e := app (y.take k) (y.drop k)
  rw [List.take_append_drop] at e
  omega
theorem joinR_bad {ll : List (List L8)} (h : ll.all isL = false) : joinR ll = ([], 1) := by simp [joinR, h]
theorem joinR_long {ll : List (List L8)} (h : ll.all isL = true) (h2 : 32768 < tl ll) : joinR ll = ([], 2) := by
  rw [joinR, if_pos h, textL_len ll h, if_pos h2]
theorem joinR_ok {ll : List (List L8)} (h : ll.all isL = true) (h2 : ¬ 32768 < tl ll) : joinR ll = (textL ll, 0) := by
  rw [joinR, if_pos h, textL_len ll h, if_neg h2]
theorem all_takeL {ll : List (List L8)} {k : Nat} {y : List L8} (hy : ll[k]? = some y) (h : (ll.take k).all isL = true) (hp : isL y = true) : (ll.take (k + 1)).all isL = true := by
  obtain ⟨h1, h2⟩ := List.getElem?_eq_some_iff.1 hy
  rw [List.take_succ_eq_append_getElem h1, List.all_append, h, h2]; simp [hp]
theorem allL_bad {ll : List (List L8)} {k : Nat} {y : List L8} (hy : ll[k]? = some y) (hp : isL y = false) : ll.all isL = false := by
  rw [← Bool.not_eq_true, List.all_eq_true]; intro h
  have := h y (List.mem_of_getElem? hy)
  rw [hp] at this; cases this
/-- strings.Join of a list of texts. -/
theorem sjoin_any (c : UInt8) (v : Value) (l : List L8) (w : World) (hr : RS w v (strsV l)) (h1 : l.length ≤ 100000) (h2 : (Lib.join l [c]).length ≤ 140737488355328) :
    Calls Tryz.prog 42 #[v, .string ⟨#[c]⟩] w (RetV w (str (Lib.join l [c]))) := by
  obtain ⟨a, cap, rfl, ⟨hm, hc⟩, HC⟩ := hr.openS
  cases l with
  | nil =>
    refine (Tryz.strings_Join_none a cap ⟨#[c]⟩ w).mono ?_
    rintro e w' ⟨rfl, rfl⟩
    exact ⟨rfl, Below.refl _ _⟩
  | cons x l =>
    obtain ⟨b, off, rfl, hb, _⟩ := HC.out 0 (str x) rfl
    have e : ((x :: l).map sb).map (fun s => s.data.toList) = x :: l := by
      rw [List.map_map]
      exact List.map_id _
    have K := Tryz.strings_Join b off cap ((x :: l).map sb) ⟨#[c]⟩ w (fun j y hy => by
      rw [List.getElem?_map] at hy
      cases hz : (x :: l)[j]? with
      | none => rw [hz] at hy; cases hy
      | some z =>
        rw [hz] at hy
        obtain rfl := Option.some.inj hy
        obtain ⟨b', off', e2, _, h3⟩ := HC.out j (str z) (by simp only [strsV, List.getElem?_map, hz]; rfl)
        injection e2 with e3
        injection e3 with e4 e5
        subst e4 e5
        exact h3) hb (by rw [List.length_map]; omega) (by rw [List.length_map]; exact hc) (by rw [e]; exact h2)
    rw [e, List.length_map] at K
    refine K.mono ?_
    rintro e w' ⟨rfl, hbw⟩
    exact ⟨rfl, hbw⟩
/-- What stands in the builder. -/
def BInv (b : Nat) (acc : L8) (w : World) : Prop := Lib.IsBuilder 71 5 b b (Lib.byteCells acc) w
theorem BInv.below {b : Nat} {acc : L8} {w w' : World} (h : BInv b acc w) (hb : Below w.heap.size w w') : BInv b acc w' := by
  have key : ∀ p, Lib.BuilderAt 71 5 b b p (Lib.byteCells acc) w → Lib.BuilderAt 71 5 b b p (Lib.byteCells acc) w' := by
    rintro p ⟨h1, v, h2, h3, h4⟩
    have hlt : b < w.heap.size := (Array.getElem?_eq_some_iff.1 h2).1
    exact ⟨h1, v, (hb.block b hlt).trans h2, own_below h3 hb, h4⟩
  rcases h with h | h
  · exact Or.inl (key _ h)
  · exact Or.inr (key _ h)
theorem write_any (b : Nat) (acc x : L8) (w : World) (h : BInv b acc w) (hl : acc.length + x.length ≤ 100000000000) (hb : b ≤ w.heap.size) :
    Calls Tryz.prog 41 #[.pointer (some ⟨b, 0, none⟩), str x] w fun e w' => e = .returned (.tuple #[.int .i64 x.length, .nilIface]) ∧ BInv b (acc ++ x) w' ∧ Below b w w' := by
  have K := Any.Builder_WriteString { Tryz.lays156 with } Tryz.Builder_Extra_156 b b (Lib.byteCells acc) (sb x) w h (by rw [Lib.byteCells_length, sb_size]; omega) hb
  refine K.mono ?_
  rintro e w' ⟨rfl, h1, h2⟩
  refine ⟨by rw [sb_size], Or.inr ?_, h2⟩
  rw [Lib.byteCells_append]
  exact h1
end
section
open Go.ChangeShapes Go.WideShapes Go.ChangeAt Go.RowKit
/-- A text and an error are handed back; nothing that was there has changed. -/
def RetJT (w : World) (x : L8 × Int) (e : Ending) (w' : World) : Prop := e = .returned (.tuple #[str x.1, .int .i64 x.2]) ∧ Below w.heap.size w w'
set_option maxRecDepth 100000 in
set_option maxHeartbeats 4000000 in
theorem join_any (v : Value) (ll : List (List L8)) (w : World) (hv : LL w v ll) (hF : Fits ll) :
    Calls Tryz.prog 15 #[v] w (RetJT w (joinR ll)) := by
  obtain ⟨a, cap, rfl, hm, HC⟩ := hv.open
  clear hv
  obtain ⟨q, hq⟩ : ∃ q, joinR ll = q := ⟨_, rfl⟩
  rw [hq]
  replace hq := Lib.hid hq
  have HF := Lib.hid hF
  have hll := hF.1
  have htl := tl_le hF
  clear hF
  go_enter Tryz.func15, Tryz.ntmps15
  go_wp2
  go_loopg [4, 14] ll.length (fun g s4 s14 wx => ∃ (k m : Nat), s4 = .int .i64 m ∧ s14 = .int .i64 k ∧ k + g = ll.length ∧ Hid ((ll.take k).all isL = true) ∧ Hid (m = tl (ll.take k)) ∧ m ≤ 1000010000000000 ∧ Below w.heap.size w wx)
  case atStart => exact ⟨0, 0, rfl, rfl, by omega, Lib.hid rfl, Lib.hid rfl, by omega, Below.refl _ _⟩
  case round =>
    obtain ⟨k, m, rfl, rfl, hg, HN, HM, hmb, hbw⟩ := hrel
    have hsz := hbw.size
    cases gk with
    | zero =>
      have h : ¬ ((k : Int) < (ll.length : Int)) := by omega
      have HA := HN.out
      have HT := HM.out
      rw [List.take_of_length_le (by omega)] at HA HT
      clear HN HM
      by_cases c : 32768 < m
      · have t : ((32768 : Int) < (m : Int)) := by omega
        have Q := hq.out
        rw [joinR_long HA (by omega)] at Q
        subst Q
        clear c HA HT
        go_wp2
        go_ret2
        exact ⟨rfl, hbw⟩
      · have t : ¬ ((32768 : Int) < (m : Int)) := by omega
        have Q := hq.out
        rw [joinR_ok HA (by omega)] at Q
        subst Q
        have hsmall : tl ll ≤ 32768 := by omega
        replace HA := Lib.hid HA
        replace HT := Lib.hid HT
        clear c
        have hstart : BInv wr.heap.size (textL (ll.take 0)) (wr.alloc (.cells #[.pointer none, .slice none 0 0] 71)) := Lib.fresh_isBuilder _ _ _
        have hbl : Below w.heap.size w (wr.alloc (.cells #[.pointer none, .slice none 0 0] 71)) := hbw.trans ((Below.refl _ _).alloc hsz _)
        obtain ⟨B, hB⟩ : ∃ B, wr.heap.size = B := ⟨_, rfl⟩
        rw [hB] at hstart hsz
        replace hstart := Lib.hid hstart
        have hBs : B ≤ (wr.alloc (.cells #[.pointer none, .slice none 0 0] 71)).heap.size := by rw [← hB]; simp
        go_wp2
        go_loopg [38] ll.length (fun g2 s38 wx => ∃ (j : Nat), s38 = .int .i64 j ∧ j + g2 = ll.length ∧ Hid (BInv B (textL (ll.take j)) wx) ∧ Below w.heap.size w wx ∧ B ≤ wx.heap.size)
        case atStart => exact ⟨0, rfl, by omega, hstart, hbl, hBs⟩
        case round =>
          clear hstart hbl hBs hB hbw
          obtain ⟨j, rfl, hg2, HB, hbw, hBs⟩ := hrel
          have hsz2 := hbw.size
          cases gk with
          | zero =>
            have hj : ¬ ((j : Int) < (ll.length : Int)) := by omega
            have HB' := HB.out
            rw [List.take_of_length_le (by omega)] at HB'
            have S := Tryz.Builder_String_any B B (textL ll) wr HB' hBs
            replace HB' := Lib.hid HB'
            clear HB
            go_wp2_with (go_at_call 43; refine S.mono ?_; rintro e w3 ⟨rfl, bb⟩)
            go_ret2
            exact ⟨rfl, hbw.trans (bb.mono hsz)⟩
          | succ g2 =>
            have hj : ((j : Int) < (ll.length : Int)) := by omega
            obtain ⟨y, hy, htk, hmem⟩ := at_take (l := ll) (k := j) (by omega)
            obtain ⟨b1, o1, x1, rfl, _, c1, r1⟩ := HC.out.rd hbw hy
            obtain ⟨hyl, hys⟩ := HF.out.2 y hmem
            have hyL := List.all_eq_true.1 HA.out y hmem
            have h1 : wl y ≤ 32768 := by
              have e := tl_snoc (ll.take j) y
              rw [← htk] at e
              have := take_le_tl (y := ll) (j + 1)
              omega
            have h2 := join_len 32 (isL_pos hyL)
            have h3 : (textL (ll.take j)).length ≤ 32768 := by
              rw [textL_len (ll.take j) (List.all_eq_true.2 fun z hz => List.all_eq_true.1 HA.out z (List.mem_of_mem_take hz))]
              have := take_le_tl (y := ll) j
              omega
            have J := sjoin_any 32 x1 y wr r1 hyl (by omega)
            have T := Lib.hid (show (textL (ll.take j) ++ Lib.join y [32]) ++ [10] = textL (ll.take (j + 1)) by rw [htk, textL_snoc, lineT, List.append_assoc])
            obtain ⟨jt, hjt⟩ : ∃ jt, Lib.join y [32] = jt := ⟨_, rfl⟩
            obtain ⟨acc, hacc⟩ : ∃ acc, textL (ll.take j) = acc := ⟨_, rfl⟩
            rw [hjt] at J T h2
            rw [hacc] at T h3 HB
            obtain ⟨a2, f2, rfl, _, _⟩ := r1.openS
            clear r1
            replace hyL := Lib.hid hyL
            replace hys := Lib.hid hys
            replace hy := Lib.hid hy
            replace htk := Lib.hid htk
            replace hjt := Lib.hid hjt
            replace hacc := Lib.hid hacc
            have hsz0 := hsz
            replace hsz := Lib.hid hsz
            go_wp2_with (first
              | (go_at_call 42; refine J.mono ?_; rintro e w3 ⟨rfl, b3⟩; have HBc := HB.out.below b3; have hsc := Nat.le_trans hBs b3.size; have hbc := hbw.trans (b3.mono hsz2); clear b3)
              | (go_at_call 41; refine (write_any B _ _ _ HBc (by first | omega | (simp; omega)) hsc).mono ?_; rintro e w4 ⟨rfl, HBn, bn⟩; replace hbc := hbc.trans (bn.mono hsz0); replace hsc := Nat.le_trans hsc bn.size; clear bn; replace HBc := HBn; clear HBn))
            go_roundg g2
            case measure => omega
            case rel => exact ⟨j + 1, by go_num, by omega, Lib.hid (by rw [← T.out]; exact HBc), hbc, hsc⟩
    | succ g =>
      have h : ((k : Int) < (ll.length : Int)) := by omega
      obtain ⟨y, hy, htk, hmem⟩ := at_take (l := ll) (k := k) (by omega)
      obtain ⟨b1, o1, x1, rfl, _, c1, r1⟩ := HC.out.rd hbw hy
      obtain ⟨hyl, hys⟩ := HF.out.2 y hmem
      have K := isLine_any x1 y wr r1 hys
      obtain ⟨a2, f2, rfl, ⟨hm2, _⟩, HD⟩ := r1.openS
      clear r1
      cases hi : isL y with
      | false =>
        rw [hi] at K
        have Q := hq.out
        rw [joinR_bad (allL_bad hy hi)] at Q
        subst Q
        replace hi := Lib.hid hi
        replace hy := Lib.hid hy
        replace htk := Lib.hid htk
        clear HN
        go_wp2_with (go_at_call 40; refine K.mono ?_; rintro e w1 ⟨rfl, bb⟩)
        go_ret2
        exact ⟨rfl, hbw.trans (bb.mono hsz)⟩
      | true =>
        rw [hi] at K
        have N := Lib.hid (all_takeL hy HN.out hi)
        have T := Lib.hid (show tl (ll.take k) + wl y = tl (ll.take (k + 1)) by rw [htk, tl_snoc])
        have hle : tl (ll.take (k + 1)) ≤ 1000010000000000 := Nat.le_trans (take_le_tl _) htl
        have hle2 : m + wl y ≤ 1000010000000000 := by rw [HM.out, T.out]; exact hle
        replace hi := Lib.hid hi
        replace hy := Lib.hid hy
        replace htk := Lib.hid htk
        replace hys := Lib.hid hys
        clear HN hle
        go_wp2_with (go_at_call 40; refine K.mono ?_; rintro e w1 ⟨rfl, bb⟩)
        go_loopg [4, 23] y.length (fun g2 s4 s23 wx => ∃ (j m2 : Nat), s4 = .int .i64 m2 ∧ s23 = .int .i64 j ∧ j + g2 = y.length ∧ Hid (m2 = m + wl (y.take j)) ∧ m2 ≤ 1000010000000000 ∧ wx = w1)
        case atStart => exact ⟨0, m, rfl, rfl, by omega, Lib.hid rfl, by omega, rfl⟩
        case round =>
          obtain ⟨j, m2, rfl, rfl, hg2, HM2, hmb2, rfl⟩ := hrel
          cases gk with
          | zero =>
            have hk : ¬ ((j : Int) < (y.length : Int)) := by omega
            have E := Lib.hid (show m2 = tl (ll.take (k + 1)) by
              have := HM2.out
              rw [List.take_of_length_le (by omega)] at this
              rw [this, HM.out, T.out])
            clear HM2
            go_wp2
            go_roundg g
            case measure => omega
            case rel => exact ⟨k + 1, m2, rfl, by go_num, by omega, N, E, hmb2, hbw.trans (bb.mono hsz)⟩
          | succ g2 =>
            have hk : ((j : Int) < (y.length : Int)) := by omega
            obtain ⟨z, hz, htz, hmz⟩ := at_take (l := y) (k := j) (by omega)
            obtain ⟨b3, o3, rfl, _, c3⟩ := HD.out.rd bb hz
            have hzl := hys.out z hmz
            have E := Lib.hid (show m2 + (z.length + 1) = m + wl (y.take (j + 1)) by rw [HM2.out, htz, wl_snoc]; omega)
            have hb2 : m2 + (z.length + 1) ≤ 1000010000000000 := by
              have := E.out
              have h5 := take_le_wl (y := y) (j + 1)
              omega
            replace hz := Lib.hid hz
            replace htz := Lib.hid htz
            clear HM2
            go_wp2
            go_roundg g2
            case measure => omega
            case rel => exact ⟨j + 1, m2 + (z.length + 1), by go_num, by go_num, by omega, E, hb2, rfl⟩
end
section
open Go.ChangeShapes Go.WideShapes Go.ChangeAt Go.RowKit
theorem add_any (a b : L8) (h : a.length + b.length ≤ 9223372036854775807) : ∀ ww : World, (Op.stringOp .add ⟨a.toArray⟩ ⟨b.toArray⟩).run Tryz.prog ww = .ok (.string ⟨(a ++ b).toArray⟩) ww := by
  intro ww
  rw [run_string_add_sum ww _ _ (by rw [sb_size, sb_size]; exact h), ByteArray.mk_append_mk]
theorem join_snoc (c : UInt8) (xs : List L8) (x : L8) (h : xs ≠ []) : Lib.join (xs ++ [x]) [c] = Lib.join xs [c] ++ [c] ++ x := by
  cases xs with
  | nil => exact absurd rfl h
  | cons y ys =>
    rw [List.cons_append, Lib.join_cons, Lib.join_cons]
    simp [Lib.joinTail]
theorem join_first (c : UInt8) (x : L8) : Lib.join ([] ++ [x]) [c] = x := by rw [List.nil_append, Lib.join_one]
theorem join_le (c : UInt8) (y : List L8) : (Lib.join y [c]).length ≤ wl y := by
  cases y with
  | nil => simp [Lib.join_nil]
  | cons x r => have := join_len c (y := x :: r) (by simp); omega
theorem isL_end {y : List L8} (h : y.all isW = true) (h0 : ¬ y.length = 0) : isL y = true := by
  rw [isL, h]; simp; omega
set_option maxRecDepth 100000 in
set_option maxHeartbeats 4000000 in
theorem rjoin_any (v : Value) (ll : List (List L8)) (w : World) (hv : LL w v ll) (hF : Fits ll) :
    Calls Tryz.prog 16 #[v] w fun e w' => e = .returned (.tuple #[str (joinR ll).1, .int .i64 (joinR ll).2]) ∧ w = w' := by
  obtain ⟨a, cap, rfl, hm, HC⟩ := hv.open
  clear hv
  obtain ⟨q, hq⟩ : ∃ q, joinR ll = q := ⟨_, rfl⟩
  rw [hq]
  replace hq := Lib.hid hq
  have HF := Lib.hid hF
  have hll := hF.1
  have htl := tl_le hF
  clear hF
  go_enter Tryz.func16, Tryz.ntmps16
  go_wp2
  go_loopg [4, 5] ll.length (fun g s4 s5 wx => ∃ (i : Nat) (acc : L8), s4 = str acc ∧ s5 = .int .i64 i ∧ i + g = ll.length ∧ Hid ((ll.take i).all isL = true) ∧ Hid (acc = textL (ll.take i)) ∧ w = wx)
  case atStart => exact ⟨0, [], rfl, rfl, by omega, Lib.hid rfl, Lib.hid rfl, rfl⟩
  case round =>
    obtain ⟨i, acc, rfl, rfl, hg, HN, HM, rfl⟩ := hrel
    have hacc : acc.length ≤ 1000010000000000 := by
      rw [HM.out, textL_len _ HN.out]; exact Nat.le_trans (take_le_tl _) htl
    cases gk with
    | zero =>
      have h : ¬ ((i : Int) < (ll.length : Int)) := by omega
      have HA := HN.out
      have HT := HM.out
      rw [List.take_of_length_le (by omega)] at HA HT
      have hlen := textL_len ll HA
      rw [← HT] at hlen
      clear HN HM
      by_cases c : 32768 < acc.length
      · have t : ((32768 : Int) < (acc.length : Int)) := by omega
        have Q := hq.out
        rw [joinR_long HA (by omega)] at Q
        subst Q
        clear c HA HT
        go_wp2
        go_ret2
        exact ⟨rfl, rfl⟩
      · have t : ¬ ((32768 : Int) < (acc.length : Int)) := by omega
        have Q := hq.out
        rw [joinR_ok HA (by omega), ← HT] at Q
        subst Q
        clear c HA HT
        go_wp2
        go_ret2
        exact ⟨rfl, rfl⟩
    | succ g =>
      have h : ((i : Int) < (ll.length : Int)) := by omega
      obtain ⟨y, hy, htk, hmem⟩ := at_take (l := ll) (k := i) (by omega)
      obtain ⟨b1, o1, x1, rfl, _, c1, r1⟩ := HC.out.rd (Below.refl _ _) hy
      obtain ⟨hyl, hys⟩ := HF.out.2 y hmem
      have hwl : wl y ≤ 10000100000 := wl_le hyl hys
      obtain ⟨a2, f2, rfl, ⟨hm2, _⟩, HD⟩ := r1.openS
      clear r1
      replace hys := Lib.hid hys
      by_cases h0 : y.length = 0
      · have e0 : ((y.length : Int) == 0) = true := by simp; exact List.length_eq_zero_iff.1 h0
        have Q := hq.out
        rw [joinR_bad (allL_bad hy (by simp [isL, h0]))] at Q
        subst Q
        replace hy := Lib.hid hy
        replace htk := Lib.hid htk
        clear HN HM
        go_wp2
        go_ret2
        exact ⟨rfl, rfl⟩
      · have e0 : ((y.length : Int) == 0) = false := by rw [← Bool.not_eq_true]; intro e; exact h0 (by have := eq_of_beq e; omega)
        have h0' := Lib.hid h0
        replace hy := Lib.hid hy
        clear h0
        go_wp2
        go_loopg [4, 6] y.length (fun g2 s4 s6 wx => ∃ (k : Nat) (u : L8), s4 = str u ∧ s6 = .int .i64 k ∧ k + g2 = y.length ∧ Hid ((y.take k).all isW = true) ∧ Hid (u = acc ++ Lib.join (y.take k) [32]) ∧ w = wx)
        case atStart => exact ⟨0, acc, rfl, rfl, by omega, Lib.hid rfl, Lib.hid (by simp [Lib.join_nil]), rfl⟩
        case round =>
          obtain ⟨k, u, rfl, rfl, hg2, HW, HU, rfl⟩ := hrel
          have hul : u.length ≤ 1000020000200000 := by
            rw [HU.out, List.length_append]
            have h5 := join_le 32 (y.take k)
            have h6 := take_le_wl (y := y) k
            omega
          cases gk with
          | zero =>
            have hk : ¬ ((k : Int) < (y.length : Int)) := by omega
            have HA := HW.out
            have HT := HU.out
            rw [List.take_of_length_le (by omega)] at HA HT
            have hi := isL_end HA h0'.out
            have N := Lib.hid (all_takeL hy.out HN.out hi)
            have T := Lib.hid (show u ++ [10] = textL (ll.take (i + 1)) by rw [htk, textL_snoc, lineT, ← HM.out, HT, List.append_assoc])
            have A := add_any u [10] (by simp; omega)
            replace HA := Lib.hid HA
            replace HT := Lib.hid HT
            replace hi := Lib.hid hi
            replace htk := Lib.hid htk
            clear HW HU HM HN
            go_wp2
            go_roundg g
            case measure => omega
            case rel => exact ⟨i + 1, u ++ [10], rfl, by go_num, by omega, N, T, rfl⟩
          | succ g2 =>
            have hk : ((k : Int) < (y.length : Int)) := by omega
            obtain ⟨z, hz, htz, hmz⟩ := at_take (l := y) (k := k) (by omega)
            obtain ⟨b3, o3, rfl, _, c3⟩ := HD.out.rd (Below.refl _ _) hz
            have hzl := hys.out z hmz
            have K := fun ww => rword_any z ww (by omega)
            replace htk := Lib.hid htk
            cases hw : isW z with
            | false =>
              simp only [hw] at K
              have Q := hq.out
              rw [joinR_bad (allL_bad hy.out (isL_bad hz hw))] at Q
              subst Q
              replace hw := Lib.hid hw
              replace hz := Lib.hid hz
              replace htz := Lib.hid htz
              clear HW HU
              go_wp2_with (go_at_call 44; refine (K _).mono ?_; rintro e w1 ⟨rfl, rfl⟩)
              go_ret2
              exact ⟨rfl, rfl⟩
            | true =>
              simp only [hw] at K
              have N := Lib.hid (all_takeS hz HW.out hw)
              replace hw := Lib.hid hw
              replace hz := Lib.hid hz
              by_cases hk0 : k = 0
              · have hkz : ¬ ((0 : Int) < (k : Int)) := by omega
                have A := add_any u z (by omega)
                have T := Lib.hid (show u ++ z = acc ++ Lib.join (y.take (k + 1)) [32] by rw [HU.out, htz, hk0, List.take_zero, join_first, Lib.join_nil, List.append_nil])
                replace htz := Lib.hid htz
                clear HW HU hk0
                go_wp2_with (go_at_call 44; refine (K _).mono ?_; rintro e w1 ⟨rfl, rfl⟩)
                go_roundg g2
                case measure => omega
                case rel => exact ⟨k + 1, u ++ z, rfl, by go_num, by omega, N, T, rfl⟩
              · have hkp : ((0 : Int) < (k : Int)) := by omega
                have hkn : 0 < k := by omega
                have A1 := add_any u [32] (by simp; omega)
                have T := show (u ++ [32]) ++ z = acc ++ Lib.join (y.take (k + 1)) [32] by
                  have hne : y.take k ≠ [] := by
                    intro e
                    have := congrArg List.length e
                    rw [List.length_take, List.length_nil] at this; omega
                  rw [HU.out, htz, join_snoc 32 _ _ hne]
                  simp
                have hu1 : (u ++ [32]).length ≤ 1000020000200001 := by simp; omega
                obtain ⟨u1, hu⟩ : ∃ u1, u ++ [32] = u1 := ⟨_, rfl⟩
                rw [hu] at A1 T hu1
                have A2 := add_any u1 z (by omega)
                replace hu := Lib.hid hu
                replace T := Lib.hid T
                replace htz := Lib.hid htz
                clear HW HU hk0
                go_wp2_with (go_at_call 44; refine (K _).mono ?_; rintro e w1 ⟨rfl, rfl⟩)
                go_roundg g2
                case measure => omega
                case rel => exact ⟨k + 1, u1 ++ z, rfl, by go_num, by omega, N, T, rfl⟩
end
end Go.Proofs.YteafkginhejllaaGreatDoor
