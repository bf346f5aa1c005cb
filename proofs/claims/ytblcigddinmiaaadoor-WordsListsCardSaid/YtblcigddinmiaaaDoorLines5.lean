/- Contracts of Lines, the program's and the reference's. Conditions: the text's length; what the library reads (GW). -/
import Derived.Test.YtblcigddinmiaaaDoorLine5
namespace Go.Proofs.YtblcigddinmiaaaDoor
open Go.ChangeShapes Go.WideShapes Go.ChangeAt Go.RowKit
theorem cut_one (c : UInt8) (s : L8) : (∃ t r, s = t ++ c :: r ∧ c ∉ t ∧ Lib.cut s [c] = (t, r, true)) ∨ (c ∉ s ∧ Lib.cut s [c] = (s, [], false)) := by
  have e := Lib.index_one s c
  by_cases h : Lib.indexByte s c = -1
  · right
    refine ⟨fun hm => ?_, ?_⟩
    · obtain ⟨k, hk⟩ := List.mem_iff_getElem?.1 hm
      exact Lib.indexByte_none h k hk
    · rw [Lib.cut, e, if_neg (by omega)]
  · left
    have hge := Lib.indexByte_ge s c
    obtain ⟨o, ho⟩ : ∃ o : Nat, Lib.indexByte s c = o := ⟨(Lib.indexByte s c).toNat, by omega⟩
    obtain ⟨h1, h2⟩ := Lib.indexByte_some ho
    obtain ⟨hl, hv⟩ := List.getElem?_eq_some_iff.1 h1
    refine ⟨s.take o, s.drop (o + 1), ?_, ?_, ?_⟩
    · rw [← hv, ← List.drop_eq_getElem_cons hl, List.take_append_drop]
    · intro hm
      obtain ⟨j, hj⟩ := List.mem_iff_getElem?.1 hm
      rw [List.getElem?_take] at hj
      split at hj
      · rename_i hjo
        exact h2 j hjo hj
      · cases hj
    · rw [Lib.cut, e, if_pos (by omega), ho]
      rfl
theorem cut_any (s t r : L8) (f : Bool) (h : Lib.cut s [10] = (t, r, f)) (w : World) (hg : GW w) (hl : s.length ≤ 100000) : Calls Tryd.prog 29 #[str s, .string ⟨#[10]⟩] w fun e w' => e = .returned (.tuple #[str t, str r, .bool f]) ∧ Below w.heap.size w w' := by
  obtain ⟨⟨m, hm⟩, _⟩ := hg
  refine (Tryd.strings_Cut (sb s) ⟨#[10]⟩ m w (by rw [sb_size]; omega) hm).mono ?_
  rintro e w' ⟨rfl, n, rfl⟩
  refine ⟨?_, bdrew (Below.refl _ _) n⟩
  rw [show (sb s).data.toList = s from rfl, show (⟨#[10]⟩ : ByteArray).data.toList = [10] from rfl, h]
/-- Lines, a number and an error are handed back; nothing that was there has changed. -/
def RetLL (w : World) (x : List (List L8) × Int × Int) (e : Ending) (w' : World) : Prop := ∃ v, e = .returned (.tuple #[v, .int .i64 x.2.1, .int .i64 x.2.2]) ∧ LL w' v x.1 ∧ Below w.heap.size w w'
theorem outLines_bad (n : Nat) : outLines (.bad n) = ([], (n : Int), 4) := rfl
theorem outLines_ok (l : List (List L8)) : outLines (.ok l) = (l, 0, 0) := rfl
theorem own_below {w w' : World} {B : Nat} {e : TypeId} {k : Nat} {v : Value} {n : Nat} {xs : List Value} (h : w.ownsRow B e k v n xs) (hb : Below w.heap.size w w') : w'.ownsRow B e k v n xs :=
  h.kept (row := none) ⟨hb.os, hb.tape, hb.output, hb.size, fun k hk _ => hb.block k hk⟩ (by cases v.ownBlock <;> simp)
theorem own_types {w : World} {B B' : Nat} {e e' : TypeId} {v u : Value} {n m : Nat} {xs ys : List Value} (h : w.ownsRow B e 1 v n xs) (k : w.ownsRow B' e' 1 u m ys) (hne : e ≠ e') : ∀ g, v.ownBlock = some g → u.ownBlock ≠ some g := by
  intro g hg hu
  rcases h.2 with ⟨rfl, _⟩ | ⟨g1, c1, cur1, rfl, _, h1, _⟩
  · simp [Value.ownBlock] at hg
  · rcases k.2 with ⟨rfl, _⟩ | ⟨g2, c2, cur2, rfl, _, h2, _⟩
    · simp [Value.ownBlock] at hu
    · simp only [Value.ownBlock, Option.some.injEq] at hg hu
      subst hg
      rw [hu] at h2
      rw [h1] at h2
      simp only [Option.some.injEq, Obj.cells.injEq] at h2
      exact hne h2.2.1
/-- Rows that lie in blocks of their own. -/
def RowsO (B : Nat) (w : World) (vs : List Value) (l : List (List L8)) : Prop := vs.length = l.length ∧ ∀ (j : Nat) x y, vs[j]? = some x → l[j]? = some y → w.ownsRow B 9 1 x y.length (strsV y)
theorem RowsO.nil (B : Nat) (w : World) : RowsO B w [] [] := ⟨rfl, fun j x y hx => by simp at hx⟩
theorem RowsO.below {B : Nat} {w w' : World} {vs : List Value} {l : List (List L8)} (h : RowsO B w vs l) (hb : Below w.heap.size w w') : RowsO B w' vs l := ⟨h.1, fun j x y hx hy => own_below (h.2 j x y hx hy) hb⟩
theorem RowsO.kept {B : Nat} {w w' : World} {vs : List Value} {l : List (List L8)} {u : Value} (h : RowsO B w vs l) (hg : w.grownBy w' u.ownBlock) (hne : ∀ (j : Nat) x, vs[j]? = some x → ∀ g, x.ownBlock = some g → u.ownBlock ≠ some g) : RowsO B w' vs l :=
  ⟨h.1, fun j x y hx hy => own_kept (h.2 j x y hx hy) hg (hne j x hx)⟩
theorem RowsO.types {B B' : Nat} {w : World} {vs : List Value} {l : List (List L8)} {u : Value} {m : Nat} {ys : List Value} (h : RowsO B w vs l) (k : w.ownsRow B' 33 1 u m ys) : ∀ (j : Nat) x, vs[j]? = some x → ∀ g, x.ownBlock = some g → u.ownBlock ≠ some g := by
  intro j x hx g hg
  have hj : j < vs.length := (List.getElem?_eq_some_iff.1 hx).1
  have hy : l[j]? = some (l[j]'(by rw [← h.1]; exact hj)) := List.getElem?_eq_getElem _
  exact own_types (h.2 j x _ hx hy) k (by decide) g hg
theorem RowsO.lt {B : Nat} {w : World} {vs : List Value} {l : List (List L8)} (h : RowsO B w vs l) : ∀ (j : Nat) x, vs[j]? = some x → ∀ g, x.ownBlock = some g → g < w.heap.size := by
  intro j x hx g hg
  have hj : j < vs.length := (List.getElem?_eq_some_iff.1 hx).1
  have hy : l[j]? = some (l[j]'(by rw [← h.1]; exact hj)) := List.getElem?_eq_getElem _
  exact ((h.2 j x _ hx hy).lt g hg).2
theorem RowsO.snoc {B : Nat} {w : World} {vs : List Value} {l : List (List L8)} {v : Value} {x : List L8} (h : RowsO B w vs l) (hx : w.ownsRow B 9 1 v x.length (strsV x)) : RowsO B w (vs ++ [v]) (l ++ [x]) := by
  refine ⟨by simp [h.1], fun j a y ha hy => ?_⟩
  by_cases hj : j < vs.length
  · rw [List.getElem?_append_left hj] at ha
    rw [List.getElem?_append_left (by rw [← h.1]; exact hj)] at hy
    exact h.2 j a y ha hy
  · by_cases he : j = vs.length
    · subst he
      rw [List.getElem?_append_right (by omega), Nat.sub_self] at ha
      rw [List.getElem?_append_right (by rw [h.1]; omega), h.1, Nat.sub_self] at hy
      simp at ha hy
      subst ha hy
      exact hx
    · rw [List.getElem?_eq_none (by simp; omega)] at ha
      cases ha
theorem RowsO.rows {B : Nat} {w : World} {vs : List Value} {l : List (List L8)} (h : RowsO B w vs l) : RowsL w vs l := ⟨h.1, fun j x y hx hy => RS.own (h.2 j x y hx hy)⟩
/-- What stands behind some lines. -/
def LInv (w wx : World) (v : Value) (out : List (List L8)) : Prop := ∃ vs, wx.ownsRow w.heap.size 33 1 v out.length vs ∧ RowsO w.heap.size wx vs out ∧ Below w.heap.size w wx
theorem LInv.start (w : World) : LInv w w (.slice none 0 0) [] := ⟨[], World.ownsRow_nil _ _ _ _, RowsO.nil _ _, Below.refl _ _⟩
theorem LInv.ll {w wx : World} {v : Value} {out : List (List L8)} (h : LInv w wx v out) : LL wx v out := by
  obtain ⟨vs, h1, h2, _⟩ := h
  exact LL.of (RS.own h1) h2.rows
theorem LInv.below {w wx wy : World} {v : Value} {out : List (List L8)} (h : LInv w wx v out) (hb : Below wx.heap.size wx wy) : LInv w wy v out := by
  obtain ⟨vs, h1, h2, h3⟩ := h
  exact ⟨vs, own_below h1 hb, h2.below hb, h3.trans (hb.mono h3.size)⟩
theorem LInv.push {w wx w1 : World} {v v1 u : Value} {vs : List Value} {out : List (List L8)} {x : List L8} (h1 : wx.ownsRow w.heap.size 33 1 v out.length vs) (h2 : RowsO w.heap.size wx vs out) (h3 : Below w.heap.size w wx)
    (hu : wx.ownsRow w.heap.size 9 1 u x.length (strsV x)) (ho : w1.ownsRow w.heap.size 33 1 v1 (out.length + 1) (vs ++ [u])) (hg : wx.grownBy w1 v.ownBlock) : LInv w w1 v1 (out ++ [x]) := by
  refine ⟨vs ++ [u], by rw [List.length_append]; exact ho, (h2.kept hg (h2.types h1)).snoc (own_kept hu hg (own_types hu h1 (by decide))), below_grown h3 hg h1 (Nat.le_refl _) h3.size⟩
theorem own_slice {w : World} {B : Nat} {e : TypeId} {v : Value} {n : Nat} {xs : List Value} (h : w.ownsRow B e 1 v n xs) : ∃ a c, v = .slice a n c := own_shape h
set_option maxRecDepth 100000 in
set_option maxHeartbeats 2000000 in
theorem lines_any (s : L8) (w : World) (hg : GW w) (hl : s.length ≤ 100000) :
    Calls Tryd.prog 12 #[str s] w (RetLL w (linesR s)) := by
  have hs := Lib.hid (sb_size s)
  by_cases hlong : 32768 < s.length
  · rw [linesR_long hlong]
    have t : ((32768 : Int) < (s.length : Int)) := by omega
    go_enter Tryd.func12, Tryd.ntmps12
    go_wp2
    go_ret3
    exact ⟨_, rfl, LL.nil _ _ _, Below.refl _ _⟩
  · rw [linesR_of hlong]
    have t : ¬ ((32768 : Int) < (s.length : Int)) := by omega
    obtain ⟨q, hq⟩ : ∃ q, scan [] [] [] s = q := ⟨_, rfl⟩
    rw [hq]
    replace hq := Lib.hid hq
    clear hlong
    go_enter Tryd.func12, Tryd.ntmps12
    go_wp2
    go_loopg [0, 5] s.length (fun g s0 s5 wx => ∃ (rest : L8) (out : List (List L8)), s0 = str rest ∧ rest.length ≤ g ∧ (g ≤ s.length ∧ out.length + g ≤ s.length) ∧ Hid (scan out [] [] rest = q) ∧ Hid (LInv w wx s5 out))
    case atStart => exact ⟨s, [], rfl, Nat.le_refl _, by simp, hq, Lib.hid (LInv.start w)⟩
    case round =>
      obtain ⟨rest, out, rfl, hr, hgs, HN, HL⟩ := hrel
      by_cases h0 : rest = []
      · subst h0
        have E := HN.out
        rw [scan_nil] at E
        subst E
        clear HN
        go_wp2
        go_ret3
        obtain ⟨vs, _, _, hb⟩ := HL.out
        exact ⟨_, rfl, HL.out.ll, hb⟩
      · obtain ⟨z1, z2, z3⟩ := not_nil (List.length_pos_iff.2 h0)
        obtain ⟨vs, ho, hrows, hbw⟩ := HL.out
        have hG := hg.below hbw
        have hsz := hbw.size
        rcases cut_one 10 rest with ⟨tt, r, e1, e2, e3⟩ | ⟨e2, e3⟩
        · have KC := cut_any rest tt r true e3 wr hG (by omega)
          have htl : tt.length + 1 + r.length = rest.length := by rw [e1]; simp; omega
          have S := HN.out
          rw [e1, scan_step out tt r e2] at S
          have KP := fun ww => parts_any tt ww (by omega)
          have KL := fun v ww hh => isLine_any v (cutA 32 [] tt) ww hh (fun x hx => by have := cutA_len 32 tt [] x hx; simp at this; omega)
          obtain ⟨ps, hps⟩ : ∃ ps, cutA 32 [] tt = ps := ⟨_, rfl⟩
          rw [hps] at S
          simp only [hps] at KP KL
          replace hps := Lib.hid hps
          replace e1 := Lib.hid e1
          replace e2 := Lib.hid e2
          replace e3 := Lib.hid e3
          clear HN h0
          cases hi : isL ps with
          | true =>
            rw [hi, if_pos rfl] at S
            simp only [hi] at KL
            replace hi := Lib.hid hi
            replace S := Lib.hid S
            have hol : out.length ≤ 100000 := by omega
            go_wp2_with (first
              | (go_at_call 29; refine KC.mono ?_; rintro e w1 ⟨rfl, b1⟩)
              | (go_at_call 30; refine (KP _).mono ?_; rintro e w2 ⟨v2, rfl, r2, b2⟩; obtain ⟨a2, c2, rfl⟩ := own_slice r2)
              | (go_at_call 31; refine (KL _ _ (RS.own r2)).mono ?_; rintro e w3 ⟨rfl, b3⟩)
              | (at_builtin
                 have bb := b1.trans ((b2.mono b1.size).trans (b3.mono (Nat.le_trans b1.size b2.size)))
                 have r3 := own_mono (own_below r2 b3) (show w.heap.size ≤ w1.heap.size from Nat.le_trans hsz b1.size)
                 have ho3 := own_below ho bb
                 have hr3 := hrows.below bb
                 have hb3 := hbw.trans (bb.mono hsz)
                 have hs3 := hb3.size
                 refine wpList_push _ rfl _ _ 23 rfl w.heap.size 33 (.slice none 0 0) 1 24 Tryd.underlying23 info_strs rfl (by omega) u5 out.length _ rfl ho3 [.slice a2 ps.length c2] rfl rfl (one_slice _ _ _) (by omega) (by omega) hs3 ?_
                 intro v1 w4 p1 gr1 nb1
                 have HP1 := Lib.hid (LInv.push ho3 hr3 hb3 r3 p1 gr1)
                 clear nb1 gr1 p1 ho3 hr3 hb3 r3 bb))
            go_roundg r.length
            case measure => omega
            case rel => exact ⟨r, out ++ [ps], rfl, Nat.le_refl _, ⟨by omega, by simp; omega⟩, S, HP1⟩
          | false =>
            rw [hi, if_neg (by decide)] at S
            subst S
            obtain ⟨a5, c5, rfl⟩ := own_slice ho
            simp only [hi] at KL
            replace hi := Lib.hid hi
            go_wp2_with (first
              | (go_at_call 29; refine KC.mono ?_; rintro e w1 ⟨rfl, b1⟩)
              | (go_at_call 30; refine (KP _).mono ?_; rintro e w2 ⟨v2, rfl, r2, b2⟩; obtain ⟨a2, c2, rfl⟩ := own_slice r2)
              | (go_at_call 31; refine (KL _ _ (RS.own r2)).mono ?_; rintro e w3 ⟨rfl, b3⟩))
            go_ret3
            have bb := b1.trans ((b2.mono b1.size).trans (b3.mono (Nat.le_trans b1.size b2.size)))
            exact ⟨_, rfl, LL.nil _ _ _, hbw.trans (bb.mono hsz)⟩
        · have KC := cut_any rest rest [] false e3 wr hG (by omega)
          have KP := fun ww => parts_any rest ww (by omega)
          have E := HN.out
          rw [scan_left out rest e2 h0] at E
          subst E
          obtain ⟨a5, c5, rfl⟩ := own_slice ho
          replace e2 := Lib.hid e2
          replace e3 := Lib.hid e3
          clear HN h0
          go_wp2_with (first
            | (go_at_call 29; refine KC.mono ?_; rintro e w1 ⟨rfl, b1⟩)
            | (go_at_call 30; refine (KP _).mono ?_; rintro e w2 ⟨v2, rfl, r2, b2⟩; obtain ⟨a2, c2, rfl⟩ := own_slice r2))
          go_ret3
          have bb := b1.trans (b2.mono b1.size)
          exact ⟨_, rfl, LL.nil _ _ _, hbw.trans (bb.mono hsz)⟩
end Go.Proofs.YtblcigddinmiaaaDoor
