/- The walk of the law on the length limit. Conditions: what the library reads (GW). -/
import Derived.Test.YtblcigddinmiaaaDoorLawsC5
import Derived.Deep.OwnRows
namespace Go.Proofs.YtblcigddinmiaaaDoor
open Go.ChangeShapes Go.WideShapes Go.ChangeAt Go.RowKit
/-- 'string(b)' of an owned row of bytes, empty or not. -/
theorem conv_own {w : World} {base : Nat} {v : Value} {l : List UInt8} (h : w.ownsRow base 5 1 v l.length (bytesV l)) :
    (convert 32 9 v).run Tryd.prog w = .ok (str l) w := by
  by_cases hl : 0 < l.length
  · exact run_string_own (P := Tryd.prog) 32 9 5 Tryd.underlying32 Tryd.underlying5 Tryd.underlying9 h hl
  · obtain rfl : l = [] := List.eq_nil_of_length_eq_zero (by omega)
    rcases h.2 with ⟨rfl, _⟩ | ⟨g, cap, cur, rfl, _⟩
    · exact run_convert_bytes_nil (P := Tryd.prog) w 32 5 Tryd.underlying32 Tryd.underlying5 0 0 9 Tryd.underlying9
    · exact run_convert_bytes_back (P := Tryd.prog) w 32 9 5 ⟨g, 0, none⟩ cap [] Tryd.underlying32 Tryd.underlying5 Tryd.underlying9 fun j hj => by simp at hj
def pat : Nat → L8
  | 0 => []
  | k + 1 => pat k ++ [97, 10]
theorem pat_len : ∀ k, (pat k).length = 2 * k
  | 0 => rfl
  | k + 1 => by rw [pat, List.length_append, pat_len k]; simp; omega
def oneL (k : Nat) : List (List L8) := List.replicate k [[97]]
theorem oneL_succ (k : Nat) : oneL (k + 1) = oneL k ++ [[[97]]] := by simp [oneL, List.replicate_succ']
theorem oneL_isL (k : Nat) : (oneL k).all isL = true := by
  rw [List.all_eq_true]
  intro x hx
  rw [List.eq_of_mem_replicate hx]; decide
theorem textL_pat : ∀ k, textL (oneL k) = pat k
  | 0 => rfl
  | k + 1 => by rw [oneL_succ, textL_snoc, textL_pat k]; rfl
theorem oneL_fits {k : Nat} (h : k ≤ 20000) : Fits (oneL k) := by
  refine ⟨by simp [oneL]; omega, fun l hl => ?_⟩
  rw [List.eq_of_mem_replicate hl]
  exact ⟨by decide, fun s hs => by simp at hs; subst hs; decide⟩
theorem limit_lines (k : Nat) : linesR (pat k) = if 32768 < 2 * k then ([], 0, 2) else (oneL k, 0, 0) := by
  by_cases h : 32768 < 2 * k
  · rw [if_pos h, linesR_long (by rw [pat_len]; exact h)]
  · rw [if_neg h, linesR_of (by rw [pat_len]; exact h), ← textL_pat, scan_text _ [] (oneL_isL k)]; rfl
theorem limit_join (k : Nat) : joinR (oneL k) = if 32768 < 2 * k then ([], 2) else (pat k, 0) := by
  have e : tl (oneL k) = 2 * k := by rw [← textL_len _ (oneL_isL k), textL_pat, pat_len]
  by_cases h : 32768 < 2 * k
  · rw [if_pos h, joinR_long (oneL_isL k) (by rw [e]; exact h)]
  · rw [if_neg h, joinR_ok (oneL_isL k) (by rw [e]; exact h), textL_pat]
/-- What stands behind k rounds: the bytes, the lines. -/
def LimI (w wx : World) (n k : Nat) : Prop := ∃ xb xl : List Value,
  wx.ownsRow w.heap.size 5 1 (.slice (some ⟨w.heap.size, 0, none⟩) (2 * n) (2 * n)) (2 * n) xb ∧
  wx.ownsRow w.heap.size 33 1 (.slice (some ⟨w.heap.size + 1, 0, none⟩) n n) n xl ∧
  xb.take (2 * k) = bytesV (pat k) ∧ RowsO (w.heap.size + 2) wx (xl.take k) (oneL k) ∧ Below w.heap.size w wx ∧ w.heap.size + 2 ≤ wx.heap.size
theorem LimI.start (w : World) (n : Nat) (h : n ≤ 20000) : LimI w ((w.alloc (.cells (madeCells #[.int .u8 0] (2 * n)) 5)).alloc (.cells (madeCells #[.slice none 0 0] n) 33)) n 0 := by
  refine ⟨(madeCells #[.int .u8 0] (2 * n)).toList, (madeCells #[.slice none 0 0] n).toList, ?_, ?_, by simp [bytesV, pat], RowsO.nil _ _, ((Below.refl _ _).alloc (Nat.le_refl _) _).alloc (by simp) _, by simp⟩
  · exact (World.ownsRow_lit w _ (2 * n) (Nat.le_refl _) (by unfold maxLen; omega) (by rw [size_madeCells]; omega)).alloc _
  · have := World.ownsRow_lit (base := w.heap.size) (e := 33) (size := 1) (w.alloc (.cells (madeCells #[.int .u8 0] (2 * n)) 5)) (madeCells #[.slice none 0 0] n) n (by simp) (by unfold maxLen; omega) (by rw [size_madeCells]; omega)
    simpa using this
theorem RowsO.ge {B : Nat} {w : World} {vs : List Value} {l : List (List L8)} (h : RowsO B w vs l) : ∀ (j : Nat) x, vs[j]? = some x → ∀ g, x.ownBlock = some g → B ≤ g := by
  intro j x hx g hg
  have hj : j < vs.length := (List.getElem?_eq_some_iff.1 hx).1
  have hy : l[j]? = some (l[j]'(by rw [← h.1]; exact hj)) := List.getElem?_eq_getElem _
  exact ((h.2 j x _ hx hy).lt g hg).1
theorem take_set_two {xb : List Value} {k : Nat} {a b : Value} (h : 2 * k + 1 < xb.length) : ((xb.set (2 * k) a).set (2 * k + 1) b).take (2 * (k + 1)) = xb.take (2 * k) ++ [a, b] := by
  apply List.ext_getElem?
  intro j
  by_cases h1 : j < 2 * k
  · rw [List.getElem?_take, if_pos (by omega), List.getElem?_set_ne (by omega), List.getElem?_set_ne (by omega), List.getElem?_append_left (by simp; omega), List.getElem?_take, if_pos h1]
  · rw [List.getElem?_append_right (by simp; omega)]
    have hl : (xb.take (2 * k)).length = 2 * k := by simp; omega
    rw [hl]
    by_cases h2 : j = 2 * k
    · subst h2
      rw [List.getElem?_take, if_pos (by omega), List.getElem?_set_ne (by omega), List.getElem?_set_self (by omega), Nat.sub_self]; rfl
    · by_cases h3 : j = 2 * k + 1
      · subst h3
        rw [List.getElem?_take, if_pos (by omega), List.getElem?_set_self (by simp; omega), show 2 * k + 1 - 2 * k = 1 by omega]; rfl
      · rw [List.getElem?_take, if_neg (by omega), List.getElem?_eq_none (by simp; omega)]
theorem take_set_one {xl : List Value} {k : Nat} {a : Value} (h : k < xl.length) : (xl.set k a).take (k + 1) = xl.take k ++ [a] := by
  apply List.ext_getElem?
  intro j
  by_cases h1 : j < k
  · rw [List.getElem?_take, if_pos (by omega), List.getElem?_set_ne (by omega), List.getElem?_append_left (by simp; omega), List.getElem?_take, if_pos h1]
  · rw [List.getElem?_append_right (by simp; omega)]
    have hl : (xl.take k).length = k := by simp; omega
    rw [hl]
    by_cases h2 : j = k
    · subst h2
      rw [List.getElem?_take, if_pos (by omega), List.getElem?_set_self (by omega), Nat.sub_self]; rfl
    · rw [List.getElem?_take, if_neg (by omega), List.getElem?_eq_none (by simp; omega)]
theorem LimI.step {w wx : World} {n k : Nat} (h : LimI w wx n k) (hk : k < n) :
    LimI w ((((wx.setCell ⟨w.heap.size, 2 * k, none⟩ (.int .u8 97)).setCell ⟨w.heap.size, 2 * k + 1, none⟩ (.int .u8 10)).alloc (.cells #[str [97]] 9)).setCell ⟨w.heap.size + 1, k, none⟩ (.slice (some ⟨wx.heap.size, 0, none⟩) 1 1)) n (k + 1) := by
  obtain ⟨xb, xl, hb, hl, hpat, hrows, hbw, hsz⟩ := h
  have hxb : xb.length = 2 * n := by have := hb.1; omega
  have hxl : xl.length = n := by have := hl.1; omega
  obtain ⟨p1, g1⟩ := hb.stored (2 * k) (.int .u8 97)
  have l1 := hl.kept g1 (Or.inr (by simp [Value.ownBlock]))
  have r1 := hrows.kept (u := .slice (some ⟨w.heap.size, 0, none⟩) 0 0) g1 (fun j x hx g hg e => by
    have := hrows.ge j x hx g hg
    simp only [Value.ownBlock, Option.some.injEq] at e; omega)
  have b1 : Below w.heap.size w (wx.setCell ⟨w.heap.size, 2 * k, none⟩ (.int .u8 97)) := below_grown (v := .slice (some ⟨w.heap.size, 0, none⟩) (2 * n) (2 * n)) hbw g1 hb (Nat.le_refl _) hbw.size
  obtain ⟨p2, g2⟩ := p1.stored (2 * k + 1) (.int .u8 10)
  have l2 := l1.kept g2 (Or.inr (by simp [Value.ownBlock]))
  have r2 := r1.kept (u := .slice (some ⟨w.heap.size, 0, none⟩) 0 0) g2 (fun j x hx g hg e => by
    have := r1.ge j x hx g hg
    simp only [Value.ownBlock, Option.some.injEq] at e; omega)
  have b2 := below_grown (v := .slice (some ⟨w.heap.size, 0, none⟩) (2 * n) (2 * n)) b1 g2 p1 (Nat.le_refl _) b1.size
  have es : ((wx.setCell ⟨w.heap.size, 2 * k, none⟩ (.int .u8 97)).setCell ⟨w.heap.size, 2 * k + 1, none⟩ (.int .u8 10)).heap.size = wx.heap.size := by simp
  have p3 := p2.alloc (.cells #[str [97]] 9)
  have l3 := l2.alloc (.cells #[str [97]] 9)
  have r3 := r2.below ((Below.refl _ _).alloc (Nat.le_refl _) (.cells #[str [97]] 9))
  have b3 := b2.alloc b2.size (.cells #[str [97]] 9)
  have n3 := World.ownsRow_lit (base := w.heap.size + 2) (e := 9) (size := 1) ((wx.setCell ⟨w.heap.size, 2 * k, none⟩ (.int .u8 97)).setCell ⟨w.heap.size, 2 * k + 1, none⟩ (.int .u8 10)) #[str [97]] 1 (by rw [es]; exact hsz) (by decide) rfl
  rw [es] at n3
  have rr := r3.snoc (v := .slice (some ⟨wx.heap.size, 0, none⟩) 1 1) (x := [[97]]) n3
  obtain ⟨l4, g4⟩ := l3.stored k (.slice (some ⟨wx.heap.size, 0, none⟩) 1 1)
  have p4 := p3.kept g4 (Or.inr (by simp [Value.ownBlock]))
  have r4 := rr.kept (u := .slice (some ⟨w.heap.size + 1, 0, none⟩) 0 0) g4 (fun j x hx g hg e => by
    have := rr.ge j x hx g hg
    simp only [Value.ownBlock, Option.some.injEq] at e; omega)
  have b4 := below_grown (v := .slice (some ⟨w.heap.size + 1, 0, none⟩) n n) b3 g4 l3 (Nat.le_refl _) b3.size
  refine ⟨_, _, p4, l4, ?_, ?_, b4, ?_⟩
  · rw [take_set_two (by omega), hpat, pat]
    simp [bytesV]
  · rw [take_set_one (by omega), oneL_succ]
    exact r4
  · have := g4.size
    simp at this ⊢
    omega
set_option maxRecDepth 100000 in
set_option maxHeartbeats 4000000 in
theorem limit_all (n0 : Int) (w : World) (hG : GW w) : Calls Tryd.prog 5 #[.int .i64 n0] w (RetB w true) := by
  by_cases c : n0 < 0
  · have t : decide (n0 < 0) = true := by simp; exact c
    clear c
    go_enter Tryd.func5, Tryd.ntmps5
    go_wp2_with fail
    refine (alive_any _ hG).mono ?_
    rintro e w1 ⟨rfl, b1⟩
    go_wp2
    go_ret
    exact ⟨rfl, b1⟩
  · by_cases c2 : 20000 < n0
    · have t : decide (n0 < 0) = false := by simp; omega
      have t2 : decide (20000 < n0) = true := by simp; exact c2
      clear c c2
      go_enter Tryd.func5, Tryd.ntmps5
      go_wp2_with fail
      refine (alive_any _ hG).mono ?_
      rintro e w1 ⟨rfl, b1⟩
      go_wp2
      go_ret
      exact ⟨rfl, b1⟩
    · obtain ⟨n, rfl⟩ : ∃ n : Nat, n0 = n := ⟨n0.toNat, by omega⟩
      have t : decide ((n : Int) < 0) = false := by simp
      have t2 : decide ((20000 : Int) < (n : Int)) = false := by simp; omega
      have hn : n ≤ 20000 := by omega
      have m1 : ∀ ww : World, (Instr.makeSlice 32 (.int .i64 (2 * (n : Int))) (.int .i64 (2 * (n : Int)))).run Tryd.prog ww = .ok (.slice (some ⟨ww.heap.size, 0, none⟩) (2 * n) (2 * n)) (ww.alloc (.cells (madeCells #[.int .u8 0] (2 * n)) 5)) := by
        intro ww
        have := run_make_row' (P := Tryd.prog) 32 5 (.int .u8 0) 1 Tryd.underlying32 info_u8 rfl .i64 .i64 (2 * n) (by omega) (by omega) ww
        rw [show ((2 * n : Nat) : Int) = 2 * (n : Int) by omega] at this
        exact this
      have m2 : ∀ ww : World, (Instr.makeSlice 23 (.int .i64 (n : Int)) (.int .i64 (n : Int))).run Tryd.prog ww = .ok (.slice (some ⟨ww.heap.size, 0, none⟩) n n) (ww.alloc (.cells (madeCells #[.slice none 0 0] n) 33)) :=
        fun ww => run_make_row' (P := Tryd.prog) 23 33 (.slice none 0 0) 24 Tryd.underlying23 info_strs rfl .i64 .i64 n (by omega) (by omega) ww
      have I0 := Lib.hid (LimI.start w n hn)
      clear c c2
      go_enter Tryd.func5, Tryd.ntmps5
      go_wp2
      go_loopg [5] n (fun g s5 wx => ∃ (k : Nat), s5 = .int .i64 k ∧ k + g = n ∧ Hid (LimI w wx n k))
      case atStart => exact ⟨0, rfl, by omega, I0⟩
      case round =>
        clear I0 m1 m2
        obtain ⟨k, rfl, hg, HI⟩ := hrel
        cases gk with
        | zero =>
          have h : ¬ ((k : Int) < (n : Int)) := by omega
          obtain rfl : k = n := by omega
          obtain ⟨xb, xl, hb, hlr, hpat, hrows, hbw, hsz⟩ := HI.out
          rw [List.take_of_length_le (by have := hb.1; omega)] at hpat
          rw [List.take_of_length_le (by have := hlr.1; omega)] at hrows
          subst hpat
          have HV := Lib.hid (LL.of (RS.own hlr) hrows.rows)
          have hpl := pat_len k
          have hb' : wr.ownsRow w.heap.size 5 1 (.slice (some ⟨w.heap.size, 0, none⟩) (2 * k) (2 * k)) (pat k).length (bytesV (pat k)) := by rw [hpl]; exact hb
          have C1 := conv_own hb'
          have HO := Lib.hid hb'
          have K1 := fun ww hh => lines_any (pat k) ww hh (by omega)
          have K2 := fun v ww hh => join_any v (oneL k) ww hh (oneL_fits (by omega))
          rw [limit_lines] at K1
          rw [limit_join] at K2
          obtain ⟨x, hx⟩ : ∃ x, pat k = x := ⟨_, rfl⟩
          rw [hx] at K1 K2 C1 HO hpl
          have hG' := hG.below hbw
          have HB := hbw
          have HW := Below.refl wr.heap.size wr
          replace hx := Lib.hid hx
          replace hpl := Lib.hid hpl
          clear HI hb hb' hlr hrows hbw h
          have h : ¬ ((k : Int) < (k : Int)) := by omega
          by_cases c : 32768 < 2 * k
          · have t3 : ((32768 : Int) < 2 * (k : Int)) := by omega
            simp only [if_pos c] at K1 K2
            clear c HO
            go_wp2_with fail
            refine (K1 _ hG').mono ?_
            rintro e w1 ⟨v1, rfl, R1, bb⟩
            obtain ⟨a1, c1, rfl, _, _⟩ := R1.open
            replace HV := Lib.hid (HV.out.below bb)
            replace HB := HB.trans (bb.mono HB.size)
            clear bb K1 R1
            go_wp2_with fail
            refine (K2 _ _ HV.out).mono ?_
            rintro e w2 ⟨rfl, bb⟩
            replace HB := HB.trans (bb.mono HB.size)
            clear bb K2 HV
            go_wp2_with fail
            refine (alive_any _ (hG.below HB)).mono ?_
            rintro e w4 ⟨rfl, bb⟩
            replace HB := HB.trans (bb.mono HB.size)
            go_wp2
            go_ret
            exact ⟨rfl, HB⟩
          · have t3 : ¬ ((32768 : Int) < 2 * (k : Int)) := by omega
            simp only [if_neg c] at K1 K2
            clear c
            go_wp2_with fail
            refine (K1 _ hG').mono ?_
            rintro e w1 ⟨v1, rfl, R1, bb⟩
            replace R1 := Lib.hid R1
            replace HV := Lib.hid (HV.out.below bb)
            replace HO := Lib.hid (own_below HO.out bb)
            replace HB := HB.trans (bb.mono HB.size)
            clear bb K1
            go_wp2_with fail
            refine (K2 _ _ HV.out).mono ?_
            rintro e w2 ⟨rfl, bb⟩
            replace R1 := Lib.hid (R1.out.below bb)
            replace HV := Lib.hid (HV.out.below bb)
            replace HO := Lib.hid (own_below HO.out bb)
            replace HB := HB.trans (bb.mono HB.size)
            clear bb K2
            go_wp2_with fail
            refine (same_any _ _ (oneL k) _ R1.out HV.out).mono ?_
            intro e w3 hh
            obtain ⟨rfl, bb⟩ := hh.below
            replace HO := Lib.hid (own_below HO.out bb)
            replace HB := HB.trans (bb.mono HB.size)
            clear bb hh R1 HV
            have C2 := conv_own HO.out
            go_wp2_with fail
            refine (alive_any _ (hG.below HB)).mono ?_
            rintro e w4 ⟨rfl, bb⟩
            replace HB := HB.trans (bb.mono HB.size)
            go_wp2
            go_ret
            exact ⟨rfl, HB⟩
        | succ g =>
          have h : ((k : Int) < (n : Int)) := by omega
          obtain ⟨xb, xl, hb, hlr, hpat, hrows, hbw, hsz⟩ := HI.out
          obtain ⟨ub, hub⟩ : ∃ ub, xb[2 * k]? = some ub := ⟨xb[2 * k]'(by have := hb.1; omega), List.getElem?_eq_getElem _⟩
          obtain ⟨uc, huc⟩ : ∃ uc, xb[2 * k + 1]? = some uc := ⟨xb[2 * k + 1]'(by have := hb.1; omega), List.getElem?_eq_getElem _⟩
          obtain ⟨ul, hul⟩ : ∃ ul, xl[k]? = some ul := ⟨xl[k]'(by have := hlr.1; omega), List.getElem?_eq_getElem _⟩
          have c1 : wr.cell? ⟨w.heap.size, 2 * k, none⟩ = some ub := by rw [hb.cellAt (2 * k) (by omega)]; exact hub
          have c2 : wr.cell? ⟨w.heap.size, 2 * k + 1, none⟩ = some uc := by rw [hb.cellAt (2 * k + 1) (by omega)]; exact huc
          have c3 : wr.cell? ⟨w.heap.size + 1, k, none⟩ = some ul := by rw [hlr.cellAt k (by omega)]; exact hul
          have f1 := hb.frozenAt (2 * k)
          have f2 := hb.frozenAt (2 * k + 1)
          have f3 := hlr.frozenAt k
          have f4 : ((((wr.setCell ⟨w.heap.size, 2 * k, none⟩ (.int .u8 97)).setCell ⟨w.heap.size, 2 * k + 1, none⟩ (.int .u8 10)).alloc (.cells #[str [97]] 9)).frozen? ⟨w.heap.size + 1, k, none⟩) = false := by
            rw [World.frozen?_alloc_old _ _ _ (by simp; omega)]
            simpa using f3
          have c4 : ((((wr.setCell ⟨w.heap.size, 2 * k, none⟩ (.int .u8 97)).setCell ⟨w.heap.size, 2 * k + 1, none⟩ (.int .u8 10)).alloc (.cells #[str [97]] 9)).cell? ⟨w.heap.size + 1, k, none⟩) = some ul := by
            rw [World.cell?_alloc_old _ _ _ (by simp; omega), World.cell?_setCell_other _ _ _ _ (by simp), World.cell?_setCell_other _ _ _ _ (by simp)]
            exact c3
          have N := Lib.hid (HI.out.step (show k < n by omega))
          clear HI hb hlr hpat hrows hbw
          go_wp2
          go_roundg g
          case measure => omega
          case rel => exact ⟨k + 1, by go_num, by omega, N⟩
end Go.Proofs.YtblcigddinmiaaaDoor
