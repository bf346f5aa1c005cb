/- Contract of Join, the program's. Conditions: bounds on the lengths. -/
import Derived.Test.YtblcigddinmiaaaDoorJoin5
namespace Go.Proofs.YtblcigddinmiaaaDoor
open Go.ChangeShapes Go.WideShapes Go.ChangeAt Go.RowKit
/-- A text and an error are handed back; nothing that was there has changed. -/
def RetJ (w : World) (x : L8 × Int) (e : Ending) (w' : World) : Prop := e = .returned (.tuple #[str x.1, .int .i64 x.2]) ∧ Below w.heap.size w w'
set_option maxRecDepth 100000 in
set_option maxHeartbeats 4000000 in
theorem join_any (v : Value) (ll : List (List L8)) (w : World) (hv : LL w v ll) (hF : Fits ll) :
    Calls Tryd.prog 16 #[v] w (RetJ w (joinR ll)) := by
  obtain ⟨a, cap, rfl, hm, HC⟩ := hv.open
  clear hv
  obtain ⟨q, hq⟩ : ∃ q, joinR ll = q := ⟨_, rfl⟩
  rw [hq]
  replace hq := Lib.hid hq
  have HF := Lib.hid hF
  have hll := hF.1
  have htl := tl_le hF
  clear hF
  go_enter Tryd.func16, Tryd.ntmps16
  go_wp2
  go_loopg [4, 14] ll.length (fun g s4 s14 wx => ∃ (k m : Nat), s4 = .int .i64 m ∧ s14 = .int .i64 k ∧ k + g = ll.length ∧ Hid ((ll.take k).all isL = true) ∧ Hid (m = tl (ll.take k)) ∧ m ≤ 1000010000000000 ∧ Below w.heap.size w wx)
  case atStart => exact ⟨0, 0, rfl, rfl, by omega, Lib.hid rfl, Lib.hid rfl, by omega, Below.refl _ _⟩
  case round =>
    obtain ⟨k, m, rfl, rfl, hg, HN, HM, hmb, hbw⟩ := hrel
    have hsz := hbw.size
    cases gk with
    | zero =>
      have h : ¬ ((k : Int) < (ll.length : Int)) := by omega
      have HA := HN.out
      have HT := HM.out
      rw [List.take_of_length_le (by omega)] at HA HT
      clear HN HM
      by_cases c : 32768 < m
      · have t : ((32768 : Int) < (m : Int)) := by omega
        have Q := hq.out
        rw [joinR_long HA (by omega)] at Q
        subst Q
        clear c HA HT
        go_wp2
        go_ret2
        exact ⟨rfl, hbw⟩
      · have t : ¬ ((32768 : Int) < (m : Int)) := by omega
        have Q := hq.out
        rw [joinR_ok HA (by omega)] at Q
        subst Q
        have hsmall : tl ll ≤ 32768 := by omega
        replace HA := Lib.hid HA
        replace HT := Lib.hid HT
        clear c
        have hstart : BInv wr.heap.size (textL (ll.take 0)) (wr.alloc (.cells #[.pointer none, .slice none 0 0] 52)) := Lib.fresh_isBuilder _ _ _
        have hbl : Below w.heap.size w (wr.alloc (.cells #[.pointer none, .slice none 0 0] 52)) := hbw.trans ((Below.refl _ _).alloc hsz _)
        obtain ⟨B, hB⟩ : ∃ B, wr.heap.size = B := ⟨_, rfl⟩
        rw [hB] at hstart hsz
        replace hstart := Lib.hid hstart
        have hBs : B ≤ (wr.alloc (.cells #[.pointer none, .slice none 0 0] 52)).heap.size := by rw [← hB]; simp
        go_wp2
        go_loopg [38] ll.length (fun g2 s38 wx => ∃ (j : Nat), s38 = .int .i64 j ∧ j + g2 = ll.length ∧ Hid (BInv B (textL (ll.take j)) wx) ∧ Below w.heap.size w wx ∧ B ≤ wx.heap.size)
        case atStart => exact ⟨0, rfl, by omega, hstart, hbl, hBs⟩
        case round =>
          clear hstart hbl hBs hB hbw
          obtain ⟨j, rfl, hg2, HB, hbw, hBs⟩ := hrel
          have hsz2 := hbw.size
          cases gk with
          | zero =>
            have hj : ¬ ((j : Int) < (ll.length : Int)) := by omega
            have HB' := HB.out
            rw [List.take_of_length_le (by omega)] at HB'
            have S := Tryd.Builder_String_any B B (textL ll) wr HB' hBs
            replace HB' := Lib.hid HB'
            clear HB
            go_wp2_with (go_at_call 36; refine S.mono ?_; rintro e w3 ⟨rfl, bb⟩)
            go_ret2
            exact ⟨rfl, hbw.trans (bb.mono hsz)⟩
          | succ g2 =>
            have hj : ((j : Int) < (ll.length : Int)) := by omega
            obtain ⟨y, hy, htk, hmem⟩ := at_take (l := ll) (k := j) (by omega)
            obtain ⟨b1, o1, x1, rfl, _, c1, r1⟩ := HC.out.rd hbw hy
            obtain ⟨hyl, hys⟩ := HF.out.2 y hmem
            have hyL := List.all_eq_true.1 HA.out y hmem
            have h1 : wl y ≤ 32768 := by
              have e := tl_snoc (ll.take j) y
              rw [← htk] at e
              have := take_le_tl (y := ll) (j + 1)
              omega
            have h2 := join_len 32 (isL_pos hyL)
            have h3 : (textL (ll.take j)).length ≤ 32768 := by
              rw [textL_len (ll.take j) (List.all_eq_true.2 fun z hz => List.all_eq_true.1 HA.out z (List.mem_of_mem_take hz))]
              have := take_le_tl (y := ll) j
              omega
            have J := sjoin_any 32 x1 y wr r1 hyl (by omega)
            have T := Lib.hid (show (textL (ll.take j) ++ Lib.join y [32]) ++ [10] = textL (ll.take (j + 1)) by rw [htk, textL_snoc, lineT, List.append_assoc])
            obtain ⟨jt, hjt⟩ : ∃ jt, Lib.join y [32] = jt := ⟨_, rfl⟩
            obtain ⟨acc, hacc⟩ : ∃ acc, textL (ll.take j) = acc := ⟨_, rfl⟩
            rw [hjt] at J T h2
            rw [hacc] at T h3 HB
            obtain ⟨a2, f2, rfl, _, _⟩ := r1.openS
            clear r1
            replace hyL := Lib.hid hyL
            replace hys := Lib.hid hys
            replace hy := Lib.hid hy
            replace htk := Lib.hid htk
            replace hjt := Lib.hid hjt
            replace hacc := Lib.hid hacc
            have hsz0 := hsz
            replace hsz := Lib.hid hsz
            go_wp2_with (first
              | (go_at_call 35; refine J.mono ?_; rintro e w3 ⟨rfl, b3⟩; have HBc := HB.out.below b3; have hsc := Nat.le_trans hBs b3.size; have hbc := hbw.trans (b3.mono hsz2); clear b3)
              | (go_at_call 34; refine (write_any B _ _ _ HBc (by first | omega | (simp; omega)) hsc).mono ?_; rintro e w4 ⟨rfl, HBn, bn⟩; replace hbc := hbc.trans (bn.mono hsz0); replace hsc := Nat.le_trans hsc bn.size; clear bn; replace HBc := HBn; clear HBn))
            go_roundg g2
            case measure => omega
            case rel => exact ⟨j + 1, by go_num, by omega, Lib.hid (by rw [← T.out]; exact HBc), hbc, hsc⟩
    | succ g =>
      have h : ((k : Int) < (ll.length : Int)) := by omega
      obtain ⟨y, hy, htk, hmem⟩ := at_take (l := ll) (k := k) (by omega)
      obtain ⟨b1, o1, x1, rfl, _, c1, r1⟩ := HC.out.rd hbw hy
      obtain ⟨hyl, hys⟩ := HF.out.2 y hmem
      have K := isLine_any x1 y wr r1 hys
      obtain ⟨a2, f2, rfl, ⟨hm2, _⟩, HD⟩ := r1.openS
      clear r1
      cases hi : isL y with
      | false =>
        rw [hi] at K
        have Q := hq.out
        rw [joinR_bad (allL_bad hy hi)] at Q
        subst Q
        replace hi := Lib.hid hi
        replace hy := Lib.hid hy
        replace htk := Lib.hid htk
        clear HN
        go_wp2_with (go_at_call 31; refine K.mono ?_; rintro e w1 ⟨rfl, bb⟩)
        go_ret2
        exact ⟨rfl, hbw.trans (bb.mono hsz)⟩
      | true =>
        rw [hi] at K
        have N := Lib.hid (all_takeL hy HN.out hi)
        have T := Lib.hid (show tl (ll.take k) + wl y = tl (ll.take (k + 1)) by rw [htk, tl_snoc])
        have hle : tl (ll.take (k + 1)) ≤ 1000010000000000 := Nat.le_trans (take_le_tl _) htl
        have hle2 : m + wl y ≤ 1000010000000000 := by rw [HM.out, T.out]; exact hle
        replace hi := Lib.hid hi
        replace hy := Lib.hid hy
        replace htk := Lib.hid htk
        replace hys := Lib.hid hys
        clear HN hle
        go_wp2_with (go_at_call 31; refine K.mono ?_; rintro e w1 ⟨rfl, bb⟩)
        go_loopg [4, 23] y.length (fun g2 s4 s23 wx => ∃ (j m2 : Nat), s4 = .int .i64 m2 ∧ s23 = .int .i64 j ∧ j + g2 = y.length ∧ Hid (m2 = m + wl (y.take j)) ∧ m2 ≤ 1000010000000000 ∧ wx = w1)
        case atStart => exact ⟨0, m, rfl, rfl, by omega, Lib.hid rfl, by omega, rfl⟩
        case round =>
          obtain ⟨j, m2, rfl, rfl, hg2, HM2, hmb2, rfl⟩ := hrel
          cases gk with
          | zero =>
            have hk : ¬ ((j : Int) < (y.length : Int)) := by omega
            have E := Lib.hid (show m2 = tl (ll.take (k + 1)) by
              have := HM2.out
              rw [List.take_of_length_le (by omega)] at this
              rw [this, HM.out, T.out])
            clear HM2
            go_wp2
            go_roundg g
            case measure => omega
            case rel => exact ⟨k + 1, m2, rfl, by go_num, by omega, N, E, hmb2, hbw.trans (bb.mono hsz)⟩
          | succ g2 =>
            have hk : ((j : Int) < (y.length : Int)) := by omega
            obtain ⟨z, hz, htz, hmz⟩ := at_take (l := y) (k := j) (by omega)
            obtain ⟨b3, o3, rfl, _, c3⟩ := HD.out.rd bb hz
            have hzl := hys.out z hmz
            have E := Lib.hid (show m2 + (z.length + 1) = m + wl (y.take (j + 1)) by rw [HM2.out, htz, wl_snoc]; omega)
            have hb2 : m2 + (z.length + 1) ≤ 1000010000000000 := by
              have := E.out
              have h5 := take_le_wl (y := y) (j + 1)
              omega
            replace hz := Lib.hid hz
            replace htz := Lib.hid htz
            clear HM2
            go_wp2
            go_roundg g2
            case measure => omega
            case rel => exact ⟨j + 1, m2 + (z.length + 1), by go_num, by go_num, by omega, E, hb2, rfl⟩
end Go.Proofs.YtblcigddinmiaaaDoor
