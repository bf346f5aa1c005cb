/- Contracts of FormatList, the program's and the reference's. Conditions: bounds on the lengths; what the library reads (GW). -/
import Derived.Test.YtblcigddinmiaaaDoorRlist5
namespace Go.Proofs.YtblcigddinmiaaaDoor
open Go.ChangeShapes Go.WideShapes Go.ChangeAt Go.RowKit
def Ints (l : List Int) : Prop := ∀ n ∈ l, -9223372036854775808 ≤ n ∧ n ≤ 9223372036854775807
def itoas (l : List Int) : List L8 := l.map Lib.itoa
theorem itoas_len (l : List Int) : (itoas l).length = l.length := by simp [itoas]
theorem itoas_le {l : List Int} (h : Ints l) : wl (itoas l) ≤ l.length * 21 := by
  have := wl_le (y := itoas l) (m := l.length) (n := 20) (by rw [itoas_len]; exact Nat.le_refl _) (fun s hs => by
    obtain ⟨n, hn, rfl⟩ := List.mem_map.1 hs
    exact (itoa_len n (h n hn)).1)
  exact this
theorem formL_of {l : List Int} (h : ¬ l.length = 0) : formL l = Lib.join (itoas l) [44] := by
  rw [formL, if_neg (by intro e; subst e; exact h rfl)]; rfl
theorem itoas_take {l : List Int} {k : Nat} {n : Int} (h : l[k]? = some n) : itoas (l.take (k + 1)) = itoas (l.take k) ++ [Lib.itoa n] := by
  obtain ⟨h1, h2⟩ := List.getElem?_eq_some_iff.1 h
  rw [List.take_succ_eq_append_getElem h1, h2]; simp [itoas]
set_option maxRecDepth 100000 in
set_option maxHeartbeats 2000000 in
theorem formatList_any (v : Value) (l : List Int) (w : World) (hr : RS w v (intsV l)) (hG : GW w) (hl : l.length ≤ 100000) (hb : Ints l) :
    Calls Tryd.prog 27 #[v] w (RetV w (str (formL l))) := by
  obtain ⟨a, cap, rfl, hm, HC⟩ := hr.open
  clear hr
  by_cases h0 : l.length = 0
  · obtain rfl : l = [] := List.length_eq_zero_iff.1 h0
    have e : formL [] = [45] := rfl
    rw [e]
    go_enter Tryd.func27, Tryd.ntmps27
    go_wp2
    go_ret
    exact ⟨rfl, Below.refl _ _⟩
  · have e0 : ((l.length : Int) == 0) = false := by rw [← Bool.not_eq_true]; intro e; exact h0 (by have := eq_of_beq e; omega)
    rw [formL_of h0]
    have hwl := itoas_le hb
    obtain ⟨q, hq⟩ : ∃ q, Lib.join (itoas l) [44] = q := ⟨_, rfl⟩
    rw [hq]
    replace hq := Lib.hid hq
    replace hb := Lib.hid hb
    replace h0 := Lib.hid h0
    go_enter Tryd.func27, Tryd.ntmps27
    go_wp2
    go_loopg [3, 11] l.length (fun g s3 s11 wx => ∃ (k : Nat) (fs : List L8), s11 = .int .i64 k ∧ k + g = l.length ∧ fs.length = k ∧ wx.ownsRow w.heap.size 9 1 s3 fs.length (strsV fs) ∧ Hid (fs = itoas (l.take k)) ∧ Below w.heap.size w wx)
    case atStart => exact ⟨0, [], rfl, by omega, rfl, World.ownsRow_nil _ _ _ _, Lib.hid rfl, Below.refl _ _⟩
    case round =>
      obtain ⟨k, fs, rfl, hg, hfl, ho, HN, hbw⟩ := hrel
      have hsz := hbw.size
      cases gk with
      | zero =>
        have h : ¬ ((k : Int) < (l.length : Int)) := by omega
        have E := HN.out
        rw [List.take_of_length_le (by omega)] at E
        have J := sjoin_any 44 u3 fs wr (RS.own ho) (by omega) (by rw [E]; have := join_le 44 (itoas l); omega)
        have E2 := Lib.hid (show Lib.join fs [44] = q by rw [E, hq.out])
        obtain ⟨a3, c3, rfl⟩ := own_slice ho
        replace hfl := Lib.hid hfl
        replace E := Lib.hid E
        clear HN ho
        go_wp2_with (go_at_call 35; refine J.mono ?_; rintro e w1 ⟨rfl, b1⟩)
        go_ret
        refine ⟨?_, hbw.trans (b1.mono hsz)⟩
        rw [← E2.out]; rfl
      | succ g =>
        have h : ((k : Int) < (l.length : Int)) := by omega
        obtain ⟨n, hn, _, hmem⟩ := at_take (l := l) (k := k) (by omega)
        obtain ⟨b, off, rfl, hlt, hcell⟩ := HC.out.rd hbw hn
        have K := format_any n wr (hb.out n hmem) (hG.below hbw)
        have N := Lib.hid (show fs ++ [Lib.itoa n] = itoas (l.take (k + 1)) by rw [itoas_take hn, HN.out])
        obtain ⟨x, hx⟩ : ∃ x, Lib.itoa n = x := ⟨_, rfl⟩
        rw [hx] at K N
        have hfl2 : fs.length ≤ 100001 := by omega
        replace hx := Lib.hid hx
        replace hn := Lib.hid hn
        replace hfl := Lib.hid hfl
        clear HN
        go_wp2_with (first
          | (go_at_call 20; refine K.mono ?_; rintro e w2 ⟨rfl, b2⟩; have ho2 := own_below ho b2; have hbw2 := hbw.trans (b2.mono hsz); have hsz2 := hbw2.size; clear ho)
          | (at_builtin
             refine wpList_push _ rfl _ _ 33 rfl w.heap.size 9 (.string ByteArray.empty) 1 16 Tryd.underlying33 info_str rfl (by omega) u3 fs.length _ rfl ho2 [str x] rfl rfl (one_str x) (by omega) (by omega) hsz2 ?_
             intro v3 w3 p3 gr3 nb3
             have hbw3 := below_grown hbw2 gr3 ho2 (Nat.le_refl _) hsz2
             replace p3 := Lib.hid p3
             clear nb3 gr3))
        go_roundg g
        case measure => omega
        case rel => exact ⟨k + 1, fs ++ [x], by go_num, by omega, by have := hfl.out; simp; omega, by rw [strsV_snoc, List.length_append]; exact p3.out, N, hbw3⟩
set_option maxRecDepth 100000 in
set_option maxHeartbeats 2000000 in
theorem rformatList_any (v : Value) (l : List Int) (w : World) (hr : RS w v (intsV l)) (hl : l.length ≤ 100000) (hb : Ints l) :
    Calls Tryd.prog 28 #[v] w fun e w' => e = .returned (str (formL l)) ∧ w = w' := by
  obtain ⟨a, cap, rfl, hm, HC⟩ := hr.open
  clear hr
  by_cases h0 : l.length = 0
  · obtain rfl : l = [] := List.length_eq_zero_iff.1 h0
    have e : formL [] = [45] := rfl
    rw [e]
    go_enter Tryd.func28, Tryd.ntmps28
    go_wp2
    go_ret
    exact ⟨rfl, rfl⟩
  · have e0 : ((l.length : Int) == 0) = false := by rw [← Bool.not_eq_true]; intro e; exact h0 (by have := eq_of_beq e; omega)
    rw [formL_of h0]
    have hwl := itoas_le hb
    obtain ⟨q, hq⟩ : ∃ q, Lib.join (itoas l) [44] = q := ⟨_, rfl⟩
    rw [hq]
    replace hq := Lib.hid hq
    replace hb := Lib.hid hb
    replace h0 := Lib.hid h0
    go_enter Tryd.func28, Tryd.ntmps28
    go_wp2
    go_loopg [3, 4] l.length (fun g s3 s4 wx => ∃ (k : Nat) (u : L8), s3 = str u ∧ s4 = .int .i64 k ∧ k + g = l.length ∧ Hid (u = Lib.join (itoas (l.take k)) [44]) ∧ w = wx)
    case atStart => exact ⟨0, [], rfl, rfl, by omega, Lib.hid rfl, rfl⟩
    case round =>
      obtain ⟨k, u, rfl, rfl, hg, HN, rfl⟩ := hrel
      have hul : u.length ≤ 3000000 := by
        rw [HN.out]
        have h1 := join_le 44 (itoas (l.take k))
        have h2 := itoas_le (l := l.take k) (fun n hn => hb.out n (List.mem_of_mem_take hn))
        have h3 : (l.take k).length ≤ 100000 := by simp; omega
        omega
      cases gk with
      | zero =>
        have h : ¬ ((k : Int) < (l.length : Int)) := by omega
        have E := HN.out
        rw [List.take_of_length_le (by omega), hq.out] at E
        subst E
        clear HN
        go_wp2
        go_ret
        exact ⟨rfl, rfl⟩
      | succ g =>
        have h : ((k : Int) < (l.length : Int)) := by omega
        obtain ⟨n, hn, _, hmem⟩ := at_take (l := l) (k := k) (by omega)
        obtain ⟨b, off, rfl, hlt, hcell⟩ := HC.out.rd (Below.refl _ _) hn
        have K := fun ww => rformat_any n ww (hb.out n hmem)
        have hxl := (itoa_len n (hb.out n hmem)).1
        have T := itoas_take hn
        obtain ⟨x, hx⟩ : ∃ x, Lib.itoa n = x := ⟨_, rfl⟩
        rw [hx] at T hxl
        simp only [hx] at K
        replace hx := Lib.hid hx
        replace hn := Lib.hid hn
        by_cases hk0 : k = 0
        · have hkz : ¬ ((0 : Int) < (k : Int)) := by omega
          have A := add_any u x (by omega)
          have N := Lib.hid (show u ++ x = Lib.join (itoas (l.take (k + 1))) [44] by
            rw [T, HN.out, hk0, List.take_zero]
            simp [itoas, Lib.join_nil, Lib.join_one])
          clear HN hk0 T
          go_wp2_with (go_at_call 21; refine (K _).mono ?_; rintro e w2 ⟨rfl, rfl⟩)
          go_roundg g
          case measure => omega
          case rel => exact ⟨k + 1, u ++ x, rfl, by go_num, by omega, N, rfl⟩
        · have hkp : ((0 : Int) < (k : Int)) := by omega
          have hkn : 0 < k := by omega
          have A1 := add_any u [44] (by simp; omega)
          have N := show (u ++ [44]) ++ x = Lib.join (itoas (l.take (k + 1))) [44] by
            have hne : itoas (l.take k) ≠ [] := by
              intro e
              have := congrArg List.length e
              rw [itoas_len, List.length_take, List.length_nil] at this; omega
            rw [T, join_snoc 44 _ _ hne, HN.out]
          have hu1 : (u ++ [44]).length ≤ 3000001 := by simp; omega
          obtain ⟨u1, hu⟩ : ∃ u1, u ++ [44] = u1 := ⟨_, rfl⟩
          rw [hu] at A1 N hu1
          have A2 := add_any u1 x (by omega)
          replace hu := Lib.hid hu
          replace N := Lib.hid N
          clear HN hk0 T
          go_wp2_with (go_at_call 21; refine (K _).mono ?_; rintro e w2 ⟨rfl, rfl⟩)
          go_roundg g
          case measure => omega
          case rel => exact ⟨k + 1, u1 ++ x, rfl, by go_num, by omega, N, rfl⟩
end Go.Proofs.YtblcigddinmiaaaDoor
