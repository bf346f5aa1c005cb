/- Contracts of the readers and writers of lists. Conditions: as stated. -/
import Derived.Test.YtemhfhfbhdkedaaText3
namespace Go.Proofs.Ytemhfhfbhdkedaa
open Go.ChangeShapes Go.WideShapes Go.ChangeAt Go.RowKit
def listOf : DR (List Int × Int) → List Int
  | .ok (xs, _) => xs
  | .err _ => []
def toOf : DR (List Int × Int) → Int
  | .ok (_, t) => t
  | .err _ => 0
def errOf : DR (List Int × Int) → Int
  | .ok _ => 0
  | .err e => e
def RetX (w : World) (r : DR (List Int × Int)) (e : Ending) (w' : World) : Prop := ∃ v, e = .returned (.tuple #[v, .int .i64 (toOf r), .int .i64 (errOf r)]) ∧ RS w' v (intsV (listOf r)) ∧ Below w.heap.size w w'
/-- The invariant of a reader of a list: xs has been read, c are left, t is the offset. -/
def NInv (l : List UInt8) (r : DR (List Int × Int)) (c : Nat) (t : Int) (xs : List Int) : Prop :=
  0 ≤ t ∧ t ≤ l.length ∧ r = match tN l c t with | .ok (ys, t2) => .ok (xs ++ ys, t2) | .err e => .err e
theorem NInv.start {l : List UInt8} {c : Nat} {t : Int} (h1 : 0 ≤ t) (h2 : t ≤ l.length) : NInv l (tN l c t) c t [] := by
  refine ⟨h1, h2, ?_⟩
  cases tN l c t with
  | ok x => rfl
  | err e => rfl
theorem NInv.last {l : List UInt8} {r : DR (List Int × Int)} {t : Int} {xs : List Int} (h : NInv l r 0 t xs) : r = .ok (xs, t) := by
  rw [h.2.2]; simp [tN]
theorem NInv.bad {l : List UInt8} {r : DR (List Int × Int)} {c : Nat} {t e : Int} {xs : List Int} (h : NInv l r (c + 1) t xs) (he : tI l t = .err e) : r = .err e := by
  rw [h.2.2, tN, he]
theorem NInv.next {l : List UInt8} {r : DR (List Int × Int)} {c : Nat} {t t1 n : Int} {xs : List Int} (h : NInv l r (c + 1) t xs) (he : tI l t = .ok (n, t1)) : NInv l r c t1 (xs ++ [n]) := by
  obtain ⟨h1, h2, h3⟩ := h
  obtain ⟨g1, g2, g3, _⟩ := tI_ok he
  refine ⟨by omega, g3, ?_⟩
  rw [h3, tN, he]
  simp only
  cases tN l c t1 with
  | ok x => simp
  | err e => rfl
theorem intsV_snoc (l : List Int) (n : Int) : intsV (l ++ [n]) = intsV l ++ [.int .i64 n] := by simp [intsV]
set_option maxRecDepth 100000 in
set_option maxHeartbeats 1000000 in
theorem takeInts_any (l : List UInt8) (at_ most : Int) (w : World) (hl : l.length ≤ 100000) (ha : In64 at_) (hm : In64 most) :
    Calls Try.prog 32 #[str l, .int .i64 at_, .int .i64 most] w (RetX w (tL l at_ most)) := by
  have K := takeCount_any l at_ most w (by omega) ha hm
  cases h : tC l at_ most with
  | ok x =>
    obtain ⟨n, t⟩ := x
    rw [h] at K
    obtain ⟨g1, g2, g3⟩ := tC_ok h
    obtain ⟨f1, f2, f3, f4, f5⟩ := tU_ok g1
    have hn : n ≤ 100000 := by omega
    obtain ⟨r, hr⟩ : ∃ r, tL l at_ most = r := ⟨_, rfl⟩
    have S : NInv l r n t [] := by
      have := NInv.start (l := l) (c := n) (t := t) (by omega) f3
      rw [show tN l n t = r by rw [← hr, tL, h]] at this
      exact this
    rw [hr]
    replace S := Lib.hid S
    replace hr := Lib.hid hr
    replace h := Lib.hid h
    clear f4 f5 f1 f2 g1 g2 g3
    go_enter Try.func32, Try.ntmps32
    go_wp2_with fail
    refine K.mono ?_
    rintro e w' ⟨rfl, rfl⟩
    simp only [outC]
    clear K
    go_wp2
    go_loopg [10, 12, 26] n (fun g s10 s12 s26 wx => ∃ (k : Nat) (tt : Int) (xs : List Int), s10 = .int .i64 tt ∧ s26 = .int .i64 k ∧ k + g = n ∧ xs.length = k ∧ wx.ownsRow w.heap.size 3 1 s12 xs.length (intsV xs) ∧ Hid (NInv l r g tt xs) ∧ Below w.heap.size w wx)
    case atStart => exact ⟨0, t, [], rfl, rfl, by omega, rfl, World.ownsRow_nil _ _ _ _, S, Below.refl _ _⟩
    case round =>
      clear S
      obtain ⟨k, tt, xs, rfl, rfl, hg, hx, ho, HN, hbw⟩ := hrel
      have hsz := hbw.size
      cases gk with
      | zero =>
        have hz : ¬ ((k : Int) < (n : Int)) := by omega
        have E := Lib.hid HN.out.last
        replace hx := Lib.hid hx
        replace hg := Lib.hid hg
        go_wp2
        go_ret3
        rw [E.out]
        exact ⟨_, rfl, RS.own ho, hbw⟩
      | succ g =>
        have hz : ((k : Int) < (n : Int)) := by omega
        have t1 := HN.out.1
        have t2 := HN.out.2.1
        have T := takeInt_any l tt wr (by omega) ⟨by omega, by omega⟩
        have hxl : xs.length ≤ 100000 := by omega
        replace hx := Lib.hid hx
        replace hg := Lib.hid hg
        cases hi : tI l tt with
        | err e =>
          rw [hi] at T
          have E := Lib.hid (HN.out.bad hi)
          have hne := ne_flag (tI_err hi)
          replace hi := Lib.hid hi
          go_wp2_with fail
          refine T.mono ?_
          rintro e w' ⟨rfl, rfl⟩
          simp only [outI]
          go_wp2
          go_ret3
          rw [E.out]
          exact ⟨_, rfl, RS.nil _ _ _, hbw⟩
        | ok y =>
          obtain ⟨v, t3⟩ := y
          rw [hi] at T
          have N := Lib.hid (HN.out.next hi)
          replace hi := Lib.hid hi
          go_wp2_with fail
          refine T.mono ?_
          rintro e w' ⟨rfl, rfl⟩
          simp only [outI]
          go_wp2_with (at_builtin
                       refine wpList_push _ rfl _ _ 23 rfl w.heap.size 3 (.int .i64 0) 1 8 Try.underlying23 info_int rfl (by omega) u12 xs.length _ rfl ho [.int .i64 v] rfl rfl (by simp [Value.oneCell']) (by omega) (by omega) hsz ?_
                       intro v1 w1 p1 gr1 nb1
                       have bw1 := below_grown hbw gr1 ho (Nat.le_refl _) hsz
                       replace p1 := Lib.hid p1
                       clear nb1 gr1 ho)
          go_roundg g
          case measure => omega
          case rel => exact ⟨k + 1, t3, xs ++ [v], rfl, by go_num, by have := hg.out; omega, by have := hx.out; simp; omega, by rw [intsV_snoc, List.length_append]; exact p1.out, N, bw1⟩
  | err e =>
    rw [h] at K
    have E := Lib.hid (show tL l at_ most = .err e by rw [tL, h])
    have hne := ne_flag (tC_err h)
    replace h := Lib.hid h
    go_enter Try.func32, Try.ntmps32
    go_wp2_with fail
    refine K.mono ?_
    rintro e w' ⟨rfl, rfl⟩
    simp only [outC]
    go_wp2
    go_ret3
    rw [E.out]
    exact ⟨_, rfl, RS.nil _ _ _, Below.refl _ _⟩
set_option maxRecDepth 100000 in
set_option maxHeartbeats 1000000 in
theorem rtakeInts_any (l : List UInt8) (at_ most : Int) (w : World) (hl : l.length ≤ 100000) (ha : In64 at_) (hm : In64 most) :
    Calls Try.prog 33 #[str l, .int .i64 at_, .int .i64 most] w (RetX w (tL l at_ most)) := by
  have K := rtakeCount_any l at_ most w (by omega) ha hm
  cases h : tC l at_ most with
  | ok x =>
    obtain ⟨n, t⟩ := x
    rw [h] at K
    obtain ⟨g1, g2, g3⟩ := tC_ok h
    obtain ⟨f1, f2, f3, f4, f5⟩ := tU_ok g1
    have hn : n ≤ 100000 := by omega
    obtain ⟨r, hr⟩ : ∃ r, tL l at_ most = r := ⟨_, rfl⟩
    have S : NInv l r n t [] := by
      have := NInv.start (l := l) (c := n) (t := t) (by omega) f3
      rw [show tN l n t = r by rw [← hr, tL, h]] at this
      exact this
    rw [hr]
    replace S := Lib.hid S
    replace hr := Lib.hid hr
    replace h := Lib.hid h
    clear f4 f5 f1 f2 g1 g2 g3
    go_enter Try.func33, Try.ntmps33
    go_wp2_with fail
    refine K.mono ?_
    rintro e w' ⟨rfl, rfl⟩
    simp only [outC]
    clear K
    go_wp2
    go_loopg [10, 12, 13] n (fun g s10 s12 s13 wx => ∃ (k : Nat) (tt : Int) (xs : List Int), s10 = .int .i64 tt ∧ s13 = .int .i64 k ∧ k + g = n ∧ xs.length = k ∧ wx.ownsRow w.heap.size 3 1 s12 xs.length (intsV xs) ∧ Hid (NInv l r g tt xs) ∧ Below w.heap.size w wx)
    case atStart => exact ⟨0, t, [], rfl, rfl, by omega, rfl, World.ownsRow_nil _ _ _ _, S, Below.refl _ _⟩
    case round =>
      clear S
      obtain ⟨k, tt, xs, rfl, rfl, hg, hx, ho, HN, hbw⟩ := hrel
      have hsz := hbw.size
      cases gk with
      | zero =>
        have hz : ¬ ((k : Int) < (n : Int)) := by omega
        have E := Lib.hid HN.out.last
        replace hx := Lib.hid hx
        replace hg := Lib.hid hg
        go_wp2
        go_ret3
        rw [E.out]
        exact ⟨_, rfl, RS.own ho, hbw⟩
      | succ g =>
        have hz : ((k : Int) < (n : Int)) := by omega
        have t1 := HN.out.1
        have t2 := HN.out.2.1
        have T := rtakeInt_any l tt wr (by omega) ⟨by omega, by omega⟩
        have hxl : xs.length ≤ 100000 := by omega
        replace hx := Lib.hid hx
        replace hg := Lib.hid hg
        cases hi : tI l tt with
        | err e =>
          rw [hi] at T
          have E := Lib.hid (HN.out.bad hi)
          have hne := ne_flag (tI_err hi)
          replace hi := Lib.hid hi
          go_wp2_with fail
          refine T.mono ?_
          rintro e w' ⟨rfl, rfl⟩
          simp only [outI]
          go_wp2
          go_ret3
          rw [E.out]
          exact ⟨_, rfl, RS.nil _ _ _, hbw⟩
        | ok y =>
          obtain ⟨v, t3⟩ := y
          rw [hi] at T
          have N := Lib.hid (HN.out.next hi)
          replace hi := Lib.hid hi
          go_wp2_with fail
          refine T.mono ?_
          rintro e w' ⟨rfl, rfl⟩
          simp only [outI]
          go_wp2_with (at_builtin
                       refine wpList_push _ rfl _ _ 23 rfl w.heap.size 3 (.int .i64 0) 1 8 Try.underlying23 info_int rfl (by omega) u12 xs.length _ rfl ho [.int .i64 v] rfl rfl (by simp [Value.oneCell']) (by omega) (by omega) hsz ?_
                       intro v1 w1 p1 gr1 nb1
                       have bw1 := below_grown hbw gr1 ho (Nat.le_refl _) hsz
                       replace p1 := Lib.hid p1
                       clear nb1 gr1 ho)
          go_roundg g
          case measure => omega
          case rel => exact ⟨k + 1, t3, xs ++ [v], rfl, by go_num, by have := hg.out; omega, by have := hx.out; simp; omega, by rw [intsV_snoc, List.length_append]; exact p1.out, N, bw1⟩
  | err e =>
    rw [h] at K
    have E := Lib.hid (show tL l at_ most = .err e by rw [tL, h])
    have hne := ne_flag (tC_err h)
    replace h := Lib.hid h
    go_enter Try.func33, Try.ntmps33
    go_wp2_with fail
    refine K.mono ?_
    rintro e w' ⟨rfl, rfl⟩
    simp only [outC]
    go_wp2
    go_ret3
    rw [E.out]
    exact ⟨_, rfl, RS.nil _ _ _, Below.refl _ _⟩
theorem encs_snoc (l : List Int) (n : Int) : encs (l ++ [n]) = encs l ++ encI n := by simp [encs]
theorem encs_take {l : List Int} {k : Nat} {y : Int} (h : l.take (k + 1) = l.take k ++ [y]) : enc l.length ++ encs (l.take (k + 1)) = (enc l.length ++ encs (l.take k)) ++ encI y := by
  rw [h, encs_snoc, List.append_assoc]
theorem encs_cap {l : List Int} (hx : ∀ n ∈ l, In64 n) (k : Nat) (hl : l.length ≤ 2000) : (enc l.length ++ encs (l.take k)).length ≤ 30000 ∧ 0 < (enc l.length ++ encs (l.take k)).length := by
  have h1 := enc_ten (n := l.length) (by omega)
  have h2 := (encs_len (l.take k) fun n hn => hx n (List.mem_of_mem_take hn)).2
  have h3 := List.length_take_le k l
  have h4 := List.length_take_le' k l
  have h5 := enc_pos l.length
  rw [List.length_append]; omega
set_option maxRecDepth 100000 in
set_option maxHeartbeats 1000000 in
theorem ints_any (v : Value) (l : List Int) (w : World) (hv : RS w v (intsV l)) (hl : l.length ≤ 2000) (hx : ∀ n ∈ l, In64 n) :
    Calls Try.prog 20 #[v] w (RetV w (str (encL l))) := by
  obtain ⟨a, cap, rfl, hm, HC⟩ := hv.open
  clear hv
  have K := appendUint_any (.slice none 0 0) [] l.length w w.heap.size (by omega) (by simp) (Nat.le_refl _) (World.ownsRow_nil _ _ _ _)
  have hcap := Lib.hid (encs_cap hx)
  replace hx := Lib.hid hx
  go_enter Try.func20, Try.ntmps20
  go_wp2_with fail
  refine K.mono ?_
  rintro e w1 ⟨v1, rfl, ho, hb⟩
  clear K
  replace ho := Lib.hid ho
  go_wp2
  go_loopg [3, 12] l.length (fun g s3 s12 wx => ∃ (k : Nat), s12 = .int .i64 k ∧ k + g = l.length ∧ wx.ownsRow w.heap.size 5 1 s3 (enc l.length ++ encs (l.take k)).length (bytesV (enc l.length ++ encs (l.take k))) ∧ Below w.heap.size w wx)
  case atStart => exact ⟨0, rfl, by omega, by simpa [encs] using ho.out, hb⟩
  case round =>
    clear ho hb
    obtain ⟨k, rfl, hg, ho, hbw⟩ := hrel
    have hsz := hbw.size
    cases gk with
    | zero =>
      have hz : ¬ ((k : Int) < (l.length : Int)) := by omega
      have R := run_string_own (P := Try.prog) 52 9 5 Try.underlying52 Try.underlying5 Try.underlying9 ho (hcap.out k hl).2
      rw [List.take_of_length_le (by omega)] at R
      replace ho := Lib.hid ho
      replace hg := Lib.hid hg
      go_wp2
      go_ret
      exact ⟨rfl, hbw⟩
    | succ g =>
      have hz : ((k : Int) < (l.length : Int)) := by omega
      obtain ⟨y, hy, ht, hmem⟩ := at_take (l := l) (k := k) (by omega)
      obtain ⟨b1, o1, rfl, _, c1⟩ := HC.out.rd hbw hy
      obtain ⟨y1, y2⟩ := hx.out y hmem
      have F := fold_any y wr y1 y2
      have A := appendUint_any u3 (enc l.length ++ encs (l.take k)) (zig y) wr w.heap.size (zig_lt y1 y2) (by have := (hcap.out k hl).1; omega) hsz ho
      replace hg := Lib.hid hg
      replace hy := Lib.hid hy
      replace ht := Lib.hid ht
      replace hmem := Lib.hid hmem
      replace ho := Lib.hid ho
      go_wp2_with fail
      refine F.mono ?_
      rintro e w' ⟨rfl, rfl⟩
      go_wp2_with fail
      refine A.mono ?_
      rintro e w2 ⟨v2, rfl, ho2, hb2⟩
      clear A F c1
      replace ho2 := Lib.hid ho2
      go_wp2
      go_roundg g
      case measure => omega
      case rel => exact ⟨k + 1, by go_num, by have := hg.out; omega, by rw [encs_take ht.out]; exact ho2.out, hbw.trans hb2⟩
set_option maxRecDepth 100000 in
set_option maxHeartbeats 1000000 in
theorem rints_any (v : Value) (l : List Int) (w : World) (hv : RS w v (intsV l)) (hl : l.length ≤ 2000) (hx : ∀ n ∈ l, In64 n) :
    Calls Try.prog 21 #[v] w (RetV w (str (encL l))) := by
  obtain ⟨a, cap, rfl, hm, HC⟩ := hv.open
  clear hv
  have K := ruint_any l.length w (by omega)
  have hcap := Lib.hid (encs_cap hx)
  replace hx := Lib.hid hx
  go_enter Try.func21, Try.ntmps21
  go_wp2_with fail
  refine K.mono ?_
  rintro e w1 ⟨rfl, hb⟩
  clear K
  go_wp2
  go_loopg [3, 4] l.length (fun g s3 s4 wx => ∃ (k : Nat), s4 = .int .i64 k ∧ k + g = l.length ∧ s3 = str (enc l.length ++ encs (l.take k)) ∧ Below w.heap.size w wx)
  case atStart => exact ⟨0, rfl, by omega, by simp [encs], hb⟩
  case round =>
    clear hb
    obtain ⟨k, rfl, hg, rfl, hbw⟩ := hrel
    have hsz := hbw.size
    cases gk with
    | zero =>
      have hz : ¬ ((k : Int) < (l.length : Int)) := by omega
      have E := Lib.hid (show enc l.length ++ encs (l.take k) = encL l by rw [List.take_of_length_le (by omega)]; rfl)
      replace hg := Lib.hid hg
      go_wp2
      go_ret
      rw [E.out]
      exact ⟨rfl, hbw⟩
    | succ g =>
      have hz : ((k : Int) < (l.length : Int)) := by omega
      obtain ⟨y, hy, ht, hmem⟩ := at_take (l := l) (k := k) (by omega)
      obtain ⟨b1, o1, rfl, _, c1⟩ := HC.out.rd hbw hy
      obtain ⟨y1, y2⟩ := hx.out y hmem
      have I := rint_any y wr y1 y2
      have cap1 := hcap.out k hl
      have cap2 := encI_len (n := y) ⟨y1, y2⟩
      obtain ⟨q, hq⟩ : ∃ q, enc l.length ++ encs (l.take k) = q := ⟨_, rfl⟩
      rw [hq] at cap1 ⊢
      have R : ∀ ww : World, (Op.stringOp .add ⟨q.toArray⟩ ⟨(encI y).toArray⟩).run Try.prog ww = .ok (.string ⟨(q ++ encI y).toArray⟩) ww := fun ww => run_string_add_lists (P := Try.prog) ww q (encI y) (by omega) (by omega)
      have E := Lib.hid (show q ++ encI y = enc l.length ++ encs (l.take (k + 1)) by rw [encs_take ht, hq])
      replace hq := Lib.hid hq
      replace hg := Lib.hid hg
      replace hy := Lib.hid hy
      replace ht := Lib.hid ht
      replace hmem := Lib.hid hmem
      clear cap1 cap2
      go_wp2_with fail
      refine I.mono ?_
      rintro e w2 ⟨rfl, hb2⟩
      clear I c1
      go_wp2
      go_roundg g
      case measure => omega
      case rel => exact ⟨k + 1, by go_num, by have := hg.out; omega, by rw [E.out], hbw.trans (hb2.mono hsz)⟩
end Go.Proofs.Ytemhfhfbhdkedaa
