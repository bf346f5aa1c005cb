/- The contract of the reference's Chain. Conditions: as stated. -/
import Derived.Test.YtdpecgngjiccoaaChain4
import Derived.Lib.AppendStr
namespace Go.Proofs.Ytdpecgngjiccoaa
open Go.ChangeShapes Go.WideShapes Go.ChangeAt Go.RowKit
/-- The bytes of the first k of two numbers. -/
def lebs (a b : Nat) : Nat → List UInt8
  | 0 => []
  | 1 => leb a 8
  | _ => leb a 8 ++ leb b 8
def pick2 (a b k : Nat) : Nat := if k = 0 then a else b
theorem lebs_succ (a b k : Nat) (hk : k < 2) : lebs a b (k + 1) = lebs a b k ++ leb (pick2 a b k) 8 := by
  match k, hk with
  | 0, _ => rfl
  | 1, _ => rfl
theorem lebs_length (a b k : Nat) (hk : k ≤ 2) : (lebs a b k).length = 8 * k := by
  match k, hk with
  | 0, _ => rfl
  | 1, _ => simp [lebs, leb_length]
  | 2, _ => simp [lebs, leb_length]
theorem own_byte {w1 : World} {base n y : Nat} {v : Value} {q : List UInt8} {x : Int} (h : w1.ownsRow base 5 1 v n (bytesV q ++ [.int .u8 x])) (hx : x = ((UInt8.ofNat y).toNat : Int)) (hn : n = q.length + 1) :
    w1.ownsRow base 5 1 v (q ++ [UInt8.ofNat y]).length (bytesV (q ++ [UInt8.ofNat y])) := by
  subst hx hn
  have e : bytesV q ++ [.int .u8 ((UInt8.ofNat y).toNat : Int)] = bytesV (q ++ [UInt8.ofNat y]) := by rw [bytesV_append]; rfl
  rw [e] at h
  rw [List.length_append, List.length_singleton]
  exact h
theorem own_text {w1 : World} {base n : Nat} {v : Value} {q l : List UInt8} (h : w1.ownsRow base 5 1 v (n + (sb l).size) (bytesV q ++ Lib.strCells (sb l))) (hn : n = q.length) :
    w1.ownsRow base 5 1 v (q ++ l).length (bytesV (q ++ l)) := by
  subst hn
  rw [sb_size] at h
  rw [bytesV_append, List.length_append]
  exact h
theorem own_open {w1 : World} {base : Nat} {v : Value} {l : List UInt8} (h : w1.ownsRow base 5 1 v l.length (bytesV l)) (hl : 0 < l.length) :
    ∃ b cap, v = .slice (some ⟨b, 0, none⟩) l.length cap ∧ ∀ (k : Nat) y, l[k]? = some y → w1.cell? ⟨b, k, none⟩ = some (.int .u8 (y.toNat : Int)) := by
  obtain ⟨b, cap, hv⟩ := Joins.ownsRow_form h hl
  refine ⟨b, cap, hv, fun k y hy => ?_⟩
  subst hv
  have e : (⟨b, 0, none⟩ : Addr).add k = ⟨b, k, none⟩ := by unfold Addr.add; split <;> simp_all
  rw [← e]
  exact h.cells (g := b) rfl k _ (by simp [bytesV, hy])
/-- The invariant of the inner loop. -/
def NInv (base m k : Nat) (q0 : List UInt8) (w0 wx : World) (j y : Nat) (q : List UInt8) : Prop :=
  q = q0 ++ leb m j ∧ y = m / 256 ^ j ∧ base ≤ wx.heap.size ∧ Below base w0 wx ∧ q0.length = 8 * k
theorem NInv.step {base m k : Nat} {q0 : List UInt8} {w0 wx wy : World} {j y : Nat} {q : List UInt8} (h : NInv base m k q0 w0 wx j y q) (hb : Below base w0 wy) (hz : wx.heap.size ≤ wy.heap.size) :
    NInv base m k q0 w0 wy (j + 1) (m / 256 ^ (j + 1)) (q ++ [UInt8.ofNat y]) := by
  obtain ⟨h1, h2, h3, _, h5⟩ := h
  exact ⟨by rw [h1, leb_succ, h2, List.append_assoc], rfl, Nat.le_trans h3 hz, hb, h5⟩
theorem NInv.length {base m k : Nat} {q0 : List UInt8} {w0 wx : World} {j y : Nat} {q : List UInt8} (h : NInv base m k q0 w0 wx j y q) : q.length = 8 * k + j := by
  rw [h.1, List.length_append, leb_length, h.2.2.2.2]
set_option maxRecDepth 100000 in
set_option maxHeartbeats 2000000 in
theorem rchain_any (n : Nat) (l : List UInt8) (w : World) (hn : n < 18446744073709551616) (hl : l.length ≤ 100000) :
    Calls Try.prog 16 #[.int .u64 n, str l] w (RetV w (.int .u64 (chainL n l : Nat))) := by
  have hs := Lib.hid (sb_size l)
  go_enter Try.func16, Try.ntmps16
  go_wp2
  go_loopg [5, 18] 2 (fun g s5 s18 wx => ∃ (k : Nat) (q : List UInt8), s18 = .int .i64 k ∧ k + g = 2 ∧ Hid (q = lebs n l.length k) ∧ wx.ownsRow (w.heap.size + 1) 5 1 s5 q.length (bytesV q) ∧ w.heap.size + 1 ≤ wx.heap.size ∧
    Below (w.heap.size + 1) (w.alloc (.cells #[.int .u64 n, .int .u64 l.length] 33)) wx)
  case atStart => exact ⟨0, [], rfl, rfl, Lib.hid rfl, World.ownsRow_nil _ _ _ _, by simp, Below.refl _ _⟩
  case round =>
    obtain ⟨k, q, rfl, hg, HQ, ho, hz, hb⟩ := hrel
    cases gk with
    | zero =>
      have h : ¬ ((k : Int) < 2) := by omega
      have hq : q.length = 16 := by rw [HQ.out, lebs_length _ _ _ (by omega)]; omega
      obtain ⟨i0, hi, hi0, hi1, hi2⟩ := info_parts info_u8
      have b1 : q.length + (sb l).size ≤ maxLen := by rw [hq, hs.out]; unfold maxLen; omega
      have b2 : q.length + (sb l).size ≤ 140737488355328 := by rw [hq, hs.out]; omega
      have hF := Lib.hid (show q = leb n 8 ++ leb l.length 8 by rw [HQ.out, show k = 2 by omega]; rfl)
      replace hq := Lib.hid hq
      obtain ⟨x, hx⟩ : ∃ x, q ++ l = x := ⟨_, rfl⟩
      have hxp : 0 < x.length := by rw [← hx, List.length_append, hq.out]; omega
      have hxl : x.length ≤ 200000 := by rw [← hx, List.length_append, hq.out]; omega
      have HF := Lib.hid (show chainL n l = fnvs 14695981039346656037 x by unfold chainL; rw [← hF.out, hx])
      replace hx := Lib.hid hx
      clear hF HQ
      go_wp2_with (at_builtin
                   refine Lib.wpList_append_own_string (P := Try.prog) _ rfl _ _ 30 9 rfl (w.heap.size + 1) 5 i0 Try.underlying30 Try.underlying9 hi hi0 hi1 hi2 u5 q.length _ rfl ho (sb l) rfl b1 b2 hz ?_
                   intro v1 w1 p1 gr1 nb1
                   have bw1 := below_grown hb gr1 ho (Nat.le_refl _) hz
                   have p2 := own_text p1 rfl
                   rw [hx.out] at p2
                   obtain ⟨b, cap, hv, HC⟩ := own_open p2 hxp
                   replace HC := Lib.hid HC
                   subst hv
                   clear nb1 gr1 ho p1 p2 b1 b2)
      go_loopg [9, 39] x.length (fun g s9 s39 wx => ∃ (k d : Nat), s9 = .int .u64 d ∧ s39 = .int .i64 k ∧ k + g = x.length ∧ Hid (d = fnvs 14695981039346656037 (x.take k)) ∧ d < 18446744073709551616 ∧ w1 = wx)
      case atStart => exact ⟨0, 14695981039346656037, rfl, rfl, by omega, Lib.hid rfl, by decide, rfl⟩
      case round =>
        obtain ⟨k, d, rfl, rfl, hg, HX, hd, rfl⟩ := hrel
        cases gk with
        | zero =>
          have h : ¬ ((k : Int) < (x.length : Int)) := by omega
          have E := Lib.hid (show ((d : Nat) : Int) = (chainL n l : Nat) by rw [HF.out, HX.out, List.take_of_length_le (by omega)])
          go_wp2
          go_ret
          exact ⟨ret1_int E.out, ((Below.refl _ _).alloc (Nat.le_refl _) _).trans (bw1.mono (by omega))⟩
        | succ g =>
          have h : ((k : Int) < (x.length : Int)) := by omega
          obtain ⟨y, hy, ht, _⟩ := at_take (l := x) (k := k) (by omega)
          have hc := HC.out k y hy
          have L := fnv_lt d y
          have hy8 := y.toNat_lt
          have N := Lib.hid (fnv_arg (b := y) hd)
          have N2 := Lib.hid (show fnv d y = fnvs 14695981039346656037 (x.take (k + 1)) by rw [ht, fnvs_snoc, ← HX.out])
          replace ht := Lib.hid ht
          replace hy := Lib.hid hy
          clear HX
          go_wp2
          go_roundg g
          case measure => omega
          case rel => exact ⟨k + 1, _, ints_eq N.out, by go_num, by omega, N2, L, rfl⟩
    | succ g =>
      have h : ((k : Int) < 2) := by omega
      have hc : wr.cell? ⟨w.heap.size, k, none⟩ = some (.int .u64 (pick2 n l.length k : Nat)) := by
        rw [hb.cell (p := ⟨w.heap.size, k, none⟩) (by simp), World.cell?_alloc_new]
        match k, (show k < 2 by omega) with
        | 0, _ => rfl
        | 1, _ => rfl
      have hm : pick2 n l.length k < 18446744073709551616 := by unfold pick2; split <;> omega
      have HI := Lib.hid (show NInv (w.heap.size + 1) (pick2 n l.length k) k q (w.alloc (.cells #[.int .u64 n, .int .u64 l.length] 33)) wr 0 (pick2 n l.length k) q from ⟨by simp [leb], by simp, hz, hb, by rw [HQ.out, lebs_length _ _ _ (by omega)]⟩)
      have HN := Lib.hid (lebs_succ n l.length k (by omega))
      obtain ⟨m, hmm⟩ : ∃ m, pick2 n l.length k = m := ⟨_, rfl⟩
      rw [hmm] at hc hm HI HN
      replace hmm := Lib.hid hmm
      clear hz hb
      obtain ⟨wo, hwo⟩ : ∃ wo : World, wo = wr := ⟨_, rfl⟩
      rw [← hwo] at ho hc HI ⊢
      clear hwo
      go_wp2
      go_loopg [5, 7, 8] 8 (fun g2 s5 s7 s8 wx => ∃ (j y : Nat) (p : List UInt8), s7 = .int .u64 y ∧ s8 = .int .i64 j ∧ j + g2 = 8 ∧ wx.ownsRow (w.heap.size + 1) 5 1 s5 p.length (bytesV p) ∧ y < 18446744073709551616 ∧ w.heap.size + 1 ≤ wx.heap.size ∧
        Hid (NInv (w.heap.size + 1) m k q (w.alloc (.cells #[.int .u64 n, .int .u64 l.length] 33)) wx j y p))
      case atStart => exact ⟨0, m, q, rfl, rfl, rfl, ho, hm, HI.out.2.2.1, HI⟩
      case round =>
        clear ho HI hc
        obtain ⟨j, y, p, rfl, rfl, hg2, ho, hy, hz, HI⟩ := hrel
        have hp := Lib.hid HI.out.length
        have hp2 : p.length ≤ 16 := by have := hp.out; omega
        cases gk with
        | zero =>
          have h2 : ¬ ((j : Int) < 8) := by omega
          go_wp2
          go_roundg g
          case measure => omega
          case rel => exact ⟨k + 1, p, by go_num, by omega, Lib.hid (by rw [HN.out, HI.out.1, ← HQ.out, show j = 8 by omega]), ho, HI.out.2.2.1, HI.out.2.2.2.1⟩
        | succ g2 =>
          have h2 : ((j : Int) < 8) := by omega
          have M := Lib.hid (show ((y : Int) / 256) = ((m / 256 ^ (j + 1) : Nat) : Int) by rw [HI.out.2.1, next_of])
          have L2 : m / 256 ^ (j + 1) < 18446744073709551616 := Nat.lt_of_le_of_lt (Nat.div_le_self _ _) hm
          go_wp2_with (at_builtin
                       refine wpList_push _ rfl _ _ 30 rfl (w.heap.size + 1) 5 (.int .u8 0) 1 1 Try.underlying30 info_u8 rfl (by omega) u5 p.length _ rfl ho [_] rfl rfl (by simp [Value.oneCell']) (by omega) (by omega) hz ?_
                       intro v1 w1 p1 gr1 nb1
                       have bw1 := below_grown HI.out.2.2.2.1 gr1 ho (Nat.le_refl _) hz
                       replace p1 := Lib.hid p1
                       have s1 := gr1.size
                       clear nb1 gr1 ho)
          go_roundg g2
          case measure => omega
          case rel => exact ⟨j + 1, m / 256 ^ (j + 1), p ++ [UInt8.ofNat y], ints_eq M.out, by go_num, by omega, own_byte p1.out (byte_of (n := y)) rfl, L2, Nat.le_trans hz s1, Lib.hid (HI.out.step bw1 s1)⟩
end Go.Proofs.Ytdpecgngjiccoaa
