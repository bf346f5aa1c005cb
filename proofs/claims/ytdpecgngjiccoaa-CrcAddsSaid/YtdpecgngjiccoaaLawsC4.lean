/- The walk of CrcAdds: returns true and changes nothing that was there. -/
import Derived.Test.YtdpecgngjiccoaaAlive4
import Derived.Deep.RegionLaw
import Derived.WalkLawsBesides
namespace Go.Proofs.Ytdpecgngjiccoaa
open Go.ChangeShapes Go.WideShapes Go.ChangeAt Go.RowKit
/-- What stands in the three texts' beginnings of k bytes. -/
def Acc (a b c : List UInt8) (k : Nat) (q : List UInt8) : Prop := q = xor3 (a.take k) (b.take k) (c.take k)
theorem xor_bytes (x y z : UInt8) : bits .xor .u8 (bits .xor .u8 (x.toNat : Int) (y.toNat : Int)) (z.toNat : Int) = ((x ^^^ y ^^^ z).toNat : Int) := by
  have hx := x.toNat_lt
  have hy := y.toNat_lt
  have hz := z.toNat_lt
  rw [u8_xor_nat _ _ hx hy, u8_xor_nat _ _ (Nat.xor_lt_two_pow (n := 8) hx hy) hz, UInt8.toNat_xor, UInt8.toNat_xor]
theorem own_snoc {w1 : World} {base n : Nat} {v : Value} {q : List UInt8} {b : UInt8} {x : Int} (h : w1.ownsRow base 5 1 v n (bytesV q ++ [.int .u8 x])) (hx : x = (b.toNat : Int)) (hn : n = q.length + 1) :
    w1.ownsRow base 5 1 v (q ++ [b]).length (bytesV (q ++ [b])) := by
  subst hx hn
  rw [bytesV_append, List.length_append]
  exact h
/-- 'append(s, x)' where s owns its row of bytes and x is one byte in a block of its own, as one step of a region that draws. -/
theorem step_push {ops : Array Oper} {o : Oper} {a : Act} {w : World} {K : Act → World → Prop} {Q : Exit → Act → World → Prop} {E : Prop}
    (hg : o.guard = none) (s x : Operand) (hop : o.op = .call { callee := .builtin .append, args := #[s, x], argTypes := #[30, 30] })
    (base : Nat) (v : Value) (n : Nat) (xs : List Value) (hs : a.eval s = v) (w0 : World) (hown : w0.ownsRow base 5 1 v n xs) (y : Value) (hx : a.eval x = .slice (some ⟨w0.heap.size, 0, none⟩) 1 1)
    (hw : w = (w0.alloc (.cells #[y] 5)).drew) (h1 : y.oneCell' = true) (hn : n ≤ 1000000) (hbase : base ≤ w0.heap.size)
    (hK : ∀ v' w', w'.ownsRow base 5 1 v' (n + 1) (xs ++ [y]) → w.grownBy w' v.ownBlock → K (a.put o.dst v') w') :
    if Region.wanted o (yielded ops a.tmps) = true then Oper.wp Try.prog o a w K Q else E := by
  subst hw
  have hw : Region.wanted o (yielded ops a.tmps) = true := by simp [Region.wanted, hg]
  rw [if_pos hw]
  obtain ⟨i, hi, hz, hsize, hby⟩ := info_parts info_u8
  have hcell : ∀ j u, [y][j]? = some u → (w0.alloc (.cells #[y] 5)).drew.cell? ((⟨w0.heap.size, 0, none⟩ : Addr).add j) = some u := by
    intro j u hj
    have : (⟨w0.heap.size, 0, none⟩ : Addr).add j = ⟨w0.heap.size, j, none⟩ := by unfold Addr.add; split <;> simp_all
    rw [this]
    exact (World.cell?_alloc_mark w0 _ _ (0, 0) j).trans (by simpa using hj)
  obtain ⟨v', w', hr, h2, h3, _⟩ := run_append_own (P := Try.prog) (w0.alloc (.cells #[y] 5)).drew base 30 o.type 5 i (.int .u8 0) 1 1 Try.underlying30 hi hz hsize hby rfl (by omega) v n xs (hown.alloc _) ⟨w0.heap.size, 0, none⟩ 1 1 [y] rfl hcell (by simpa using h1) (by simp only [maxLen]; omega) (by omega) (by simp; omega)
  unfold Oper.wp execOp
  simp only [hop, resolve, invoke, builtin, Sem.run_bind, Sem.run_pure, Result.andThen_ok, List.map_toArray, List.map_cons, List.map_nil, hs, hx, hr]
  exact hK _ _ h2 h3
/-- 'string(b)' of an owned row of bytes, empty or not. -/
theorem conv_own {w : World} {base : Nat} {v : Value} {l : List UInt8} (h : w.ownsRow base 5 1 v l.length (bytesV l)) :
    (convert 30 9 v).run Try.prog w = .ok (str l) w := by
  by_cases hl : 0 < l.length
  · exact run_string_own (P := Try.prog) 30 9 5 Try.underlying30 Try.underlying5 Try.underlying9 h hl
  · obtain rfl : l = [] := List.eq_nil_of_length_eq_zero (by omega)
    rcases h.2 with ⟨rfl, _⟩ | ⟨g, cap, cur, rfl, _⟩
    · exact run_convert_bytes_nil (P := Try.prog) w 30 5 Try.underlying30 Try.underlying5 0 0 9 Try.underlying9
    · exact run_convert_bytes_back (P := Try.prog) w 30 9 5 ⟨g, 0, none⟩ cap [] Try.underlying30 Try.underlying5 Try.underlying9 fun j hj => by simp at hj
theorem run_min_int4 {P : Program} (w : World) (ts : Array TypeId) (t : TypeId) (k : IntKind) (x y z u : Int) :
    (Builtin.min_ ts t #[.int k x, .int k y, .int k z, .int k u]).run P w = .ok (.int k (min (min (min x y) z) u)) w := by
  have e : ∀ p q : Int, (if q < p then q else p) = min p q := fun p q => by omega
  have h : (Builtin.min_ ts t #[.int k x, .int k y, .int k z, .int k u]).run P w = .ok (.int k (if u < (if z < (if y < x then y else x) then z else (if y < x then y else x)) then u else (if z < (if y < x then y else x) then z else (if y < x then y else x)))) w := by
    simp [Builtin.min_, Builtin.min2]
  rw [h, e, e, e]
set_option maxRecDepth 100000 in
set_option maxHeartbeats 2000000 in
theorem adds_all (a b c : List UInt8) (w : World) (ha : a.length ≤ 9223372036854775807) (hb : b.length ≤ 9223372036854775807) (hc : c.length ≤ 9223372036854775807) :
    Calls Try.prog 6 #[str a, str b, str c] w (RetB w true) := by
  have sa := Lib.hid (sb_size a)
  have sb0 := Lib.hid (sb_size b)
  have sc := Lib.hid (sb_size c)
  obtain ⟨n, hn⟩ : ∃ n : Nat, min (min (min (a.length : Int) (b.length : Int)) (c.length : Int)) 3000 = (n : Int) := ⟨(min (min (min (a.length : Int) (b.length : Int)) (c.length : Int)) 3000).toNat, by omega⟩
  have na : n ≤ a.length := by omega
  have nb : n ≤ b.length := by omega
  have nc : n ≤ c.length := by omega
  have n3 : n ≤ 3000 := by omega
  have M : ∀ ww : World, (Builtin.min_ #[3, 3, 3, 3] 3 #[.int .i64 (a.length : Int), .int .i64 (b.length : Int), .int .i64 (c.length : Int), .int .i64 3000]).run Try.prog ww = .ok (.int .i64 (n : Int)) ww := fun ww => by rw [run_min_int4, hn]
  clear hn
  go_enter Try.func6, Try.ntmps6
  go_wp2
  clear M
  go_loopg [8, 9] n (fun g s8 s9 wx => ∃ (k : Nat) (q : List UInt8), s9 = .int .i64 k ∧ k + g = n ∧ Hid (q = xor3 (a.take k) (b.take k) (c.take k)) ∧ q.length ≤ 3000 ∧ wx.ownsRow w.heap.size 5 1 s8 q.length (bytesV q) ∧ w.heap.size ≤ wx.heap.size ∧ Below w.heap.size w wx)
  case atStart => exact ⟨0, [], rfl, by omega, Lib.hid rfl, by simp, World.ownsRow_nil _ _ _ _, Nat.le_refl _, Below.refl _ _⟩
  case round =>
    obtain ⟨k, q, rfl, hg, HQ, hq, ho, hz, hb⟩ := hrel
    cases gk with
    | zero =>
      have h : ¬ ((k : Int) < (n : Int)) := by omega
      have C1 : (convert 30 9 u8).run Try.prog wr.drew = .ok (str q) wr.drew := conv_own (w := wr.drew) ho
      have SA := str_to (s := a) (e := n) na
      have SB := str_to (s := b) (e := n) nb
      have SC := str_to (s := c) (e := n) nc
      have kn : k = n := by omega
      have EQ := HQ.out
      rw [kn] at EQ
      have X := crc_xor3 (a.take n) (b.take n) (c.take n) (by simp; omega) (by simp; omega)
      rw [← EQ] at X
      have la : (a.take n).length ≤ 3000 := by simp; omega
      have lb : (b.take n).length ≤ 3000 := by simp; omega
      have lc : (c.take n).length ≤ 3000 := by simp; omega
      obtain ⟨a', ha'⟩ : ∃ x, a.take n = x := ⟨_, rfl⟩
      obtain ⟨b', hb'⟩ : ∃ x, b.take n = x := ⟨_, rfl⟩
      obtain ⟨c', hc'⟩ : ∃ x, c.take n = x := ⟨_, rfl⟩
      rw [ha'] at X SA la
      rw [hb'] at X SB lb
      rw [hc'] at X SC lc
      have T : (((crc q : Nat) : Int) == bits .xor .u32 (bits .xor .u32 ((crc a' : Nat) : Int) ((crc b' : Nat) : Int)) ((crc c' : Nat) : Int)) = true := by
        rw [u32_xor_nat _ _ (crc_lt _) (crc_lt _), u32_xor_nat _ _ (Nat.xor_lt_two_pow (n := 32) (crc_lt _) (crc_lt _)) (crc_lt _), X]
        exact beq_self_eq_true _
      clear X EQ HQ kn ha' hb' hc' ho
      go_wp2
      go_region_with (first
        | (go_at_call 8; refine (sum_any _ _ (by omega)).mono ?_; rintro e w' ⟨rfl, rfl⟩)
        | (go_at_call 12; refine (alive_any _).mono ?_; rintro e w' ⟨rfl, bb⟩))
      all_goals
        go_wp2
        go_ret
        exact ⟨rfl, (bdrew hb 1).trans (bb.mono hz)⟩
    | succ g =>
      have h : ((k : Int) < (n : Int)) := by omega
      obtain ⟨x, hx, tx, _⟩ := at_take (l := a) (k := k) (by omega)
      obtain ⟨y, hy, ty, _⟩ := at_take (l := b) (k := k) (by omega)
      obtain ⟨z, hzz, tz, _⟩ := at_take (l := c) (k := k) (by omega)
      have ix := at_idx hx sa
      have iy := at_idx hy sb0
      have iz := at_idx hzz sc
      replace hx := Lib.hid hx
      replace hy := Lib.hid hy
      replace hzz := Lib.hid hzz
      replace tx := Lib.hid tx
      replace ty := Lib.hid ty
      replace tz := Lib.hid tz
      go_wp2
      have X := Lib.hid (xor_bytes x y z)
      have N := Lib.hid (show q ++ [x ^^^ y ^^^ z] = xor3 (a.take (k + 1)) (b.take (k + 1)) (c.take (k + 1)) by
        rw [tx.out, ty.out, tz.out, xor3_snoc (by simp; omega) (by simp; omega), ← HQ.out])
      have hq2 : q.length ≤ k := by rw [HQ.out, xor3_length _ _ _ (by simp; omega) (by simp; omega)]; simp; omega
      clear HQ
      go_region_law (refine step_push rfl (.tmp 22) (.tmp 34) rfl w.heap.size u8 q.length _ rfl wr ho _ rfl rfl rfl (by omega) hz ?_
                     intro v1 w1 p1 gr1
                     have bw1 := below_grown (bdrew (hb.alloc hz _) 1) gr1 (ho.alloc _) (Nat.le_refl _) (by simp; omega)
                     replace p1 := Lib.hid p1
                     clear gr1)
      all_goals
        go_wp2
        go_roundg g
        case measure => omega
        case rel => exact ⟨k + 1, q ++ [x ^^^ y ^^^ z], by go_num, by omega, N, by simp; omega, own_snoc p1.out X.out rfl, bw1.size, bw1⟩
end Go.Proofs.Ytdpecgngjiccoaa
