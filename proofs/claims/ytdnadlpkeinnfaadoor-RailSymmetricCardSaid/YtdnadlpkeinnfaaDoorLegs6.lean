/- Contracts of rail.Legs, of the reference's Need, Out and Legs. Condition: what the program reads (GW). -/
import Derived.Test.YtdnadlpkeinnfaaDoorNeed6
namespace Go.Proofs.YtdnadlpkeinnfaaDoor
open Go.ChangeShapes Go.WideShapes Go.ChangeAt Go.RowKit
theorem intsV_snoc (l : List Int) (n : Int) : intsV (l ++ [n]) = intsV l ++ [.int .i64 n] := by simp [intsV]
theorem own_below {w w' : World} {B : Nat} {e : TypeId} {k : Nat} {v : Value} {n : Nat} {xs : List Value} (h : w.ownsRow B e k v n xs) (hb : Below w.heap.size w w') : w'.ownsRow B e k v n xs :=
  h.kept (row := none) ⟨hb.os, hb.tape, hb.output, hb.size, fun k hk _ => hb.block k hk⟩ (by cases v.ownBlock <;> simp)
theorem legs_hit {k i a b c d : Int} {rs : List Row4} (h1 : (a == k) = true) (h2 : (b == i) = true) : legsF k i ((a, b, c, d) :: rs) = c :: legsF k i rs := by
  simp at h1 h2
  rw [legsF, if_pos ⟨h1, h2⟩]
theorem legs_miss {k i a b c d : Int} {rs : List Row4} (h : (a == k) = false ∨ (b == i) = false) : legsF k i ((a, b, c, d) :: rs) = legsF k i rs := by
  rw [legsF, if_neg]
  rintro ⟨rfl, rfl⟩
  simp at h
theorem wpList_pushB {P : Program} (w : World) {ops : Array Oper} {rest : List Oper} {o : Oper} {a : Act} {Q : Exit → Act → World → Prop} (hgd : o.guard = none) (s x : Operand) (t : TypeId)
    (ho : o.op = .call { callee := .builtin .append, args := #[s, x], argTypes := #[t, t] })
    (base : Nat) (e : TypeId) (z : Value) (size bytes : Nat) (ht : P.underlying t = some (.slice e)) (hi : (P.info? e).map (fun i => (i.zero, i.size, i.bytes)) = some (some z, size, bytes))
    (hzs : z.cells.size = size) (hsz : 0 < size)
    (v : Value) (n : Nat) (xs : List Value) (hs : a.eval s = v) (hown : w.ownsRow base e size v n xs) (B : Nat) (hB : B = w.heap.size)
    (news : List Value) (hx : a.eval x = .slice (some ⟨B, 0, none⟩) 1 1) (hl : news.length = size) (h1 : ∀ u ∈ news, u.oneCell' = true)
    (h63 : n + 1 ≤ 9223372036854775807) (hbytes : (n + 1) * bytes ≤ 140737488355328) (hbase : base ≤ w.heap.size)
    (h : ∀ v' w', w'.ownsRow base e size v' (n + 1) (xs ++ news) → w.grownBy w' v.ownBlock → (∀ g, v'.ownBlock = some g → v.ownBlock = some g ∨ w.heap.size ≤ g) → wpList P ops Q rest (a.put o.dst v') w') :
    wpList P ops Q (o :: rest) a (w.alloc (.cells news.toArray e)) := by
  subst hB
  exact wpList_push w hgd s x t ho base e z size bytes ht hi hzs hsz v n xs hs hown news hx hl h1 h63 hbytes hbase h
set_option maxRecDepth 100000 in
set_option maxHeartbeats 4000000 in
theorem legs_any (k i : Int) (w : World) (hG : GW w) : Calls Tryd.prog 11 #[.int .i64 k, .int .i64 i] w (RetL w (legsF k i tab)) := by
  obtain ⟨_, t, fr, hg⟩ := hG
  obtain ⟨q, hr⟩ : ∃ q, legsF k i tab = q := ⟨_, rfl⟩
  rw [hr]
  have hr0 : Hid ([] ++ legsF k i (tab.drop 0) = q) := Lib.hid hr
  clear hr
  go_enter Tryd.func11, Tryd.ntmps11
  go_wp2_with (refine wpList_load_row rfl 35 _ rfl 1 rfl t passC fr _ hg Tryd.underlying35 rfl info_pass ?_)
  clear hg
  go_loopg [5, 9] 10 (fun g s5 s9 wx => ∃ (n : Nat) (acc : List Int), n + g = 10 ∧ s9 = .int .i64 n ∧ acc.length ≤ n ∧ Hid (acc ++ legsF k i (tab.drop n) = q) ∧ wx.ownsRow w.heap.size 3 1 s5 acc.length (intsV acc) ∧ Below w.heap.size w wx)
  case atStart => exact ⟨0, [], rfl, rfl, Nat.le_refl _, hr0, World.ownsRow_nil _ _ _ _, Below.refl _ _⟩
  case round =>
    obtain ⟨n, acc, hn, rfl, hal, E, ho, hbw⟩ := hrel
    clear hr0
    have hsz := hbw.size
    cases gk with
    | zero =>
      obtain rfl : n = 10 := by omega
      have E' := E.out
      rw [drop10, legsF, List.append_nil] at E'
      subst E'
      clear E hn
      go_wp2
      go_ret
      exact ⟨_, rfl, RS.own ho, hbw⟩
    | succ g =>
      have hz : (n : Int) < 10 := by omega
      have hal2 : acc.length ≤ 10 := by omega
      obtain ⟨x1, x2, x3, x4, hd, hix⟩ := pass_at n (by omega)
      have E' := E.out
      rw [hd] at E'
      clear E hd
      replace hn := Lib.hid hn
      replace hal := Lib.hid hal
      cases m1 : (x1 == k)
      · rw [legs_miss (Or.inl m1)] at E'
        replace E' := Lib.hid E'
        go_wp2
        go_roundg g
        case measure => omega
        case rel => exact ⟨n + 1, acc, by have := hn.out; omega, by go_num, by have := hal.out; omega, E', ho.alloc _, alloc_below hbw (Nat.le_refl _) _⟩
      · cases m2 : (x2 == i)
        · rw [legs_miss (Or.inr m2)] at E'
          replace E' := Lib.hid E'
          go_wp2
          go_roundg g
          case measure => omega
          case rel => exact ⟨n + 1, acc, by have := hn.out; omega, by go_num, by have := hal.out; omega, E', ho.alloc _, alloc_below hbw (Nat.le_refl _) _⟩
        · rw [legs_hit m1 m2] at E'
          have E2 : Hid ((acc ++ [x3]) ++ legsF k i (tab.drop (n + 1)) = q) := Lib.hid (by simpa using E')
          clear E'
          go_wp2_with (at_builtin
                       refine wpList_pushB _ rfl _ _ 24 rfl w.heap.size 3 (.int .i64 0) 1 8 Tryd.underlying24 info_int rfl (by omega) u5 acc.length _ rfl (ho.alloc _) (wr.heap.size + 1) (by simp) [.int .i64 x3] rfl rfl (by simp [Value.oneCell']) (by omega) (by omega) (by simp; omega) ?_
                       intro v3 w3 p3 gr3 nb3
                       have hb3 := below_grown (alloc_below hbw (Nat.le_refl _) _) gr3 (ho.alloc _) (Nat.le_refl _) (by simp; omega)
                       replace p3 := Lib.hid p3
                       clear nb3 gr3)
          go_roundg g
          case measure => omega
          case rel => exact ⟨n + 1, acc ++ [x3], by have := hn.out; omega, by go_num, by have := hal.out; simp; omega, E2, by rw [intsV_snoc, List.length_append]; exact p3.out, hb3⟩
end Go.Proofs.YtdnadlpkeinnfaaDoor
