/- Contract of the reference's Members. Conditions: the layout can be read; at most 60 elements. -/
import Derived.Test.YthoodaldmfojaaaDoorRright7
namespace Go.Proofs.YthoodaldmfojaaaDoor
open Go.ChangeShapes Go.WideShapes Go.ChangeAt Go.RowKit
theorem intsV_snoc (l : List Int) (n : Int) : intsV (l ++ [n]) = intsV l ++ [.int .i64 n] := by simp [intsV]
theorem wpList_pushB {P : Program} (w : World) {ops : Array Oper} {rest : List Oper} {o : Oper} {a : Act} {Q : Exit → Act → World → Prop} (hgd : o.guard = none) (s x : Operand) (t : TypeId)
    (ho : o.op = .call { callee := .builtin .append, args := #[s, x], argTypes := #[t, t] })
    (base : Nat) (e : TypeId) (z : Value) (size bytes : Nat) (ht : P.underlying t = some (.slice e)) (hi : (P.info? e).map (fun i => (i.zero, i.size, i.bytes)) = some (some z, size, bytes))
    (hzs : z.cells.size = size) (hsz : 0 < size)
    (v : Value) (n : Nat) (xs : List Value) (hs : a.eval s = v) (hown : w.ownsRow base e size v n xs) (B : Nat) (hB : B = w.heap.size)
    (news : List Value) (hx : a.eval x = .slice (some ⟨B, 0, none⟩) 1 1) (hl : news.length = size) (h1 : ∀ u ∈ news, u.oneCell' = true)
    (h63 : n + 1 ≤ 9223372036854775807) (hbytes : (n + 1) * bytes ≤ 140737488355328) (hbase : base ≤ w.heap.size)
    (h : ∀ v' w', w'.ownsRow base e size v' (n + 1) (xs ++ news) → w.grownBy w' v.ownBlock → (∀ g, v'.ownBlock = some g → v.ownBlock = some g ∨ w.heap.size ≤ g) → wpList P ops Q rest (a.put o.dst v') w') :
    wpList P ops Q (o :: rest) a (w.alloc (.cells news.toArray e)) := by
  subst hB
  exact wpList_push w hgd s x t ho base e z size bytes ht hi hzs hsz v n xs hs hown news hx hl h1 h63 hbytes hbase h
def memP (s : Int) (b : Bool) (i : Nat) : List ElD → List Int
  | [] => []
  | x :: xs => if x.sec = s ∧ b = true then (i : Int) :: memP s b (i + 1) xs else memP s b (i + 1) xs
theorem memP_true (s : Int) : ∀ (xs : List ElD) (i : Nat), memP s true i xs = memG s i xs
  | [], i => rfl
  | x :: xs, i => by unfold memP memG; rw [memP_true s xs]; simp
theorem memP_false (s : Int) : ∀ (xs : List ElD) (i : Nat), memP s false i xs = []
  | [], i => rfl
  | x :: xs, i => by unfold memP; rw [memP_false s xs]; simp
theorem members_eq (L : LayD) (s : Int) : membersS L s = memP s (decide (0 ≤ s) && decide (s < L.secs.length)) 0 L.els := by
  unfold membersS
  by_cases h : 0 ≤ s ∧ s < L.secs.length
  · rw [if_pos h, decide_eq_true h.1, decide_eq_true h.2]; exact (memP_true _ _ _).symm
  · rw [if_neg h]
    have e : (decide (0 ≤ s) && decide (s < L.secs.length)) = false := by
      rw [← Bool.not_eq_true]; intro hh; simp only [Bool.and_eq_true, decide_eq_true_eq] at hh; exact h hh
    rw [e]; exact (memP_false _ _ _).symm
set_option maxRecDepth 100000 in
set_option maxHeartbeats 8000000 in
theorem rmembers_any (v : Value) (L : LayD) (s : Int) (w : World) (hv : RLay w v L) (hL : L.els.length ≤ 60) : Calls Tryd.prog 75 #[v, .int .i64 s] w (RetL w (membersS L s)) := by
  obtain ⟨v1, v2, v3, v4, v5, rfl, h1, h2, h3, h4, h5⟩ := hv
  clear h3 h4 h5
  obtain ⟨a1, c1, rfl, ⟨m1, _⟩, _⟩ := h1.openS
  obtain ⟨a2, c2, rfl, ⟨m2, _⟩, HC⟩ := h2.openM
  clear h1 h2
  obtain ⟨nm, es⟩ : ∃ s, str L.name = s := ⟨_, rfl⟩
  rw [es, members_eq]
  clear es
  obtain ⟨n, en⟩ : ∃ n, L.secs.length = n := ⟨_, rfl⟩
  rw [en] at m1 ⊢
  obtain ⟨els, he⟩ : ∃ els, L.els = els := ⟨_, rfl⟩
  rw [he] at m2 HC hL ⊢
  clear en he
  obtain ⟨q, hq⟩ : ∃ q, memP s (decide (0 ≤ s) && decide (s < (n : Int))) 0 els = q := ⟨_, rfl⟩
  rw [hq]
  have hq0 : Hid ([] ++ memP s (decide (0 ≤ s) && decide (s < (n : Int))) 0 (els.drop 0) = q) := Lib.hid hq
  clear hq
  obtain ⟨W1, hW⟩ : ∃ W1, W1 = w.alloc (.cells #[nm, .slice a1 n c1, .slice a2 els.length c2, v3, v4, v5] 28) := ⟨_, rfl⟩
  have HB : Below w.heap.size w W1 := by rw [hW]; exact (Below.refl _ _).alloc (Nat.le_refl _) _
  have HS : W1.heap.size = w.heap.size + 1 := by rw [hW]; simp
  have G1 : Blk W1 w.heap.size #[nm, .slice a1 n c1, .slice a2 els.length c2, v3, v4, v5] := by rw [hW]; exact Blk.new _ _ _ _ rfl
  go_enter Tryd.func75, Tryd.ntmps75
  go_wp2
  rw [← hW]
  clear hW
  go_loopg [5, 11] els.length (fun g s5 s11 wx => ∃ (k : Nat) (acc : List Int), k + g = els.length ∧ s11 = .int .i64 k ∧ acc.length ≤ k ∧ Hid (acc ++ memP s (decide (0 ≤ s) && decide (s < (n : Int))) k (els.drop k) = q) ∧ wx.ownsRow W1.heap.size 3 1 s5 acc.length (intsV acc) ∧ Below W1.heap.size W1 wx)
  case atStart => exact ⟨0, [], by omega, rfl, Nat.le_refl _, hq0, World.ownsRow_nil _ _ _ _, Below.refl _ _⟩
  case round =>
    obtain ⟨k, acc, hk, rfl, hal, E, ho, hbw⟩ := hrel
    clear hq0
    have hw : Below w.heap.size w wr := HB.trans (hbw.mono HB.size)
    have hsz := hbw.size
    have hsw := hw.size
    have hl0 : w.heap.size < wr.heap.size := by omega
    have d1 := (G1.below hbw).at 1 _ rfl
    clear G1
    cases gk with
    | zero =>
      have hz : ¬ ((k : Int) < (els.length : Int)) := by omega
      have E' := E.out
      rw [List.drop_eq_nil_of_le (by omega)] at E'
      unfold memP at E'
      rw [List.append_nil] at E'
      subst E'
      clear E hk
      go_wp2
      go_ret
      exact ⟨_, rfl, RS.own ho, hw⟩
    | succ g =>
      have hz : (k : Int) < (els.length : Int) := by omega
      have hal2 : acc.length ≤ 60 := by omega
      obtain ⟨⟨xn, kd, ln, gr, sp, sl, sc⟩, hy, _⟩ := at_take (l := els) (k := k) (by omega)
      obtain ⟨b, off, rfl, hlt, hc⟩ := HC.out.rd hw hy
      have cc0 := hc 0 _ rfl
      have cc1 := hc 1 _ rfl
      have cc2 := hc 2 _ rfl
      have cc3 := hc 3 _ rfl
      have cc4 := hc 4 _ rfl
      have cc5 := hc 5 _ rfl
      have cc6 := hc 6 _ rfl
      simp only [Nat.add_zero] at cc0 cc1 cc2 cc3 cc4 cc5 cc6
      obtain ⟨xm, ex⟩ : ∃ s : ByteArray, (⟨xn.toArray⟩ : ByteArray) = s := ⟨_, rfl⟩
      have ex2 : str xn = .string xm := by rw [← ex]
      simp only [ex2] at cc0
      have E' := E.out
      rw [drop_get hy, memP] at E'
      simp only at E'
      clear E hc hy ex
      replace hk := Lib.hid hk
      replace hal := Lib.hid hal
      cases t1 : (sc == s)
      · rw [if_neg (by simp at t1; simp [t1])] at E'
        replace E' := Lib.hid E'
        go_wp2
        go_roundg g
        case measure => omega
        case rel => exact ⟨k + 1, acc, by have := hk.out; omega, by go_num, by have := hal.out; omega, E', ho.alloc _, alloc_below hbw (Nat.le_refl _) _⟩
      · cases t2 : decide (0 ≤ s)
        · rw [if_neg (by simp [t2])] at E'
          replace E' := Lib.hid E'
          go_wp2
          go_roundg g
          case measure => omega
          case rel => exact ⟨k + 1, acc, by have := hk.out; omega, by go_num, by have := hal.out; omega, E', ho.alloc _, alloc_below hbw (Nat.le_refl _) _⟩
        · cases t3 : decide (s < (n : Int))
          · rw [if_neg (by simp [t3])] at E'
            replace E' := Lib.hid E'
            go_wp2
            go_roundg g
            case measure => omega
            case rel => exact ⟨k + 1, acc, by have := hk.out; omega, by go_num, by have := hal.out; omega, E', ho.alloc _, alloc_below hbw (Nat.le_refl _) _⟩
          · rw [if_pos (by simp at t1; simp [t1, t2, t3])] at E'
            have E2 : Hid ((acc ++ [(k : Int)]) ++ memP s (decide (0 ≤ s) && decide (s < (n : Int))) (k + 1) (els.drop (k + 1)) = q) := Lib.hid (by simpa using E')
            clear E'
            go_wp2_with (at_builtin
                         refine wpList_pushB _ rfl _ _ 42 rfl W1.heap.size 3 (.int .i64 0) 1 8 Tryd.underlying42 info_int rfl (by omega) u5 acc.length _ rfl (ho.alloc _) (wr.heap.size + 1) (by simp) [.int .i64 k] rfl rfl (by simp [Value.oneCell']) (by omega) (by omega) (by simp; omega) ?_
                         intro v3 w3 p3 gr3 nb3
                         have hb3 := below_grown (alloc_below hbw (Nat.le_refl _) _) gr3 (ho.alloc _) (Nat.le_refl _) (by simp; omega)
                         replace p3 := Lib.hid p3
                         clear nb3 gr3)
            go_roundg g
            case measure => omega
            case rel => exact ⟨k + 1, acc ++ [(k : Int)], by have := hk.out; omega, by go_num, by have := hal.out; simp; omega, E2, by rw [intsV_snoc, List.length_append]; exact p3.out, hb3⟩
end Go.Proofs.YthoodaldmfojaaaDoor
