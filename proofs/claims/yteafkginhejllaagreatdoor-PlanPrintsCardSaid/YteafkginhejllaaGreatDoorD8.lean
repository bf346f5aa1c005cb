/- Texts of the layers 5 to 7, merged. -/
import Derived.Test.YteafkginhejllaaGreatDoorC8
namespace Go.Proofs.YteafkginhejllaaGreatDoor
section
open Go.ChangeShapes Go.WideShapes Go.ChangeAt Go.RowKit
theorem all_takeS {l : List L8} {k : Nat} {y : L8} (hy : l[k]? = some y) (h : (l.take k).all isW = true) (hp : isW y = true) : (l.take (k + 1)).all isW = true := by
  obtain ⟨h1, h2⟩ := List.getElem?_eq_some_iff.1 hy
  rw [List.take_succ_eq_append_getElem h1, List.all_append, h, h2]; simp [hp]
theorem isL_bad {l : List L8} {k : Nat} {y : L8} (hy : l[k]? = some y) (hp : isW y = false) : isL l = false := by
  rw [← Bool.not_eq_true]; intro h
  have := isL_all h y (List.mem_of_getElem? hy)
  rw [hp] at this; cases this
set_option maxRecDepth 100000 in
set_option maxHeartbeats 1000000 in
theorem isLine_any (v : Value) (l : List L8) (w : World) (hr : RS w v (strsV l)) (hl : ∀ x ∈ l, x.length ≤ 100000) :
    Calls Tryz.prog 40 #[v] w (RetB w (isL l)) := by
  obtain ⟨a, cap, rfl, ⟨hm, _⟩, HC⟩ := hr.openS
  obtain ⟨q, hq⟩ : ∃ q, isL l = q := ⟨_, rfl⟩
  rw [hq]
  replace hq := Lib.hid hq
  clear hr
  go_enter Tryz.func40, Tryz.ntmps40
  go_wp2
  go_loopg [7] l.length (fun g s7 wx => ∃ (k : Nat), s7 = .int .i64 k ∧ k + g = l.length ∧ Hid ((l.take k).all isW = true) ∧ Below w.heap.size w wx)
  case atStart => exact ⟨0, rfl, by omega, Lib.hid rfl, Below.refl _ _⟩
  case round =>
    obtain ⟨k, rfl, hg, HN, hbw⟩ := hrel
    cases gk with
    | zero =>
      have h : ¬ ((k : Int) < (l.length : Int)) := by omega
      have HA := HN.out
      rw [List.take_of_length_le (by omega)] at HA
      have E := Lib.hid (show decide (0 < l.length) = q by rw [← hq.out, isL, HA]; rfl)
      replace HA := Lib.hid HA
      clear HN
      go_wp2
      go_ret
      exact ⟨ret1_bool E.out, hbw⟩
    | succ g =>
      have h : ((k : Int) < (l.length : Int)) := by omega
      obtain ⟨y, hy, _, hmem⟩ := at_take (l := l) (k := k) (by omega)
      obtain ⟨b, off, rfl, hlt, hcell⟩ := HC.out.rd hbw hy
      have K := isWord_any y wr (by have := hl y hmem; omega)
      cases hw : isW y with
      | true =>
        rw [hw] at K
        have N := Lib.hid (all_takeS hy HN.out hw)
        replace hy := Lib.hid hy
        replace hw := Lib.hid hw
        clear HN
        go_wp2_with (go_at_call 89; refine K.mono ?_; rintro e w1 ⟨rfl, b1⟩)
        go_roundg g
        case measure => omega
        case rel => exact ⟨k + 1, by go_num, by omega, N, hbw.trans (b1.mono hbw.size)⟩
      | false =>
        rw [hw] at K
        have Q := hq.out
        rw [isL_bad hy hw] at Q
        subst Q
        replace hy := Lib.hid hy
        replace hw := Lib.hid hw
        clear HN
        go_wp2_with (go_at_call 89; refine K.mono ?_; rintro e w1 ⟨rfl, b1⟩)
        go_ret
        exact ⟨rfl, hbw.trans (b1.mono hbw.size)⟩
/-- A list of texts is handed back; nothing that was there has changed. -/
def RetS (w : World) (l : List L8) (e : Ending) (w' : World) : Prop := ∃ v, e = .returned v ∧ w'.ownsRow w.heap.size 9 1 v l.length (strsV l) ∧ Below w.heap.size w w'
def piece (s : L8) (f p : Nat) : L8 := (s.drop f).take (p - f)
theorem piece_at {s : L8} {f p : Nat} (hf : f ≤ p) (hp : p ≤ s.length) : ∀ ww : World, (Instr.slice 9 (.string ⟨s.toArray⟩) (some (.int .i64 (f : Int))) (some (.int .i64 (p : Int))) none).run Tryz.prog ww = .ok (str (piece s f p)) ww := by
  intro ww
  rw [run_slice_string ww 9 _ _ _ _ _ Tryz.underlying9 (by omega) (by omega) (by rw [sb_size]; omega), ByteArray.extract_mk]
  rfl
theorem str_from {s : List UInt8} {e : Nat} (he : e ≤ s.length) : ∀ ww : World, (Instr.slice 9 (.string ⟨s.toArray⟩) (some (.int .i64 (e : Int))) none none).run Tryz.prog ww = .ok (str (s.drop e)) ww := by
  intro ww
  rw [run_slice_string_from_if ww 9 _ _ _ Tryz.underlying9, if_pos ⟨by omega, by rw [sb_size]; omega⟩, ByteArray.extract_mk]
  rw [Int.toNat_natCast, sb_size]
  rw [List.take_of_length_le (by simp)]
theorem piece_end {s : L8} {f p : Nat} (hp : s.length ≤ p) : piece s f p = s.drop f := by
  unfold piece
  rw [List.take_of_length_le (by simp; omega)]
theorem piece_len {s : L8} {f p : Nat} : (piece s f p).length ≤ s.length := by unfold piece; simp; omega
theorem piece_self (s : L8) (p : Nat) : piece s p p = [] := by simp [piece]
theorem piece_run {s : L8} {f p n : Nat} (hf : f ≤ p) : piece s f p ++ (s.drop p).take n = piece s f (p + n) := by
  unfold piece
  rw [show p + n - f = (p - f) + n by omega, List.take_add, List.drop_drop, show f + (p - f) = p by omega]
theorem cutA_at {c : UInt8} {s : L8} {f p : Nat} (hb : s[p]? = some c) : cutA c (piece s f p) (s.drop p) = piece s f p :: cutA c [] (s.drop (p + 1)) := by
  obtain ⟨h1, h2⟩ := List.getElem?_eq_some_iff.1 hb
  rw [List.drop_eq_getElem_cons h1, h2, cutA, if_pos rfl]
theorem cutA_over {c : UInt8} {s : L8} {f p n : Nat} (hf : f ≤ p) (h : ∀ j, j < n → s[p + j]? ≠ some c) : cutA c (piece s f p) (s.drop p) = cutA c (piece s f (p + n)) (s.drop (p + n)) := by
  have e : s.drop p = (s.drop p).take n ++ s.drop (p + n) := by
    rw [← List.drop_drop, List.take_append_drop]
  have hn : c ∉ (s.drop p).take n := by
    intro hm
    obtain ⟨j, hj⟩ := List.mem_iff_getElem?.1 hm
    rw [List.getElem?_take] at hj
    split at hj
    · rename_i hjn
      rw [List.getElem?_drop] at hj
      exact h j hjn hj
    · cases hj
  rw [e, cutA_run c _ _ _ hn, piece_run hf]
/-- What stands behind some rounds of parts. -/
def PInv (w : World) (s : L8) (wx : World) (pos : Nat) (v : Value) (done : List L8) : Prop :=
  wx.heap[w.heap.size]? = some (.stringIter (sb s) pos) ∧ wx.ownsRow (w.heap.size + 1) 9 1 v done.length (strsV done) ∧ Below w.heap.size w wx ∧ w.heap.size + 1 ≤ wx.heap.size
theorem PInv.start (w : World) (s : L8) : PInv w s (w.iter (sb s) 0) 0 (.slice none 0 0) [] :=
  ⟨World.iter_heap _ _ _, World.ownsRow_nil _ _ _ _, below_iter _ _ _, by simp [World.iter]⟩
theorem PInv.next {w wx : World} {s : L8} {pos : Nat} {v : Value} {done : List L8} (h : PInv w s wx pos v done) (p : Nat) : PInv w s (wx.iterAt w.heap.size (sb s) p) p v done := by
  obtain ⟨h1, h2, h3, h4⟩ := h
  refine ⟨Lib.iterAt_heap _ _ _ _ _ h1, ?_, Lib.below_iterAt h3 (Nat.le_refl _) _ _, by rw [Lib.iterAt_size]; exact h4⟩
  refine h2.kept (row := some w.heap.size) ⟨rfl, rfl, rfl, by rw [Lib.iterAt_size]; exact Nat.le_refl _, fun k _ hk => Lib.iterAt_other _ _ _ _ _ (fun e => hk (by rw [e]))⟩ (Or.inr fun e => ?_)
  have := (h2.lt _ e).1
  omega
theorem PInv.push {w wx w1 : World} {s : L8} {pos : Nat} {v v1 : Value} {done : List L8} {x : L8} (h : PInv w s wx pos v done) (ho : w1.ownsRow (w.heap.size + 1) 9 1 v1 (done.length + 1) (strsV done ++ [str x])) (hg : wx.grownBy w1 v.ownBlock) : PInv w s w1 pos v1 (done ++ [x]) := by
  obtain ⟨h1, h2, h3, h4⟩ := h
  refine ⟨?_, by rw [List.length_append, strsV_snoc]; exact ho, below_grown h3 hg h2 (by omega) (by omega), Nat.le_trans h4 hg.size⟩
  rw [hg.block _ (by omega) (fun e => by have := (h2.lt _ e.symm).1; omega)]
  exact h1
set_option maxRecDepth 100000 in
set_option maxHeartbeats 1000000 in
theorem parts_any (s : L8) (w : World) (hl : s.length ≤ 100000) :
    Calls Tryz.prog 39 #[str s] w (RetS w (cutA 32 [] s)) := by
  obtain ⟨q, hq⟩ : ∃ q, cutA 32 [] s = q := ⟨_, rfl⟩
  have hql : q.length ≤ 100001 := by rw [← hq]; have := cutA_le 32 s []; omega
  rw [hq]
  have hs := Lib.hid (sb_size s)
  have H0 := Lib.hid (show ([] : List L8) ++ cutA 32 (piece s 0 0) (s.drop 0) = q by rw [piece_self]; exact hq)
  replace hq := Lib.hid hq
  go_enter Tryz.func39, Tryz.ntmps39
  go_wp2
  go_loopg [3, 4] s.length (fun g s3 s4 wx => ∃ (pos f : Nat) (done : List L8), s4 = .int .i64 f ∧ f ≤ pos ∧ pos + g = s.length ∧ Hid (PInv w s wx pos s3 done) ∧ Hid (done ++ cutA 32 (piece s f pos) (s.drop pos) = q))
  case atStart => exact ⟨0, 0, [], rfl, by omega, by omega, Lib.hid (PInv.start w s), H0⟩
  case round =>
    obtain ⟨pos, f, done, rfl, hf, hg, HP, HN⟩ := hrel
    clear H0
    have hit := HP.out.1
    have hdl : done.length ≤ 100000 := by
      have := congrArg List.length HN.out
      have h2 := cutA_pos 32 (s.drop pos) (piece s f pos)
      rw [List.length_append] at this; omega
    have hsz : w.heap.size + 1 ≤ wr.heap.size := HP.out.2.2.2
    cases gk with
    | zero =>
      have hnx : ∀ ty, (Instr.next (.pointer (some ⟨w.heap.size, 0, none⟩)) true ty).run Tryz.prog wr = .ok (.tuple #[.bool false]) wr := fun ty => Lib.run_next_end_at wr w.heap.size (sb s) pos ty hit (by rw [sb_lt]; omega)
      have X := str_from (s := s) (e := f) (by omega)
      have E := Lib.hid (show done ++ [s.drop f] = q by
        have := HN.out
        rw [show s.drop pos = [] from List.drop_eq_nil_of_le (by omega), piece_end (by omega)] at this
        exact this)
      obtain ⟨x, hx⟩ : ∃ x, s.drop f = x := ⟨_, rfl⟩
      rw [hx] at X E
      replace hx := Lib.hid hx
      replace hit := Lib.hid hit
      have ho := HP.out.2.1
      clear HN
      go_wp2_with (at_builtin
                   refine wpList_push _ rfl _ _ 22 rfl (w.heap.size + 1) 9 (.string ByteArray.empty) 1 16 Tryz.underlying22 info_str rfl (by omega) u3 done.length _ rfl ho [str x] rfl rfl (one_str x) (by omega) (by omega) hsz ?_
                   intro v1 w1 p1 gr1 nb1
                   have HP1 := Lib.hid (HP.out.push p1 gr1)
                   clear nb1 gr1 p1 ho)
      go_ret
      refine ⟨_, rfl, ?_, HP1.out.2.2.1⟩
      rw [← E.out]
      exact own_mono HP1.out.2.1 (by omega)
    | succ g =>
      obtain ⟨b, hb⟩ := at_get (l := s) (k := pos) (by omega)
      have hr := rune_at hb
      have hnx : ∀ ty, (Instr.next (.pointer (some ⟨w.heap.size, 0, none⟩)) true ty).run Tryz.prog wr = _ := fun ty => Lib.run_next_any_at wr w.heap.size (sb s) pos ty hit (by rw [sb_lt]; omega)
      obtain ⟨r, hrr⟩ : ∃ r, (Utf8.decode (sb s) pos).1 = r := ⟨_, rfl⟩
      obtain ⟨n, hnn⟩ : ∃ n, (Utf8.decode (sb s) pos).2 = n := ⟨_, rfl⟩
      rw [hrr, hnn] at hr
      simp only [hrr, hnn] at hnx
      replace hrr := Lib.hid hrr
      replace hnn := Lib.hid hnn
      replace hit := Lib.hid hit
      by_cases h32 : b = 32
      · obtain ⟨rfl, rfl⟩ : r = 32 ∧ n = 1 := by
          subst h32
          rcases hr with h | h
          · exact h.2
          · have := h.1; simp at this
        subst h32
        have X := piece_at (s := s) (f := f) (p := pos) hf (by omega)
        have N := Lib.hid (show (done ++ [piece s f pos]) ++ cutA 32 (piece s (pos + 1) (pos + 1)) (s.drop (pos + 1)) = q by
          rw [← HN.out, cutA_at hb, piece_self]; simp)
        obtain ⟨x, hx⟩ : ∃ x, piece s f pos = x := ⟨_, rfl⟩
        rw [hx] at X N
        replace hx := Lib.hid hx
        have HP0 := HP.out.next (pos + 1)
        have ho := HP0.2.1
        have hsz2 := HP0.2.2.2
        replace HP0 := Lib.hid HP0
        replace hb := Lib.hid hb
        clear HN hr HP
        go_wp2_with (at_builtin
                     refine wpList_push _ rfl _ _ 22 rfl (w.heap.size + 1) 9 (.string ByteArray.empty) 1 16 Tryz.underlying22 info_str rfl (by omega) u3 done.length _ rfl ho [str x] rfl rfl (one_str x) (by omega) (by omega) hsz2 ?_
                     intro v1 w1 p1 gr1 nb1
                     have HP1 := Lib.hid (HP0.out.push p1 gr1)
                     clear nb1 gr1 p1 ho hsz2)
        go_roundg g
        case measure => omega
        case rel => exact ⟨pos + 1, pos + 1, done ++ [x], by go_num, by omega, by omega, HP1, N⟩
      · have h32' : ((r : Int) == 32) = false := by
          rw [← Bool.not_eq_true]; intro e
          have := eq_of_beq e
          rcases hr with h | h
          · exact h32 (UInt8.toNat_inj.1 (by show b.toNat = 32; omega))
          · omega
        have hn : ∀ j, j < n → s[pos + j]? ≠ some 32 := by
          rcases hr with h | h
          · intro j hj e
            obtain rfl : j = 0 := by omega
            rw [Nat.add_zero, hb] at e
            exact h32 (Option.some.inj e)
          · intro j hj e
            obtain ⟨c, hc, h128⟩ := h.2.2.2.2.2 j hj
            rw [hc] at e
            have := Option.some.inj e
            subst this
            simp at h128
        have hnp : 1 ≤ n ∧ pos + n ≤ s.length := by rcases hr with h | h <;> omega
        have N := Lib.hid (show done ++ cutA 32 (piece s f (pos + n)) (s.drop (pos + n)) = q by rw [← HN.out, cutA_over hf hn])
        have HP0 := Lib.hid (HP.out.next (pos + n))
        replace hb := Lib.hid hb
        clear HN hr HP hn h32
        go_wp2
        go_roundg (s.length - (pos + n))
        case measure => omega
        case rel => exact ⟨pos + n, f, done, rfl, by omega, by omega, HP0, N⟩
end
section
open Go.ChangeShapes Go.WideShapes Go.ChangeAt Go.RowKit
theorem cut_one (c : UInt8) (s : L8) : (∃ t r, s = t ++ c :: r ∧ c ∉ t ∧ Lib.cut s [c] = (t, r, true)) ∨ (c ∉ s ∧ Lib.cut s [c] = (s, [], false)) := by
  have e := Lib.index_one s c
  by_cases h : Lib.indexByte s c = -1
  · right
    refine ⟨fun hm => ?_, ?_⟩
    · obtain ⟨k, hk⟩ := List.mem_iff_getElem?.1 hm
      exact Lib.indexByte_none h k hk
    · rw [Lib.cut, e, if_neg (by omega)]
  · left
    have hge := Lib.indexByte_ge s c
    obtain ⟨o, ho⟩ : ∃ o : Nat, Lib.indexByte s c = o := ⟨(Lib.indexByte s c).toNat, by omega⟩
    obtain ⟨h1, h2⟩ := Lib.indexByte_some ho
    obtain ⟨hl, hv⟩ := List.getElem?_eq_some_iff.1 h1
    refine ⟨s.take o, s.drop (o + 1), ?_, ?_, ?_⟩
    · rw [← hv, ← List.drop_eq_getElem_cons hl, List.take_append_drop]
    · intro hm
      obtain ⟨j, hj⟩ := List.mem_iff_getElem?.1 hm
      rw [List.getElem?_take] at hj
      split at hj
      · rename_i hjo
        exact h2 j hjo hj
      · cases hj
    · rw [Lib.cut, e, if_pos (by omega), ho]
      rfl
theorem cut_any (s t r : L8) (f : Bool) (h : Lib.cut s [10] = (t, r, f)) (w : World) (hg : GT w) (hl : s.length ≤ 100000) : Calls Tryz.prog 38 #[str s, .string ⟨#[10]⟩] w fun e w' => e = .returned (.tuple #[str t, str r, .bool f]) ∧ Below w.heap.size w w' := by
  obtain ⟨⟨m, hm⟩, _⟩ := hg
  refine (Tryz.strings_Cut (sb s) ⟨#[10]⟩ m w (by rw [sb_size]; omega) hm).mono ?_
  rintro e w' ⟨rfl, n, rfl⟩
  refine ⟨?_, bdrew (Below.refl _ _) n⟩
  rw [show (sb s).data.toList = s from rfl, show (⟨#[10]⟩ : ByteArray).data.toList = [10] from rfl, h]
/-- Lines, a number and an error are handed back; nothing that was there has changed. -/
def RetLL (w : World) (x : List (List L8) × Int × Int) (e : Ending) (w' : World) : Prop := ∃ v, e = .returned (.tuple #[v, .int .i64 x.2.1, .int .i64 x.2.2]) ∧ LL w' v x.1 ∧ Below w.heap.size w w'
theorem outLines_bad (n : Nat) : outLines (.bad n) = ([], (n : Int), 4) := rfl
theorem outLines_ok (l : List (List L8)) : outLines (.ok l) = (l, 0, 0) := rfl
theorem own_below {w w' : World} {B : Nat} {e : TypeId} {k : Nat} {v : Value} {n : Nat} {xs : List Value} (h : w.ownsRow B e k v n xs) (hb : Below w.heap.size w w') : w'.ownsRow B e k v n xs :=
  h.kept (row := none) ⟨hb.os, hb.tape, hb.output, hb.size, fun k hk _ => hb.block k hk⟩ (by cases v.ownBlock <;> simp)
theorem own_types {w : World} {B B' : Nat} {e e' : TypeId} {v u : Value} {n m : Nat} {xs ys : List Value} (h : w.ownsRow B e 1 v n xs) (k : w.ownsRow B' e' 1 u m ys) (hne : e ≠ e') : ∀ g, v.ownBlock = some g → u.ownBlock ≠ some g := by
  intro g hg hu
  rcases h.2 with ⟨rfl, _⟩ | ⟨g1, c1, cur1, rfl, _, h1, _⟩
  · simp [Value.ownBlock] at hg
  · rcases k.2 with ⟨rfl, _⟩ | ⟨g2, c2, cur2, rfl, _, h2, _⟩
    · simp [Value.ownBlock] at hu
    · simp only [Value.ownBlock, Option.some.injEq] at hg hu
      subst hg
      rw [hu] at h2
      rw [h1] at h2
      simp only [Option.some.injEq, Obj.cells.injEq] at h2
      exact hne h2.2.1
/-- Rows that lie in blocks of their own. -/
def RowsO (B : Nat) (w : World) (vs : List Value) (l : List (List L8)) : Prop := vs.length = l.length ∧ ∀ (j : Nat) x y, vs[j]? = some x → l[j]? = some y → w.ownsRow B 9 1 x y.length (strsV y)
theorem RowsO.nil (B : Nat) (w : World) : RowsO B w [] [] := ⟨rfl, fun j x y hx => by simp at hx⟩
theorem RowsO.below {B : Nat} {w w' : World} {vs : List Value} {l : List (List L8)} (h : RowsO B w vs l) (hb : Below w.heap.size w w') : RowsO B w' vs l := ⟨h.1, fun j x y hx hy => own_below (h.2 j x y hx hy) hb⟩
theorem RowsO.kept {B : Nat} {w w' : World} {vs : List Value} {l : List (List L8)} {u : Value} (h : RowsO B w vs l) (hg : w.grownBy w' u.ownBlock) (hne : ∀ (j : Nat) x, vs[j]? = some x → ∀ g, x.ownBlock = some g → u.ownBlock ≠ some g) : RowsO B w' vs l :=
  ⟨h.1, fun j x y hx hy => own_kept (h.2 j x y hx hy) hg (hne j x hx)⟩
theorem RowsO.types {B B' : Nat} {w : World} {vs : List Value} {l : List (List L8)} {u : Value} {m : Nat} {ys : List Value} (h : RowsO B w vs l) (k : w.ownsRow B' 22 1 u m ys) : ∀ (j : Nat) x, vs[j]? = some x → ∀ g, x.ownBlock = some g → u.ownBlock ≠ some g := by
  intro j x hx g hg
  have hj : j < vs.length := (List.getElem?_eq_some_iff.1 hx).1
  have hy : l[j]? = some (l[j]'(by rw [← h.1]; exact hj)) := List.getElem?_eq_getElem _
  exact own_types (h.2 j x _ hx hy) k (by decide) g hg
theorem RowsO.lt {B : Nat} {w : World} {vs : List Value} {l : List (List L8)} (h : RowsO B w vs l) : ∀ (j : Nat) x, vs[j]? = some x → ∀ g, x.ownBlock = some g → g < w.heap.size := by
  intro j x hx g hg
  have hj : j < vs.length := (List.getElem?_eq_some_iff.1 hx).1
  have hy : l[j]? = some (l[j]'(by rw [← h.1]; exact hj)) := List.getElem?_eq_getElem _
  exact ((h.2 j x _ hx hy).lt g hg).2
theorem RowsO.snoc {B : Nat} {w : World} {vs : List Value} {l : List (List L8)} {v : Value} {x : List L8} (h : RowsO B w vs l) (hx : w.ownsRow B 9 1 v x.length (strsV x)) : RowsO B w (vs ++ [v]) (l ++ [x]) := by
  refine ⟨by simp [h.1], fun j a y ha hy => ?_⟩
  by_cases hj : j < vs.length
  · rw [List.getElem?_append_left hj] at ha
    rw [List.getElem?_append_left (by rw [← h.1]; exact hj)] at hy
    exact h.2 j a y ha hy
  · by_cases he : j = vs.length
    · subst he
      rw [List.getElem?_append_right (by omega), Nat.sub_self] at ha
      rw [List.getElem?_append_right (by rw [h.1]; omega), h.1, Nat.sub_self] at hy
      simp at ha hy
      subst ha hy
      exact hx
    · rw [List.getElem?_eq_none (by simp; omega)] at ha
      cases ha
theorem RowsO.rows {B : Nat} {w : World} {vs : List Value} {l : List (List L8)} (h : RowsO B w vs l) : RowsL w vs l := ⟨h.1, fun j x y hx hy => RS.own (h.2 j x y hx hy)⟩
/-- What stands behind some lines. -/
def LInv (w wx : World) (v : Value) (out : List (List L8)) : Prop := ∃ vs, wx.ownsRow w.heap.size 22 1 v out.length vs ∧ RowsO w.heap.size wx vs out ∧ Below w.heap.size w wx
theorem LInv.start (w : World) : LInv w w (.slice none 0 0) [] := ⟨[], World.ownsRow_nil _ _ _ _, RowsO.nil _ _, Below.refl _ _⟩
theorem LInv.ll {w wx : World} {v : Value} {out : List (List L8)} (h : LInv w wx v out) : LL wx v out := by
  obtain ⟨vs, h1, h2, _⟩ := h
  exact LL.of (RS.own h1) h2.rows
theorem LInv.below {w wx wy : World} {v : Value} {out : List (List L8)} (h : LInv w wx v out) (hb : Below wx.heap.size wx wy) : LInv w wy v out := by
  obtain ⟨vs, h1, h2, h3⟩ := h
  exact ⟨vs, own_below h1 hb, h2.below hb, h3.trans (hb.mono h3.size)⟩
theorem LInv.push {w wx w1 : World} {v v1 u : Value} {vs : List Value} {out : List (List L8)} {x : List L8} (h1 : wx.ownsRow w.heap.size 22 1 v out.length vs) (h2 : RowsO w.heap.size wx vs out) (h3 : Below w.heap.size w wx)
    (hu : wx.ownsRow w.heap.size 9 1 u x.length (strsV x)) (ho : w1.ownsRow w.heap.size 22 1 v1 (out.length + 1) (vs ++ [u])) (hg : wx.grownBy w1 v.ownBlock) : LInv w w1 v1 (out ++ [x]) := by
  refine ⟨vs ++ [u], by rw [List.length_append]; exact ho, (h2.kept hg (h2.types h1)).snoc (own_kept hu hg (own_types hu h1 (by decide))), below_grown h3 hg h1 (Nat.le_refl _) h3.size⟩
theorem own_slice {w : World} {B : Nat} {e : TypeId} {v : Value} {n : Nat} {xs : List Value} (h : w.ownsRow B e 1 v n xs) : ∃ a c, v = .slice a n c := own_shape h
set_option maxRecDepth 100000 in
set_option maxHeartbeats 2000000 in
theorem lines_any (s : L8) (w : World) (hg : GT w) (hl : s.length ≤ 100000) :
    Calls Tryz.prog 14 #[str s] w (RetLL w (linesR s)) := by
  have hs := Lib.hid (sb_size s)
  by_cases hlong : 32768 < s.length
  · rw [linesR_long hlong]
    have t : ((32768 : Int) < (s.length : Int)) := by omega
    go_enter Tryz.func14, Tryz.ntmps14
    go_wp2
    go_ret3
    exact ⟨_, rfl, LL.nil _ _ _, Below.refl _ _⟩
  · rw [linesR_of hlong]
    have t : ¬ ((32768 : Int) < (s.length : Int)) := by omega
    obtain ⟨q, hq⟩ : ∃ q, scan [] [] [] s = q := ⟨_, rfl⟩
    rw [hq]
    replace hq := Lib.hid hq
    clear hlong
    go_enter Tryz.func14, Tryz.ntmps14
    go_wp2
    go_loopg [0, 5] s.length (fun g s0 s5 wx => ∃ (rest : L8) (out : List (List L8)), s0 = str rest ∧ rest.length ≤ g ∧ (g ≤ s.length ∧ out.length + g ≤ s.length) ∧ Hid (scan out [] [] rest = q) ∧ Hid (LInv w wx s5 out))
    case atStart => exact ⟨s, [], rfl, Nat.le_refl _, by simp, hq, Lib.hid (LInv.start w)⟩
    case round =>
      obtain ⟨rest, out, rfl, hr, hgs, HN, HL⟩ := hrel
      by_cases h0 : rest = []
      · subst h0
        have E := HN.out
        rw [scan_nil] at E
        subst E
        clear HN
        go_wp2
        go_ret3
        obtain ⟨vs, _, _, hb⟩ := HL.out
        exact ⟨_, rfl, HL.out.ll, hb⟩
      · obtain ⟨z1, z2, z3⟩ := not_nil (List.length_pos_iff.2 h0)
        obtain ⟨vs, ho, hrows, hbw⟩ := HL.out
        have hG := hg.below hbw
        have hsz := hbw.size
        rcases cut_one 10 rest with ⟨tt, r, e1, e2, e3⟩ | ⟨e2, e3⟩
        · have KC := cut_any rest tt r true e3 wr hG (by omega)
          have htl : tt.length + 1 + r.length = rest.length := by rw [e1]; simp; omega
          have S := HN.out
          rw [e1, scan_step out tt r e2] at S
          have KP := fun ww => parts_any tt ww (by omega)
          have KL := fun v ww hh => isLine_any v (cutA 32 [] tt) ww hh (fun x hx => by have := cutA_len 32 tt [] x hx; simp at this; omega)
          obtain ⟨ps, hps⟩ : ∃ ps, cutA 32 [] tt = ps := ⟨_, rfl⟩
          rw [hps] at S
          simp only [hps] at KP KL
          replace hps := Lib.hid hps
          replace e1 := Lib.hid e1
          replace e2 := Lib.hid e2
          replace e3 := Lib.hid e3
          clear HN h0
          cases hi : isL ps with
          | true =>
            rw [hi, if_pos rfl] at S
            simp only [hi] at KL
            replace hi := Lib.hid hi
            replace S := Lib.hid S
            have hol : out.length ≤ 100000 := by omega
            go_wp2_with (first
              | (go_at_call 38; refine KC.mono ?_; rintro e w1 ⟨rfl, b1⟩)
              | (go_at_call 39; refine (KP _).mono ?_; rintro e w2 ⟨v2, rfl, r2, b2⟩; obtain ⟨a2, c2, rfl⟩ := own_slice r2)
              | (go_at_call 40; refine (KL _ _ (RS.own r2)).mono ?_; rintro e w3 ⟨rfl, b3⟩)
              | (at_builtin
                 have bb := b1.trans ((b2.mono b1.size).trans (b3.mono (Nat.le_trans b1.size b2.size)))
                 have r3 := own_mono (own_below r2 b3) (show w.heap.size ≤ w1.heap.size from Nat.le_trans hsz b1.size)
                 have ho3 := own_below ho bb
                 have hr3 := hrows.below bb
                 have hb3 := hbw.trans (bb.mono hsz)
                 have hs3 := hb3.size
                 refine wpList_push _ rfl _ _ 39 rfl w.heap.size 22 (.slice none 0 0) 1 24 Tryz.underlying39 info_strs rfl (by omega) u5 out.length _ rfl ho3 [.slice a2 ps.length c2] rfl rfl (one_slice _ _ _) (by omega) (by omega) hs3 ?_
                 intro v1 w4 p1 gr1 nb1
                 have HP1 := Lib.hid (LInv.push ho3 hr3 hb3 r3 p1 gr1)
                 clear nb1 gr1 p1 ho3 hr3 hb3 r3 bb))
            go_roundg r.length
            case measure => omega
            case rel => exact ⟨r, out ++ [ps], rfl, Nat.le_refl _, ⟨by omega, by simp; omega⟩, S, HP1⟩
          | false =>
            rw [hi, if_neg (by decide)] at S
            subst S
            obtain ⟨a5, c5, rfl⟩ := own_slice ho
            simp only [hi] at KL
            replace hi := Lib.hid hi
            go_wp2_with (first
              | (go_at_call 38; refine KC.mono ?_; rintro e w1 ⟨rfl, b1⟩)
              | (go_at_call 39; refine (KP _).mono ?_; rintro e w2 ⟨v2, rfl, r2, b2⟩; obtain ⟨a2, c2, rfl⟩ := own_slice r2)
              | (go_at_call 40; refine (KL _ _ (RS.own r2)).mono ?_; rintro e w3 ⟨rfl, b3⟩))
            go_ret3
            have bb := b1.trans ((b2.mono b1.size).trans (b3.mono (Nat.le_trans b1.size b2.size)))
            exact ⟨_, rfl, LL.nil _ _ _, hbw.trans (bb.mono hsz)⟩
        · have KC := cut_any rest rest [] false e3 wr hG (by omega)
          have KP := fun ww => parts_any rest ww (by omega)
          have E := HN.out
          rw [scan_left out rest e2 h0] at E
          subst E
          obtain ⟨a5, c5, rfl⟩ := own_slice ho
          replace e2 := Lib.hid e2
          replace e3 := Lib.hid e3
          clear HN h0
          go_wp2_with (first
            | (go_at_call 38; refine KC.mono ?_; rintro e w1 ⟨rfl, b1⟩)
            | (go_at_call 39; refine (KP _).mono ?_; rintro e w2 ⟨v2, rfl, r2, b2⟩; obtain ⟨a2, c2, rfl⟩ := own_slice r2))
          go_ret3
          have bb := b1.trans (b2.mono b1.size)
          exact ⟨_, rfl, LL.nil _ _ _, hbw.trans (bb.mono hsz)⟩
end
section
open Go.ChangeShapes Go.WideShapes Go.ChangeAt Go.RowKit
def RInv (w wx : World) (v : Value) (out : List (List L8)) (u : Value) (line : List L8) : Prop :=
  ∃ vs, wx.ownsRow w.heap.size 22 1 v out.length vs ∧ RowsO w.heap.size wx vs out ∧ wx.ownsRow w.heap.size 9 1 u line.length (strsV line) ∧ (∀ (j : Nat) x, vs[j]? = some x → ∀ g, x.ownBlock = some g → u.ownBlock ≠ some g) ∧ Below w.heap.size w wx
theorem RInv.start (w : World) : RInv w w (.slice none 0 0) [] (.slice none 0 0) [] :=
  ⟨[], World.ownsRow_nil _ _ _ _, RowsO.nil _ _, World.ownsRow_nil _ _ _ _, fun j x hx => by simp at hx, Below.refl _ _⟩
theorem RInv.word {w wx w1 : World} {v u u1 : Value} {out : List (List L8)} {line : List L8} {x : L8} (h : RInv w wx v out u line) (ho : w1.ownsRow w.heap.size 9 1 u1 (line.length + 1) (strsV line ++ [str x])) (hg : wx.grownBy w1 u.ownBlock)
    (hn : ∀ g, u1.ownBlock = some g → u.ownBlock = some g ∨ wx.heap.size ≤ g) : RInv w w1 v out u1 (line ++ [x]) := by
  obtain ⟨vs, h1, h2, h3, h4, h5⟩ := h
  refine ⟨vs, own_kept h1 hg (fun g e => ?_), h2.kept hg h4, by rw [List.length_append, strsV_snoc]; exact ho, fun j y hy g e hu => ?_, below_grown h5 hg h3 (Nat.le_refl _) h5.size⟩
  · intro e2
    exact own_types h3 h1 (by decide) g e2 e
  · rcases hn g hu with h | h
    · exact h4 j y hy g e h
    · have := h2.lt j y hy g e
      omega
theorem RInv.line {w wx w1 : World} {v v1 u : Value} {vs : List Value} {out : List (List L8)} {line : List L8} (h1 : wx.ownsRow w.heap.size 22 1 v out.length vs) (h2 : RowsO w.heap.size wx vs out) (h3 : wx.ownsRow w.heap.size 9 1 u line.length (strsV line)) (h5 : Below w.heap.size w wx)
    (ho : w1.ownsRow w.heap.size 22 1 v1 (out.length + 1) (vs ++ [u])) (hg : wx.grownBy w1 v.ownBlock) : RInv w w1 v1 (out ++ [line]) (.slice none 0 0) [] := by
  obtain ⟨ws, k1, k2, k3⟩ := LInv.push h1 h2 h5 h3 ho hg
  exact ⟨ws, k1, k2, World.ownsRow_nil _ _ _ _, fun j x hx g _ => by simp [Value.ownBlock], k3⟩
theorem scan_end {out : List (List L8)} {line : List L8} {cur : L8} : scan out line cur [] = if cur = [] ∧ line = [] then .ok out else .bad (out.length + 1) := by rw [scan]
theorem scan_cons {out : List (List L8)} {line : List L8} {cur r : L8} {b : UInt8} : scan out line cur (b :: r) = if b = 32 ∨ b = 10 then (if isW cur then (if b = 10 then scan (out ++ [line ++ [cur]]) [] [] r else scan out (line ++ [cur]) [] r) else .bad (out.length + 1)) else scan out line (cur ++ [b]) r := by rw [scan]
theorem piece_nil {s : L8} {f : Nat} (hf : f ≤ s.length) : piece s f s.length = [] ↔ f = s.length := by
  unfold piece
  rw [List.take_of_length_le (by simp), List.drop_eq_nil_iff]
  omega
end
end Go.Proofs.YteafkginhejllaaGreatDoor
