/- Contracts of isLine and parts. Conditions: the text's length; the words' lengths. -/
import Derived.Test.YtblcigddinmiaaaDoorFmt5
namespace Go.Proofs.YtblcigddinmiaaaDoor
open Go.ChangeShapes Go.WideShapes Go.ChangeAt Go.RowKit
theorem all_takeS {l : List L8} {k : Nat} {y : L8} (hy : l[k]? = some y) (h : (l.take k).all isW = true) (hp : isW y = true) : (l.take (k + 1)).all isW = true := by
  obtain ⟨h1, h2⟩ := List.getElem?_eq_some_iff.1 hy
  rw [List.take_succ_eq_append_getElem h1, List.all_append, h, h2]; simp [hp]
theorem isL_bad {l : List L8} {k : Nat} {y : L8} (hy : l[k]? = some y) (hp : isW y = false) : isL l = false := by
  rw [← Bool.not_eq_true]; intro h
  have := isL_all h y (List.mem_of_getElem? hy)
  rw [hp] at this; cases this
set_option maxRecDepth 100000 in
set_option maxHeartbeats 1000000 in
theorem isLine_any (v : Value) (l : List L8) (w : World) (hr : RS w v (strsV l)) (hl : ∀ x ∈ l, x.length ≤ 100000) :
    Calls Tryd.prog 31 #[v] w (RetB w (isL l)) := by
  obtain ⟨a, cap, rfl, ⟨hm, _⟩, HC⟩ := hr.openS
  obtain ⟨q, hq⟩ : ∃ q, isL l = q := ⟨_, rfl⟩
  rw [hq]
  replace hq := Lib.hid hq
  clear hr
  go_enter Tryd.func31, Tryd.ntmps31
  go_wp2
  go_loopg [7] l.length (fun g s7 wx => ∃ (k : Nat), s7 = .int .i64 k ∧ k + g = l.length ∧ Hid ((l.take k).all isW = true) ∧ Below w.heap.size w wx)
  case atStart => exact ⟨0, rfl, by omega, Lib.hid rfl, Below.refl _ _⟩
  case round =>
    obtain ⟨k, rfl, hg, HN, hbw⟩ := hrel
    cases gk with
    | zero =>
      have h : ¬ ((k : Int) < (l.length : Int)) := by omega
      have HA := HN.out
      rw [List.take_of_length_le (by omega)] at HA
      have E := Lib.hid (show decide (0 < l.length) = q by rw [← hq.out, isL, HA]; rfl)
      replace HA := Lib.hid HA
      clear HN
      go_wp2
      go_ret
      exact ⟨ret1_bool E.out, hbw⟩
    | succ g =>
      have h : ((k : Int) < (l.length : Int)) := by omega
      obtain ⟨y, hy, _, hmem⟩ := at_take (l := l) (k := k) (by omega)
      obtain ⟨b, off, rfl, hlt, hcell⟩ := HC.out.rd hbw hy
      have K := isWord_any y wr (by have := hl y hmem; omega)
      cases hw : isW y with
      | true =>
        rw [hw] at K
        have N := Lib.hid (all_takeS hy HN.out hw)
        replace hy := Lib.hid hy
        replace hw := Lib.hid hw
        clear HN
        go_wp2_with (go_at_call 46; refine K.mono ?_; rintro e w1 ⟨rfl, b1⟩)
        go_roundg g
        case measure => omega
        case rel => exact ⟨k + 1, by go_num, by omega, N, hbw.trans (b1.mono hbw.size)⟩
      | false =>
        rw [hw] at K
        have Q := hq.out
        rw [isL_bad hy hw] at Q
        subst Q
        replace hy := Lib.hid hy
        replace hw := Lib.hid hw
        clear HN
        go_wp2_with (go_at_call 46; refine K.mono ?_; rintro e w1 ⟨rfl, b1⟩)
        go_ret
        exact ⟨rfl, hbw.trans (b1.mono hbw.size)⟩
/-- A list of texts is handed back; nothing that was there has changed. -/
def RetS (w : World) (l : List L8) (e : Ending) (w' : World) : Prop := ∃ v, e = .returned v ∧ w'.ownsRow w.heap.size 9 1 v l.length (strsV l) ∧ Below w.heap.size w w'
def piece (s : L8) (f p : Nat) : L8 := (s.drop f).take (p - f)
theorem piece_at {s : L8} {f p : Nat} (hf : f ≤ p) (hp : p ≤ s.length) : ∀ ww : World, (Instr.slice 9 (.string ⟨s.toArray⟩) (some (.int .i64 (f : Int))) (some (.int .i64 (p : Int))) none).run Tryd.prog ww = .ok (str (piece s f p)) ww := by
  intro ww
  rw [run_slice_string ww 9 _ _ _ _ _ Tryd.underlying9 (by omega) (by omega) (by rw [sb_size]; omega), ByteArray.extract_mk]
  rfl
theorem str_from {s : List UInt8} {e : Nat} (he : e ≤ s.length) : ∀ ww : World, (Instr.slice 9 (.string ⟨s.toArray⟩) (some (.int .i64 (e : Int))) none none).run Tryd.prog ww = .ok (str (s.drop e)) ww := by
  intro ww
  rw [run_slice_string_from_if ww 9 _ _ _ Tryd.underlying9, if_pos ⟨by omega, by rw [sb_size]; omega⟩, ByteArray.extract_mk]
  rw [Int.toNat_natCast, sb_size]
  rw [List.take_of_length_le (by simp)]
theorem piece_end {s : L8} {f p : Nat} (hp : s.length ≤ p) : piece s f p = s.drop f := by
  unfold piece
  rw [List.take_of_length_le (by simp; omega)]
theorem piece_len {s : L8} {f p : Nat} : (piece s f p).length ≤ s.length := by unfold piece; simp; omega
theorem piece_self (s : L8) (p : Nat) : piece s p p = [] := by simp [piece]
theorem piece_run {s : L8} {f p n : Nat} (hf : f ≤ p) : piece s f p ++ (s.drop p).take n = piece s f (p + n) := by
  unfold piece
  rw [show p + n - f = (p - f) + n by omega, List.take_add, List.drop_drop, show f + (p - f) = p by omega]
theorem cutA_at {c : UInt8} {s : L8} {f p : Nat} (hb : s[p]? = some c) : cutA c (piece s f p) (s.drop p) = piece s f p :: cutA c [] (s.drop (p + 1)) := by
  obtain ⟨h1, h2⟩ := List.getElem?_eq_some_iff.1 hb
  rw [List.drop_eq_getElem_cons h1, h2, cutA, if_pos rfl]
theorem cutA_over {c : UInt8} {s : L8} {f p n : Nat} (hf : f ≤ p) (h : ∀ j, j < n → s[p + j]? ≠ some c) : cutA c (piece s f p) (s.drop p) = cutA c (piece s f (p + n)) (s.drop (p + n)) := by
  have e : s.drop p = (s.drop p).take n ++ s.drop (p + n) := by
    rw [← List.drop_drop, List.take_append_drop]
  have hn : c ∉ (s.drop p).take n := by
    intro hm
    obtain ⟨j, hj⟩ := List.mem_iff_getElem?.1 hm
    rw [List.getElem?_take] at hj
    split at hj
    · rename_i hjn
      rw [List.getElem?_drop] at hj
      exact h j hjn hj
    · cases hj
  rw [e, cutA_run c _ _ _ hn, piece_run hf]
/-- What stands behind some rounds of parts. -/
def PInv (w : World) (s : L8) (wx : World) (pos : Nat) (v : Value) (done : List L8) : Prop :=
  wx.heap[w.heap.size]? = some (.stringIter (sb s) pos) ∧ wx.ownsRow (w.heap.size + 1) 9 1 v done.length (strsV done) ∧ Below w.heap.size w wx ∧ w.heap.size + 1 ≤ wx.heap.size
theorem PInv.start (w : World) (s : L8) : PInv w s (w.iter (sb s) 0) 0 (.slice none 0 0) [] :=
  ⟨World.iter_heap _ _ _, World.ownsRow_nil _ _ _ _, below_iter _ _ _, by simp [World.iter]⟩
theorem PInv.next {w wx : World} {s : L8} {pos : Nat} {v : Value} {done : List L8} (h : PInv w s wx pos v done) (p : Nat) : PInv w s (wx.iterAt w.heap.size (sb s) p) p v done := by
  obtain ⟨h1, h2, h3, h4⟩ := h
  refine ⟨Lib.iterAt_heap _ _ _ _ _ h1, ?_, Lib.below_iterAt h3 (Nat.le_refl _) _ _, by rw [Lib.iterAt_size]; exact h4⟩
  refine h2.kept (row := some w.heap.size) ⟨rfl, rfl, rfl, by rw [Lib.iterAt_size]; exact Nat.le_refl _, fun k _ hk => Lib.iterAt_other _ _ _ _ _ (fun e => hk (by rw [e]))⟩ (Or.inr fun e => ?_)
  have := (h2.lt _ e).1
  omega
theorem PInv.push {w wx w1 : World} {s : L8} {pos : Nat} {v v1 : Value} {done : List L8} {x : L8} (h : PInv w s wx pos v done) (ho : w1.ownsRow (w.heap.size + 1) 9 1 v1 (done.length + 1) (strsV done ++ [str x])) (hg : wx.grownBy w1 v.ownBlock) : PInv w s w1 pos v1 (done ++ [x]) := by
  obtain ⟨h1, h2, h3, h4⟩ := h
  refine ⟨?_, by rw [List.length_append, strsV_snoc]; exact ho, below_grown h3 hg h2 (by omega) (by omega), Nat.le_trans h4 hg.size⟩
  rw [hg.block _ (by omega) (fun e => by have := (h2.lt _ e.symm).1; omega)]
  exact h1
set_option maxRecDepth 100000 in
set_option maxHeartbeats 1000000 in
theorem parts_any (s : L8) (w : World) (hl : s.length ≤ 100000) :
    Calls Tryd.prog 30 #[str s] w (RetS w (cutA 32 [] s)) := by
  obtain ⟨q, hq⟩ : ∃ q, cutA 32 [] s = q := ⟨_, rfl⟩
  have hql : q.length ≤ 100001 := by rw [← hq]; have := cutA_le 32 s []; omega
  rw [hq]
  have hs := Lib.hid (sb_size s)
  have H0 := Lib.hid (show ([] : List L8) ++ cutA 32 (piece s 0 0) (s.drop 0) = q by rw [piece_self]; exact hq)
  replace hq := Lib.hid hq
  go_enter Tryd.func30, Tryd.ntmps30
  go_wp2
  go_loopg [3, 4] s.length (fun g s3 s4 wx => ∃ (pos f : Nat) (done : List L8), s4 = .int .i64 f ∧ f ≤ pos ∧ pos + g = s.length ∧ Hid (PInv w s wx pos s3 done) ∧ Hid (done ++ cutA 32 (piece s f pos) (s.drop pos) = q))
  case atStart => exact ⟨0, 0, [], rfl, by omega, by omega, Lib.hid (PInv.start w s), H0⟩
  case round =>
    obtain ⟨pos, f, done, rfl, hf, hg, HP, HN⟩ := hrel
    clear H0
    have hit := HP.out.1
    have hdl : done.length ≤ 100000 := by
      have := congrArg List.length HN.out
      have h2 := cutA_pos 32 (s.drop pos) (piece s f pos)
      rw [List.length_append] at this; omega
    have hsz : w.heap.size + 1 ≤ wr.heap.size := HP.out.2.2.2
    cases gk with
    | zero =>
      have hnx : ∀ ty, (Instr.next (.pointer (some ⟨w.heap.size, 0, none⟩)) true ty).run Tryd.prog wr = .ok (.tuple #[.bool false]) wr := fun ty => Lib.run_next_end_at wr w.heap.size (sb s) pos ty hit (by rw [sb_lt]; omega)
      have X := str_from (s := s) (e := f) (by omega)
      have E := Lib.hid (show done ++ [s.drop f] = q by
        have := HN.out
        rw [show s.drop pos = [] from List.drop_eq_nil_of_le (by omega), piece_end (by omega)] at this
        exact this)
      obtain ⟨x, hx⟩ : ∃ x, s.drop f = x := ⟨_, rfl⟩
      rw [hx] at X E
      replace hx := Lib.hid hx
      replace hit := Lib.hid hit
      have ho := HP.out.2.1
      clear HN
      go_wp2_with (at_builtin
                   refine wpList_push _ rfl _ _ 33 rfl (w.heap.size + 1) 9 (.string ByteArray.empty) 1 16 Tryd.underlying33 info_str rfl (by omega) u3 done.length _ rfl ho [str x] rfl rfl (one_str x) (by omega) (by omega) hsz ?_
                   intro v1 w1 p1 gr1 nb1
                   have HP1 := Lib.hid (HP.out.push p1 gr1)
                   clear nb1 gr1 p1 ho)
      go_ret
      refine ⟨_, rfl, ?_, HP1.out.2.2.1⟩
      rw [← E.out]
      exact own_mono HP1.out.2.1 (by omega)
    | succ g =>
      obtain ⟨b, hb⟩ := at_get (l := s) (k := pos) (by omega)
      have hr := rune_at hb
      have hnx : ∀ ty, (Instr.next (.pointer (some ⟨w.heap.size, 0, none⟩)) true ty).run Tryd.prog wr = _ := fun ty => Lib.run_next_any_at wr w.heap.size (sb s) pos ty hit (by rw [sb_lt]; omega)
      obtain ⟨r, hrr⟩ : ∃ r, (Utf8.decode (sb s) pos).1 = r := ⟨_, rfl⟩
      obtain ⟨n, hnn⟩ : ∃ n, (Utf8.decode (sb s) pos).2 = n := ⟨_, rfl⟩
      rw [hrr, hnn] at hr
      simp only [hrr, hnn] at hnx
      replace hrr := Lib.hid hrr
      replace hnn := Lib.hid hnn
      replace hit := Lib.hid hit
      by_cases h32 : b = 32
      · obtain ⟨rfl, rfl⟩ : r = 32 ∧ n = 1 := by
          subst h32
          rcases hr with h | h
          · exact h.2
          · have := h.1; simp at this
        subst h32
        have X := piece_at (s := s) (f := f) (p := pos) hf (by omega)
        have N := Lib.hid (show (done ++ [piece s f pos]) ++ cutA 32 (piece s (pos + 1) (pos + 1)) (s.drop (pos + 1)) = q by
          rw [← HN.out, cutA_at hb, piece_self]; simp)
        obtain ⟨x, hx⟩ : ∃ x, piece s f pos = x := ⟨_, rfl⟩
        rw [hx] at X N
        replace hx := Lib.hid hx
        have HP0 := HP.out.next (pos + 1)
        have ho := HP0.2.1
        have hsz2 := HP0.2.2.2
        replace HP0 := Lib.hid HP0
        replace hb := Lib.hid hb
        clear HN hr HP
        go_wp2_with (at_builtin
                     refine wpList_push _ rfl _ _ 33 rfl (w.heap.size + 1) 9 (.string ByteArray.empty) 1 16 Tryd.underlying33 info_str rfl (by omega) u3 done.length _ rfl ho [str x] rfl rfl (one_str x) (by omega) (by omega) hsz2 ?_
                     intro v1 w1 p1 gr1 nb1
                     have HP1 := Lib.hid (HP0.out.push p1 gr1)
                     clear nb1 gr1 p1 ho hsz2)
        go_roundg g
        case measure => omega
        case rel => exact ⟨pos + 1, pos + 1, done ++ [x], by go_num, by omega, by omega, HP1, N⟩
      · have h32' : ((r : Int) == 32) = false := by
          rw [← Bool.not_eq_true]; intro e
          have := eq_of_beq e
          rcases hr with h | h
          · exact h32 (UInt8.toNat_inj.1 (by show b.toNat = 32; omega))
          · omega
        have hn : ∀ j, j < n → s[pos + j]? ≠ some 32 := by
          rcases hr with h | h
          · intro j hj e
            obtain rfl : j = 0 := by omega
            rw [Nat.add_zero, hb] at e
            exact h32 (Option.some.inj e)
          · intro j hj e
            obtain ⟨c, hc, h128⟩ := h.2.2.2.2.2 j hj
            rw [hc] at e
            have := Option.some.inj e
            subst this
            simp at h128
        have hnp : 1 ≤ n ∧ pos + n ≤ s.length := by rcases hr with h | h <;> omega
        have N := Lib.hid (show done ++ cutA 32 (piece s f (pos + n)) (s.drop (pos + n)) = q by rw [← HN.out, cutA_over hf hn])
        have HP0 := Lib.hid (HP.out.next (pos + n))
        replace hb := Lib.hid hb
        clear HN hr HP hn h32
        go_wp2
        go_roundg (s.length - (pos + n))
        case measure => omega
        case rel => exact ⟨pos + n, f, done, rfl, by omega, by omega, HP0, N⟩
end Go.Proofs.YtblcigddinmiaaaDoor
