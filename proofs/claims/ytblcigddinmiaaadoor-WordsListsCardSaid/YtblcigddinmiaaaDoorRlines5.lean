/- Contract of the reference's Lines. Conditions: the text's length. -/
import Derived.Test.YtblcigddinmiaaaDoorLines5
namespace Go.Proofs.YtblcigddinmiaaaDoor
open Go.ChangeShapes Go.WideShapes Go.ChangeAt Go.RowKit
def RInv (w wx : World) (v : Value) (out : List (List L8)) (u : Value) (line : List L8) : Prop :=
  ∃ vs, wx.ownsRow w.heap.size 33 1 v out.length vs ∧ RowsO w.heap.size wx vs out ∧ wx.ownsRow w.heap.size 9 1 u line.length (strsV line) ∧ (∀ (j : Nat) x, vs[j]? = some x → ∀ g, x.ownBlock = some g → u.ownBlock ≠ some g) ∧ Below w.heap.size w wx
theorem RInv.start (w : World) : RInv w w (.slice none 0 0) [] (.slice none 0 0) [] :=
  ⟨[], World.ownsRow_nil _ _ _ _, RowsO.nil _ _, World.ownsRow_nil _ _ _ _, fun j x hx => by simp at hx, Below.refl _ _⟩
theorem RInv.word {w wx w1 : World} {v u u1 : Value} {out : List (List L8)} {line : List L8} {x : L8} (h : RInv w wx v out u line) (ho : w1.ownsRow w.heap.size 9 1 u1 (line.length + 1) (strsV line ++ [str x])) (hg : wx.grownBy w1 u.ownBlock)
    (hn : ∀ g, u1.ownBlock = some g → u.ownBlock = some g ∨ wx.heap.size ≤ g) : RInv w w1 v out u1 (line ++ [x]) := by
  obtain ⟨vs, h1, h2, h3, h4, h5⟩ := h
  refine ⟨vs, own_kept h1 hg (fun g e => ?_), h2.kept hg h4, by rw [List.length_append, strsV_snoc]; exact ho, fun j y hy g e hu => ?_, below_grown h5 hg h3 (Nat.le_refl _) h5.size⟩
  · intro e2
    exact own_types h3 h1 (by decide) g e2 e
  · rcases hn g hu with h | h
    · exact h4 j y hy g e h
    · have := h2.lt j y hy g e
      omega
theorem RInv.line {w wx w1 : World} {v v1 u : Value} {vs : List Value} {out : List (List L8)} {line : List L8} (h1 : wx.ownsRow w.heap.size 33 1 v out.length vs) (h2 : RowsO w.heap.size wx vs out) (h3 : wx.ownsRow w.heap.size 9 1 u line.length (strsV line)) (h5 : Below w.heap.size w wx)
    (ho : w1.ownsRow w.heap.size 33 1 v1 (out.length + 1) (vs ++ [u])) (hg : wx.grownBy w1 v.ownBlock) : RInv w w1 v1 (out ++ [line]) (.slice none 0 0) [] := by
  obtain ⟨ws, k1, k2, k3⟩ := LInv.push h1 h2 h5 h3 ho hg
  exact ⟨ws, k1, k2, World.ownsRow_nil _ _ _ _, fun j x hx g _ => by simp [Value.ownBlock], k3⟩
theorem scan_end {out : List (List L8)} {line : List L8} {cur : L8} : scan out line cur [] = if cur = [] ∧ line = [] then .ok out else .bad (out.length + 1) := by rw [scan]
theorem scan_cons {out : List (List L8)} {line : List L8} {cur r : L8} {b : UInt8} : scan out line cur (b :: r) = if b = 32 ∨ b = 10 then (if isW cur then (if b = 10 then scan (out ++ [line ++ [cur]]) [] [] r else scan out (line ++ [cur]) [] r) else .bad (out.length + 1)) else scan out line (cur ++ [b]) r := by rw [scan]
theorem piece_nil {s : L8} {f : Nat} (hf : f ≤ s.length) : piece s f s.length = [] ↔ f = s.length := by
  unfold piece
  rw [List.take_of_length_le (by simp), List.drop_eq_nil_iff]
  omega
set_option maxRecDepth 100000 in
set_option maxHeartbeats 4000000 in
theorem rlines_any (s : L8) (w : World) (hl : s.length ≤ 100000) :
    Calls Tryd.prog 13 #[str s] w (RetLL w (linesR s)) := by
  have hs := Lib.hid (sb_size s)
  by_cases hlong : 32768 < s.length
  · rw [linesR_long hlong]
    have t : ((32768 : Int) < (s.length : Int)) := by omega
    go_enter Tryd.func13, Tryd.ntmps13
    go_wp2
    go_ret3
    exact ⟨_, rfl, LL.nil _ _ _, Below.refl _ _⟩
  · rw [linesR_of hlong]
    have t : ¬ ((32768 : Int) < (s.length : Int)) := by omega
    obtain ⟨q, hq⟩ : ∃ q, scan [] [] [] s = q := ⟨_, rfl⟩
    rw [hq]
    have H0 := Lib.hid (show scan [] [] (piece s 0 0) (s.drop 0) = q by rw [piece_self]; exact hq)
    replace hq := Lib.hid hq
    clear hlong
    go_enter Tryd.func13, Tryd.ntmps13
    go_wp2
    go_loopg [5, 6, 7, 8] s.length (fun g s5 s6 s7 s8 wx => ∃ (k f : Nat) (out : List (List L8)) (line : List L8), s7 = .int .i64 f ∧ s8 = .int .i64 k ∧ f ≤ k ∧ k + g = s.length ∧ (out.length ≤ k ∧ line.length ≤ k) ∧ Hid (scan out line (piece s f k) (s.drop k) = q) ∧ Hid (RInv w wx s5 out s6 line))
    case atStart => exact ⟨0, 0, [], [], rfl, rfl, by omega, by omega, by simp, H0, Lib.hid (RInv.start w)⟩
    case round =>
      obtain ⟨k, f, out, line, rfl, rfl, hf, hg, hb, HN, HR⟩ := hrel
      clear H0
      obtain ⟨vs, ho, hrows, hline, hapart, hbw⟩ := HR.out
      have hsz := hbw.size
      cases gk with
      | zero =>
        have h : ¬ ((k : Int) < (s.length : Int)) := by omega
        have E := HN.out
        rw [show s.drop k = [] from List.drop_eq_nil_of_le (by omega), scan_end, show k = s.length by omega] at E
        obtain ⟨a5, c5, rfl⟩ := own_slice ho
        obtain ⟨a6, c6, rfl⟩ := own_slice hline
        clear HN
        by_cases h1 : f = s.length
        · have t1 : ¬ ((f : Int) < (s.length : Int)) := by omega
          by_cases h2 : line = []
          · rw [if_pos ⟨(piece_nil (by omega)).2 h1, h2⟩] at E
            subst E
            subst h2
            clear h1
            go_wp2
            go_ret3
            exact ⟨_, rfl, LL.of (RS.own ho) hrows.rows, hbw⟩
          · rw [if_neg (fun e => h2 e.2)] at E
            subst E
            have t2 : 0 < line.length := List.length_pos_iff.2 h2
            have t3 : (0 : Int) < (line.length : Int) := by omega
            clear h1 h2
            go_wp2
            go_ret3
            exact ⟨_, rfl, LL.nil _ _ _, hbw⟩
        · rw [if_neg (fun e => h1 ((piece_nil (by omega)).1 e.1))] at E
          subst E
          have t1 : ((f : Int) < (s.length : Int)) := by omega
          go_wp2
          go_ret3
          exact ⟨_, rfl, LL.nil _ _ _, hbw⟩
      | succ g =>
        have h : ((k : Int) < (s.length : Int)) := by omega
        obtain ⟨b, hbb⟩ := at_get (l := s) (k := k) (by omega)
        have hi := at_idx hbb hs
        have E := HN.out
        have hd : s.drop k = b :: s.drop (k + 1) := by
          obtain ⟨h1, h2⟩ := List.getElem?_eq_some_iff.1 hbb
          rw [List.drop_eq_getElem_cons h1, h2]
        rw [hd, scan_cons] at E
        have X := piece_at (s := s) (f := f) (p := k) hf (by omega)
        have P0 := piece_run (s := s) (f := f) (p := k) (n := 1) hf
        rw [hd] at P0
        have P1 : piece s f k ++ [b] = piece s f (k + 1) := P0
        have P2 := piece_self s (k + 1)
        have hpl := piece_len (s := s) (f := f) (p := k)
        obtain ⟨x, hx⟩ : ∃ x, piece s f k = x := ⟨_, rfl⟩
        rw [hx] at E X P1 hpl
        have KW := fun ww => rword_any x ww (by omega)
        replace hx := Lib.hid hx
        replace hbb := Lib.hid hbb
        clear HN P0 hd
        by_cases c32 : b = 32
        · rw [if_pos (Or.inl c32), if_neg (by rw [c32]; decide : ¬ b = 10)] at E
          have e32 : (b.toNat : Int) = 32 := by subst c32; rfl
          cases hw : isW x with
          | true =>
            rw [hw, if_pos rfl, ← P2] at E
            simp only [hw] at KW
            replace E := Lib.hid E
            replace P1 := Lib.hid P1
            replace P2 := Lib.hid P2
            replace hw := Lib.hid hw
            replace c32 := Lib.hid c32
            go_wp2_with (first
              | (go_at_call 32; refine (KW _).mono ?_; rintro e w' ⟨rfl, rfl⟩)
              | (at_builtin
                 refine wpList_push _ rfl _ _ 33 rfl w.heap.size 9 (.string ByteArray.empty) 1 16 Tryd.underlying33 info_str rfl (by omega) u6 line.length _ rfl hline [str x] rfl rfl (one_str x) (by omega) (by omega) hsz ?_
                 intro v1 w1 p1 gr1 nb1
                 have HP1 := Lib.hid (HR.out.word p1 gr1 nb1)
                 clear nb1 gr1 p1))
            go_roundg g
            case measure => omega
            case rel => exact ⟨k + 1, k + 1, out, line ++ [x], by go_num, by go_num, by omega, by omega, ⟨by omega, by simp; omega⟩, E, HP1⟩
          | false =>
            rw [hw, if_neg (by decide)] at E
            subst E
            simp only [hw] at KW
            replace hw := Lib.hid hw
            replace c32 := Lib.hid c32
            obtain ⟨a5, c5, rfl⟩ := own_slice ho
            go_wp2_with (go_at_call 32; refine (KW _).mono ?_; rintro e w' ⟨rfl, rfl⟩)
            go_ret3
            exact ⟨_, rfl, LL.nil _ _ _, hbw⟩
        · by_cases c10 : b = 10
          · rw [if_pos (Or.inr c10), if_pos c10] at E
            have e10 : (b.toNat : Int) = 10 := by subst c10; rfl
            cases hw : isW x with
            | true =>
              rw [hw, if_pos rfl, ← P2] at E
              simp only [hw] at KW
              replace E := Lib.hid E
              replace P1 := Lib.hid P1
              replace P2 := Lib.hid P2
              replace hw := Lib.hid hw
              replace c10 := Lib.hid c10
              replace c32 := Lib.hid c32
              go_wp2_with (first
                | (go_at_call 32; refine (KW _).mono ?_; rintro e w' ⟨rfl, rfl⟩)
                | (at_builtin
                   refine wpList_push _ rfl _ _ 33 rfl w.heap.size 9 (.string ByteArray.empty) 1 16 Tryd.underlying33 info_str rfl (by omega) u6 line.length _ rfl hline [str x] rfl rfl (one_str x) (by omega) (by omega) hsz ?_
                   intro v1 w1 p1 gr1 nb1
                   have HP1 := Lib.hid (HR.out.word p1 gr1 nb1)
                   clear nb1 gr1 p1
                   obtain ⟨vs1, ho1, hrows1, hline1, hapart1, hbw1⟩ := HP1.out
                   obtain ⟨a6, c6, hu6⟩ := own_slice hline1
                   rw [show (line ++ [x]).length = line.length + 1 by simp] at hu6
                   subst hu6
                   have hsz1 := hbw1.size)
                | (at_builtin
                   refine wpList_push _ rfl _ _ 23 rfl w.heap.size 33 (.slice none 0 0) 1 24 Tryd.underlying23 info_strs rfl (by omega) u5 out.length _ rfl ho1 [.slice a6 (line.length + 1) c6] rfl rfl (one_slice _ _ _) (by omega) (by omega) hsz1 ?_
                   intro v2 w2 p2 gr2 nb2
                   have HP2 := Lib.hid (RInv.line ho1 hrows1 hline1 hbw1 p2 gr2)
                   clear nb2 gr2 p2))
              go_roundg g
              case measure => omega
              case rel => exact ⟨k + 1, k + 1, out ++ [line ++ [x]], [], by go_num, by go_num, by omega, by omega, ⟨by simp; omega, by simp⟩, E, HP2⟩
            | false =>
              rw [hw, if_neg (by decide)] at E
              subst E
              simp only [hw] at KW
              replace hw := Lib.hid hw
              replace c10 := Lib.hid c10
              replace c32 := Lib.hid c32
              obtain ⟨a5, c5, rfl⟩ := own_slice ho
              go_wp2_with (go_at_call 32; refine (KW _).mono ?_; rintro e w' ⟨rfl, rfl⟩)
              go_ret3
              exact ⟨_, rfl, LL.nil _ _ _, hbw⟩
          · rw [if_neg (by simp [c32, c10]), P1] at E
            replace E := Lib.hid E
            replace P1 := Lib.hid P1
            have e32 : ¬ (b.toNat : Int) = 32 := fun e => c32 (UInt8.toNat_inj.1 (by show b.toNat = 32; omega))
            have e10 : ¬ (b.toNat : Int) = 10 := fun e => c10 (UInt8.toNat_inj.1 (by show b.toNat = 10; omega))
            have g32 : ((b.toNat : Int) != 32) = true := by simp [bne]; omega
            have g10 : ((b.toNat : Int) != 10) = true := by simp [bne]; omega
            go_wp2
            go_roundg g
            case measure => omega
            case rel => exact ⟨k + 1, f, out, line, rfl, by go_num, by omega, by omega, ⟨by omega, by omega⟩, E, HR⟩
end Go.Proofs.YtblcigddinmiaaaDoor
