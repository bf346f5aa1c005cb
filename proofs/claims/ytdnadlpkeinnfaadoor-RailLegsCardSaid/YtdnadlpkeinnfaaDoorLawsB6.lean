/- The walk of RailLegs: it returns true and changes nothing that was there. Condition: what the program reads (GW). -/
import Derived.Test.YtdnadlpkeinnfaaDoorAlive6
namespace Go.Proofs.YtdnadlpkeinnfaaDoor
open Go.ChangeShapes Go.WideShapes Go.ChangeAt Go.RowKit
def hasI (l : List Int) (n : Int) : Bool := l.any (· == n)
theorem hasI_snoc (l : List Int) (y n : Int) : hasI (l ++ [y]) n = (hasI l n || (y == n)) := by simp [hasI]
theorem hasI_legs (k i o : Int) : hasI (legsF k i tab) o = (needF k i o tab).2 := by
  rw [Bool.eq_iff_iff, ← mem_legs]
  simp [hasI]
set_option maxRecDepth 100000 in
set_option maxHeartbeats 8000000 in
theorem legs_all (k i : Int) (w : World) (hG : GW w) : Calls Tryd.prog 7 #[.int .i64 k, .int .i64 i] w (RetB w true) := by
  have K1 := fun ww hh => legs_any k i ww hh
  have K2 := fun o ww hh => need_any k i o ww hh
  have K3 := fun ww hh => sides_any k ww hh
  have K4 := fun ww => facing_any k i ww
  have KH := fun o => hasI_legs k i o
  have hl := legs_len k i
  obtain ⟨l, hL⟩ : ∃ l, legsF k i tab = l := ⟨_, rfl⟩
  obtain ⟨s, hs⟩ : ∃ s, sidesS k = s := ⟨_, rfl⟩
  obtain ⟨f, hf⟩ : ∃ f, facing k i = f := ⟨_, rfl⟩
  obtain ⟨nF, hn⟩ : ∃ nF : Int → Int × Bool, (fun o => needF k i o tab) = nF := ⟨_, rfl⟩
  have hn' : ∀ o, needF k i o tab = nF o := fun o => congrFun hn o
  unfold legsN at hl
  simp only [hL] at K1 KH hl
  simp only [hs] at K3 hl
  simp only [hf] at K4 hl
  simp only [hn'] at K2 KH
  clear hL hs hf hn hn'
  have cases4 : (i < 0 ∧ l.length = 0) ∨ (¬ (i < 0) ∧ s ≤ i ∧ l.length = 0) ∨ (¬ (i < 0) ∧ ¬ (s ≤ i) ∧ f = true ∧ l.length = 2) ∨ (¬ (i < 0) ∧ ¬ (s ≤ i) ∧ f = false ∧ l.length = 1) := by
    by_cases a1 : i < 0
    · rw [if_pos (Or.inl a1)] at hl; exact Or.inl ⟨a1, hl⟩
    · by_cases a2 : s ≤ i
      · rw [if_pos (Or.inr a2)] at hl; exact Or.inr (Or.inl ⟨a1, a2, hl⟩)
      · rw [if_neg (by omega)] at hl
        cases f
        · exact Or.inr (Or.inr (Or.inr ⟨a1, a2, rfl, by simpa using hl⟩))
        · exact Or.inr (Or.inr (Or.inl ⟨a1, a2, rfl, by simpa using hl⟩))
  clear hl
  have HB := Below.refl w.heap.size w
  rcases cases4 with ⟨a1, hl⟩ | ⟨a1, a2, hl⟩ | ⟨a1, a2, rfl, hl⟩ | ⟨a1, a2, rfl, hl⟩
  · have hlen := Lib.hid hl
    clear hl
    go_enter Tryd.func7, Tryd.ntmps7
    go_wp2_with fail
    refine (K1 _ hG).mono ?_
    rintro e w1 ⟨v1, rfl, R1, bb⟩
    replace HB := HB.trans (bb.mono HB.size)
    clear bb K1
    obtain ⟨a, cap, rfl, _, HC⟩ := R1.open
    rw [hlen.out]
    clear R1
    go_wp2
    go_loopg [6] 6 (fun g s6 wx => ∃ (n : Nat) (o : Int), n + g = 6 ∧ s6 = .int .i64 o ∧ (-1 ≤ o ∧ o ≤ 5) ∧ Hid (o + 1 = n) ∧ Below w.heap.size w wx ∧ Below w1.heap.size w1 wx)
    case atStart => exact ⟨0, -1, rfl, rfl, by omega, Lib.hid rfl, HB, Below.refl _ _⟩
    case round =>
      obtain ⟨n, o, hn, rfl, ho, HO, hbw, hb1⟩ := hrel
      have HO' := HO.out
      cases gk with
      | zero =>
        have hz : ¬ (o ≤ 4) := by omega
        clear HO' ho
        replace hn := Lib.hid hn
        go_wp2_with (first
          | (go_at_call 8; refine (K3 _ (hG.below hbw)).mono ?_; rintro e w2 ⟨rfl, rfl⟩)
          | (go_at_call 13; refine (K4 _).mono ?_; rintro e w2 ⟨rfl, rfl⟩)
          | (go_at_call 15; refine (alive_any _ (hG.below hbw)).mono ?_; rintro e w3 ⟨rfl, b3⟩))
        go_ret
        exact ⟨rfl, hbw.trans (b3.mono hbw.size)⟩
      | succ g =>
        have hz : o ≤ 4 := by omega
        clear HO'
        replace hn := Lib.hid hn
        have KK := K2 o wr (hG.below hbw)
        have KHo := KH o
        obtain ⟨⟨d, ok⟩, hq⟩ : ∃ q, nF o = q := ⟨_, rfl⟩
        simp only [hq] at KK KHo
        unfold RetP outV at KK
        simp only at KK
        replace KHo := Lib.hid KHo
        clear hq
        go_wp2
        go_loopg [7, 21] 0 (fun g s7 s21 wx => ∃ (j : Nat) (fd : Bool), j + g = 0 ∧ s21 = .int .i64 j ∧ s7 = .bool fd ∧ Hid (fd = hasI (l.take j) o) ∧ wr = wx)
        case atStart => exact ⟨0, false, rfl, rfl, rfl, Lib.hid rfl, rfl⟩
        case round =>
          obtain ⟨j, fd, hj, rfl, rfl, HF, rfl⟩ := hrel
          cases gk with
          | zero =>
            have h2 : ¬ ((j : Int) < 0) := by omega
            obtain rfl : fd = ok := by
              have e1 := HF.out
              have e2 := KHo.out
              rw [List.take_of_length_le (by have := hlen.out; omega)] at e1
              rw [e1, e2]
            replace hj := Lib.hid hj
            clear HF KHo
            go_wp2_with (go_at_call 18; refine KK.mono ?_; rintro e w2 ⟨rfl, b2⟩)
            go_roundg g
            case measure => omega
            case rel => exact ⟨n + 1, o + 1, by have := hn.out; omega, by go_num, by omega, Lib.hid (by have := HO.out; omega), hbw.trans (b2.mono hbw.size), hb1.trans (b2.mono hb1.size)⟩
          | succ g2 =>
            have h2 : (j : Int) < 0 := by omega
            obtain ⟨y, hy, ht, _⟩ := at_take (l := l) (k := j) (by have := hlen.out; omega)
            obtain ⟨b, off, rfl, _, c1⟩ := HC.out.rd hb1 hy
            replace hj := Lib.hid hj
            replace hy := Lib.hid hy
            replace ht := Lib.hid ht
            have HN : Hid ((fd || (y == o)) = hasI (l.take (j + 1)) o) := Lib.hid (by rw [ht.out, hasI_snoc, ← HF.out])
            clear HF
            cases fd
            · go_wp2
              go_roundg g2
              case measure => omega
              case rel => exact ⟨j + 1, _, by have := hj.out; omega, by go_num, rfl, HN, rfl⟩
            · go_wp2
              go_roundg g2
              case measure => omega
              case rel => exact ⟨j + 1, _, by have := hj.out; omega, by go_num, rfl, HN, rfl⟩
  · have hlen := Lib.hid hl
    clear hl
    go_enter Tryd.func7, Tryd.ntmps7
    go_wp2_with fail
    refine (K1 _ hG).mono ?_
    rintro e w1 ⟨v1, rfl, R1, bb⟩
    replace HB := HB.trans (bb.mono HB.size)
    clear bb K1
    obtain ⟨a, cap, rfl, _, HC⟩ := R1.open
    rw [hlen.out]
    clear R1
    go_wp2
    go_loopg [6] 6 (fun g s6 wx => ∃ (n : Nat) (o : Int), n + g = 6 ∧ s6 = .int .i64 o ∧ (-1 ≤ o ∧ o ≤ 5) ∧ Hid (o + 1 = n) ∧ Below w.heap.size w wx ∧ Below w1.heap.size w1 wx)
    case atStart => exact ⟨0, -1, rfl, rfl, by omega, Lib.hid rfl, HB, Below.refl _ _⟩
    case round =>
      obtain ⟨n, o, hn, rfl, ho, HO, hbw, hb1⟩ := hrel
      have HO' := HO.out
      cases gk with
      | zero =>
        have hz : ¬ (o ≤ 4) := by omega
        clear HO' ho
        replace hn := Lib.hid hn
        go_wp2_with (first
          | (go_at_call 8; refine (K3 _ (hG.below hbw)).mono ?_; rintro e w2 ⟨rfl, rfl⟩)
          | (go_at_call 13; refine (K4 _).mono ?_; rintro e w2 ⟨rfl, rfl⟩)
          | (go_at_call 15; refine (alive_any _ (hG.below hbw)).mono ?_; rintro e w3 ⟨rfl, b3⟩))
        go_ret
        exact ⟨rfl, hbw.trans (b3.mono hbw.size)⟩
      | succ g =>
        have hz : o ≤ 4 := by omega
        clear HO'
        replace hn := Lib.hid hn
        have KK := K2 o wr (hG.below hbw)
        have KHo := KH o
        obtain ⟨⟨d, ok⟩, hq⟩ : ∃ q, nF o = q := ⟨_, rfl⟩
        simp only [hq] at KK KHo
        unfold RetP outV at KK
        simp only at KK
        replace KHo := Lib.hid KHo
        clear hq
        go_wp2
        go_loopg [7, 21] 0 (fun g s7 s21 wx => ∃ (j : Nat) (fd : Bool), j + g = 0 ∧ s21 = .int .i64 j ∧ s7 = .bool fd ∧ Hid (fd = hasI (l.take j) o) ∧ wr = wx)
        case atStart => exact ⟨0, false, rfl, rfl, rfl, Lib.hid rfl, rfl⟩
        case round =>
          obtain ⟨j, fd, hj, rfl, rfl, HF, rfl⟩ := hrel
          cases gk with
          | zero =>
            have h2 : ¬ ((j : Int) < 0) := by omega
            obtain rfl : fd = ok := by
              have e1 := HF.out
              have e2 := KHo.out
              rw [List.take_of_length_le (by have := hlen.out; omega)] at e1
              rw [e1, e2]
            replace hj := Lib.hid hj
            clear HF KHo
            go_wp2_with (go_at_call 18; refine KK.mono ?_; rintro e w2 ⟨rfl, b2⟩)
            go_roundg g
            case measure => omega
            case rel => exact ⟨n + 1, o + 1, by have := hn.out; omega, by go_num, by omega, Lib.hid (by have := HO.out; omega), hbw.trans (b2.mono hbw.size), hb1.trans (b2.mono hb1.size)⟩
          | succ g2 =>
            have h2 : (j : Int) < 0 := by omega
            obtain ⟨y, hy, ht, _⟩ := at_take (l := l) (k := j) (by have := hlen.out; omega)
            obtain ⟨b, off, rfl, _, c1⟩ := HC.out.rd hb1 hy
            replace hj := Lib.hid hj
            replace hy := Lib.hid hy
            replace ht := Lib.hid ht
            have HN : Hid ((fd || (y == o)) = hasI (l.take (j + 1)) o) := Lib.hid (by rw [ht.out, hasI_snoc, ← HF.out])
            clear HF
            cases fd
            · go_wp2
              go_roundg g2
              case measure => omega
              case rel => exact ⟨j + 1, _, by have := hj.out; omega, by go_num, rfl, HN, rfl⟩
            · go_wp2
              go_roundg g2
              case measure => omega
              case rel => exact ⟨j + 1, _, by have := hj.out; omega, by go_num, rfl, HN, rfl⟩
  · have hlen := Lib.hid hl
    clear hl
    go_enter Tryd.func7, Tryd.ntmps7
    go_wp2_with fail
    refine (K1 _ hG).mono ?_
    rintro e w1 ⟨v1, rfl, R1, bb⟩
    replace HB := HB.trans (bb.mono HB.size)
    clear bb K1
    obtain ⟨a, cap, rfl, _, HC⟩ := R1.open
    rw [hlen.out]
    clear R1
    go_wp2
    go_loopg [6] 6 (fun g s6 wx => ∃ (n : Nat) (o : Int), n + g = 6 ∧ s6 = .int .i64 o ∧ (-1 ≤ o ∧ o ≤ 5) ∧ Hid (o + 1 = n) ∧ Below w.heap.size w wx ∧ Below w1.heap.size w1 wx)
    case atStart => exact ⟨0, -1, rfl, rfl, by omega, Lib.hid rfl, HB, Below.refl _ _⟩
    case round =>
      obtain ⟨n, o, hn, rfl, ho, HO, hbw, hb1⟩ := hrel
      have HO' := HO.out
      cases gk with
      | zero =>
        have hz : ¬ (o ≤ 4) := by omega
        clear HO' ho
        replace hn := Lib.hid hn
        go_wp2_with (first
          | (go_at_call 8; refine (K3 _ (hG.below hbw)).mono ?_; rintro e w2 ⟨rfl, rfl⟩)
          | (go_at_call 13; refine (K4 _).mono ?_; rintro e w2 ⟨rfl, rfl⟩)
          | (go_at_call 15; refine (alive_any _ (hG.below hbw)).mono ?_; rintro e w3 ⟨rfl, b3⟩))
        go_ret
        exact ⟨rfl, hbw.trans (b3.mono hbw.size)⟩
      | succ g =>
        have hz : o ≤ 4 := by omega
        clear HO'
        replace hn := Lib.hid hn
        have KK := K2 o wr (hG.below hbw)
        have KHo := KH o
        obtain ⟨⟨d, ok⟩, hq⟩ : ∃ q, nF o = q := ⟨_, rfl⟩
        simp only [hq] at KK KHo
        unfold RetP outV at KK
        simp only at KK
        replace KHo := Lib.hid KHo
        clear hq
        go_wp2
        go_loopg [7, 21] 2 (fun g s7 s21 wx => ∃ (j : Nat) (fd : Bool), j + g = 2 ∧ s21 = .int .i64 j ∧ s7 = .bool fd ∧ Hid (fd = hasI (l.take j) o) ∧ wr = wx)
        case atStart => exact ⟨0, false, rfl, rfl, rfl, Lib.hid rfl, rfl⟩
        case round =>
          obtain ⟨j, fd, hj, rfl, rfl, HF, rfl⟩ := hrel
          cases gk with
          | zero =>
            have h2 : ¬ ((j : Int) < 2) := by omega
            obtain rfl : fd = ok := by
              have e1 := HF.out
              have e2 := KHo.out
              rw [List.take_of_length_le (by have := hlen.out; omega)] at e1
              rw [e1, e2]
            replace hj := Lib.hid hj
            clear HF KHo
            go_wp2_with (go_at_call 18; refine KK.mono ?_; rintro e w2 ⟨rfl, b2⟩)
            go_roundg g
            case measure => omega
            case rel => exact ⟨n + 1, o + 1, by have := hn.out; omega, by go_num, by omega, Lib.hid (by have := HO.out; omega), hbw.trans (b2.mono hbw.size), hb1.trans (b2.mono hb1.size)⟩
          | succ g2 =>
            have h2 : (j : Int) < 2 := by omega
            obtain ⟨y, hy, ht, _⟩ := at_take (l := l) (k := j) (by have := hlen.out; omega)
            obtain ⟨b, off, rfl, _, c1⟩ := HC.out.rd hb1 hy
            replace hj := Lib.hid hj
            replace hy := Lib.hid hy
            replace ht := Lib.hid ht
            have HN : Hid ((fd || (y == o)) = hasI (l.take (j + 1)) o) := Lib.hid (by rw [ht.out, hasI_snoc, ← HF.out])
            clear HF
            cases fd
            · go_wp2
              go_roundg g2
              case measure => omega
              case rel => exact ⟨j + 1, _, by have := hj.out; omega, by go_num, rfl, HN, rfl⟩
            · go_wp2
              go_roundg g2
              case measure => omega
              case rel => exact ⟨j + 1, _, by have := hj.out; omega, by go_num, rfl, HN, rfl⟩
  · have hlen := Lib.hid hl
    clear hl
    go_enter Tryd.func7, Tryd.ntmps7
    go_wp2_with fail
    refine (K1 _ hG).mono ?_
    rintro e w1 ⟨v1, rfl, R1, bb⟩
    replace HB := HB.trans (bb.mono HB.size)
    clear bb K1
    obtain ⟨a, cap, rfl, _, HC⟩ := R1.open
    rw [hlen.out]
    clear R1
    go_wp2
    go_loopg [6] 6 (fun g s6 wx => ∃ (n : Nat) (o : Int), n + g = 6 ∧ s6 = .int .i64 o ∧ (-1 ≤ o ∧ o ≤ 5) ∧ Hid (o + 1 = n) ∧ Below w.heap.size w wx ∧ Below w1.heap.size w1 wx)
    case atStart => exact ⟨0, -1, rfl, rfl, by omega, Lib.hid rfl, HB, Below.refl _ _⟩
    case round =>
      obtain ⟨n, o, hn, rfl, ho, HO, hbw, hb1⟩ := hrel
      have HO' := HO.out
      cases gk with
      | zero =>
        have hz : ¬ (o ≤ 4) := by omega
        clear HO' ho
        replace hn := Lib.hid hn
        go_wp2_with (first
          | (go_at_call 8; refine (K3 _ (hG.below hbw)).mono ?_; rintro e w2 ⟨rfl, rfl⟩)
          | (go_at_call 13; refine (K4 _).mono ?_; rintro e w2 ⟨rfl, rfl⟩)
          | (go_at_call 15; refine (alive_any _ (hG.below hbw)).mono ?_; rintro e w3 ⟨rfl, b3⟩))
        go_ret
        exact ⟨rfl, hbw.trans (b3.mono hbw.size)⟩
      | succ g =>
        have hz : o ≤ 4 := by omega
        clear HO'
        replace hn := Lib.hid hn
        have KK := K2 o wr (hG.below hbw)
        have KHo := KH o
        obtain ⟨⟨d, ok⟩, hq⟩ : ∃ q, nF o = q := ⟨_, rfl⟩
        simp only [hq] at KK KHo
        unfold RetP outV at KK
        simp only at KK
        replace KHo := Lib.hid KHo
        clear hq
        go_wp2
        go_loopg [7, 21] 1 (fun g s7 s21 wx => ∃ (j : Nat) (fd : Bool), j + g = 1 ∧ s21 = .int .i64 j ∧ s7 = .bool fd ∧ Hid (fd = hasI (l.take j) o) ∧ wr = wx)
        case atStart => exact ⟨0, false, rfl, rfl, rfl, Lib.hid rfl, rfl⟩
        case round =>
          obtain ⟨j, fd, hj, rfl, rfl, HF, rfl⟩ := hrel
          cases gk with
          | zero =>
            have h2 : ¬ ((j : Int) < 1) := by omega
            obtain rfl : fd = ok := by
              have e1 := HF.out
              have e2 := KHo.out
              rw [List.take_of_length_le (by have := hlen.out; omega)] at e1
              rw [e1, e2]
            replace hj := Lib.hid hj
            clear HF KHo
            go_wp2_with (go_at_call 18; refine KK.mono ?_; rintro e w2 ⟨rfl, b2⟩)
            go_roundg g
            case measure => omega
            case rel => exact ⟨n + 1, o + 1, by have := hn.out; omega, by go_num, by omega, Lib.hid (by have := HO.out; omega), hbw.trans (b2.mono hbw.size), hb1.trans (b2.mono hb1.size)⟩
          | succ g2 =>
            have h2 : (j : Int) < 1 := by omega
            obtain ⟨y, hy, ht, _⟩ := at_take (l := l) (k := j) (by have := hlen.out; omega)
            obtain ⟨b, off, rfl, _, c1⟩ := HC.out.rd hb1 hy
            replace hj := Lib.hid hj
            replace hy := Lib.hid hy
            replace ht := Lib.hid ht
            have HN : Hid ((fd || (y == o)) = hasI (l.take (j + 1)) o) := Lib.hid (by rw [ht.out, hasI_snoc, ← HF.out])
            clear HF
            cases fd
            · go_wp2
              go_roundg g2
              case measure => omega
              case rel => exact ⟨j + 1, _, by have := hj.out; omega, by go_num, rfl, HN, rfl⟩
            · go_wp2
              go_roundg g2
              case measure => omega
              case rel => exact ⟨j + 1, _, by have := hj.out; omega, by go_num, rfl, HN, rfl⟩
end Go.Proofs.YtdnadlpkeinnfaaDoor
