/- The laws' walks, first part. Conditions: what the library reads (GW); the lengths' bounds of the reach. -/
import Derived.Test.YtblcigddinmiaaaDoorAlive5
namespace Go.Proofs.YtblcigddinmiaaaDoor
open Go.ChangeShapes Go.WideShapes Go.ChangeAt Go.RowKit
set_option maxRecDepth 100000 in
set_option maxHeartbeats 2000000 in
theorem lines_all (s : L8) (w : World) (hG : GW w) (hl : s.length ≤ 9223372036854775807) : Calls Tryd.prog 3 #[str s] w (RetB w true) := by
  have hs := Lib.hid (sb_size s)
  by_cases c : 34000 < s.length
  · have t : ((34000 : Int) < (s.length : Int)) := by omega
    go_enter Tryd.func3, Tryd.ntmps3
    go_wp2_with fail
    refine (alive_any _ hG).mono ?_
    rintro e w1 ⟨rfl, b1⟩
    go_wp2
    go_ret
    exact ⟨rfl, b1⟩
  · have t : ¬ ((34000 : Int) < (s.length : Int)) := by omega
    have K1 := fun ww hh => lines_any s ww hh (by omega)
    have K2 := fun ww => rlines_any s ww (by omega)
    obtain ⟨⟨x, n, e0⟩, hx⟩ : ∃ x, linesR s = x := ⟨_, rfl⟩
    simp only [hx] at K1 K2
    replace hx := Lib.hid hx
    clear c
    have HB := Below.refl w.heap.size w
    go_enter Tryd.func3, Tryd.ntmps3
    go_wp2_with fail
    refine (K1 _ hG).mono ?_
    rintro e w1 ⟨v1, rfl, R1, bb⟩
    replace HB := HB.trans (bb.mono HB.size)
    clear bb K1
    replace R1 := Lib.hid R1
    go_wp2_with fail
    refine (K2 _).mono ?_
    rintro e w2 ⟨v2, rfl, R2, bb⟩
    replace R1 := Lib.hid (R1.out.below bb)
    replace HB := HB.trans (bb.mono HB.size)
    clear bb K2
    replace R2 := Lib.hid R2
    go_wp2_with fail
    refine (same_any _ _ x _ R1.out R2.out).mono ?_
    intro e w3 hh
    obtain ⟨rfl, bb⟩ := hh.below
    clear hh R1 R2
    replace HB := HB.trans (bb.mono HB.size)
    clear bb
    go_wp2_with fail
    refine (alive_any _ (hG.below HB)).mono ?_
    rintro e w4 ⟨rfl, bb⟩
    replace HB := HB.trans (bb.mono HB.size)
    go_wp2
    go_ret
    exact ⟨rfl, HB⟩
set_option maxRecDepth 100000 in
set_option maxHeartbeats 2000000 in
theorem joins_all (v : Value) (ll : List (List L8)) (w : World) (hG : GW w) (hv : LL w v ll) (h1 : ll.length ≤ 140737488355328) (h2 : ∀ l ∈ ll, l.length ≤ 140737488355328 ∧ ∀ s ∈ l, s.length ≤ 9223372036854775807) : Calls Tryd.prog 4 #[v] w (RetB w true) := by
  have HV := Lib.hid hv
  have KS := small_any v ll w hv h1 h2
  clear hv h1 h2
  go_enter Tryd.func4, Tryd.ntmps4
  go_wp2_with fail
  refine KS.mono ?_
  rintro e w0 ⟨b, rfl, rfl, hb⟩
  clear KS
  cases b with
  | false =>
    clear hb
    go_wp2_with fail
    refine (alive_any _ hG).mono ?_
    rintro e w1 ⟨rfl, b1⟩
    go_wp2
    go_ret
    exact ⟨rfl, b1⟩
  | true =>
    have hF := (hb rfl).fits
    have K1 := fun ww hh => join_any v ll ww hh hF
    have K2 := fun ww hh => rjoin_any v ll ww hh hF
    obtain ⟨⟨x, e0⟩, hx⟩ : ∃ x, joinR ll = x := ⟨_, rfl⟩
    simp only [hx] at K1 K2
    replace hx := Lib.hid hx
    clear hb hF
    have HB := Below.refl w.heap.size w
    go_wp2_with fail
    refine (K1 _ HV.out).mono ?_
    rintro e w1 ⟨rfl, bb⟩
    replace HV := Lib.hid (HV.out.below bb)
    replace HB := HB.trans (bb.mono HB.size)
    clear bb K1
    go_wp2_with fail
    refine (K2 _ HV.out).mono ?_
    rintro e w2 ⟨rfl, rfl⟩
    clear K2
    go_wp2_with fail
    refine (alive_any _ (hG.below HB)).mono ?_
    rintro e w4 ⟨rfl, bb⟩
    replace HB := HB.trans (bb.mono HB.size)
    go_wp2
    go_ret
    exact ⟨rfl, HB⟩
set_option maxRecDepth 100000 in
set_option maxHeartbeats 2000000 in
theorem ints_all (s : L8) (w : World) (hG : GW w) (hl : s.length ≤ 9223372036854775807) : Calls Tryd.prog 7 #[str s] w (RetB w true) := by
  have hs := Lib.hid (sb_size s)
  by_cases c : 1000 < s.length
  · have t : ((1000 : Int) < (s.length : Int)) := by omega
    go_enter Tryd.func7, Tryd.ntmps7
    go_wp2_with fail
    refine (alive_any _ hG).mono ?_
    rintro e w1 ⟨rfl, b1⟩
    go_wp2
    go_ret
    exact ⟨rfl, b1⟩
  · have t : ¬ ((1000 : Int) < (s.length : Int)) := by omega
    have K1 := fun ww hh => int_any s ww hh (by omega)
    have K2 := fun ww => rint_any s ww (by omega)
    have hr := intL_range s
    have hback := fun h => itoa_intL (s := s) h
    obtain ⟨⟨n, e0⟩, hx⟩ : ∃ x, intL s = x := ⟨_, rfl⟩
    simp only [hx, outI] at K1 K2 hr hback
    replace hx := Lib.hid hx
    have K3 := fun ww hh => format_any n ww hr hh
    clear c
    have HB := Below.refl w.heap.size w
    by_cases h0 : e0 = 0
    · have hb := hback h0
      subst h0
      simp only [hb] at K3
      replace hb := Lib.hid hb
      clear hback
      go_enter Tryd.func7, Tryd.ntmps7
      go_wp2_with fail
      refine (K1 _ hG).mono ?_
      rintro e w1 ⟨rfl, bb⟩
      replace HB := HB.trans (bb.mono HB.size)
      clear bb K1
      go_wp2_with fail
      refine (K2 _).mono ?_
      rintro e w2 ⟨rfl, rfl⟩
      clear K2
      go_wp2_with fail
      refine (K3 _ (hG.below HB)).mono ?_
      rintro e w3 ⟨rfl, bb⟩
      replace HB := HB.trans (bb.mono HB.size)
      clear bb K3
      go_wp2_with fail
      refine (alive_any _ (hG.below HB)).mono ?_
      rintro e w4 ⟨rfl, bb⟩
      replace HB := HB.trans (bb.mono HB.size)
      go_wp2
      go_ret
      exact ⟨rfl, HB⟩
    · have t0 : ((e0 : Int) == 0) = false := by simpa using h0
      have t1 : ((e0 : Int) != 0) = true := by simpa using h0
      clear hback
      go_enter Tryd.func7, Tryd.ntmps7
      go_wp2_with fail
      refine (K1 _ hG).mono ?_
      rintro e w1 ⟨rfl, bb⟩
      replace HB := HB.trans (bb.mono HB.size)
      clear bb K1
      go_wp2_with fail
      refine (K2 _).mono ?_
      rintro e w2 ⟨rfl, rfl⟩
      clear K2
      go_wp2_with fail
      refine (alive_any _ (hG.below HB)).mono ?_
      rintro e w4 ⟨rfl, bb⟩
      replace HB := HB.trans (bb.mono HB.size)
      go_wp2
      go_ret
      exact ⟨rfl, HB⟩
set_option maxRecDepth 100000 in
set_option maxHeartbeats 2000000 in
theorem formats_all (n : Int) (w : World) (hG : GW w) (hn : -9223372036854775808 ≤ n ∧ n ≤ 9223372036854775807) : Calls Tryd.prog 8 #[.int .i64 n] w (RetB w true) := by
  have K1 := fun ww hh => format_any n ww hn hh
  have K2 := fun ww => rformat_any n ww hn
  have hlen := (itoa_len n hn).1
  have hI := intL_itoa hn
  obtain ⟨x, hx⟩ : ∃ x, Lib.itoa n = x := ⟨_, rfl⟩
  simp only [hx] at K1 K2 hlen hI
  have K3 := fun ww hh => int_any x ww hh (by omega)
  simp only [hI, outI] at K3
  replace hx := Lib.hid hx
  replace hI := Lib.hid hI
  have HB := Below.refl w.heap.size w
  go_enter Tryd.func8, Tryd.ntmps8
  go_wp2_with fail
  refine (K1 _ hG).mono ?_
  rintro e w1 ⟨rfl, bb⟩
  replace HB := HB.trans (bb.mono HB.size)
  clear bb
  go_wp2_with fail
  refine (K3 _ (hG.below HB)).mono ?_
  rintro e w2 ⟨rfl, bb⟩
  replace HB := HB.trans (bb.mono HB.size)
  clear bb K3
  go_wp2_with fail
  refine (K1 _ (hG.below HB)).mono ?_
  rintro e w3 ⟨rfl, bb⟩
  replace HB := HB.trans (bb.mono HB.size)
  clear bb K1
  go_wp2_with fail
  refine (K2 _).mono ?_
  rintro e w4 ⟨rfl, rfl⟩
  clear K2
  go_wp2_with fail
  refine (alive_any _ (hG.below HB)).mono ?_
  rintro e w5 ⟨rfl, bb⟩
  replace HB := HB.trans (bb.mono HB.size)
  go_wp2
  go_ret
  exact ⟨rfl, HB⟩
set_option maxRecDepth 100000 in
set_option maxHeartbeats 2000000 in
theorem names_all (s : L8) (w : World) (hG : GW w) (hl : s.length ≤ 9223372036854775807) : Calls Tryd.prog 9 #[str s] w (RetB w true) := by
  have hs := Lib.hid (sb_size s)
  by_cases c : 1000 < s.length
  · have t : decide ((1000 : Int) < (s.length : Int)) = true := by simp; omega
    clear c
    go_enter Tryd.func9, Tryd.ntmps9
    go_wp2
    go_ret
    exact ⟨rfl, Below.refl _ _⟩
  · have t : decide ((1000 : Int) < (s.length : Int)) = false := by simp; omega
    have K1 := fun ww => name_any s ww hl
    have K2 := fun ww => rname_any s ww hl
    obtain ⟨x, hx⟩ : ∃ x, isName s = x := ⟨_, rfl⟩
    simp only [hx] at K1 K2
    replace hx := Lib.hid hx
    clear c
    have HB := Below.refl w.heap.size w
    go_enter Tryd.func9, Tryd.ntmps9
    go_wp2_with fail
    refine (K1 _).mono ?_
    rintro e w1 ⟨rfl, bb⟩
    replace HB := HB.trans (bb.mono HB.size)
    clear bb K1
    go_wp2_with fail
    refine (K2 _).mono ?_
    rintro e w2 ⟨rfl, rfl⟩
    clear K2
    go_wp2_with fail
    refine (alive_any _ (hG.below HB)).mono ?_
    rintro e w4 ⟨rfl, bb⟩
    replace HB := HB.trans (bb.mono HB.size)
    go_wp2
    go_ret
    exact ⟨rfl, HB⟩
end Go.Proofs.YtblcigddinmiaaaDoor
