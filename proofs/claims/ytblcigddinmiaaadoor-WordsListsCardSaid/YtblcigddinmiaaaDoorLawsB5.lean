/- The laws' walks, second part: lists; lines restored. Conditions: what the library reads (GW); the lengths' bounds of the reach. -/
import Derived.Test.YtblcigddinmiaaaDoorLawsA5
namespace Go.Proofs.YtblcigddinmiaaaDoor
open Go.ChangeShapes Go.WideShapes Go.ChangeAt Go.RowKit
theorem form_len {l : List Int} (h : Ints l) (hl : l.length ≤ 2000) : (formL l).length ≤ 100000 := by
  by_cases h0 : l.length = 0
  · obtain rfl : l = [] := List.length_eq_zero_iff.1 h0
    decide
  · rw [formL_of h0]
    have := join_le 44 (itoas l)
    have := itoas_le h
    omega
set_option maxRecDepth 100000 in
set_option maxHeartbeats 4000000 in
theorem lists_all (s : L8) (v : Value) (l : List Int) (w : World) (hG : GW w) (hl : s.length ≤ 9223372036854775807) (hv : RS w v (intsV l)) (hi : Ints l) : Calls Tryd.prog 10 #[str s, v] w (RetB w true) := by
  have hs := Lib.hid (sb_size s)
  obtain ⟨av, cv, rfl, hvl, _⟩ := hv.open
  have HV := Lib.hid hv
  clear hv
  by_cases c : 1000 < s.length
  · have t : decide ((1000 : Int) < (s.length : Int)) = true := by simp; omega
    clear c
    go_enter Tryd.func10, Tryd.ntmps10
    go_wp2_with fail
    refine (alive_any _ hG).mono ?_
    rintro e w1 ⟨rfl, b1⟩
    go_wp2
    go_ret
    exact ⟨rfl, b1⟩
  · by_cases c2 : 200 < l.length
    · have t : decide ((1000 : Int) < (s.length : Int)) = false := by simp; omega
      have t2 : decide ((200 : Int) < (l.length : Int)) = true := by simp; omega
      clear c c2
      go_enter Tryd.func10, Tryd.ntmps10
      go_wp2_with fail
      refine (alive_any _ hG).mono ?_
      rintro e w1 ⟨rfl, b1⟩
      go_wp2
      go_ret
      exact ⟨rfl, b1⟩
    · have t : decide ((1000 : Int) < (s.length : Int)) = false := by simp; omega
      have t2 : decide ((200 : Int) < (l.length : Int)) = false := by simp; omega
      have K1 := fun ww hh => list_any s ww hh (by omega)
      have K2 := fun ww => rlist_any s ww (by omega)
      have hb := list_bound s
      have hn := list_len s
      have hback := fun h => form_list (s := s) h
      obtain ⟨⟨x, e0⟩, hx⟩ : ∃ x, listL s = x := ⟨_, rfl⟩
      simp only [hx] at K1 K2 hb hn hback
      replace hx := Lib.hid hx
      have K3 := fun u ww hr hh => formatList_any u x ww hr hh (by omega) hb
      have K4 := fun u ww hr hh => formatList_any u l ww hr hh (by omega) hi
      have K5 := fun u ww hr => rformatList_any u l ww hr (by omega) hi
      have hfl := form_len hi (by omega)
      have hrest := list_form hi
      obtain ⟨f, hf⟩ : ∃ f, formL l = f := ⟨_, rfl⟩
      simp only [hf] at K4 K5 hfl hrest
      replace hf := Lib.hid hf
      have K6 := fun ww hh => list_any f ww hh hfl
      simp only [hrest] at K6
      replace hrest := Lib.hid hrest
      replace hb := Lib.hid hb
      replace hi := Lib.hid hi
      clear c c2
      have HB := Below.refl w.heap.size w
      by_cases h0 : e0 = 0
      · subst h0
        have hfs := hback rfl
        simp only [hfs] at K3
        replace hfs := Lib.hid hfs
        clear hback
        go_enter Tryd.func10, Tryd.ntmps10
        go_wp2_with fail
        refine (K1 _ hG).mono ?_
        rintro e w1 ⟨v1, rfl, R1, bb⟩
        replace HV := Lib.hid (HV.out.below bb)
        replace HB := HB.trans (bb.mono HB.size)
        replace R1 := Lib.hid R1
        clear bb K1
        go_wp2_with fail
        refine (K2 _).mono ?_
        rintro e w2 ⟨v2, rfl, R2, bb⟩
        replace HV := Lib.hid (HV.out.below bb)
        replace R1 := Lib.hid (R1.out.below bb)
        replace HB := HB.trans (bb.mono HB.size)
        replace R2 := Lib.hid R2
        clear bb K2
        go_wp2_with fail
        refine (sameInts_any _ _ x _ R1.out R2.out).mono ?_
        intro e w3 hh
        obtain ⟨rfl, bb⟩ := hh.below
        replace HV := Lib.hid (HV.out.below bb)
        replace R1 := Lib.hid (R1.out.below bb)
        replace HB := HB.trans (bb.mono HB.size)
        clear bb hh R2
        go_wp2_with fail
        refine (K3 _ _ R1.out (hG.below HB)).mono ?_
        rintro e w4 ⟨rfl, bb⟩
        replace HV := Lib.hid (HV.out.below bb)
        replace HB := HB.trans (bb.mono HB.size)
        clear bb R1 K3
        go_wp2_with fail
        refine (K4 _ _ HV.out (hG.below HB)).mono ?_
        rintro e w5 ⟨rfl, bb⟩
        replace HV := Lib.hid (HV.out.below bb)
        replace HB := HB.trans (bb.mono HB.size)
        clear bb K4
        go_wp2_with fail
        refine (K6 _ (hG.below HB)).mono ?_
        rintro e w6 ⟨v6, rfl, R6, bb⟩
        replace R6 := Lib.hid R6
        replace HV := Lib.hid (HV.out.below bb)
        replace HB := HB.trans (bb.mono HB.size)
        clear bb K6
        go_wp2_with fail
        refine (K5 _ _ HV.out).mono ?_
        rintro e w7 ⟨rfl, rfl⟩
        clear K5
        go_wp2_with fail
        refine (sameInts_any _ _ l _ R6.out HV.out).mono ?_
        intro e w8 hh
        obtain ⟨rfl, bb⟩ := hh.below
        replace HB := HB.trans (bb.mono HB.size)
        clear bb hh R6 HV
        go_wp2_with fail
        refine (alive_any _ (hG.below HB)).mono ?_
        rintro e w9 ⟨rfl, bb⟩
        replace HB := HB.trans (bb.mono HB.size)
        go_wp2
        go_ret
        exact ⟨rfl, HB⟩
      · have t0 : ((e0 : Int) == 0) = false := by simpa using h0
        clear hback K3
        go_enter Tryd.func10, Tryd.ntmps10
        go_wp2_with fail
        refine (K1 _ hG).mono ?_
        rintro e w1 ⟨v1, rfl, R1, bb⟩
        replace HV := Lib.hid (HV.out.below bb)
        replace HB := HB.trans (bb.mono HB.size)
        replace R1 := Lib.hid R1
        clear bb K1
        go_wp2_with fail
        refine (K2 _).mono ?_
        rintro e w2 ⟨v2, rfl, R2, bb⟩
        replace HV := Lib.hid (HV.out.below bb)
        replace R1 := Lib.hid (R1.out.below bb)
        replace HB := HB.trans (bb.mono HB.size)
        replace R2 := Lib.hid R2
        clear bb K2
        go_wp2_with fail
        refine (sameInts_any _ _ x _ R1.out R2.out).mono ?_
        intro e w3 hh
        obtain ⟨rfl, bb⟩ := hh.below
        replace HV := Lib.hid (HV.out.below bb)
        replace HB := HB.trans (bb.mono HB.size)
        clear bb hh R1 R2
        go_wp2_with fail
        refine (K4 _ _ HV.out (hG.below HB)).mono ?_
        rintro e w5 ⟨rfl, bb⟩
        replace HV := Lib.hid (HV.out.below bb)
        replace HB := HB.trans (bb.mono HB.size)
        clear bb K4
        go_wp2_with fail
        refine (K6 _ (hG.below HB)).mono ?_
        rintro e w6 ⟨v6, rfl, R6, bb⟩
        replace R6 := Lib.hid R6
        replace HV := Lib.hid (HV.out.below bb)
        replace HB := HB.trans (bb.mono HB.size)
        clear bb K6
        go_wp2_with fail
        refine (K5 _ _ HV.out).mono ?_
        rintro e w7 ⟨rfl, rfl⟩
        clear K5
        go_wp2_with fail
        refine (sameInts_any _ _ l _ R6.out HV.out).mono ?_
        intro e w8 hh
        obtain ⟨rfl, bb⟩ := hh.below
        replace HB := HB.trans (bb.mono HB.size)
        clear bb hh R6 HV
        go_wp2_with fail
        refine (alive_any _ (hG.below HB)).mono ?_
        rintro e w9 ⟨rfl, bb⟩
        replace HB := HB.trans (bb.mono HB.size)
        go_wp2
        go_ret
        exact ⟨rfl, HB⟩
end Go.Proofs.YtblcigddinmiaaaDoor
