/- The examples of the chapter hold. Conditions: none. -/
import Derived.Test.YtdpecgngjiccoaaOpenF4
import Derived.Test.YtdpecgngjiccoaaHex4
import Derived.Test.YtdpecgngjiccoaaRchain4
namespace Go.Proofs.Ytdpecgngjiccoaa
open Go.ChangeShapes Go.WideShapes Go.ChangeAt Go.RowKit
theorem crc_nine : crc [49, 50, 51, 52, 53, 54, 55, 56, 57] = 3421780262 := by decide +kernel
theorem hex_255 : hexI 255 16 = [48, 48, 48, 48, 48, 48, 48, 48, 48, 48, 48, 48, 48, 48, 102, 102] := by decide +kernel
theorem chain_ab : chainL 0 [97] ≠ chainL 0 [98] := by decide +kernel
set_option maxRecDepth 100000 in
set_option maxHeartbeats 1000000 in
theorem alive_any (w : World) : Calls Try.prog 12 #[] w (RetB w true) := by
  have K1 := fun ww => seal_any [97, 98] ww (by simp)
  have K2 := fun ww => open_any (sealL [97, 98]) ww (by rw [sealL_length]; simp)
  rw [openL_seal] at K2
  have K3 := fun ww => sum_any [49, 50, 51, 52, 53, 54, 55, 56, 57] ww (by simp)
  rw [crc_nine] at K3
  have K4 := fun ww => hex_any 255 ww (by omega)
  rw [hex_255] at K4
  have K5 := fun ww => chain_any 0 [97] ww (by omega) (by simp)
  have K6 := fun ww => chain_any 0 [98] ww (by omega) (by simp)
  obtain ⟨x, hx⟩ : ∃ x, chainL 0 [97] = x := ⟨_, rfl⟩
  obtain ⟨y, hy⟩ : ∃ y, chainL 0 [98] = y := ⟨_, rfl⟩
  have T : ((x : Int) != (y : Int)) = true := by
    have := chain_ab
    rw [hx, hy] at this
    exact bne_iff_ne.2 (fun h => this (Int.ofNat.inj h))
  rw [hx] at K5
  rw [hy] at K6
  obtain ⟨z, hz⟩ : ∃ z, sealL [97, 98] = z := ⟨_, rfl⟩
  rw [hz] at K1 K2
  replace hx := Lib.hid hx
  replace hy := Lib.hid hy
  replace hz := Lib.hid hz
  go_enter Try.func12, Try.ntmps12
  go_wp2_with fail
  refine (K1 _).mono ?_
  rintro e w1 ⟨rfl, b1⟩
  go_wp2_with fail
  refine (K2 _).mono ?_
  rintro e w2 ⟨rfl, b2⟩
  unfold outO
  go_wp2_with fail
  refine (K3 _).mono ?_
  rintro e w3 ⟨rfl, rfl⟩
  go_wp2_with fail
  refine (K4 _).mono ?_
  rintro e w4 ⟨rfl, b4⟩
  go_wp2_with fail
  refine (K5 _).mono ?_
  rintro e w5 ⟨rfl, rfl⟩
  go_wp2_with fail
  refine (K6 _).mono ?_
  rintro e w6 ⟨rfl, rfl⟩
  go_wp2
  go_ret
  exact ⟨rfl, b1.trans ((b2.mono b1.size).trans (b4.mono (Nat.le_trans b1.size b2.size)))⟩
end Go.Proofs.Ytdpecgngjiccoaa
