/- The walks of CrcSums, CrcOpens and CrcChains: each returns true and changes nothing that was there. -/
import Derived.Test.YtdpecgngjiccoaaAlive4
namespace Go.Proofs.Ytdpecgngjiccoaa
open Go.ChangeShapes Go.WideShapes Go.ChangeAt Go.RowKit
set_option maxRecDepth 100000 in
set_option maxHeartbeats 1000000 in
theorem sums_all (l : List UInt8) (w : World) (hl : l.length ≤ 9223372036854775807) :
    Calls Try.prog 3 #[str l] w (RetB w true) := by
  have hs := Lib.hid (sb_size l)
  by_cases h : 3000 < l.length
  · have h1 : ((3000 : Int) < (l.length : Int)) := by omega
    clear h
    go_enter Try.func3, Try.ntmps3
    go_wp2_with fail
    refine (alive_any _).mono ?_
    rintro e w1 ⟨rfl, b1⟩
    go_wp2
    go_ret
    exact ⟨rfl, b1⟩
  · have h1 : decide ((3000 : Int) < (l.length : Int)) = false := by simp; omega
    have hl2 : l.length ≤ 100000 := by omega
    have T : (sealL l == sealL l) = true := beq_self_eq_true _
    clear h
    go_enter Try.func3, Try.ntmps3
    go_wp2_with fail
    refine (sum_any l _ hl).mono ?_
    rintro e w1 ⟨rfl, rfl⟩
    go_wp2_with fail
    refine (rsum_any l _ hl).mono ?_
    rintro e w1 ⟨rfl, rfl⟩
    go_wp2_with fail
    refine (seal_any l _ hl2).mono ?_
    rintro e w1 ⟨rfl, b1⟩
    go_wp2_with fail
    refine (rseal_any l _ hl2).mono ?_
    rintro e w2 ⟨rfl, b2⟩
    go_wp2_with fail
    refine (alive_any _).mono ?_
    rintro e w3 ⟨rfl, b3⟩
    go_wp2
    go_ret
    exact ⟨rfl, b1.trans ((b2.mono b1.size).trans (b3.mono (Nat.le_trans b1.size b2.size)))⟩
set_option maxRecDepth 100000 in
set_option maxHeartbeats 1000000 in
theorem chains_all (n : Nat) (l : List UInt8) (w : World) (hn : n < 18446744073709551616) (hl : l.length ≤ 9223372036854775807) :
    Calls Try.prog 7 #[.int .u64 n, str l] w (RetB w true) := by
  have hs := Lib.hid (sb_size l)
  have T : (hexI n 16 == hexI n 16) = true := beq_self_eq_true _
  have K1 := fun ww => hex_any n ww hn
  have K2 := fun ww => rhex_any n ww hn
  by_cases h : 3000 < l.length
  · have h1 : ((3000 : Int) < (l.length : Int)) := by omega
    clear h
    go_enter Try.func7, Try.ntmps7
    go_wp2_with fail
    refine (K1 _).mono ?_
    rintro e w1 ⟨rfl, b1⟩
    go_wp2_with fail
    refine (K2 _).mono ?_
    rintro e w1 ⟨rfl, rfl⟩
    go_wp2_with fail
    refine (alive_any _).mono ?_
    rintro e w2 ⟨rfl, b2⟩
    go_wp2
    go_ret
    exact ⟨rfl, b1.trans (b2.mono b1.size)⟩
  · have h1 : decide ((3000 : Int) < (l.length : Int)) = false := by simp; omega
    have K3 := fun ww => chain_any n l ww hn hl
    have K4 := fun ww => rchain_any n l ww hn (by omega)
    clear h
    go_enter Try.func7, Try.ntmps7
    go_wp2_with fail
    refine (K3 _).mono ?_
    rintro e w1 ⟨rfl, rfl⟩
    go_wp2_with fail
    refine (K4 _).mono ?_
    rintro e w1 ⟨rfl, b1⟩
    go_wp2_with fail
    refine (K1 _).mono ?_
    rintro e w2 ⟨rfl, b2⟩
    go_wp2_with fail
    refine (K2 _).mono ?_
    rintro e w1 ⟨rfl, rfl⟩
    go_wp2_with fail
    refine (alive_any _).mono ?_
    rintro e w3 ⟨rfl, b3⟩
    go_wp2
    go_ret
    exact ⟨rfl, b1.trans ((b2.mono b1.size).trans (b3.mono (Nat.le_trans b1.size b2.size)))⟩
set_option maxRecDepth 100000 in
set_option maxHeartbeats 2000000 in
theorem opens_all (l : List UInt8) (w : World) (hl : l.length ≤ 9223372036854775807) :
    Calls Try.prog 4 #[str l] w (RetB w true) := by
  have hs := Lib.hid (sb_size l)
  by_cases h : 3000 < l.length
  · have h1 : ((3000 : Int) < (l.length : Int)) := by omega
    clear h
    go_enter Try.func4, Try.ntmps4
    go_wp2_with fail
    refine (alive_any _).mono ?_
    rintro e w1 ⟨rfl, b1⟩
    go_wp2
    go_ret
    exact ⟨rfl, b1⟩
  · have h1 : decide ((3000 : Int) < (l.length : Int)) = false := by simp; omega
    have hl2 : l.length ≤ 100000 := by omega
    have K1 := fun ww => open_any l ww hl2
    have K2 := fun ww => ropen_any l ww hl2
    have K3 := fun ww => seal_any l ww hl2
    have K4 := fun ww => open_any (sealL l) ww (by rw [sealL_length]; omega)
    rw [openL_seal] at K4
    have T1 : (l == l) = true := beq_self_eq_true _
    obtain ⟨x, hx⟩ : ∃ x, sealL l = x := ⟨_, rfl⟩
    rw [hx] at K3 K4
    replace hx := Lib.hid hx
    clear h
    cases hO : openL l with
    | mk t c =>
      have T2 : (t == t) = true := beq_self_eq_true _
      have T3 : ((c : Int) == c) = true := beq_self_eq_true _
      rw [hO] at K1 K2
      by_cases h0 : c = 0
      · subst h0
        have e1 := openL_back hO
        have t1 : t.length ≤ 100000 := by have := sealL_length t; rw [e1] at this; omega
        have K5 := fun ww => seal_any t ww t1
        rw [e1] at K5
        replace hO := Lib.hid hO
        replace e1 := Lib.hid e1
        go_enter Try.func4, Try.ntmps4
        go_wp2_with fail
        refine (K1 _).mono ?_
        rintro e w1 ⟨rfl, b1⟩
        unfold outO
        go_wp2_with fail
        refine (K2 _).mono ?_
        rintro e w2 ⟨rfl, b2⟩
        unfold outO
        go_wp2_with fail
        refine (K3 _).mono ?_
        rintro e w3 ⟨rfl, b3⟩
        go_wp2_with fail
        refine (K4 _).mono ?_
        rintro e w4 ⟨rfl, b4⟩
        unfold outO
        go_wp2_with fail
        refine (K5 _).mono ?_
        rintro e w5 ⟨rfl, b5⟩
        go_wp2_with fail
        refine (alive_any _).mono ?_
        rintro e w6 ⟨rfl, b6⟩
        go_wp2
        go_ret
        have b12 := b1.trans (b2.mono b1.size)
        have b13 := b12.trans (b3.mono b12.size)
        have b14 := b13.trans (b4.mono b13.size)
        have b15 := b14.trans (b5.mono b14.size)
        exact ⟨rfl, b15.trans (b6.mono b15.size)⟩
      · have h2 : ((c : Int) != 0) = true := bne_iff_ne.2 h0
        have c1 : -9223372036854775808 ≤ c ∧ c ≤ 9223372036854775807 := by
          have : c = 0 ∨ c = 5 ∨ c = 6 := by
            have e2 : (openL l).2 = c := by rw [hO]
            rw [← e2]
            unfold openL
            split
            · simp
            · split <;> simp
          omega
        replace hO := Lib.hid hO
        obtain ⟨c1, c2⟩ := c1
        clear h0
        go_enter Try.func4, Try.ntmps4
        go_wp2_with fail
        refine (K1 _).mono ?_
        rintro e w1 ⟨rfl, b1⟩
        unfold outO
        go_wp2_with fail
        refine (K2 _).mono ?_
        rintro e w2 ⟨rfl, b2⟩
        unfold outO
        go_wp2_with fail
        refine (K3 _).mono ?_
        rintro e w3 ⟨rfl, b3⟩
        go_wp2_with fail
        refine (K4 _).mono ?_
        rintro e w4 ⟨rfl, b4⟩
        unfold outO
        go_wp2_with fail
        refine (alive_any _).mono ?_
        rintro e w6 ⟨rfl, b6⟩
        go_wp2
        go_ret
        have b12 := b1.trans (b2.mono b1.size)
        have b13 := b12.trans (b3.mono b12.size)
        have b14 := b13.trans (b4.mono b13.size)
        exact ⟨rfl, b14.trans (b6.mono b14.size)⟩
end Go.Proofs.Ytdpecgngjiccoaa
