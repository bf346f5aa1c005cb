/- The walk of WireRoundTrips: returns true and changes nothing that was there. -/
import Derived.Test.YtemhfhfbhdkedaaLawsB3
namespace Go.Proofs.Ytemhfhfbhdkedaa
open Go.ChangeShapes Go.WideShapes Go.ChangeAt Go.RowKit
set_option maxRecDepth 100000 in
set_option maxHeartbeats 4000000 in
theorem rounds_long (u : Nat) (n : Int) (b : Bool) (s : List UInt8) (lv : Value) (l : List Int) (p q : List UInt8) (w : World) (hv : RS w lv (intsV l)) (hs0 : s.length ≤ 9223372036854775807) (h : ¬ (s.length ≤ 400 ∧ l.length ≤ 400)) :
    Calls Try.prog 6 #[val u n b s lv, str p, str q] w (RetB w true) := by
  have BX := Lib.hid (Boxed.start (u := u) (n := n) (b := b) (s := s) hv)
  go_enter Try.func6, Try.ntmps6
  go_wp2_with fail
  refine (short_no u n b s lv l _ BX.out.2.1 hs0 h).mono ?_
  rintro e W ⟨rfl, bb⟩
  replace BX := Lib.hid (BX.out.below bb)
  clear bb
  go_wp2_with fail
  refine (alive_any _).mono ?_
  rintro e W ⟨rfl, bb⟩
  replace BX := Lib.hid (BX.out.below bb)
  clear bb
  go_wp2
  go_ret
  exact ⟨rfl, BX.out.2.2.1⟩
set_option maxRecDepth 100000 in
set_option maxHeartbeats 4000000 in
theorem rounds_before (u : Nat) (n : Int) (b : Bool) (s : List UInt8) (lv : Value) (l : List Int) (p q : List UInt8) (w : World) (hv : RS w lv (intsV l)) (hs : s.length ≤ 400) (hl : l.length ≤ 400) (h1 : 400 < p.length) (h2 : p.length ≤ 9223372036854775807) :
    Calls Try.prog 6 #[val u n b s lv, str p, str q] w (RetB w true) := by
  have BX := Lib.hid (Boxed.start (u := u) (n := n) (b := b) (s := s) hv)
  have h3 : decide ((400 : Int) < (p.length : Int)) = true := by simp; omega
  have hz := Lib.hid (sb_size p)
  go_enter Try.func6, Try.ntmps6
  go_wp2_with fail
  refine (short_yes u n b s lv l _ BX.out.2.1 hs hl).mono ?_
  rintro e W ⟨rfl, bb⟩
  replace BX := Lib.hid (BX.out.below bb)
  clear bb
  go_wp2_with fail
  refine (alive_any _).mono ?_
  rintro e W ⟨rfl, bb⟩
  replace BX := Lib.hid (BX.out.below bb)
  clear bb
  go_wp2
  go_ret
  exact ⟨rfl, BX.out.2.2.1⟩
set_option maxRecDepth 100000 in
set_option maxHeartbeats 4000000 in
theorem rounds_behind (u : Nat) (n : Int) (b : Bool) (s : List UInt8) (lv : Value) (l : List Int) (p q : List UInt8) (w : World) (hv : RS w lv (intsV l)) (hs : s.length ≤ 400) (hl : l.length ≤ 400) (h0 : p.length ≤ 400) (h1 : 400 < q.length) (h2 : q.length ≤ 9223372036854775807) :
    Calls Try.prog 6 #[val u n b s lv, str p, str q] w (RetB w true) := by
  have BX := Lib.hid (Boxed.start (u := u) (n := n) (b := b) (s := s) hv)
  have h3 : decide ((400 : Int) < (p.length : Int)) = false := by simp; omega
  have h4 : decide ((400 : Int) < (q.length : Int)) = true := by simp; omega
  have hz := Lib.hid (sb_size p)
  go_enter Try.func6, Try.ntmps6
  go_wp2_with fail
  refine (short_yes u n b s lv l _ BX.out.2.1 hs hl).mono ?_
  rintro e W ⟨rfl, bb⟩
  replace BX := Lib.hid (BX.out.below bb)
  clear bb
  go_wp2_with fail
  refine (alive_any _).mono ?_
  rintro e W ⟨rfl, bb⟩
  replace BX := Lib.hid (BX.out.below bb)
  clear bb
  go_wp2
  go_ret
  exact ⟨rfl, BX.out.2.2.1⟩
theorem RS.shape {w : World} {v : Value} {l : List Int} (h : RS w v (intsV l)) : ∃ a cap, v = .slice a l.length cap := by
  obtain ⟨a, cap, hv, _⟩ := h
  rw [intsV_length] at hv
  exact ⟨a, cap, hv⟩
theorem joined (p x q : List UInt8) (hp : p.length ≤ 400) (hx : x.length ≤ 5000) (hq : q.length ≤ 400) :
    (∀ ww : World, (Op.stringOp .add ⟨p.toArray⟩ ⟨x.toArray⟩).run Try.prog ww = .ok (.string ⟨(p ++ x).toArray⟩) ww) ∧
    (∀ ww : World, (Op.stringOp .add ⟨(p ++ x).toArray⟩ ⟨q.toArray⟩).run Try.prog ww = .ok (.string ⟨(p ++ (x ++ q)).toArray⟩) ww) ∧ (p ++ (x ++ q)).length ≤ 9000 := by
  refine ⟨fun ww => run_string_add_lists ww p x (by omega) (by omega), fun ww => ?_, by simp; omega⟩
  rw [run_string_add_lists ww (p ++ x) q (by simp; omega) (by omega), List.append_assoc]
set_option maxRecDepth 100000 in
set_option maxHeartbeats 16000000 in
theorem rounds_any (u : Nat) (n : Int) (b : Bool) (s : List UInt8) (lv : Value) (l : List Int) (p q : List UInt8) (w : World) (hv : RS w lv (intsV l)) (hs : s.length ≤ 400) (hl : l.length ≤ 400) (hp : p.length ≤ 400) (hq : q.length ≤ 400)
    (hu : u < 18446744073709551616) (hn : In64 n) (hx : ∀ y ∈ l, In64 y) :
    Calls Try.prog 6 #[val u n b s lv, str p, str q] w (RetB w true) := by
  obtain ⟨a, cap, hlv⟩ := hv.shape
  subst hlv
  have BX := Lib.hid (Boxed.start (u := u) (n := n) (b := b) (s := s) hv)
  obtain ⟨n1, n2⟩ := hn
  have s1 : s.length ≤ 100000 := by omega
  have l1 : l.length ≤ 2000 := by omega
  have x1 := enc_ten hu
  have x2 := encI_len (n := n) ⟨n1, n2⟩
  have x3 : (encB b).length ≤ 1 := by cases b <;> decide
  have x4 := encT_cap hs
  have x5 := encL_cap hx hl
  have h3 : decide ((400 : Int) < (p.length : Int)) = false := by simp; omega
  have h4 : decide ((400 : Int) < (q.length : Int)) = false := by simp; omega
  have e1 := Lib.hid (tU_enc hu p q)
  have e2 := Lib.hid (tI_enc (n := n) ⟨n1, n2⟩ p q)
  have e3 := Lib.hid (tB_enc b p q)
  have e4 := Lib.hid (tT_enc (x := s) (by omega) p q (m := s.length) (by omega))
  have e5 := Lib.hid (tL_enc hx (by omega) p q (m := l.length) (by omega))
  have hP : In64 (p.length : Int) := ⟨by omega, by omega⟩
  have hS : In64 (s.length : Int) := ⟨by omega, by omega⟩
  have hL : In64 (l.length : Int) := ⟨by omega, by omega⟩
  replace hP := Lib.hid hP
  replace hS := Lib.hid hS
  replace hL := Lib.hid hL
  replace hx := Lib.hid hx
  have J1 := joined p (enc u) q hp (by omega) hq
  have J2 := joined p (encI n) q hp (by omega) hq
  have J3 := joined p (encB b) q hp (by omega) hq
  have J4 := joined p (encT s) q hp (by omega) hq
  have J5 := joined p (encL l) q hp (by omega) hq
  replace J1 := Lib.hid J1
  replace J2 := Lib.hid J2
  replace J3 := Lib.hid J3
  replace J4 := Lib.hid J4
  replace J5 := Lib.hid J5
  have hsz := Lib.hid (sb_size p)
  have b0 : (p.length : Int) ≤ 400 := by omega
  have b1 : ((enc u).length : Int) ≤ 10 := by omega
  have b2 : ((encI n).length : Int) ≤ 10 := by omega
  have b4 : ((encT s).length : Int) ≤ 1000 := by omega
  have b5 : ((encL l).length : Int) ≤ 5000 := by omega
  go_enter Try.func6, Try.ntmps6
  go_wp2_with fail
  refine (short_yes u n b s (.slice a l.length cap) l _ BX.out.2.1 hs hl).mono ?_
  rintro e W ⟨rfl, bb⟩
  replace BX := Lib.hid (BX.out.below bb)
  clear bb
  obtain ⟨c0, c1, c2, c3, c4⟩ := BX.out.cells
  go_wp2_with fail
  refine (uint_any u _ hu).mono ?_
  rintro e W ⟨rfl, bb⟩
  clear c0 c1 c2 c3 c4
  replace BX := Lib.hid (BX.out.below bb)
  clear bb
  obtain ⟨y1, y2, y3⟩ := J1.out
  have D := fun ww => takeUint_any (p ++ (enc u ++ q)) p.length ww (by omega) hP.out
  rw [e1.out] at D
  simp only [outU] at D
  replace D := Lib.hid D
  go_wp2_with fail
  refine (D.out _).mono ?_
  rintro e w' ⟨rfl, rfl⟩
  clear D y1 y2 y3
  obtain ⟨c0, c1, c2, c3, c4⟩ := BX.out.cells
  go_wp2_with fail
  refine (int_any n _ n1 n2).mono ?_
  rintro e W ⟨rfl, bb⟩
  clear c0 c1 c2 c3 c4
  replace BX := Lib.hid (BX.out.below bb)
  clear bb
  obtain ⟨y1, y2, y3⟩ := J2.out
  have D := fun ww => takeInt_any (p ++ (encI n ++ q)) p.length ww (by omega) hP.out
  rw [e2.out] at D
  simp only [outI] at D
  replace D := Lib.hid D
  go_wp2_with fail
  refine (D.out _).mono ?_
  rintro e w' ⟨rfl, rfl⟩
  clear D y1 y2 y3
  obtain ⟨c0, c1, c2, c3, c4⟩ := BX.out.cells
  go_wp2_with fail
  refine (bool_any b _).mono ?_
  rintro e w' ⟨rfl, rfl⟩
  obtain ⟨y1, y2, y3⟩ := J3.out
  have D := fun ww => takeBool_any (p ++ (encB b ++ q)) p.length ww (by omega) hP.out
  rw [e3.out] at D
  simp only [outB] at D
  replace D := Lib.hid D
  go_wp2_with fail
  refine (D.out _).mono ?_
  rintro e w' ⟨rfl, rfl⟩
  clear D y1 y2 y3
  clear c0 c1 c2 c3 c4
  go_wp2_with fail
  have B2 := BX.out.drew.all
  obtain ⟨y1, y2, y3⟩ := J4.out
  have D := fun ww => takeText_any (p ++ (encT s ++ q)) p.length s.length ww (by omega) hP.out hS.out
  rw [e4.out] at D
  simp only [outT] at D
  go_region_held3 (fun w' => w'.cell? ⟨w.heap.size, 0, none⟩ = some (.int .u64 u) ∧ w'.cell? ⟨w.heap.size, 1, none⟩ = some (.int .i64 n) ∧ w'.cell? ⟨w.heap.size, 2, none⟩ = some (.bool b) ∧ w'.cell? ⟨w.heap.size, 3, none⟩ = some (str s) ∧ w'.cell? ⟨w.heap.size, 4, none⟩ = some (.slice a l.length cap) ∧ Boxed w.heap.size u n b s (.slice a l.length cap) l w w')
    (first | exact B2 | (go_split_ands; exact Boxed.keep (by assumption) bb))
    (first | (go_at_call 18; refine (text_any s _ s1).mono ?_; rintro e w' ⟨rfl, bb⟩) | (go_at_call 28; refine (D _).mono ?_; rintro e w' ⟨rfl, bb⟩))
  rename_i hH
  replace BX := Lib.hid hH.2.2.2.2.2
  clear hH B2 D y1 y2 y3
  try clear bb
  go_wp2_with fail
  have B2 := BX.out.drew.all
  obtain ⟨y1, y2, y3⟩ := J5.out
  have D := fun ww => takeInts_any (p ++ (encL l ++ q)) p.length l.length ww (by omega) hP.out hL.out
  rw [e5.out] at D
  go_region_held3 (fun w' => w'.cell? ⟨w.heap.size, 0, none⟩ = some (.int .u64 u) ∧ w'.cell? ⟨w.heap.size, 1, none⟩ = some (.int .i64 n) ∧ w'.cell? ⟨w.heap.size, 2, none⟩ = some (.bool b) ∧ w'.cell? ⟨w.heap.size, 3, none⟩ = some (str s) ∧ w'.cell? ⟨w.heap.size, 4, none⟩ = some (.slice a l.length cap) ∧ Boxed w.heap.size u n b s (.slice a l.length cap) l w w')
    (first | exact B2 | (go_split_ands; exact Boxed.keep (by assumption) bb))
    (first | (go_at_call 20; refine (ints_any (.slice a l.length cap) l _ ?_ l1 hx.out).mono ?_; (go_split_ands; refine Boxed.rs (g := w.heap.size) (u := u) (n := n) (b := b) (s := s) (w0 := w) ?_; assumption); rintro e w' ⟨rfl, bb⟩) | (go_at_call 32; refine (D _).mono ?_; rintro e w' ⟨rv, rfl, R1, bb⟩; simp only [toOf, errOf]))
  rename_i hH
  replace BX := Lib.hid hH.2.2.2.2.2
  simp only [listOf] at R1
  replace R1 := Lib.hid R1
  clear hH B2 D y1 y2 y3
  try clear bb
  obtain ⟨c0, c1, c2, c3, c4⟩ := BX.out.cells
  go_wp2_with fail
  refine (same_any _ _ l _ R1.out BX.out.2.1).mono ?_
  rintro e W ⟨rfl, bb⟩
  clear c0 c1 c2 c3 c4
  replace BX := Lib.hid (BX.out.below bb)
  clear bb
  clear R1
  obtain ⟨c0, c1, c2, c3, c4⟩ := BX.out.cells
  go_wp2_with fail
  refine (uint_any u _ hu).mono ?_
  rintro e W ⟨rfl, bb⟩
  clear c0 c1 c2 c3 c4
  replace BX := Lib.hid (BX.out.below bb)
  clear bb
  obtain ⟨c0, c1, c2, c3, c4⟩ := BX.out.cells
  go_wp2_with fail
  refine (int_any n _ n1 n2).mono ?_
  rintro e W ⟨rfl, bb⟩
  clear c0 c1 c2 c3 c4
  replace BX := Lib.hid (BX.out.below bb)
  clear bb
  obtain ⟨c0, c1, c2, c3, c4⟩ := BX.out.cells
  go_wp2_with fail
  refine (text_any s _ s1).mono ?_
  rintro e W ⟨rfl, bb⟩
  clear c0 c1 c2 c3 c4
  replace BX := Lib.hid (BX.out.below bb)
  clear bb
  obtain ⟨c0, c1, c2, c3, c4⟩ := BX.out.cells
  go_wp2_with fail
  refine (ints_any (.slice a l.length cap) l _ BX.out.2.1 l1 hx.out).mono ?_
  rintro e W ⟨rfl, bb⟩
  clear c0 c1 c2 c3 c4
  replace BX := Lib.hid (BX.out.below bb)
  clear bb
  go_wp2_with fail
  refine (alive_any _).mono ?_
  rintro e W ⟨rfl, bb⟩
  replace BX := Lib.hid (BX.out.below bb)
  clear bb
  go_wp2
  go_ret
  exact ⟨rfl, BX.out.2.2.1⟩
theorem rounds_all (u : Nat) (n : Int) (b : Bool) (s : List UInt8) (lv : Value) (l : List Int) (p q : List UInt8) (w : World) (hv : RS w lv (intsV l)) (hs0 : s.length ≤ 9223372036854775807) (hp0 : p.length ≤ 9223372036854775807) (hq0 : q.length ≤ 9223372036854775807)
    (hu : u < 18446744073709551616) (hn : In64 n) (hx : ∀ y ∈ l, In64 y) :
    Calls Try.prog 6 #[val u n b s lv, str p, str q] w (RetB w true) := by
  by_cases h : s.length ≤ 400 ∧ l.length ≤ 400
  · by_cases h1 : p.length ≤ 400
    · by_cases h2 : q.length ≤ 400
      · exact rounds_any u n b s lv l p q w hv h.1 h.2 h1 h2 hu hn hx
      · exact rounds_behind u n b s lv l p q w hv h.1 h.2 h1 (by omega) hq0
    · exact rounds_before u n b s lv l p q w hv h.1 h.2 (by omega) hp0
  · exact rounds_long u n b s lv l p q w hv hs0 h
end Go.Proofs.Ytemhfhfbhdkedaa
