/- The walks of the statements of layer 3 that take a struct of values: each returns true and changes nothing that was there. -/
import Derived.Test.YtemhfhfbhdkedaaLawsA3
import Derived.Deep.RegionHeld3
namespace Go.Proofs.Ytemhfhfbhdkedaa
open Go.ChangeShapes Go.WideShapes Go.ChangeAt Go.RowKit
/-- The boxed struct and its list, in a world. -/
def Boxed (g u : Nat) (n : Int) (b : Bool) (s : List UInt8) (lv : Value) (l : List Int) (w0 w : World) : Prop :=
  w.heap[g]? = some (.cells #[.int .u64 u, .int .i64 n, .bool b, str s, lv] 25 (0, 0)) ∧ RS w lv (intsV l) ∧ Below w0.heap.size w0 w ∧ g < w.heap.size
theorem Boxed.below {g u : Nat} {n : Int} {b : Bool} {s : List UInt8} {lv : Value} {l : List Int} {w0 w w' : World} (h : Boxed g u n b s lv l w0 w) (hb : Below w.heap.size w w') : Boxed g u n b s lv l w0 w' :=
  ⟨(hb.block g h.2.2.2).trans h.1, h.2.1.below hb, h.2.2.1.trans (hb.mono h.2.2.1.size), Nat.lt_of_lt_of_le h.2.2.2 hb.size⟩
theorem Boxed.start {u : Nat} {n : Int} {b : Bool} {s : List UInt8} {lv : Value} {l : List Int} {w : World} (h : RS w lv (intsV l)) : Boxed w.heap.size u n b s lv l w (w.alloc (.cells #[.int .u64 u, .int .i64 n, .bool b, str s, lv] 25)) :=
  ⟨heap_alloc_new w _, h.alloc _, (Below.refl _ _).alloc (Nat.le_refl _) _, by simp⟩
theorem Boxed.cells {g u : Nat} {n : Int} {b : Bool} {s : List UInt8} {lv : Value} {l : List Int} {w0 w : World} (h : Boxed g u n b s lv l w0 w) :
    w.cell? ⟨g, 0, none⟩ = some (.int .u64 u) ∧ w.cell? ⟨g, 1, none⟩ = some (.int .i64 n) ∧ w.cell? ⟨g, 2, none⟩ = some (.bool b) ∧ w.cell? ⟨g, 3, none⟩ = some (str s) ∧ w.cell? ⟨g, 4, none⟩ = some lv :=
  ⟨(cell_of_row w g 0 _ _ _ h.1).trans rfl, (cell_of_row w g 1 _ _ _ h.1).trans rfl, (cell_of_row w g 2 _ _ _ h.1).trans rfl, (cell_of_row w g 3 _ _ _ h.1).trans rfl, (cell_of_row w g 4 _ _ _ h.1).trans rfl⟩
theorem Boxed.drew {g u : Nat} {n : Int} {b : Bool} {s : List UInt8} {lv : Value} {l : List Int} {w0 w : World} (h : Boxed g u n b s lv l w0 w) : Boxed g u n b s lv l w0 w.drew :=
  ⟨h.1, h.2.1, bdrew h.2.2.1 1, h.2.2.2⟩
theorem Boxed.all {g u : Nat} {n : Int} {b : Bool} {s : List UInt8} {lv : Value} {l : List Int} {w0 w : World} (h : Boxed g u n b s lv l w0 w) :
    w.cell? ⟨g, 0, none⟩ = some (.int .u64 u) ∧ w.cell? ⟨g, 1, none⟩ = some (.int .i64 n) ∧ w.cell? ⟨g, 2, none⟩ = some (.bool b) ∧ w.cell? ⟨g, 3, none⟩ = some (str s) ∧ w.cell? ⟨g, 4, none⟩ = some lv ∧ Boxed g u n b s lv l w0 w :=
  ⟨h.cells.1, h.cells.2.1, h.cells.2.2.1, h.cells.2.2.2.1, h.cells.2.2.2.2, h⟩
theorem Boxed.rs {g u : Nat} {n : Int} {b : Bool} {s : List UInt8} {lv : Value} {l : List Int} {w0 w : World} (h : Boxed g u n b s lv l w0 w) : RS w lv (intsV l) := h.2.1
theorem Boxed.keep {g u : Nat} {n : Int} {b : Bool} {s : List UInt8} {lv : Value} {l : List Int} {w0 w w' : World} (h : Boxed g u n b s lv l w0 w) (hb : Below w.heap.size w w') :
    w'.cell? ⟨g, 0, none⟩ = some (.int .u64 u) ∧ w'.cell? ⟨g, 1, none⟩ = some (.int .i64 n) ∧ w'.cell? ⟨g, 2, none⟩ = some (.bool b) ∧ w'.cell? ⟨g, 3, none⟩ = some (str s) ∧ w'.cell? ⟨g, 4, none⟩ = some lv ∧ Boxed g u n b s lv l w0 w' := (h.below hb).all
theorem cut_at (x : List UInt8) (c : Int) (hn : 1 ≤ x.length) (hn2 : x.length ≤ 1000000) (hc : 1 ≤ c) (hc2 : c ≤ 9223372036854775807) : ∃ j : Nat, (j < x.length ∧ -9223372036854775808 ≤ (x.length : Int) - c ∧ (x.length : Int) - c ≤ 9223372036854775807) ∧
    (∀ ww : World, (Builtin.max_ #[3, 3] 3 #[.int .i64 0, .int .i64 ((x.length : Int) - c)]).run Try.prog ww = .ok (.int .i64 (j : Int)) ww) ∧
    (∀ ww : World, (Instr.slice 9 (.string ⟨x.toArray⟩) none (some (.int .i64 (j : Int))) none).run Try.prog ww = .ok (str (x.take j)) ww) := by
  have hj : ((x.length : Int) - c).toNat < x.length := by omega
  refine ⟨((x.length : Int) - c).toNat, ⟨hj, by omega, by omega⟩, fun ww => ?_, fun ww => ?_⟩
  · rw [run_max_int2]
    congr 2
    split <;> omega
  · rw [run_slice_string_to_if ww 9 _ _ _ Try.underlying9, if_pos ⟨by omega, by rw [sb_size]; omega⟩, ByteArray.extract_mk]
    congr 5
theorem tU_cut0 {n : Nat} (h : n < 18446744073709551616) {j : Nat} (hj : j < (enc n).length) : tU ((enc n).take j) 0 = .err 5 := tU_cut h [] hj
theorem tI_cut0 {n : Int} (h : In64 n) {j : Nat} (hj : j < (encI n).length) : tI ((encI n).take j) 0 = .err 5 := tI_cut h [] hj
theorem i400 : In64 400 := ⟨by decide, by decide⟩
theorem encT_cap {s : List UInt8} (h : s.length ≤ 400) : 1 ≤ (encT s).length ∧ (encT s).length ≤ 1000 := by
  have h1 := enc_ten (n := s.length) (by omega)
  have h2 := enc_pos s.length
  rw [encT, List.length_append]; omega
theorem encL_cap {l : List Int} (hx : ∀ y ∈ l, In64 y) (h : l.length ≤ 400) : 1 ≤ (encL l).length ∧ (encL l).length ≤ 5000 := by
  have h1 := enc_ten (n := l.length) (by omega)
  have h2 := enc_pos l.length
  have h3 := (encs_len l hx).2
  rw [encL, List.length_append]; omega
set_option maxRecDepth 100000 in
set_option maxHeartbeats 4000000 in
theorem cuts_long (u : Nat) (n : Int) (b : Bool) (s : List UInt8) (lv : Value) (l : List Int) (c : Int) (w : World) (hv : RS w lv (intsV l)) (hs0 : s.length ≤ 9223372036854775807) (h : ¬ (s.length ≤ 400 ∧ l.length ≤ 400)) :
    Calls Try.prog 8 #[val u n b s lv, .int .i64 c] w (RetB w true) := by
  have BX := Lib.hid (Boxed.start (u := u) (n := n) (b := b) (s := s) hv)
  go_enter Try.func8, Try.ntmps8
  go_wp2_with fail
  refine (short_no u n b s lv l _ BX.out.2.1 hs0 h).mono ?_
  rintro e W ⟨rfl, bb⟩
  replace BX := Lib.hid (BX.out.below bb)
  clear bb
  go_wp2_with fail
  refine (alive_any _).mono ?_
  rintro e W ⟨rfl, bb⟩
  replace BX := Lib.hid (BX.out.below bb)
  clear bb
  go_wp2
  go_ret
  exact ⟨rfl, BX.out.2.2.1⟩
set_option maxRecDepth 100000 in
set_option maxHeartbeats 4000000 in
theorem cuts_any (u : Nat) (n : Int) (b : Bool) (s : List UInt8) (lv : Value) (l : List Int) (c : Int) (w : World) (hv : RS w lv (intsV l)) (hs : s.length ≤ 400) (hl : l.length ≤ 400)
    (hu : u < 18446744073709551616) (hn : In64 n) (hx : ∀ y ∈ l, In64 y) (hc : 1 ≤ c) (hc2 : c ≤ 9223372036854775807) :
    Calls Try.prog 8 #[val u n b s lv, .int .i64 c] w (RetB w true) := by
  have BX := Lib.hid (Boxed.start (u := u) (n := n) (b := b) (s := s) hv)
  obtain ⟨n1, n2⟩ := hn
  have s1 : s.length ≤ 100000 := by omega
  have l1 : l.length ≤ 2000 := by omega
  replace hx := Lib.hid hx
  go_enter Try.func8, Try.ntmps8
  go_wp2_with fail
  refine (short_yes u n b s lv l _ BX.out.2.1 hs hl).mono ?_
  rintro e W ⟨rfl, bb⟩
  replace BX := Lib.hid (BX.out.below bb)
  clear bb
  go_wp2_with fail
  have B2 := BX.out.drew.all
  go_region_held3 (fun w' => w'.cell? ⟨w.heap.size, 0, none⟩ = some (.int .u64 u) ∧ w'.cell? ⟨w.heap.size, 1, none⟩ = some (.int .i64 n) ∧ w'.cell? ⟨w.heap.size, 2, none⟩ = some (.bool b) ∧ w'.cell? ⟨w.heap.size, 3, none⟩ = some (str s) ∧ w'.cell? ⟨w.heap.size, 4, none⟩ = some lv ∧ Boxed w.heap.size u n b s lv l w w')
    (first | exact B2 | (go_split_ands; exact Boxed.keep (by assumption) bb))
    (first
      | (go_at_call 12; refine (uint_any u _ hu).mono ?_; rintro e w' ⟨rfl, bb⟩)
      | (go_at_call 14; refine (int_any n _ n1 n2).mono ?_; rintro e w' ⟨rfl, bb⟩)
      | (go_at_call 18; refine (text_any s _ s1).mono ?_; rintro e w' ⟨rfl, bb⟩)
      | (go_at_call 20; refine (ints_any lv l _ ?_ l1 hx.out).mono ?_; (go_split_ands; refine Boxed.rs (g := w.heap.size) (u := u) (n := n) (b := b) (s := s) (w0 := w) ?_; assumption); rintro e w' ⟨rfl, bb⟩))
  clear B2
  rename_i hH
  have HB : Below w.heap.size w w' := hH.2.2.2.2.2.2.2.1
  clear hH bb
  have p1 := enc_ten hu
  have p2 := encI_len (n := n) ⟨n1, n2⟩
  have p3 := encT_cap hs
  have p4 := encL_cap hx.out hl
  obtain ⟨j1, ⟨J1, J1a, J1b⟩, M1, X1⟩ := cut_at (enc u) c (by have := enc_pos u; omega) (by omega) hc hc2
  have K1 := fun w => takeUint_any ((enc u).take j1) 0 w (by simp; omega) i0
  rw [tU_cut0 hu J1] at K1
  simp only [outU] at K1
  replace J1 := Lib.hid J1
  go_wp2_with fail
  refine (K1 _).mono ?_
  rintro e W1 ⟨rfl, rfl⟩
  clear M1 X1 K1
  obtain ⟨j2, ⟨J2, J2a, J2b⟩, M2, X2⟩ := cut_at (encI n) c (by omega) (by omega) hc hc2
  have K2 := fun w => takeInt_any ((encI n).take j2) 0 w (by simp; omega) i0
  rw [tI_cut0 ⟨n1, n2⟩ J2] at K2
  simp only [outI] at K2
  replace J2 := Lib.hid J2
  go_wp2_with fail
  refine (K2 _).mono ?_
  rintro e W2 ⟨rfl, rfl⟩
  clear M2 X2 K2
  obtain ⟨j3, ⟨J3, J3a, J3b⟩, M3, X3⟩ := cut_at (encT s) c (by omega) (by omega) hc hc2
  have K3 := fun w => takeText_any ((encT s).take j3) 0 400 w (by simp; omega) i0 i400
  rw [tT_cut (m := 400) (by omega) (by omega) J3] at K3
  simp only [outT] at K3
  replace J3 := Lib.hid J3
  go_wp2_with fail
  refine (K3 _).mono ?_
  rintro e W3 ⟨rfl, bb⟩
  replace HB := HB.trans (bb.mono HB.size)
  clear bb
  clear M3 X3 K3
  obtain ⟨j4, ⟨J4, J4a, J4b⟩, M4, X4⟩ := cut_at (encL l) c (by omega) (by omega) hc hc2
  have K4 := fun w => takeInts_any ((encL l).take j4) 0 400 w (by simp; omega) i0 i400
  rw [tL_cut (m := 400) hx.out (by omega) (by omega) J4] at K4
  skip
  replace J4 := Lib.hid J4
  go_wp2_with fail
  refine (K4 _).mono ?_
  rintro e W4 ⟨v, rfl, R, bb⟩
  replace HB := HB.trans (bb.mono HB.size)
  clear bb
  simp only [toOf, errOf]
  clear R
  clear M4 X4 K4
  go_wp2_with fail
  refine (alive_any _).mono ?_
  rintro e W5 ⟨rfl, bb⟩
  replace HB := HB.trans (bb.mono HB.size)
  clear bb
  go_wp2
  go_ret
  exact ⟨rfl, HB⟩
set_option maxRecDepth 100000 in
set_option maxHeartbeats 4000000 in
theorem cuts_low (u : Nat) (n : Int) (b : Bool) (s : List UInt8) (lv : Value) (l : List Int) (c : Int) (w : World) (hv : RS w lv (intsV l)) (hs : s.length ≤ 400) (hl : l.length ≤ 400) (hc : c < 1) :
    Calls Try.prog 8 #[val u n b s lv, .int .i64 c] w (RetB w true) := by
  have BX := Lib.hid (Boxed.start (u := u) (n := n) (b := b) (s := s) hv)
  go_enter Try.func8, Try.ntmps8
  go_wp2_with fail
  refine (short_yes u n b s lv l _ BX.out.2.1 hs hl).mono ?_
  rintro e W ⟨rfl, bb⟩
  replace BX := Lib.hid (BX.out.below bb)
  clear bb
  go_wp2_with fail
  refine (alive_any _).mono ?_
  rintro e W ⟨rfl, bb⟩
  replace BX := Lib.hid (BX.out.below bb)
  clear bb
  go_wp2
  go_ret
  exact ⟨rfl, BX.out.2.2.1⟩
theorem cuts_all (u : Nat) (n : Int) (b : Bool) (s : List UInt8) (lv : Value) (l : List Int) (c : Int) (w : World) (hv : RS w lv (intsV l)) (hs0 : s.length ≤ 9223372036854775807)
    (hu : u < 18446744073709551616) (hn : In64 n) (hx : ∀ y ∈ l, In64 y) (hc : In64 c) :
    Calls Try.prog 8 #[val u n b s lv, .int .i64 c] w (RetB w true) := by
  by_cases h : s.length ≤ 400 ∧ l.length ≤ 400
  · by_cases hc1 : c < 1
    · exact cuts_low u n b s lv l c w hv h.1 h.2 hc1
    · exact cuts_any u n b s lv l c w hv h.1 h.2 hu hn hx (by omega) hc.2
  · exact cuts_long u n b s lv l c w hv hs0 h
end Go.Proofs.Ytemhfhfbhdkedaa
