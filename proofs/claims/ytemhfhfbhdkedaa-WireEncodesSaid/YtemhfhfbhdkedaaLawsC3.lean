/- The walk of WireEncodes: returns true and changes nothing that was there. -/
import Derived.Test.YtemhfhfbhdkedaaLawsB3
namespace Go.Proofs.Ytemhfhfbhdkedaa
open Go.ChangeShapes Go.WideShapes Go.ChangeAt Go.RowKit
set_option maxRecDepth 100000 in
set_option maxHeartbeats 4000000 in
theorem encodes_long (u : Nat) (n : Int) (b : Bool) (s : List UInt8) (lv : Value) (l : List Int) (w : World) (hv : RS w lv (intsV l)) (hs0 : s.length ≤ 9223372036854775807) (h : ¬ (s.length ≤ 400 ∧ l.length ≤ 400)) :
    Calls Try.prog 3 #[val u n b s lv] w (RetB w true) := by
  have BX := Lib.hid (Boxed.start (u := u) (n := n) (b := b) (s := s) hv)
  go_enter Try.func3, Try.ntmps3
  go_wp2_with fail
  refine (short_no u n b s lv l _ BX.out.2.1 hs0 h).mono ?_
  rintro e W ⟨rfl, bb⟩
  replace BX := Lib.hid (BX.out.below bb)
  clear bb
  go_wp2_with fail
  refine (alive_any _).mono ?_
  rintro e W ⟨rfl, bb⟩
  replace BX := Lib.hid (BX.out.below bb)
  clear bb
  go_wp2
  go_ret
  exact ⟨rfl, BX.out.2.2.1⟩
theorem Boxed.keepSame {g u : Nat} {n : Int} {b : Bool} {s : List UInt8} {lv : Value} {l : List Int} {w0 w : World} (h : Boxed g u n b s lv l w0 w) :
    w.cell? ⟨g, 0, none⟩ = some (.int .u64 u) ∧ w.cell? ⟨g, 1, none⟩ = some (.int .i64 n) ∧ w.cell? ⟨g, 2, none⟩ = some (.bool b) ∧ w.cell? ⟨g, 3, none⟩ = some (str s) ∧ w.cell? ⟨g, 4, none⟩ = some lv ∧ Boxed g u n b s lv l w0 w := h.all
set_option maxRecDepth 100000 in
set_option maxHeartbeats 8000000 in
theorem encodes_any (u : Nat) (n : Int) (b : Bool) (s : List UInt8) (lv : Value) (l : List Int) (w : World) (hv : RS w lv (intsV l)) (hs : s.length ≤ 400) (hl : l.length ≤ 400)
    (hu : u < 18446744073709551616) (hn : In64 n) (hx : ∀ y ∈ l, In64 y) :
    Calls Try.prog 3 #[val u n b s lv] w (RetB w true) := by
  have BX := Lib.hid (Boxed.start (u := u) (n := n) (b := b) (s := s) hv)
  obtain ⟨n1, n2⟩ := hn
  have s1 : s.length ≤ 100000 := by omega
  have l1 : l.length ≤ 2000 := by omega
  replace hx := Lib.hid hx
  have t1 : (enc u == enc u) = true := beq_true _
  have t2 : (encI n == encI n) = true := beq_true _
  have t3 : (encB b == encB b) = true := beq_true _
  have t4 : (encT s == encT s) = true := beq_true _
  have t5 : (encL l == encL l) = true := beq_true _
  go_enter Try.func3, Try.ntmps3
  go_wp2_with fail
  refine (short_yes u n b s lv l _ BX.out.2.1 hs hl).mono ?_
  rintro e W ⟨rfl, bb⟩
  replace BX := Lib.hid (BX.out.below bb)
  clear bb
  go_wp2_with fail
  have B2 := BX.out.drew.all
  go_region_held3 (fun w' => w'.cell? ⟨w.heap.size, 0, none⟩ = some (.int .u64 u) ∧ w'.cell? ⟨w.heap.size, 1, none⟩ = some (.int .i64 n) ∧ w'.cell? ⟨w.heap.size, 2, none⟩ = some (.bool b) ∧ w'.cell? ⟨w.heap.size, 3, none⟩ = some (str s) ∧ w'.cell? ⟨w.heap.size, 4, none⟩ = some lv ∧ Boxed w.heap.size u n b s lv l w w')
    (first | exact B2 | (go_split_ands; exact Boxed.keep (by assumption) bb) | assumption)
    (first
      | (go_at_call 12; refine (uint_any u _ hu).mono ?_; rintro e w' ⟨rfl, bb⟩)
      | (go_at_call 13; refine (ruint_any u _ hu).mono ?_; rintro e w' ⟨rfl, bb⟩)
      | (go_at_call 14; refine (int_any n _ n1 n2).mono ?_; rintro e w' ⟨rfl, bb⟩)
      | (go_at_call 15; refine (rint_any n _ n1 n2).mono ?_; rintro e w' ⟨rfl, bb⟩)
      | (go_at_call 16; refine (bool_any b _).mono ?_; rintro e w' ⟨rfl, rfl⟩)
      | (go_at_call 17; refine (rbool_any b _).mono ?_; rintro e w' ⟨rfl, rfl⟩)
      | (go_at_call 18; refine (text_any s _ s1).mono ?_; rintro e w' ⟨rfl, bb⟩)
      | (go_at_call 19; refine (rtext_any s _ s1).mono ?_; rintro e w' ⟨rfl, bb⟩)
      | (go_at_call 20; refine (ints_any lv l _ ?_ l1 hx.out).mono ?_; (go_split_ands; refine Boxed.rs (g := w.heap.size) (u := u) (n := n) (b := b) (s := s) (w0 := w) ?_; assumption); rintro e w' ⟨rfl, bb⟩)
      | (go_at_call 21; refine (rints_any lv l _ ?_ l1 hx.out).mono ?_; (go_split_ands; refine Boxed.rs (g := w.heap.size) (u := u) (n := n) (b := b) (s := s) (w0 := w) ?_; assumption); rintro e w' ⟨rfl, bb⟩)
      | (go_at_call 11; refine (alive_any _).mono ?_; rintro e w' ⟨rfl, bb⟩))
  rename_i hH
  have HB := hH.2.2.2.2.2.2.2.1
  go_wp2
  go_ret
  exact ⟨rfl, HB⟩
theorem encodes_all (u : Nat) (n : Int) (b : Bool) (s : List UInt8) (lv : Value) (l : List Int) (w : World) (hv : RS w lv (intsV l)) (hs0 : s.length ≤ 9223372036854775807)
    (hu : u < 18446744073709551616) (hn : In64 n) (hx : ∀ y ∈ l, In64 y) :
    Calls Try.prog 3 #[val u n b s lv] w (RetB w true) := by
  by_cases h : s.length ≤ 400 ∧ l.length ≤ 400
  · exact encodes_any u n b s lv l w hv h.1 h.2 hu hn hx
  · exact encodes_long u n b s lv l w hv hs0 h
end Go.Proofs.Ytemhfhfbhdkedaa
