/- Texts of the layers 5 to 7, merged. -/
import Derived.Test.YteafkginhejllaaGreatDoorM8
namespace Go.Proofs.YteafkginhejllaaGreatDoor
section
open Go.ChangeShapes Go.WideShapes Go.ChangeAt Go.RowKit
set_option maxRecDepth 100000 in
set_option maxHeartbeats 4000000 in
theorem slow_any (x : ElD) (w : World) : Calls Tryz.prog 69 #[.agg #[str x.name, .int .i64 x.kind, .int .i64 x.length, .int .i64 x.grade, .int .i64 x.speed, .int .i64 x.slow, .int .i64 x.sec]] w (RetB w (slowS x)) := by
  have KW := fun ww => within_any x.slow 100 x.speed ww
  by_cases hk : x.kind = 2
  · have e : slowS x = wiB x.slow 100 x.speed := by unfold slowS wiB; rw [if_pos hk]
    have t : (x.kind == 2) = true := by simpa using hk
    rw [e]
    obtain ⟨q, hq⟩ : ∃ q, wiB x.slow 100 x.speed = q := ⟨_, rfl⟩
    rw [hq]
    simp only [hq] at KW
    clear hq e hk
    go_enter Tryz.func69, Tryz.ntmps69
    go_wp2_with (go_at_call 54; refine (KW _).mono ?_; rintro e w1 ⟨rfl, rfl⟩)
    go_ret
    exact ⟨rfl, b1w _ _⟩
  · have e : slowS x = (x.slow == 0) := by unfold slowS; rw [if_neg hk]
    have t : (x.kind == 2) = false := by simpa using hk
    rw [e]
    clear KW e hk
    go_enter Tryz.func69, Tryz.ntmps69
    go_wp2
    go_ret
    exact ⟨rfl, b1w _ _⟩
theorem right_eq (n : Nat) (x : ElD) : rightS n x = (decide (0 < sidesS x.kind) && (wiB x.length 500 1000000 && (wiB x.grade (-50) 50 && (wiB x.speed 100 10000 && (slowS x && (decide (0 ≤ x.sec) && decide (x.sec < (n : Int)))))))) := by
  have hs : (0 < sidesS x.kind) ↔ (1 ≤ x.kind ∧ x.kind ≤ 3) := by
    unfold sidesS
    split
    · omega
    · split
      · omega
      · split <;> omega
  rw [Bool.eq_iff_iff]
  unfold rightS wiB
  cases slowS x <;> simp only [Bool.and_eq_true, decide_eq_true_eq, hs, Bool.and_true, Bool.and_false, Bool.false_and, Bool.true_and, Bool.false_eq_true] <;> omega

set_option maxRecDepth 100000 in
set_option maxHeartbeats 4000000 in
theorem elFit1_any (x : ElD) (w : World) (B n1 c1 : Nat) (a1 : Option Addr) (hG : GW w) (hc : w.cell? ⟨B, 1, none⟩ = some (.slice a1 n1 c1)) (m1 : n1 ≤ 9223372036854775807) :
    Calls Tryz.prog 67 #[.agg #[str x.name, .int .i64 x.kind, .int .i64 x.length, .int .i64 x.grade, .int .i64 x.speed, .int .i64 x.slow, .int .i64 x.sec], .pointer (some ⟨B, 0, none⟩)] w (RetB w (rightS n1 x)) := by
  rw [right_eq]
  have hlt : B < w.heap.size := World.block_lt_of_cell? w _ hc
  have KW := within_any
  have KI := fun ww => isIndex_any x.sec n1 ww (by omega) (by omega)
  have KS := fun o => sides_any x.kind (w.alloc o) (hG.below (b1w w o))
  cases h0 : decide (0 < sidesS x.kind) with
  | false =>
    go_enter Tryz.func67, Tryz.ntmps67
    go_wp2_with (first | (go_at_call 68; refine (KS _).mono ?_; rintro e w1 ⟨rfl, rfl⟩) | (go_at_call 54; refine (KW _ _ _ _).mono ?_; rintro e w1 ⟨rfl, rfl⟩))
    go_ret
    exact ⟨rfl, b1w _ _⟩
  | true =>
    cases h1 : wiB x.length 500 1000000 with
    | false =>
      go_enter Tryz.func67, Tryz.ntmps67
      go_wp2_with (first | (go_at_call 68; refine (KS _).mono ?_; rintro e w1 ⟨rfl, rfl⟩) | (go_at_call 54; refine (KW _ _ _ _).mono ?_; rintro e w1 ⟨rfl, rfl⟩))
      go_ret
      exact ⟨rfl, b1w _ _⟩
    | true =>
      cases h2 : wiB x.grade (-50) 50 with
      | false =>
        go_enter Tryz.func67, Tryz.ntmps67
        go_wp2_with (first | (go_at_call 68; refine (KS _).mono ?_; rintro e w1 ⟨rfl, rfl⟩) | (go_at_call 54; refine (KW _ _ _ _).mono ?_; rintro e w1 ⟨rfl, rfl⟩))
        go_ret
        exact ⟨rfl, b1w _ _⟩
      | true =>
        cases h3 : wiB x.speed 100 10000 with
        | false =>
          go_enter Tryz.func67, Tryz.ntmps67
          go_wp2_with (first | (go_at_call 68; refine (KS _).mono ?_; rintro e w1 ⟨rfl, rfl⟩) | (go_at_call 54; refine (KW _ _ _ _).mono ?_; rintro e w1 ⟨rfl, rfl⟩))
          go_ret
          exact ⟨rfl, b1w _ _⟩
        | true =>
          cases h4 : slowS x with
          | false =>
            go_enter Tryz.func67, Tryz.ntmps67
            go_wp2_with (first | (go_at_call 68; refine (KS _).mono ?_; rintro e w1 ⟨rfl, rfl⟩) | (go_at_call 54; refine (KW _ _ _ _).mono ?_; rintro e w1 ⟨rfl, rfl⟩))
            refine (slow_any x _).mono ?_
            rintro e w2 ⟨rfl, b2⟩
            have g2 := (Blk.new w _ 45 _ rfl).below b2
            have k6 := g2.at 6 _ rfl
            have hB2 := bnew b2
            have kL := (hB2.cell (p := ⟨B, 1, none⟩) hlt).trans hc
            clear g2
            go_wp2
            go_ret
            exact ⟨rfl, hB2⟩
          | true =>
            cases h5 : (decide (0 ≤ x.sec) && decide (x.sec < (n1 : Int))) with
            | false =>
              go_enter Tryz.func67, Tryz.ntmps67
              go_wp2_with (first | (go_at_call 68; refine (KS _).mono ?_; rintro e w1 ⟨rfl, rfl⟩) | (go_at_call 54; refine (KW _ _ _ _).mono ?_; rintro e w1 ⟨rfl, rfl⟩))
              refine (slow_any x _).mono ?_
              rintro e w2 ⟨rfl, b2⟩
              have g2 := (Blk.new w _ 45 _ rfl).below b2
              have k6 := g2.at 6 _ rfl
              have hB2 := bnew b2
              have kL := (hB2.cell (p := ⟨B, 1, none⟩) hlt).trans hc
              clear g2
              go_wp2_with (go_at_call 70; refine (KI _).mono ?_; rintro e w1 ⟨rfl, rfl⟩)
              go_ret
              exact ⟨rfl, hB2⟩
            | true =>
              go_enter Tryz.func67, Tryz.ntmps67
              go_wp2_with (first | (go_at_call 68; refine (KS _).mono ?_; rintro e w1 ⟨rfl, rfl⟩) | (go_at_call 54; refine (KW _ _ _ _).mono ?_; rintro e w1 ⟨rfl, rfl⟩))
              refine (slow_any x _).mono ?_
              rintro e w2 ⟨rfl, b2⟩
              have g2 := (Blk.new w _ 45 _ rfl).below b2
              have k6 := g2.at 6 _ rfl
              have hB2 := bnew b2
              have kL := (hB2.cell (p := ⟨B, 1, none⟩) hlt).trans hc
              clear g2
              go_wp2_with (go_at_call 70; refine (KI _).mono ?_; rintro e w1 ⟨rfl, rfl⟩)
              go_ret
              exact ⟨rfl, hB2⟩
set_option maxRecDepth 100000 in
set_option maxHeartbeats 4000000 in
theorem joFit1_any (x : (EndD × EndD)) (w : World) (B : Nat) (V : Array Value) (L : LayD) (hG : GW w) (hB : Blk w B V) (hv : RLay w (.agg V) L) :
    Calls Tryz.prog 73 #[.agg #[.int .i64 x.1.1, .int .i64 x.1.2, .int .i64 x.2.1, .int .i64 x.2.2], .pointer (some ⟨B, 0, none⟩)] w (RetB w (exS L.els x.1 && (exS L.els x.2 && !(x.1 == x.2)))) := by
  have KX := fun W (h : Below w.heap.size w W) e s => exists_any (.agg V) L e s W (hG.below h) (hv.below h)
  have SK := fun W (h : Below w.heap.size w W) => hB.below h
  have hlt : B < w.heap.size := hB.lt
  obtain ⟨v1, v2, v3, v4, v5, hV, r1, r2, r3, r4, r5⟩ := hv
  obtain ⟨a1, c1, rfl, ⟨m1, _⟩, _⟩ := r1.openS
  obtain ⟨a2, c2, rfl, ⟨m2, _⟩, HC⟩ := r2.openM
  obtain ⟨a3, c3, rfl, ⟨m3, _⟩, _⟩ := r3.openM
  obtain ⟨a4, c4, rfl, ⟨m4, _⟩, _⟩ := r4.openM
  obtain ⟨a5, c5, rfl, ⟨m5, _⟩, _⟩ := r5.openM
  simp only [Value.agg.injEq] at hV
  subst hV
  clear r1 r2 r3 r4 r5
  replace KX := Lib.hid KX
  clear hB HC
  have EN := neq_end x.1.1 x.1.2 x.2.1 x.2.2
  rw [show ((x.1.1, x.1.2) == (x.2.1, x.2.2)) = (x.1 == x.2) from rfl] at EN
  have K1 := fun W h => KX.out W h x.1.1 x.1.2
  have K2 := fun W h => KX.out W h x.2.1 x.2.2
  rw [show (x.1.1, x.1.2) = x.1 from rfl] at K1
  rw [show (x.2.1, x.2.2) = x.2 from rfl] at K2
  obtain ⟨q1, e1⟩ : ∃ q, exS L.els x.1 = q := ⟨_, rfl⟩
  obtain ⟨q2, e2⟩ : ∃ q, exS L.els x.2 = q := ⟨_, rfl⟩
  rw [e1] at K1 ⊢
  rw [e2] at K2 ⊢
  replace K1 := Lib.hid K1
  replace K2 := Lib.hid K2
  clear KX e1 e2
  obtain ⟨w0, hw0⟩ : ∃ w0, w0 = w.alloc (.cells #[.int .i64 x.1.1, .int .i64 x.1.2, .int .i64 x.2.1, .int .i64 x.2.2] 49) := ⟨_, rfl⟩
  have gx : Blk w0 w.heap.size #[.int .i64 x.1.1, .int .i64 x.1.2, .int .i64 x.2.1, .int .i64 x.2.2] := by rw [hw0]; exact Blk.new _ _ _ _ rfl
  have h0 : Below w.heap.size w w0 := by rw [hw0]; exact b1w _ _
  have SX := fun W (h : Below w0.heap.size w0 W) => gx.below h
  replace SX := Lib.hid SX
  clear gx
  replace SK := Lib.hid SK
  have l := SK.out w (Below.refl _ _)
  have j0 := l.at 0 _ rfl
  have j1 := l.at 1 _ rfl
  have j2 := l.at 2 _ rfl
  have j3 := l.at 3 _ rfl
  have j4 := l.at 4 _ rfl
  have j5 := l.at 5 _ rfl
  clear l
  go_enter Tryz.func73, Tryz.ntmps73
  go_wp2_with fail
  rw [← hw0]
  refine (K1.out _ h0).mono ?_
  rintro e w1 ⟨rfl, b1⟩
  have h1 := h0.trans (b1.mono h0.size)
  have x1 := SX.out w1 b1
  have x10 := x1.at 0 _ rfl
  have x11 := x1.at 1 _ rfl
  have x12 := x1.at 2 _ rfl
  have x13 := x1.at 3 _ rfl
  have l1 := SK.out w1 h1
  have k10 := l1.at 0 _ rfl
  have k11 := l1.at 1 _ rfl
  have k12 := l1.at 2 _ rfl
  have k13 := l1.at 3 _ rfl
  have k14 := l1.at 4 _ rfl
  have k15 := l1.at 5 _ rfl
  clear l1 x1 j0 j1 j2 j3 j4 j5
  cases q1 with
  | false =>
    go_wp2
    go_ret
    exact ⟨rfl, h1⟩
  | true =>
    go_wp2_with fail
    refine (K2.out _ h1).mono ?_
    rintro e w2 ⟨rfl, b2⟩
    have h2 := h1.trans (b2.mono h1.size)
    have x2 := SX.out w2 (b1.trans (b2.mono b1.size))
    have x20 := x2.at 0 _ rfl
    have x21 := x2.at 1 _ rfl
    have x22 := x2.at 2 _ rfl
    have x23 := x2.at 3 _ rfl
    clear x2 x10 x11 x12 x13 k10 k11 k12 k13 k14 k15
    cases q2 with
    | false =>
      go_wp2
      go_ret
      exact ⟨rfl, h2⟩
    | true =>
      go_wp2
      go_ret
      exact ⟨rfl, h2⟩
set_option maxRecDepth 100000 in
set_option maxHeartbeats 4000000 in
theorem sgFit1_any (x : SigD) (w : World) (B : Nat) (V : Array Value) (L : LayD) (hG : GW w) (hB : Blk w B V) (hv : RLay w (.agg V) L) :
    Calls Tryz.prog 76 #[.agg #[str x.name, .int .i64 x.at_.1, .int .i64 x.at_.2, .int .i64 x.overlap], .pointer (some ⟨B, 0, none⟩)] w (RetB w (exS L.els x.at_ && wiB x.overlap 0 1000000)) := by
  have KX := fun W (h : Below w.heap.size w W) e s => exists_any (.agg V) L e s W (hG.below h) (hv.below h)
  have SK := fun W (h : Below w.heap.size w W) => hB.below h
  have hlt : B < w.heap.size := hB.lt
  obtain ⟨v1, v2, v3, v4, v5, hV, r1, r2, r3, r4, r5⟩ := hv
  obtain ⟨a1, c1, rfl, ⟨m1, _⟩, _⟩ := r1.openS
  obtain ⟨a2, c2, rfl, ⟨m2, _⟩, HC⟩ := r2.openM
  obtain ⟨a3, c3, rfl, ⟨m3, _⟩, _⟩ := r3.openM
  obtain ⟨a4, c4, rfl, ⟨m4, _⟩, _⟩ := r4.openM
  obtain ⟨a5, c5, rfl, ⟨m5, _⟩, _⟩ := r5.openM
  simp only [Value.agg.injEq] at hV
  subst hV
  clear r1 r2 r3 r4 r5
  replace KX := Lib.hid KX
  clear hB HC
  have K1 := fun W h => KX.out W h x.at_.1 x.at_.2
  rw [show (x.at_.1, x.at_.2) = x.at_ from rfl] at K1
  have KW := fun ww => within_any x.overlap 0 1000000 ww
  obtain ⟨q1, e1⟩ : ∃ q, exS L.els x.at_ = q := ⟨_, rfl⟩
  obtain ⟨q2, e2⟩ : ∃ q, wiB x.overlap 0 1000000 = q := ⟨_, rfl⟩
  rw [e1] at K1 ⊢
  rw [e2] at KW ⊢
  replace K1 := Lib.hid K1
  clear KX e1 e2
  obtain ⟨w0, hw0⟩ : ∃ w0, w0 = w.alloc (.cells #[str x.name, .int .i64 x.at_.1, .int .i64 x.at_.2, .int .i64 x.overlap] 51) := ⟨_, rfl⟩
  have gx : Blk w0 w.heap.size #[str x.name, .int .i64 x.at_.1, .int .i64 x.at_.2, .int .i64 x.overlap] := by rw [hw0]; exact Blk.new _ _ _ _ rfl
  have h0 : Below w.heap.size w w0 := by rw [hw0]; exact b1w _ _
  have SX := fun W (h : Below w0.heap.size w0 W) => gx.below h
  replace SX := Lib.hid SX
  clear gx
  replace SK := Lib.hid SK
  have l := SK.out w (Below.refl _ _)
  have j0 := l.at 0 _ rfl
  have j1 := l.at 1 _ rfl
  have j2 := l.at 2 _ rfl
  have j3 := l.at 3 _ rfl
  have j4 := l.at 4 _ rfl
  have j5 := l.at 5 _ rfl
  clear l
  go_enter Tryz.func76, Tryz.ntmps76
  go_wp2_with fail
  rw [← hw0]
  refine (K1.out _ h0).mono ?_
  rintro e w1 ⟨rfl, b1⟩
  have h1 := h0.trans (b1.mono h0.size)
  have x1 := SX.out w1 b1
  have x13 := x1.at 3 _ rfl
  clear x1 j0 j1 j2 j3 j4 j5
  cases q1 with
  | false =>
    go_wp2
    go_ret
    exact ⟨rfl, h1⟩
  | true =>
    go_wp2_with (go_at_call 54; refine (KW _).mono ?_; rintro e w2 ⟨rfl, rfl⟩)
    go_ret
    exact ⟨rfl, h1⟩
end
section
open Go.ChangeShapes Go.WideShapes Go.ChangeAt Go.RowKit
theorem bal_eq (els : List ElD) (b : BalD) : balS els b = (wiB b.id 1 1073741824 && ((decide (0 ≤ b.el) && decide (b.el < (els.length : Int))) && wiB b.off 0 (elAt els b.el ElD.length))) := by
  rw [Bool.eq_iff_iff]
  unfold balS wiB
  simp only [Bool.and_eq_true, decide_eq_true_eq]
  omega

set_option maxRecDepth 100000 in
set_option maxHeartbeats 4000000 in
theorem baFit1_any (x : BalD) (w : World) (B : Nat) (V : Array Value) (L : LayD) (hB : Blk w B V) (hv : RLay w (.agg V) L) :
    Calls Tryz.prog 82 #[.agg #[.int .i64 x.id, .int .i64 x.el, .int .i64 x.off], .pointer (some ⟨B, 0, none⟩)] w (RetB w (balS L.els x)) := by
  rw [bal_eq]
  have hlt : B < w.heap.size := hB.lt
  obtain ⟨v1, v2, v3, v4, v5, hV, r1, r2, r3, r4, r5⟩ := hv
  obtain ⟨a2, c2, rfl, ⟨m2, _⟩, HC⟩ := r2.openM
  simp only [Value.agg.injEq] at hV
  subst hV
  have kL := hB.at 2 _ rfl
  clear r1 r2 r3 r4 r5 hB
  obtain ⟨nm, es⟩ : ∃ s, str L.name = s := ⟨_, rfl⟩
  clear es
  have hbb : Below w.heap.size w w := Below.refl _ _
  have K1 := fun ww => within_any x.id 1 1073741824 ww
  have K2 := fun ww => isIndex_any x.el L.els.length ww (by omega) (by omega)
  cases h1 : wiB x.id 1 1073741824 with
  | false =>
    rw [h1] at K1
    clear K2 HC
    go_enter Tryz.func82, Tryz.ntmps82
    go_wp2
    go_quiet ((go_at_call 54; exact Calls.quiet_of_same ((K1 _).mono fun e w' h => ⟨h.1, h.2.symm⟩)))
    go_wp2
    go_ret
    exact ⟨rfl, bdrew (b1w _ _) _⟩
  | true =>
    rw [h1] at K1
    cases h2 : (decide (0 ≤ x.el) && decide (x.el < (L.els.length : Int))) with
    | false =>
      rw [h2] at K2
      clear HC
      go_enter Tryz.func82, Tryz.ntmps82
      go_wp2
      go_quiet ((first | (go_at_call 54; exact Calls.quiet_of_same ((K1 _).mono fun e w' h => ⟨h.1, h.2.symm⟩)) | (go_at_call 70; exact Calls.quiet_of_same ((K2 _).mono fun e w' h => ⟨h.1, h.2.symm⟩))))
      go_wp2
      go_ret
      exact ⟨rfl, bdrew (b1w _ _) _⟩
    | true =>
      rw [h2] at K2
      simp only [Bool.and_eq_true, decide_eq_true_eq] at h2
      obtain ⟨xi, xe, xo⟩ := x
      simp only at h1 h2 K1 K2 ⊢
      obtain ⟨k, rfl⟩ : ∃ k : Nat, xe = k := ⟨xe.toNat, by omega⟩
      have hk : k < L.els.length := by omega
      obtain ⟨y, hy, _⟩ := at_take hk
      obtain ⟨b, off, rfl, hltb, hc⟩ := HC.out.rd hbb hy
      have cK := hc 2 _ rfl
      rw [show elAt L.els (k : Int) ElD.length = y.length from by simp [elAt, hy]]
      obtain ⟨yl, hyl⟩ : ∃ yl, y.length = yl := ⟨_, rfl⟩
      rw [hyl]
      simp only [hyl] at cK
      have t3 : ((k : Int) < (L.els.length : Int)) := h2.2
      clear K1 h2 hc hy hyl HC m2
      go_enter Tryz.func82, Tryz.ntmps82
      go_wp2
      go_quiet ((first | (go_at_call 54; exact Calls.quiet_of_same ((within_any _ _ _ _).mono fun e w' h => ⟨h.1, h.2.symm⟩)) | (go_at_call 70; exact Calls.quiet_of_same ((K2 _).mono fun e w' h => ⟨h.1, h.2.symm⟩))))
      go_wp2
      go_ret
      exact ⟨rfl, bdrew (b1w _ _) _⟩

set_option maxRecDepth 100000 in
set_option maxHeartbeats 4000000 in
theorem elements_any (v : Value) (L : LayD) (w : World) (hG : GW w) (hv : RLay w v L) : Calls Tryz.prog 27 #[v] w (RetB w (elB L)) := by
  have HV := Lib.hid hv
  obtain ⟨v1, v2, v3, v4, v5, rfl, r1, r2, r3, r4, r5⟩ := hv
  obtain ⟨a1, c1, rfl, ⟨m1, _⟩, _⟩ := r1.openS
  obtain ⟨a2, c2, rfl, ⟨m2, _⟩, _⟩ := r2.openM
  obtain ⟨a3, c3, rfl, ⟨m3, _⟩, _⟩ := r3.openM
  obtain ⟨a4, c4, rfl, ⟨m4, _⟩, _⟩ := r4.openM
  obtain ⟨a5, c5, rfl, ⟨m5, _⟩, _⟩ := r5.openM
  obtain ⟨LV, hLV⟩ : ∃ LV : Array Value, LV = #[str L.name, .slice a1 L.secs.length c1, .slice a2 L.els.length c2, .slice a3 L.joints.length c3, .slice a4 L.sigs.length c4, .slice a5 L.bals.length c5] := ⟨_, rfl⟩
  obtain ⟨W1, hW⟩ : ∃ W1, W1 = w.alloc (.cells LV 28) := ⟨_, rfl⟩
  have HB : Below w.heap.size w W1 := by rw [hW]; exact b1w _ _
  have G1 : Blk W1 w.heap.size LV := by rw [hW]; exact Blk.new _ _ _ _ rfl
  rw [hLV] at G1
  have SK : ∀ W, Below W1.heap.size W1 W → Below w.heap.size w W ∧ Blk W w.heap.size #[str L.name, .slice a1 L.secs.length c1, .slice a2 L.els.length c2, .slice a3 L.joints.length c3, .slice a4 L.sigs.length c4, .slice a5 L.bals.length c5] ∧ W.cell? ⟨w.heap.size, 0, none⟩ = some (str L.name) ∧ W.cell? ⟨w.heap.size, 1, none⟩ = some (.slice a1 L.secs.length c1) ∧ W.cell? ⟨w.heap.size, 2, none⟩ = some (.slice a2 L.els.length c2) ∧
      W.cell? ⟨w.heap.size, 3, none⟩ = some (.slice a3 L.joints.length c3) ∧ W.cell? ⟨w.heap.size, 4, none⟩ = some (.slice a4 L.sigs.length c4) ∧ W.cell? ⟨w.heap.size, 5, none⟩ = some (.slice a5 L.bals.length c5) := by
    intro W h
    have b := G1.below h
    exact ⟨HB.trans (h.mono HB.size), b, b.at 0 _ rfl, b.at 1 _ rfl, b.at 2 _ rfl, b.at 3 _ rfl, b.at 4 _ rfl, b.at 5 _ rfl⟩
  replace SK := Lib.hid SK
  have K1 := all_E (.slice a2 L.els.length c2) L.els W1 67 #[.pointer (some ⟨w.heap.size, 0, none⟩)] (rightS L.secs.length) (enters_of Tryz.func67 (by kernel_rfl) rfl) ((r2).below HB) (fun x hx ww hb => elFit1_any x ww w.heap.size L.secs.length c1 a1 ((hG.below HB).below hb) ((SK.out ww hb).2.2.2.1) m1)
  obtain ⟨q1, e1⟩ : ∃ q, elB L = q := ⟨_, rfl⟩
  rw [e1]
  simp only [elB] at e1
  simp only [e1] at K1
  replace K1 := Lib.hid K1
  have k0 := (SK.out W1 (Below.refl _ _)).2.2
  obtain ⟨k00, k01, k02, k03, k04, k05⟩ := k0
  clear r1 r2 r3 r4 r5 HV e1 m1 m2 m3 m4 m5
  go_enter Tryz.func27, Tryz.ntmps27
  go_wp2_with fail
  rw [← hLV, ← hW]
  clear hW hLV
  refine K1.out.mono ?_
  rintro e w1 ⟨rfl, b1⟩
  go_wp2
  go_ret
  exact ⟨rfl, HB.trans (b1.mono HB.size)⟩
set_option maxRecDepth 100000 in
set_option maxHeartbeats 4000000 in
theorem joints_any (v : Value) (L : LayD) (w : World) (hG : GW w) (hv : RLay w v L) : Calls Tryz.prog 29 #[v] w (RetB w (jnB L)) := by
  have HV := Lib.hid hv
  obtain ⟨v1, v2, v3, v4, v5, rfl, r1, r2, r3, r4, r5⟩ := hv
  obtain ⟨a1, c1, rfl, ⟨m1, _⟩, _⟩ := r1.openS
  obtain ⟨a2, c2, rfl, ⟨m2, _⟩, _⟩ := r2.openM
  obtain ⟨a3, c3, rfl, ⟨m3, _⟩, _⟩ := r3.openM
  obtain ⟨a4, c4, rfl, ⟨m4, _⟩, _⟩ := r4.openM
  obtain ⟨a5, c5, rfl, ⟨m5, _⟩, _⟩ := r5.openM
  obtain ⟨LV, hLV⟩ : ∃ LV : Array Value, LV = #[str L.name, .slice a1 L.secs.length c1, .slice a2 L.els.length c2, .slice a3 L.joints.length c3, .slice a4 L.sigs.length c4, .slice a5 L.bals.length c5] := ⟨_, rfl⟩
  obtain ⟨W1, hW⟩ : ∃ W1, W1 = w.alloc (.cells LV 28) := ⟨_, rfl⟩
  have HB : Below w.heap.size w W1 := by rw [hW]; exact b1w _ _
  have G1 : Blk W1 w.heap.size LV := by rw [hW]; exact Blk.new _ _ _ _ rfl
  rw [hLV] at G1
  have SK : ∀ W, Below W1.heap.size W1 W → Below w.heap.size w W ∧ Blk W w.heap.size #[str L.name, .slice a1 L.secs.length c1, .slice a2 L.els.length c2, .slice a3 L.joints.length c3, .slice a4 L.sigs.length c4, .slice a5 L.bals.length c5] ∧ W.cell? ⟨w.heap.size, 0, none⟩ = some (str L.name) ∧ W.cell? ⟨w.heap.size, 1, none⟩ = some (.slice a1 L.secs.length c1) ∧ W.cell? ⟨w.heap.size, 2, none⟩ = some (.slice a2 L.els.length c2) ∧
      W.cell? ⟨w.heap.size, 3, none⟩ = some (.slice a3 L.joints.length c3) ∧ W.cell? ⟨w.heap.size, 4, none⟩ = some (.slice a4 L.sigs.length c4) ∧ W.cell? ⟨w.heap.size, 5, none⟩ = some (.slice a5 L.bals.length c5) := by
    intro W h
    have b := G1.below h
    exact ⟨HB.trans (h.mono HB.size), b, b.at 0 _ rfl, b.at 1 _ rfl, b.at 2 _ rfl, b.at 3 _ rfl, b.at 4 _ rfl, b.at 5 _ rfl⟩
  replace SK := Lib.hid SK
  have K1 := all_J (.slice a3 L.joints.length c3) L.joints W1 73 #[.pointer (some ⟨w.heap.size, 0, none⟩)] (fun x => exS L.els x.1 && (exS L.els x.2 && !(x.1 == x.2))) (enters_of Tryz.func73 (by kernel_rfl) rfl) ((r3).below HB) (fun x hx ww hb => joFit1_any x ww w.heap.size _ L ((hG.below HB).below hb) ((SK.out ww hb).2.1) (HV.out.below ((SK.out ww hb).1)))
  obtain ⟨q1, e1⟩ : ∃ q, jnB L = q := ⟨_, rfl⟩
  rw [e1]
  simp only [jnB] at e1
  simp only [e1] at K1
  replace K1 := Lib.hid K1
  have k0 := (SK.out W1 (Below.refl _ _)).2.2
  obtain ⟨k00, k01, k02, k03, k04, k05⟩ := k0
  clear r1 r2 r3 r4 r5 HV e1 m1 m2 m3 m4 m5
  go_enter Tryz.func29, Tryz.ntmps29
  go_wp2_with fail
  rw [← hLV, ← hW]
  clear hW hLV
  refine K1.out.mono ?_
  rintro e w1 ⟨rfl, b1⟩
  go_wp2
  go_ret
  exact ⟨rfl, HB.trans (b1.mono HB.size)⟩
set_option maxRecDepth 100000 in
set_option maxHeartbeats 4000000 in
theorem signals_any (v : Value) (L : LayD) (w : World) (hG : GW w) (hv : RLay w v L) : Calls Tryz.prog 31 #[v] w (RetB w (sgB L)) := by
  have HV := Lib.hid hv
  obtain ⟨v1, v2, v3, v4, v5, rfl, r1, r2, r3, r4, r5⟩ := hv
  obtain ⟨a1, c1, rfl, ⟨m1, _⟩, _⟩ := r1.openS
  obtain ⟨a2, c2, rfl, ⟨m2, _⟩, _⟩ := r2.openM
  obtain ⟨a3, c3, rfl, ⟨m3, _⟩, _⟩ := r3.openM
  obtain ⟨a4, c4, rfl, ⟨m4, _⟩, _⟩ := r4.openM
  obtain ⟨a5, c5, rfl, ⟨m5, _⟩, _⟩ := r5.openM
  obtain ⟨LV, hLV⟩ : ∃ LV : Array Value, LV = #[str L.name, .slice a1 L.secs.length c1, .slice a2 L.els.length c2, .slice a3 L.joints.length c3, .slice a4 L.sigs.length c4, .slice a5 L.bals.length c5] := ⟨_, rfl⟩
  obtain ⟨W1, hW⟩ : ∃ W1, W1 = w.alloc (.cells LV 28) := ⟨_, rfl⟩
  have HB : Below w.heap.size w W1 := by rw [hW]; exact b1w _ _
  have G1 : Blk W1 w.heap.size LV := by rw [hW]; exact Blk.new _ _ _ _ rfl
  rw [hLV] at G1
  have SK : ∀ W, Below W1.heap.size W1 W → Below w.heap.size w W ∧ Blk W w.heap.size #[str L.name, .slice a1 L.secs.length c1, .slice a2 L.els.length c2, .slice a3 L.joints.length c3, .slice a4 L.sigs.length c4, .slice a5 L.bals.length c5] ∧ W.cell? ⟨w.heap.size, 0, none⟩ = some (str L.name) ∧ W.cell? ⟨w.heap.size, 1, none⟩ = some (.slice a1 L.secs.length c1) ∧ W.cell? ⟨w.heap.size, 2, none⟩ = some (.slice a2 L.els.length c2) ∧
      W.cell? ⟨w.heap.size, 3, none⟩ = some (.slice a3 L.joints.length c3) ∧ W.cell? ⟨w.heap.size, 4, none⟩ = some (.slice a4 L.sigs.length c4) ∧ W.cell? ⟨w.heap.size, 5, none⟩ = some (.slice a5 L.bals.length c5) := by
    intro W h
    have b := G1.below h
    exact ⟨HB.trans (h.mono HB.size), b, b.at 0 _ rfl, b.at 1 _ rfl, b.at 2 _ rfl, b.at 3 _ rfl, b.at 4 _ rfl, b.at 5 _ rfl⟩
  replace SK := Lib.hid SK
  have K1 := all_G (.slice a4 L.sigs.length c4) L.sigs W1 76 #[.pointer (some ⟨w.heap.size, 0, none⟩)] (fun x => exS L.els x.at_ && wiB x.overlap 0 1000000) (enters_of Tryz.func76 (by kernel_rfl) rfl) ((r4).below HB) (fun x hx ww hb => sgFit1_any x ww w.heap.size _ L ((hG.below HB).below hb) ((SK.out ww hb).2.1) (HV.out.below ((SK.out ww hb).1)))
  obtain ⟨q1, e1⟩ : ∃ q, sgB L = q := ⟨_, rfl⟩
  rw [e1]
  simp only [sgB] at e1
  simp only [wiB] at K1
  simp only [e1] at K1
  replace K1 := Lib.hid K1
  have k0 := (SK.out W1 (Below.refl _ _)).2.2
  obtain ⟨k00, k01, k02, k03, k04, k05⟩ := k0
  clear r1 r2 r3 r4 r5 HV e1 m1 m2 m3 m4 m5
  go_enter Tryz.func31, Tryz.ntmps31
  go_wp2_with fail
  rw [← hLV, ← hW]
  clear hW hLV
  refine K1.out.mono ?_
  rintro e w1 ⟨rfl, b1⟩
  go_wp2
  go_ret
  exact ⟨rfl, HB.trans (b1.mono HB.size)⟩
set_option maxRecDepth 100000 in
set_option maxHeartbeats 4000000 in
theorem balises_any (v : Value) (L : LayD) (w : World) (_ : GW w) (hv : RLay w v L) : Calls Tryz.prog 34 #[v] w (RetB w (blB L)) := by
  have HV := Lib.hid hv
  obtain ⟨v1, v2, v3, v4, v5, rfl, r1, r2, r3, r4, r5⟩ := hv
  obtain ⟨a1, c1, rfl, ⟨m1, _⟩, _⟩ := r1.openS
  obtain ⟨a2, c2, rfl, ⟨m2, _⟩, _⟩ := r2.openM
  obtain ⟨a3, c3, rfl, ⟨m3, _⟩, _⟩ := r3.openM
  obtain ⟨a4, c4, rfl, ⟨m4, _⟩, _⟩ := r4.openM
  obtain ⟨a5, c5, rfl, ⟨m5, _⟩, _⟩ := r5.openM
  obtain ⟨LV, hLV⟩ : ∃ LV : Array Value, LV = #[str L.name, .slice a1 L.secs.length c1, .slice a2 L.els.length c2, .slice a3 L.joints.length c3, .slice a4 L.sigs.length c4, .slice a5 L.bals.length c5] := ⟨_, rfl⟩
  obtain ⟨W1, hW⟩ : ∃ W1, W1 = w.alloc (.cells LV 28) := ⟨_, rfl⟩
  have HB : Below w.heap.size w W1 := by rw [hW]; exact b1w _ _
  have G1 : Blk W1 w.heap.size LV := by rw [hW]; exact Blk.new _ _ _ _ rfl
  rw [hLV] at G1
  have SK : ∀ W, Below W1.heap.size W1 W → Below w.heap.size w W ∧ Blk W w.heap.size #[str L.name, .slice a1 L.secs.length c1, .slice a2 L.els.length c2, .slice a3 L.joints.length c3, .slice a4 L.sigs.length c4, .slice a5 L.bals.length c5] ∧ W.cell? ⟨w.heap.size, 0, none⟩ = some (str L.name) ∧ W.cell? ⟨w.heap.size, 1, none⟩ = some (.slice a1 L.secs.length c1) ∧ W.cell? ⟨w.heap.size, 2, none⟩ = some (.slice a2 L.els.length c2) ∧
      W.cell? ⟨w.heap.size, 3, none⟩ = some (.slice a3 L.joints.length c3) ∧ W.cell? ⟨w.heap.size, 4, none⟩ = some (.slice a4 L.sigs.length c4) ∧ W.cell? ⟨w.heap.size, 5, none⟩ = some (.slice a5 L.bals.length c5) := by
    intro W h
    have b := G1.below h
    exact ⟨HB.trans (h.mono HB.size), b, b.at 0 _ rfl, b.at 1 _ rfl, b.at 2 _ rfl, b.at 3 _ rfl, b.at 4 _ rfl, b.at 5 _ rfl⟩
  replace SK := Lib.hid SK
  have K1 := all_B (.slice a5 L.bals.length c5) L.bals W1 82 #[.pointer (some ⟨w.heap.size, 0, none⟩)] (balS L.els) (enters_of Tryz.func82 (by kernel_rfl) rfl) ((r5).below HB) (fun x hx ww hb => baFit1_any x ww w.heap.size _ L ((SK.out ww hb).2.1) (HV.out.below ((SK.out ww hb).1)))
  obtain ⟨q1, e1⟩ : ∃ q, blB L = q := ⟨_, rfl⟩
  rw [e1]
  simp only [blB] at e1
  simp only [e1] at K1
  replace K1 := Lib.hid K1
  have k0 := (SK.out W1 (Below.refl _ _)).2.2
  obtain ⟨k00, k01, k02, k03, k04, k05⟩ := k0
  clear r1 r2 r3 r4 r5 HV e1 m1 m2 m3 m4 m5
  go_enter Tryz.func34, Tryz.ntmps34
  go_wp2_with fail
  rw [← hLV, ← hW]
  clear hW hLV
  refine K1.out.mono ?_
  rintro e w1 ⟨rfl, b1⟩
  go_wp2
  go_ret
  exact ⟨rfl, HB.trans (b1.mono HB.size)⟩
end
section
open Go.ChangeShapes Go.WideShapes Go.ChangeAt Go.RowKit
set_option maxRecDepth 100000 in
set_option maxHeartbeats 4000000 in
theorem sections_any (v : Value) (L : LayD) (w : World) (hv : RLay w v L) (n2 : L.els.length ≤ 100000) : Calls Tryz.prog 28 #[v] w (RetB w (secB L)) := by
  obtain ⟨q, hq⟩ : ∃ q, secB L = q := ⟨_, rfl⟩
  rw [hq]
  replace hq := Lib.hid hq
  have HV := Lib.hid hv
  obtain ⟨v1, v2, v3, v4, v5, rfl, r1, r2, r3, r4, r5⟩ := hv
  obtain ⟨a1, c1, rfl, ⟨m1, _⟩, _⟩ := r1.openS
  obtain ⟨a2, c2, rfl, ⟨m2, _⟩, _⟩ := r2.openM
  obtain ⟨a3, c3, rfl, ⟨m3, _⟩, _⟩ := r3.openM
  obtain ⟨a4, c4, rfl, ⟨m4, _⟩, _⟩ := r4.openM
  obtain ⟨a5, c5, rfl, ⟨m5, _⟩, _⟩ := r5.openM
  obtain ⟨LV, hLV⟩ : ∃ LV : Array Value, LV = #[str L.name, .slice a1 L.secs.length c1, .slice a2 L.els.length c2, .slice a3 L.joints.length c3, .slice a4 L.sigs.length c4, .slice a5 L.bals.length c5] := ⟨_, rfl⟩
  obtain ⟨W1, hW⟩ : ∃ W1, W1 = w.alloc (.cells LV 28) := ⟨_, rfl⟩
  have HB : Below w.heap.size w W1 := by rw [hW]; exact b1w _ _
  have G1 : Blk W1 w.heap.size LV := by rw [hW]; exact Blk.new _ _ _ _ rfl
  rw [hLV] at G1
  have SK : ∀ W, Below W1.heap.size W1 W → Below w.heap.size w W ∧ W.cell? ⟨w.heap.size, 0, none⟩ = some (str L.name) ∧ W.cell? ⟨w.heap.size, 1, none⟩ = some (.slice a1 L.secs.length c1) ∧ W.cell? ⟨w.heap.size, 2, none⟩ = some (.slice a2 L.els.length c2) ∧
      W.cell? ⟨w.heap.size, 3, none⟩ = some (.slice a3 L.joints.length c3) ∧ W.cell? ⟨w.heap.size, 4, none⟩ = some (.slice a4 L.sigs.length c4) ∧ W.cell? ⟨w.heap.size, 5, none⟩ = some (.slice a5 L.bals.length c5) := by
    intro W h
    have b := G1.below h
    exact ⟨HB.trans (h.mono HB.size), b.at 0 _ rfl, b.at 1 _ rfl, b.at 2 _ rfl, b.at 3 _ rfl, b.at 4 _ rfl, b.at 5 _ rfl⟩
  replace SK := Lib.hid SK
  have KM := fun W (h : Below w.heap.size w W) s => membersP_own _ L s W (HV.out.below h) n2
  replace KM := Lib.hid KM
  clear r1 r2 r3 r4 r5 HV m2 m3 m4 m5 G1
  obtain ⟨sl, hsl⟩ : ∃ sl, L.secs.length = sl := ⟨_, rfl⟩
  rw [hsl] at m1
  replace hsl := Lib.hid hsl
  rw [hsl.out] at SK KM hLV ⊢
  go_enter Tryz.func28, Tryz.ntmps28
  go_wp2
  rw [← hLV, ← hW]
  clear hW hLV
  go_loopg [7] sl (fun g s7 wx => ∃ k : Nat, k + g = sl ∧ s7 = .int .i64 k ∧ Hid (∀ s : Nat, s < k → membersS L (s : Int) ≠ []) ∧ Below W1.heap.size W1 wx)
  case atStart => exact ⟨0, by omega, rfl, Lib.hid (fun s h => by omega), Below.refl _ _⟩
  case round =>
    obtain ⟨k, hk, rfl, HA, hbw⟩ := hrel
    obtain ⟨hw, k0, k1, k2, k3, k4, k5⟩ := SK.out _ hbw
    cases gk with
    | zero =>
      have hz : ¬ ((k : Int) < (sl : Int)) := by omega
      have hA : q = true := by
        rw [← hq.out]
        unfold secB
        rw [List.all_eq_true]
        intro s hs
        rw [List.mem_range, hsl.out] at hs
        exact decide_eq_true (HA.out s (by omega))
      subst hA
      clear HA
      go_wp2
      go_ret
      exact ⟨rfl, hw⟩
    | succ g =>
      have hz : ((k : Int) < (sl : Int)) := by omega
      go_wp2_with fail
      refine (KM.out _ hw (k : Int)).mono ?_
      rintro e w1 ⟨u, rfl, ho, b1⟩
      obtain ⟨au, cu, rfl⟩ := own_shape ho
      have d1 : Below W1.heap.size W1 w1 := hbw.trans (b1.mono hbw.size)
      have hw1 := (SK.out _ d1).1
      cases hm : membersS L (k : Int) with
      | nil =>
        have hA : q = false := by
          rw [← hq.out]
          unfold secB
          rw [List.all_eq_false]
          exact ⟨k, by rw [List.mem_range, hsl.out]; omega, by rw [hm]; simp⟩
        subst hA
        rw [List.length_nil]
        clear HA ho hm k0 k1 k2 k3 k4 k5
        go_wp2
        go_ret
        exact ⟨rfl, hw1⟩
      | cons z zs =>
        have N := Lib.hid (show ∀ s : Nat, s < k + 1 → membersS L (s : Int) ≠ [] from fun s hs => by
          by_cases h : s = k
          · subst h; rw [hm]; simp
          · exact HA.out s (by omega))
        obtain ⟨n, hn⟩ : ∃ n, (z :: zs).length = n := ⟨_, rfl⟩
        have hn0 : 0 < n := by rw [← hn]; simp
        rw [hn]
        have t0 : ((n : Int) == 0) = false := by simp; omega
        clear HA ho hm hn k0 k1 k2 k3 k4 k5
        go_wp2
        go_roundg g
        case measure => omega
        case rel => exact ⟨k + 1, by omega, by go_num, N, d1⟩
end
end Go.Proofs.YteafkginhejllaaGreatDoor
