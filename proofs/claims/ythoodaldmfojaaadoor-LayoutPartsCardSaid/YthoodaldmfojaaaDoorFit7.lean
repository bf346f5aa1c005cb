/- Contracts of the conditions on elements, joints, signals and balises. Conditions: the layout can be read; what the program reads (GW). -/
import Derived.Test.YthoodaldmfojaaaDoorExi7
namespace Go.Proofs.YthoodaldmfojaaaDoor
open Go.ChangeShapes Go.WideShapes Go.ChangeAt Go.RowKit

set_option maxRecDepth 100000 in
set_option maxHeartbeats 4000000 in
theorem slow_any (x : ElD) (w : World) : Calls Tryd.prog 59 #[.agg #[str x.name, .int .i64 x.kind, .int .i64 x.length, .int .i64 x.grade, .int .i64 x.speed, .int .i64 x.slow, .int .i64 x.sec]] w (RetB w (slowS x)) := by
  have KW := fun ww => within_any x.slow 100 x.speed ww
  by_cases hk : x.kind = 2
  · have e : slowS x = wiB x.slow 100 x.speed := by unfold slowS wiB; rw [if_pos hk]
    have t : (x.kind == 2) = true := by simpa using hk
    rw [e]
    obtain ⟨q, hq⟩ : ∃ q, wiB x.slow 100 x.speed = q := ⟨_, rfl⟩
    rw [hq]
    simp only [hq] at KW
    clear hq e hk
    go_enter Tryd.func59, Tryd.ntmps59
    go_wp2_with (go_at_call 44; refine (KW _).mono ?_; rintro e w1 ⟨rfl, rfl⟩)
    go_ret
    exact ⟨rfl, b1w _ _⟩
  · have e : slowS x = (x.slow == 0) := by unfold slowS; rw [if_neg hk]
    have t : (x.kind == 2) = false := by simpa using hk
    rw [e]
    clear KW e hk
    go_enter Tryd.func59, Tryd.ntmps59
    go_wp2
    go_ret
    exact ⟨rfl, b1w _ _⟩
theorem right_eq (n : Nat) (x : ElD) : rightS n x = (decide (0 < sidesS x.kind) && (wiB x.length 500 1000000 && (wiB x.grade (-50) 50 && (wiB x.speed 100 10000 && (slowS x && (decide (0 ≤ x.sec) && decide (x.sec < (n : Int)))))))) := by
  have hs : (0 < sidesS x.kind) ↔ (1 ≤ x.kind ∧ x.kind ≤ 3) := by
    unfold sidesS
    split
    · omega
    · split
      · omega
      · split <;> omega
  rw [Bool.eq_iff_iff]
  unfold rightS wiB
  cases slowS x <;> simp only [Bool.and_eq_true, decide_eq_true_eq, hs, Bool.and_true, Bool.and_false, Bool.false_and, Bool.true_and, Bool.false_eq_true] <;> omega

set_option maxRecDepth 100000 in
set_option maxHeartbeats 4000000 in
theorem elFit1_any (x : ElD) (w : World) (B n1 c1 : Nat) (a1 : Option Addr) (hG : GW w) (hc : w.cell? ⟨B, 1, none⟩ = some (.slice a1 n1 c1)) (m1 : n1 ≤ 9223372036854775807) :
    Calls Tryd.prog 57 #[.agg #[str x.name, .int .i64 x.kind, .int .i64 x.length, .int .i64 x.grade, .int .i64 x.speed, .int .i64 x.slow, .int .i64 x.sec], .pointer (some ⟨B, 0, none⟩)] w (RetB w (rightS n1 x)) := by
  rw [right_eq]
  have hlt : B < w.heap.size := World.block_lt_of_cell? w _ hc
  have KW := within_any
  have KI := fun ww => isIndex_any x.sec n1 ww (by omega) (by omega)
  have KS := fun o => sides_any x.kind (w.alloc o) (hG.below (b1w w o))
  cases h0 : decide (0 < sidesS x.kind) with
  | false =>
    go_enter Tryd.func57, Tryd.ntmps57
    go_wp2_with (first | (go_at_call 58; refine (KS _).mono ?_; rintro e w1 ⟨rfl, rfl⟩) | (go_at_call 44; refine (KW _ _ _ _).mono ?_; rintro e w1 ⟨rfl, rfl⟩))
    go_ret
    exact ⟨rfl, b1w _ _⟩
  | true =>
    cases h1 : wiB x.length 500 1000000 with
    | false =>
      go_enter Tryd.func57, Tryd.ntmps57
      go_wp2_with (first | (go_at_call 58; refine (KS _).mono ?_; rintro e w1 ⟨rfl, rfl⟩) | (go_at_call 44; refine (KW _ _ _ _).mono ?_; rintro e w1 ⟨rfl, rfl⟩))
      go_ret
      exact ⟨rfl, b1w _ _⟩
    | true =>
      cases h2 : wiB x.grade (-50) 50 with
      | false =>
        go_enter Tryd.func57, Tryd.ntmps57
        go_wp2_with (first | (go_at_call 58; refine (KS _).mono ?_; rintro e w1 ⟨rfl, rfl⟩) | (go_at_call 44; refine (KW _ _ _ _).mono ?_; rintro e w1 ⟨rfl, rfl⟩))
        go_ret
        exact ⟨rfl, b1w _ _⟩
      | true =>
        cases h3 : wiB x.speed 100 10000 with
        | false =>
          go_enter Tryd.func57, Tryd.ntmps57
          go_wp2_with (first | (go_at_call 58; refine (KS _).mono ?_; rintro e w1 ⟨rfl, rfl⟩) | (go_at_call 44; refine (KW _ _ _ _).mono ?_; rintro e w1 ⟨rfl, rfl⟩))
          go_ret
          exact ⟨rfl, b1w _ _⟩
        | true =>
          cases h4 : slowS x with
          | false =>
            go_enter Tryd.func57, Tryd.ntmps57
            go_wp2_with (first | (go_at_call 58; refine (KS _).mono ?_; rintro e w1 ⟨rfl, rfl⟩) | (go_at_call 44; refine (KW _ _ _ _).mono ?_; rintro e w1 ⟨rfl, rfl⟩))
            refine (slow_any x _).mono ?_
            rintro e w2 ⟨rfl, b2⟩
            have g2 := (Blk.new w _ 34 _ rfl).below b2
            have k6 := g2.at 6 _ rfl
            have hB2 := bnew b2
            have kL := (hB2.cell (p := ⟨B, 1, none⟩) hlt).trans hc
            clear g2
            go_wp2
            go_ret
            exact ⟨rfl, hB2⟩
          | true =>
            cases h5 : (decide (0 ≤ x.sec) && decide (x.sec < (n1 : Int))) with
            | false =>
              go_enter Tryd.func57, Tryd.ntmps57
              go_wp2_with (first | (go_at_call 58; refine (KS _).mono ?_; rintro e w1 ⟨rfl, rfl⟩) | (go_at_call 44; refine (KW _ _ _ _).mono ?_; rintro e w1 ⟨rfl, rfl⟩))
              refine (slow_any x _).mono ?_
              rintro e w2 ⟨rfl, b2⟩
              have g2 := (Blk.new w _ 34 _ rfl).below b2
              have k6 := g2.at 6 _ rfl
              have hB2 := bnew b2
              have kL := (hB2.cell (p := ⟨B, 1, none⟩) hlt).trans hc
              clear g2
              go_wp2_with (go_at_call 38; refine (KI _).mono ?_; rintro e w1 ⟨rfl, rfl⟩)
              go_ret
              exact ⟨rfl, hB2⟩
            | true =>
              go_enter Tryd.func57, Tryd.ntmps57
              go_wp2_with (first | (go_at_call 58; refine (KS _).mono ?_; rintro e w1 ⟨rfl, rfl⟩) | (go_at_call 44; refine (KW _ _ _ _).mono ?_; rintro e w1 ⟨rfl, rfl⟩))
              refine (slow_any x _).mono ?_
              rintro e w2 ⟨rfl, b2⟩
              have g2 := (Blk.new w _ 34 _ rfl).below b2
              have k6 := g2.at 6 _ rfl
              have hB2 := bnew b2
              have kL := (hB2.cell (p := ⟨B, 1, none⟩) hlt).trans hc
              clear g2
              go_wp2_with (go_at_call 38; refine (KI _).mono ?_; rintro e w1 ⟨rfl, rfl⟩)
              go_ret
              exact ⟨rfl, hB2⟩
set_option maxRecDepth 100000 in
set_option maxHeartbeats 4000000 in
theorem joFit1_any (x : (EndD × EndD)) (w : World) (B : Nat) (V : Array Value) (L : LayD) (hG : GW w) (hB : Blk w B V) (hv : RLay w (.agg V) L) :
    Calls Tryd.prog 61 #[.agg #[.int .i64 x.1.1, .int .i64 x.1.2, .int .i64 x.2.1, .int .i64 x.2.2], .pointer (some ⟨B, 0, none⟩)] w (RetB w (exS L.els x.1 && (exS L.els x.2 && !(x.1 == x.2)))) := by
  have KX := fun W (h : Below w.heap.size w W) e s => exists_any (.agg V) L e s W (hG.below h) (hv.below h)
  have SK := fun W (h : Below w.heap.size w W) => hB.below h
  have hlt : B < w.heap.size := hB.lt
  obtain ⟨v1, v2, v3, v4, v5, hV, r1, r2, r3, r4, r5⟩ := hv
  obtain ⟨a1, c1, rfl, ⟨m1, _⟩, _⟩ := r1.openS
  obtain ⟨a2, c2, rfl, ⟨m2, _⟩, HC⟩ := r2.openM
  obtain ⟨a3, c3, rfl, ⟨m3, _⟩, _⟩ := r3.openM
  obtain ⟨a4, c4, rfl, ⟨m4, _⟩, _⟩ := r4.openM
  obtain ⟨a5, c5, rfl, ⟨m5, _⟩, _⟩ := r5.openM
  simp only [Value.agg.injEq] at hV
  subst hV
  clear r1 r2 r3 r4 r5
  replace KX := Lib.hid KX
  clear hB HC
  have EN := neq_end x.1.1 x.1.2 x.2.1 x.2.2
  rw [show ((x.1.1, x.1.2) == (x.2.1, x.2.2)) = (x.1 == x.2) from rfl] at EN
  have K1 := fun W h => KX.out W h x.1.1 x.1.2
  have K2 := fun W h => KX.out W h x.2.1 x.2.2
  rw [show (x.1.1, x.1.2) = x.1 from rfl] at K1
  rw [show (x.2.1, x.2.2) = x.2 from rfl] at K2
  obtain ⟨q1, e1⟩ : ∃ q, exS L.els x.1 = q := ⟨_, rfl⟩
  obtain ⟨q2, e2⟩ : ∃ q, exS L.els x.2 = q := ⟨_, rfl⟩
  rw [e1] at K1 ⊢
  rw [e2] at K2 ⊢
  replace K1 := Lib.hid K1
  replace K2 := Lib.hid K2
  clear KX e1 e2
  obtain ⟨w0, hw0⟩ : ∃ w0, w0 = w.alloc (.cells #[.int .i64 x.1.1, .int .i64 x.1.2, .int .i64 x.2.1, .int .i64 x.2.2] 47) := ⟨_, rfl⟩
  have gx : Blk w0 w.heap.size #[.int .i64 x.1.1, .int .i64 x.1.2, .int .i64 x.2.1, .int .i64 x.2.2] := by rw [hw0]; exact Blk.new _ _ _ _ rfl
  have h0 : Below w.heap.size w w0 := by rw [hw0]; exact b1w _ _
  have SX := fun W (h : Below w0.heap.size w0 W) => gx.below h
  replace SX := Lib.hid SX
  clear gx
  replace SK := Lib.hid SK
  have l := SK.out w (Below.refl _ _)
  have j0 := l.at 0 _ rfl
  have j1 := l.at 1 _ rfl
  have j2 := l.at 2 _ rfl
  have j3 := l.at 3 _ rfl
  have j4 := l.at 4 _ rfl
  have j5 := l.at 5 _ rfl
  clear l
  go_enter Tryd.func61, Tryd.ntmps61
  go_wp2_with fail
  rw [← hw0]
  refine (K1.out _ h0).mono ?_
  rintro e w1 ⟨rfl, b1⟩
  have h1 := h0.trans (b1.mono h0.size)
  have x1 := SX.out w1 b1
  have x10 := x1.at 0 _ rfl
  have x11 := x1.at 1 _ rfl
  have x12 := x1.at 2 _ rfl
  have x13 := x1.at 3 _ rfl
  have l1 := SK.out w1 h1
  have k10 := l1.at 0 _ rfl
  have k11 := l1.at 1 _ rfl
  have k12 := l1.at 2 _ rfl
  have k13 := l1.at 3 _ rfl
  have k14 := l1.at 4 _ rfl
  have k15 := l1.at 5 _ rfl
  clear l1 x1 j0 j1 j2 j3 j4 j5
  cases q1 with
  | false =>
    go_wp2
    go_ret
    exact ⟨rfl, h1⟩
  | true =>
    go_wp2_with fail
    refine (K2.out _ h1).mono ?_
    rintro e w2 ⟨rfl, b2⟩
    have h2 := h1.trans (b2.mono h1.size)
    have x2 := SX.out w2 (b1.trans (b2.mono b1.size))
    have x20 := x2.at 0 _ rfl
    have x21 := x2.at 1 _ rfl
    have x22 := x2.at 2 _ rfl
    have x23 := x2.at 3 _ rfl
    clear x2 x10 x11 x12 x13 k10 k11 k12 k13 k14 k15
    cases q2 with
    | false =>
      go_wp2
      go_ret
      exact ⟨rfl, h2⟩
    | true =>
      go_wp2
      go_ret
      exact ⟨rfl, h2⟩
set_option maxRecDepth 100000 in
set_option maxHeartbeats 4000000 in
theorem sgFit1_any (x : SigD) (w : World) (B : Nat) (V : Array Value) (L : LayD) (hG : GW w) (hB : Blk w B V) (hv : RLay w (.agg V) L) :
    Calls Tryd.prog 63 #[.agg #[str x.name, .int .i64 x.at_.1, .int .i64 x.at_.2, .int .i64 x.overlap], .pointer (some ⟨B, 0, none⟩)] w (RetB w (exS L.els x.at_ && wiB x.overlap 0 1000000)) := by
  have KX := fun W (h : Below w.heap.size w W) e s => exists_any (.agg V) L e s W (hG.below h) (hv.below h)
  have SK := fun W (h : Below w.heap.size w W) => hB.below h
  have hlt : B < w.heap.size := hB.lt
  obtain ⟨v1, v2, v3, v4, v5, hV, r1, r2, r3, r4, r5⟩ := hv
  obtain ⟨a1, c1, rfl, ⟨m1, _⟩, _⟩ := r1.openS
  obtain ⟨a2, c2, rfl, ⟨m2, _⟩, HC⟩ := r2.openM
  obtain ⟨a3, c3, rfl, ⟨m3, _⟩, _⟩ := r3.openM
  obtain ⟨a4, c4, rfl, ⟨m4, _⟩, _⟩ := r4.openM
  obtain ⟨a5, c5, rfl, ⟨m5, _⟩, _⟩ := r5.openM
  simp only [Value.agg.injEq] at hV
  subst hV
  clear r1 r2 r3 r4 r5
  replace KX := Lib.hid KX
  clear hB HC
  have K1 := fun W h => KX.out W h x.at_.1 x.at_.2
  rw [show (x.at_.1, x.at_.2) = x.at_ from rfl] at K1
  have KW := fun ww => within_any x.overlap 0 1000000 ww
  obtain ⟨q1, e1⟩ : ∃ q, exS L.els x.at_ = q := ⟨_, rfl⟩
  obtain ⟨q2, e2⟩ : ∃ q, wiB x.overlap 0 1000000 = q := ⟨_, rfl⟩
  rw [e1] at K1 ⊢
  rw [e2] at KW ⊢
  replace K1 := Lib.hid K1
  clear KX e1 e2
  obtain ⟨w0, hw0⟩ : ∃ w0, w0 = w.alloc (.cells #[str x.name, .int .i64 x.at_.1, .int .i64 x.at_.2, .int .i64 x.overlap] 56) := ⟨_, rfl⟩
  have gx : Blk w0 w.heap.size #[str x.name, .int .i64 x.at_.1, .int .i64 x.at_.2, .int .i64 x.overlap] := by rw [hw0]; exact Blk.new _ _ _ _ rfl
  have h0 : Below w.heap.size w w0 := by rw [hw0]; exact b1w _ _
  have SX := fun W (h : Below w0.heap.size w0 W) => gx.below h
  replace SX := Lib.hid SX
  clear gx
  replace SK := Lib.hid SK
  have l := SK.out w (Below.refl _ _)
  have j0 := l.at 0 _ rfl
  have j1 := l.at 1 _ rfl
  have j2 := l.at 2 _ rfl
  have j3 := l.at 3 _ rfl
  have j4 := l.at 4 _ rfl
  have j5 := l.at 5 _ rfl
  clear l
  go_enter Tryd.func63, Tryd.ntmps63
  go_wp2_with fail
  rw [← hw0]
  refine (K1.out _ h0).mono ?_
  rintro e w1 ⟨rfl, b1⟩
  have h1 := h0.trans (b1.mono h0.size)
  have x1 := SX.out w1 b1
  have x13 := x1.at 3 _ rfl
  clear x1 j0 j1 j2 j3 j4 j5
  cases q1 with
  | false =>
    go_wp2
    go_ret
    exact ⟨rfl, h1⟩
  | true =>
    go_wp2_with (go_at_call 44; refine (KW _).mono ?_; rintro e w2 ⟨rfl, rfl⟩)
    go_ret
    exact ⟨rfl, h1⟩
end Go.Proofs.YthoodaldmfojaaaDoor
