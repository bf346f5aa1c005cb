/- Equal layouts compared. No condition. -/
import Derived.Test.YteafkginhejllaaGreatDoorPa8
import Derived.Laws.StructEq
namespace Go.Proofs.YteafkginhejllaaGreatDoor
open Go.ChangeShapes Go.WideShapes Go.ChangeAt Go.RowKit
theorem equal_endS (a b : Int) (w : World) : (Op.equalIn 9999 47 (.agg #[.int .i64 a, .int .i64 b]) (.agg #[.int .i64 a, .int .i64 b])).run Tryz.prog w = .ok true w := by
  rw [run_equalIn_struct w 9998 47 _ _ (by kernel_rfl) (by kernel_rfl)]
  simp [Program.fieldsOf, Tryz.underlying47, Op.eqFields, part, Sem.run_bind, Sem.run_ite, run_equalIn_int w _ 3 _ _ _ _ Tryz.underlying3]
theorem neq_el (s : ByteArray) (a b c d e f : Int) (w : World) : (binOp .neq 45 (.agg #[.string s, .int .i64 a, .int .i64 b, .int .i64 c, .int .i64 d, .int .i64 e, .int .i64 f]) (.agg #[.string s, .int .i64 a, .int .i64 b, .int .i64 c, .int .i64 d, .int .i64 e, .int .i64 f])).run Tryz.prog w = .ok (.bool false) w := by
  rw [run_neq_struct, run_equalIn_struct w 9999 45 _ _ (by kernel_rfl) (by kernel_rfl)]
  simp [Program.fieldsOf, Tryz.underlying45, Op.eqFields, part, Sem.run_bind, Sem.run_ite, run_equalIn_int w _ 3 _ _ _ _ Tryz.underlying3, run_equalIn_string w _ 9 _ _ Tryz.underlying9]
theorem neq_bl (a b c : Int) (w : World) : (binOp .neq 59 (.agg #[.int .i64 a, .int .i64 b, .int .i64 c]) (.agg #[.int .i64 a, .int .i64 b, .int .i64 c])).run Tryz.prog w = .ok (.bool false) w := by
  rw [run_neq_struct, run_equalIn_struct w 9999 59 _ _ (by kernel_rfl) (by kernel_rfl)]
  simp [Program.fieldsOf, Tryz.underlying59, Op.eqFields, part, Sem.run_bind, Sem.run_ite, run_equalIn_int w _ 3 _ _ _ _ Tryz.underlying3]
theorem neq_jo (a b c d : Int) (w : World) : (binOp .neq 49 (.agg #[.int .i64 a, .int .i64 b, .int .i64 c, .int .i64 d]) (.agg #[.int .i64 a, .int .i64 b, .int .i64 c, .int .i64 d])).run Tryz.prog w = .ok (.bool false) w := by
  rw [run_neq_struct, run_equalIn_struct w 9999 49 _ _ (by kernel_rfl) (by kernel_rfl)]
  simp [Program.fieldsOf, Tryz.underlying49, Op.eqFields, part, Sem.run_bind, Sem.run_ite, equal_endS]
theorem neq_sg (s : ByteArray) (a b c : Int) (w : World) : (binOp .neq 51 (.agg #[.string s, .int .i64 a, .int .i64 b, .int .i64 c]) (.agg #[.string s, .int .i64 a, .int .i64 b, .int .i64 c])).run Tryz.prog w = .ok (.bool false) w := by
  rw [run_neq_struct, run_equalIn_struct w 9999 51 _ _ (by kernel_rfl) (by kernel_rfl)]
  simp [Program.fieldsOf, Tryz.underlying51, Op.eqFields, part, Sem.run_bind, Sem.run_ite, equal_endS, run_equalIn_int w _ 3 _ _ _ _ Tryz.underlying3, run_equalIn_string w _ 9 _ _ Tryz.underlying9]
set_option maxRecDepth 100000 in
set_option maxHeartbeats 16000000 in
theorem same_any (v u : Value) (L : LayD) (w : World) (hv : RLay w v L) (hu : RLay w u L) : Calls Tryz.prog 13 #[v, u] w (RetB w true) := by
  obtain ⟨v1, v2, v3, v4, v5, rfl, g1, g2, g3, g4, g5⟩ := hv
  obtain ⟨u1, u2, u3, u4, u5, rfl, h1, h2, h3, h4, h5⟩ := hu
  have KS := fun ww (h : Below w.heap.size w ww) => sameLine_any v1 u1 L.secs ww (g1.below h) (h1.below h)
  obtain ⟨a1, c1, rfl, ⟨m1, _⟩, G1⟩ := g1.openS
  obtain ⟨a2, c2, rfl, ⟨m2, _⟩, G2⟩ := g2.openM
  obtain ⟨a3, c3, rfl, ⟨m3, _⟩, G3⟩ := g3.openM
  obtain ⟨a4, c4, rfl, ⟨m4, _⟩, G4⟩ := g4.openM
  obtain ⟨a5, c5, rfl, ⟨m5, _⟩, G5⟩ := g5.openM
  obtain ⟨d1, k1, rfl, _, H1⟩ := h1.openS
  obtain ⟨d2, k2, rfl, _, H2⟩ := h2.openM
  obtain ⟨d3, k3, rfl, _, H3⟩ := h3.openM
  obtain ⟨d4, k4, rfl, _, H4⟩ := h4.openM
  obtain ⟨d5, k5, rfl, _, H5⟩ := h5.openM
  clear g1 g2 g3 g4 g5 h1 h2 h3 h4 h5 G1 H1
  obtain ⟨nm, secs, els, joints, sigs, bals⟩ := L
  simp only at m1 m2 m3 m4 m5 G2 G3 G4 G5 H2 H3 H4 H5 KS ⊢
  obtain ⟨LV, hLV⟩ : ∃ LV : Array Value, LV = #[str nm, .slice a1 secs.length c1, .slice a2 els.length c2, .slice a3 joints.length c3, .slice a4 sigs.length c4, .slice a5 bals.length c5] := ⟨_, rfl⟩
  obtain ⟨LU, hLU⟩ : ∃ LU : Array Value, LU = #[str nm, .slice d1 secs.length k1, .slice d2 els.length k2, .slice d3 joints.length k3, .slice d4 sigs.length k4, .slice d5 bals.length k5] := ⟨_, rfl⟩
  obtain ⟨W1, hW⟩ : ∃ W1, W1 = (w.alloc (.cells LV 28)).alloc (.cells LU 28) := ⟨_, rfl⟩
  have HB : Below w.heap.size w W1 := by rw [hW]; exact ((Below.refl _ _).alloc (Nat.le_refl _) _).alloc (by simp) _
  have P1 : Blk W1 w.heap.size LV := by rw [hW]; exact (Blk.new _ _ _ _ rfl).old _
  have P2 : Blk W1 (w.heap.size + 1) LU := by rw [hW]; exact Blk.new _ _ _ _ (by simp)
  have SK : ∀ W, Below W1.heap.size W1 W → (W.cell? ⟨w.heap.size, 0, none⟩ = some (str nm) ∧ W.cell? ⟨w.heap.size, 1, none⟩ = some (.slice a1 secs.length c1) ∧ W.cell? ⟨w.heap.size, 2, none⟩ = some (.slice a2 els.length c2) ∧
      W.cell? ⟨w.heap.size, 3, none⟩ = some (.slice a3 joints.length c3) ∧ W.cell? ⟨w.heap.size, 4, none⟩ = some (.slice a4 sigs.length c4) ∧ W.cell? ⟨w.heap.size, 5, none⟩ = some (.slice a5 bals.length c5)) := by
    intro W h
    have g1 := P1.below h
    exact ⟨g1.at 0 _ (by rw [hLV]; rfl), g1.at 1 _ (by rw [hLV]; rfl), g1.at 2 _ (by rw [hLV]; rfl), g1.at 3 _ (by rw [hLV]; rfl), g1.at 4 _ (by rw [hLV]; rfl), g1.at 5 _ (by rw [hLV]; rfl)⟩
  have SU : ∀ W, Below W1.heap.size W1 W → (W.cell? ⟨w.heap.size + 1, 0, none⟩ = some (str nm) ∧ W.cell? ⟨w.heap.size + 1, 1, none⟩ = some (.slice d1 secs.length k1) ∧ W.cell? ⟨w.heap.size + 1, 2, none⟩ = some (.slice d2 els.length k2) ∧
      W.cell? ⟨w.heap.size + 1, 3, none⟩ = some (.slice d3 joints.length k3) ∧ W.cell? ⟨w.heap.size + 1, 4, none⟩ = some (.slice d4 sigs.length k4) ∧ W.cell? ⟨w.heap.size + 1, 5, none⟩ = some (.slice d5 bals.length k5)) := by
    intro W h
    have g1 := P2.below h
    exact ⟨g1.at 0 _ (by rw [hLU]; rfl), g1.at 1 _ (by rw [hLU]; rfl), g1.at 2 _ (by rw [hLU]; rfl), g1.at 3 _ (by rw [hLU]; rfl), g1.at 4 _ (by rw [hLU]; rfl), g1.at 5 _ (by rw [hLU]; rfl)⟩
  replace KS := fun W (h : Below W1.heap.size W1 W) => KS W (HB.trans (h.mono HB.size))
  have WB : ∀ W, Below W1.heap.size W1 W → Below w.heap.size w W := fun W h => HB.trans (h.mono HB.size)
  obtain ⟨q0, q1, q2, q3, q4, q5⟩ := SK _ (Below.refl _ _)
  obtain ⟨z0, z1, z2, z3, z4, z5⟩ := SU _ (Below.refl _ _)
  replace SK := Lib.hid SK
  replace SU := Lib.hid SU
  replace WB := Lib.hid WB
  replace HB := Lib.hid HB
  clear P1 P2
  have K0 := KS _ (Below.refl _ _)
  rw [hW, hLV, hLU] at K0 q0 q1 q2 q3 q4 q5 z0 z1 z2 z3 z4 z5
  go_enter Tryz.func13, Tryz.ntmps13
  go_wp2_with (go_at_call 37; refine K0.mono ?_; rintro e w2 ⟨rfl, mm, rfl⟩)
  rw [← hLV, ← hLU, ← hW]
  clear hW q0 q1 q2 q3 q4 q5 z0 z1 z2 z3 z4 z5 K0 KS
  replace hLV := Lib.hid hLV
  replace hLU := Lib.hid hLU
  have I0 := Lib.hid (bdrew (Below.refl W1.heap.size W1) mm)
  go_loopg [5] els.length (fun g s wx => ∃ k : Nat, s = .int .i64 k ∧ k + g = els.length ∧ Hid (Below W1.heap.size W1 wx))
  case atStart => exact ⟨0, rfl, by omega, I0⟩
  case round =>
    clear I0
    obtain ⟨k, rfl, hg, hB⟩ := hrel
    have hbw := hB.out
    obtain ⟨q0, q1, q2, q3, q4, q5⟩ := SK.out _ hbw
    obtain ⟨z0, z1, z2, z3, z4, z5⟩ := SU.out _ hbw
    replace hbw := Lib.hid hbw
    cases gk with
    | succ g =>
      have h : ((k : Int) < (els.length : Int)) := by omega
      obtain ⟨y, hy, _, _⟩ := at_take (l := els) (k := k) (by omega)
      obtain ⟨b1, o1, rfl, _, hc⟩ := G2.out.rd (WB.out _ hbw.out) hy
      obtain ⟨b2, o2, rfl, _, hd⟩ := H2.out.rd (WB.out _ hbw.out) hy
      have cc0 := hc 0 _ rfl
      rw [Nat.add_zero] at cc0
      have cc1 := hc 1 _ rfl
      have cc2 := hc 2 _ rfl
      have cc3 := hc 3 _ rfl
      have cc4 := hc 4 _ rfl
      have cc5 := hc 5 _ rfl
      have cc6 := hc 6 _ rfl
      have dd0 := hd 0 _ rfl
      rw [Nat.add_zero] at dd0
      have dd1 := hd 1 _ rfl
      have dd2 := hd 2 _ rfl
      have dd3 := hd 3 _ rfl
      have dd4 := hd 4 _ rfl
      have dd5 := hd 5 _ rfl
      have dd6 := hd 6 _ rfl
      have NE := neq_el ⟨y.name.toArray⟩ y.kind y.length y.grade y.speed y.slow y.sec
      clear hc hd
      replace hy := Lib.hid hy
      go_wp2
      go_quiet (fail)
      go_wp2
      go_roundg g
      case measure => exact Nat.lt_succ_self g
      case rel => exact ⟨k + 1, rfl, by omega, Lib.hid (bdrew hB.out nq)⟩
    | zero =>
      have h : ¬ ((k : Int) < (els.length : Int)) := by omega
      go_wp2
      clear q0 q1 q2 q3 q4 q5 z0 z1 z2 z3 z4 z5 hg h hbw
      have I0 := hB
      clear hB
      go_loopg [6] joints.length (fun g s wx => ∃ k : Nat, s = .int .i64 k ∧ k + g = joints.length ∧ Hid (Below W1.heap.size W1 wx))
      case atStart => exact ⟨0, rfl, by omega, I0⟩
      case round =>
        clear I0
        obtain ⟨k, rfl, hg, hB⟩ := hrel
        have hbw := hB.out
        obtain ⟨q0, q1, q2, q3, q4, q5⟩ := SK.out _ hbw
        obtain ⟨z0, z1, z2, z3, z4, z5⟩ := SU.out _ hbw
        replace hbw := Lib.hid hbw
        cases gk with
        | succ g =>
          have h : ((k : Int) < (joints.length : Int)) := by omega
          obtain ⟨y, hy, _, _⟩ := at_take (l := joints) (k := k) (by omega)
          obtain ⟨b1, o1, rfl, _, hc⟩ := G3.out.rd (WB.out _ hbw.out) hy
          obtain ⟨b2, o2, rfl, _, hd⟩ := H3.out.rd (WB.out _ hbw.out) hy
          have cc0 := hc 0 _ rfl
          rw [Nat.add_zero] at cc0
          have cc1 := hc 1 _ rfl
          have cc2 := hc 2 _ rfl
          have cc3 := hc 3 _ rfl
          have dd0 := hd 0 _ rfl
          rw [Nat.add_zero] at dd0
          have dd1 := hd 1 _ rfl
          have dd2 := hd 2 _ rfl
          have dd3 := hd 3 _ rfl
          have NE := neq_jo y.1.1 y.1.2 y.2.1 y.2.2
          clear hc hd
          replace hy := Lib.hid hy
          go_wp2
          go_quiet (fail)
          go_wp2
          go_roundg g
          case measure => exact Nat.lt_succ_self g
          case rel => exact ⟨k + 1, rfl, by omega, Lib.hid (bdrew hB.out nq)⟩
        | zero =>
          have h : ¬ ((k : Int) < (joints.length : Int)) := by omega
          go_wp2
          clear q0 q1 q2 q3 q4 q5 z0 z1 z2 z3 z4 z5 hg h hbw
          have I0 := hB
          clear hB
          go_loopg [7] sigs.length (fun g s wx => ∃ k : Nat, s = .int .i64 k ∧ k + g = sigs.length ∧ Hid (Below W1.heap.size W1 wx))
          case atStart => exact ⟨0, rfl, by omega, I0⟩
          case round =>
            clear I0
            obtain ⟨k, rfl, hg, hB⟩ := hrel
            have hbw := hB.out
            obtain ⟨q0, q1, q2, q3, q4, q5⟩ := SK.out _ hbw
            obtain ⟨z0, z1, z2, z3, z4, z5⟩ := SU.out _ hbw
            replace hbw := Lib.hid hbw
            cases gk with
            | succ g =>
              have h : ((k : Int) < (sigs.length : Int)) := by omega
              obtain ⟨y, hy, _, _⟩ := at_take (l := sigs) (k := k) (by omega)
              obtain ⟨b1, o1, rfl, _, hc⟩ := G4.out.rd (WB.out _ hbw.out) hy
              obtain ⟨b2, o2, rfl, _, hd⟩ := H4.out.rd (WB.out _ hbw.out) hy
              have cc0 := hc 0 _ rfl
              rw [Nat.add_zero] at cc0
              have cc1 := hc 1 _ rfl
              have cc2 := hc 2 _ rfl
              have cc3 := hc 3 _ rfl
              have dd0 := hd 0 _ rfl
              rw [Nat.add_zero] at dd0
              have dd1 := hd 1 _ rfl
              have dd2 := hd 2 _ rfl
              have dd3 := hd 3 _ rfl
              have NE := neq_sg ⟨y.name.toArray⟩ y.at_.1 y.at_.2 y.overlap
              clear hc hd
              replace hy := Lib.hid hy
              go_wp2
              go_quiet (fail)
              go_wp2
              go_roundg g
              case measure => exact Nat.lt_succ_self g
              case rel => exact ⟨k + 1, rfl, by omega, Lib.hid (bdrew hB.out nq)⟩
            | zero =>
              have h : ¬ ((k : Int) < (sigs.length : Int)) := by omega
              go_wp2
              clear q0 q1 q2 q3 q4 q5 z0 z1 z2 z3 z4 z5 hg h hbw
              have I0 := hB
              clear hB
              go_loopg [8] bals.length (fun g s wx => ∃ k : Nat, s = .int .i64 k ∧ k + g = bals.length ∧ Hid (Below W1.heap.size W1 wx))
              case atStart => exact ⟨0, rfl, by omega, I0⟩
              case round =>
                clear I0
                obtain ⟨k, rfl, hg, hB⟩ := hrel
                have hbw := hB.out
                obtain ⟨q0, q1, q2, q3, q4, q5⟩ := SK.out _ hbw
                obtain ⟨z0, z1, z2, z3, z4, z5⟩ := SU.out _ hbw
                replace hbw := Lib.hid hbw
                cases gk with
                | succ g =>
                  have h : ((k : Int) < (bals.length : Int)) := by omega
                  obtain ⟨y, hy, _, _⟩ := at_take (l := bals) (k := k) (by omega)
                  obtain ⟨b1, o1, rfl, _, hc⟩ := G5.out.rd (WB.out _ hbw.out) hy
                  obtain ⟨b2, o2, rfl, _, hd⟩ := H5.out.rd (WB.out _ hbw.out) hy
                  have cc0 := hc 0 _ rfl
                  rw [Nat.add_zero] at cc0
                  have cc1 := hc 1 _ rfl
                  have cc2 := hc 2 _ rfl
                  have dd0 := hd 0 _ rfl
                  rw [Nat.add_zero] at dd0
                  have dd1 := hd 1 _ rfl
                  have dd2 := hd 2 _ rfl
                  have NE := neq_bl y.id y.el y.off
                  clear hc hd
                  replace hy := Lib.hid hy
                  go_wp2
                  go_quiet (fail)
                  go_wp2
                  go_roundg g
                  case measure => exact Nat.lt_succ_self g
                  case rel => exact ⟨k + 1, rfl, by omega, Lib.hid (bdrew hB.out nq)⟩
                | zero =>
                  have h : ¬ ((k : Int) < (bals.length : Int)) := by omega
                  go_wp2
                  go_ret
                  exact ⟨rfl, WB.out _ hB.out⟩
end Go.Proofs.YteafkginhejllaaGreatDoor
