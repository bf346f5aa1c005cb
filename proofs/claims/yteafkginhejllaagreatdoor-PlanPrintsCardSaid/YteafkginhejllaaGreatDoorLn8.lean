/- Contract of lines. Conditions: the layout can be read and is a valid one; what the library reads (GT). -/
import Derived.Test.YteafkginhejllaaGreatDoorEl8
namespace Go.Proofs.YteafkginhejllaaGreatDoor
open Go.ChangeShapes Go.WideShapes Go.ChangeAt Go.RowKit
theorem map_take {α β : Type} (f : α → β) {l : List α} {k : Nat} {y : α} (h : l[k]? = some y) : (l.take (k + 1)).map f = (l.take k).map f ++ [f y] := by
  obtain ⟨h1, h2⟩ := List.getElem?_eq_some_iff.1 h
  rw [List.take_succ_eq_append_getElem h1, h2]; simp
theorem LInv.lit {w0 w : World} (hb : Below w0.heap.size w0 w) (x : List L8) (n : Nat) (hx : x.length = n) (hn : n ≤ 1000) :
    LInv w0 ((w.alloc (.cells (strsV x).toArray 9)).alloc (.cells #[.slice (some ⟨w.heap.size, 0, none⟩) n n] 22)) (.slice (some ⟨w.heap.size + 1, 0, none⟩) 1 1) [x] := by
  have h0 := hb.size
  have O1 := World.ownsRow_lit (base := w0.heap.size) (size := 1) (e := 9) w (strsV x).toArray n h0 (by unfold maxLen; omega) (by simp [strsV_length, hx])
  have O2 := World.ownsRow_lit (base := w0.heap.size) (size := 1) (e := 22) (w.alloc (.cells (strsV x).toArray 9)) #[.slice (some ⟨w.heap.size, 0, none⟩) n n] 1 (by simp; omega) (by unfold maxLen; omega) rfl
  have e1 : (w.alloc (.cells (strsV x).toArray 9)).heap.size = w.heap.size + 1 := by simp
  rw [e1] at O2
  refine ⟨_, O2, ⟨rfl, fun j a y ha hy => ?_⟩, (hb.alloc h0 _).alloc (by simp; omega) _⟩
  have hj : j = 0 := by
    have := (List.getElem?_eq_some_iff.1 hy).1
    simp at this; omega
  subst hj
  simp at ha hy
  subst ha hy
  rw [hx]
  exact O1.alloc _
theorem RS.drewO {w : World} {v : Value} {vs : List Value} (h : RS w v vs) : RS w.drew v vs := h
theorem lit_rs (w : World) (x : L8) : RS (w.alloc (.cells #[str x] 9)) (.slice (some ⟨w.heap.size, 0, none⟩) 1 1) (strsV [x]) := RS.new w 1 1 _ _ _ rfl rfl ⟨by omega, by omega⟩
theorem lit_joint_rs (w : World) : RS (w.alloc (.cells #[.string ⟨#[106, 111, 105, 110, 116]⟩] 9)) (.slice (some ⟨w.heap.size, 0, none⟩) 1 1) (strsV [kJoint]) := lit_rs w kJoint
theorem lit_signal_rs (w : World) (x : L8) : RS (w.alloc (.cells #[.string ⟨#[115, 105, 103, 110, 97, 108]⟩, str x] 9)) (.slice (some ⟨w.heap.size, 0, none⟩) 2 2) (strsV [kSignal, x]) := RS.new w 2 2 _ _ _ rfl rfl ⟨by omega, by omega⟩
theorem lit_row (w : World) (x : Value) : RS (w.alloc (.cells #[x] 22)) (.slice (some ⟨w.heap.size, 0, none⟩) 1 1) [x] := RS.new w 1 1 _ _ _ rfl rfl ⟨by omega, by omega⟩
theorem lit_int_rs (w : World) (n : Int) : RS (w.alloc (.cells #[.int .i64 n] 3)) (.slice (some ⟨w.heap.size, 0, none⟩) 1 1) (intsV [n]) := RS.new w 1 1 _ _ _ rfl rfl ⟨by omega, by omega⟩
theorem lit_rowB (w : World) (x : Value) (B : Nat) (hB : B = w.heap.size) : RS (w.alloc (.cells #[x] 22)) (.slice (some ⟨B, 0, none⟩) 1 1) [x] := by subst hB; exact lit_row w x
theorem LL3 {w : World} {x1 x2 x3 : Value} {l1 l2 l3 : List L8} (h1 : RS w x1 (strsV l1)) (h2 : RS w x2 (strsV l2)) (h3 : RS w x3 (strsV l3)) :
    LL (w.alloc (.cells #[x1, x2, x3] 22)) (.slice (some ⟨w.heap.size, 0, none⟩) 3 3) [l1, l2, l3] := by
  refine LL.of (vs := [x1, x2, x3]) (RS.new w 3 3 _ _ _ rfl rfl ⟨by omega, by omega⟩) ⟨rfl, fun j x y hx hy => ?_⟩
  have hj : j = 0 ∨ j = 1 ∨ j = 2 := by
    have := (List.getElem?_eq_some_iff.1 hx).1
    simp at this; omega
  rcases hj with rfl | rfl | rfl
  all_goals (simp at hx hy; subst hx hy)
  · exact h1.alloc _
  · exact h2.alloc _
  · exact h3.alloc _
theorem LL3B {w : World} {x1 x2 x3 : Value} {l1 l2 l3 : List L8} {B : Nat} (hB : B = w.heap.size) (h1 : RS w x1 (strsV l1)) (h2 : RS w x2 (strsV l2)) (h3 : RS w x3 (strsV l3)) :
    LL (w.alloc (.cells #[x1, x2, x3] 22)) (.slice (some ⟨B, 0, none⟩) 3 3) [l1, l2, l3] := by
  subst hB; exact LL3 h1 h2 h3
theorem lit_signal_rs1 (w : World) (o : Obj) (x : L8) : RS ((w.alloc o).alloc (.cells #[.string ⟨#[115, 105, 103, 110, 97, 108]⟩, str x] 9)) (.slice (some ⟨w.heap.size + 1, 0, none⟩) 2 2) (strsV [kSignal, x]) := by
  have h := lit_signal_rs (w.alloc o) x
  simpa using h
theorem lit_int_rs1 (w : World) (o : Obj) (n : Int) : RS ((w.alloc o).alloc (.cells #[.int .i64 n] 3)) (.slice (some ⟨w.heap.size + 1, 0, none⟩) 1 1) (intsV [n]) := by
  have h := lit_int_rs (w.alloc o) n
  simpa using h
theorem LL31 {w : World} {o : Obj} {x1 x2 x3 : Value} {l1 l2 l3 : List L8} (h1 : RS (w.alloc o) x1 (strsV l1)) (h2 : RS (w.alloc o) x2 (strsV l2)) (h3 : RS (w.alloc o) x3 (strsV l3)) :
    LL ((w.alloc o).alloc (.cells #[x1, x2, x3] 22)) (.slice (some ⟨w.heap.size + 1, 0, none⟩) 3 3) [l1, l2, l3] := LL3B (by simp) h1 h2 h3
set_option maxRecDepth 100000 in
set_option maxHeartbeats 16000000 in
theorem lines_own (v : Value) (L : LayD) (w : World) (hv : RLay w v L) (hG : GT w) (hO : OkLay L) (l1 : L.secs.length ≤ 1000) (l2 : L.els.length ≤ 1000) (l3 : L.joints.length ≤ 1000) (l4 : L.sigs.length ≤ 1000) (l5 : L.bals.length ≤ 1000) :
    Calls Tryz.prog 18 #[v] w fun e w' => ∃ u, e = .returned u ∧ LL w' u (linesOf L) ∧ Below w.heap.size w w' := by
  have HV := Lib.hid hv
  obtain ⟨v1, v2, v3, v4, v5, rfl, h1, h2, h3, h4, h5⟩ := hv
  obtain ⟨a1, c1, rfl, ⟨m1, _⟩, H1⟩ := h1.openS
  obtain ⟨a2, c2, rfl, ⟨m2, _⟩, H2⟩ := h2.openM
  obtain ⟨a3, c3, rfl, ⟨m3, _⟩, H3⟩ := h3.openM
  obtain ⟨a4, c4, rfl, ⟨m4, _⟩, H4⟩ := h4.openM
  obtain ⟨a5, c5, rfl, ⟨m5, _⟩, H5⟩ := h5.openM
  clear h1 h2 h3 h4 h5
  obtain ⟨nm, secs, els, joints, sigs, bals⟩ := L
  obtain ⟨o1, o2, o3, o4, o5, o6⟩ := hO
  simp only at l1 l2 l3 l4 l5 m1 m2 m3 m4 m5 H1 H2 H3 H4 H5 o3 o4 o5 o6 ⊢
  obtain ⟨LV, hLV⟩ : ∃ LV : Array Value, LV = #[str nm, .slice a1 secs.length c1, .slice a2 els.length c2, .slice a3 joints.length c3, .slice a4 sigs.length c4, .slice a5 bals.length c5] := ⟨_, rfl⟩
  obtain ⟨W1, hW⟩ : ∃ W1, W1 = w.alloc (.cells LV 28) := ⟨_, rfl⟩
  have HB : Below w.heap.size w W1 := by rw [hW]; exact (Below.refl _ _).alloc (Nat.le_refl _) _
  have G1 : Blk W1 w.heap.size LV := by rw [hW]; exact Blk.new _ _ _ _ rfl
  have SK : ∀ W, Below W1.heap.size W1 W → (W.cell? ⟨w.heap.size, 0, none⟩ = some (str nm) ∧ W.cell? ⟨w.heap.size, 1, none⟩ = some (.slice a1 secs.length c1) ∧ W.cell? ⟨w.heap.size, 2, none⟩ = some (.slice a2 els.length c2) ∧
      W.cell? ⟨w.heap.size, 3, none⟩ = some (.slice a3 joints.length c3) ∧ W.cell? ⟨w.heap.size, 4, none⟩ = some (.slice a4 sigs.length c4) ∧ W.cell? ⟨w.heap.size, 5, none⟩ = some (.slice a5 bals.length c5)) := by
    intro W h
    have g1 := G1.below h
    exact ⟨g1.at 0 _ (by rw [hLV]; rfl), g1.at 1 _ (by rw [hLV]; rfl), g1.at 2 _ (by rw [hLV]; rfl), g1.at 3 _ (by rw [hLV]; rfl), g1.at 4 _ (by rw [hLV]; rfl), g1.at 5 _ (by rw [hLV]; rfl)⟩
  have VB : ∀ W, Below W1.heap.size W1 W → RLay W (.agg LV) ⟨nm, secs, els, joints, sigs, bals⟩ := fun W h => by rw [hLV]; exact HV.out.below (HB.trans (h.mono HB.size))
  have GB : ∀ W, Below W1.heap.size W1 W → GT W := fun W h => hG.below (HB.trans (h.mono HB.size))
  have WB : ∀ W, Below W1.heap.size W1 W → Below w.heap.size w W := fun W h => HB.trans (h.mono HB.size)
  replace SK := Lib.hid SK
  replace VB := Lib.hid VB
  replace GB := Lib.hid GB
  replace WB := Lib.hid WB
  clear G1 HV hG
  replace HB := Lib.hid HB
  obtain ⟨q0, q1, q2, q3, q4, q5⟩ := SK.out _ (Below.refl _ _)
  have I0 := LInv.lit (Below.refl W1.heap.size W1) [kLayout, nm] 2 rfl (by omega)
  have e0 : (strsV [kLayout, nm]).toArray = #[.string ⟨#[108, 97, 121, 111, 117, 116]⟩, str nm] := rfl
  rw [e0] at I0
  obtain ⟨W2, hW2⟩ : ∃ W2, W2 = (W1.alloc (.cells #[.string ⟨#[108, 97, 121, 111, 117, 116]⟩, str nm] 9)).alloc (.cells #[.slice (some ⟨W1.heap.size, 0, none⟩) 2 2] 22) := ⟨_, rfl⟩
  rw [← hW2] at I0
  replace I0 := Lib.hid I0
  have B2 : Below W1.heap.size W1 W2 := by obtain ⟨_, _, _, h⟩ := I0.out; exact h
  have q1' := (SK.out _ B2).2.1
  have es1 : W1.heap.size = w.heap.size + 1 := by rw [hW]; simp
  rw [hW2, es1, hW, hLV] at q1'
  rw [hW, hLV] at q0
  clear e0 q1 q2 q3 q4 q5
  go_enter Tryz.func18, Tryz.ntmps18
  go_wp2
  rw [← hLV, ← hW, ← es1, ← hW2]
  clear hW hW2 q0 q1' es1
  replace hLV := Lib.hid hLV
  have w1s := B2.size
  go_loopg [3, 21] secs.length (fun g s3 s21 wx => ∃ (k : Nat) (out : List (List L8)), s21 = .int .i64 k ∧ k + g = secs.length ∧ Hid (out = [kLayout, nm] :: (secs.take k).map fun s => [kSection, s]) ∧ Hid (LInv W1 wx s3 out))
  case atStart => exact ⟨0, _, rfl, by omega, Lib.hid rfl, I0⟩
  case round =>
    obtain ⟨k, out, rfl, hg, HN, HL⟩ := hrel
    clear I0
    have hbw : Below W1.heap.size W1 wr := by obtain ⟨_, _, _, h⟩ := HL.out; exact h
    obtain ⟨q0, q1, q2, q3, q4, q5⟩ := SK.out _ hbw
    have hol : out.length ≤ 1001 := by rw [HN.out]; simp; omega
    cases gk with
    | zero =>
      have h : ¬ ((k : Int) < (secs.length : Int)) := by omega
      obtain ⟨P1, hP1⟩ : ∃ P1, P1 = ([kLayout, nm] :: secs.map fun s => [kSection, s]) := ⟨_, rfl⟩
      have E : out = P1 := by rw [hP1, HN.out, List.take_of_length_le (by omega)]
      subst E
      replace hP1 := Lib.hid hP1
      clear HN
      go_wp2
      clear q0 q1 q2 q3 q4 q5 hbw hol
      go_loopg [3, 34] els.length (fun g s3 s34 wx => ∃ (k : Nat) (o : List (List L8)), s34 = .int .i64 k ∧ k + g = els.length ∧ Hid (o = out ++ (els.take k).map (elLine secs)) ∧ Hid (LInv W1 wx s3 o))
      case atStart => exact ⟨0, out, rfl, by omega, Lib.hid (by simp), HL⟩
      case round =>
        clear HL hg h
        obtain ⟨k, o, rfl, hg, HN, HL⟩ := hrel
        have hbw : Below W1.heap.size W1 wr := by obtain ⟨_, _, _, h⟩ := HL.out; exact h
        obtain ⟨q0, q1, q2, q3, q4, q5⟩ := SK.out _ hbw
        have hol : o.length ≤ 2001 := by rw [HN.out, hP1.out]; simp; omega
        cases gk with
        | zero =>
          have h : ¬ ((k : Int) < (els.length : Int)) := by omega
          obtain ⟨P2, hP2⟩ : ∃ P2, P2 = out ++ els.map (elLine secs) := ⟨_, rfl⟩
          have E : o = P2 := by rw [hP2, HN.out, List.take_of_length_le (by omega)]
          subst E
          replace hP2 := Lib.hid hP2
          clear HN
          go_wp2
          clear q0 q1 q2 q3 q4 q5 hbw hol
          go_loopg [3, 48] joints.length (fun g s3 s48 wx => ∃ (k : Nat) (p : List (List L8)), s48 = .int .i64 k ∧ k + g = joints.length ∧ Hid (p = o ++ (joints.take k).map (joLine els)) ∧ Hid (LInv W1 wx s3 p))
          case atStart => exact ⟨0, o, rfl, by omega, Lib.hid (by simp), HL⟩
          case round =>
            clear HL hg h
            obtain ⟨k, p, rfl, hg, HN, HL⟩ := hrel
            have hbw : Below W1.heap.size W1 wr := by obtain ⟨_, _, _, h⟩ := HL.out; exact h
            obtain ⟨q0, q1, q2, q3, q4, q5⟩ := SK.out _ hbw
            have hol : p.length ≤ 3001 := by rw [HN.out, hP2.out, hP1.out]; simp; omega
            cases gk with
            | zero =>
              have h : ¬ ((k : Int) < (joints.length : Int)) := by omega
              obtain ⟨P3, hP3⟩ : ∃ P3, P3 = o ++ joints.map (joLine els) := ⟨_, rfl⟩
              have E : p = P3 := by rw [hP3, HN.out, List.take_of_length_le (by omega)]
              subst E
              replace hP3 := Lib.hid hP3
              clear HN
              go_wp2
              clear q0 q1 q2 q3 q4 q5 hbw hol
              go_loopg [3, 70] sigs.length (fun g s3 s70 wx => ∃ (k : Nat) (r : List (List L8)), s70 = .int .i64 k ∧ k + g = sigs.length ∧ Hid (r = p ++ (sigs.take k).map (sgLine els)) ∧ Hid (LInv W1 wx s3 r))
              case atStart => exact ⟨0, p, rfl, by omega, Lib.hid (by simp), HL⟩
              case round =>
                clear HL hg h
                obtain ⟨k, r, rfl, hg, HN, HL⟩ := hrel
                have hbw : Below W1.heap.size W1 wr := by obtain ⟨_, _, _, h⟩ := HL.out; exact h
                obtain ⟨q0, q1, q2, q3, q4, q5⟩ := SK.out _ hbw
                have hol : r.length ≤ 4001 := by rw [HN.out, hP3.out, hP2.out, hP1.out]; simp; omega
                cases gk with
                | zero =>
                  have h : ¬ ((k : Int) < (sigs.length : Int)) := by omega
                  obtain ⟨P4, hP4⟩ : ∃ P4, P4 = p ++ sigs.map (sgLine els) := ⟨_, rfl⟩
                  have E : r = P4 := by rw [hP4, HN.out, List.take_of_length_le (by omega)]
                  subst E
                  replace hP4 := Lib.hid hP4
                  clear HN
                  go_wp2
                  clear q0 q1 q2 q3 q4 q5 hbw hol
                  go_loopg [3, 94] bals.length (fun g s3 s94 wx => ∃ (k : Nat) (z : List (List L8)), s94 = .int .i64 k ∧ k + g = bals.length ∧ Hid (z = r ++ (bals.take k).map (blLine els)) ∧ Hid (LInv W1 wx s3 z))
                  case atStart => exact ⟨0, r, rfl, by omega, Lib.hid (by simp), HL⟩
                  case round =>
                    clear HL hg h
                    obtain ⟨k, z, rfl, hg, HN, HL⟩ := hrel
                    have hbw : Below W1.heap.size W1 wr := by obtain ⟨_, _, _, h⟩ := HL.out; exact h
                    obtain ⟨q0, q1, q2, q3, q4, q5⟩ := SK.out _ hbw
                    have hol : z.length ≤ 5001 := by rw [HN.out, hP4.out, hP3.out, hP2.out, hP1.out]; simp; omega
                    cases gk with
                    | zero =>
                      have h : ¬ ((k : Int) < (bals.length : Int)) := by omega
                      have E : z = linesOf ⟨nm, secs, els, joints, sigs, bals⟩ := by
                        rw [HN.out, List.take_of_length_le (by omega), hP4.out, hP3.out, hP2.out, hP1.out]
                        simp [linesOf]
                      subst E
                      clear HN
                      have hLL := HL.out.ll
                      have hBW := WB.out _ hbw
                      obtain ⟨vs, k1, _, _⟩ := HL.out
                      obtain ⟨az, cz, rfl⟩ := own_slice k1
                      obtain ⟨nz, ez⟩ : ∃ n, (linesOf ⟨nm, secs, els, joints, sigs, bals⟩).length = n := ⟨_, rfl⟩
                      rw [ez] at hLL ⊢
                      clear k1 HL ez
                      go_wp2
                      go_ret
                      exact ⟨_, rfl, hLL, hBW⟩
                    | succ g =>
                      have h : ((k : Int) < (bals.length : Int)) := by omega
                      obtain ⟨y, hy, ht, hmem⟩ := at_take (l := bals) (k := k) (by omega)
                      obtain ⟨b, off, rfl, hlt, hc⟩ := H5.out.rd (WB.out _ hbw) hy
                      have N := Lib.hid (show z ++ [blLine els y] = r ++ (bals.take (k + 1)).map (blLine els) by rw [HN.out, map_take _ hy]; simp)
                      obtain ⟨i1, j1, j2⟩ := o6 y hmem
                      obtain ⟨bi, be, bo⟩ := y
                      have cc0 := hc 0 _ rfl
                      have cc1 := hc 1 _ rfl
                      have cc2 := hc 2 _ rfl
                      simp only [Nat.add_zero] at cc0 cc1 cc2
                      simp only at i1 j1 j2
                      obtain ⟨ke, ye, rfl, hye⟩ := ix_at i1
                      obtain ⟨b2, off2, rfl, hlt2, hc2⟩ := H2.out.rd (Below.refl _ _) hye
                      have hc20 := hc2 0 _ rfl
                      simp only [Nat.add_zero] at hc20
                      obtain ⟨vs0, k10, _, _⟩ := HL.out
                      have HR := k10.lt
                      have hw1 : w.heap.size < W1.heap.size := World.block_lt_of_cell? W1 _ ((SK.out _ (Below.refl _ _)).1)
                      clear k10
                      obtain ⟨en, hen⟩ : ∃ s, ye.name = s := ⟨_, rfl⟩
                      obtain ⟨x1, hx1⟩ : ∃ s, Lib.itoa bi = s := ⟨_, rfl⟩
                      obtain ⟨x2, hx2⟩ : ∃ s, Lib.itoa bo = s := ⟨_, rfl⟩
                      have eL : blLine els ⟨bi, (ke : Int), bo⟩ = [kBalise, x1, en, x2] := by simp only [blLine, nameAt_at hye, hen, hx1, hx2]
                      rw [eL] at N
                      rw [hen] at hc20
                      have hkl : (ke : Int) < (els.length : Int) := by have := (List.getElem?_eq_some_iff.1 hye).1; omega
                      obtain ⟨W2, hW2⟩ : ∃ W2, W2 = wr.alloc (.cells #[.int .i64 bi, .int .i64 (ke : Int), .int .i64 bo] 59) := ⟨_, rfl⟩
                      have br : Below wr.heap.size wr W2 := by rw [hW2]; exact (Below.refl _ _).alloc (Nat.le_refl _) _
                      have bw1 : Below W1.heap.size W1 W2 := hbw.trans (br.mono hbw.size)
                      have GJ : Blk W2 wr.heap.size #[.int .i64 bi, .int .i64 (ke : Int), .int .i64 bo] := by rw [hW2]; exact Blk.new _ _ _ _ rfl
                      have KF : ∀ n x W, Hid (Lib.itoa n = x) → I64b n → Below W2.heap.size W2 W → Calls Tryz.prog 49 #[.int .i64 n] W (RetV W (str x)) := fun n x W hx hn hb => by
                        rw [← hx.out]; exact format_any n W hn (GB.out _ (bw1.trans (hb.mono bw1.size)))
                      have SJ : ∀ W, Below W2.heap.size W2 W → (W.cell? ⟨w.heap.size, 2, none⟩ = some (.slice (some ⟨b2, off2, none⟩) els.length c2) ∧
                          W.cell? ⟨wr.heap.size, 0, none⟩ = some (.int .i64 bi) ∧ W.cell? ⟨wr.heap.size, 1, none⟩ = some (.int .i64 (ke : Int)) ∧ W.cell? ⟨wr.heap.size, 2, none⟩ = some (.int .i64 bo) ∧ W.cell? ⟨b2, off2 + ke * 7, none⟩ = some (str en)) := by
                        intro W hb
                        obtain ⟨r0, r1, r2, r3, r4, r5⟩ := SK.out _ (bw1.trans (hb.mono bw1.size))
                        have g := GJ.below hb
                        exact ⟨r2, g.at 0 _ rfl, g.at 1 _ rfl, g.at 2 _ rfl, cell_kept (WB.out _ (bw1.trans (hb.mono bw1.size))) hc20⟩
                      have SD := SJ _ (Below.refl _ _).drew
                      have BD : Below W2.heap.size W2 W2.drew := (Below.refl _ _).drew
                      replace hx1 := Lib.hid hx1
                      replace hx2 := Lib.hid hx2
                      clear HN hy ht hc eL GJ hye hc2 hen
                      go_wp2_with fail
                      rw [← hW2]
                      clear hW2
                      clear q0 q1 q2 q3 q4 q5 cc0 cc1 cc2 hc20
                      go_region_held3 (fun W => W.cell? ⟨w.heap.size, 2, none⟩ = some (.slice (some ⟨b2, off2, none⟩) els.length c2) ∧
                          W.cell? ⟨wr.heap.size, 0, none⟩ = some (.int .i64 bi) ∧ W.cell? ⟨wr.heap.size, 1, none⟩ = some (.int .i64 (ke : Int)) ∧ W.cell? ⟨wr.heap.size, 2, none⟩ = some (.int .i64 bo) ∧ W.cell? ⟨b2, off2 + ke * 7, none⟩ = some (str en))
                        (first | exact SD | exact SF | exact SJ _ B2 | exact SJ _ BL | exact SJ _ BA)
                        (first
                          | (go_at_call 49
                             refine (KF _ _ _ (by assumption) (by assumption) (by first | exact B2 | exact BD)).mono ?_
                             rintro e w2 ⟨rfl, bb2⟩
                             have B2 : Below W2.heap.size W2 w2 := by (first | exact Below.trans B2 (Below.mono bb2 B2.size) | exact Below.trans BD (Below.mono bb2 BD.size))
                             have BL := alloc_below B2 (Nat.le_refl _) (.cells #[.string ⟨#[98, 97, 108, 105, 115, 101]⟩, str x1, str en, str x2] 9)
                             have BA := alloc_below BL (Nat.le_refl _) (.cells #[.slice (some ⟨w2.heap.size, 0, none⟩) 4 4] 22)
                             have oL := World.ownsRow_lit (base := W1.heap.size) (size := 1) (e := 9) w2 #[.string ⟨#[98, 97, 108, 105, 115, 101]⟩, str x1, str en, str x2] 4 (Nat.le_trans bw1.size B2.size) (by unfold maxLen; omega) rfl
                             have oA := oL.alloc (.cells #[.slice (some ⟨w2.heap.size, 0, none⟩) 4 4] 22)
                             obtain ⟨vs, k1, k2, k3⟩ := HL.out.below (br.trans (BA.mono br.size))
                             have rA := lit_rowB (w2.alloc (.cells #[.string ⟨#[98, 97, 108, 105, 115, 101]⟩, str x1, str en, str x2] 9)) (.slice (some ⟨w2.heap.size, 0, none⟩) 4 4) (w2.heap.size + 1) (by simp)
                             clear oL bb2)
                          | (refine step_append_rs rfl (.tmp 98) (.tmp 113) 39 rfl W1.heap.size 22 (.slice none 0 0) 24 Tryz.underlying39 info_strs rfl _ z.length vs rfl ?h1 _ rfl [.slice (some ⟨w2.heap.size, 0, none⟩) 4 4] ?h2 (one_slice _ _ _) ?h3 ?h4 k3.size ?h6
                             case h1 => exact k1
                             case h2 => exact rA
                             case h3 => simp; omega
                             case h4 => simp; omega
                             intro v6 w6 p6 gr6 nb6
                             have HP := Lib.hid (LInv.push (x := [kBalise, x1, en, x2]) k1 k2 k3 oA p6 gr6)
                             obtain ⟨t1, t2, t3, t4, t5⟩ := SJ _ BA
                             have SF := And.intro (gr6.cell t1 (fun e => by have := (HR _ e.symm).1; simp only at this; omega)) (And.intro (gr6.cell t2 (fun e => by have := (HR _ e.symm).2; simp only at this; omega)) (And.intro (gr6.cell t3 (fun e => by have := (HR _ e.symm).2; simp only at this; omega)) (And.intro (gr6.cell t4 (fun e => by have := (HR _ e.symm).2; simp only at this; omega)) (gr6.cell t5 (fun e => by have := (HR _ e.symm).1; simp only at this; omega)))))
                             clear nb6 gr6 p6 oA k1 k2 k3 t1 t2 t3 t4 t5))
                      all_goals
                        go_wp2
                        go_roundg g
                        case measure => omega
                        case rel => exact ⟨k + 1, z ++ [[kBalise, x1, en, x2]], by go_num, by omega, N, HP⟩
                | succ g =>
                  have h : ((k : Int) < (sigs.length : Int)) := by omega
                  obtain ⟨y, hy, ht, hmem⟩ := at_take (l := sigs) (k := k) (by omega)
                  obtain ⟨b, off, rfl, hlt, hc⟩ := H4.out.rd (WB.out _ hbw) hy
                  have N := Lib.hid (show r ++ [sgLine els y] = p ++ (sigs.take (k + 1)).map (sgLine els) by rw [HN.out, map_take _ hy]; simp)
                  obtain ⟨i1, j1, j2⟩ := o5 y hmem
                  obtain ⟨vs0, k10, _, _⟩ := HL.out
                  have HR := k10.lt
                  have hw1 : w.heap.size < W1.heap.size := World.block_lt_of_cell? W1 _ ((SK.out _ (Below.refl _ _)).1)
                  clear k10
                  obtain ⟨sn, ⟨ea, sa⟩, ov⟩ := y
                  have cc0 := hc 0 _ rfl
                  have cc1 := hc 1 _ rfl
                  have cc2 := hc 2 _ rfl
                  have cc3 := hc 3 _ rfl
                  simp only [Nat.add_zero] at cc0 cc1 cc2 cc3
                  simp only at i1 j1 j2
                  have eL : sgLine els ⟨sn, (ea, sa), ov⟩ = [[kSignal, sn], [nameAt els ea, Lib.itoa sa], [Lib.itoa ov]].flatten := rfl
                  rw [eL] at N
                  obtain ⟨X, hX⟩ : ∃ X, [[kSignal, sn], [nameAt els ea, Lib.itoa sa], [Lib.itoa ov]].flatten = X := ⟨_, rfl⟩
                  rw [hX] at N
                  have hXl : X.length ≤ 10 := by rw [← hX]; simp
                  replace hX := Lib.hid hX
                  obtain ⟨W2, hW2⟩ : ∃ W2, W2 = wr.alloc (.cells #[str sn, .int .i64 ea, .int .i64 sa, .int .i64 ov] 51) := ⟨_, rfl⟩
                  have br : Below wr.heap.size wr W2 := by rw [hW2]; exact (Below.refl _ _).alloc (Nat.le_refl _) _
                  have bw1 : Below W1.heap.size W1 W2 := hbw.trans (br.mono hbw.size)
                  have GJ : Blk W2 wr.heap.size #[str sn, .int .i64 ea, .int .i64 sa, .int .i64 ov] := by rw [hW2]; exact Blk.new _ _ _ _ rfl
                  have KE : ∀ e s W, OkIx els e → I64b s → Below W2.heap.size W2 W → Calls Tryz.prog 47 #[.agg LV, .agg #[.int .i64 e, .int .i64 s]] W (RetS W [nameAt els e, Lib.itoa s]) := fun e s W he hs hb =>
                    endWords_any _ _ e s W (VB.out _ (bw1.trans (hb.mono bw1.size))) (GB.out _ (bw1.trans (hb.mono bw1.size))) he hs
                  have KN : ∀ n vv W, I64b n → RS W vv (intsV [n]) → Below W2.heap.size W2 W → Calls Tryz.prog 48 #[vv] W (RetS W [Lib.itoa n]) := fun n vv W hn hr hb =>
                    numbers_any vv [n] W hr (GB.out _ (bw1.trans (hb.mono bw1.size))) (by simp) (fun m hm => by simp at hm; subst hm; exact hn)
                  rw [hLV.out] at KE
                  have SJ : ∀ W, Below W2.heap.size W2 W → (W.cell? ⟨w.heap.size, 0, none⟩ = some (str nm) ∧ W.cell? ⟨w.heap.size, 1, none⟩ = some (.slice a1 secs.length c1) ∧ W.cell? ⟨w.heap.size, 2, none⟩ = some (.slice a2 els.length c2) ∧ W.cell? ⟨w.heap.size, 3, none⟩ = some (.slice a3 joints.length c3) ∧ W.cell? ⟨w.heap.size, 4, none⟩ = some (.slice (some ⟨b, off, none⟩) sigs.length c4) ∧ W.cell? ⟨w.heap.size, 5, none⟩ = some (.slice a5 bals.length c5) ∧ W.cell? ⟨wr.heap.size, 0, none⟩ = some (str sn) ∧ W.cell? ⟨wr.heap.size, 1, none⟩ = some (.int .i64 ea) ∧ W.cell? ⟨wr.heap.size, 2, none⟩ = some (.int .i64 sa) ∧ W.cell? ⟨wr.heap.size, 3, none⟩ = some (.int .i64 ov)) := by
                    intro W hb
                    obtain ⟨r0, r1, r2, r3, r4, r5⟩ := SK.out _ (bw1.trans (hb.mono bw1.size))
                    have g := GJ.below hb
                    exact ⟨r0, r1, r2, r3, r4, r5, g.at 0 _ rfl, g.at 1 _ rfl, g.at 2 _ rfl, g.at 3 _ rfl⟩
                  have SD := SJ _ (Below.refl _ _).drew
                  have BD : Below W2.heap.size W2 W2.drew := (Below.refl _ _).drew
                  have BW := fun o => (alloc_below (Below.refl W2.heap.size W2) (Nat.le_refl _) o).drew
                  have BWW := fun o o' => (alloc_below (alloc_below (Below.refl W2.heap.size W2) (Nat.le_refl _) o) (Nat.le_refl _) o').drew
                  have SE := fun o => SJ _ (BW o)
                  have SEE := fun o o' => SJ _ (BWW o o')
                  clear HN hy ht hc eL GJ
                  go_wp2_with fail
                  rw [← hW2]
                  clear hW2
                  clear q0 q1 q2 q3 q4 q5 cc0 cc1 cc2 cc3
                  go_region_held3 (fun W => W.cell? ⟨w.heap.size, 0, none⟩ = some (str nm) ∧ W.cell? ⟨w.heap.size, 1, none⟩ = some (.slice a1 secs.length c1) ∧ W.cell? ⟨w.heap.size, 2, none⟩ = some (.slice a2 els.length c2) ∧ W.cell? ⟨w.heap.size, 3, none⟩ = some (.slice a3 joints.length c3) ∧ W.cell? ⟨w.heap.size, 4, none⟩ = some (.slice (some ⟨b, off, none⟩) sigs.length c4) ∧ W.cell? ⟨w.heap.size, 5, none⟩ = some (.slice a5 bals.length c5) ∧ W.cell? ⟨wr.heap.size, 0, none⟩ = some (str sn) ∧ W.cell? ⟨wr.heap.size, 1, none⟩ = some (.int .i64 ea) ∧ W.cell? ⟨wr.heap.size, 2, none⟩ = some (.int .i64 sa) ∧ W.cell? ⟨wr.heap.size, 3, none⟩ = some (.int .i64 ov))
                    (first | with_reducible exact SD | with_reducible exact SE _ | with_reducible exact SEE _ _ | with_reducible exact SF | with_reducible exact SJ _ BA | with_reducible exact SJ _ B5 | with_reducible exact SJ _ B2 | with_reducible exact SJ _ (alloc_below B2 (Nat.le_refl _) _) | with_reducible exact SJ _ (alloc_below (alloc_below B2 (Nat.le_refl _) _) (Nat.le_refl _) _))
                    (first
                      | (go_at_call 47
                         refine (KE _ _ _ (by assumption) (by assumption) (by first | with_reducible exact BD | with_reducible exact BW _ | with_reducible exact BWW _ _)).mono ?_
                         rintro e w2 ⟨vx, rfl, ox, b2⟩
                         have B2 : Below W2.heap.size W2 w2 := (by first | with_reducible exact Below.trans BD (Below.mono b2 BD.size) | with_reducible exact Below.trans (BW _) (Below.mono b2 (BW _).size) | with_reducible exact Below.trans (BWW _ _) (Below.mono b2 (BWW _ _).size))
                         first | with_reducible have rk := RS.below (RS.drewO (lit_signal_rs1 _ _ sn)) b2 | with_reducible have rk := RS.below (RS.drewO (lit_signal_rs _ sn)) b2 | with_reducible have rk := RS.below (RS.drewO (RS.alloc (lit_signal_rs _ sn) _)) b2 | with_reducible skip
                         first | with_reducible have ri := RS.below (RS.drewO (lit_int_rs1 _ _ ov)) b2 | with_reducible have ri := RS.below (RS.drewO (lit_int_rs _ ov)) b2 | with_reducible have ri := RS.below (RS.drewO (RS.alloc (lit_int_rs _ ov) _)) b2 | with_reducible skip
                         have rx := RS.own ox
                         obtain ⟨ax, cx, rfl⟩ := own_slice ox
                         replace rx : RS w2 (.slice ax 2 cx) (strsV [_, _]) := rx
                         clear ox)
                      | (go_at_call 48
                         refine (KN ov _ _ (by assumption) (by first | with_reducible exact ri | with_reducible exact RS.alloc ri _ | with_reducible exact lit_int_rs _ _ | with_reducible exact lit_int_rs1 _ _ _ | with_reducible exact RS.alloc (lit_int_rs _ _) _) (by first | with_reducible exact B2 | with_reducible exact alloc_below B2 (Nat.le_refl _) _ | with_reducible exact alloc_below (alloc_below B2 (Nat.le_refl _) _) (Nat.le_refl _) _)).mono ?_
                         rintro e w3 ⟨vx, rfl, ox, b3⟩
                         have B3 : Below W2.heap.size W2 w3 := (by first | with_reducible exact Below.trans (B2) (Below.mono b3 (Below.size (B2))) | with_reducible exact Below.trans (alloc_below B2 (Nat.le_refl _) _) (Below.mono b3 (Below.size (alloc_below B2 (Nat.le_refl _) _))) | with_reducible exact Below.trans (alloc_below (alloc_below B2 (Nat.le_refl _) _) (Nat.le_refl _) _) (Below.mono b3 (Below.size (alloc_below (alloc_below B2 (Nat.le_refl _) _) (Nat.le_refl _) _))))
                         first | with_reducible have rk := RS.below rk b3 | with_reducible have rk := RS.below (RS.alloc rk _) b3 | with_reducible have rk := RS.below (lit_signal_rs1 _ _ sn) b3 | with_reducible have rk := RS.below (lit_signal_rs _ sn) b3 | with_reducible have rk := RS.below (RS.alloc (lit_signal_rs _ sn) _) b3 | with_reducible skip
                         first | with_reducible have ry := RS.below rx b3 | with_reducible have ry := RS.below (RS.alloc rx _) b3 | with_reducible have ry := RS.below (RS.alloc (RS.alloc rx _) _) b3
                         have B2 := B3
                         have rx := RS.own ox
                         obtain ⟨ax, cx, rfl⟩ := own_slice ox
                         replace rx : RS w3 (.slice ax 1 cx) (strsV [_]) := rx
                         clear ox)
                      | (go_at_call 46
                         refine (concat_any _ [[kSignal, sn], [nameAt els ea, Lib.itoa sa], [Lib.itoa ov]] _ ?_ (by simp) (by simp)).mono ?_
                         · first | exact LL3 rk ry rx | exact LL31 (lit_signal_rs _ sn) (RS.alloc ry _) (RS.alloc rx _)
                         rintro e w5 ⟨v5, rfl, o5, b5⟩
                         have B5 : Below W2.heap.size W2 w5 := (by first | with_reducible exact Below.trans (alloc_below B2 (Nat.le_refl _) _) (Below.mono b5 (Below.size (alloc_below B2 (Nat.le_refl _) _))) | with_reducible exact Below.trans (alloc_below (alloc_below B2 (Nat.le_refl _) _) (Nat.le_refl _) _) (Below.mono b5 (Below.size (alloc_below (alloc_below B2 (Nat.le_refl _) _) (Nat.le_refl _) _))))
                         rw [hX.out] at o5
                         replace o5 := own_mono (base' := W1.heap.size) o5 (by (first | with_reducible exact Nat.le_trans bw1.size (Below.size (alloc_below B2 (Nat.le_refl _) _)) | with_reducible exact Nat.le_trans bw1.size (Below.size (alloc_below (alloc_below B2 (Nat.le_refl _) _) (Nat.le_refl _) _))))
                         obtain ⟨a5x, c5x, rfl⟩ := own_slice o5
                         have BA := alloc_below B5 (Nat.le_refl _) (.cells #[.slice a5x X.length c5x] 22)
                         obtain ⟨vs, k1, k2, k3⟩ := HL.out.below (br.trans (BA.mono br.size))
                         have oA := o5.alloc (.cells #[.slice a5x X.length c5x] 22)
                         have rA := lit_rowB w5 (.slice a5x X.length c5x) w5.heap.size rfl
                         clear o5 b5)
                      | (refine step_append_rs rfl (.tmp 74) (.tmp 88) 39 rfl W1.heap.size 22 (.slice none 0 0) 24 Tryz.underlying39 info_strs rfl _ r.length vs rfl ?_ _ rfl [.slice a5x X.length c5x] ?_ (one_slice _ _ _) ?_ ?_ k3.size ?_
                         · exact k1
                         · exact rA
                         · simp; omega
                         · simp; omega
                         intro v6 w6 p6 gr6 nb6
                         have HP := Lib.hid (LInv.push (x := X) k1 k2 k3 oA p6 gr6)
                         have SL : ∀ (o : Nat) (u : Value), (w5.alloc (.cells #[.slice a5x X.length c5x] 22)).cell? ⟨w.heap.size, o, none⟩ = some u → w6.cell? ⟨w.heap.size, o, none⟩ = some u := fun o u h => gr6.cell h (fun e => by have := (HR _ e.symm).1; simp only at this; omega)
                         have SM : ∀ (o : Nat) (u : Value), (w5.alloc (.cells #[.slice a5x X.length c5x] 22)).cell? ⟨wr.heap.size, o, none⟩ = some u → w6.cell? ⟨wr.heap.size, o, none⟩ = some u := fun o u h => gr6.cell h (fun e => by have := (HR _ e.symm).2; simp only at this; omega)
                         obtain ⟨t0, t1, t2, t3, t4, t5, t6, t7, t8, t9⟩ := SJ _ BA
                         have SF := And.intro (SL _ _ t0) (And.intro (SL _ _ t1) (And.intro (SL _ _ t2) (And.intro (SL _ _ t3) (And.intro (SL _ _ t4) (And.intro (SL _ _ t5) (And.intro (SM _ _ t6) (And.intro (SM _ _ t7) (And.intro (SM _ _ t8) (SM _ _ t9)))))))))
                         clear nb6 gr6 p6 oA k1 k2 k3 t0 t1 t2 t3 t4 t5 t6 t7 t8 t9 SL SM))
                  all_goals
                    go_wp2
                    go_roundg g
                    case measure => omega
                    case rel => exact ⟨k + 1, r ++ [X], by go_num, by omega, N, HP⟩
            | succ g =>
              have h : ((k : Int) < (joints.length : Int)) := by omega
              obtain ⟨y, hy, ht, hmem⟩ := at_take (l := joints) (k := k) (by omega)
              obtain ⟨b, off, rfl, hlt, hc⟩ := H3.out.rd (WB.out _ hbw) hy
              have N := Lib.hid (show p ++ [joLine els y] = o ++ (joints.take (k + 1)).map (joLine els) by rw [HN.out, map_take _ hy]; simp)
              obtain ⟨i1, i2, j1, j2⟩ := o4 y hmem
              obtain ⟨vs0, k10, _, _⟩ := HL.out
              have HR := k10.lt
              have hw1 : w.heap.size < W1.heap.size := World.block_lt_of_cell? W1 _ ((SK.out _ (Below.refl _ _)).1)
              clear k10
              obtain ⟨⟨ea, sa⟩, eb, sb⟩ := y
              have cc0 := hc 0 _ rfl
              have cc1 := hc 1 _ rfl
              have cc2 := hc 2 _ rfl
              have cc3 := hc 3 _ rfl
              simp only [Nat.add_zero] at cc0 cc1 cc2 cc3
              simp only at i1 i2 j1 j2
              have eL : joLine els ((ea, sa), (eb, sb)) = [[kJoint], [nameAt els ea, Lib.itoa sa], [nameAt els eb, Lib.itoa sb]].flatten := rfl
              rw [eL] at N
              obtain ⟨X, hX⟩ : ∃ X, [[kJoint], [nameAt els ea, Lib.itoa sa], [nameAt els eb, Lib.itoa sb]].flatten = X := ⟨_, rfl⟩
              rw [hX] at N
              have hXl : X.length ≤ 10 := by rw [← hX]; simp
              replace hX := Lib.hid hX
              obtain ⟨W2, hW2⟩ : ∃ W2, W2 = wr.alloc (.cells #[.int .i64 ea, .int .i64 sa, .int .i64 eb, .int .i64 sb] 49) := ⟨_, rfl⟩
              have br : Below wr.heap.size wr W2 := by rw [hW2]; exact (Below.refl _ _).alloc (Nat.le_refl _) _
              have bw1 : Below W1.heap.size W1 W2 := hbw.trans (br.mono hbw.size)
              have GJ : Blk W2 wr.heap.size #[.int .i64 ea, .int .i64 sa, .int .i64 eb, .int .i64 sb] := by rw [hW2]; exact Blk.new _ _ _ _ rfl
              have KE : ∀ e s W, OkIx els e → I64b s → Below W2.heap.size W2 W → Calls Tryz.prog 47 #[.agg LV, .agg #[.int .i64 e, .int .i64 s]] W (RetS W [nameAt els e, Lib.itoa s]) := fun e s W he hs hb =>
                endWords_any _ _ e s W (VB.out _ (bw1.trans (hb.mono bw1.size))) (GB.out _ (bw1.trans (hb.mono bw1.size))) he hs
              rw [hLV.out] at KE
              have SJ : ∀ W, Below W2.heap.size W2 W → (W.cell? ⟨w.heap.size, 0, none⟩ = some (str nm) ∧ W.cell? ⟨w.heap.size, 1, none⟩ = some (.slice a1 secs.length c1) ∧ W.cell? ⟨w.heap.size, 2, none⟩ = some (.slice a2 els.length c2) ∧
                  W.cell? ⟨w.heap.size, 3, none⟩ = some (.slice (some ⟨b, off, none⟩) joints.length c3) ∧ W.cell? ⟨w.heap.size, 4, none⟩ = some (.slice a4 sigs.length c4) ∧ W.cell? ⟨w.heap.size, 5, none⟩ = some (.slice a5 bals.length c5) ∧
                  W.cell? ⟨wr.heap.size, 0, none⟩ = some (.int .i64 ea) ∧ W.cell? ⟨wr.heap.size, 1, none⟩ = some (.int .i64 sa) ∧ W.cell? ⟨wr.heap.size, 2, none⟩ = some (.int .i64 eb) ∧ W.cell? ⟨wr.heap.size, 3, none⟩ = some (.int .i64 sb)) := by
                intro W hb
                obtain ⟨r0, r1, r2, r3, r4, r5⟩ := SK.out _ (bw1.trans (hb.mono bw1.size))
                have g := GJ.below hb
                exact ⟨r0, r1, r2, r3, r4, r5, g.at 0 _ rfl, g.at 1 _ rfl, g.at 2 _ rfl, g.at 3 _ rfl⟩
              have SD := SJ _ (Below.refl _ _).drew
              have BD : Below W2.heap.size W2 W2.drew := (Below.refl _ _).drew
              have BW := (alloc_below (Below.refl W2.heap.size W2) (Nat.le_refl _) (.cells #[.string ⟨#[106, 111, 105, 110, 116]⟩] 9)).drew
              have SE := fun o => SJ _ (alloc_below (Below.refl W2.heap.size W2) (Nat.le_refl _) o).drew
              clear HN hy ht hc eL GJ
              go_wp2_with fail
              rw [← hW2]
              clear hW2
              clear q0 q1 q2 q3 q4 q5 cc0 cc1 cc2 cc3
              go_region_held3 (fun W => W.cell? ⟨w.heap.size, 0, none⟩ = some (str nm) ∧ W.cell? ⟨w.heap.size, 1, none⟩ = some (.slice a1 secs.length c1) ∧ W.cell? ⟨w.heap.size, 2, none⟩ = some (.slice a2 els.length c2) ∧
                  W.cell? ⟨w.heap.size, 3, none⟩ = some (.slice (some ⟨b, off, none⟩) joints.length c3) ∧ W.cell? ⟨w.heap.size, 4, none⟩ = some (.slice a4 sigs.length c4) ∧ W.cell? ⟨w.heap.size, 5, none⟩ = some (.slice a5 bals.length c5) ∧
                  W.cell? ⟨wr.heap.size, 0, none⟩ = some (.int .i64 ea) ∧ W.cell? ⟨wr.heap.size, 1, none⟩ = some (.int .i64 sa) ∧ W.cell? ⟨wr.heap.size, 2, none⟩ = some (.int .i64 eb) ∧ W.cell? ⟨wr.heap.size, 3, none⟩ = some (.int .i64 sb))
                (first | with_reducible exact SD | with_reducible exact SE _ | with_reducible exact SF | with_reducible exact SJ _ BA | with_reducible exact SJ _ B5 | with_reducible exact SJ _ B2 | with_reducible exact SJ _ (alloc_below B2 (Nat.le_refl _) _) | with_reducible exact SJ _ (alloc_below (alloc_below B2 (Nat.le_refl _) _) (Nat.le_refl _) _))
                (first
                  | (go_at_call 47
                     refine (KE _ _ _ (by assumption) (by assumption) (by first | with_reducible exact B2 | with_reducible exact alloc_below B2 (Nat.le_refl _) _ | with_reducible exact BW | with_reducible exact BD)).mono ?_
                     rintro e w2 ⟨vx, rfl, ox, b2⟩
                     have B2 : Below W2.heap.size W2 w2 := by (first | with_reducible exact Below.trans B2 (Below.mono b2 B2.size) | with_reducible exact Below.trans (alloc_below B2 (Nat.le_refl _) _) (Below.mono b2 (Below.size (alloc_below B2 (Nat.le_refl _) _))) | with_reducible exact Below.trans BW (Below.mono b2 BW.size) | with_reducible exact Below.trans BD (Below.mono b2 BD.size))
                     first | (with_reducible have rk := RS.below rk b2) | (with_reducible have rk := RS.below (RS.drewO (lit_joint_rs W2)) b2) | (with_reducible have rk := RS.below (lit_joint_rs _) b2) | skip
                     first | (with_reducible have ry := RS.below rx b2) | (with_reducible have ry := RS.below (RS.alloc rx _) b2) | skip
                     have rx := RS.own ox
                     obtain ⟨ax, cx, rfl⟩ := own_slice ox
                     replace rx : RS w2 (.slice ax 2 cx) (strsV [_, _]) := rx
                     clear ox)
                  | (go_at_call 46
                     refine (concat_any _ [[kJoint], [nameAt els ea, Lib.itoa sa], [nameAt els eb, Lib.itoa sb]] _ ?_ (by simp) (by simp)).mono ?_
                     · first | exact LL3 rk ry rx | exact LL3B (by simp) (lit_joint_rs _) (RS.alloc ry _) (RS.alloc rx _)
                     rintro e w5 ⟨v5, rfl, o5, b5⟩
                     have B5 : Below W2.heap.size W2 w5 := by (first | with_reducible exact Below.trans (alloc_below B2 (Nat.le_refl _) _) (Below.mono b5 (Below.size (alloc_below B2 (Nat.le_refl _) _))) | with_reducible exact Below.trans (alloc_below (alloc_below B2 (Nat.le_refl _) _) (Nat.le_refl _) _) (Below.mono b5 (Below.size (alloc_below (alloc_below B2 (Nat.le_refl _) _) (Nat.le_refl _) _))))
                     rw [hX.out] at o5
                     replace o5 := own_mono (base' := W1.heap.size) o5 (by (first | with_reducible exact Nat.le_trans bw1.size (Below.size (alloc_below B2 (Nat.le_refl _) _)) | with_reducible exact Nat.le_trans bw1.size (Below.size (alloc_below (alloc_below B2 (Nat.le_refl _) _) (Nat.le_refl _) _))))
                     obtain ⟨a5x, c5x, rfl⟩ := own_slice o5
                     have BA := alloc_below B5 (Nat.le_refl _) (.cells #[.slice a5x X.length c5x] 22)
                     obtain ⟨vs, k1, k2, k3⟩ := HL.out.below (br.trans (BA.mono br.size))
                     have oA := o5.alloc (.cells #[.slice a5x X.length c5x] 22)
                     have rA := lit_rowB w5 (.slice a5x X.length c5x) w5.heap.size rfl
                     clear o5 b5)
                  | (refine step_append_rs rfl (.tmp 52) (.tmp 64) 39 rfl W1.heap.size 22 (.slice none 0 0) 24 Tryz.underlying39 info_strs rfl _ p.length vs rfl ?_ _ rfl [.slice a5x X.length c5x] ?_ (one_slice _ _ _) ?_ ?_ k3.size ?_
                     · exact k1
                     · exact rA
                     · simp; omega
                     · simp; omega
                     intro v6 w6 p6 gr6 nb6
                     have HP := Lib.hid (LInv.push (x := X) k1 k2 k3 oA p6 gr6)
                     have SL : ∀ (o : Nat) (u : Value), (w5.alloc (.cells #[.slice a5x X.length c5x] 22)).cell? ⟨w.heap.size, o, none⟩ = some u → w6.cell? ⟨w.heap.size, o, none⟩ = some u := fun o u h => gr6.cell h (fun e => by have := (HR _ e.symm).1; simp only at this; omega)
                     have SM : ∀ (o : Nat) (u : Value), (w5.alloc (.cells #[.slice a5x X.length c5x] 22)).cell? ⟨wr.heap.size, o, none⟩ = some u → w6.cell? ⟨wr.heap.size, o, none⟩ = some u := fun o u h => gr6.cell h (fun e => by have := (HR _ e.symm).2; simp only at this; omega)
                     obtain ⟨t0, t1, t2, t3, t4, t5, t6, t7, t8, t9⟩ := SJ _ BA
                     have SF := And.intro (SL _ _ t0) (And.intro (SL _ _ t1) (And.intro (SL _ _ t2) (And.intro (SL _ _ t3) (And.intro (SL _ _ t4) (And.intro (SL _ _ t5) (And.intro (SM _ _ t6) (And.intro (SM _ _ t7) (And.intro (SM _ _ t8) (SM _ _ t9)))))))))
                     clear nb6 gr6 p6 oA k1 k2 k3 t0 t1 t2 t3 t4 t5 t6 t7 t8 t9 SL SM))
              all_goals
                go_wp2
                go_roundg g
                case measure => omega
                case rel => exact ⟨k + 1, p ++ [X], by go_num, by omega, N, HP⟩
        | succ g =>
          have h : ((k : Int) < (els.length : Int)) := by omega
          obtain ⟨y, hy, ht, hmem⟩ := at_take (l := els) (k := k) (by omega)
          obtain ⟨b, off, rfl, hlt, hc⟩ := H2.out.rd (WB.out _ hbw) hy
          have cc0 := hc 0 _ rfl
          have cc1 := hc 1 _ rfl
          have cc2 := hc 2 _ rfl
          have cc3 := hc 3 _ rfl
          have cc4 := hc 4 _ rfl
          have cc5 := hc 5 _ rfl
          have cc6 := hc 6 _ rfl
          simp only [Nat.add_zero] at cc0
          have N := Lib.hid (show o ++ [elLine secs y] = out ++ (els.take (k + 1)).map (elLine secs) by rw [HN.out, map_take _ hy]; simp)
          have bw1 : Below W1.heap.size W1 (wr.alloc (.cells #[str y.name, .int .i64 y.kind, .int .i64 y.length, .int .i64 y.grade, .int .i64 y.speed, .int .i64 y.slow, .int .i64 y.sec] 45)) := hbw.alloc hbw.size _
          have K := elementLine_any _ _ y _ (VB.out _ bw1) (GB.out _ bw1) (o3 y hmem)
          simp only [elAg] at K
          obtain ⟨x, hx⟩ : ∃ x, elLine secs y = x := ⟨_, rfl⟩
          simp only [hx] at K N
          rw [hLV.out] at K
          replace hx := Lib.hid hx
          have HA : LInv W1 (wr.alloc (.cells #[str y.name, .int .i64 y.kind, .int .i64 y.length, .int .i64 y.grade, .int .i64 y.speed, .int .i64 y.slow, .int .i64 y.sec] 45)) _ o := HL.out.below ((Below.refl _ _).alloc (Nat.le_refl _) _)
          replace HA := Lib.hid HA
          have hl0 : w.heap.size < wr.heap.size := Nat.lt_of_lt_of_le (World.block_lt_of_cell? W1 _ ((SK.out _ (Below.refl _ _)).1)) hbw.size
          clear HN hy ht hc HL
          go_wp2_with (first
            | (go_at_call 45; refine K.mono ?_; rintro e w2 ⟨v2, rfl, o2, b2⟩; have HA2 := HA.out.below b2; have bw2 := bw1.trans (b2.mono bw1.size); obtain ⟨ax, cx, rfl⟩ := own_slice o2)
            | (at_builtin
               obtain ⟨vs, k1, k2, k3⟩ := HA2
               have hs1 := k3.size
               have hu := own_mono o2 bw1.size
               refine wpList_push _ rfl _ _ 39 rfl W1.heap.size 22 (.slice none 0 0) 1 24 Tryz.underlying39 info_strs rfl (by omega) _ o.length _ rfl k1 [.slice ax x.length cx] rfl rfl (one_slice _ _ _) (by omega) (by omega) hs1 ?_
               intro v1 w4 p1 gr1 nb1
               have HP := Lib.hid (LInv.push (x := x) k1 k2 k3 hu p1 gr1)
               clear nb1 gr1 p1 hu k1 k2 k3 hs1))
          go_roundg g
          case measure => omega
          case rel => exact ⟨k + 1, o ++ [x], by go_num, by omega, N, HP⟩
    | succ g =>
      have h : ((k : Int) < (secs.length : Int)) := by omega
      obtain ⟨y, hy, ht, hmem⟩ := at_take (l := secs) (k := k) (by omega)
      obtain ⟨b, off, rfl, hlt, hcell⟩ := H1.out.rd (WB.out _ hbw) hy
      have N := Lib.hid (show out ++ [[kSection, y]] = [kLayout, nm] :: (secs.take (k + 1)).map fun s => [kSection, s] by rw [HN.out, map_take _ hy]; simp)
      clear HN hy ht q0 q2 q3 q4 q5
      go_wp2_with (at_builtin
                   have HA : LInv W1 (wr.alloc (.cells #[.string ⟨#[115, 101, 99, 116, 105, 111, 110]⟩, str y] 9)) _ out := HL.out.below ((Below.refl _ _).alloc (Nat.le_refl _) _)
                   obtain ⟨vs, k1, k2, k3⟩ := HA
                   have hs1 := k3.size
                   have hu := World.ownsRow_lit (base := W1.heap.size) (size := 1) (e := 9) wr #[.string ⟨#[115, 101, 99, 116, 105, 111, 110]⟩, str y] 2 hbw.size (by unfold maxLen; omega) rfl
                   refine wpList_pushB _ rfl _ _ 39 rfl W1.heap.size 22 (.slice none 0 0) 1 24 Tryz.underlying39 info_strs rfl (by omega) _ out.length _ rfl k1 (wr.heap.size + 1) (by simp) [.slice (some ⟨wr.heap.size, 0, none⟩) 2 2] rfl rfl (one_slice _ _ _) (by omega) (by omega) hs1 ?_
                   intro v1 w4 p1 gr1 nb1
                   have HP := Lib.hid (LInv.push (x := [kSection, y]) k1 k2 k3 hu p1 gr1)
                   clear nb1 gr1 p1 hu k1 k2 k3 hs1)
      go_roundg g
      case measure => omega
      case rel => exact ⟨k + 1, out ++ [[kSection, y]], by go_num, by omega, N, HP⟩
end Go.Proofs.YteafkginhejllaaGreatDoor
