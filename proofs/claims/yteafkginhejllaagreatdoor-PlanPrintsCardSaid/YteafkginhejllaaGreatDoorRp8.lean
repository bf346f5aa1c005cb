/- Contract of the reference's Print. Conditions: the layout can be read; it has few parts. -/
import Derived.Test.YteafkginhejllaaGreatDoorRe8
import Derived.Test.YteafkginhejllaaGreatDoorPr8
namespace Go.Proofs.YteafkginhejllaaGreatDoor
open Go.ChangeShapes Go.WideShapes Go.ChangeAt Go.RowKit
theorem lit_sg3 (w : World) (x y : L8) : RS (w.alloc (.cells #[.string ⟨#[115, 105, 103, 110, 97, 108]⟩, str x, str y] 9)) (.slice (some ⟨w.heap.size, 0, none⟩) 3 3) (strsV [kSignal, x, y]) := RS.new w 3 3 _ _ _ rfl rfl ⟨by omega, by omega⟩
theorem lit_sg31 (w : World) (o : Obj) (x y : L8) : RS ((w.alloc o).alloc (.cells #[.string ⟨#[115, 105, 103, 110, 97, 108]⟩, str x, str y] 9)) (.slice (some ⟨w.heap.size + 1, 0, none⟩) 3 3) (strsV [kSignal, x, y]) := by
  have h := lit_sg3 (w.alloc o) x y
  simpa using h
theorem lit_int2 (w : World) (n m : Int) : RS (w.alloc (.cells #[.int .i64 n, .int .i64 m] 3)) (.slice (some ⟨w.heap.size, 0, none⟩) 2 2) (intsV [n, m]) := RS.new w 2 2 _ _ _ rfl rfl ⟨by omega, by omega⟩
theorem lit_int21 (w : World) (o : Obj) (n m : Int) : RS ((w.alloc o).alloc (.cells #[.int .i64 n, .int .i64 m] 3)) (.slice (some ⟨w.heap.size + 1, 0, none⟩) 2 2) (intsV [n, m]) := by
  have h := lit_int2 (w.alloc o) n m
  simpa using h
theorem lit_row1 (w : World) (o : Obj) (x : Value) : RS ((w.alloc o).alloc (.cells #[x] 22)) (.slice (some ⟨w.heap.size + 1, 0, none⟩) 1 1) [x] := lit_rowB (w.alloc o) x _ (by simp)
theorem sg_line8 {els : List ElD} {sn : L8} {ea sa ov : Int} : sgLine els ⟨sn, (ea, sa), ov⟩ = [kSignal, sn, nameAt els ea] ++ itoas8 [sa, ov] := rfl
theorem RetJT.intro {w w' : World} {x : L8 × Int} (h : Below w.heap.size w w') : RetJT w x (.returned (.tuple #[str x.1, .int .i64 x.2])) w' := ⟨rfl, h⟩
set_option maxRecDepth 100000 in
set_option maxHeartbeats 16000000 in
theorem rprint_ok (v : Value) (L : LayD) (w : World) (hv : RLay w v L) (F : FewL L) (hc : checkS isName L = 0) : Calls Tryz.prog 10 #[v] w (RetJT w (joinR (linesOf L))) := by
  have HV := Lib.hid hv
  have V := valid_check hc
  have hO := ok_valid V
  obtain ⟨l1, l2, l3, l4, l5⟩ := valid_lens V
  have hfit := Lib.hid (fits_ok (ok_lines V) (by rw [lines_len]; omega))
  obtain ⟨v1, v2, v3, v4, v5, rfl, h1, h2, h3, h4, h5⟩ := hv
  obtain ⟨a1, c1, rfl, ⟨m1, _⟩, H1⟩ := h1.openS
  obtain ⟨a2, c2, rfl, ⟨m2, _⟩, H2⟩ := h2.openM
  obtain ⟨a3, c3, rfl, ⟨m3, _⟩, H3⟩ := h3.openM
  obtain ⟨a4, c4, rfl, ⟨m4, _⟩, H4⟩ := h4.openM
  obtain ⟨a5, c5, rfl, ⟨m5, _⟩, H5⟩ := h5.openM
  clear h1 h2 h3 h4 h5 V
  obtain ⟨nm, secs, els, joints, sigs, bals⟩ := L
  obtain ⟨o1, o2, o3, o4, o5, o6⟩ := hO
  simp only at l1 l2 l3 l4 l5 m1 m2 m3 m4 m5 H1 H2 H3 H4 H5 o3 o4 o5 o6 ⊢
  obtain ⟨q, hq⟩ : ∃ q, joinR (linesOf ⟨nm, secs, els, joints, sigs, bals⟩) = q := ⟨_, rfl⟩
  rw [hq]
  replace hq := Lib.hid hq
  obtain ⟨LV, hLV⟩ : ∃ LV : Array Value, LV = #[str nm, .slice a1 secs.length c1, .slice a2 els.length c2, .slice a3 joints.length c3, .slice a4 sigs.length c4, .slice a5 bals.length c5] := ⟨_, rfl⟩
  obtain ⟨W1, hW⟩ : ∃ W1, W1 = w.alloc (.cells LV 28) := ⟨_, rfl⟩
  have HB : Below w.heap.size w W1 := by rw [hW]; exact (Below.refl _ _).alloc (Nat.le_refl _) _
  have G1 : Blk W1 w.heap.size LV := by rw [hW]; exact Blk.new _ _ _ _ rfl
  have SK : ∀ W, Below W1.heap.size W1 W → (W.cell? ⟨w.heap.size, 0, none⟩ = some (str nm) ∧ W.cell? ⟨w.heap.size, 1, none⟩ = some (.slice a1 secs.length c1) ∧ W.cell? ⟨w.heap.size, 2, none⟩ = some (.slice a2 els.length c2) ∧ W.cell? ⟨w.heap.size, 3, none⟩ = some (.slice a3 joints.length c3) ∧ W.cell? ⟨w.heap.size, 4, none⟩ = some (.slice a4 sigs.length c4) ∧ W.cell? ⟨w.heap.size, 5, none⟩ = some (.slice a5 bals.length c5)) := by
    intro W h
    have g1 := G1.below h
    exact ⟨g1.at 0 _ (by rw [hLV]; rfl), g1.at 1 _ (by rw [hLV]; rfl), g1.at 2 _ (by rw [hLV]; rfl), g1.at 3 _ (by rw [hLV]; rfl), g1.at 4 _ (by rw [hLV]; rfl), g1.at 5 _ (by rw [hLV]; rfl)⟩
  have VB : ∀ W, Below W1.heap.size W1 W → RLay W (.agg LV) ⟨nm, secs, els, joints, sigs, bals⟩ := fun W h => by rw [hLV]; exact HV.out.below (HB.trans (h.mono HB.size))
  have KC := rcheck_any _ _ W1 (VB W1 (Below.refl _ _)) F
  rw [hc, hLV] at KC
  have WB : ∀ W, Below W1.heap.size W1 W → Below w.heap.size w W := fun W h => HB.trans (h.mono HB.size)
  replace SK := Lib.hid SK
  replace VB := Lib.hid VB
  replace WB := Lib.hid WB
  clear G1 HV F hc
  replace HB := Lib.hid HB
  have hw1 : w.heap.size < W1.heap.size := World.block_lt_of_cell? W1 _ ((SK.out _ (Below.refl _ _)).1)
  obtain ⟨q0, q1, q2, q3, q4, q5⟩ := SK.out _ (Below.refl _ _)
  go_enter Tryz.func10, Tryz.ntmps10
  go_upto_region 1 with fail
  rw [← hLV, ← hW]
  replace hLV := Lib.hid hLV
  clear hW
  go_upto_region 4 with (
    go_at_call 19
    refine KC.mono ?_
    rintro e wc ⟨rfl, bc⟩
    clear q0 q1 q2 q3 q4 q5
    obtain ⟨q0, q1, q2, q3, q4, q5⟩ := SK.out _ bc
    clear KC)
  have I0 := LInv.lit bc [kLayout, nm] 2 rfl (by omega)
  have e0 : (strsV [kLayout, nm]).toArray = #[.string ⟨#[108, 97, 121, 111, 117, 116]⟩, str nm] := rfl
  rw [e0] at I0
  obtain ⟨W2, hW2⟩ : ∃ W2, W2 = (wc.alloc (.cells #[.string ⟨#[108, 97, 121, 111, 117, 116]⟩, str nm] 9)).alloc (.cells #[.slice (some ⟨wc.heap.size, 0, none⟩) 2 2] 22) := ⟨_, rfl⟩
  rw [← hW2] at I0
  replace I0 := Lib.hid I0
  go_upto_region 5 with fail
  rw [← hW2]
  have q1' := q1
  clear hW2 q0 q1 q2 q3 q4 q5 q1' e0 bc
  go_wp2
  go_loopg [5, 6] secs.length (fun g s5 s6 wx => ∃ (k : Nat) (out : List (List L8)), s6 = .int .i64 k ∧ k + g = secs.length ∧ Hid (out = [kLayout, nm] :: (secs.take k).map fun s => [kSection, s]) ∧ Hid (LInv W1 wx s5 out))
  case atStart => exact ⟨0, _, rfl, by omega, Lib.hid rfl, I0⟩
  case round =>
    clear I0
    obtain ⟨k, out, rfl, hg, HN, HL⟩ := hrel
    have hbw : Below W1.heap.size W1 wr := by obtain ⟨_, _, _, h⟩ := HL.out; exact h
    obtain ⟨q0, q1, q2, q3, q4, q5⟩ := SK.out _ hbw
    have hol : out.length ≤ 1001 := by rw [HN.out]; simp; omega
    cases gk with
    | zero =>
      have h : ¬ ((k : Int) < (secs.length : Int)) := by omega
      obtain ⟨P1, hP1⟩ : ∃ P, P = ([kLayout, nm] :: secs.map fun s => [kSection, s]) := ⟨_, rfl⟩
      have E : out = P1 := by rw [hP1, HN.out, List.take_of_length_le (by omega)]
      subst E
      replace hP1 := Lib.hid hP1
      clear HN
      go_wp2
      clear q0 q1 q2 q3 q4 q5 hbw hol
      go_loopg [5, 7] els.length (fun g s5 s7 wx => ∃ (k : Nat) (o : List (List L8)), s7 = .int .i64 k ∧ k + g = els.length ∧ Hid (o = out ++ (els.take k).map (elLine secs)) ∧ Hid (LInv W1 wx s5 o))
      case atStart => exact ⟨0, out, rfl, by omega, Lib.hid (by simp), HL⟩
      case round =>
        clear HL hg h
        obtain ⟨k, o, rfl, hg, HN, HL⟩ := hrel
        have hbw : Below W1.heap.size W1 wr := by obtain ⟨_, _, _, h⟩ := HL.out; exact h
        obtain ⟨q0, q1, q2, q3, q4, q5⟩ := SK.out _ hbw
        have hol : o.length ≤ 2001 := by rw [HN.out, hP1.out]; simp; omega
        cases gk with
        | zero =>
          have h : ¬ ((k : Int) < (els.length : Int)) := by omega
          obtain ⟨P2, hP2⟩ : ∃ P, P = (out ++ els.map (elLine secs)) := ⟨_, rfl⟩
          have E : o = P2 := by rw [hP2, HN.out, List.take_of_length_le (by omega)]
          subst E
          replace hP2 := Lib.hid hP2
          clear HN
          go_wp2
          clear q0 q1 q2 q3 q4 q5 hbw hol
          go_loopg [5, 8] joints.length (fun g s5 s8 wx => ∃ (k : Nat) (p : List (List L8)), s8 = .int .i64 k ∧ k + g = joints.length ∧ Hid (p = o ++ (joints.take k).map (joLine els)) ∧ Hid (LInv W1 wx s5 p))
          case atStart => exact ⟨0, o, rfl, by omega, Lib.hid (by simp), HL⟩
          case round =>
            clear HL hg h
            obtain ⟨k, p, rfl, hg, HN, HL⟩ := hrel
            have hbw : Below W1.heap.size W1 wr := by obtain ⟨_, _, _, h⟩ := HL.out; exact h
            obtain ⟨q0, q1, q2, q3, q4, q5⟩ := SK.out _ hbw
            have hol : p.length ≤ 3001 := by rw [HN.out, hP2.out, hP1.out]; simp; omega
            cases gk with
            | zero =>
              have h : ¬ ((k : Int) < (joints.length : Int)) := by omega
              obtain ⟨P3, hP3⟩ : ∃ P, P = (o ++ joints.map (joLine els)) := ⟨_, rfl⟩
              have E : p = P3 := by rw [hP3, HN.out, List.take_of_length_le (by omega)]
              subst E
              replace hP3 := Lib.hid hP3
              clear HN
              go_wp2
              clear q0 q1 q2 q3 q4 q5 hbw hol
              go_loopg [5, 11] sigs.length (fun g s5 s11 wx => ∃ (k : Nat) (r : List (List L8)), s11 = .int .i64 k ∧ k + g = sigs.length ∧ Hid (r = p ++ (sigs.take k).map (sgLine els)) ∧ Hid (LInv W1 wx s5 r))
              case atStart => exact ⟨0, p, rfl, by omega, Lib.hid (by simp), HL⟩
              case round =>
                clear HL hg h
                obtain ⟨k, r, rfl, hg, HN, HL⟩ := hrel
                have hbw : Below W1.heap.size W1 wr := by obtain ⟨_, _, _, h⟩ := HL.out; exact h
                obtain ⟨q0, q1, q2, q3, q4, q5⟩ := SK.out _ hbw
                have hol : r.length ≤ 4001 := by rw [HN.out, hP3.out, hP2.out, hP1.out]; simp; omega
                cases gk with
                | zero =>
                  have h : ¬ ((k : Int) < (sigs.length : Int)) := by omega
                  obtain ⟨P4, hP4⟩ : ∃ P, P = (p ++ sigs.map (sgLine els)) := ⟨_, rfl⟩
                  have E : r = P4 := by rw [hP4, HN.out, List.take_of_length_le (by omega)]
                  subst E
                  replace hP4 := Lib.hid hP4
                  clear HN
                  go_wp2
                  clear q0 q1 q2 q3 q4 q5 hbw hol
                  go_loopg [5, 13] bals.length (fun g s5 s13 wx => ∃ (k : Nat) (z : List (List L8)), s13 = .int .i64 k ∧ k + g = bals.length ∧ Hid (z = r ++ (bals.take k).map (blLine els)) ∧ Hid (LInv W1 wx s5 z))
                  case atStart => exact ⟨0, r, rfl, by omega, Lib.hid (by simp), HL⟩
                  case round =>
                    clear HL hg h
                    obtain ⟨k, z, rfl, hg, HN, HL⟩ := hrel
                    have hbw : Below W1.heap.size W1 wr := by obtain ⟨_, _, _, h⟩ := HL.out; exact h
                    obtain ⟨q0, q1, q2, q3, q4, q5⟩ := SK.out _ hbw
                    have hol : z.length ≤ 5001 := by rw [HN.out, hP4.out, hP3.out, hP2.out, hP1.out]; simp; omega
                    cases gk with
                    | zero =>
                      have h : ¬ ((k : Int) < (bals.length : Int)) := by omega
                      have E : z = linesOf ⟨nm, secs, els, joints, sigs, bals⟩ := by
                        rw [HN.out, List.take_of_length_le (by omega), hP4.out, hP3.out, hP2.out, hP1.out]
                        simp [linesOf]
                      subst E
                      clear HN
                      have hLL := HL.out.ll
                      have hBW := WB.out _ hbw
                      have KJ := fun vv W hv => rjoin_any vv (linesOf ⟨nm, secs, els, joints, sigs, bals⟩) W hv hfit.out
                      rw [hq.out] at KJ
                      obtain ⟨vs, k1, _, _⟩ := HL.out
                      obtain ⟨az, cz, rfl⟩ := own_slice k1
                      obtain ⟨nz, ez⟩ : ∃ n, (linesOf ⟨nm, secs, els, joints, sigs, bals⟩).length = n := ⟨_, rfl⟩
                      rw [ez] at hLL ⊢
                      clear k1 HL ez hq
                      go_wp2_with (
                        go_at_call 16
                        refine (KJ _ _ hLL).mono ?_
                        rintro e w9 ⟨rfl, rfl⟩)
                      go_ret2
                      exact ⟨rfl, hBW⟩
                    | succ g =>
                      have h : ((k : Int) < (bals.length : Int)) := by omega
                      obtain ⟨y, hy, ht, hmem⟩ := at_take (l := bals) (k := k) (by omega)
                      obtain ⟨b, off, rfl, hlt, hc⟩ := H5.out.rd (WB.out _ hbw) hy
                      have N := Lib.hid (show z ++ [blLine els y] = r ++ (bals.take (k + 1)).map (blLine els) by rw [HN.out, map_take _ hy]; simp)
                      obtain ⟨vs0, k10, _, _⟩ := HL.out
                      have HR := k10.lt
                      clear k10
                      obtain ⟨i1, j1, j2⟩ := o6 y hmem
                      obtain ⟨bi, be, bo⟩ := y
                      have cc0 := hc 0 _ rfl
                      have cc1 := hc 1 _ rfl
                      have cc2 := hc 2 _ rfl
                      simp only [Nat.add_zero] at cc0 cc1 cc2
                      simp only at i1 j1 j2
                      obtain ⟨n1, hn1⟩ : ∃ s, nameAt els be = s := ⟨_, rfl⟩
                      obtain ⟨x1, hx1⟩ : ∃ s, Lib.itoa bi = s := ⟨_, rfl⟩
                      obtain ⟨x2, hx2⟩ : ∃ s, Lib.itoa bo = s := ⟨_, rfl⟩
                      have eL : blLine els ⟨bi, be, bo⟩ = [kBalise, x1, n1, x2] := by simp only [blLine, hn1, hx1, hx2]
                      rw [eL] at N
                      obtain ⟨W2, hW2⟩ : ∃ W2, W2 = wr.alloc (.cells #[.int .i64 bi, .int .i64 be, .int .i64 bo] 59) := ⟨_, rfl⟩
                      have br : Below wr.heap.size wr W2 := by rw [hW2]; exact alloc_below (Below.refl _ _) (Nat.le_refl _) _
                      have bw1 : Below W1.heap.size W1 W2 := hbw.trans (br.mono hbw.size)
                      have GJ : Blk W2 wr.heap.size #[.int .i64 bi, .int .i64 be, .int .i64 bo] := by rw [hW2]; exact Blk.new _ _ _ _ rfl
                      have KNm : ∀ e x W, Hid (nameAt els e = x) → OkIx els e → Below W2.heap.size W2 W → Calls Tryz.prog 21 #[.agg LV, .int .i64 e] W (RetV W (str x)) := fun e x W hx he hb => by
                        rw [← hx.out]; exact r8name_any _ _ e W (VB.out _ (bw1.trans (hb.mono bw1.size))) he
                      have KFm : ∀ m x W, Hid (Lib.itoa m = x) → I64b m → Calls Tryz.prog 22 #[.int .i64 m] W (fun e w' => e = .returned (str x) ∧ W = w') := fun m x W hx hm => by
                        rw [← hx.out]; exact rformat_any m W hm
                      rw [hLV.out] at KNm
                      have SJ : ∀ W, Below W2.heap.size W2 W → (W.cell? ⟨w.heap.size, 0, none⟩ = some (str nm) ∧ W.cell? ⟨w.heap.size, 1, none⟩ = some (.slice a1 secs.length c1) ∧ W.cell? ⟨w.heap.size, 2, none⟩ = some (.slice a2 els.length c2) ∧ W.cell? ⟨w.heap.size, 3, none⟩ = some (.slice a3 joints.length c3) ∧ W.cell? ⟨w.heap.size, 4, none⟩ = some (.slice a4 sigs.length c4) ∧ W.cell? ⟨w.heap.size, 5, none⟩ = some (.slice (some ⟨b, off, none⟩) bals.length c5) ∧ W.cell? ⟨wr.heap.size, 0, none⟩ = some (.int .i64 bi) ∧ W.cell? ⟨wr.heap.size, 1, none⟩ = some (.int .i64 be) ∧ W.cell? ⟨wr.heap.size, 2, none⟩ = some (.int .i64 bo)) := by
                        intro W hb
                        obtain ⟨r0, r1, r2, r3, r4, r5⟩ := SK.out _ (bw1.trans (hb.mono bw1.size))
                        have g := GJ.below hb
                        exact ⟨r0, r1, r2, r3, r4, r5, g.at 0 _ rfl, g.at 1 _ rfl, g.at 2 _ rfl⟩
                      have SD := SJ _ (Below.refl _ _).drew
                      have BD : Below W2.heap.size W2 W2.drew := (Below.refl _ _).drew
                      have BW := fun o => (alloc_below (Below.refl W2.heap.size W2) (Nat.le_refl _) o).drew
                      have SE := fun o => SJ _ (BW o)
                      replace hn1 := Lib.hid hn1
                      replace hx1 := Lib.hid hx1
                      replace hx2 := Lib.hid hx2
                      clear HN hy ht hc eL GJ
                      go_upto_region 28 with fail
                      rw [← hW2]
                      clear hW2
                      clear q0 q1 q2 q3 q4 q5 cc0 cc1 cc2
                      go_region_held3 (fun W => W.cell? ⟨w.heap.size, 0, none⟩ = some (str nm) ∧ W.cell? ⟨w.heap.size, 1, none⟩ = some (.slice a1 secs.length c1) ∧ W.cell? ⟨w.heap.size, 2, none⟩ = some (.slice a2 els.length c2) ∧ W.cell? ⟨w.heap.size, 3, none⟩ = some (.slice a3 joints.length c3) ∧ W.cell? ⟨w.heap.size, 4, none⟩ = some (.slice a4 sigs.length c4) ∧ W.cell? ⟨w.heap.size, 5, none⟩ = some (.slice (some ⟨b, off, none⟩) bals.length c5) ∧ W.cell? ⟨wr.heap.size, 0, none⟩ = some (.int .i64 bi) ∧ W.cell? ⟨wr.heap.size, 1, none⟩ = some (.int .i64 be) ∧ W.cell? ⟨wr.heap.size, 2, none⟩ = some (.int .i64 bo))
                        (first | with_reducible exact SD | with_reducible exact SE _ | with_reducible exact SF | with_reducible exact SJ _ BA | with_reducible exact SJ _ BL | with_reducible exact SJ _ B2)
                        (first
                          | (go_at_call 21
                             refine (KNm _ _ _ (by assumption) (by assumption) BD).mono ?_
                             rintro e w2 ⟨rfl, b2⟩
                             have B2 : Below W2.heap.size W2 w2 := Below.trans (BD) (Below.mono b2 (Below.size (BD)))
                             have BL := alloc_below B2 (Nat.le_refl _) (.cells #[.string ⟨#[98, 97, 108, 105, 115, 101]⟩, str x1, str n1, str x2] 9)
                             have BA := alloc_below BL (Nat.le_refl _) (.cells #[.slice (some ⟨w2.heap.size, 0, none⟩) 4 4] 22)
                             have oL := World.ownsRow_lit (base := W1.heap.size) (size := 1) (e := 9) w2 #[.string ⟨#[98, 97, 108, 105, 115, 101]⟩, str x1, str n1, str x2] 4 (Nat.le_trans bw1.size B2.size) (by unfold maxLen; omega) rfl
                             have oA := oL.alloc (.cells #[.slice (some ⟨w2.heap.size, 0, none⟩) 4 4] 22)
                             obtain ⟨vs, k1, k2, k3⟩ := HL.out.below (br.trans (BA.mono br.size))
                             have rA := lit_row1 w2 (.cells #[.string ⟨#[98, 97, 108, 105, 115, 101]⟩, str x1, str n1, str x2] 9) (.slice (some ⟨w2.heap.size, 0, none⟩) 4 4)
                             clear oL b2)
                          | (go_at_call 22
                             refine (KFm _ _ _ (by assumption) (by assumption)).mono ?_
                             rintro e w3 ⟨rfl, rfl⟩)
                          | (refine step_append_rs rfl (.tmp 136) (.tmp 148) 39 rfl W1.heap.size 22 (.slice none 0 0) 24 Tryz.underlying39 info_strs rfl _ z.length vs rfl ?_ _ rfl [.slice (some ⟨w2.heap.size, 0, none⟩) 4 4] ?_ (one_slice _ _ _) ?_ ?_ k3.size ?_
                             · exact k1
                             · exact rA
                             · simp; omega
                             · simp; omega
                             intro v6 w6 p6 gr6 nb6
                             have HP := Lib.hid (LInv.push (x := [kBalise, x1, n1, x2]) k1 k2 k3 oA p6 gr6)
                             have SL : ∀ (o : Nat) (u : Value), ((w2.alloc (.cells #[.string ⟨#[98, 97, 108, 105, 115, 101]⟩, str x1, str n1, str x2] 9)).alloc (.cells #[.slice (some ⟨w2.heap.size, 0, none⟩) 4 4] 22)).cell? ⟨w.heap.size, o, none⟩ = some u → w6.cell? ⟨w.heap.size, o, none⟩ = some u := fun o u h => gr6.cell h (fun e => by have := (HR _ e.symm).1; simp only at this; omega)
                             have SM : ∀ (o : Nat) (u : Value), ((w2.alloc (.cells #[.string ⟨#[98, 97, 108, 105, 115, 101]⟩, str x1, str n1, str x2] 9)).alloc (.cells #[.slice (some ⟨w2.heap.size, 0, none⟩) 4 4] 22)).cell? ⟨wr.heap.size, o, none⟩ = some u → w6.cell? ⟨wr.heap.size, o, none⟩ = some u := fun o u h => gr6.cell h (fun e => by have := (HR _ e.symm).2; simp only at this; omega)
                             obtain ⟨t0, t1, t2, t3, t4, t5, t6, t7, t8⟩ := SJ _ BA
                             have SF := (And.intro (SL _ _ t0) (And.intro (SL _ _ t1) (And.intro (SL _ _ t2) (And.intro (SL _ _ t3) (And.intro (SL _ _ t4) (And.intro (SL _ _ t5) (And.intro (SM _ _ t6) (And.intro (SM _ _ t7) (SM _ _ t8)))))))))
                             clear nb6 gr6 p6 oA k1 k2 k3 t0 t1 t2 t3 t4 t5 t6 t7 t8 SL SM))
                      all_goals
                        go_wp2
                        go_roundg g
                        case measure => omega
                        case rel => exact ⟨k + 1, z ++ [[kBalise, x1, n1, x2]], by go_num, by omega, N, HP⟩
                | succ g =>
                  have h : ((k : Int) < (sigs.length : Int)) := by omega
                  obtain ⟨y, hy, ht, hmem⟩ := at_take (l := sigs) (k := k) (by omega)
                  obtain ⟨b, off, rfl, hlt, hc⟩ := H4.out.rd (WB.out _ hbw) hy
                  have N := Lib.hid (show r ++ [sgLine els y] = p ++ (sigs.take (k + 1)).map (sgLine els) by rw [HN.out, map_take _ hy]; simp)
                  obtain ⟨vs0, k10, _, _⟩ := HL.out
                  have HR := k10.lt
                  clear k10
                  obtain ⟨i1, j1, j2⟩ := o5 y hmem
                  obtain ⟨sn, ⟨ea, sa⟩, ov⟩ := y
                  have cc0 := hc 0 _ rfl
                  have cc1 := hc 1 _ rfl
                  have cc2 := hc 2 _ rfl
                  have cc3 := hc 3 _ rfl
                  simp only [Nat.add_zero] at cc0 cc1 cc2 cc3
                  simp only at i1 j1 j2
                  obtain ⟨n1, hn1⟩ : ∃ s, nameAt els ea = s := ⟨_, rfl⟩
                  rw [sg_line8, hn1] at N
                  obtain ⟨X, hX⟩ : ∃ X, [kSignal, sn, n1] ++ itoas8 [sa, ov] = X := ⟨_, rfl⟩
                  rw [hX] at N
                  have hXl : X.length ≤ 10 := by rw [← hX]; simp [itoas8]
                  replace hX := Lib.hid hX
                  obtain ⟨W2, hW2⟩ : ∃ W2, W2 = wr.alloc (.cells #[str sn, .int .i64 ea, .int .i64 sa, .int .i64 ov] 51) := ⟨_, rfl⟩
                  have br : Below wr.heap.size wr W2 := by rw [hW2]; exact alloc_below (Below.refl _ _) (Nat.le_refl _) _
                  have bw1 : Below W1.heap.size W1 W2 := hbw.trans (br.mono hbw.size)
                  have GJ : Blk W2 wr.heap.size #[str sn, .int .i64 ea, .int .i64 sa, .int .i64 ov] := by rw [hW2]; exact Blk.new _ _ _ _ rfl
                  have KNm : ∀ e x W, Hid (nameAt els e = x) → OkIx els e → Below W2.heap.size W2 W → Calls Tryz.prog 21 #[.agg LV, .int .i64 e] W (RetV W (str x)) := fun e x W hx he hb => by
                    rw [← hx.out]; exact r8name_any _ _ e W (VB.out _ (bw1.trans (hb.mono bw1.size))) he
                  have KFm : ∀ m x W, Hid (Lib.itoa m = x) → I64b m → Calls Tryz.prog 22 #[.int .i64 m] W (fun e w' => e = .returned (str x) ∧ W = w') := fun m x W hx hm => by
                    rw [← hx.out]; exact rformat_any m W hm
                  rw [hLV.out] at KNm
                  have KLn : ∀ vw vi W, RS W vw (strsV [kSignal, sn, n1]) → RS W vi (intsV [sa, ov]) → Calls Tryz.prog 23 #[vw, vi] W (RetS W X) := fun vw vi W hr hi => by
                    rw [← hX.out]
                    exact r8line_any vw vi [kSignal, sn, n1] [sa, ov] W hr hi (by simp) (by simp) (by intro m hm; simp at hm; rcases hm with rfl | rfl <;> assumption)
                  have SJ : ∀ W, Below W2.heap.size W2 W → (W.cell? ⟨w.heap.size, 0, none⟩ = some (str nm) ∧ W.cell? ⟨w.heap.size, 1, none⟩ = some (.slice a1 secs.length c1) ∧ W.cell? ⟨w.heap.size, 2, none⟩ = some (.slice a2 els.length c2) ∧ W.cell? ⟨w.heap.size, 3, none⟩ = some (.slice a3 joints.length c3) ∧ W.cell? ⟨w.heap.size, 4, none⟩ = some (.slice (some ⟨b, off, none⟩) sigs.length c4) ∧ W.cell? ⟨w.heap.size, 5, none⟩ = some (.slice a5 bals.length c5) ∧ W.cell? ⟨wr.heap.size, 0, none⟩ = some (str sn) ∧ W.cell? ⟨wr.heap.size, 1, none⟩ = some (.int .i64 ea) ∧ W.cell? ⟨wr.heap.size, 2, none⟩ = some (.int .i64 sa) ∧ W.cell? ⟨wr.heap.size, 3, none⟩ = some (.int .i64 ov)) := by
                    intro W hb
                    obtain ⟨r0, r1, r2, r3, r4, r5⟩ := SK.out _ (bw1.trans (hb.mono bw1.size))
                    have g := GJ.below hb
                    exact ⟨r0, r1, r2, r3, r4, r5, g.at 0 _ rfl, g.at 1 _ rfl, g.at 2 _ rfl, g.at 3 _ rfl⟩
                  have SD := SJ _ (Below.refl _ _).drew
                  have BD : Below W2.heap.size W2 W2.drew := (Below.refl _ _).drew
                  have BW := fun o => (alloc_below (Below.refl W2.heap.size W2) (Nat.le_refl _) o).drew
                  have SE := fun o => SJ _ (BW o)
                  replace hn1 := Lib.hid hn1
                  clear HN hy ht hc GJ KFm
                  go_upto_region 23 with fail
                  rw [← hW2]
                  clear hW2
                  clear q0 q1 q2 q3 q4 q5 cc0 cc1 cc2 cc3
                  go_region_held3 (fun W => W.cell? ⟨w.heap.size, 0, none⟩ = some (str nm) ∧ W.cell? ⟨w.heap.size, 1, none⟩ = some (.slice a1 secs.length c1) ∧ W.cell? ⟨w.heap.size, 2, none⟩ = some (.slice a2 els.length c2) ∧ W.cell? ⟨w.heap.size, 3, none⟩ = some (.slice a3 joints.length c3) ∧ W.cell? ⟨w.heap.size, 4, none⟩ = some (.slice (some ⟨b, off, none⟩) sigs.length c4) ∧ W.cell? ⟨w.heap.size, 5, none⟩ = some (.slice a5 bals.length c5) ∧ W.cell? ⟨wr.heap.size, 0, none⟩ = some (str sn) ∧ W.cell? ⟨wr.heap.size, 1, none⟩ = some (.int .i64 ea) ∧ W.cell? ⟨wr.heap.size, 2, none⟩ = some (.int .i64 sa) ∧ W.cell? ⟨wr.heap.size, 3, none⟩ = some (.int .i64 ov))
                    (first | with_reducible exact SD | with_reducible exact SE _ | with_reducible exact SF | with_reducible exact SJ _ BA | with_reducible exact SJ _ B5 | with_reducible exact SJ _ B2 | with_reducible exact SJ _ (alloc_below B2 (Nat.le_refl _) _) | with_reducible exact SJ _ (alloc_below (alloc_below B2 (Nat.le_refl _) _) (Nat.le_refl _) _))
                    (first
                      | (go_at_call 21
                         refine (KNm _ _ _ (by assumption) (by assumption) (by first | with_reducible exact BD | with_reducible exact BW _)).mono ?_
                         rintro e w2 ⟨rfl, b2⟩
                         have B2 : Below W2.heap.size W2 w2 := (by first | with_reducible exact Below.trans (BD) (Below.mono b2 (Below.size (BD))) | with_reducible exact Below.trans (BW _) (Below.mono b2 (Below.size (BW _))))
                         first | with_reducible have ri := RS.below (RS.drewO (lit_int2 _ sa ov)) b2 | skip
                         clear b2)
                      | (go_at_call 23
                         refine (KLn _ _ _ (by first | with_reducible exact lit_sg3 _ _ _ | with_reducible exact RS.alloc (lit_sg3 _ _ _) _ | with_reducible exact lit_sg31 _ _ _ _) (by first | with_reducible exact RS.alloc ri _ | with_reducible exact lit_int21 _ _ _ _ | with_reducible exact RS.alloc (lit_int2 _ _ _) _)).mono ?_
                         rintro e w5 ⟨v5, rfl, o5, b5⟩
                         have B5 : Below W2.heap.size W2 w5 := (by first | with_reducible exact Below.trans (alloc_below B2 (Nat.le_refl _) _) (Below.mono b5 (Below.size (alloc_below B2 (Nat.le_refl _) _))) | with_reducible exact Below.trans (alloc_below (alloc_below B2 (Nat.le_refl _) _) (Nat.le_refl _) _) (Below.mono b5 (Below.size (alloc_below (alloc_below B2 (Nat.le_refl _) _) (Nat.le_refl _) _))))
                         replace o5 := own_mono (base' := W1.heap.size) o5 (by first | with_reducible exact Nat.le_trans bw1.size (Below.size (alloc_below B2 (Nat.le_refl _) _)) | with_reducible exact Nat.le_trans bw1.size (Below.size (alloc_below (alloc_below B2 (Nat.le_refl _) _) (Nat.le_refl _) _)))
                         obtain ⟨a5x, c5x, rfl⟩ := own_slice o5
                         have BA := alloc_below B5 (Nat.le_refl _) (.cells #[.slice a5x X.length c5x] 22)
                         obtain ⟨vs, k1, k2, k3⟩ := HL.out.below (br.trans (BA.mono br.size))
                         have oA := o5.alloc (.cells #[.slice a5x X.length c5x] 22)
                         have rA := lit_row w5 (.slice a5x X.length c5x)
                         clear o5 b5)
                      | (refine step_append_rs rfl (.tmp 106) (.tmp 122) 39 rfl W1.heap.size 22 (.slice none 0 0) 24 Tryz.underlying39 info_strs rfl _ r.length vs rfl ?_ _ rfl [.slice a5x X.length c5x] ?_ (one_slice _ _ _) ?_ ?_ k3.size ?_
                         · exact k1
                         · exact rA
                         · simp; omega
                         · simp; omega
                         intro v6 w6 p6 gr6 nb6
                         have HP := Lib.hid (LInv.push (x := X) k1 k2 k3 oA p6 gr6)
                         have SL : ∀ (o : Nat) (u : Value), (w5.alloc (.cells #[.slice a5x X.length c5x] 22)).cell? ⟨w.heap.size, o, none⟩ = some u → w6.cell? ⟨w.heap.size, o, none⟩ = some u := fun o u h => gr6.cell h (fun e => by have := (HR _ e.symm).1; simp only at this; omega)
                         have SM : ∀ (o : Nat) (u : Value), (w5.alloc (.cells #[.slice a5x X.length c5x] 22)).cell? ⟨wr.heap.size, o, none⟩ = some u → w6.cell? ⟨wr.heap.size, o, none⟩ = some u := fun o u h => gr6.cell h (fun e => by have := (HR _ e.symm).2; simp only at this; omega)
                         obtain ⟨t0, t1, t2, t3, t4, t5, t6, t7, t8, t9⟩ := SJ _ BA
                         have SF := (And.intro (SL _ _ t0) (And.intro (SL _ _ t1) (And.intro (SL _ _ t2) (And.intro (SL _ _ t3) (And.intro (SL _ _ t4) (And.intro (SL _ _ t5) (And.intro (SM _ _ t6) (And.intro (SM _ _ t7) (And.intro (SM _ _ t8) (SM _ _ t9))))))))))
                         clear nb6 gr6 p6 oA k1 k2 k3 t0 t1 t2 t3 t4 t5 t6 t7 t8 t9 SL SM))
                  all_goals
                    go_wp2
                    go_roundg g
                    case measure => omega
                    case rel => exact ⟨k + 1, r ++ [X], by go_num, by omega, N, HP⟩
            | succ g =>
              have h : ((k : Int) < (joints.length : Int)) := by omega
              obtain ⟨y, hy, ht, hmem⟩ := at_take (l := joints) (k := k) (by omega)
              obtain ⟨b, off, rfl, hlt, hc⟩ := H3.out.rd (WB.out _ hbw) hy
              have N := Lib.hid (show p ++ [joLine els y] = o ++ (joints.take (k + 1)).map (joLine els) by rw [HN.out, map_take _ hy]; simp)
              obtain ⟨vs0, k10, _, _⟩ := HL.out
              have HR := k10.lt
              clear k10
              obtain ⟨i1, i2, j1, j2⟩ := o4 y hmem
              obtain ⟨⟨ea, sa⟩, eb, sb⟩ := y
              have cc0 := hc 0 _ rfl
              have cc1 := hc 1 _ rfl
              have cc2 := hc 2 _ rfl
              have cc3 := hc 3 _ rfl
              simp only [Nat.add_zero] at cc0 cc1 cc2 cc3
              simp only at i1 i2 j1 j2
              obtain ⟨n1, hn1⟩ : ∃ s, nameAt els ea = s := ⟨_, rfl⟩
              obtain ⟨n2, hn2⟩ : ∃ s, nameAt els eb = s := ⟨_, rfl⟩
              obtain ⟨x1, hx1⟩ : ∃ s, Lib.itoa sa = s := ⟨_, rfl⟩
              obtain ⟨x2, hx2⟩ : ∃ s, Lib.itoa sb = s := ⟨_, rfl⟩
              have eL : joLine els ((ea, sa), (eb, sb)) = [kJoint, n1, x1, n2, x2] := by simp only [joLine, hn1, hn2, hx1, hx2]
              rw [eL] at N
              obtain ⟨W2, hW2⟩ : ∃ W2, W2 = (wr.alloc (.cells #[.int .i64 ea, .int .i64 sa] 47)).alloc (.cells #[.int .i64 eb, .int .i64 sb] 47) := ⟨_, rfl⟩
              have br : Below wr.heap.size wr W2 := by rw [hW2]; exact alloc_below (alloc_below (Below.refl _ _) (Nat.le_refl _) _) (Nat.le_refl _) _
              have bw1 : Below W1.heap.size W1 W2 := hbw.trans (br.mono hbw.size)
              have GJ : Blk W2 wr.heap.size #[.int .i64 ea, .int .i64 sa] := by rw [hW2]; exact (Blk.new _ _ _ _ rfl).old _
              have GK : Blk W2 (wr.heap.size + 1) #[.int .i64 eb, .int .i64 sb] := by rw [hW2]; exact Blk.new _ _ _ _ (by simp)
              have KNm : ∀ e x W, Hid (nameAt els e = x) → OkIx els e → Below W2.heap.size W2 W → Calls Tryz.prog 21 #[.agg LV, .int .i64 e] W (RetV W (str x)) := fun e x W hx he hb => by
                rw [← hx.out]; exact r8name_any _ _ e W (VB.out _ (bw1.trans (hb.mono bw1.size))) he
              have KFm : ∀ m x W, Hid (Lib.itoa m = x) → I64b m → Calls Tryz.prog 22 #[.int .i64 m] W (fun e w' => e = .returned (str x) ∧ W = w') := fun m x W hx hm => by
                rw [← hx.out]; exact rformat_any m W hm
              rw [hLV.out] at KNm
              have SJ : ∀ W, Below W2.heap.size W2 W → (W.cell? ⟨w.heap.size, 0, none⟩ = some (str nm) ∧ W.cell? ⟨w.heap.size, 1, none⟩ = some (.slice a1 secs.length c1) ∧ W.cell? ⟨w.heap.size, 2, none⟩ = some (.slice a2 els.length c2) ∧ W.cell? ⟨w.heap.size, 3, none⟩ = some (.slice (some ⟨b, off, none⟩) joints.length c3) ∧ W.cell? ⟨w.heap.size, 4, none⟩ = some (.slice a4 sigs.length c4) ∧ W.cell? ⟨w.heap.size, 5, none⟩ = some (.slice a5 bals.length c5) ∧ W.cell? ⟨wr.heap.size, 0, none⟩ = some (.int .i64 ea) ∧ W.cell? ⟨wr.heap.size, 1, none⟩ = some (.int .i64 sa) ∧ W.cell? ⟨wr.heap.size + 1, 0, none⟩ = some (.int .i64 eb) ∧ W.cell? ⟨wr.heap.size + 1, 1, none⟩ = some (.int .i64 sb)) := by
                intro W hb
                obtain ⟨r0, r1, r2, r3, r4, r5⟩ := SK.out _ (bw1.trans (hb.mono bw1.size))
                have g := GJ.below hb
                have g' := GK.below hb
                exact ⟨r0, r1, r2, r3, r4, r5, g.at 0 _ rfl, g.at 1 _ rfl, g'.at 0 _ rfl, g'.at 1 _ rfl⟩
              have SD := SJ _ (Below.refl _ _).drew
              have BD : Below W2.heap.size W2 W2.drew := (Below.refl _ _).drew
              have BW := fun o => (alloc_below (Below.refl W2.heap.size W2) (Nat.le_refl _) o).drew
              have SE := fun o => SJ _ (BW o)
              replace hn1 := Lib.hid hn1
              replace hn2 := Lib.hid hn2
              replace hx1 := Lib.hid hx1
              replace hx2 := Lib.hid hx2
              have ca0 := cell_kept (alloc_below (Below.refl wr.heap.size wr) (Nat.le_refl _) (.cells #[.int .i64 ea, .int .i64 sa] 47)) cc2
              have ca1 := cell_kept (alloc_below (Below.refl wr.heap.size wr) (Nat.le_refl _) (.cells #[.int .i64 ea, .int .i64 sa] 47)) cc3
              have qa3 := cell_kept (alloc_below (Below.refl wr.heap.size wr) (Nat.le_refl _) (.cells #[.int .i64 ea, .int .i64 sa] 47)) q3
              clear HN hy ht hc eL GJ GK
              go_upto_region 18 with fail
              rw [← hW2]
              clear hW2
              clear q0 q1 q2 q3 q4 q5 cc0 cc1 cc2 cc3 ca0 ca1 qa3
              go_region_held3 (fun W => W.cell? ⟨w.heap.size, 0, none⟩ = some (str nm) ∧ W.cell? ⟨w.heap.size, 1, none⟩ = some (.slice a1 secs.length c1) ∧ W.cell? ⟨w.heap.size, 2, none⟩ = some (.slice a2 els.length c2) ∧ W.cell? ⟨w.heap.size, 3, none⟩ = some (.slice (some ⟨b, off, none⟩) joints.length c3) ∧ W.cell? ⟨w.heap.size, 4, none⟩ = some (.slice a4 sigs.length c4) ∧ W.cell? ⟨w.heap.size, 5, none⟩ = some (.slice a5 bals.length c5) ∧ W.cell? ⟨wr.heap.size, 0, none⟩ = some (.int .i64 ea) ∧ W.cell? ⟨wr.heap.size, 1, none⟩ = some (.int .i64 sa) ∧ W.cell? ⟨wr.heap.size + 1, 0, none⟩ = some (.int .i64 eb) ∧ W.cell? ⟨wr.heap.size + 1, 1, none⟩ = some (.int .i64 sb))
                (first | with_reducible exact SD | with_reducible exact SE _ | with_reducible exact SF | with_reducible exact SJ _ BA | with_reducible exact SJ _ BL | with_reducible exact SJ _ B2)
                (first
                  | (go_at_call 21
                     refine (KNm _ _ _ (by assumption) (by assumption) (by first | with_reducible exact B2 | with_reducible exact BD)).mono ?_
                     rintro e w2 ⟨rfl, b2⟩
                     have B2 : Below W2.heap.size W2 w2 := (by first | with_reducible exact Below.trans (B2) (Below.mono b2 (Below.size (B2))) | with_reducible exact Below.trans (BD) (Below.mono b2 (Below.size (BD))))
                     have BL := alloc_below B2 (Nat.le_refl _) (.cells #[.string ⟨#[106, 111, 105, 110, 116]⟩, str n1, str x1, str n2, str x2] 9)
                     have BA := alloc_below BL (Nat.le_refl _) (.cells #[.slice (some ⟨w2.heap.size, 0, none⟩) 5 5] 22)
                     have oL := World.ownsRow_lit (base := W1.heap.size) (size := 1) (e := 9) w2 #[.string ⟨#[106, 111, 105, 110, 116]⟩, str n1, str x1, str n2, str x2] 5 (Nat.le_trans bw1.size B2.size) (by unfold maxLen; omega) rfl
                     have oA := oL.alloc (.cells #[.slice (some ⟨w2.heap.size, 0, none⟩) 5 5] 22)
                     obtain ⟨vs, k1, k2, k3⟩ := HL.out.below (br.trans (BA.mono br.size))
                     have rA := lit_row1 w2 (.cells #[.string ⟨#[106, 111, 105, 110, 116]⟩, str n1, str x1, str n2, str x2] 9) (.slice (some ⟨w2.heap.size, 0, none⟩) 5 5)
                     clear oL b2)
                  | (go_at_call 22
                     refine (KFm _ _ _ (by assumption) (by assumption)).mono ?_
                     rintro e w3 ⟨rfl, rfl⟩)
                  | (refine step_append_rs rfl (.tmp 76) (.tmp 92) 39 rfl W1.heap.size 22 (.slice none 0 0) 24 Tryz.underlying39 info_strs rfl _ p.length vs rfl ?_ _ rfl [.slice (some ⟨w2.heap.size, 0, none⟩) 5 5] ?_ (one_slice _ _ _) ?_ ?_ k3.size ?_
                     · exact k1
                     · exact rA
                     · simp; omega
                     · simp; omega
                     intro v6 w6 p6 gr6 nb6
                     have HP := Lib.hid (LInv.push (x := [kJoint, n1, x1, n2, x2]) k1 k2 k3 oA p6 gr6)
                     have SL : ∀ (o : Nat) (u : Value), ((w2.alloc (.cells #[.string ⟨#[106, 111, 105, 110, 116]⟩, str n1, str x1, str n2, str x2] 9)).alloc (.cells #[.slice (some ⟨w2.heap.size, 0, none⟩) 5 5] 22)).cell? ⟨w.heap.size, o, none⟩ = some u → w6.cell? ⟨w.heap.size, o, none⟩ = some u := fun o u h => gr6.cell h (fun e => by have := (HR _ e.symm).1; simp only at this; omega)
                     have SM : ∀ (o : Nat) (u : Value), ((w2.alloc (.cells #[.string ⟨#[106, 111, 105, 110, 116]⟩, str n1, str x1, str n2, str x2] 9)).alloc (.cells #[.slice (some ⟨w2.heap.size, 0, none⟩) 5 5] 22)).cell? ⟨wr.heap.size, o, none⟩ = some u → w6.cell? ⟨wr.heap.size, o, none⟩ = some u := fun o u h => gr6.cell h (fun e => by have := (HR _ e.symm).2; simp only at this; omega)
                     have SN : ∀ (o : Nat) (u : Value), ((w2.alloc (.cells #[.string ⟨#[106, 111, 105, 110, 116]⟩, str n1, str x1, str n2, str x2] 9)).alloc (.cells #[.slice (some ⟨w2.heap.size, 0, none⟩) 5 5] 22)).cell? ⟨wr.heap.size + 1, o, none⟩ = some u → w6.cell? ⟨wr.heap.size + 1, o, none⟩ = some u := fun o u h => gr6.cell h (fun e => by have := (HR _ e.symm).2; simp only at this; omega)
                     obtain ⟨t0, t1, t2, t3, t4, t5, t6, t7, t8, t9⟩ := SJ _ BA
                     have SF := (And.intro (SL _ _ t0) (And.intro (SL _ _ t1) (And.intro (SL _ _ t2) (And.intro (SL _ _ t3) (And.intro (SL _ _ t4) (And.intro (SL _ _ t5) (And.intro (SM _ _ t6) (And.intro (SM _ _ t7) (And.intro (SN _ _ t8) (SN _ _ t9))))))))))
                     clear nb6 gr6 p6 oA k1 k2 k3 t0 t1 t2 t3 t4 t5 t6 t7 t8 t9 SL SM SN))
              all_goals
                go_wp2
                go_roundg g
                case measure => omega
                case rel => exact ⟨k + 1, p ++ [[kJoint, n1, x1, n2, x2]], by go_num, by omega, N, HP⟩
        | succ g =>
          have h : ((k : Int) < (els.length : Int)) := by omega
          obtain ⟨y, hy, ht, hmem⟩ := at_take (l := els) (k := k) (by omega)
          obtain ⟨b, off, rfl, hlt, hc⟩ := H2.out.rd HB.out hy
          have N := Lib.hid (show o ++ [elLine secs y] = out ++ (els.take (k + 1)).map (elLine secs) by rw [HN.out, map_take _ hy]; simp)
          obtain ⟨vs0, k10, _, _⟩ := HL.out
          have HR := k10.lt
          clear k10
          have hOk := o3 y hmem
          obtain ⟨X, hX⟩ : ∃ X, elLine secs y = X := ⟨_, rfl⟩
          have hXl : X.length ≤ 10 := by rw [← hX]; unfold elLine; repeat' split
                                         all_goals simp
          have KE : ∀ W, Below wr.heap.size wr W → Calls Tryz.prog 20 #[.agg LV, elAg y] W (RetS W X) := fun W hb => by
            rw [← hX]; exact r8element_any _ _ y W (VB.out _ (hbw.trans (hb.mono hbw.size))) hOk
          rw [hX] at N
          replace hX := Lib.hid hX
          simp only [elAg] at KE
          obtain ⟨nn, kd, ln, gr, sp, sl, sc⟩ := y
          simp only at KE
          rw [hLV.out] at KE
          have SJ : ∀ W, Below wr.heap.size wr W → (W.cell? ⟨w.heap.size, 0, none⟩ = some (str nm) ∧ W.cell? ⟨w.heap.size, 1, none⟩ = some (.slice a1 secs.length c1) ∧ W.cell? ⟨w.heap.size, 2, none⟩ = some (.slice (some ⟨b, off, none⟩) els.length c2) ∧ W.cell? ⟨w.heap.size, 3, none⟩ = some (.slice a3 joints.length c3) ∧ W.cell? ⟨w.heap.size, 4, none⟩ = some (.slice a4 sigs.length c4) ∧ W.cell? ⟨w.heap.size, 5, none⟩ = some (.slice a5 bals.length c5) ∧ W.cell? ⟨b, off + k * 7, none⟩ = some (str nn) ∧ W.cell? ⟨b, off + k * 7 + 1, none⟩ = some (.int .i64 kd) ∧ W.cell? ⟨b, off + k * 7 + 2, none⟩ = some (.int .i64 ln) ∧ W.cell? ⟨b, off + k * 7 + 3, none⟩ = some (.int .i64 gr) ∧ W.cell? ⟨b, off + k * 7 + 4, none⟩ = some (.int .i64 sp) ∧ W.cell? ⟨b, off + k * 7 + 5, none⟩ = some (.int .i64 sl) ∧ W.cell? ⟨b, off + k * 7 + 6, none⟩ = some (.int .i64 sc)) := by
            intro W hb
            have hb2 := hbw.trans (hb.mono hbw.size)
            obtain ⟨r0, r1, r2, r3, r4, r5⟩ := SK.out _ hb2
            have kk := fun j x hx => cell_kept hb2 (hc j x hx)
            have k0 := kk 0 _ rfl
            rw [Nat.add_zero] at k0
            exact ⟨r0, r1, r2, r3, r4, r5, k0, kk 1 _ rfl, kk 2 _ rfl, kk 3 _ rfl, kk 4 _ rfl, kk 5 _ rfl, kk 6 _ rfl⟩
          have SD := SJ _ (Below.refl _ _).drew
          have BD : Below wr.heap.size wr wr.drew := (Below.refl _ _).drew
          have hbl : b < W1.heap.size := hlt
          clear HN hy ht hc hOk
          go_upto_region 12 with fail
          clear q0 q1 q2 q3 q4 q5
          go_region_held3 (fun W => W.cell? ⟨w.heap.size, 0, none⟩ = some (str nm) ∧ W.cell? ⟨w.heap.size, 1, none⟩ = some (.slice a1 secs.length c1) ∧ W.cell? ⟨w.heap.size, 2, none⟩ = some (.slice (some ⟨b, off, none⟩) els.length c2) ∧ W.cell? ⟨w.heap.size, 3, none⟩ = some (.slice a3 joints.length c3) ∧ W.cell? ⟨w.heap.size, 4, none⟩ = some (.slice a4 sigs.length c4) ∧ W.cell? ⟨w.heap.size, 5, none⟩ = some (.slice a5 bals.length c5) ∧ W.cell? ⟨b, off + k * 7, none⟩ = some (str nn) ∧ W.cell? ⟨b, off + k * 7 + 1, none⟩ = some (.int .i64 kd) ∧ W.cell? ⟨b, off + k * 7 + 2, none⟩ = some (.int .i64 ln) ∧ W.cell? ⟨b, off + k * 7 + 3, none⟩ = some (.int .i64 gr) ∧ W.cell? ⟨b, off + k * 7 + 4, none⟩ = some (.int .i64 sp) ∧ W.cell? ⟨b, off + k * 7 + 5, none⟩ = some (.int .i64 sl) ∧ W.cell? ⟨b, off + k * 7 + 6, none⟩ = some (.int .i64 sc))
            (first | with_reducible exact SD | with_reducible exact SF | with_reducible exact SJ _ BA | with_reducible exact SJ _ B2)
            (first
              | (go_at_call 20
                 refine (KE _ BD).mono ?_
                 rintro e w2 ⟨vx, rfl, o5, b2⟩
                 have B2 : Below wr.heap.size wr w2 := Below.trans (BD) (Below.mono b2 (Below.size (BD)))
                 replace o5 := own_mono (base' := W1.heap.size) o5 hbw.size
                 obtain ⟨a5x, c5x, rfl⟩ := own_slice o5
                 have BA := alloc_below B2 (Nat.le_refl _) (.cells #[.slice a5x X.length c5x] 22)
                 obtain ⟨vs, k1, k2, k3⟩ := HL.out.below BA
                 have oA := o5.alloc (.cells #[.slice a5x X.length c5x] 22)
                 have rA := lit_row w2 (.slice a5x X.length c5x)
                 clear o5 b2)
              | (refine step_append_rs rfl (.tmp 47) (.tmp 55) 39 rfl W1.heap.size 22 (.slice none 0 0) 24 Tryz.underlying39 info_strs rfl _ o.length vs rfl ?_ _ rfl [.slice a5x X.length c5x] ?_ (one_slice _ _ _) ?_ ?_ k3.size ?_
                 · exact k1
                 · exact rA
                 · simp; omega
                 · simp; omega
                 intro v6 w6 p6 gr6 nb6
                 have HP := Lib.hid (LInv.push (x := X) k1 k2 k3 oA p6 gr6)
                 have SL : ∀ (o : Nat) (u : Value), (w2.alloc (.cells #[.slice a5x X.length c5x] 22)).cell? ⟨w.heap.size, o, none⟩ = some u → w6.cell? ⟨w.heap.size, o, none⟩ = some u := fun o u h => gr6.cell h (fun e => by have := (HR _ e.symm).1; simp only at this; omega)
                 have SO : ∀ (o : Nat) (u : Value), (w2.alloc (.cells #[.slice a5x X.length c5x] 22)).cell? ⟨b, o, none⟩ = some u → w6.cell? ⟨b, o, none⟩ = some u := fun o u h => gr6.cell h (fun e => by have := (HR _ e.symm).1; simp only at this; omega)
                 obtain ⟨t0, t1, t2, t3, t4, t5, t6, t7, t8, t9, t10, t11, t12⟩ := SJ _ BA
                 have SF := (And.intro (SL _ _ t0) (And.intro (SL _ _ t1) (And.intro (SL _ _ t2) (And.intro (SL _ _ t3) (And.intro (SL _ _ t4) (And.intro (SL _ _ t5) (And.intro (SO _ _ t6) (And.intro (SO _ _ t7) (And.intro (SO _ _ t8) (And.intro (SO _ _ t9) (And.intro (SO _ _ t10) (And.intro (SO _ _ t11) (SO _ _ t12)))))))))))))
                 clear nb6 gr6 p6 oA k1 k2 k3 t0 t1 t2 t3 t4 t5 t6 t7 t8 t9 t10 t11 t12 SL SO))
          all_goals
            go_wp2
            go_roundg g
            case measure => omega
            case rel => exact ⟨k + 1, o ++ [X], by go_num, by omega, N, HP⟩
    | succ g =>
      have h : ((k : Int) < (secs.length : Int)) := by omega
      obtain ⟨y, hy, ht, hmem⟩ := at_take (l := secs) (k := k) (by omega)
      obtain ⟨b, off, rfl, hlt, hcell⟩ := H1.out.rd (WB.out _ hbw) hy
      have N := Lib.hid (show out ++ [[kSection, y]] = [kLayout, nm] :: (secs.take (k + 1)).map fun s => [kSection, s] by rw [HN.out, map_take _ hy]; simp)
      clear HN hy ht q0 q2 q3 q4 q5
      go_wp2_with (at_builtin
                   have HA : LInv W1 (wr.alloc (.cells #[.string ⟨#[115, 101, 99, 116, 105, 111, 110]⟩, str y] 9)) _ out := HL.out.below ((Below.refl _ _).alloc (Nat.le_refl _) _)
                   obtain ⟨vs, k1, k2, k3⟩ := HA
                   have hs1 := k3.size
                   have hu := World.ownsRow_lit (base := W1.heap.size) (size := 1) (e := 9) wr #[.string ⟨#[115, 101, 99, 116, 105, 111, 110]⟩, str y] 2 hbw.size (by unfold maxLen; omega) rfl
                   refine wpList_pushB _ rfl _ _ 39 rfl W1.heap.size 22 (.slice none 0 0) 1 24 Tryz.underlying39 info_strs rfl (by omega) _ out.length _ rfl k1 (wr.heap.size + 1) (by simp) [.slice (some ⟨wr.heap.size, 0, none⟩) 2 2] rfl rfl (one_slice _ _ _) (by omega) (by omega) hs1 ?_
                   intro v1 w4 p1 gr1 nb1
                   have HP := Lib.hid (LInv.push (x := [kSection, y]) k1 k2 k3 hu p1 gr1)
                   clear nb1 gr1 p1 hu k1 k2 k3 hs1)
      go_roundg g
      case measure => omega
      case rel => exact ⟨k + 1, out ++ [[kSection, y]], by go_num, by omega, N, HP⟩
end Go.Proofs.YteafkginhejllaaGreatDoor
