/- The walk of LayoutParts. Conditions: what the program reads (GW); the layout can be read; its names' lengths. -/
import Derived.Test.YthoodaldmfojaaaDoorLawsA7
import Derived.Test.YthoodaldmfojaaaDoorParts7
import Derived.Laws.OwnMore
import Derived.Deep.OwnRows
namespace Go.Proofs.YthoodaldmfojaaaDoor
open Go.ChangeShapes Go.WideShapes Go.ChangeAt Go.RowKit
theorem own_rd {w : World} {base : Nat} {a : Option Addr} {n c j : Nat} {l : List Int} {y : Int} (h : w.ownsRow base 3 1 (.slice a n c) l.length (intsV l)) (hy : l[j]? = some y) : ∃ b off, a = some ⟨b, off, none⟩ ∧ b < w.heap.size ∧ w.cell? ⟨b, off + j, none⟩ = some (.int .i64 y) := by
  obtain ⟨a', c', hv, _, hc⟩ := RS.own h
  injection hv with e1 e2 e3
  subst e1
  exact hc j _ (by simp [intsV, hy])
theorem own_rdm {w : World} {base : Nat} {a : Option Addr} {n c j m : Nat} {l : List Int} {y : Int} (h : w.ownsRow base 3 1 (.slice a n c) m (intsV l)) (hm : l.length = m) (hy : l[j]? = some y) : ∃ b off, a = some ⟨b, off, none⟩ ∧ b < w.heap.size ∧ w.cell? ⟨b, off + j, none⟩ = some (.int .i64 y) := by
  subst hm
  exact own_rd h hy
theorem point_len : ∀ (els : List ElD) (i : Nat), (pointF i els).length ≤ els.length
  | [], i => by simp [pointF]
  | x :: xs, i => by
    have ih := point_len xs (i + 1)
    rw [pointF]
    split <;> simp only [List.length_cons] <;> omega
theorem made_ints (n : Nat) : madeCells #[.int .i64 0] n = (intsV (List.replicate n 0)).toArray := by
  apply Array.toList_inj.1
  rw [toList_madeCells_one]
  simp [intsV]
theorem fc_bound {els : List ElD} {s : Int} {ms fc : List Int} (h : fcS els s ms fc) : 0 ≤ fc.sum ∧ fc.sum ≤ els.length := by
  have all : ∀ x ∈ fc, 0 ≤ x ∧ x ≤ 1 := by
    intro x hx
    obtain ⟨i, hi, rfl⟩ := List.getElem_of_mem hx
    have := h.2 i (els[i]'(by rw [← h.1]; exact hi)) (List.getElem?_eq_getElem _)
    rw [List.getElem?_eq_getElem hi] at this
    have := Option.some.inj this
    rw [this]; split <;> (try split) <;> omega
  rw [← h.1]
  clear h
  induction fc with
  | nil => simp
  | cons x xs ih =>
    have h1 := all x (by simp)
    have h2 := ih fun y hy => all y (by simp [hy])
    simp only [List.sum_cons, List.length_cons]; omega
theorem intsV_set (fc : List Int) (i : Nat) (x : Int) : (intsV fc).toArray.setIfInBounds i (.int .i64 x) = (intsV (fc.set i x)).toArray := by
  simp [intsV, List.map_set]
set_option maxRecDepth 100000 in
set_option maxHeartbeats 16000000 in
theorem parts_all (v : Value) (L : LayD) (w : World) (hG : GW w) (hv : RLay w v L) (hs : ∀ s ∈ allNames L, s.length ≤ 9223372036854775807) : Calls Tryd.prog 5 #[v] w (RetB w true) := by
  have HE0 := hv
  obtain ⟨nb, a1, a2, a3, a4, a5, s1, c1, s2, c2, s3, c3, s4, c4, s5, c5, rfl⟩ := lay_open hv
  obtain ⟨v1, v2, v3, v4, v5, hve, h1s, h2, _, _, _⟩ := HE0
  obtain ⟨-, e1', e2', -, -, -⟩ : Value.string nb = str L.name ∧ .slice a1 s1 c1 = v1 ∧ .slice a2 s2 c2 = v2 ∧ .slice a3 s3 c3 = v3 ∧ .slice a4 s4 c4 = v4 ∧ .slice a5 s5 c5 = v5 := by simpa using hve
  subst e1' e2'
  have hs1 : L.secs.length = s1 := by
    obtain ⟨a', c', e, _⟩ := h1s.openS
    injection e with _ e _
    exact e.symm
  obtain ⟨a2', c2', e2, ⟨m2, _⟩, HE⟩ := h2.openM
  injection e2 with e21 e22 e23
  subst e21 e23
  clear hve h2
  have HV := Lib.hid hv
  clear hv
  obtain ⟨els, ee⟩ : ∃ x, L.els = x := ⟨_, rfl⟩
  rw [ee] at HE m2 e22
  subst e22
  replace ee := Lib.hid ee
  obtain ⟨W1, hW⟩ : ∃ W1, W1 = w.alloc (.cells #[.string nb, .slice a1 s1 c1, .slice a2 els.length c2, .slice a3 s3 c3, .slice a4 s4 c4, .slice a5 s5 c5] 28) := ⟨_, rfl⟩
  have HB : Below w.heap.size w W1 := by rw [hW]; exact (Below.refl _ _).alloc (Nat.le_refl _) _
  have G1 : Blk W1 w.heap.size #[.string nb, .slice a1 s1 c1, .slice a2 els.length c2, .slice a3 s3 c3, .slice a4 s4 c4, .slice a5 s5 c5] := by rw [hW]; exact Blk.new _ _ _ _ rfl
  have SK : ∀ W, Below W1.heap.size W1 W → Below w.heap.size w W ∧ w.heap.size < W.heap.size ∧ W.cell? ⟨w.heap.size, 0, none⟩ = some (.string nb) ∧ W.cell? ⟨w.heap.size, 1, none⟩ = some (.slice a1 s1 c1) ∧ W.cell? ⟨w.heap.size, 2, none⟩ = some (.slice a2 els.length c2) ∧
      W.cell? ⟨w.heap.size, 3, none⟩ = some (.slice a3 s3 c3) ∧ W.cell? ⟨w.heap.size, 4, none⟩ = some (.slice a4 s4 c4) ∧ W.cell? ⟨w.heap.size, 5, none⟩ = some (.slice a5 s5 c5) := by
    intro W h
    have b := G1.below h
    exact ⟨HB.trans (h.mono HB.size), b.lt, b.at 0 _ rfl, b.at 1 _ rfl, b.at 2 _ rfl, b.at 3 _ rfl, b.at 4 _ rfl, b.at 5 _ rfl⟩
  have GB : ∀ W, Below W1.heap.size W1 W → GW W := fun W h => hG.below (HB.trans (h.mono HB.size))
  have VB : ∀ W, Below W1.heap.size W1 W → RLay W (.agg #[.string nb, .slice a1 s1 c1, .slice a2 els.length c2, .slice a3 s3 c3, .slice a4 s4 c4, .slice a5 s5 c5]) L := fun W h => HV.out.below (HB.trans (h.mono HB.size))
  replace SK := Lib.hid SK
  replace GB := Lib.hid GB
  replace VB := Lib.hid VB
  clear hG HV G1
  have B1 := Below.refl W1.heap.size W1
  obtain ⟨_, hl0, k0, k1, k2, k3, k4, k5⟩ := SK.out _ B1
  have K1 := fun vv ww (hh : RLay ww vv L) => few_any vv L ww hh
  cases hf : fewB L
  · rw [hf] at K1
    clear hf hs
    go_enter Tryd.func5, Tryd.ntmps5
    go_wp2_with fail
    rw [← hW]
    clear hW
    refine (K1 _ _ (VB.out _ B1)).mono ?_
    rintro e w2 ⟨rfl, bb⟩
    have B2 := B1.trans (bb.mono B1.size)
    go_wp2_with fail
    refine (alive_any _ (GB.out _ B2)).mono ?_
    rintro e w3 ⟨rfl, b3⟩
    go_wp2
    go_ret
    exact ⟨rfl, HB.trans ((B2.trans (b3.mono B2.size)).mono HB.size)⟩
  · have F := few_of hf hs
    have K2 := fun vv ww (hg : GW ww) (hh : RLay ww vv L) => check_any vv L ww hg hh F
    have K5 := fun vv (e : Int) ww (hg : GW ww) (hh : RLay ww vv L) => section_any vv L e ww hg hh F
    have K7 := fun vv (s : Int) ww (hg : GW ww) (hh : RLay ww vv L) => members_own vv L s ww hg hh F
    have K8 := fun vv ww (hg : GW ww) (hh : RLay ww vv L) => points_own vv L ww hg hh F
    have K9 := fun vv (s : L8) ww (hg : GW ww) (hh : RLay ww vv L) (hl : s.length ≤ 9223372036854775807) => element_any vv L s ww hg hh F hl
    rw [hf] at K1
    by_cases hc : checkS isName L = 0
    · have V := valid_check hc
      rw [hc] at K2
      replace V := Lib.hid V
      have hn2 : els.length ≤ 60 := by rw [← ee.out]; exact F.n2
      have hn1 : s1 ≤ 60 := by rw [← hs1]; exact F.n1
      replace hs1 := Lib.hid hs1
      replace hs := Lib.hid hs
      clear hf F hc
      have mk : ∀ ww : World, (Instr.makeSlice 42 (.int .i64 (els.length : Int)) (.int .i64 (els.length : Int))).run Tryd.prog ww = .ok (.slice (some ⟨ww.heap.size, 0, none⟩) els.length els.length) (ww.alloc (.cells (madeCells #[.int .i64 0] els.length) 3)) :=
        fun ww => run_make_row' (P := Tryd.prog) 42 3 (.int .i64 0) 8 Tryd.underlying42 info_int rfl .i64 .i64 els.length (by omega) (by omega) ww
      go_enter Tryd.func5, Tryd.ntmps5
      go_wp2_with fail
      rw [← hW]
      clear hW
      refine (K1 _ _ (VB.out _ B1)).mono ?_
      rintro e w2 ⟨rfl, bb⟩
      have B2 := B1.trans (bb.mono B1.size)
      clear bb k0 k1 k2 k3 k4 k5
      obtain ⟨_, hl2, k0, k1, k2, k3, k4, k5⟩ := SK.out _ B2
      go_wp2_with fail
      refine (K2 _ _ (GB.out _ B2) (VB.out _ B2)).mono ?_
      rintro e w3 ⟨rfl, bb⟩
      have B3 := B2.trans (bb.mono B2.size)
      clear bb k0 k1 k2 k3 k4 k5 K1 K2 B2 hl2
      obtain ⟨_, hl2, k0, k1, k2, k3, k4, k5⟩ := SK.out _ B3
      obtain ⟨W4, hW4⟩ : ∃ W4, W4 = w3.alloc (.cells (madeCells #[.int .i64 0] els.length) 3) := ⟨_, rfl⟩
      have B4 : Below W1.heap.size W1 W4 := by rw [hW4]; exact alloc_below B3 (Nat.le_refl _) _
      have PF : Blk W4 w3.heap.size (intsV (List.replicate els.length 0)).toArray := by rw [hW4, made_ints]; exact Blk.new _ _ _ _ rfl
      have hNF : W1.heap.size ≤ w3.heap.size := B3.size
      go_wp2
      rw [← hW4]
      clear hW4 mk k0 k1 k2 k3 k4 k5
      have sec_lt : ∀ y ∈ els, 0 ≤ y.sec ∧ y.sec < (s1 : Int) := by
        intro y hy
        have := V.out.el
        unfold elB at this
        rw [ee.out, hs1.out, List.all_eq_true] at this
        have := this y hy
        simp only [rightS, Bool.and_eq_true, decide_eq_true_eq] at this
        exact ⟨this.1.2.2.2.2.2.2.2.2.1, this.1.2.2.2.2.2.2.2.2.2⟩
      replace sec_lt := Lib.hid sec_lt
      have S0 : Hid (fcS els 0 [] (List.replicate els.length 0)) := Lib.hid (fc_start els 0 fun y hy => (sec_lt.out y hy).1)
      go_loopg [4, 29] s1 (fun g s4 s29 wx => ∃ (s : Nat) (fc : List Int), s + g = s1 ∧ s29 = .int .i64 s ∧ s4 = .int .i64 fc.sum ∧ Hid (fcS els (s : Int) [] fc) ∧ Hid (Blk wx w3.heap.size (intsV fc).toArray) ∧ Below W1.heap.size W1 wx)
      case atStart => exact ⟨0, _, by omega, rfl, by simp, S0, Lib.hid PF, B4⟩
      case round =>
        clear S0 PF B4 hl2 hl0
        obtain ⟨s, fc, hsg, rfl, rfl, HF, PF, BR⟩ := hrel
        obtain ⟨hw, hl0, k0, k1, k2, k3, k4, k5⟩ := SK.out _ BR
        cases gk with
        | zero =>
          have hz : ¬ ((s : Int) < (s1 : Int)) := by omega
          have hss : s = s1 := by omega
          obtain ⟨hsum, hone⟩ := fc_end HF.out (fun y hy => by rw [hss]; exact (sec_lt.out y hy).2)
          clear hss
          replace hsg := Lib.hid hsg
          replace hone := Lib.hid hone
          rw [hsum]
          clear hsum HF
          go_wp2_with fail
          refine (K8 _ _ (GB.out _ BR) (VB.out _ BR)).mono ?_
          rintro e w5 ⟨vp, rfl, OP, bb⟩
          obtain ⟨ap, cp, rfl⟩ := own_shape OP
          have B5 := BR.trans (bb.mono BR.size)
          have PF5 := PF.out.below bb
          have hNF5 : w3.heap.size < wr.heap.size := PF.out.lt
          rw [ee.out] at OP ⊢
          obtain ⟨pl, hpl⟩ : ∃ pl, pointF 0 els = pl := ⟨_, rfl⟩
          obtain ⟨m, hm⟩ : ∃ m, pl.length = m := ⟨_, rfl⟩
          rw [hpl] at OP ⊢
          rw [hm] at OP ⊢
          replace OP := Lib.hid OP
          replace hpl := Lib.hid hpl
          replace hm := Lib.hid hm
          obtain ⟨NB, hNB⟩ : ∃ N, wr.heap.size = N := ⟨_, rfl⟩
          rw [hNB] at OP hNF5
          obtain ⟨_, hl2, k0, k1, k2, k3, k4, k5⟩ := SK.out _ B5
          clear bb K8 K7 K5 BR hw hl0 hNB PF
          go_wp2
          clear k0 k1 k2 k3 k4 k5 hl2
          go_loopg [9, 72] els.length (fun g s9 s72 wx => ∃ i k : Nat, i + g = els.length ∧ s72 = .int .i64 i ∧ s9 = .int .i64 k ∧ Hid (k = (pointF 0 (els.take i)).length) ∧ Hid (Blk wx w3.heap.size (intsV fc).toArray) ∧ Hid (wx.ownsRow NB 3 1 (.slice ap m cp) m (intsV pl)) ∧ Below W1.heap.size W1 wx)
          case atStart => exact ⟨0, 0, by omega, rfl, rfl, Lib.hid (by simp [pointF]), Lib.hid PF5, OP, B5⟩
          case round =>
            clear OP B5 PF5
            obtain ⟨i, k, hi, rfl, rfl, hk, PF, OP, BR⟩ := hrel
            obtain ⟨hw, hl0, k0, k1, k2, k3, k4, k5⟩ := SK.out _ BR
            cases gk with
            | zero =>
              have hz2 : ¬ ((i : Int) < (els.length : Int)) := by omega
              have hkm : k = m := by
                have := hk.out
                rw [List.take_of_length_le (by omega), hpl.out, hm.out] at this
                exact this
              subst hkm
              replace hi := Lib.hid hi
              clear hk K9
              go_wp2_with fail
              refine (alive_any _ (GB.out _ BR)).mono ?_
              rintro e w9 ⟨rfl, b9⟩
              go_wp2
              go_ret
              exact ⟨rfl, hw.trans (b9.mono hw.size)⟩
            | succ g2 =>
              have hz2 : (i : Int) < (els.length : Int) := by omega
              obtain ⟨⟨xn, kd, ln, gr, sp, sl, sc⟩, hy, ht, hmem⟩ := at_take (l := els) (k := i) (by omega)
              obtain ⟨b, off, rfl, hlt, hcc⟩ := HE.out.rd hw hy
              have cc0 := hcc 0 _ rfl
              have cc1 := hcc 1 _ rfl
              have cc2 := hcc 2 _ rfl
              have cc3 := hcc 3 _ rfl
              have cc4 := hcc 4 _ rfl
              have cc5 := hcc 5 _ rfl
              have cc6 := hcc 6 _ rfl
              simp only [Nat.add_zero] at cc0 cc1 cc2 cc3 cc4 cc5 cc6
              have hxl : xn.length ≤ 9223372036854775807 := hs.out xn (by unfold allNames; simp only [List.mem_append, List.mem_map]; exact Or.inl (Or.inr ⟨_, by rw [ee.out]; exact hmem, rfl⟩))
              have hnm : nameF xn 0 els = (i : Int) := by
                have := V.out.dup
                unfold dupB at this
                rw [ee.out] at this
                simp only [Bool.and_eq_true, decide_eq_true_eq] at this
                have := nameF_at els 0 i _ this.2.1 hy
                simpa using this
              have hkd : (kd = 2 ∧ 0 < sl) ∨ (kd ≠ 2 ∧ sl = 0) := by
                have := V.out.el
                unfold elB at this
                rw [ee.out, List.all_eq_true] at this
                have := this _ hmem
                simp only [rightS, slowS, Bool.and_eq_true] at this
                have t := this.2
                split at t
                · simp only [Bool.and_eq_true, decide_eq_true_eq] at t
                  exact Or.inl ⟨by assumption, by omega⟩
                · simp only [beq_iff_eq] at t
                  exact Or.inr ⟨by assumption, t⟩
              have hpt := point_take els 0 i _ hy
              have hpp := point_split els 0 (i + 1)
              simp only [Nat.zero_add] at hpt hpp
              rw [hpl.out] at hpp
              have f1 := PF.out.at i (.int .i64 1) (by have := hone.out i (by omega); simp [intsV, this])
              have J9 := fun vv ww hg hh => K9 vv xn ww hg hh hxl
              rw [ee.out, hnm] at J9
              obtain ⟨xm, ex⟩ : ∃ s : ByteArray, (⟨xn.toArray⟩ : ByteArray) = s := ⟨_, rfl⟩
              have ex2 : str xn = .string xm := by rw [← ex]
              simp only [ex2] at cc0 J9
              obtain ⟨W2, hW2⟩ : ∃ W2, W2 = wr.alloc (.cells #[.string xm, .int .i64 kd, .int .i64 ln, .int .i64 gr, .int .i64 sp, .int .i64 sl, .int .i64 sc] 34) := ⟨_, rfl⟩
              have BA : Below W1.heap.size W1 W2 := by rw [hW2]; exact alloc_below BR (Nat.le_refl _) _
              have PE : Blk W2 wr.heap.size #[.string xm, .int .i64 kd, .int .i64 ln, .int .i64 gr, .int .i64 sp, .int .i64 sl, .int .i64 sc] := by rw [hW2]; exact Blk.new _ _ _ _ rfl
              have PA : Blk W2 w3.heap.size (intsV fc).toArray := by rw [hW2]; exact PF.out.old _
              have OA : W2.ownsRow NB 3 1 (.slice ap m cp) m (intsV pl) := by rw [hW2]; exact own_below OP.out (alloc_below (Below.refl _ _) (Nat.le_refl _) _)
              have f2 := PA.at i (.int .i64 1) (by have := hone.out i (by omega); simp [intsV, this])
              have i1 : decide ((els.length : Int) ≤ (i : Int)) = false := decide_eq_false (by omega)
              replace hi := Lib.hid hi
              replace hkd := Lib.hid hkd
              replace hpt := Lib.hid hpt
              replace hpp := Lib.hid hpp
              replace PA := Lib.hid PA
              replace OA := Lib.hid OA
              have f3 := PE.at 0 _ rfl
              obtain ⟨_, hl3, r0, r1, r2, r3, r4, r5⟩ := SK.out _ BA
              rw [hW2] at f2 f3 r0 r1 r2 r3 r4 r5
              clear hcc hy ht hmem ex ex2 hnm hxl K9 PF OP
              go_wp2_with fail
              rw [← hW2]
              clear hW2 f1 f2 f3 r0 r1 r2 r3 r4 r5 k0 k1 k2 k3 k4 k5 cc0 cc1 cc2 cc3 cc4 cc5 cc6 hl3
              refine (J9 _ _ (GB.out _ BA) (VB.out _ BA)).mono ?_
              rintro e w4 ⟨rfl, b4⟩
              have BB := BA.trans (b4.mono BA.size)
              have PE4 := PE.below b4
              have p5 := PE4.at 5 _ rfl
              have lt4 := PE4.lt
              have PA4 := Lib.hid (PA.out.below b4)
              have OA4 := Lib.hid (own_below OA.out b4)
              clear b4 BA PA OA PE PE4 J9
              obtain ⟨_, hl3, k0, k1, k2, k3, k4, k5⟩ := SK.out _ BB
              rcases hkd.out with ⟨rfl, hsl⟩ | ⟨hk2, rfl⟩
              · have hpt2 := hpt.out
                rw [if_pos rfl] at hpt2
                have hpp2 := hpp.out
                rw [hpt2] at hpp2
                have hat : pl[k]? = some (i : Int) := by rw [hpp2, hk.out]; simp
                have hkm : (k : Int) < (m : Int) := by have := (List.getElem?_eq_some_iff.1 hat).1; have := hm.out; omega
                have hk3 : k + 1 = (pointF 0 (els.take (i + 1))).length := by rw [hpt2, hk.out]; simp
                obtain ⟨bp, op, e1, hlp, cp1⟩ := own_rdm OA4.out hm.out hat
                subst e1
                have hm60 : m ≤ 60 := by have := point_len els 0; rw [hpl.out, hm.out] at this; omega
                replace hk3 := Lib.hid hk3
                clear hpt2 hpp2 hpt hpp hk hat hkd
                go_wp2
                go_roundg g2
                case measure => omega
                case rel => exact ⟨i + 1, k + 1, by have := hi.out; omega, by go_num, by go_num, hk3, PA4, OA4, BB⟩
              · have hpt2 := hpt.out
                rw [if_neg hk2] at hpt2
                have hk3 : k = (pointF 0 (els.take (i + 1))).length := by rw [hpt2, hk.out]; simp
                replace hk3 := Lib.hid hk3
                clear hpt2 hpt hpp hk hkd hk2
                go_wp2
                go_roundg g2
                case measure => omega
                case rel => exact ⟨i + 1, k, by have := hi.out; omega, by go_num, rfl, hk3, PA4, OA4, BB⟩
        | succ g =>
          have hz : (s : Int) < (s1 : Int) := by omega
          have J7 := K7 _ (s : Int) _ (GB.out _ BR) (VB.out _ BR)
          obtain ⟨ml, hml⟩ : ∃ ml, membersS L (s : Int) = ml := ⟨_, rfl⟩
          have hne : ml ≠ [] := by
            rw [← hml]
            have := V.out.sec
            unfold secB at this
            rw [List.all_eq_true] at this
            have := this s (List.mem_range.2 (by rw [hs1.out]; omega))
            exact of_decide_eq_true this
          rw [hml] at J7
          have hmm : ∀ (j : Nat) x, ml[j]? = some x → ∃ (i : Nat) (y : ElD), x = i ∧ els[i]? = some y ∧ y.sec = s ∧ (i : Int) ∉ ml.take j := by
            intro j x hx
            rw [← hml] at hx
            obtain ⟨i, y, h1, h2, h3⟩ := members_mem (List.mem_of_getElem? hx)
            rw [ee.out] at h2
            refine ⟨i, y, h1, h2, h3, ?_⟩
            rw [← hml, ← h1]
            exact members_new hx
          have hnx : ∀ fc, fcS els (s : Int) ml fc → fcS els ((s + 1 : Nat) : Int) [] fc := by
            intro fc h
            rw [← hml, ← ee.out] at h
            have := fc_next ⟨by omega, by rw [hs1.out]; omega⟩ h
            rw [ee.out] at this
            exact this
          obtain ⟨m, hm⟩ : ∃ m, ml.length = m := ⟨_, rfl⟩
          have hm0 : 0 < m := by rw [← hm]; exact List.length_pos_iff.2 hne
          have hmle : m ≤ 60 := by
            rw [← hm, ← hml]
            unfold membersS
            split
            · rw [ee.out]
              have : ∀ (xs : List ElD) (i : Nat), (memG (s : Int) i xs).length ≤ xs.length := by
                intro xs
                induction xs with
                | nil => intro i; simp [memG]
                | cons x xs ih =>
                  intro i
                  unfold memG
                  have := ih (i + 1)
                  split <;> simp only [List.length_cons] <;> omega
              exact Nat.le_trans (this els 0) hn2
            · simp
          have t0 : ((m : Int) == 0) = false := by simp; omega
          have t1 : (m == 0) = false := by simp; omega
          replace hmm := Lib.hid hmm
          replace hnx := Lib.hid hnx
          replace hsg := Lib.hid hsg
          replace hm := Lib.hid hm
          clear hml hne
          go_wp2_with fail
          refine J7.mono ?_
          rintro e w5 ⟨vm, rfl, OM, bb⟩
          obtain ⟨am, cm, rfl⟩ := own_shape OM
          have B5 := BR.trans (bb.mono BR.size)
          have PF5 := PF.out.below bb
          have hNF5 : w3.heap.size < wr.heap.size := PF.out.lt
          rw [hm.out] at OM ⊢
          replace OM := Lib.hid OM
          obtain ⟨NB, hNB⟩ : ∃ N, wr.heap.size = N := ⟨_, rfl⟩
          rw [hNB] at OM hNF5
          clear bb k0 k1 k2 k3 k4 k5 J7 BR hw hl0 hNB PF
          go_wp2
          go_loopg [4, 37] m (fun g s4 s37 wx => ∃ (j : Nat) (fc : List Int), j + g = m ∧ s37 = .int .i64 j ∧ s4 = .int .i64 fc.sum ∧ Hid (fcS els (s : Int) (ml.take j) fc) ∧ Hid (Blk wx w3.heap.size (intsV fc).toArray) ∧ Hid (wx.ownsRow NB 3 1 (.slice am m cm) m (intsV ml)) ∧ Below W1.heap.size W1 wx)
          case atStart => exact ⟨0, fc, by omega, rfl, rfl, HF, Lib.hid PF5, OM, B5⟩
          case round =>
            clear HF PF5 OM B5
            obtain ⟨j, fc, hj, rfl, rfl, HF, PF, OM, BR⟩ := hrel
            obtain ⟨hw, hl0, k0, k1, k2, k3, k4, k5⟩ := SK.out _ BR
            cases gk with
            | zero =>
              have hz2 : ¬ ((j : Int) < (m : Int)) := by omega
              have HN := Lib.hid (hnx.out fc (by have := HF.out; rwa [List.take_of_length_le (by have := hm.out; omega)] at this))
              replace hj := Lib.hid hj
              clear HF
              go_wp2
              go_roundg g
              case measure => omega
              case rel => exact ⟨s + 1, fc, by have := hsg.out; omega, by go_num, rfl, HN, PF, BR⟩
            | succ g2 =>
              have hz2 : (j : Int) < (m : Int) := by omega
              obtain ⟨x, hx, htx, _⟩ := at_take (l := ml) (k := j) (by have := hm.out; omega)
              obtain ⟨i, y, rfl, hy, hys, hni⟩ := hmm.out j x hx
              obtain ⟨bm, om, e1, hlm, cm1⟩ := own_rdm OM.out hm.out hx
              subst e1
              have hil : i < els.length := (List.getElem?_eq_some_iff.1 hy).1
              have hsc : sectionS L (i : Int) = s := by
                unfold sectionS
                rw [ee.out, if_neg (by omega), elAt_at hy, hys]
              have J5 := K5 _ (i : Int) _ (GB.out _ BR) (VB.out _ BR)
              rw [hsc] at J5
              obtain ⟨f0, HN⟩ := fc_step HF.out hy hys hni
              rw [← htx] at HN
              have hsum := sum_set fc i f0
              have hbd := fc_bound HF.out
              have hbd1 : -10 ≤ fc.sum ∧ fc.sum ≤ 100 := by omega
              replace HN := Lib.hid HN
              replace hsum := Lib.hid hsum
              have i0 : decide ((i : Int) < 0) = false := decide_eq_false (by omega)
              have i1 : decide ((els.length : Int) ≤ (i : Int)) = false := decide_eq_false (by omega)
              have i2 : (i : Int) < (els.length : Int) := by omega
              replace hj := Lib.hid hj
              clear hx htx hy hys hni hsc hbd HF
              go_wp2_with fail
              refine J5.mono ?_
              rintro e w6 ⟨rfl, bb⟩
              have B6 := BR.trans (bb.mono BR.size)
              have PF6 := PF.out.below bb
              have O6 := own_below OM.out bb
              have c0 := PF6.at i (.int .i64 0) (by simp [intsV, f0])
              have c1 := PF6.free i
              replace PF6 := Lib.hid PF6
              replace O6 := Lib.hid O6
              clear bb J5 PF OM k0 k1 k2 k3 k4 k5 cm1 f0
              go_wp2
              go_roundg g2
              case measure => omega
              case rel => exact ⟨j + 1, fc.set i 1, by have := hj.out; omega, by go_num, by rw [hsum.out], HN, Lib.hid (by rw [← intsV_set]; exact PF6.out.set i _), Lib.hid (own_set O6.out _ hNF5 _ _), B6.setCell hNF _⟩
    · obtain ⟨q, hq⟩ : ∃ q, checkS isName L = q := ⟨_, rfl⟩
      rw [hq] at hc K2
      have tq : (q == 0) = false := by simpa using hc
      clear hf hs F hc hq K5 K7 K8 K9
      go_enter Tryd.func5, Tryd.ntmps5
      go_wp2_with fail
      rw [← hW]
      clear hW
      refine (K1 _ _ (VB.out _ B1)).mono ?_
      rintro e w2 ⟨rfl, bb⟩
      have B2 := B1.trans (bb.mono B1.size)
      clear bb k0 k1 k2 k3 k4 k5
      obtain ⟨_, hl2, k0, k1, k2, k3, k4, k5⟩ := SK.out _ B2
      go_wp2_with fail
      refine (K2 _ _ (GB.out _ B2) (VB.out _ B2)).mono ?_
      rintro e w3 ⟨rfl, bb⟩
      have B3 := B2.trans (bb.mono B2.size)
      go_wp2_with fail
      refine (alive_any _ (GB.out _ B3)).mono ?_
      rintro e w4 ⟨rfl, b4⟩
      go_wp2
      go_ret
      exact ⟨rfl, HB.trans ((B3.trans (b4.mono B3.size)).mono HB.size)⟩
end Go.Proofs.YthoodaldmfojaaaDoor
