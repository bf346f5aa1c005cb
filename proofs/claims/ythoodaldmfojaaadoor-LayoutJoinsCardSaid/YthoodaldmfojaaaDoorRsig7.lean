/- Contract of the reference's signals: the conditions 8 to 10. Conditions: the layout can be read; at most 60 elements, signals, 100 joints; the joints' ends exist. -/
import Derived.Test.YthoodaldmfojaaaDoorRel7
namespace Go.Proofs.YthoodaldmfojaaaDoor
open Go.ChangeShapes Go.WideShapes Go.ChangeAt Go.RowKit
def signalsS (L : LayD) : Int := if sgB L = false then 1 else if sdB L = false then 8 else if suB L = false then 14 else 0
def sgP (els : List ElD) (s : SigD) : Bool := exS els s.at_ && (decide (0 ≤ s.overlap) && decide (s.overlap ≤ 1000000))
theorem sgB_eq (L : LayD) : sgB L = L.sigs.all (sgP L.els) := rfl
theorem suB_eq (L : LayD) : suB L = (L.sigs.map SigD.at_).all (unsB L.els L.joints) := by unfold suB; rw [List.all_map]; rfl
theorem jn_ex {L : LayD} (V : jnB L = true) {e f : EndD} (h : joinF e L.joints = some f) : exS L.els f = true := by
  have hm := (join_mem h).2
  unfold jnB at V
  rw [List.all_eq_true] at V
  unfold endsJ at hm
  obtain ⟨j, hjm, he⟩ := List.mem_flatMap.1 hm
  have := V j hjm
  simp only [Bool.and_eq_true] at this
  simp only [List.mem_cons, List.mem_nil_iff, or_false] at he
  rcases he with rfl | rfl
  · exact this.1
  · exact this.2.1
theorem ex_at {els : List ElD} {e : EndD} (h : exS els e = true) : ∃ (k : Nat) (y : ElD), e.1 = k ∧ els[k]? = some y := by
  simp only [exS, Bool.and_eq_true, decide_eq_true_eq] at h
  obtain ⟨h1, h2, _⟩ := h
  refine ⟨e.1.toNat, els[e.1.toNat]'(by omega), by omega, List.getElem?_eq_getElem (by omega)⟩
theorem elAt_at {els : List ElD} {k : Nat} {y : ElD} {f : ElD → Int} (h : els[k]? = some y) : elAt els (k : Int) f = f y := by simp [elAt, h]
set_option maxRecDepth 100000 in
set_option maxHeartbeats 8000000 in
theorem rsignals_any (v : Value) (L : LayD) (w : World) (hv : RLay w v L) (n2 : L.els.length ≤ 60) (n4 : L.sigs.length ≤ 60) (hjn : jnB L = true) : Calls Tryd.prog 32 #[v] w (RetV w (.int .i64 (signalsS L))) := by
  have _n2 := n2
  obtain ⟨q, hq⟩ : ∃ q, signalsS L = q := ⟨_, rfl⟩
  rw [hq]
  replace hq := Lib.hid hq
  replace hjn := Lib.hid hjn
  have HV := Lib.hid hv
  obtain ⟨v1, v2, v3, v4, v5, rfl, h1, h2, h3, h4, h5⟩ := hv
  obtain ⟨a1, c1, rfl, _, _⟩ := h1.openS
  obtain ⟨a2, c2, rfl, ⟨m2, _⟩, HE⟩ := h2.openM
  obtain ⟨a3, c3, rfl, _, _⟩ := h3.openM
  obtain ⟨a4, c4, rfl, ⟨m4, _⟩, HS⟩ := h4.openM
  obtain ⟨a5, c5, rfl, _, _⟩ := h5.openM
  clear h1 h2 h3 h4 h5
  obtain ⟨nb, en⟩ : ∃ s : ByteArray, (⟨L.name.toArray⟩ : ByteArray) = s := ⟨_, rfl⟩
  have en2 : str L.name = .string nb := by rw [← en]
  rw [en2] at HV ⊢
  clear en en2
  obtain ⟨s1, e1⟩ : ∃ n, L.secs.length = n := ⟨_, rfl⟩
  obtain ⟨s3, e3⟩ : ∃ n, L.joints.length = n := ⟨_, rfl⟩
  obtain ⟨s5, e5⟩ : ∃ n, L.bals.length = n := ⟨_, rfl⟩
  obtain ⟨els, ee⟩ : ∃ n, L.els = n := ⟨_, rfl⟩
  obtain ⟨sigs, ej⟩ : ∃ n, L.sigs = n := ⟨_, rfl⟩
  rw [ee] at n2 m2 HE
  rw [ej] at n4 m4 HS
  rw [e1, ee, ej, e3, e5] at HV ⊢
  replace ee := Lib.hid ee
  replace ej := Lib.hid ej
  clear e1 e3 e5
  obtain ⟨LV, hLV⟩ : ∃ LV : Array Value, LV = #[.string nb, .slice a1 s1 c1, .slice a2 els.length c2, .slice a3 s3 c3, .slice a4 sigs.length c4, .slice a5 s5 c5] := ⟨_, rfl⟩
  obtain ⟨W1, hW⟩ : ∃ W1, W1 = w.alloc (.cells LV 28) := ⟨_, rfl⟩
  have HB : Below w.heap.size w W1 := by rw [hW]; exact (Below.refl _ _).alloc (Nat.le_refl _) _
  have G1 : Blk W1 w.heap.size LV := by rw [hW]; exact Blk.new _ _ _ _ rfl
  rw [hLV] at G1
  have SK : ∀ W, Below W1.heap.size W1 W → Below w.heap.size w W ∧ w.heap.size < W.heap.size ∧ W.cell? ⟨w.heap.size, 0, none⟩ = some (.string nb) ∧ W.cell? ⟨w.heap.size, 1, none⟩ = some (.slice a1 s1 c1) ∧ W.cell? ⟨w.heap.size, 2, none⟩ = some (.slice a2 els.length c2) ∧
      W.cell? ⟨w.heap.size, 3, none⟩ = some (.slice a3 s3 c3) ∧ W.cell? ⟨w.heap.size, 4, none⟩ = some (.slice a4 sigs.length c4) ∧ W.cell? ⟨w.heap.size, 5, none⟩ = some (.slice a5 s5 c5) := by
    intro W h
    have b := G1.below h
    exact ⟨HB.trans (h.mono HB.size), b.lt, b.at 0 _ rfl, b.at 1 _ rfl, b.at 2 _ rfl, b.at 3 _ rfl, b.at 4 _ rfl, b.at 5 _ rfl⟩
  have HV2 : ∀ W, Below w.heap.size w W → RLay W (.agg #[.string nb, .slice a1 s1 c1, .slice a2 els.length c2, .slice a3 s3 c3, .slice a4 sigs.length c4, .slice a5 s5 c5]) L := fun W h => HV.out.below h
  replace HV2 := Lib.hid HV2
  replace SK := Lib.hid SK
  clear HV G1
  go_enter Tryd.func32, Tryd.ntmps32
  go_wp2
  rw [← hLV, ← hW]
  clear hW hLV
  go_loopg [3, 13] sigs.length (fun g s3 s13 wx => ∃ (k : Nat) (acc : List EndD), k + g = sigs.length ∧ s13 = .int .i64 k ∧ acc.length = k ∧ Hid (acc = (sigs.take k).map SigD.at_) ∧ Hid ((sigs.take k).all (sgP els) = true) ∧
    wx.ownsRow W1.heap.size 37 2 s3 acc.length (enF acc) ∧ Below W1.heap.size W1 wx)
  case atStart => exact ⟨0, [], by omega, rfl, rfl, Lib.hid rfl, Lib.hid (by simp), World.ownsRow_nil _ _ _ _, Below.refl _ _⟩
  case round =>
    obtain ⟨k, acc, hk, rfl, hal, HA, HX, ho, hbw⟩ := hrel
    obtain ⟨hw, hl0, k0, k1, k2, k3, k4, k5⟩ := SK.out _ hbw
    cases gk with
    | zero =>
      have hz : ¬ ((k : Int) < (sigs.length : Int)) := by omega
      have hX : sigs.all (sgP els) = true := all_full (by omega) HX.out
      have hA : sgB L = true := by rw [sgB_eq, ej.out, ee.out]; exact hX
      have hac : acc = sigs.map SigD.at_ := by rw [HA.out, List.take_of_length_le (by omega)]
      have hq2 := hq.out
      unfold signalsS at hq2
      rw [if_neg (by simp [hA])] at hq2
      unfold sdB at hq2
      rw [suB_eq, ej.out, ← hac] at hq2
      have hex : ∀ e ∈ acc, exS els e = true := by
        intro e he
        rw [hac] at he
        obtain ⟨s, hs, rfl⟩ := List.mem_map.1 he
        rw [List.all_eq_true] at hX
        have := hX s hs
        simp only [sgP, Bool.and_eq_true] at this
        exact this.1
      have RA := RM.own ho
      have K := rends_any _ acc wr RA
      obtain ⟨a6, c6, e6, _, HC⟩ := RA.openM
      subst e6
      have hex := Lib.hid hex
      have hal2 : acc.length ≤ 60 := by omega
      clear hA hq HX HA hac hX RA ho
      replace hk := Lib.hid hk
      replace hal := Lib.hid hal
      cases D : decide acc.Nodup
      · rw [D] at K hq2
        have hq5 : 8 = q := by simpa using hq2
        subst hq5
        go_wp2_with (go_at_call 77; refine K.mono ?_; rintro e ww ⟨rfl, bb⟩)
        go_ret
        exact ⟨rfl, hw.trans (bb.mono hw.size)⟩
      · rw [D] at K hq2
        rw [if_neg (by simp), ee.out] at hq2
        replace hq2 := Lib.hid hq2
        go_wp2_with (go_at_call 77; refine K.mono ?_; rintro e w2 ⟨rfl, bb⟩; have b2 := hbw.trans (bb.mono hbw.size); clear k0 k1 k2 k3 k4 k5)
        replace HC := Lib.hid (HC.out.below bb)
        clear hbw hw hl0 bb
        go_loopg [42] acc.length (fun g s42 wx => ∃ k : Nat, k + g = acc.length ∧ s42 = .int .i64 k ∧ Hid ((acc.take k).all (unsB els L.joints) = true) ∧ Below w2.heap.size w2 wx)
        case atStart => exact ⟨0, by omega, rfl, Lib.hid (by simp), Below.refl _ _⟩
        case round =>
          clear hk hal
          obtain ⟨k, hk, rfl, HU, hb2⟩ := hrel
          have hbw := b2.trans (hb2.mono b2.size)
          obtain ⟨hw, hl0, k0, k1, k2, k3, k4, k5⟩ := SK.out _ hbw
          cases gk with
          | zero =>
            have hz : ¬ ((k : Int) < (acc.length : Int)) := by omega
            have hU : acc.all (unsB els L.joints) = true := all_full (by omega) HU.out
            have hq5 : 0 = q := by rw [← hq2.out, if_neg (by simp [hU])]
            subst hq5
            replace hk := Lib.hid hk
            clear hU HU hq2
            go_wp2
            go_ret
            exact ⟨rfl, hw⟩
          | succ g =>
            have hz : (k : Int) < (acc.length : Int) := by omega
            obtain ⟨⟨e1, e2⟩, hy, ht, hmem⟩ := at_take (l := acc) (k := k) (by omega)
            obtain ⟨b, off, rfl, hlt, hc⟩ := HC.out.rd hb2 hy
            have cc0 := hc 0 _ rfl
            have cc1 := hc 1 _ rfl
            simp only [Nat.add_zero] at cc0 cc1
            obtain ⟨ke, ye, hke, hye⟩ := ex_at (hex.out _ hmem)
            simp only at hke
            subst hke
            have K := fun o => rjoined_any _ L (ke : Int) e2 (wr.alloc o) (HV2.out _ (alloc_below hw (Nat.le_refl _) o))
            have HT : unsB els L.joints ((ke : Int), e2) = match joinF ((ke : Int), e2) L.joints with | some f => !(elAt els f.1 ElD.sec == elAt els (ke : Int) ElD.sec) | none => false := rfl
            have hq4 : unsB els L.joints ((ke : Int), e2) = false → 14 = q := fun h => by rw [← hq2.out, if_pos]; exact all_miss hmem h
            have HF : ∀ f, joinF ((ke : Int), e2) L.joints = some f → ∃ (kf : Nat) (yf : ElD), f.1 = kf ∧ els[kf]? = some yf := fun f hf => by
              have := jn_ex hjn.out hf
              rw [ee.out] at this
              exact ex_at this
            obtain ⟨jf, hjf⟩ : ∃ jf, joinF ((ke : Int), e2) L.joints = jf := ⟨_, rfl⟩
            rw [hjf] at K HT HF
            unfold RetJ at K
            replace hk := Lib.hid hk
            replace ht := Lib.hid ht
            clear hc hy hjf hmem
            cases jf with
            | none =>
              have hq5 := hq4 HT
              subst hq5
              clear HF HT hq4
              simp only [joinO] at K
              go_wp2_with fail
              refine (K _).mono ?_
              rintro e w7 ⟨rfl, bb⟩
              have BJ := (Blk.new wr _ _ _ rfl).below bb
              have h7 := below1 hw hw.size bb
              have b7 := below1 hbw hbw.size bb
              have b72 := below1 hb2 hb2.size bb
              obtain ⟨_, hl7, f0, f1', f2', f3, f4, f5⟩ := SK.out _ b7
              have d0 := BJ.at 0 _ rfl
              have d1 := BJ.at 1 _ rfl
              have hlj := BJ.lt
              clear K k0 k1 k2 k3 k4 k5 cc0 cc1 bb BJ
              go_wp2
              go_quiet (fail)
              go_wp2
              go_ret
              exact ⟨rfl, bdrew (alloc_below h7 (Nat.le_refl _) _) _⟩
            | some f =>
              obtain ⟨f1, f2⟩ := f
              obtain ⟨kf, yf, hkf, hyf⟩ := HF _ rfl
              simp only at hkf
              subst hkf
              simp only at HT
              rw [elAt_at hyf, elAt_at hye] at HT
              have hkf1 : kf < els.length := (List.getElem?_eq_some_iff.1 hyf).1
              have hke1 : ke < els.length := (List.getElem?_eq_some_iff.1 hye).1
              have hkf2 : (kf : Int) < (els.length : Int) := by omega
              have hke2 : (ke : Int) < (els.length : Int) := by omega
              obtain ⟨sf, hsf⟩ : ∃ s, yf.sec = s := ⟨_, rfl⟩
              obtain ⟨se, hse⟩ : ∃ s, ye.sec = s := ⟨_, rfl⟩
              rw [hsf, hse] at HT
              cases E : (sf == se)
              · have HN := Lib.hid (all_next ht.out HU.out (HT.trans (by rw [E]; rfl)))
                clear HF HT hq4 HU
                simp only [joinO] at K
                go_wp2_with fail
                refine (K _).mono ?_
                rintro e w7 ⟨rfl, bb⟩
                have BJ := (Blk.new wr _ _ _ rfl).below bb
                have h7 := below1 hw hw.size bb
                have b7 := below1 hbw hbw.size bb
                have b72 := below1 hb2 hb2.size bb
                obtain ⟨_, hl7, f0, f1', f2', f3, f4, f5⟩ := SK.out _ b7
                have d0 := BJ.at 0 _ rfl
                have d1 := BJ.at 1 _ rfl
                have hlj := BJ.lt
                clear K k0 k1 k2 k3 k4 k5 cc0 cc1 bb BJ
                obtain ⟨b, off, rfl, hltb, cf⟩ := HE.out.rd h7 hyf
                obtain ⟨b', off', e2', _, ce⟩ := HE.out.rd h7 hye
                obtain ⟨rfl, rfl⟩ : b = b' ∧ off = off' := by simpa using e2'
                have cf6 := cf 6 _ rfl
                have ce6 := ce 6 _ rfl
                
                clear cf ce e2'
                rw [hsf] at cf6
                rw [hse] at ce6
                clear hsf hse hyf hye
                go_wp2
                go_quiet (fail)
                go_wp2
                go_roundg g
                case measure => omega
                case rel => exact ⟨k + 1, by have := hk.out; omega, by go_num, HN, bdrew (alloc_below b72 (Nat.le_refl _) _) _⟩
              · have hq5 := hq4 (HT.trans (by rw [E]; rfl))
                subst hq5
                clear HF HT hq4 HU
                simp only [joinO] at K
                go_wp2_with fail
                refine (K _).mono ?_
                rintro e w7 ⟨rfl, bb⟩
                have BJ := (Blk.new wr _ _ _ rfl).below bb
                have h7 := below1 hw hw.size bb
                have b7 := below1 hbw hbw.size bb
                have b72 := below1 hb2 hb2.size bb
                obtain ⟨_, hl7, f0, f1', f2', f3, f4, f5⟩ := SK.out _ b7
                have d0 := BJ.at 0 _ rfl
                have d1 := BJ.at 1 _ rfl
                have hlj := BJ.lt
                clear K k0 k1 k2 k3 k4 k5 cc0 cc1 bb BJ
                obtain ⟨b, off, rfl, hltb, cf⟩ := HE.out.rd h7 hyf
                obtain ⟨b', off', e2', _, ce⟩ := HE.out.rd h7 hye
                obtain ⟨rfl, rfl⟩ : b = b' ∧ off = off' := by simpa using e2'
                have cf6 := cf 6 _ rfl
                have ce6 := ce 6 _ rfl
                
                clear cf ce e2'
                rw [hsf] at cf6
                rw [hse] at ce6
                clear hsf hse hyf hye
                go_wp2
                go_quiet (fail)
                go_wp2
                go_ret
                exact ⟨rfl, bdrew (alloc_below h7 (Nat.le_refl _) _) _⟩
    | succ g =>
      have hz : (k : Int) < (sigs.length : Int) := by omega
      obtain ⟨⟨xn, ⟨e1, e2⟩, ov⟩, hy, ht, hmem⟩ := at_take (l := sigs) (k := k) (by omega)
      obtain ⟨b, off, rfl, hlt, hc⟩ := HS.out.rd hw hy
      have cc0 := hc 0 _ rfl
      have cc1 := hc 1 _ rfl
      have cc2 := hc 2 _ rfl
      have cc3 := hc 3 _ rfl
      simp only [Nat.add_zero] at cc0 cc1 cc2 cc3
      obtain ⟨xm, ex⟩ : ∃ s : ByteArray, (⟨xn.toArray⟩ : ByteArray) = s := ⟨_, rfl⟩
      have ex2 : str xn = .string xm := by rw [← ex]
      simp only [ex2] at cc0
      have KA := fun ww (hh : Below w.heap.size w ww) => rexists_any _ L e1 e2 ww (HV2.out _ hh)
      rw [ee.out] at KA
      have HT : sgP els ⟨xn, (e1, e2), ov⟩ = (exS els (e1, e2) && (decide (0 ≤ ov) && decide (ov ≤ 1000000))) := rfl
      obtain ⟨okA, hA⟩ : ∃ ok, exS els (e1, e2) = ok := ⟨_, rfl⟩
      rw [hA] at KA HT
      replace hk := Lib.hid hk
      replace ht := Lib.hid ht
      replace hmem := Lib.hid hmem
      have hq4 : sgP els ⟨xn, (e1, e2), ov⟩ = false → 1 = q := fun h => by
        rw [← hq.out]; unfold signalsS; rw [if_pos]; rw [sgB_eq, ej.out, ee.out]; exact all_miss hmem.out h
      clear hc hy hA ex ex2
      cases okA
      · have hq5 := hq4 (by rw [HT]; rfl)
        subst hq5
        go_wp2_with fail
        refine (KA _ (alloc_below hw (Nat.le_refl _) _)).mono ?_
        rintro e w7 ⟨rfl, bb⟩
        have BJ := (Blk.new wr _ _ _ rfl).below bb
        have h7 := below1 hw hw.size bb
        have b7 := below1 hbw hbw.size bb
        have d1 := BJ.at 1 _ rfl
        have d2 := BJ.at 2 _ rfl
        have d3 := BJ.at 3 _ rfl
        have o7 := own_below (ho.alloc _) bb
        clear KA k0 k1 k2 k3 k4 k5 cc0 cc1 cc2 cc3 bb ho BJ
        go_wp2
        go_ret
        exact ⟨rfl, h7⟩
      · by_cases t1 : ov < 0
        · have hq5 := hq4 (by rw [HT, decide_eq_false (by omega)]; rfl)
          subst hq5
          have u1 : decide (ov < 0) = true := by simp; omega
          clear t1
          go_wp2_with fail
          refine (KA _ (alloc_below hw (Nat.le_refl _) _)).mono ?_
          rintro e w7 ⟨rfl, bb⟩
          have BJ := (Blk.new wr _ _ _ rfl).below bb
          have h7 := below1 hw hw.size bb
          have b7 := below1 hbw hbw.size bb
          have d1 := BJ.at 1 _ rfl
          have d2 := BJ.at 2 _ rfl
          have d3 := BJ.at 3 _ rfl
          have o7 := own_below (ho.alloc _) bb
          clear KA k0 k1 k2 k3 k4 k5 cc0 cc1 cc2 cc3 bb ho BJ
          go_wp2
          go_ret
          exact ⟨rfl, h7⟩
        · by_cases t2 : 1000000 < ov
          · have hq5 := hq4 (by rw [HT, decide_eq_false (p := ov ≤ 1000000) (by omega)]; simp)
            subst hq5
            have u1 : decide (ov < 0) = false := by simp; omega
            have u2 : decide (1000000 < ov) = true := by simp; omega
            clear t1 t2
            go_wp2_with fail
            refine (KA _ (alloc_below hw (Nat.le_refl _) _)).mono ?_
            rintro e w7 ⟨rfl, bb⟩
            have BJ := (Blk.new wr _ _ _ rfl).below bb
            have h7 := below1 hw hw.size bb
            have b7 := below1 hbw hbw.size bb
            have d1 := BJ.at 1 _ rfl
            have d2 := BJ.at 2 _ rfl
            have d3 := BJ.at 3 _ rfl
            have o7 := own_below (ho.alloc _) bb
            clear KA k0 k1 k2 k3 k4 k5 cc0 cc1 cc2 cc3 bb ho BJ
            go_wp2
            go_ret
            exact ⟨rfl, h7⟩
          · have HN := Lib.hid (all_next ht.out HX.out (HT.trans (by rw [decide_eq_true (p := 0 ≤ ov) (by omega), decide_eq_true (p := ov ≤ 1000000) (by omega)]; rfl)))
            have HA2 : Hid (acc ++ [(e1, e2)] = (sigs.take (k + 1)).map SigD.at_) := Lib.hid (by rw [HA.out, ht.out]; simp)
            have hal2 : acc.length ≤ 60 := by have := hk.out; omega
            have u1 : decide (ov < 0) = false := by simp; omega
            have u2 : decide (1000000 < ov) = false := by simp; omega
            replace hal := Lib.hid hal
            clear HT hq4 HX HA t1 t2
            go_wp2_with fail
            refine (KA _ (alloc_below hw (Nat.le_refl _) _)).mono ?_
            rintro e w7 ⟨rfl, bb⟩
            have BJ := (Blk.new wr _ _ _ rfl).below bb
            have h7 := below1 hw hw.size bb
            have b7 := below1 hbw hbw.size bb
            have d1 := BJ.at 1 _ rfl
            have d2 := BJ.at 2 _ rfl
            have d3 := BJ.at 3 _ rfl
            have o7 := own_below (ho.alloc _) bb
            clear KA k0 k1 k2 k3 k4 k5 cc0 cc1 cc2 cc3 bb ho BJ
            have sz7 := b7.size
            go_wp2_with (at_builtin
                         refine wpList_pushN _ rfl _ _ 88 rfl W1.heap.size 37 (.agg #[.int .i64 0, .int .i64 0]) 2 16 Tryd.underlying88 info_end rfl (by omega) u3 acc.length _ rfl o7 w7.heap.size rfl 1 [.int .i64 e1, .int .i64 e2] rfl rfl (by simp [Value.oneCell']) (by omega) (by omega) sz7 ?_
                         intro v3 w9 p3 gr3 nb3
                         have hb9 := below_grown b7 gr3 o7 (Nat.le_refl _) sz7
                         replace p3 := Lib.hid p3
                         clear nb3 gr3)
            go_roundg g
            case measure => omega
            case rel => exact ⟨k + 1, acc ++ [(e1, e2)], by have := hk.out; omega, by go_num, by have := hal.out; simp; omega, HA2, HN, by rw [enF_snoc, List.length_append]; exact p3.out, hb9⟩
end Go.Proofs.YthoodaldmfojaaaDoor
