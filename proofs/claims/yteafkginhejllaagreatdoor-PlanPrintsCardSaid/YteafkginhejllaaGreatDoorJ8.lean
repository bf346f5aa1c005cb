/- Texts of the layers 5 to 7, merged. -/
import Derived.Test.YteafkginhejllaaGreatDoorI8
namespace Go.Proofs.YteafkginhejllaaGreatDoor
section
open Go.ChangeShapes Go.WideShapes Go.ChangeAt Go.RowKit
def balisesS (L : LayD) : Int := if blB L = false then 1 else if bdB L = false then 8 else 0
set_option maxRecDepth 100000 in
set_option maxHeartbeats 8000000 in
theorem rbalises_any (v : Value) (L : LayD) (w : World) (hv : RLay w v L) (n2 : L.els.length ≤ 60) (n5 : L.bals.length ≤ 60) : Calls Tryz.prog 53 #[v] w (RetV w (.int .i64 (balisesS L))) := by
  have _n2 := n2
  obtain ⟨q, hq⟩ : ∃ q, balisesS L = q := ⟨_, rfl⟩
  rw [hq]
  replace hq := Lib.hid hq
  have HV := Lib.hid hv
  obtain ⟨v1, v2, v3, v4, v5, rfl, h1, h2, h3, h4, h5⟩ := hv
  obtain ⟨a1, c1, rfl, _, _⟩ := h1.openS
  obtain ⟨a2, c2, rfl, ⟨m2, _⟩, HE⟩ := h2.openM
  obtain ⟨a3, c3, rfl, _, _⟩ := h3.openM
  obtain ⟨a4, c4, rfl, _, _⟩ := h4.openM
  obtain ⟨a5, c5, rfl, ⟨m5, _⟩, HS⟩ := h5.openM
  clear h1 h2 h3 h4 h5
  obtain ⟨nb, en⟩ : ∃ s : ByteArray, (⟨L.name.toArray⟩ : ByteArray) = s := ⟨_, rfl⟩
  have en2 : str L.name = .string nb := by rw [← en]
  rw [en2] at HV ⊢
  clear en en2
  obtain ⟨s1, e1⟩ : ∃ n, L.secs.length = n := ⟨_, rfl⟩
  obtain ⟨s3, e3⟩ : ∃ n, L.joints.length = n := ⟨_, rfl⟩
  obtain ⟨s4, e4⟩ : ∃ n, L.sigs.length = n := ⟨_, rfl⟩
  obtain ⟨els, ee⟩ : ∃ n, L.els = n := ⟨_, rfl⟩
  obtain ⟨bals, ej⟩ : ∃ n, L.bals = n := ⟨_, rfl⟩
  rw [ee] at n2 m2 HE
  rw [ej] at n5 m5 HS
  rw [e1, ee, ej, e3, e4] at HV ⊢
  replace ee := Lib.hid ee
  replace ej := Lib.hid ej
  clear e1 e3 e4
  obtain ⟨LV, hLV⟩ : ∃ LV : Array Value, LV = #[.string nb, .slice a1 s1 c1, .slice a2 els.length c2, .slice a3 s3 c3, .slice a4 s4 c4, .slice a5 bals.length c5] := ⟨_, rfl⟩
  obtain ⟨W1, hW⟩ : ∃ W1, W1 = w.alloc (.cells LV 28) := ⟨_, rfl⟩
  have HB : Below w.heap.size w W1 := by rw [hW]; exact (Below.refl _ _).alloc (Nat.le_refl _) _
  have G1 : Blk W1 w.heap.size LV := by rw [hW]; exact Blk.new _ _ _ _ rfl
  rw [hLV] at G1
  have SK : ∀ W, Below W1.heap.size W1 W → Below w.heap.size w W ∧ w.heap.size < W.heap.size ∧ W.cell? ⟨w.heap.size, 0, none⟩ = some (.string nb) ∧ W.cell? ⟨w.heap.size, 1, none⟩ = some (.slice a1 s1 c1) ∧ W.cell? ⟨w.heap.size, 2, none⟩ = some (.slice a2 els.length c2) ∧
      W.cell? ⟨w.heap.size, 3, none⟩ = some (.slice a3 s3 c3) ∧ W.cell? ⟨w.heap.size, 4, none⟩ = some (.slice a4 s4 c4) ∧ W.cell? ⟨w.heap.size, 5, none⟩ = some (.slice a5 bals.length c5) := by
    intro W h
    have b := G1.below h
    exact ⟨HB.trans (h.mono HB.size), b.lt, b.at 0 _ rfl, b.at 1 _ rfl, b.at 2 _ rfl, b.at 3 _ rfl, b.at 4 _ rfl, b.at 5 _ rfl⟩
  have HV2 : ∀ W, Below w.heap.size w W → RLay W (.agg #[.string nb, .slice a1 s1 c1, .slice a2 els.length c2, .slice a3 s3 c3, .slice a4 s4 c4, .slice a5 bals.length c5]) L := fun W h => HV.out.below h
  replace HV2 := Lib.hid HV2
  replace SK := Lib.hid SK
  clear HV G1
  go_enter Tryz.func53, Tryz.ntmps53
  go_wp2
  rw [← hLV, ← hW]
  clear hW hLV
  go_loopg [3, 9] bals.length (fun g s3 s9 wx => ∃ (k : Nat) (acc : List Int), k + g = bals.length ∧ s9 = .int .i64 k ∧ acc.length = k ∧ Hid (acc = (bals.take k).map BalD.id) ∧ Hid ((bals.take k).all (balS els) = true) ∧
    wx.ownsRow W1.heap.size 3 1 s3 acc.length (intsV acc) ∧ Below W1.heap.size W1 wx)
  case atStart => exact ⟨0, [], by omega, rfl, rfl, Lib.hid rfl, Lib.hid (by simp), World.ownsRow_nil _ _ _ _, Below.refl _ _⟩
  case round =>
    obtain ⟨k, acc, hk, rfl, hal, HA, HX, ho, hbw⟩ := hrel
    obtain ⟨hw, hl0, k0, k1, k2, k3, k4, k5⟩ := SK.out _ hbw
    have hsz := hbw.size
    cases gk with
    | zero =>
      have hz : ¬ ((k : Int) < (bals.length : Int)) := by omega
      have hX : bals.all (balS els) = true := all_full (by omega) HX.out
      have hA : blB L = true := by unfold blB; rw [ej.out, ee.out]; exact hX
      have hac : acc = bals.map BalD.id := by rw [HA.out, List.take_of_length_le (by omega)]
      have hq2 := hq.out
      unfold balisesS at hq2
      rw [if_neg (by simp [hA])] at hq2
      unfold bdB at hq2
      rw [ej.out, ← hac] at hq2
      have K := rnumbers_any _ acc wr (RS.own ho)
      clear hA hq HX HA hac hX
      replace hk := Lib.hid hk
      replace hal := Lib.hid hal
      cases D : decide acc.Nodup
      · rw [D] at K hq2
        have hq5 : 8 = q := by simpa using hq2
        subst hq5
        go_wp2_with (go_at_call 103; refine K.mono ?_; rintro e ww ⟨rfl, bb⟩)
        go_ret
        exact ⟨rfl, hw.trans (bb.mono hw.size)⟩
      · rw [D] at K hq2
        have hq5 : 0 = q := by simpa using hq2
        subst hq5
        go_wp2_with (go_at_call 103; refine K.mono ?_; rintro e ww ⟨rfl, bb⟩)
        go_ret
        exact ⟨rfl, hw.trans (bb.mono hw.size)⟩
    | succ g =>
      have hz : (k : Int) < (bals.length : Int) := by omega
      obtain ⟨⟨id, el, off⟩, hy, ht, hmem⟩ := at_take (l := bals) (k := k) (by omega)
      obtain ⟨b, bo, rfl, hlt, hc⟩ := HS.out.rd hw hy
      have cc0 := hc 0 _ rfl
      have cc1 := hc 1 _ rfl
      have cc2 := hc 2 _ rfl
      simp only [Nat.add_zero] at cc0 cc1 cc2
      have HT : balS els ⟨id, el, off⟩ = decide (1 ≤ id ∧ id ≤ 1073741824 ∧ 0 ≤ el ∧ el < els.length ∧ 0 ≤ off ∧ off ≤ elAt els el ElD.length) := rfl
      have hq4 : balS els ⟨id, el, off⟩ = false → 1 = q := fun h => by
        rw [← hq.out]; unfold balisesS; rw [if_pos]; unfold blB; rw [ej.out, ee.out]; exact all_miss hmem h
      replace hk := Lib.hid hk
      replace ht := Lib.hid ht
      clear hc hy hmem
      by_cases c0 : id < 1
      · have hq5 := hq4 (by rw [HT]; exact decide_eq_false (by omega))
        subst hq5
        have tt0 : decide (id < 1) = true := decide_eq_true (by omega)
        clear hq4 HT c0
        go_wp2
        go_quiet (fail)
        go_wp2
        go_ret
        exact ⟨rfl, bdrew (alloc_below hw (Nat.le_refl _) _) _⟩
      by_cases c1 : 1073741824 < id
      · have hq5 := hq4 (by rw [HT]; exact decide_eq_false (by omega))
        subst hq5
        have tt0 : decide (id < 1) = false := decide_eq_false (by omega)
        have tt1 : decide (1073741824 < id) = true := decide_eq_true (by omega)
        clear hq4 HT c0 c1
        go_wp2
        go_quiet (fail)
        go_wp2
        go_ret
        exact ⟨rfl, bdrew (alloc_below hw (Nat.le_refl _) _) _⟩
      by_cases c2 : el < 0
      · have hq5 := hq4 (by rw [HT]; exact decide_eq_false (by omega))
        subst hq5
        have tt0 : decide (id < 1) = false := decide_eq_false (by omega)
        have tt1 : decide (1073741824 < id) = false := decide_eq_false (by omega)
        have tt2 : decide (el < 0) = true := decide_eq_true (by omega)
        clear hq4 HT c0 c1 c2
        go_wp2
        go_quiet (fail)
        go_wp2
        go_ret
        exact ⟨rfl, bdrew (alloc_below hw (Nat.le_refl _) _) _⟩
      by_cases c3 : (els.length : Int) ≤ el
      · have hq5 := hq4 (by rw [HT]; exact decide_eq_false (by omega))
        subst hq5
        have tt0 : decide (id < 1) = false := decide_eq_false (by omega)
        have tt1 : decide (1073741824 < id) = false := decide_eq_false (by omega)
        have tt2 : decide (el < 0) = false := decide_eq_false (by omega)
        have tt3 : decide ((els.length : Int) ≤ el) = true := decide_eq_true (by omega)
        clear hq4 HT c0 c1 c2 c3
        go_wp2
        go_quiet (fail)
        go_wp2
        go_ret
        exact ⟨rfl, bdrew (alloc_below hw (Nat.le_refl _) _) _⟩
      by_cases c4 : off < 0
      · have hq5 := hq4 (by rw [HT]; exact decide_eq_false (by omega))
        subst hq5
        have tt0 : decide (id < 1) = false := decide_eq_false (by omega)
        have tt1 : decide (1073741824 < id) = false := decide_eq_false (by omega)
        have tt2 : decide (el < 0) = false := decide_eq_false (by omega)
        have tt3 : decide ((els.length : Int) ≤ el) = false := decide_eq_false (by omega)
        have tt4 : decide (off < 0) = true := decide_eq_true (by omega)
        clear hq4 HT c0 c1 c2 c3 c4
        go_wp2
        go_quiet (fail)
        go_wp2
        go_ret
        exact ⟨rfl, bdrew (alloc_below hw (Nat.le_refl _) _) _⟩
      obtain ⟨ke, rfl⟩ : ∃ ke : Nat, el = ke := ⟨el.toNat, by omega⟩
      have hke : ke < els.length := by omega
      obtain ⟨ye, hye, _⟩ := at_take hke
      obtain ⟨b2, bo2, rfl, hltb, ce⟩ := HE.out.rd hw hye
      have ce2 := ce 2 _ rfl
      simp only [elAt_at hye] at HT
      obtain ⟨ln, hln⟩ : ∃ ln, ye.length = ln := ⟨_, rfl⟩
      rw [hln] at HT
      simp only [hln] at ce2
      have hke2 : (ke : Int) < (els.length : Int) := by omega
      clear ce hye hln
      by_cases c5 : ln < off
      · have hq5 := hq4 (by rw [HT]; exact decide_eq_false (by omega))
        subst hq5
        have tt0 : decide (id < 1) = false := decide_eq_false (by omega)
        have tt1 : decide (1073741824 < id) = false := decide_eq_false (by omega)
        have tt2 : decide ((ke : Int) < 0) = false := decide_eq_false (by omega)
        have tt3 : decide ((els.length : Int) ≤ (ke : Int)) = false := decide_eq_false (by omega)
        have tt4 : decide (off < 0) = false := decide_eq_false (by omega)
        have tt5 : decide (ln < off) = true := decide_eq_true (by omega)
        clear hq4 HT c0 c1 c2 c3 c4 c5
        go_wp2
        go_quiet (fail)
        go_wp2
        go_ret
        exact ⟨rfl, bdrew (alloc_below hw (Nat.le_refl _) _) _⟩
      · have HN := Lib.hid (all_next ht.out HX.out (HT.trans (decide_eq_true (by omega))))
        have HA2 : Hid (acc ++ [id] = (bals.take (k + 1)).map BalD.id) := Lib.hid (by rw [HA.out, ht.out]; simp)
        have hal2 : acc.length ≤ 60 := by have := hk.out; omega
        replace hal := Lib.hid hal
        have tt0 : decide (id < 1) = false := decide_eq_false (by omega)
        have tt1 : decide (1073741824 < id) = false := decide_eq_false (by omega)
        have tt2 : decide ((ke : Int) < 0) = false := decide_eq_false (by omega)
        have tt3 : decide ((els.length : Int) ≤ (ke : Int)) = false := decide_eq_false (by omega)
        have tt4 : decide (off < 0) = false := decide_eq_false (by omega)
        have tt5 : decide (ln < off) = false := decide_eq_false (by omega)
        clear hq4 HT c0 c1 c2 c3 c4 c5 HX HA
        go_wp2
        go_quiet (fail)
        go_wp2_with (at_builtin
                     refine wpList_pushB ((wr.alloc (.cells #[.int .i64 id, .int .i64 (ke : Int), .int .i64 off] 59)).drewN nq) rfl _ _ 81 rfl W1.heap.size 3 (.int .i64 0) 1 8 Tryz.underlying81 info_int rfl (by omega) u3 acc.length _ rfl (ho.alloc _) (wr.heap.size + 1) (by simp) [.int .i64 id] rfl rfl (by simp [Value.oneCell']) (by omega) (by omega) (by simp; omega) ?_
                     intro v3 w3 p3 gr3 nb3
                     have hb3 := below_grown (bdrew (alloc_below hbw (Nat.le_refl _) _) _) gr3 (ho.alloc _) (Nat.le_refl _) (by simp; omega)
                     replace p3 := Lib.hid p3
                     clear nb3 gr3)
        go_roundg g
        case measure => omega
        case rel => exact ⟨k + 1, acc ++ [id], by have := hk.out; omega, by go_num, by have := hal.out; simp; omega, HA2, HN, by rw [intsV_snoc, List.length_append]; exact p3.out, hb3⟩
end
section
open Go.ChangeShapes Go.WideShapes Go.ChangeAt Go.RowKit
theorem named_any (v : Value) (L : LayD) (w : World) (hv : RLay w v L) (hs : ∀ s ∈ allNames L, s.length ≤ 9223372036854775807) : Calls Tryz.prog 50 #[v] w (RetV w (.int .i64 (namedS L))) := by
  cases hl : limB L
  · have e : namedS L = 2 := by unfold namedS; rw [if_pos hl]
    rw [e]
    exact named_bad v L w hv hl
  · exact named_ok v L w hv hl hs
theorem check_split (L : LayD) : checkS isName L = if namedS L = 0 then (if elementsS L = 0 then (if signalsS L = 0 then balisesS L else signalsS L) else elementsS L) else namedS L := by
  unfold checkS namedS elementsS signalsS balisesS
  cases h1 : limB L <;> simp only [if_true, if_false, Bool.true_eq_false]
  · rfl
  cases h2 : namB isName L <;> simp only [if_true, if_false, Bool.true_eq_false]
  · rfl
  cases h3 : dupB L <;> simp only [if_true, if_false, Bool.true_eq_false]
  · rfl
  cases h4 : elB L <;> simp only [if_true, if_false, Bool.true_eq_false]
  · rfl
  cases h5 : secB L <;> simp only [if_true, if_false, Bool.true_eq_false]
  · rfl
  cases h6 : jnB L <;> simp only [if_true, if_false, Bool.true_eq_false]
  · rfl
  cases h7 : jdB L <;> simp only [if_true, if_false, Bool.true_eq_false]
  · rfl
  cases h8 : sgB L <;> simp only [if_true, if_false, Bool.true_eq_false]
  · rfl
  cases h9 : sdB L <;> simp only [if_true, if_false, Bool.true_eq_false]
  · rfl
  cases h10 : suB L <;> simp only [if_true, if_false, Bool.true_eq_false]
  · rfl
theorem elements_jn {L : LayD} (h : elementsS L = 0) : jnB L = true := by
  unfold elementsS at h
  cases h4 : elB L <;> simp [h4] at h
  cases h5 : secB L <;> simp [h5] at h
  cases h6 : jnB L <;> simp [h6] at h
  rfl
structure FewL (L : LayD) : Prop where
  n1 : L.secs.length ≤ 60
  n2 : L.els.length ≤ 60
  n3 : L.joints.length ≤ 100
  n4 : L.sigs.length ≤ 60
  n5 : L.bals.length ≤ 60
  hs : ∀ s ∈ allNames L, s.length ≤ 9223372036854775807
set_option maxRecDepth 100000 in
set_option maxHeartbeats 8000000 in
theorem rcheck_any (v : Value) (L : LayD) (w : World) (hv : RLay w v L) (F : FewL L) : Calls Tryz.prog 19 #[v] w (RetV w (.int .i64 (checkS isName L))) := by
  rw [check_split]
  have HV := Lib.hid hv
  obtain ⟨v1, v2, v3, v4, v5, rfl, h1, h2, h3, h4, h5⟩ := hv
  obtain ⟨a1, c1, rfl, _, _⟩ := h1.openS
  obtain ⟨a2, c2, rfl, _, _⟩ := h2.openM
  obtain ⟨a3, c3, rfl, _, _⟩ := h3.openM
  obtain ⟨a4, c4, rfl, _, _⟩ := h4.openM
  obtain ⟨a5, c5, rfl, _, _⟩ := h5.openM
  clear h1 h2 h3 h4 h5
  obtain ⟨nb, en⟩ : ∃ s : ByteArray, (⟨L.name.toArray⟩ : ByteArray) = s := ⟨_, rfl⟩
  have en2 : str L.name = .string nb := by rw [← en]
  rw [en2] at HV ⊢
  clear en en2
  have K1 := fun v ww hh => named_any v L ww hh F.hs
  have K2 := fun v ww hh => relements_any v L ww hh F.n1 F.n2 F.n3
  have K3 := fun v ww hh hj => rsignals_any v L ww hh F.n2 F.n4 hj
  have K4 := fun v ww hh => rbalises_any v L ww hh F.n2 F.n5
  have HJ := @elements_jn L
  obtain ⟨s1, e1⟩ : ∃ n, L.secs.length = n := ⟨_, rfl⟩
  obtain ⟨s2, e2⟩ : ∃ n, L.els.length = n := ⟨_, rfl⟩
  obtain ⟨s3, e3⟩ : ∃ n, L.joints.length = n := ⟨_, rfl⟩
  obtain ⟨s4, e4⟩ : ∃ n, L.sigs.length = n := ⟨_, rfl⟩
  obtain ⟨s5, e5⟩ : ∃ n, L.bals.length = n := ⟨_, rfl⟩
  rw [e1, e2, e3, e4, e5] at HV ⊢
  clear e1 e2 e3 e4 e5
  obtain ⟨r1, g1⟩ : ∃ r, namedS L = r := ⟨_, rfl⟩
  obtain ⟨r2, g2⟩ : ∃ r, elementsS L = r := ⟨_, rfl⟩
  obtain ⟨r3, g3⟩ : ∃ r, signalsS L = r := ⟨_, rfl⟩
  obtain ⟨r4, g4⟩ : ∃ r, balisesS L = r := ⟨_, rfl⟩
  rw [g1, g2, g3, g4]
  simp only [g1] at K1
  simp only [g2] at K2 HJ
  simp only [g3] at K3
  simp only [g4] at K4
  clear g1 g2 g3 g4 F
  obtain ⟨LV, hLV⟩ : ∃ LV : Array Value, LV = #[.string nb, .slice a1 s1 c1, .slice a2 s2 c2, .slice a3 s3 c3, .slice a4 s4 c4, .slice a5 s5 c5] := ⟨_, rfl⟩
  obtain ⟨W1, hW⟩ : ∃ W1, W1 = w.alloc (.cells LV 28) := ⟨_, rfl⟩
  have HB : Below w.heap.size w W1 := by rw [hW]; exact (Below.refl _ _).alloc (Nat.le_refl _) _
  have G1 : Blk W1 w.heap.size LV := by rw [hW]; exact Blk.new _ _ _ _ rfl
  rw [hLV] at G1
  have SK : ∀ W, Below W1.heap.size W1 W → W.cell? ⟨w.heap.size, 0, none⟩ = some (.string nb) ∧ W.cell? ⟨w.heap.size, 1, none⟩ = some (.slice a1 s1 c1) ∧ W.cell? ⟨w.heap.size, 2, none⟩ = some (.slice a2 s2 c2) ∧
      W.cell? ⟨w.heap.size, 3, none⟩ = some (.slice a3 s3 c3) ∧ W.cell? ⟨w.heap.size, 4, none⟩ = some (.slice a4 s4 c4) ∧ W.cell? ⟨w.heap.size, 5, none⟩ = some (.slice a5 s5 c5) := by
    intro W h
    have b := G1.below h
    exact ⟨b.at 0 _ rfl, b.at 1 _ rfl, b.at 2 _ rfl, b.at 3 _ rfl, b.at 4 _ rfl, b.at 5 _ rfl⟩
  have HV2 : ∀ W, Below W1.heap.size W1 W → RLay W (.agg #[.string nb, .slice a1 s1 c1, .slice a2 s2 c2, .slice a3 s3 c3, .slice a4 s4 c4, .slice a5 s5 c5]) L := fun W h => HV.out.below (HB.trans (h.mono HB.size))
  replace HV2 := Lib.hid HV2
  replace SK := Lib.hid SK
  clear HV G1
  have B0 := Below.refl W1.heap.size W1
  by_cases t1 : r1 = 0
  · subst t1
    rw [if_pos rfl]
    by_cases t2 : r2 = 0
    · subst t2
      rw [if_pos rfl]
      have hj := HJ rfl
      by_cases t3 : r3 = 0
      · subst t3
        rw [if_pos rfl]
        go_enter Tryz.func19, Tryz.ntmps19
        go_wp2_with fail
        rw [← hLV, ← hW]
        rw [hLV]
        refine (K1 _ _ (HV2.out _ B0)).mono ?_
        rintro e w2 ⟨rfl, bb⟩
        replace B0 := B0.trans (bb.mono B0.size)
        obtain ⟨k0, k1, k2, k3, k4, k5⟩ := SK.out _ B0
        go_wp2_with fail
        refine (K2 _ _ (HV2.out _ B0)).mono ?_
        rintro e w3 ⟨rfl, bb⟩
        clear k0 k1 k2 k3 k4 k5
        replace B0 := B0.trans (bb.mono B0.size)
        obtain ⟨k0, k1, k2, k3, k4, k5⟩ := SK.out _ B0
        go_wp2_with fail
        refine (K3 _ _ (HV2.out _ B0) hj).mono ?_
        rintro e w4 ⟨rfl, bb⟩
        clear k0 k1 k2 k3 k4 k5
        replace B0 := B0.trans (bb.mono B0.size)
        obtain ⟨k0, k1, k2, k3, k4, k5⟩ := SK.out _ B0
        go_wp2_with fail
        refine (K4 _ _ (HV2.out _ B0)).mono ?_
        rintro e w5 ⟨rfl, bb⟩
        replace B0 := B0.trans (bb.mono B0.size)
        go_wp2
        go_ret
        exact ⟨rfl, HB.trans (B0.mono HB.size)⟩
      · rw [if_neg t3]
        have t : (r3 == 0) = false := by simpa using t3
        clear t3
        go_enter Tryz.func19, Tryz.ntmps19
        go_wp2_with fail
        rw [← hLV, ← hW]
        rw [hLV]
        refine (K1 _ _ (HV2.out _ B0)).mono ?_
        rintro e w2 ⟨rfl, bb⟩
        replace B0 := B0.trans (bb.mono B0.size)
        obtain ⟨k0, k1, k2, k3, k4, k5⟩ := SK.out _ B0
        go_wp2_with fail
        refine (K2 _ _ (HV2.out _ B0)).mono ?_
        rintro e w3 ⟨rfl, bb⟩
        clear k0 k1 k2 k3 k4 k5
        replace B0 := B0.trans (bb.mono B0.size)
        obtain ⟨k0, k1, k2, k3, k4, k5⟩ := SK.out _ B0
        go_wp2_with fail
        refine (K3 _ _ (HV2.out _ B0) hj).mono ?_
        rintro e w4 ⟨rfl, bb⟩
        clear k0 k1 k2 k3 k4 k5
        replace B0 := B0.trans (bb.mono B0.size)
        go_wp2
        go_ret
        exact ⟨rfl, HB.trans (B0.mono HB.size)⟩
    · rw [if_neg t2]
      have t : (r2 == 0) = false := by simpa using t2
      clear t2
      go_enter Tryz.func19, Tryz.ntmps19
      go_wp2_with fail
      rw [← hLV, ← hW]
      rw [hLV]
      refine (K1 _ _ (HV2.out _ B0)).mono ?_
      rintro e w2 ⟨rfl, bb⟩
      replace B0 := B0.trans (bb.mono B0.size)
      obtain ⟨k0, k1, k2, k3, k4, k5⟩ := SK.out _ B0
      go_wp2_with fail
      refine (K2 _ _ (HV2.out _ B0)).mono ?_
      rintro e w3 ⟨rfl, bb⟩
      clear k0 k1 k2 k3 k4 k5
      replace B0 := B0.trans (bb.mono B0.size)
      go_wp2
      go_ret
      exact ⟨rfl, HB.trans (B0.mono HB.size)⟩
  · rw [if_neg t1]
    have t : (r1 == 0) = false := by simpa using t1
    clear t1
    go_enter Tryz.func19, Tryz.ntmps19
    go_wp2_with fail
    rw [← hLV, ← hW]
    rw [hLV]
    refine (K1 _ _ (HV2.out _ B0)).mono ?_
    rintro e w2 ⟨rfl, bb⟩
    replace B0 := B0.trans (bb.mono B0.size)
    go_wp2
    go_ret
    exact ⟨rfl, HB.trans (B0.mono HB.size)⟩
end
end Go.Proofs.YteafkginhejllaaGreatDoor
