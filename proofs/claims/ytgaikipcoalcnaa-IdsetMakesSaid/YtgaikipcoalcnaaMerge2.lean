/- The contract of merge: the numbers of two lists that a condition on their membership keeps. Conditions: lists of at most 500 numbers that can be read. -/
import Derived.Test.YtgaikipcoalcnaaIdset2
namespace Go.Proofs.Ytgaikipcoalcnaa
open Go.ChangeShapes Go.WideShapes Go.ChangeAt Go.RowKit
open Go.Sort (Holds putRow grow holds_grow holds_putRow holds_ahead)
set_option maxHeartbeats 6000000 in
theorem merge_any (v u : Value) (l m : List Int) (g : FuncId) (k : Bool → Bool → Bool) (w : World) (hg : Keeps g k) (eg : Enters Try.prog g) (hv : RS w v (intsV l)) (hu : RS w u (intsV m)) (hl : l.length ≤ 500) (hm : m.length ≤ 500) :
    Calls Try.prog 27 #[v, u, .func (.func g) #[] #[]] w (RetL w (sel k l m)) := by
  have hT : (sel k l m).length ≤ 1000 := by have := sel_length k l m; omega
  obtain ⟨T, hTe⟩ : ∃ T, sel k l m = T := ⟨_, rfl⟩
  rw [hTe] at hT ⊢
  have hT0 := Lib.hid (show ([] : List Int) ++ sel k (mk l) (mk m) = T by rw [sel_mk, hTe]; rfl)
  clear hTe
  have H1 := ordered_any v l w hv (by omega)
  have HU := Lib.hid hu
  clear hv hu
  go_enter Try.func27, Try.ntmps27
  go_wp2_with fail
  refine H1.mono ?_
  rintro e w1 ⟨v1, rfl, hr1, hb1⟩
  have H2 := ordered_any u m w1 (HU.out.below hb1) (by omega)
  replace hr1 := Lib.hid hr1
  clear H1
  go_wp2_with fail
  refine H2.mono ?_
  rintro e w2 ⟨v2, rfl, hr2, hb2⟩
  have hr1' := Lib.hid (hr1.out.below hb2)
  replace hr2 := Lib.hid hr2
  have hb := hb1.trans (hb2.mono hb1.size)
  clear H2 hr1 hb1 hb2 HU
  have hA := Lib.hid (And.intro (asc_mk l) (asc_mk m))
  obtain ⟨n0, hn0⟩ : ∃ n0, (mk l).length + (mk m).length ≤ n0 := ⟨_, Nat.le_refl _⟩
  go_wp2
  go_loopg [0, 1, 7] n0 (fun g s0 s1 s7 wx => ∃ (a b o : List Int), a.length + b.length ≤ g ∧ Hid (RS w2 s0 (intsV a)) ∧ Hid (RS w2 s1 (intsV b)) ∧ Hid (Asc a ∧ Asc b) ∧ wx.ownsRow w2.heap.size 3 1 s7 o.length (intsV o) ∧ Hid (o ++ sel k a b = T) ∧ Below w2.heap.size w2 wx)
  case atStart => exact ⟨mk l, mk m, [], hn0, hr1', hr2, hA, World.ownsRow_nil _ _ _ _, hT0, Below.refl _ _⟩
  case round =>
    obtain ⟨a, b, o, hg1, ha, hb1, hasc, o1, hT1, hbw⟩ := hrel
    clear hr1' hr2 hA hT0 hn0
    have hsz := hbw.size
    have ho : o.length ≤ 1000 := by
      have : (o ++ sel k a b).length = T.length := by rw [hT1.out]
      rw [List.length_append] at this; omega
    obtain ⟨a0, cap0, rfl, hm0, HA⟩ := ha.out.open2
    obtain ⟨b0, cap1, rfl, hm1, HB⟩ := hb1.out.open2
    have hC := cmpFirst_any _ _ a b wr (ha.out.below hbw) (hb1.out.below hbw)
    have hF := Lib.hid (fun c x W (h : Below w2.heap.size w2 W) => first_any _ _ a b c x W (ha.out.below h) (hb1.out.below h))
    rcases round_cases a b hasc.out with ⟨rfl, rfl⟩ | ⟨x, c, inA, inB, a', b', hc, hcase, hasc', hsel, hx⟩
    · have hT2 := Lib.hid (show o = T by have := hT1.out; rwa [sel_nil, List.append_nil] at this)
      clear hC hF hT1 hasc ha hb1
      replace hg1 := Lib.hid hg1
      go_wp2
      go_ret
      exact ⟨_, rfl, by rw [← hT2.out]; exact RS.own o1, hb.trans (hbw.mono hb.size)⟩
    · have hT2 := Lib.hid (show o ++ one (k inA inB) x ++ sel k a' b' = T by rw [List.append_assoc, ← hsel]; exact hT1.out)
      replace hF := Lib.hid (fun W h => hF.out inA x W h hx)
      rw [hc] at hC
      replace hasc' := Lib.hid hasc'
      replace hx := Lib.hid hx
      replace hc := Lib.hid hc
      have hK := Lib.hid (fun W => hg inA inB W)
      have eg' : ∀ (args : Array Value) (w : World), (callFunc g args).run Try.prog w = .ok (.enter g args) w := eg
      replace hg1 := Lib.hid hg1
      clear hsel hT1 hasc ha hb1 hg eg
      have fin : ∀ (c : Bool), k inA inB = c → Hid (o ++ one c x ++ sel k a' b' = T) := fun c h => Lib.hid (by rw [← h]; exact hT2.out)
      have hq : k inA inB = true ∨ k inA inB = false := by cases k inA inB <;> simp
      clear hT2
      rcases hq with hq | hq
      · have hT2 := fin _ hq
        rw [hq] at hK
        replace hq := Lib.hid hq
        clear fin
        rcases hcase with ⟨rfl, rfl, rfl, rfl, rfl⟩ | ⟨rfl, rfl, rfl, rfl, rfl⟩ | ⟨rfl, rfl, rfl, rfl, rfl⟩
        · simp only [List.length_cons] at *
          obtain ⟨gn, rfl⟩ : ∃ gn, gk = gn + 1 := ⟨gk - 1, by have := hg1.out; omega⟩
          go_wp2_with fail
          refine hC.mono ?_
          rintro e W ⟨rfl, n, hW⟩
          have bW : Below w2.heap.size w2 W := by rw [hW]; exact bdrew hbw n
          have oW : W.ownsRow w2.heap.size 3 1 u7 o.length (intsV o) := by rw [hW]; exact o1
          clear hW o1 hbw hsz hC
          have hsz := bW.size
          have hF' := hF.out W bW
          have hK' := hK.out W
          go_wp2_with fail
          refine hF'.mono ?_
          rintro e w' ⟨rfl, rfl⟩
          clear hF'
          go_wp2_with (first
            | (go_at_fn g; refine hK'.mono ?_; rintro e w' ⟨rfl, rfl⟩)
            | (at_builtin
               refine wpList_push _ rfl _ _ 22 rfl w2.heap.size 3 (.int .i64 0) 1 8 Try.underlying22 info_int rfl (by omega) u7 o.length _ rfl oW [.int .i64 x] rfl rfl (by simp [Value.oneCell']) (by omega) (by omega) hsz ?_
               intro v3 w3 p3 gr3 nb3
               have bw3 := below_grown bW gr3 oW (Nat.le_refl _) hsz
               clear nb3 gr3 oW hK'))
          all_goals
            go_roundg gn
            case measure => omega
            case rel =>
              exact ⟨a', b', o ++ [x], by have := hg1.out; omega, Lib.hid (by first | exact RS.tail0 hm0 (by assumption) | exact RS.tail1 HA.out hm0), Lib.hid (HB.out.rs hm1), hasc', by simpa [intsV] using p3, hT2, bw3⟩
        · simp only [List.length_cons] at *
          obtain ⟨gn, rfl⟩ : ∃ gn, gk = gn + 1 := ⟨gk - 1, by have := hg1.out; omega⟩
          go_wp2_with fail
          refine hC.mono ?_
          rintro e W ⟨rfl, n, hW⟩
          have bW : Below w2.heap.size w2 W := by rw [hW]; exact bdrew hbw n
          have oW : W.ownsRow w2.heap.size 3 1 u7 o.length (intsV o) := by rw [hW]; exact o1
          clear hW o1 hbw hsz hC
          have hsz := bW.size
          have hF' := hF.out W bW
          have hK' := hK.out W
          go_wp2_with fail
          refine hF'.mono ?_
          rintro e w' ⟨rfl, rfl⟩
          clear hF'
          go_wp2_with (first
            | (go_at_fn g; refine hK'.mono ?_; rintro e w' ⟨rfl, rfl⟩)
            | (at_builtin
               refine wpList_push _ rfl _ _ 22 rfl w2.heap.size 3 (.int .i64 0) 1 8 Try.underlying22 info_int rfl (by omega) u7 o.length _ rfl oW [.int .i64 x] rfl rfl (by simp [Value.oneCell']) (by omega) (by omega) hsz ?_
               intro v3 w3 p3 gr3 nb3
               have bw3 := below_grown bW gr3 oW (Nat.le_refl _) hsz
               clear nb3 gr3 oW hK'))
          all_goals
            go_roundg gn
            case measure => omega
            case rel =>
              exact ⟨a', b', o ++ [x], by have := hg1.out; omega, Lib.hid (by first | exact RS.tail0 hm0 (by assumption) | exact RS.tail1 HA.out hm0), Lib.hid (by first | exact RS.tail0 hm1 (by assumption) | exact RS.tail1 HB.out hm1), hasc', by simpa [intsV] using p3, hT2, bw3⟩
        · simp only [List.length_cons] at *
          obtain ⟨gn, rfl⟩ : ∃ gn, gk = gn + 1 := ⟨gk - 1, by have := hg1.out; omega⟩
          have hz : decide (0 < a'.length) = true ∨ decide (0 < a'.length) = false := by cases decide (0 < a'.length) <;> simp
          rcases hz with hz | hz
          all_goals
            go_wp2_with fail
            refine hC.mono ?_
            rintro e W ⟨rfl, n, hW⟩
            have bW : Below w2.heap.size w2 W := by rw [hW]; exact bdrew hbw n
            have oW : W.ownsRow w2.heap.size 3 1 u7 o.length (intsV o) := by rw [hW]; exact o1
            clear hW o1 hbw hsz hC
            have hsz := bW.size
            have hF' := hF.out W bW
            have hK' := hK.out W
            go_wp2_with fail
            refine hF'.mono ?_
            rintro e w' ⟨rfl, rfl⟩
            clear hF'
            go_wp2_with (first
              | (go_at_fn g; refine hK'.mono ?_; rintro e w' ⟨rfl, rfl⟩)
              | (at_builtin
                 refine wpList_push _ rfl _ _ 22 rfl w2.heap.size 3 (.int .i64 0) 1 8 Try.underlying22 info_int rfl (by omega) u7 o.length _ rfl oW [.int .i64 x] rfl rfl (by simp [Value.oneCell']) (by omega) (by omega) hsz ?_
                 intro v3 w3 p3 gr3 nb3
                 have bw3 := below_grown bW gr3 oW (Nat.le_refl _) hsz
                 clear nb3 gr3 oW hK'))
            all_goals
              go_roundg gn
              case measure => omega
              case rel =>
                exact ⟨a', b', o ++ [x], by have := hg1.out; omega, Lib.hid (HA.out.rs hm0), Lib.hid (by first | exact RS.tail0 hm1 (by assumption) | exact RS.tail1 HB.out hm1), hasc', by simpa [intsV] using p3, hT2, bw3⟩
      · have hT2 := fin _ hq
        rw [hq] at hK
        replace hq := Lib.hid hq
        clear fin
        have hT2 := Lib.hid (show o ++ sel k a' b' = T by have := hT2.out; simpa [one] using this)
        rcases hcase with ⟨rfl, rfl, rfl, rfl, rfl⟩ | ⟨rfl, rfl, rfl, rfl, rfl⟩ | ⟨rfl, rfl, rfl, rfl, rfl⟩
        · simp only [List.length_cons] at *
          obtain ⟨gn, rfl⟩ : ∃ gn, gk = gn + 1 := ⟨gk - 1, by have := hg1.out; omega⟩
          go_wp2_with fail
          refine hC.mono ?_
          rintro e W ⟨rfl, n, hW⟩
          have bW : Below w2.heap.size w2 W := by rw [hW]; exact bdrew hbw n
          have oW : W.ownsRow w2.heap.size 3 1 u7 o.length (intsV o) := by rw [hW]; exact o1
          clear hW o1 hbw hsz hC
          have hsz := bW.size
          have hF' := hF.out W bW
          have hK' := hK.out W
          go_wp2_with fail
          refine hF'.mono ?_
          rintro e w' ⟨rfl, rfl⟩
          clear hF'
          go_wp2_with (go_at_fn g; refine hK'.mono ?_; rintro e w' ⟨rfl, rfl⟩)
          clear hK'
          all_goals
            go_roundg gn
            case measure => omega
            case rel =>
              exact ⟨a', b', o, by have := hg1.out; omega, Lib.hid (by first | exact RS.tail0 hm0 (by assumption) | exact RS.tail1 HA.out hm0), Lib.hid (HB.out.rs hm1), hasc', oW, hT2, bW⟩
        · simp only [List.length_cons] at *
          obtain ⟨gn, rfl⟩ : ∃ gn, gk = gn + 1 := ⟨gk - 1, by have := hg1.out; omega⟩
          go_wp2_with fail
          refine hC.mono ?_
          rintro e W ⟨rfl, n, hW⟩
          have bW : Below w2.heap.size w2 W := by rw [hW]; exact bdrew hbw n
          have oW : W.ownsRow w2.heap.size 3 1 u7 o.length (intsV o) := by rw [hW]; exact o1
          clear hW o1 hbw hsz hC
          have hsz := bW.size
          have hF' := hF.out W bW
          have hK' := hK.out W
          go_wp2_with fail
          refine hF'.mono ?_
          rintro e w' ⟨rfl, rfl⟩
          clear hF'
          go_wp2_with (go_at_fn g; refine hK'.mono ?_; rintro e w' ⟨rfl, rfl⟩)
          clear hK'
          all_goals
            go_roundg gn
            case measure => omega
            case rel =>
              exact ⟨a', b', o, by have := hg1.out; omega, Lib.hid (by first | exact RS.tail0 hm0 (by assumption) | exact RS.tail1 HA.out hm0), Lib.hid (by first | exact RS.tail0 hm1 (by assumption) | exact RS.tail1 HB.out hm1), hasc', oW, hT2, bW⟩
        · simp only [List.length_cons] at *
          obtain ⟨gn, rfl⟩ : ∃ gn, gk = gn + 1 := ⟨gk - 1, by have := hg1.out; omega⟩
          have hz : decide (0 < a'.length) = true ∨ decide (0 < a'.length) = false := by cases decide (0 < a'.length) <;> simp
          rcases hz with hz | hz
          all_goals
            go_wp2_with fail
            refine hC.mono ?_
            rintro e W ⟨rfl, n, hW⟩
            have bW : Below w2.heap.size w2 W := by rw [hW]; exact bdrew hbw n
            have oW : W.ownsRow w2.heap.size 3 1 u7 o.length (intsV o) := by rw [hW]; exact o1
            clear hW o1 hbw hsz hC
            have hsz := bW.size
            have hF' := hF.out W bW
            have hK' := hK.out W
            go_wp2_with fail
            refine hF'.mono ?_
            rintro e w' ⟨rfl, rfl⟩
            clear hF'
            go_wp2_with (go_at_fn g; refine hK'.mono ?_; rintro e w' ⟨rfl, rfl⟩)
            clear hK'
            all_goals
              go_roundg gn
              case measure => omega
              case rel =>
                exact ⟨a', b', o, by have := hg1.out; omega, Lib.hid (HA.out.rs hm0), Lib.hid (by first | exact RS.tail0 hm1 (by assumption) | exact RS.tail1 HB.out hm1), hasc', oW, hT2, bW⟩
end Go.Proofs.Ytgaikipcoalcnaa
