/- The walk of PlanLines. Conditions: the layout can be read; its names' lengths; what the program reads (GT, GW). -/
import Derived.Test.YteafkginhejllaaGreatDoorAl8
namespace Go.Proofs.YteafkginhejllaaGreatDoor
open Go.ChangeShapes Go.WideShapes Go.ChangeAt Go.RowKit
theorem few_of {L : LayD} (h : fewB L = true) (hs : ∀ s ∈ allNames L, s.length ≤ 9223372036854775807) : FewL L := by
  unfold fewB at h
  simp only [Bool.and_eq_true, decide_eq_true_eq] at h
  exact ⟨h.1, h.2.1, h.2.2.1, h.2.2.2.1, h.2.2.2.2, hs⟩
theorem lay_open {w : World} {v : Value} {L : LayD} (h : RLay w v L) : ∃ (nb : ByteArray) (a1 a2 a3 a4 a5 : Option Addr) (c1 c2 c3 c4 c5 : Nat), v = .agg #[.string nb, .slice a1 L.secs.length c1, .slice a2 L.els.length c2, .slice a3 L.joints.length c3, .slice a4 L.sigs.length c4, .slice a5 L.bals.length c5] := by
  obtain ⟨v1, v2, v3, v4, v5, rfl, h1, h2, h3, h4, h5⟩ := h
  obtain ⟨a1, c1, rfl, _, _⟩ := h1.openS
  obtain ⟨a2, c2, rfl, _, _⟩ := h2.openM
  obtain ⟨a3, c3, rfl, _, _⟩ := h3.openM
  obtain ⟨a4, c4, rfl, _, _⟩ := h4.openM
  obtain ⟨a5, c5, rfl, _, _⟩ := h5.openM
  exact ⟨_, _, _, _, _, _, _, _, _, _, _, rfl⟩
def isEl (l : List L8) : Bool := decide (hd l = kTrack) || (decide (hd l = kPoints) || decide (hd l = kCross))
theorem el_head (secs : List L8) (x : ElD) : hd (elLine secs x) = kTrack ∨ hd (elLine secs x) = kPoints ∨ hd (elLine secs x) = kCross := by
  unfold elLine
  repeat' split
  all_goals simp [hd]
theorem el_is (secs : List L8) (x : ElD) : isEl (elLine secs x) = true := by
  unfold isEl
  rcases el_head secs x with h | h | h <;> rw [h] <;> decide
theorem heads {L : LayD} : ∀ l ∈ linesOf L, (isEl l = true ∧ (hd l = kTrack ∨ hd l = kPoints ∨ hd l = kCross)) ∨ (isEl l = false ∧ (hd l = kLayout ∨ hd l = kSection ∨ hd l = kJoint ∨ hd l = kSignal ∨ hd l = kBalise)) := by
  intro l hl
  simp only [linesOf, List.mem_cons, List.mem_append, List.mem_map] at hl
  rcases hl with rfl | ⟨s, _, rfl⟩ | ⟨x, _, rfl⟩ | ⟨x, _, rfl⟩ | ⟨x, _, rfl⟩ | ⟨x, _, rfl⟩
  · right; exact ⟨rfl, by simp [hd]⟩
  · right; exact ⟨rfl, by simp [hd]⟩
  · left; exact ⟨el_is _ _, el_head _ _⟩
  · right; exact ⟨rfl, by simp [hd, joLine]⟩
  · right; exact ⟨rfl, by simp [hd, sgLine]⟩
  · right; exact ⟨rfl, by simp [hd, blLine]⟩
theorem count_map {α : Type} (f : α → List L8) (b : Bool) (h : ∀ x, isEl (f x) = b) (l : List α) : (l.map f).countP isEl = if b then l.length else 0 := by
  induction l with
  | nil => cases b <;> rfl
  | cons x r ih => rw [List.map_cons, List.countP_cons, ih, h]; cases b <;> simp
theorem count_lines (L : LayD) : (linesOf L).countP isEl = L.els.length := by
  have h0 : isEl [kLayout, L.name] = false := rfl
  rw [linesOf, List.countP_cons, h0]
  simp only [List.countP_append]
  rw [count_map _ false (fun _ => rfl), count_map _ true (el_is _), count_map _ false (fun _ => rfl), count_map _ false (fun _ => rfl), count_map _ false (fun _ => rfl)]
  simp
theorem count_take {m : List (List L8)} {k : Nat} {y : List L8} (h : m[k]? = some y) : (m.take (k + 1)).countP isEl = (m.take k).countP isEl + if isEl y then 1 else 0 := by
  obtain ⟨h1, h2⟩ := List.getElem?_eq_some_iff.1 h
  rw [List.take_succ_eq_append_getElem h1, h2, List.countP_append, List.countP_singleton]
set_option maxRecDepth 100000 in
set_option maxHeartbeats 16000000 in
theorem lines_all (v : Value) (L : LayD) (w : World) (hT : GT w) (hG : GW w) (hv : RLay w v L) (hs : ∀ s ∈ allNames L, s.length ≤ 9223372036854775807) : Calls Tryz.prog 5 #[v] w (RetB w true) := by
  obtain ⟨nb, a1, a2, a3, a4, a5, c1, c2, c3, c4, c5, rfl⟩ := lay_open hv
  have HV := Lib.hid hv
  clear hv
  obtain ⟨W1, hW⟩ : ∃ W1, W1 = w.alloc (.cells #[.string nb, .slice a1 L.secs.length c1, .slice a2 L.els.length c2, .slice a3 L.joints.length c3, .slice a4 L.sigs.length c4, .slice a5 L.bals.length c5] 28) := ⟨_, rfl⟩
  have HB : Below w.heap.size w W1 := by rw [hW]; exact (Below.refl _ _).alloc (Nat.le_refl _) _
  have G1 : Blk W1 w.heap.size #[.string nb, .slice a1 L.secs.length c1, .slice a2 L.els.length c2, .slice a3 L.joints.length c3, .slice a4 L.sigs.length c4, .slice a5 L.bals.length c5] := by rw [hW]; exact Blk.new _ _ _ _ rfl
  have SK : ∀ W, Below W1.heap.size W1 W → (W.cell? ⟨w.heap.size, 0, none⟩ = some (.string nb) ∧ W.cell? ⟨w.heap.size, 1, none⟩ = some (.slice a1 L.secs.length c1) ∧ W.cell? ⟨w.heap.size, 2, none⟩ = some (.slice a2 L.els.length c2) ∧
      W.cell? ⟨w.heap.size, 3, none⟩ = some (.slice a3 L.joints.length c3) ∧ W.cell? ⟨w.heap.size, 4, none⟩ = some (.slice a4 L.sigs.length c4) ∧ W.cell? ⟨w.heap.size, 5, none⟩ = some (.slice a5 L.bals.length c5)) := by
    intro W h
    have b := G1.below h
    exact ⟨b.at 0 _ rfl, b.at 1 _ rfl, b.at 2 _ rfl, b.at 3 _ rfl, b.at 4 _ rfl, b.at 5 _ rfl⟩
  have WB : ∀ W, Below W1.heap.size W1 W → Below w.heap.size w W := fun W h => HB.trans (h.mono HB.size)
  have KA := fun W (h : Below W1.heap.size W1 W) => alive_any W (hT.below (WB W h)) (hG.below (WB W h))
  have KF := few_any _ L W1 (HV.out.below HB)
  have KP := fun W (h : Below W1.heap.size W1 W) F => print_any _ L W (hT.below (WB W h)) (hG.below (WB W h)) (HV.out.below (WB W h)) F
  have KL := fun s W (h : Below W1.heap.size W1 W) hl => lines_any s W (hT.below (WB W h)) hl
  clear hT hG HV G1
  obtain ⟨q0, q1, q2, q3, q4, q5⟩ := SK _ (Below.refl _ _)
  replace SK := Lib.hid SK
  replace WB := Lib.hid WB
  cases hf : fewB L with
  | false =>
    rw [hf] at KF
    clear hf hs KP KL
    go_enter Tryz.func5, Tryz.ntmps5
    go_wp2_with (first
      | (go_at_call 7
         rw [← hW]
         refine KF.mono ?_
         rintro e w2 ⟨rfl, B2⟩)
      | (go_at_call 8
         refine (KA _ B2).mono ?_
         rintro e w3 ⟨rfl, B3⟩))
    go_ret
    exact ⟨rfl, WB.out _ (B2.trans (B3.mono B2.size))⟩
  | true =>
    rw [hf] at KF
    have F := (few_of hf hs).big
    replace KP := fun W h => KP W h F
    clear hf hs F
    by_cases hc : ¬ checkS isName L = 0

    · have E : ∃ e, printS L = ([], e) ∧ e ≠ 0 := ⟨checkS isName L, by unfold printS; rw [if_neg hc], hc⟩
      obtain ⟨e0, E, he⟩ := E
      have t : (e0 == 0) = false := by simpa using he
      rw [E] at KP
      clear hc E KL
      go_enter Tryz.func5, Tryz.ntmps5
      go_wp2_with (first
        | (go_at_call 7
           rw [← hW]
           refine KF.mono ?_
           rintro e w2 ⟨rfl, B2⟩
           obtain ⟨z0, z1, z2, z3, z4, z5⟩ := SK.out _ B2
           clear KF q0 q1 q2 q3 q4 q5)
        | (go_at_call 9
           refine (KP _ B2).mono ?_
           rintro e w3 ⟨rfl, B3⟩
           clear KP)
        | (go_at_call 8
           refine (KA _ (B2.trans (B3.mono B2.size))).mono ?_
           rintro e w4 ⟨rfl, B4⟩))
      go_ret
      have BB := B2.trans (B3.mono B2.size)
      exact ⟨rfl, WB.out _ (BB.trans (B4.mono BB.size))⟩
    · have hc0 : checkS isName L = 0 := Classical.not_not.1 hc
      have V := valid_check hc0
      have hll := lines_len L
      have hlin := lines_small (s := textL (linesOf L))
      have hisL : (linesOf L).all isL = true := List.all_eq_true.2 fun l hl => (ok_lines V l hl).isL
      have htl := text_len V
      have hlt := lines_text hisL htl
      rw [hlt] at hlin
      obtain ⟨hm1, hm2⟩ := hlin rfl
      simp only at hm1 hm2
      have hcl := count_lines L
      have hhd := heads (L := L)
      rw [print_ok V] at KP
      obtain ⟨s, hsx⟩ : ∃ s, textL (linesOf L) = s := ⟨_, rfl⟩
      rw [hsx] at KP hlt htl
      obtain ⟨m, hmx⟩ : ∃ m, linesOf L = m := ⟨_, rfl⟩
      rw [hmx] at hlt hll hm1 hm2 hcl hhd
      replace KL := fun W h => KL s W h (by omega)
      rw [hlt] at KL
      have j1 : m.length = 1 + L.secs.length + L.els.length + L.joints.length + L.sigs.length + L.bals.length := hll
      have eN : ((m.length : Int) == 1 + (L.secs.length : Int) + (L.els.length : Int) + (L.joints.length : Int) + (L.sigs.length : Int) + (L.bals.length : Int)) = true := by simp; omega
      have y1 : L.secs.length ≤ 32768 := by omega
      have y2 : L.els.length ≤ 32768 := by omega
      have y3 : L.joints.length ≤ 32768 := by omega
      have y4 : L.sigs.length ≤ 32768 := by omega
      have y5 : L.bals.length ≤ 32768 := by omega
      replace hm2 := Lib.hid hm2
      replace hhd := Lib.hid hhd
      replace hll := Lib.hid hll
      replace hcl := Lib.hid hcl
      replace j1 := Lib.hid j1
      clear hc hc0 V hsx hmx hlt hisL
      go_enter Tryz.func5, Tryz.ntmps5
      go_upto_region 11 with (first
        | (go_at_call 7
           rw [← hW]
           refine KF.mono ?_
           rintro e w2 ⟨rfl, B2⟩
           obtain ⟨z0, z1, z2, z3, z4, z5⟩ := SK.out _ B2
           clear KF q0 q1 q2 q3 q4 q5)
        | (go_at_call 9
           refine (KP _ B2).mono ?_
           rintro e w3 ⟨rfl, B3⟩
           have BB := B2.trans (B3.mono B2.size)
           clear KP z0 z1 z2 z3 z4 z5)
        | (go_at_call 14
           refine (KL _ BB).mono ?_
           rintro e w4 ⟨v4, rfl, hm4, B4⟩
           have BC := BB.trans (B4.mono BB.size)
           obtain ⟨z0, z1, z2, z3, z4, z5⟩ := SK.out _ BC
           obtain ⟨am, cm, rfl, hmm, HC⟩ := hm4.open
           clear KL hm4))
      have q1 := z1
      clear z0 z1 z3 z4 z5 q1
      replace BC := Lib.hid BC
      go_loopg [8, 9] m.length (fun g s8 s9 wx => ∃ k n : Nat, s9 = .int .i64 k ∧ s8 = .int .i64 n ∧ k + g = m.length ∧ Hid (n = (m.take k).countP isEl) ∧ Hid (Below w4.heap.size w4 wx))
      case atStart => exact ⟨0, 0, rfl, rfl, by omega, Lib.hid rfl, Lib.hid (Below.refl _ _)⟩
      case round =>
        obtain ⟨k, n, rfl, rfl, hg, HN, hB⟩ := hrel
        have hn : n ≤ 40000 := by
          have h1 := List.countP_le_length (p := isEl) (l := m.take k)
          rw [List.length_take] at h1
          have := HN.out
          omega
        cases gk with
        | zero =>
          have h : ¬ ((k : Int) < (m.length : Int)) := by omega
          have E : n = L.els.length := by
            have := HN.out
            rw [List.take_of_length_le (by omega), hcl.out] at this
            exact this
          subst E
          have BW := BC.out.trans (hB.out.mono BC.out.size)
          obtain ⟨z0, z1, z2, z3, z4, z5⟩ := SK.out _ BW
          clear HN
          go_wp2_with (
            go_at_call 8
            refine (KA _ BW).mono ?_
            rintro e w5 ⟨rfl, B5⟩)
          go_ret
          exact ⟨rfl, WB.out _ (BW.trans (B5.mono BW.size))⟩
        | succ g =>
          have h : ((k : Int) < (m.length : Int)) := by omega
          obtain ⟨ws, hy, _, hmem⟩ := at_take (l := m) (k := k) (by omega)
          obtain ⟨bl, off, xv, rfl, hlt, hcell, hrow⟩ := HC.out.rd hB.out hy
          obtain ⟨hwl, hwl2, _⟩ := hm2.out ws hmem
          have hh := hhd.out ws hmem
          replace hy := Lib.hid hy
          obtain ⟨kw, rest, rfl⟩ : ∃ kw rest, ws = kw :: rest := by
            cases ws with
            | nil => simp at hwl
            | cons a b => exact ⟨a, b, rfl⟩
          obtain ⟨av, cv, rfl, hmv, HS⟩ := hrow.openS
          obtain ⟨b2, o2, rfl, hlt2, hcell0⟩ := HS.out.rd (Below.refl _ _) (show (kw :: rest)[0]? = some kw from rfl)
          simp only [Nat.add_zero] at hcell0
          obtain ⟨nl, hnl⟩ : ∃ n, (kw :: rest).length = n := ⟨_, rfl⟩
          rw [hnl] at hcell hwl hwl2 hmv
          have hn0 : (0 : Int) < (nl : Int) := by omega
          replace hnl := Lib.hid hnl
          clear hrow HS
          simp only [hd, List.headD_cons] at hh
          rcases hh with ⟨hi, hh | hh | hh⟩ | ⟨hi, hh | hh | hh | hh | hh⟩
          · rw [hh] at hcell0
            replace hcell0 : wr.cell? ⟨b2, o2, none⟩ = some (.string ⟨#[116, 114, 97, 99, 107]⟩) := hcell0
            go_wp2
            go_roundg g
            case measure => exact Nat.lt_succ_self g
            case rel => exact ⟨k + 1, n + 1, by go_num, by go_num, by omega, Lib.hid (by rw [count_take hy.out, hi]; rw [← HN.out]; rfl), hB⟩
          · rw [hh] at hcell0
            replace hcell0 : wr.cell? ⟨b2, o2, none⟩ = some (.string ⟨#[112, 111, 105, 110, 116, 115]⟩) := hcell0
            go_wp2
            go_roundg g
            case measure => exact Nat.lt_succ_self g
            case rel => exact ⟨k + 1, n + 1, by go_num, by go_num, by omega, Lib.hid (by rw [count_take hy.out, hi]; rw [← HN.out]; rfl), hB⟩
          · rw [hh] at hcell0
            replace hcell0 : wr.cell? ⟨b2, o2, none⟩ = some (.string ⟨#[99, 114, 111, 115, 115]⟩) := hcell0
            go_wp2
            go_roundg g
            case measure => exact Nat.lt_succ_self g
            case rel => exact ⟨k + 1, n + 1, by go_num, by go_num, by omega, Lib.hid (by rw [count_take hy.out, hi]; rw [← HN.out]; rfl), hB⟩
          · rw [hh] at hcell0
            replace hcell0 : wr.cell? ⟨b2, o2, none⟩ = some (.string ⟨#[108, 97, 121, 111, 117, 116]⟩) := hcell0
            go_wp2
            go_roundg g
            case measure => exact Nat.lt_succ_self g
            case rel => exact ⟨k + 1, n, by go_num, rfl, by omega, Lib.hid (by rw [count_take hy.out, hi]; rw [← HN.out]; rfl), hB⟩
          · rw [hh] at hcell0
            replace hcell0 : wr.cell? ⟨b2, o2, none⟩ = some (.string ⟨#[115, 101, 99, 116, 105, 111, 110]⟩) := hcell0
            go_wp2
            go_roundg g
            case measure => exact Nat.lt_succ_self g
            case rel => exact ⟨k + 1, n, by go_num, rfl, by omega, Lib.hid (by rw [count_take hy.out, hi]; rw [← HN.out]; rfl), hB⟩
          · rw [hh] at hcell0
            replace hcell0 : wr.cell? ⟨b2, o2, none⟩ = some (.string ⟨#[106, 111, 105, 110, 116]⟩) := hcell0
            go_wp2
            go_roundg g
            case measure => exact Nat.lt_succ_self g
            case rel => exact ⟨k + 1, n, by go_num, rfl, by omega, Lib.hid (by rw [count_take hy.out, hi]; rw [← HN.out]; rfl), hB⟩
          · rw [hh] at hcell0
            replace hcell0 : wr.cell? ⟨b2, o2, none⟩ = some (.string ⟨#[115, 105, 103, 110, 97, 108]⟩) := hcell0
            go_wp2
            go_roundg g
            case measure => exact Nat.lt_succ_self g
            case rel => exact ⟨k + 1, n, by go_num, rfl, by omega, Lib.hid (by rw [count_take hy.out, hi]; rw [← HN.out]; rfl), hB⟩
          · rw [hh] at hcell0
            replace hcell0 : wr.cell? ⟨b2, o2, none⟩ = some (.string ⟨#[98, 97, 108, 105, 115, 101]⟩) := hcell0
            go_wp2
            go_roundg g
            case measure => exact Nat.lt_succ_self g
            case rel => exact ⟨k + 1, n, by go_num, rfl, by omega, Lib.hid (by rw [count_take hy.out, hi]; rw [← HN.out]; rfl), hB⟩
end Go.Proofs.YteafkginhejllaaGreatDoor
