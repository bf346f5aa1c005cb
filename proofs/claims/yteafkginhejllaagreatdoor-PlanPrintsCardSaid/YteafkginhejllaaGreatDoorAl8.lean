/- The chapter's examples: what they come to. No condition. -/
import Derived.Test.YteafkginhejllaaGreatDoorSm8
namespace Go.Proofs.YteafkginhejllaaGreatDoor
open Go.ChangeShapes Go.WideShapes Go.ChangeAt Go.RowKit
def want8 : LayD := ⟨[108, 105, 110, 101], [[97], [98]], [⟨[97], 1, 20000, 0, 1000, 0, 0⟩, ⟨[98], 1, 20000, 0, 1000, 0, 1⟩], [((0, 1), (1, 0))], [⟨[115, 49], (0, 1), 0⟩], []⟩
def tx1 : L8 := [108, 97, 121, 111, 117, 116, 32, 108, 105, 110, 101, 10, 115, 101, 99, 116, 105, 111, 110, 32, 97, 10, 115, 101, 99, 116, 105, 111, 110, 32, 98, 10, 116, 114, 97, 99, 107, 32, 97, 32, 97, 32, 50, 48, 48, 48, 48, 32, 48, 32, 49, 48, 48, 48, 10, 116, 114, 97, 99, 107, 32, 98, 32, 98, 32, 50, 48, 48, 48, 48, 32, 48, 32, 49, 48, 48, 48, 10, 106, 111, 105, 110, 116, 32, 97, 32, 49, 32, 98, 32, 48, 10, 115, 105, 103, 110, 97, 108, 32, 115, 49, 32, 97, 32, 49, 32, 48, 10]
def tx2 : L8 := [108, 97, 121, 111, 117, 116, 32, 108, 105, 110, 101, 10, 115, 101, 99, 116, 105, 111, 110, 32, 97, 10, 116, 114, 97, 99, 107, 32, 97, 32, 120, 32, 50, 48, 48, 48, 48, 32, 48, 32, 49, 48, 48, 48, 10]
def tx3 : L8 := [108, 97, 121, 111, 117, 116, 32, 108, 105, 110, 101, 10]
set_option maxRecDepth 100000 in
theorem want_print : printS want8 = (tx1, 0) := by kernel_rfl
set_option maxRecDepth 100000 in
theorem want_parse : parseS tx1 = (want8, 0, 0) := by kernel_rfl
set_option maxRecDepth 100000 in
theorem parse2 : parseS tx2 = (zeroL, 3, 9) := by kernel_rfl
set_option maxRecDepth 100000 in
theorem parse3 : parseS tx3 = (zeroL, 0, 2) := by kernel_rfl
theorem text_any (w : World) : Calls Tryz.prog 17 #[] w (fun e w' => e = .returned (str tx1) ∧ w = w') := by
  go_enter Tryz.func17, Tryz.ntmps17
  go_wp2
  go_ret
  exact ⟨rfl, rfl⟩
abbrev elC : Array Value := #[.string ⟨#[97]⟩, .int .i64 1, .int .i64 20000, .int .i64 0, .int .i64 1000, .int .i64 0, .int .i64 0, .string ⟨#[98]⟩, .int .i64 1, .int .i64 20000, .int .i64 0, .int .i64 1000, .int .i64 0, .int .i64 1]
theorem want_rlay (w W5 : World) (LV : Array Value)
    (hW : W5 = ((((w.alloc (.cells #[.string ⟨#[97]⟩, .string ⟨#[98]⟩] 9)).alloc (.cells elC 45)).alloc (.cells #[.int .i64 0, .int .i64 1, .int .i64 1, .int .i64 0] 49)).alloc (.cells #[.string ⟨#[115, 49]⟩, .int .i64 0, .int .i64 1, .int .i64 0] 51)).alloc (.cells LV 28))
    (hLV : LV = #[.string ⟨#[108, 105, 110, 101]⟩, .slice (some ⟨w.heap.size, 0, none⟩) 2 2, .slice (some ⟨w.heap.size + 1, 0, none⟩) 2 2, .slice (some ⟨w.heap.size + 1 + 1, 0, none⟩) 1 1, .slice (some ⟨w.heap.size + 1 + 1 + 1, 0, none⟩) 1 1, .slice none 0 0]) : RLay W5 (.agg LV) want8 := by
  obtain ⟨A, hA⟩ : ∃ A, A = w.alloc (.cells #[.string ⟨#[97]⟩, .string ⟨#[98]⟩] 9) := ⟨_, rfl⟩
  obtain ⟨B, hB⟩ : ∃ B, B = A.alloc (.cells elC 45) := ⟨_, rfl⟩
  obtain ⟨C, hC⟩ : ∃ C, C = B.alloc (.cells #[.int .i64 0, .int .i64 1, .int .i64 1, .int .i64 0] 49) := ⟨_, rfl⟩
  obtain ⟨D, hD⟩ : ∃ D, D = C.alloc (.cells #[.string ⟨#[115, 49]⟩, .int .i64 0, .int .i64 1, .int .i64 0] 51) := ⟨_, rfl⟩
  rw [← hA, ← hB, ← hC, ← hD] at hW
  have nA : A.heap.size = w.heap.size + 1 := by rw [hA]; simp
  have nB : B.heap.size = w.heap.size + 1 + 1 := by rw [hB]; simp [nA]
  have nC : C.heap.size = w.heap.size + 1 + 1 + 1 := by rw [hC]; simp [nB]
  rw [← nA] at hLV
  rw [← nA] at nB nC
  rw [← nB] at nC
  rw [show A.heap.size + 1 = B.heap.size from nB.symm, show B.heap.size + 1 = C.heap.size from nC.symm] at hLV
  have bB : Below A.heap.size A B := by rw [hB]; exact (Below.refl _ _).alloc (Nat.le_refl _) _
  have bC : Below B.heap.size B C := by rw [hC]; exact (Below.refl _ _).alloc (Nat.le_refl _) _
  have bD : Below C.heap.size C D := by rw [hD]; exact (Below.refl _ _).alloc (Nat.le_refl _) _
  have bE : Below D.heap.size D W5 := by rw [hW]; exact (Below.refl _ _).alloc (Nat.le_refl _) _
  have h1 : RS A (.slice (some ⟨w.heap.size, 0, none⟩) 2 2) (strsV [[97], [98]]) := by rw [hA]; exact RS.new w 2 2 _ _ _ rfl rfl ⟨by omega, by omega⟩
  have h2 : RM B (.slice (some ⟨A.heap.size, 0, none⟩) 2 2) 7 (want8.els.map elV) := by
    rw [hB]; exact RM.ownM (base := 0) (e := 45) (World.ownsRow_lit (base := 0) (size := 7) (e := 45) A elC 2 (Nat.zero_le _) (by unfold maxLen; omega) rfl) (rows8 (f := elV) (m := 7) (fun _ => rfl) _)
  have h3 : RM C (.slice (some ⟨B.heap.size, 0, none⟩) 1 1) 4 (want8.joints.map joV) := by
    rw [hC]; exact RM.ownM (base := 0) (e := 49) (World.ownsRow_lit (base := 0) (size := 4) (e := 49) B _ 1 (Nat.zero_le _) (by unfold maxLen; omega) rfl) (rows8 (f := joV) (m := 4) (fun _ => rfl) _)
  have h4 : RM D (.slice (some ⟨C.heap.size, 0, none⟩) 1 1) 4 (want8.sigs.map sgV) := by
    rw [hD]; exact RM.ownM (base := 0) (e := 51) (World.ownsRow_lit (base := 0) (size := 4) (e := 51) C _ 1 (Nat.zero_le _) (by unfold maxLen; omega) rfl) (rows8 (f := sgV) (m := 4) (fun _ => rfl) _)
  exact ⟨_, _, _, _, _, by rw [hLV]; rfl, (((h1.below bB).below bC).below bD).below bE, ((h2.below bC).below bD).below bE, (h3.below bD).below bE, h4.below bE, ⟨none, 0, rfl, ⟨by simp [want8], by simp [want8]⟩, fun j r hr => by simp [want8] at hr⟩⟩
set_option maxRecDepth 100000 in
set_option maxHeartbeats 8000000 in
theorem alive_any (w : World) (hT : GT w) (hG : GW w) : Calls Tryz.prog 8 #[] w (RetB w true) := by
  have KT := text_any
  have KP := fun ww hT hG => parse_any tx1 ww hT hG (by decide)
  have KP2 := fun ww hT hG => parse_any tx2 ww hT hG (by decide)
  have KP3 := fun ww hT hG => parse_any tx3 ww hT hG (by decide)
  have KR := fun v ww hT hG hv => print_any v want8 ww hT hG hv ⟨by decide, by decide, by decide⟩
  rw [want_parse] at KP
  rw [parse2] at KP2
  rw [parse3] at KP3
  rw [want_print] at KR
  obtain ⟨LV, hLV⟩ : ∃ LV : Array Value, LV = #[.string ⟨#[108, 105, 110, 101]⟩, .slice (some ⟨w.heap.size, 0, none⟩) 2 2, .slice (some ⟨w.heap.size + 1, 0, none⟩) 2 2, .slice (some ⟨w.heap.size + 1 + 1, 0, none⟩) 1 1, .slice (some ⟨w.heap.size + 1 + 1 + 1, 0, none⟩) 1 1, .slice none 0 0] := ⟨_, rfl⟩
  obtain ⟨W5, hW⟩ : ∃ W5, W5 = ((((w.alloc (.cells #[.string ⟨#[97]⟩, .string ⟨#[98]⟩] 9)).alloc (.cells elC 45)).alloc (.cells #[.int .i64 0, .int .i64 1, .int .i64 1, .int .i64 0] 49)).alloc (.cells #[.string ⟨#[115, 49]⟩, .int .i64 0, .int .i64 1, .int .i64 0] 51)).alloc (.cells LV 28) := ⟨_, rfl⟩
  have HL := want_rlay w W5 LV hW hLV
  go_enter Tryz.func8, Tryz.ntmps8
  have GB : Blk W5 (w.heap.size + 1 + 1 + 1 + 1) LV := by rw [hW]; exact Blk.new _ _ _ _ (by simp)
  have B5 : Below w.heap.size w W5 := by rw [hW]; exact (((((Below.refl _ _).alloc (Nat.le_refl _) _).alloc (by simp) _).alloc (by simp; omega) _).alloc (by simp; omega) _).alloc (by simp; omega) _
  have SK : ∀ W, Below W5.heap.size W5 W → (W.cell? ⟨w.heap.size + 1 + 1 + 1 + 1, 0, none⟩ = some (.string ⟨#[108, 105, 110, 101]⟩) ∧ W.cell? ⟨w.heap.size + 1 + 1 + 1 + 1, 1, none⟩ = some (.slice (some ⟨w.heap.size, 0, none⟩) 2 2) ∧ W.cell? ⟨w.heap.size + 1 + 1 + 1 + 1, 2, none⟩ = some (.slice (some ⟨w.heap.size + 1, 0, none⟩) 2 2) ∧
      W.cell? ⟨w.heap.size + 1 + 1 + 1 + 1, 3, none⟩ = some (.slice (some ⟨w.heap.size + 1 + 1, 0, none⟩) 1 1) ∧ W.cell? ⟨w.heap.size + 1 + 1 + 1 + 1, 4, none⟩ = some (.slice (some ⟨w.heap.size + 1 + 1 + 1, 0, none⟩) 1 1) ∧ W.cell? ⟨w.heap.size + 1 + 1 + 1 + 1, 5, none⟩ = some (.slice none 0 0)) := by
    intro W h
    have g1 := GB.below h
    exact ⟨g1.at 0 _ (by rw [hLV]; rfl), g1.at 1 _ (by rw [hLV]; rfl), g1.at 2 _ (by rw [hLV]; rfl), g1.at 3 _ (by rw [hLV]; rfl), g1.at 4 _ (by rw [hLV]; rfl), g1.at 5 _ (by rw [hLV]; rfl)⟩
  go_upto_region 2 with fail
  rw [← hLV, ← hW]
  clear hW GB
  go_upto_region 3 with (first
    | (go_at_call 17
       refine (KT _).mono ?_
       rintro e w1 ⟨rfl, rfl⟩)
    | (go_at_call 12
       refine (KP _ (hT.below B5) (hG.below B5)).mono ?_
       rintro e w2 ⟨v2, rfl, hLO, C2⟩
       have HLO := Lib.hid hLO
       obtain ⟨_, _, _, _, _, rfl, o1, o2, o3, o4, o5⟩ := hLO
       obtain ⟨p1, r1, rfl⟩ := own_shape o1
       obtain ⟨p2, r2, rfl⟩ := own_shape o2
       obtain ⟨p3, r3, rfl⟩ := own_shape o3
       obtain ⟨p4, r4, rfl⟩ := own_shape o4
       obtain ⟨p5, r5, rfl⟩ := own_shape o5
       clear o1 o2 o3 o4 o5
       clear KP))
  obtain ⟨W6, hW6⟩ : ∃ W, W = w2.alloc (.cells #[.string ⟨want8.name.toArray⟩, .slice p1 want8.secs.length r1, .slice p2 want8.els.length r2, .slice p3 want8.joints.length r3, .slice p4 want8.sigs.length r4, .slice p5 want8.bals.length r5] 28) := ⟨_, rfl⟩
  rw [← hW6]
  have C6 : Below w2.heap.size w2 W6 := by rw [hW6]; exact (Below.refl _ _).alloc (Nat.le_refl _) _
  have G6 : Blk W6 w2.heap.size #[.string ⟨want8.name.toArray⟩, .slice p1 want8.secs.length r1, .slice p2 want8.els.length r2, .slice p3 want8.joints.length r3, .slice p4 want8.sigs.length r4, .slice p5 want8.bals.length r5] := by rw [hW6]; exact Blk.new _ _ _ _ rfl
  have HL6 := HLO.out.below C6
  have D6 : Below W5.heap.size W5 W6 := C2.trans (C6.mono C2.size)
  have E6 := B5.trans (D6.mono B5.size)
  obtain ⟨q0, q1, q2, q3, q4, q5⟩ := SK _ D6
  have HL' := HL.below D6
  rw [hLV] at HL'
  clear hW6 HLO C6 C2
  go_upto_region 4 with (
    go_at_call 9
    refine (KR _ _ (hT.below E6) (hG.below E6) HL').mono ?_
    rintro e w3 ⟨rfl, C3⟩
    clear KR)
  have E3 := E6.trans (C3.mono E6.size)
  clear q0 q1 q2 q3 q4 q5
  go_upto_region 5 with (
    go_at_call 12
    refine (KP2 _ (hT.below E3) (hG.below E3)).mono ?_
    rintro e w4 ⟨v4, rfl, hLO4, C4⟩
    obtain ⟨_, _, _, _, _, rfl, o1, o2, o3, o4, o5⟩ := hLO4
    obtain ⟨m1, n1, rfl⟩ := own_shape o1
    obtain ⟨m2, n2, rfl⟩ := own_shape o2
    obtain ⟨m3, n3, rfl⟩ := own_shape o3
    obtain ⟨m4, n4, rfl⟩ := own_shape o4
    obtain ⟨m5, n5, rfl⟩ := own_shape o5
    clear o1 o2 o3 o4 o5
    clear KP2)
  obtain ⟨W7, hW7⟩ : ∃ W, W = w4.alloc (.cells #[.string ⟨zeroL.name.toArray⟩, .slice m1 zeroL.secs.length n1, .slice m2 zeroL.els.length n2, .slice m3 zeroL.joints.length n3, .slice m4 zeroL.sigs.length n4, .slice m5 zeroL.bals.length n5] 28) := ⟨_, rfl⟩
  rw [← hW7]
  have C7 : Below w4.heap.size w4 W7 := by rw [hW7]; exact (Below.refl _ _).alloc (Nat.le_refl _) _
  have D7 : Below w3.heap.size w3 W7 := C4.trans (C7.mono C4.size)
  have E7 := E3.trans (D7.mono E3.size)
  clear hW7 C7 C4
  go_upto_region 6 with (
    go_at_call 12
    refine (KP3 _ (hT.below E7) (hG.below E7)).mono ?_
    rintro e w5 ⟨v5, rfl, hLO5, C5⟩
    obtain ⟨_, _, _, _, _, rfl, o1, o2, o3, o4, o5⟩ := hLO5
    obtain ⟨x1, y1, rfl⟩ := own_shape o1
    obtain ⟨x2, y2, rfl⟩ := own_shape o2
    obtain ⟨x3, y3, rfl⟩ := own_shape o3
    obtain ⟨x4, y4, rfl⟩ := own_shape o4
    obtain ⟨x5, y5, rfl⟩ := own_shape o5
    clear o1 o2 o3 o4 o5
    clear KP3)
  obtain ⟨W8, hW8⟩ : ∃ W, W = w5.alloc (.cells #[.string ⟨zeroL.name.toArray⟩, .slice x1 zeroL.secs.length y1, .slice x2 zeroL.els.length y2, .slice x3 zeroL.joints.length y3, .slice x4 zeroL.sigs.length y4, .slice x5 zeroL.bals.length y5] 28) := ⟨_, rfl⟩
  rw [← hW8]
  have C8 : Below w5.heap.size w5 W8 := by rw [hW8]; exact (Below.refl _ _).alloc (Nat.le_refl _) _
  have D8 : Below W6.heap.size W6 W8 := C3.trans ((D7.trans ((C5.trans (C8.mono C5.size)).mono D7.size)).mono C3.size)
  have E8 := E6.trans (D8.mono E6.size)
  have G8 := G6.below D8
  have KS := same_any _ _ want8 W8 (HL6.below D8).rlay (HL'.below D8)
  obtain ⟨q0, q1, q2, q3, q4, q5⟩ := SK _ (D6.trans (D8.mono D6.size))
  have z0 := G8.at 0 _ rfl
  have z1 := G8.at 1 _ rfl
  have z2 := G8.at 2 _ rfl
  have z3 := G8.at 3 _ rfl
  have z4 := G8.at 4 _ rfl
  have z5 := G8.at 5 _ rfl
  clear hW8 C8 C5 D7 C3 E7 E3 E6 HL6 G8 G6 D8 D6
  go_wp2_with (first
    | (go_at_call 13
       refine KS.mono ?_
       rintro e w9 ⟨rfl, C9⟩)
    | (go_at_call 17
       refine (KT _).mono ?_
       rintro e w1 ⟨rfl, rfl⟩))
  go_ret
  exact ⟨rfl, E8.trans (C9.mono E8.size)⟩
end Go.Proofs.YteafkginhejllaaGreatDoor
