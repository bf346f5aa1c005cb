/- Contract of the reference's element. Conditions: the layout can be read; the element is one of a valid layout. -/
import Derived.Test.YteafkginhejllaaGreatDoorRn8
import Derived.Deep.Cut
namespace Go.Proofs.YteafkginhejllaaGreatDoor
open Go.ChangeShapes Go.WideShapes Go.ChangeAt Go.RowKit
theorem el_points {secs : List L8} {x : ElD} (h : x.kind = 2) : elLine secs x = [kPoints, x.name, secAt secs x.sec] ++ itoas8 [x.length, x.grade, x.speed, x.slow] := by simp [elLine, h, itoas8]
theorem el_cross {secs : List L8} {x : ElD} (h : x.kind = 3) : elLine secs x = [kCross, x.name, secAt secs x.sec] ++ itoas8 [x.length, x.grade, x.speed] := by simp [elLine, h, itoas8]
theorem el_track {secs : List L8} {x : ElD} (h : x.kind = 1) : elLine secs x = [kTrack, x.name, secAt secs x.sec] ++ itoas8 [x.length, x.grade, x.speed] := by simp [elLine, h, itoas8]
set_option maxRecDepth 100000 in
set_option maxHeartbeats 8000000 in
theorem r8element_any (v : Value) (L : LayD) (x : ElD) (w : World) (hv : RLay w v L) (hx : OkEl L.secs x) :
    Calls Tryz.prog 20 #[v, elAg x] w (RetS w (elLine L.secs x)) := by
  obtain ⟨j, sn, hj, hsn, hse⟩ := sec_at hx
  obtain ⟨hk, _, b1, b2, b3, b4, _, _⟩ := hx
  have E2 := el_points (secs := L.secs) (x := x)
  have E3 := el_cross (secs := L.secs) (x := x)
  have E1 := el_track (secs := L.secs) (x := x)
  rw [hse] at E1 E2 E3
  obtain ⟨res, hres⟩ : ∃ r, elLine L.secs x = r := ⟨_, rfl⟩
  rw [hres] at E1 E2 E3 ⊢
  clear hres hse
  obtain ⟨nn, kd, ln, gr, sp, sl, sc⟩ := x
  simp only at hj hk b1 b2 b3 b4 E1 E2 E3
  subst hj
  change Calls Tryz.prog 20 #[v, .agg #[str nn, .int .i64 kd, .int .i64 ln, .int .i64 gr, .int .i64 sp, .int .i64 sl, .int .i64 (j : Int)]] w _
  obtain ⟨v1, v2, v3, v4, v5, rfl, h1, h2, h3, h4, h5⟩ := hv
  obtain ⟨a1, c1, rfl, ⟨m1, _⟩, HE⟩ := h1.openS
  obtain ⟨nm, en⟩ : ∃ s, str L.name = s := ⟨_, rfl⟩
  rw [en]
  obtain ⟨secs, ee⟩ : ∃ n, L.secs = n := ⟨_, rfl⟩
  rw [ee] at m1 HE hsn ⊢
  clear h1 h2 h3 h4 h5 en ee
  have hkl : j < secs.length := (List.getElem?_eq_some_iff.1 hsn).1
  have hki : (j : Int) < (secs.length : Int) := by omega
  obtain ⟨LV, hLV⟩ : ∃ LV : Array Value, LV = #[nm, .slice a1 secs.length c1, v2, v3, v4, v5] := ⟨_, rfl⟩
  obtain ⟨W1, hW⟩ : ∃ W1, W1 = (w.alloc (.cells LV 28)).alloc (.cells #[str nn, .int .i64 kd, .int .i64 ln, .int .i64 gr, .int .i64 sp, .int .i64 sl, .int .i64 (j : Int)] 45) := ⟨_, rfl⟩
  have HB : Below w.heap.size w W1 := by rw [hW]; exact ((Below.refl _ _).alloc (Nat.le_refl _) _).alloc (by simp) _
  have G1 : Blk W1 w.heap.size LV := by rw [hW]; exact (Blk.new _ _ _ _ rfl).old _
  have G2 : Blk W1 (w.heap.size + 1) #[str nn, .int .i64 kd, .int .i64 ln, .int .i64 gr, .int .i64 sp, .int .i64 sl, .int .i64 (j : Int)] := by rw [hW]; exact Blk.new _ _ _ _ (by simp)
  obtain ⟨b, off, rfl, hlt, hc0⟩ := HE.out.rd HB hsn
  have z1 := G1.at 1 _ (by rw [hLV]; rfl)
  have y0 := G2.at 0 _ rfl
  have y1 := G2.at 1 _ rfl
  have y2 := G2.at 2 _ rfl
  have y3 := G2.at 3 _ rfl
  have y4 := G2.at 4 _ rfl
  have y5 := G2.at 5 _ rfl
  have y6 := G2.at 6 _ rfl
  clear HE G1 hsn
  have B1 := fun o => alloc_below (Below.refl W1.heap.size W1) (Nat.le_refl _) o
  have B2 := fun o o' => alloc_below (B1 o) (Nat.le_refl _) o'
  rcases hk with rfl | rfl | rfl
  · clear E2 E3
    obtain rfl := E1 rfl
    have RW : RS (W1.alloc (.cells #[.string ⟨#[116, 114, 97, 99, 107]⟩, str nn, str sn] 9)) (.slice (some ⟨W1.heap.size, 0, none⟩) 3 3) (strsV [kTrack, nn, sn]) := RS.new W1 3 3 _ _ _ rfl rfl ⟨by omega, by omega⟩
    have RI : RS ((W1.alloc (.cells #[.string ⟨#[116, 114, 97, 99, 107]⟩, str nn, str sn] 9)).alloc (.cells #[.int .i64 ln, .int .i64 gr, .int .i64 sp] 3)) (.slice (some ⟨W1.heap.size + 1, 0, none⟩) 3 3) (intsV [ln, gr, sp]) :=
      RS.newAt (W1.alloc (.cells #[.string ⟨#[116, 114, 97, 99, 107]⟩, str nn, str sn] 9)) _ 3 3 [ln, gr, sp] _ _ (by simp) rfl rfl ⟨by omega, by omega⟩
    have KL := r8line_any _ _ [kTrack, nn, sn] [ln, gr, sp] _ (RW.alloc _) RI (by simp) (by simp) (by intro n hn; simp at hn; rcases hn with rfl | rfl | rfl <;> assumption)
    obtain ⟨res, hres⟩ : ∃ r, [kTrack, nn, sn] ++ itoas8 [ln, gr, sp] = r := ⟨_, rfl⟩
    rw [hres] at KL ⊢
    have G3 := G2.below (B1 (.cells #[.string ⟨#[116, 114, 97, 99, 107]⟩, str nn, str sn] 9))
    have x2 := G3.at 2 _ rfl
    have x3 := G3.at 3 _ rfl
    have x4 := G3.at 4 _ rfl
    have x5 := G3.at 5 _ rfl
    clear hres RW RI G2 G3
    go_enter Tryz.func20, Tryz.ntmps20
    go_upto_region 1 with fail
    rw [← hLV, ← hW]
    clear hLV hW
    go_wp2_with (
      go_at_call 23
      refine KL.mono ?_
      rintro e w5 ⟨v5, rfl, o5, b5⟩
      have b6 := HB.trans ((B2 _ _).trans (b5.mono (B2 _ _).size) |>.mono HB.size)
      obtain ⟨a5, c5, rfl⟩ := own_slice o5
      have o6 := own_mono o5 (Nat.le_trans HB.size (B2 _ _).size)
      clear o5 b5 KL)
    go_ret
    exact ⟨_, rfl, o6, b6⟩
  · clear E1 E3
    obtain rfl := E2 rfl
    have RW : RS (W1.alloc (.cells #[.string ⟨#[112, 111, 105, 110, 116, 115]⟩, str nn, str sn] 9)) (.slice (some ⟨W1.heap.size, 0, none⟩) 3 3) (strsV [kPoints, nn, sn]) := RS.new W1 3 3 _ _ _ rfl rfl ⟨by omega, by omega⟩
    have RI : RS ((W1.alloc (.cells #[.string ⟨#[112, 111, 105, 110, 116, 115]⟩, str nn, str sn] 9)).alloc (.cells #[.int .i64 ln, .int .i64 gr, .int .i64 sp, .int .i64 sl] 3)) (.slice (some ⟨W1.heap.size + 1, 0, none⟩) 4 4) (intsV [ln, gr, sp, sl]) :=
      RS.newAt (W1.alloc (.cells #[.string ⟨#[112, 111, 105, 110, 116, 115]⟩, str nn, str sn] 9)) _ 4 4 [ln, gr, sp, sl] _ _ (by simp) rfl rfl ⟨by omega, by omega⟩
    have KL := r8line_any _ _ [kPoints, nn, sn] [ln, gr, sp, sl] _ (RW.alloc _) RI (by simp) (by simp) (by intro n hn; simp at hn; rcases hn with rfl | rfl | rfl | rfl <;> assumption)
    obtain ⟨res, hres⟩ : ∃ r, [kPoints, nn, sn] ++ itoas8 [ln, gr, sp, sl] = r := ⟨_, rfl⟩
    rw [hres] at KL ⊢
    have G3 := G2.below (B1 (.cells #[.string ⟨#[112, 111, 105, 110, 116, 115]⟩, str nn, str sn] 9))
    have x2 := G3.at 2 _ rfl
    have x3 := G3.at 3 _ rfl
    have x4 := G3.at 4 _ rfl
    have x5 := G3.at 5 _ rfl
    clear hres RW RI G2 G3
    go_enter Tryz.func20, Tryz.ntmps20
    go_upto_region 1 with fail
    rw [← hLV, ← hW]
    clear hLV hW
    go_wp2_with (
      go_at_call 23
      refine KL.mono ?_
      rintro e w5 ⟨v5, rfl, o5, b5⟩
      have b6 := HB.trans ((B2 _ _).trans (b5.mono (B2 _ _).size) |>.mono HB.size)
      obtain ⟨a5, c5, rfl⟩ := own_slice o5
      have o6 := own_mono o5 (Nat.le_trans HB.size (B2 _ _).size)
      clear o5 b5 KL)
    go_ret
    exact ⟨_, rfl, o6, b6⟩
  · clear E1 E2
    obtain rfl := E3 rfl
    have RW : RS (W1.alloc (.cells #[.string ⟨#[99, 114, 111, 115, 115]⟩, str nn, str sn] 9)) (.slice (some ⟨W1.heap.size, 0, none⟩) 3 3) (strsV [kCross, nn, sn]) := RS.new W1 3 3 _ _ _ rfl rfl ⟨by omega, by omega⟩
    have RI : RS ((W1.alloc (.cells #[.string ⟨#[99, 114, 111, 115, 115]⟩, str nn, str sn] 9)).alloc (.cells #[.int .i64 ln, .int .i64 gr, .int .i64 sp] 3)) (.slice (some ⟨W1.heap.size + 1, 0, none⟩) 3 3) (intsV [ln, gr, sp]) :=
      RS.newAt (W1.alloc (.cells #[.string ⟨#[99, 114, 111, 115, 115]⟩, str nn, str sn] 9)) _ 3 3 [ln, gr, sp] _ _ (by simp) rfl rfl ⟨by omega, by omega⟩
    have KL := r8line_any _ _ [kCross, nn, sn] [ln, gr, sp] _ (RW.alloc _) RI (by simp) (by simp) (by intro n hn; simp at hn; rcases hn with rfl | rfl | rfl <;> assumption)
    obtain ⟨res, hres⟩ : ∃ r, [kCross, nn, sn] ++ itoas8 [ln, gr, sp] = r := ⟨_, rfl⟩
    rw [hres] at KL ⊢
    have G3 := G2.below (B1 (.cells #[.string ⟨#[99, 114, 111, 115, 115]⟩, str nn, str sn] 9))
    have x2 := G3.at 2 _ rfl
    have x3 := G3.at 3 _ rfl
    have x4 := G3.at 4 _ rfl
    have x5 := G3.at 5 _ rfl
    clear hres RW RI G2 G3
    go_enter Tryz.func20, Tryz.ntmps20
    go_upto_region 1 with fail
    rw [← hLV, ← hW]
    clear hLV hW
    go_wp2_with (
      go_at_call 23
      refine KL.mono ?_
      rintro e w5 ⟨v5, rfl, o5, b5⟩
      have b6 := HB.trans ((B2 _ _).trans (b5.mono (B2 _ _).size) |>.mono HB.size)
      obtain ⟨a5, c5, rfl⟩ := own_slice o5
      have o6 := own_mono o5 (Nat.le_trans HB.size (B2 _ _).size)
      clear o5 b5 KL)
    go_ret
    exact ⟨_, rfl, o6, b6⟩
end Go.Proofs.YteafkginhejllaaGreatDoor
