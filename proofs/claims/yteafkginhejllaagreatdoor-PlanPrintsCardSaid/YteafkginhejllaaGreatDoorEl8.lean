/- Contract of elementLine. Conditions: the layout can be read; the element is one of a valid layout; what the library reads (GT). -/
import Derived.Test.YteafkginhejllaaGreatDoorEw8
namespace Go.Proofs.YteafkginhejllaaGreatDoor
open Go.ChangeShapes Go.WideShapes Go.ChangeAt Go.RowKit
abbrev elAg (x : ElD) : Value := .agg #[str x.name, .int .i64 x.kind, .int .i64 x.length, .int .i64 x.grade, .int .i64 x.speed, .int .i64 x.slow, .int .i64 x.sec]
def elLineW (secs : List L8) (x : ElD) : List L8 := [kindW x.kind, x.name, secAt secs x.sec] ++ itoas8 [x.length, x.grade, x.speed]
theorem elLine_two {secs : List L8} {x : ElD} (h : x.kind = 2) : elLine secs x = elLineW secs x ++ itoas8 [x.slow] := by simp [elLine, elLineW, h, kindW, itoas8]
theorem elLine_not {secs : List L8} {x : ElD} (h : x.kind = 1 ∨ x.kind = 3) : elLine secs x = elLineW secs x := by
  rcases h with h | h <;> simp [elLine, elLineW, h, kindW, itoas8]
theorem sec_at {secs : List L8} {x : ElD} (h : OkEl secs x) : ∃ (j : Nat) (s : L8), x.sec = j ∧ secs[j]? = some s ∧ secAt secs x.sec = s := by
  obtain ⟨_, _, _, _, _, _, h0, h1⟩ := h
  refine ⟨x.sec.toNat, secs[x.sec.toNat]'(by omega), by omega, List.getElem?_eq_getElem (by omega), ?_⟩
  unfold secAt
  rw [List.getElem?_eq_getElem (by omega)]; rfl
theorem ints_own (W : World) (l : List Int) (n : Nat) (hn : n = l.length) (h : n ≤ 1000) : RS (W.alloc (.cells (intsV l).toArray 3)) (.slice (some ⟨W.heap.size, 0, none⟩) n n) (intsV l) :=
  RS.newAt W W.heap.size n n l _ _ rfl rfl hn ⟨by omega, Nat.le_refl _⟩
set_option maxRecDepth 100000 in
set_option maxHeartbeats 8000000 in
theorem elementLine_any (v : Value) (L : LayD) (x : ElD) (w : World) (hv : RLay w v L) (hG : GT w) (hx : OkEl L.secs x) :
    Calls Tryz.prog 45 #[v, elAg x] w (RetS w (elLine L.secs x)) := by
  obtain ⟨j, sn, hj, hsn, hse⟩ := sec_at hx
  obtain ⟨hk, _, b1, b2, b3, b4, _, _⟩ := hx
  have E2 : elLineW L.secs x = [kindW x.kind, x.name, sn] ++ itoas8 [x.length, x.grade, x.speed] := by unfold elLineW; rw [hse]
  have E : (x.kind = 2 → elLine L.secs x = [kindW x.kind, x.name, sn] ++ itoas8 [x.length, x.grade, x.speed] ++ itoas8 [x.slow]) ∧ (x.kind ≠ 2 → elLine L.secs x = [kindW x.kind, x.name, sn] ++ itoas8 [x.length, x.grade, x.speed]) :=
    ⟨fun h => by rw [elLine_two h, E2], fun h => by rw [elLine_not (by omega), E2]⟩
  clear E2 hse
  obtain ⟨res, hres⟩ : ∃ r, elLine L.secs x = r := ⟨_, rfl⟩
  rw [hres] at E ⊢
  clear hres
  obtain ⟨nn, kd, ln, gr, sp, sl, sc⟩ := x
  simp only at hj hk b1 b2 b3 b4 E
  subst hj
  change Calls Tryz.prog 45 #[v, .agg #[str nn, .int .i64 kd, .int .i64 ln, .int .i64 gr, .int .i64 sp, .int .i64 sl, .int .i64 (j : Int)]] w _
  obtain ⟨v1, v2, v3, v4, v5, rfl, h1, h2, h3, h4, h5⟩ := hv
  obtain ⟨a1, c1, rfl, ⟨m1, _⟩, HE⟩ := h1.openS
  obtain ⟨nm, en⟩ : ∃ s, str L.name = s := ⟨_, rfl⟩
  rw [en]
  obtain ⟨secs, ee⟩ : ∃ n, L.secs = n := ⟨_, rfl⟩
  rw [ee] at m1 HE hsn ⊢
  clear h1 h2 h3 h4 h5 en ee
  have hkl : j < secs.length := (List.getElem?_eq_some_iff.1 hsn).1
  have hki : (j : Int) < (secs.length : Int) := by omega
  obtain ⟨LV, hLV⟩ : ∃ LV : Array Value, LV = #[nm, .slice a1 secs.length c1, v2, v3, v4, v5] := ⟨_, rfl⟩
  obtain ⟨W1, hW⟩ : ∃ W1, W1 = (w.alloc (.cells LV 28)).alloc (.cells #[str nn, .int .i64 kd, .int .i64 ln, .int .i64 gr, .int .i64 sp, .int .i64 sl, .int .i64 (j : Int)] 45) := ⟨_, rfl⟩
  have HB : Below w.heap.size w W1 := by rw [hW]; exact ((Below.refl _ _).alloc (Nat.le_refl _) _).alloc (by simp) _
  have G1 : Blk W1 w.heap.size LV := by rw [hW]; exact (Blk.new _ _ _ _ rfl).old _
  have G2 : Blk W1 (w.heap.size + 1) #[str nn, .int .i64 kd, .int .i64 ln, .int .i64 gr, .int .i64 sp, .int .i64 sl, .int .i64 (j : Int)] := by rw [hW]; exact Blk.new _ _ _ _ (by simp)
  obtain ⟨b, off, rfl, hlt, hc0⟩ := HE.out.rd (Below.refl _ _) hsn
  have SK : ∀ W, Below W1.heap.size W1 W → (W.cell? ⟨w.heap.size, 1, none⟩ = some (.slice (some ⟨b, off, none⟩) secs.length c1) ∧ W.cell? ⟨w.heap.size + 1, 0, none⟩ = some (str nn) ∧ W.cell? ⟨w.heap.size + 1, 1, none⟩ = some (.int .i64 kd) ∧ W.cell? ⟨w.heap.size + 1, 6, none⟩ = some (.int .i64 (j : Int)) ∧
      W.cell? ⟨b, off + j, none⟩ = some (str sn) ∧ Below W1.heap.size W1 W) := by
    intro W h
    have g1 := G1.below h
    have g2 := G2.below h
    exact ⟨g1.at 1 _ (by rw [hLV]; rfl), g2.at 0 _ rfl, g2.at 1 _ rfl, g2.at 6 _ rfl, cell_kept (HB.trans (h.mono HB.size)) hc0, h⟩
  have SK2 : ∀ W, Below W1.heap.size W1 W → (W.cell? ⟨w.heap.size + 1, 1, none⟩ = some (.int .i64 kd) ∧ W.cell? ⟨w.heap.size + 1, 2, none⟩ = some (.int .i64 ln) ∧ W.cell? ⟨w.heap.size + 1, 3, none⟩ = some (.int .i64 gr) ∧ W.cell? ⟨w.heap.size + 1, 4, none⟩ = some (.int .i64 sp) ∧ W.cell? ⟨w.heap.size + 1, 5, none⟩ = some (.int .i64 sl)) := by
    intro W h
    have g2 := G2.below h
    exact ⟨g2.at 1 _ rfl, g2.at 2 _ rfl, g2.at 3 _ rfl, g2.at 4 _ rfl, g2.at 5 _ rfl⟩
  have hGW : ∀ W, Below W1.heap.size W1 W → GT W := fun W h => hG.below (HB.trans (h.mono HB.size))
  have K := fun W => kindWord_any kd hk W
  have KN1 := fun vv W (h : Below W1.heap.size W1 W) (hr : RS W vv (intsV [ln, gr, sp])) => numbers_any vv [ln, gr, sp] W hr (hGW W h) (by simp) (by intro n hn; simp at hn; rcases hn with rfl | rfl | rfl <;> assumption)
  have KN2 := fun vv W (h : Below W1.heap.size W1 W) (hr : RS W vv (intsV [sl])) => numbers_any vv [sl] W hr (hGW W h) (by simp) (by intro n hn; simp at hn; rcases hn with rfl; assumption)
  obtain ⟨kw, hkw⟩ : ∃ kw, kindW kd = kw := ⟨_, rfl⟩
  rw [hkw] at K E
  obtain ⟨n1, hn1⟩ : ∃ l, itoas8 [ln, gr, sp] = l := ⟨_, rfl⟩
  obtain ⟨n2, hn2⟩ : ∃ l, itoas8 [sl] = l := ⟨_, rfl⟩
  have l1 : n1.length = 3 := by rw [← hn1]; rfl
  have l2 : n2.length = 1 := by rw [← hn2]; rfl
  rw [hn1] at KN1 E
  rw [hn2] at KN2 E
  replace E := Lib.hid E
  replace l1 := Lib.hid l1
  replace l2 := Lib.hid l2
  clear HE hc0 G1 G2 hGW hn1 hn2 hkw hkl hG b1 b2 b3 b4 hk
  go_enter Tryz.func45, Tryz.ntmps45
  go_wp2_with fail
  rw [← hLV, ← hW]
  have SD := SK _ (Below.refl _ _).drew
  clear hW hLV
  go_region_held3 (fun W => W.cell? ⟨w.heap.size, 1, none⟩ = some (.slice (some ⟨b, off, none⟩) secs.length c1) ∧ W.cell? ⟨w.heap.size + 1, 0, none⟩ = some (str nn) ∧ W.cell? ⟨w.heap.size + 1, 1, none⟩ = some (.int .i64 kd) ∧ W.cell? ⟨w.heap.size + 1, 6, none⟩ = some (.int .i64 (j : Int)) ∧
      W.cell? ⟨b, off + j, none⟩ = some (str sn) ∧ Below W1.heap.size W1 W)
    (first | exact SD | (refine SK _ ?_; assumption) | (go_split_ands; refine SK _ (alloc_below ?_ (Nat.le_refl _) _); assumption))
    (first | (go_at_call 92; refine (K _).mono ?_; rintro e w2 ⟨rfl, b2⟩; have B2 := Below.trans (by go_split_ands; assumption) (Below.mono b2 (Below.size (by go_split_ands; assumption)))))
  rename_i hH
  have hs2 := B2.size
  have O3 := World.ownsRow_lit (base := W1.heap.size) (size := 1) (e := 9) w2 #[str kw, str nn, str sn] 3 hs2 (by unfold maxLen; omega) rfl
  have B3 := alloc_below B2 (Nat.le_refl _) (.cells #[str kw, str nn, str sn] 9)
  obtain ⟨w3, hw3⟩ : ∃ w3, w3 = w2.alloc (.cells #[str kw, str nn, str sn] 9) := ⟨_, rfl⟩
  obtain ⟨h2s, eh⟩ : ∃ n, w2.heap.size = n := ⟨_, rfl⟩
  rw [← hw3] at O3 B3 ⊢
  rw [eh] at O3 ⊢
  clear hw3 eh SD hH B2 b2 SK K hs2
  obtain ⟨q1, q2, q3, q4, q5⟩ := SK2 _ B3
  have hs3 := B3.size
  have B4 := alloc_below B3 (Nat.le_refl _) (.cells #[.int .i64 ln, .int .i64 gr, .int .i64 sp] 3)
  have R4 := ints_own w3 [ln, gr, sp] 3 rfl (by omega)
  replace O3 := Lib.hid O3
  have hq : (strsV n1).length = 3 := by rw [strsV_length]; exact l1.out
  have hq2 : (strsV n2).length = 1 := by rw [strsV_length]; exact l2.out
  by_cases hk2 : kd = 2
  · subst hk2
    have E3 := Lib.hid (E.out.1 rfl)
    clear E
    go_wp2_with (first
      | (go_at_call 48
         first
         | (refine (KN1 _ _ B4 R4).mono ?_; rintro e w4 ⟨v4, rfl, o4, b4⟩
            have rs4 := RS.own o4
            have B5 := B4.trans (b4.mono B4.size)
            rw [l1.out] at o4
            obtain ⟨a4, c4, rfl⟩ := own_slice o4
            have O5 := O3.out.alloc (.cells #[.int .i64 ln, .int .i64 gr, .int .i64 sp] 3)
            have O6 := own_below O5 b4
            have hs5 := B5.size
            clear O5 o4 KN1 R4)
         | (refine (KN2 _ _ B8 R8).mono ?_; rintro e w8 ⟨v8, rfl, o8, b8⟩
            have rs8 := RS.own o8
            have B9 := B8.trans (b8.mono B8.size)
            rw [l2.out] at o8
            obtain ⟨a8, c8, rfl⟩ := own_slice o8
            have O9 := own_below (p6.alloc (.cells #[.int .i64 sl] 3)) b8
            have hs9 := B9.size
            clear o8))
      | (at_builtin
         first
         | (refine wpList_append_rs _ rfl _ _ 22 rfl W1.heap.size 9 (.string ByteArray.empty) 16 Tryz.underlying22 info_str rfl _ 3 _ rfl O6 _ rfl (strsV n1) rs4 (strs_one _) (by omega) (by omega) hs5 ?_
            intro v6 w6 p6 gr6 nb6
            rw [hq] at p6
            have B7 := below_grown B5 gr6 O6 (Nat.le_refl _) hs5
            obtain ⟨a6, c6, rfl⟩ := own_slice p6
            obtain ⟨r1, r2, r3, r4, r5⟩ := SK2 _ B7
            have B8 := alloc_below B7 (Nat.le_refl _) (.cells #[.int .i64 sl] 3)
            have R8 := ints_own w6 [sl] 1 rfl (by omega)
            clear nb6 gr6 q1 q2 q3 q4 q5 rs4 O6)
         | (refine wpList_append_rs _ rfl _ _ 22 rfl W1.heap.size 9 (.string ByteArray.empty) 16 Tryz.underlying22 info_str rfl _ 6 _ rfl O9 _ rfl (strsV n2) rs8 (strs_one _) (by omega) (by omega) hs9 ?_
            intro v10 w10 p10 gr10 nb10
            rw [hq2] at p10
            have B11 := below_grown B9 gr10 O9 (Nat.le_refl _) hs9
            clear nb10 gr10)))
    go_ret
    refine ⟨_, rfl, ?_, HB.trans (B11.mono HB.size)⟩
    have hl : res.length = 7 := by rw [E3.out]; simp [l1.out, l2.out]
    rw [hl]
    have p12 := own_mono p10 HB.size
    rw [E3.out, strsV_app, strsV_app]
    exact p12
  · have hk3 : (kd == 2) = false := by simpa using hk2
    have E3 := Lib.hid (E.out.2 hk2)
    clear E hk2
    go_wp2_with (first
      | (go_at_call 48
         refine (KN1 _ _ B4 R4).mono ?_; rintro e w4 ⟨v4, rfl, o4, b4⟩
         have rs4 := RS.own o4
         have B5 := B4.trans (b4.mono B4.size)
         rw [l1.out] at o4
         obtain ⟨a4, c4, rfl⟩ := own_slice o4
         have O5 := O3.out.alloc (.cells #[.int .i64 ln, .int .i64 gr, .int .i64 sp] 3)
         have O6 := own_below O5 b4
         have hs5 := B5.size
         clear O5 o4)
      | (at_builtin
         refine wpList_append_rs _ rfl _ _ 22 rfl W1.heap.size 9 (.string ByteArray.empty) 16 Tryz.underlying22 info_str rfl _ 3 _ rfl O6 _ rfl (strsV n1) rs4 (strs_one _) (by omega) (by omega) hs5 ?_
         intro v6 w6 p6 gr6 nb6
         rw [hq] at p6
         have B7 := below_grown B5 gr6 O6 (Nat.le_refl _) hs5
         obtain ⟨r1, r2, r3, r4, r5⟩ := SK2 _ B7
         clear nb6 gr6 q1 q2 q3 q4 q5))
    go_ret
    refine ⟨_, rfl, ?_, HB.trans (B7.mono HB.size)⟩
    have hl : res.length = 6 := by rw [E3.out]; simp [l1.out]
    rw [hl]
    have p12 := own_mono p6 HB.size
    rw [E3.out, strsV_app]
    exact p12
end Go.Proofs.YteafkginhejllaaGreatDoor
