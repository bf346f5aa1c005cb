/- Texts of the layers 5 to 7, merged. -/
import Derived.Deep.RegionHeld3
import Derived.Test.YteafkginhejllaaGreatDoorO8
namespace Go.Proofs.YteafkginhejllaaGreatDoor
section
open Go.ChangeShapes Go.WideShapes Go.ChangeAt Go.RowKit
theorem take_op {P : Program} {md : Region.Mode} {ops : Array Oper} {Q : Exit → Act → World → Prop} {S : World → Prop} {i : Nat} {oi : Oper} {d : Option Tmp} {v : Value} {fuel : Nat} {listed : Array Bool} {a : Act} {w : World} (hi : ops[i]? = some oi) (hd : oi.dst = d)
    (hs : Region.noSelect ops = true) (hf : Region.free md ops listed i = true) (hr : (Region.ready md ops listed).contains i = true)
    (hQ : ∀ c a w, Q (.panic c) (a.put oi.dst v) w → Q (.panic c) a w) (hy : YieldsIf P ops S oi v a) (hS : S w)
    (h : wpAnyH P md ops Q S fuel (listed.setIfInBounds i true) (a.put d v) w) : wpAnyH P md ops Q S (fuel + 1) listed a w := by
  subst hd
  exact wpAnyH_take hi hs hf hr hQ hy hS h
set_option maxRecDepth 100000 in
set_option maxHeartbeats 8000000 in
theorem jointsEnd_any (v : Value) (L : LayD) (w : World) (hv : RLay w v L) (n3 : L.joints.length ≤ 100000) : Calls Tryz.prog 30 #[v] w (RetB w (jdB L)) := by
  have EQ : jdB L = decide (((mapJ L.joints.reverse).length : Int) = 2 * (L.joints.length : Int)) := by
    unfold jdB
    rw [← mapJ_rev_len, Bool.eq_iff_iff, decide_eq_true_eq, decide_eq_true_eq]
    omega
  rw [EQ]
  clear EQ
  have HV := Lib.hid hv
  obtain ⟨v1, v2, v3, v4, v5, rfl, r1, r2, r3, r4, r5⟩ := hv
  clear r1 r2 r4 r5
  obtain ⟨a3, c3, rfl, ⟨m3, _⟩, _⟩ := r3.openM
  clear r3
  have KE := fun W (h : Below w.heap.size w W) => ends_any _ L W (HV.out.below h) n3
  obtain ⟨nm, es⟩ : ∃ s, str L.name = s := ⟨_, rfl⟩
  rw [es] at KE ⊢
  clear es HV
  obtain ⟨M, hM⟩ : ∃ M, mapJ L.joints.reverse = M := ⟨_, rfl⟩
  rw [hM] at KE ⊢
  clear hM
  obtain ⟨n, hn⟩ : ∃ n, L.joints.length = n := ⟨_, rfl⟩
  rw [hn] at KE n3 m3 ⊢
  clear hn
  have hwr : IntKind.i64.wrap (2 * (n : Int)) = 2 * n := by rw [IntKind.wrap_i64]; omega
  obtain ⟨W1, hW⟩ : ∃ W1, W1 = w.alloc (.cells #[nm, v1, v2, .slice a3 n c3, v4, v5] 28) := ⟨_, rfl⟩
  have HB : Below w.heap.size w W1 := by rw [hW]; exact b1w _ _
  have G1 : Blk W1 w.heap.size #[nm, v1, v2, .slice a3 n c3, v4, v5] := by rw [hW]; exact Blk.new _ _ _ _ rfl
  have SK : ∀ W, Below W1.heap.size W1 W → (W.cell? ⟨w.heap.size, 0, none⟩ = some nm ∧ W.cell? ⟨w.heap.size, 1, none⟩ = some v1 ∧ W.cell? ⟨w.heap.size, 2, none⟩ = some v2 ∧
      W.cell? ⟨w.heap.size, 3, none⟩ = some (.slice a3 n c3) ∧ W.cell? ⟨w.heap.size, 4, none⟩ = some v4 ∧ W.cell? ⟨w.heap.size, 5, none⟩ = some v5 ∧ Below W1.heap.size W1 W) := by
    intro W h
    have b := G1.below h
    exact ⟨b.at 0 _ rfl, b.at 1 _ rfl, b.at 2 _ rfl, b.at 3 _ rfl, b.at 4 _ rfl, b.at 5 _ rfl, h⟩
  have SD := SK W1.drew (Below.refl _ _).drew
  have KB2 : ∀ W, Below W1.heap.size W1 W → Calls Tryz.prog 75 #[.agg #[nm, v1, v2, .slice a3 n c3, v4, v5]] W (RetM W M) := fun W h => KE W (HB.trans (h.mono HB.size))
  clear KE G1
  go_enter Tryz.func30, Tryz.ntmps30
  go_wp2_with fail
  rw [← hW]
  clear hW
  refine wp_region_noPanic ?_
  refine wp_region_held_drew (S := fun w' => w'.cell? ⟨w.heap.size, 0, none⟩ = some nm ∧ w'.cell? ⟨w.heap.size, 1, none⟩ = some v1 ∧ w'.cell? ⟨w.heap.size, 2, none⟩ = some v2 ∧ w'.cell? ⟨w.heap.size, 3, none⟩ = some (.slice a3 n c3) ∧ w'.cell? ⟨w.heap.size, 4, none⟩ = some v4 ∧ w'.cell? ⟨w.heap.size, 5, none⟩ = some v5 ∧ Below W1.heap.size W1 w') (by kernel_rfl) SD (fun hH0 => ?_)
  refine take_op (i := 0) (oi := _) (d := some 3) (v := .agg #[nm, v1, v2, .slice a3 n c3, v4, v5]) rfl rfl (by kernel_rfl) (by kernel_rfl) (by kernel_rfl) (fun _ _ _ h => h) (Or.inl ⟨rfl, ?_⟩) hH0 ?_
  · intro w' hSw
    obtain ⟨x0, x1, x2, x3, x4, x5, x6⟩ := hSw
    go_simp
  try simp only [Act.put, List.setIfInBounds_toArray, List.set_cons_zero, List.set_cons_succ]
  refine take_op (i := 3) (oi := _) (d := some 6) (v := .pointer (some ⟨w.heap.size, 3, none⟩)) rfl rfl (by kernel_rfl) (by kernel_rfl) (by kernel_rfl) (fun _ _ _ h => h) (Or.inl ⟨rfl, ?_⟩) hH0 ?_
  · intro w' hSw
    obtain ⟨x0, x1, x2, x3, x4, x5, x6⟩ := hSw
    go_simp
  try simp only [Act.put, List.setIfInBounds_toArray, List.set_cons_zero, List.set_cons_succ]
  refine take_op (i := 4) (oi := _) (d := some 7) (v := .slice a3 n c3) rfl rfl (by kernel_rfl) (by kernel_rfl) (by kernel_rfl) (fun _ _ _ h => h) (Or.inl ⟨rfl, ?_⟩) hH0 ?_
  · intro w' hSw
    obtain ⟨x0, x1, x2, x3, x4, x5, x6⟩ := hSw
    go_simp
  try simp only [Act.put, List.setIfInBounds_toArray, List.set_cons_zero, List.set_cons_succ]
  refine take_op (i := 5) (oi := _) (d := some 8) (v := .int .i64 (n : Int)) rfl rfl (by kernel_rfl) (by kernel_rfl) (by kernel_rfl) (fun _ _ _ h => h) (Or.inl ⟨rfl, ?_⟩) hH0 ?_
  · intro w' hSw
    obtain ⟨x0, x1, x2, x3, x4, x5, x6⟩ := hSw
    go_simp
  try simp only [Act.put, List.setIfInBounds_toArray, List.set_cons_zero, List.set_cons_succ]
  refine take_op (i := 6) (oi := _) (d := some 9) (v := .int .i64 (2 * (n : Int))) rfl rfl (by kernel_rfl) (by kernel_rfl) (by kernel_rfl) (fun _ _ _ h => h) (Or.inl ⟨rfl, ?_⟩) hH0 ?_
  · intro w' hSw
    obtain ⟨x0, x1, x2, x3, x4, x5, x6⟩ := hSw
    go_simp
  try simp only [Act.put, List.setIfInBounds_toArray, List.set_cons_zero, List.set_cons_succ]
  refine wpAnyH_ready (rs := [1]) (by kernel_rfl) (by simp) ?_
  refine AllReadyH.cons (o := _) rfl (fun KK hKK => ?_) AllReadyH.nil
  go_simp
  refine (KB2 _ (Below.refl _ _).drew).mono ?_
  rintro e w2 ⟨b, rfl, hO, bb⟩
  have hlen := hO.len Tryz.underlying100
  have h2 : Below W1.heap.size W1 w2 := (Below.refl _ _).drew.trans (bb.mono (Nat.le_refl _))
  refine hKK.out _ _ (SK _ h2) (fun hH1 => ?_)
  clear hKK KK
  try simp only [Act.put, List.setIfInBounds_toArray, List.set_cons_zero, List.set_cons_succ]
  refine wpAnyH_ready (rs := [2]) (by kernel_rfl) (by simp) ?_
  refine AllReadyH.cons (o := _) rfl (fun KK hKK => ?_) AllReadyH.nil
  go_simp
  refine hKK.out _ _ (SK _ h2) (fun hH2 => ?_)
  clear hKK KK
  try simp only [Act.put, List.setIfInBounds_toArray, List.set_cons_zero, List.set_cons_succ]
  refine take_op (i := 7) (oi := _) (d := some 10) (v := .bool ((M.length : Int) == 2 * (n : Int))) rfl rfl (by kernel_rfl) (by kernel_rfl) (by kernel_rfl) (fun _ _ _ h => h) (Or.inl ⟨rfl, ?_⟩) hH2 ?_
  · intro w' hSw
    obtain ⟨x0, x1, x2, x3, x4, x5, x6⟩ := hSw
    go_simp
  try simp only [Act.put, List.setIfInBounds_toArray, List.set_cons_zero, List.set_cons_succ]
  refine take_op (i := 8) (oi := _) (d := some 2) (v := .bool ((M.length : Int) == 2 * (n : Int))) rfl rfl (by kernel_rfl) (by kernel_rfl) (by kernel_rfl) (fun _ _ _ h => h) (Or.inl ⟨rfl, ?_⟩) hH2 ?_
  · intro w' hSw
    obtain ⟨x0, x1, x2, x3, x4, x5, x6⟩ := hSw
    go_simp
  try simp only [Act.put, List.setIfInBounds_toArray, List.set_cons_zero, List.set_cons_succ]
  refine wpAnyH_done (by kernel_rfl) ?_ _
  refine NoPanic.normal ?_
  go_wp2
  go_ret
  refine ⟨ret1_bool ?_, HB.trans (h2.mono HB.size)⟩
  rw [Bool.eq_iff_iff, beq_iff_eq, decide_eq_true_eq]
end
section
open Go.ChangeShapes Go.WideShapes Go.ChangeAt Go.RowKit
def unsP (L : LayD) (e : EndD) : Bool := match joinF e L.joints with
  | some f => !(sectionS L f.1 == sectionS L e.1)
  | none => false
set_option maxRecDepth 100000 in
set_option maxHeartbeats 8000000 in
theorem div1_any (x : SigD) (w : World) (Bm Bl b : Nat) (V : Array Value) (L : LayD) (M : List (EndD × EndD)) (hm : w.cell? ⟨Bm, 0, none⟩ = some (.map (some b))) (hO : OwnM endV endV w b M) (hnd : (M.map Prod.fst).Nodup) (hlk : ∀ e, lookM e M = joinF e L.joints)
    (hB : Blk w Bl V) (hv : RLay w (.agg V) L) :
    Calls Tryz.prog 79 #[.agg #[str x.name, .int .i64 x.at_.1, .int .i64 x.at_.2, .int .i64 x.overlap], .pointer (some ⟨Bm, 0, none⟩), .pointer (some ⟨Bl, 0, none⟩)] w (RetB w (unsP L x.at_)) := by
  have KS := fun W (h : Below w.heap.size w W) e => sectionP_any (.agg V) L e W (hv.below h)
  have SB := fun W (h : Below w.heap.size w W) => hB.below h
  obtain ⟨v1, v2, v3, v4, v5, hV, r1, r2, r3, r4, r5⟩ := hv
  simp only [Value.agg.injEq] at hV
  subst hV
  clear r1 r2 r3 r4 r5 hB
  obtain ⟨nm, es⟩ : ∃ s, str L.name = s := ⟨_, rfl⟩
  rw [es] at KS SB
  clear es
  obtain ⟨⟨xn, ⟨xe, xs⟩, xo⟩, hx⟩ : ∃ y, x = y := ⟨_, rfl⟩
  subst hx
  simp only
  unfold unsP
  have hl := hlk (xe, xs)
  obtain ⟨o, ho⟩ : ∃ o, joinF (xe, xs) L.joints = o := ⟨_, rfl⟩
  rw [ho] at hl
  simp only [ho]
  clear ho hlk
  obtain ⟨xn', hxn⟩ : ∃ s, str xn = s := ⟨_, rfl⟩
  rw [hxn]
  clear hxn
  obtain ⟨W0, hW⟩ : ∃ W0, W0 = w.alloc (.cells #[xn', .int .i64 xe, .int .i64 xs, .int .i64 xo] 51) := ⟨_, rfl⟩
  have h0 : Below w.heap.size w W0 := by rw [hW]; exact b1w _ _
  have G0 : Blk W0 w.heap.size #[xn', .int .i64 xe, .int .i64 xs, .int .i64 xo] := by rw [hW]; exact Blk.new _ _ _ _ rfl
  have hm0 := (h0.cell (p := ⟨Bm, 0, none⟩) (World.block_lt_of_cell? w _ hm)).trans hm
  have hz : (zeroValue 47).run Tryz.prog W0 = .ok (.agg #[.int .i64 0, .int .i64 0]) W0 := Tryz.zeroValue47 W0
  have LK := (hO.below h0).look key_end hnd Tryz.underlying100 hz (xe, xs) true
  rw [hl] at LK
  simp only [endV] at LK
  cases o with
  | none =>
    simp only [Option.map_none, Option.getD_none, Option.isSome_none, if_true] at LK
    have k0 := SB _ (h0.alloc h0.size (.cells #[.int .i64 0, .int .i64 0] 47))
    have hb : Below w.heap.size w (W0.alloc (.cells #[.int .i64 0, .int .i64 0] 47)) := h0.alloc h0.size _
    clear KS SB G0 hz hO hm hnd hl k0
    subst hW
    go_enter Tryz.func79, Tryz.ntmps79
    go_wp2
    go_quiet (fail)
    go_wp2
    go_ret
    exact ⟨rfl, bdrew hb _⟩
  | some f =>
    obtain ⟨f1, f2⟩ := f
    simp only [Option.map_some, Option.getD_some, Option.isSome_some, if_true] at LK
    obtain ⟨W1, hW1⟩ : ∃ W1, W1 = W0.alloc (.cells #[.int .i64 f1, .int .i64 f2] 47) := ⟨_, rfl⟩
    have h1 : Below w.heap.size w W1 := by rw [hW1]; exact h0.alloc h0.size _
    have G1 : Blk W1 w.heap.size #[xn', .int .i64 xe, .int .i64 xs, .int .i64 xo] := by rw [hW1]; exact G0.old _
    have G2 : Blk W1 W0.heap.size #[.int .i64 f1, .int .i64 f2] := by rw [hW1]; exact Blk.new _ _ _ _ rfl
    have SK : ∀ W, Below W1.heap.size W1 W → (W.cell? ⟨Bl, 0, none⟩ = some nm ∧ W.cell? ⟨Bl, 1, none⟩ = some v1 ∧ W.cell? ⟨Bl, 2, none⟩ = some v2 ∧ W.cell? ⟨Bl, 3, none⟩ = some v3 ∧ W.cell? ⟨Bl, 4, none⟩ = some v4 ∧ W.cell? ⟨Bl, 5, none⟩ = some v5 ∧
        W.cell? ⟨w.heap.size, 1, none⟩ = some (.int .i64 xe) ∧ W.cell? ⟨W0.heap.size, 0, none⟩ = some (.int .i64 f1) ∧ Below W1.heap.size W1 W) := by
      intro W h
      have b := SB W (h1.trans (h.mono h1.size))
      exact ⟨b.at 0 _ rfl, b.at 1 _ rfl, b.at 2 _ rfl, b.at 3 _ rfl, b.at 4 _ rfl, b.at 5 _ rfl, (G1.below h).at 1 _ rfl, (G2.below h).at 0 _ rfl, h⟩
    have SD := SK W1.drew (Below.refl _ _).drew
    have KS2 : ∀ W e, Below W1.heap.size W1 W → Calls Tryz.prog 80 #[.agg #[nm, v1, v2, v3, v4, v5], .int .i64 e] W (RetV W (.int .i64 (sectionS L e))) := fun W e h => KS W (h1.trans (h.mono h1.size)) e
    have FB : ∀ W, Below W1.heap.size W1 W → Below w.heap.size w W := fun W h => h1.trans (h.mono h1.size)
    have EQ : (!(sectionS L f1 == sectionS L xe)) = !(sectionS L f1 == sectionS L xe) := rfl
    clear KS SB G0 G1 G2 hz hO hm hnd hl
    obtain ⟨N0, hN⟩ : ∃ N, W0.heap.size = N := ⟨_, rfl⟩
    have hN2 : w.heap.size + 1 = N0 := by rw [← hN, hW]; simp
    rw [hN] at SK SD
    subst hW hN2
    replace hN := Lib.hid hN
    go_enter Tryz.func79, Tryz.ntmps79
    go_wp2_with fail
    rw [← hW1]
    clear hW1 LK hm0
    go_region_held3 (fun w' => w'.cell? ⟨Bl, 0, none⟩ = some nm ∧ w'.cell? ⟨Bl, 1, none⟩ = some v1 ∧ w'.cell? ⟨Bl, 2, none⟩ = some v2 ∧ w'.cell? ⟨Bl, 3, none⟩ = some v3 ∧ w'.cell? ⟨Bl, 4, none⟩ = some v4 ∧ w'.cell? ⟨Bl, 5, none⟩ = some v5 ∧
        w'.cell? ⟨w.heap.size, 1, none⟩ = some (.int .i64 xe) ∧ w'.cell? ⟨w.heap.size + 1, 0, none⟩ = some (.int .i64 f1) ∧ Below W1.heap.size W1 w')
      (first | exact SD | (refine SK _ ?_; go_split_ands; rename_i hq; exact hq.trans (bb.mono hq.size)) | assumption)
      (first
        | (go_at_call 80
           refine (KS2 _ _ ?_).mono ?_
           (go_split_ands; assumption)
           rintro e w2 ⟨rfl, bb⟩))
    rename_i hH
    obtain ⟨_, _, _, _, _, _, _, _, hH⟩ := hH
    go_wp2
    go_ret
    exact ⟨rfl, FB _ hH⟩
end
section
open Go.ChangeShapes Go.WideShapes Go.ChangeAt Go.RowKit
set_option maxRecDepth 100000 in
set_option maxHeartbeats 4000000 in
theorem divide_any (v : Value) (L : LayD) (w : World) (hv : RLay w v L) (n3 : L.joints.length ≤ 100000) : Calls Tryz.prog 33 #[v] w (RetB w (L.sigs.all fun x => unsP L x.at_)) := by
  have HV := Lib.hid hv
  obtain ⟨v1, v2, v3, v4, v5, rfl, r1, r2, r3, r4, r5⟩ := hv
  obtain ⟨a1, c1, rfl, ⟨m1, _⟩, _⟩ := r1.openS
  obtain ⟨a2, c2, rfl, ⟨m2, _⟩, _⟩ := r2.openM
  obtain ⟨a3, c3, rfl, ⟨m3, _⟩, _⟩ := r3.openM
  obtain ⟨a4, c4, rfl, ⟨m4, _⟩, _⟩ := r4.openM
  obtain ⟨a5, c5, rfl, ⟨m5, _⟩, _⟩ := r5.openM
  have KE := fun W (h : Below w.heap.size w W) => ends_any _ L W (HV.out.below h) n3
  have hlk := fun e => mapJ_look e L.joints
  have hnd := (mapJ_keys L.joints.reverse).1
  obtain ⟨M, hM⟩ : ∃ M, mapJ L.joints.reverse = M := ⟨_, rfl⟩
  rw [hM] at KE hnd
  simp only [hM] at hlk
  obtain ⟨LV, hLV⟩ : ∃ LV : Array Value, LV = #[str L.name, .slice a1 L.secs.length c1, .slice a2 L.els.length c2, .slice a3 L.joints.length c3, .slice a4 L.sigs.length c4, .slice a5 L.bals.length c5] := ⟨_, rfl⟩
  obtain ⟨W1, hW⟩ : ∃ W1, W1 = w.alloc (.cells LV 28) := ⟨_, rfl⟩
  have HB : Below w.heap.size w W1 := by rw [hW]; exact b1w _ _
  have G1 : Blk W1 w.heap.size LV := by rw [hW]; exact Blk.new _ _ _ _ rfl
  rw [hLV] at G1
  have KA : ∀ w2 b, Below W1.heap.size W1 w2 → OwnM endV endV w2 b M → Calls Tryz.prog 59 #[.slice a4 L.sigs.length c4, .func (.func 79) #[] #[.pointer (some ⟨w2.heap.size, 0, none⟩), .pointer (some ⟨w.heap.size, 0, none⟩)]] (w2.alloc (.cells #[.map (some b)] 100)) (RetB (w2.alloc (.cells #[.map (some b)] 100)) (L.sigs.all fun x => unsP L x.at_)) := by
    intro w2 b h2 hO
    have h3 : Below W1.heap.size W1 (w2.alloc (.cells #[.map (some b)] 100)) := h2.alloc h2.size _
    have hw3 := HB.trans (h3.mono HB.size)
    refine all_G _ L.sigs _ 79 #[.pointer (some ⟨w2.heap.size, 0, none⟩), .pointer (some ⟨w.heap.size, 0, none⟩)] (fun x => unsP L x.at_) (enters_of Tryz.func79 (by kernel_rfl) rfl) (r4.below hw3) (fun x hx ww hb => ?_)
    have hm : ww.cell? ⟨w2.heap.size, 0, none⟩ = some (.map (some b)) := (hb.cell (p := ⟨w2.heap.size, 0, none⟩) (by simp)).trans (by rw [World.cell?_alloc_new]; rfl)
    exact div1_any x ww w2.heap.size w.heap.size b _ L M hm ((hO.below (b1w _ _)).below hb) hnd hlk (G1.below (h3.trans (hb.mono h3.size))) (HV.out.below (hw3.trans (hb.mono hw3.size)))
  have SK : ∀ W, Below W1.heap.size W1 W → Below w.heap.size w W ∧ W.cell? ⟨w.heap.size, 0, none⟩ = some (str L.name) ∧ W.cell? ⟨w.heap.size, 1, none⟩ = some (.slice a1 L.secs.length c1) ∧ W.cell? ⟨w.heap.size, 2, none⟩ = some (.slice a2 L.els.length c2) ∧
      W.cell? ⟨w.heap.size, 3, none⟩ = some (.slice a3 L.joints.length c3) ∧ W.cell? ⟨w.heap.size, 4, none⟩ = some (.slice a4 L.sigs.length c4) ∧ W.cell? ⟨w.heap.size, 5, none⟩ = some (.slice a5 L.bals.length c5) := by
    intro W h
    have b := G1.below h
    exact ⟨HB.trans (h.mono HB.size), b.at 0 _ rfl, b.at 1 _ rfl, b.at 2 _ rfl, b.at 3 _ rfl, b.at 4 _ rfl, b.at 5 _ rfl⟩
  obtain ⟨q, hq⟩ : ∃ q, (L.sigs.all fun x => unsP L x.at_) = q := ⟨_, rfl⟩
  rw [hq] at KA ⊢
  have K0 := KE W1 HB
  replace SK := Lib.hid SK
  replace KA := Lib.hid KA
  obtain ⟨_, k0, k1, k2, k3, k4, k5⟩ := SK.out W1 (Below.refl _ _)
  clear r1 r2 r3 r4 r5 HV KE G1 hlk hnd hM hq m1 m2 m3 m4 m5 n3
  go_enter Tryz.func33, Tryz.ntmps33
  go_wp2_with fail
  rw [← hLV, ← hW, hLV]
  clear hW hLV
  refine K0.mono ?_
  rintro e w2 ⟨b, rfl, hO, b2⟩
  have k2 := SK.out _ (b2.alloc b2.size (.cells #[.map (some b)] 100))
  obtain ⟨hw2, g0, g1, g2, g3, g4, g5⟩ := k2
  have KA2 := KA.out w2 b b2 hO
  clear k0 k1 k2 k3 k4 k5
  go_wp2_with fail
  refine KA2.mono ?_
  rintro e w3 ⟨rfl, b3⟩
  go_wp2
  go_ret
  exact ⟨rfl, hw2.trans (b3.mono hw2.size)⟩
end
end Go.Proofs.YteafkginhejllaaGreatDoor
