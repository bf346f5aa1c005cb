/- Contract of signalsDivideSections. Conditions: the layout can be read; it has few parts. -/
import Derived.Test.YthoodaldmfojaaaDoorEnds7
namespace Go.Proofs.YthoodaldmfojaaaDoor
open Go.ChangeShapes Go.WideShapes Go.ChangeAt Go.RowKit
def unsP (L : LayD) (e : EndD) : Bool := match joinF e L.joints with
  | some f => !(sectionS L f.1 == sectionS L e.1)
  | none => false
set_option maxRecDepth 100000 in
set_option maxHeartbeats 8000000 in
theorem div1_any (x : SigD) (w : World) (Bm Bl b : Nat) (V : Array Value) (L : LayD) (M : List (EndD × EndD)) (hm : w.cell? ⟨Bm, 0, none⟩ = some (.map (some b))) (hO : OwnM endV endV w b M) (hnd : (M.map Prod.fst).Nodup) (hlk : ∀ e, lookM e M = joinF e L.joints)
    (hB : Blk w Bl V) (hv : RLay w (.agg V) L) :
    Calls Tryd.prog 66 #[.agg #[str x.name, .int .i64 x.at_.1, .int .i64 x.at_.2, .int .i64 x.overlap], .pointer (some ⟨Bm, 0, none⟩), .pointer (some ⟨Bl, 0, none⟩)] w (RetB w (unsP L x.at_)) := by
  have KS := fun W (h : Below w.heap.size w W) e => sectionP_any (.agg V) L e W (hv.below h)
  have SB := fun W (h : Below w.heap.size w W) => hB.below h
  obtain ⟨v1, v2, v3, v4, v5, hV, r1, r2, r3, r4, r5⟩ := hv
  simp only [Value.agg.injEq] at hV
  subst hV
  clear r1 r2 r3 r4 r5 hB
  obtain ⟨nm, es⟩ : ∃ s, str L.name = s := ⟨_, rfl⟩
  rw [es] at KS SB
  clear es
  obtain ⟨⟨xn, ⟨xe, xs⟩, xo⟩, hx⟩ : ∃ y, x = y := ⟨_, rfl⟩
  subst hx
  simp only
  unfold unsP
  have hl := hlk (xe, xs)
  obtain ⟨o, ho⟩ : ∃ o, joinF (xe, xs) L.joints = o := ⟨_, rfl⟩
  rw [ho] at hl
  simp only [ho]
  clear ho hlk
  obtain ⟨xn', hxn⟩ : ∃ s, str xn = s := ⟨_, rfl⟩
  rw [hxn]
  clear hxn
  obtain ⟨W0, hW⟩ : ∃ W0, W0 = w.alloc (.cells #[xn', .int .i64 xe, .int .i64 xs, .int .i64 xo] 56) := ⟨_, rfl⟩
  have h0 : Below w.heap.size w W0 := by rw [hW]; exact b1w _ _
  have G0 : Blk W0 w.heap.size #[xn', .int .i64 xe, .int .i64 xs, .int .i64 xo] := by rw [hW]; exact Blk.new _ _ _ _ rfl
  have hm0 := (h0.cell (p := ⟨Bm, 0, none⟩) (World.block_lt_of_cell? w _ hm)).trans hm
  have hz : (zeroValue 37).run Tryd.prog W0 = .ok (.agg #[.int .i64 0, .int .i64 0]) W0 := Tryd.zeroValue37 W0
  have LK := (hO.below h0).look key_end hnd Tryd.underlying52 hz (xe, xs) true
  rw [hl] at LK
  simp only [endV] at LK
  cases o with
  | none =>
    simp only [Option.map_none, Option.getD_none, Option.isSome_none, if_true] at LK
    have k0 := SB _ (h0.alloc h0.size (.cells #[.int .i64 0, .int .i64 0] 37))
    have hb : Below w.heap.size w (W0.alloc (.cells #[.int .i64 0, .int .i64 0] 37)) := h0.alloc h0.size _
    clear KS SB G0 hz hO hm hnd hl k0
    subst hW
    go_enter Tryd.func66, Tryd.ntmps66
    go_wp2
    go_quiet (fail)
    go_wp2
    go_ret
    exact ⟨rfl, bdrew hb _⟩
  | some f =>
    obtain ⟨f1, f2⟩ := f
    simp only [Option.map_some, Option.getD_some, Option.isSome_some, if_true] at LK
    obtain ⟨W1, hW1⟩ : ∃ W1, W1 = W0.alloc (.cells #[.int .i64 f1, .int .i64 f2] 37) := ⟨_, rfl⟩
    have h1 : Below w.heap.size w W1 := by rw [hW1]; exact h0.alloc h0.size _
    have G1 : Blk W1 w.heap.size #[xn', .int .i64 xe, .int .i64 xs, .int .i64 xo] := by rw [hW1]; exact G0.old _
    have G2 : Blk W1 W0.heap.size #[.int .i64 f1, .int .i64 f2] := by rw [hW1]; exact Blk.new _ _ _ _ rfl
    have SK : ∀ W, Below W1.heap.size W1 W → (W.cell? ⟨Bl, 0, none⟩ = some nm ∧ W.cell? ⟨Bl, 1, none⟩ = some v1 ∧ W.cell? ⟨Bl, 2, none⟩ = some v2 ∧ W.cell? ⟨Bl, 3, none⟩ = some v3 ∧ W.cell? ⟨Bl, 4, none⟩ = some v4 ∧ W.cell? ⟨Bl, 5, none⟩ = some v5 ∧
        W.cell? ⟨w.heap.size, 1, none⟩ = some (.int .i64 xe) ∧ W.cell? ⟨W0.heap.size, 0, none⟩ = some (.int .i64 f1) ∧ Below W1.heap.size W1 W) := by
      intro W h
      have b := SB W (h1.trans (h.mono h1.size))
      exact ⟨b.at 0 _ rfl, b.at 1 _ rfl, b.at 2 _ rfl, b.at 3 _ rfl, b.at 4 _ rfl, b.at 5 _ rfl, (G1.below h).at 1 _ rfl, (G2.below h).at 0 _ rfl, h⟩
    have SD := SK W1.drew (Below.refl _ _).drew
    have KS2 : ∀ W e, Below W1.heap.size W1 W → Calls Tryd.prog 14 #[.agg #[nm, v1, v2, v3, v4, v5], .int .i64 e] W (RetV W (.int .i64 (sectionS L e))) := fun W e h => KS W (h1.trans (h.mono h1.size)) e
    have FB : ∀ W, Below W1.heap.size W1 W → Below w.heap.size w W := fun W h => h1.trans (h.mono h1.size)
    have EQ : (!(sectionS L f1 == sectionS L xe)) = !(sectionS L f1 == sectionS L xe) := rfl
    clear KS SB G0 G1 G2 hz hO hm hnd hl
    obtain ⟨N0, hN⟩ : ∃ N, W0.heap.size = N := ⟨_, rfl⟩
    have hN2 : w.heap.size + 1 = N0 := by rw [← hN, hW]; simp
    rw [hN] at SK SD
    subst hW hN2
    replace hN := Lib.hid hN
    go_enter Tryd.func66, Tryd.ntmps66
    go_wp2_with fail
    rw [← hW1]
    clear hW1 LK hm0
    go_region_held3 (fun w' => w'.cell? ⟨Bl, 0, none⟩ = some nm ∧ w'.cell? ⟨Bl, 1, none⟩ = some v1 ∧ w'.cell? ⟨Bl, 2, none⟩ = some v2 ∧ w'.cell? ⟨Bl, 3, none⟩ = some v3 ∧ w'.cell? ⟨Bl, 4, none⟩ = some v4 ∧ w'.cell? ⟨Bl, 5, none⟩ = some v5 ∧
        w'.cell? ⟨w.heap.size, 1, none⟩ = some (.int .i64 xe) ∧ w'.cell? ⟨w.heap.size + 1, 0, none⟩ = some (.int .i64 f1) ∧ Below W1.heap.size W1 w')
      (first | exact SD | (refine SK _ ?_; go_split_ands; rename_i hq; exact hq.trans (bb.mono hq.size)) | assumption)
      (first
        | (go_at_call 14
           refine (KS2 _ _ ?_).mono ?_
           (go_split_ands; assumption)
           rintro e w2 ⟨rfl, bb⟩))
    rename_i hH
    obtain ⟨_, _, _, _, _, _, _, _, hH⟩ := hH
    go_wp2
    go_ret
    exact ⟨rfl, FB _ hH⟩
end Go.Proofs.YthoodaldmfojaaaDoor
