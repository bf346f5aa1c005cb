/- Contract of endWords. Conditions: the layout can be read; the end's element is one of the layout; what the library reads (GT). -/
import Derived.Test.YteafkginhejllaaGreatDoorNu8
import Derived.Deep.RegionHeld3
namespace Go.Proofs.YteafkginhejllaaGreatDoor
open Go.ChangeShapes Go.WideShapes Go.ChangeAt Go.RowKit
theorem nameAt_at {els : List ElD} {k : Nat} {y : ElD} (h : els[k]? = some y) : nameAt els (k : Int) = y.name := by simp [nameAt, h]
theorem ix_at {els : List ElD} {e : Int} (h : OkIx els e) : ∃ (k : Nat) (y : ElD), e = k ∧ els[k]? = some y := by
  obtain ⟨h0, h1⟩ := h
  exact ⟨e.toNat, els[e.toNat]'(by omega), by omega, List.getElem?_eq_getElem (by omega)⟩
set_option maxRecDepth 100000 in
set_option maxHeartbeats 8000000 in
theorem endWords_any (v : Value) (L : LayD) (e s : Int) (w : World) (hv : RLay w v L) (hG : GT w) (he : OkIx L.els e) (hs : I64b s) :
    Calls Tryz.prog 47 #[v, .agg #[.int .i64 e, .int .i64 s]] w (RetS w [nameAt L.els e, Lib.itoa s]) := by
  obtain ⟨k, y, rfl, hy⟩ := ix_at he
  rw [nameAt_at hy]
  obtain ⟨v1, v2, v3, v4, v5, rfl, h1, h2, h3, h4, h5⟩ := hv
  obtain ⟨a2, c2, rfl, ⟨m2, _⟩, HE⟩ := h2.openM
  obtain ⟨nm, en⟩ : ∃ s, str L.name = s := ⟨_, rfl⟩
  rw [en]
  obtain ⟨els, ee⟩ : ∃ n, L.els = n := ⟨_, rfl⟩
  rw [ee] at m2 HE hy ⊢
  clear h1 h2 h3 h4 h5 en ee he
  have hkl : k < els.length := (List.getElem?_eq_some_iff.1 hy).1
  have hki : (k : Int) < (els.length : Int) := by omega
  obtain ⟨LV, hLV⟩ : ∃ LV : Array Value, LV = #[nm, v1, .slice a2 els.length c2, v3, v4, v5] := ⟨_, rfl⟩
  obtain ⟨W1, hW⟩ : ∃ W1, W1 = (w.alloc (.cells LV 28)).alloc (.cells #[.int .i64 (k : Int), .int .i64 s] 47) := ⟨_, rfl⟩
  have HB : Below w.heap.size w W1 := by rw [hW]; exact ((Below.refl _ _).alloc (Nat.le_refl _) _).alloc (by simp) _
  have G1 : Blk W1 w.heap.size LV := by rw [hW]; exact (Blk.new _ _ _ _ rfl).old _
  have G2 : Blk W1 (w.heap.size + 1) #[.int .i64 (k : Int), .int .i64 s] := by rw [hW]; exact Blk.new _ _ _ _ (by simp)
  obtain ⟨b, off, rfl, hlt, hc⟩ := HE.out.rd (Below.refl _ _) hy
  have hc0 := hc 0 _ rfl
  simp only [Nat.add_zero] at hc0
  have SK : ∀ W, Below W1.heap.size W1 W → (W.cell? ⟨w.heap.size, 2, none⟩ = some (.slice (some ⟨b, off, none⟩) els.length c2) ∧ W.cell? ⟨w.heap.size + 1, 0, none⟩ = some (.int .i64 (k : Int)) ∧ W.cell? ⟨w.heap.size + 1, 1, none⟩ = some (.int .i64 s) ∧ W.cell? ⟨b, off + k * 7, none⟩ = some (str y.name) ∧ Below W1.heap.size W1 W) := by
    intro W h
    have g1 := G1.below h
    have g2 := G2.below h
    exact ⟨g1.at 2 _ (by rw [hLV]; rfl), g2.at 0 _ rfl, g2.at 1 _ rfl, cell_kept (HB.trans (h.mono HB.size)) hc0, h⟩
  have hGW : ∀ W, Below W1.heap.size W1 W → GT W := fun W h => hG.below (HB.trans (h.mono HB.size))
  obtain ⟨x, hx⟩ : ∃ x, Lib.itoa s = x := ⟨_, rfl⟩
  have K := fun W (h : Below W1.heap.size W1 W) => format_any s W hs (hGW W h)
  rw [hx] at K ⊢
  obtain ⟨nn, hn⟩ : ∃ nn, y.name = nn := ⟨_, rfl⟩
  rw [hn] at SK hc0 ⊢
  clear HE hc G1 G2 hs hGW hy hx hn hkl hc0 hG
  go_enter Tryz.func47, Tryz.ntmps47
  go_wp2_with fail
  rw [← hLV, ← hW]
  have SD := SK _ (Below.refl _ _).drew
  clear hW hLV
  go_region_held3 (fun W => W.cell? ⟨w.heap.size, 2, none⟩ = some (.slice (some ⟨b, off, none⟩) els.length c2) ∧ W.cell? ⟨w.heap.size + 1, 0, none⟩ = some (.int .i64 (k : Int)) ∧ W.cell? ⟨w.heap.size + 1, 1, none⟩ = some (.int .i64 s) ∧ W.cell? ⟨b, off + k * 7, none⟩ = some (str nn) ∧ Below W1.heap.size W1 W)
    (first | exact SD | (refine SK _ ?_; assumption) | (go_split_ands; refine SK _ (alloc_below ?_ (Nat.le_refl _) _); assumption))
    (first | (go_at_call 49; refine (K _ (by go_split_ands; assumption)).mono ?_; rintro e w2 ⟨rfl, b2⟩; have B2 := Below.trans (by go_split_ands; assumption) (Below.mono b2 (Below.size (by go_split_ands; assumption)))))
  have hs2 : w.heap.size ≤ w2.heap.size := Nat.le_trans HB.size B2.size
  have B3 : Below w.heap.size w (w2.alloc (.cells #[str nn, str x] 9)) := (HB.trans (B2.mono HB.size)).alloc hs2 _
  have O3 := World.ownsRow_lit (base := w.heap.size) (size := 1) (e := 9) w2 #[str nn, str x] 2 hs2 (by unfold maxLen; omega) rfl
  go_wp2
  go_ret
  exact ⟨_, rfl, O3, B3⟩
end Go.Proofs.YteafkginhejllaaGreatDoor
