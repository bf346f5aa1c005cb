/- Contract of the reference's Joined. Conditions: the layout can be read. -/
import Derived.Test.YthoodaldmfojaaaDoorRex7
import Derived.Test.YthoodaldmfojaaaDoorEq7
namespace Go.Proofs.YthoodaldmfojaaaDoor
open Go.ChangeShapes Go.WideShapes Go.ChangeAt Go.RowKit
def joinO (o : Option EndD) : Value := match o with
  | some f => .tuple #[.agg #[.int .i64 f.1, .int .i64 f.2], .bool true]
  | none => .tuple #[.agg #[.int .i64 0, .int .i64 0], .bool false]
def RetJ (w : World) (o : Option EndD) (e : Ending) (w' : World) : Prop := e = .returned (joinO o) ∧ Below w.heap.size w w'
theorem join_hit1 {e a b : EndD} {r : List (EndD × EndD)} (h : (a == e) = true) : joinF e ((a, b) :: r) = some b := by
  rw [joinF, if_pos (by simpa using h)]
theorem join_hit2 {e a b : EndD} {r : List (EndD × EndD)} (h : (a == e) = false) (h2 : (b == e) = true) : joinF e ((a, b) :: r) = some a := by
  rw [joinF, if_neg (by simpa using h), if_pos (by simpa using h2)]
theorem join_miss {e a b : EndD} {r : List (EndD × EndD)} (h : (a == e) = false) (h2 : (b == e) = false) : joinF e ((a, b) :: r) = joinF e r := by
  rw [joinF, if_neg (by simpa using h), if_neg (by simpa using h2)]
set_option maxRecDepth 100000 in
set_option maxHeartbeats 4000000 in
theorem rjoined_any (v : Value) (L : LayD) (e s : Int) (w : World) (hv : RLay w v L) : Calls Tryd.prog 78 #[v, .agg #[.int .i64 e, .int .i64 s]] w (RetJ w (joinF (e, s) L.joints)) := by
  obtain ⟨v1, v2, v3, v4, v5, rfl, h1, h2, h3, h4, h5⟩ := hv
  clear h1 h2 h4 h5
  obtain ⟨a3, c3, rfl, ⟨m3, _⟩, HC⟩ := h3.openM
  clear h3
  obtain ⟨nm, es⟩ : ∃ s, str L.name = s := ⟨_, rfl⟩
  rw [es]
  clear es
  obtain ⟨q, hq⟩ : ∃ q, joinF (e, s) L.joints = q := ⟨_, rfl⟩
  rw [hq]
  have hq0 : Hid (joinF (e, s) (L.joints.drop 0) = q) := Lib.hid hq
  clear hq
  obtain ⟨js, hjs⟩ : ∃ js, L.joints = js := ⟨_, rfl⟩
  rw [hjs] at hq0 HC m3 ⊢
  clear hjs
  have EE := eql_end
  obtain ⟨W3, hW⟩ : ∃ W3, W3 = ((w.alloc (.cells #[nm, v1, v2, .slice a3 js.length c3, v4, v5] 28)).alloc (.cells #[.int .i64 e, .int .i64 s] 37)).alloc (.cells #[.int .i64 0, .int .i64 0] 37) := ⟨_, rfl⟩
  have HB : Below w.heap.size w W3 := by rw [hW]; exact (((Below.refl _ _).alloc (Nat.le_refl _) _).alloc (by simp) _).alloc (by simp; omega) _
  have HS : W3.heap.size = w.heap.size + 3 := by rw [hW]; simp
  have G1 : Blk W3 (w.heap.size + 1) #[.int .i64 e, .int .i64 s] := by rw [hW]; exact (Blk.new _ _ _ _ (by simp)).old _
  have G2 : Blk W3 (w.heap.size + 2) #[.int .i64 0, .int .i64 0] := by rw [hW]; exact Blk.new _ _ _ _ (by simp)
  go_enter Tryd.func78, Tryd.ntmps78
  go_wp2
  rw [← hW]
  clear hW
  go_loopg [11] js.length (fun g s11 wx => ∃ k : Nat, k + g = js.length ∧ s11 = .int .i64 k ∧ Hid (joinF (e, s) (js.drop k) = q) ∧ Below W3.heap.size W3 wx)
  case atStart => exact ⟨0, by omega, rfl, hq0, Below.refl _ _⟩
  case round =>
    obtain ⟨k, hk, rfl, E, hbw⟩ := hrel
    clear hq0
    have hw : Below w.heap.size w wr := HB.trans (hbw.mono HB.size)
    have hsz := hbw.size
    have B1 := G1.below hbw
    have B2 := G2.below hbw
    have d0 := B1.at 0 _ rfl
    have d1 := B1.at 1 _ rfl
    have p0 := B2.at 0 _ rfl
    have p1 := B2.at 1 _ rfl
    have f0 := B2.free 0
    have f1 := B2.free 1
    have hlw : w.heap.size + 2 < wr.heap.size := by omega
    have hl1 : w.heap.size + 1 < wr.heap.size := by omega
    replace B2 := Lib.hid B2
    clear G1 G2 B1
    cases gk with
    | zero =>
      have hz : ¬ ((k : Int) < (js.length : Int)) := by omega
      have E' := E.out
      rw [List.drop_eq_nil_of_le (by omega)] at E'
      unfold joinF at E'
      subst E'
      clear E hk
      go_wp2
      refine ret_cell2 rfl Tryd.underlying37 rfl (cs := #[.int .i64 0, .int .i64 0]) (by kernel_rfl) rfl ((B2.out.set 0 _).set 1 _) rfl ⟨rfl, ?_⟩
      exact (hw.setCell (by simp; omega) _).setCell (by simp; omega) _
    | succ g =>
      have hz : (k : Int) < (js.length : Int) := by omega
      obtain ⟨⟨⟨x1, x2⟩, ⟨x3, x4⟩⟩, hy, _⟩ := at_take (l := js) (k := k) (by omega)
      obtain ⟨b, off, rfl, hlt, hc⟩ := HC.out.rd hw hy
      have cc0 := hc 0 _ rfl
      have cc1 := hc 1 _ rfl
      have cc2 := hc 2 _ rfl
      have cc3 := hc 3 _ rfl
      simp only [Nat.add_zero] at cc0 cc1 cc2 cc3
      have E' := E.out
      rw [drop_get hy] at E'
      clear E hc hy
      replace hk := Lib.hid hk
      cases q1 : (((x1, x2) : EndD) == (e, s))
      · cases q2 : (((x3, x4) : EndD) == (e, s))
        · rw [join_miss q1 q2] at E'
          replace E' := Lib.hid E'
          go_wp2
          go_roundg g
          case measure => omega
          case rel => exact ⟨k + 1, by have := hk.out; omega, by go_num, E', alloc_below hbw (Nat.le_refl _) _⟩
        · rw [join_hit2 q1 q2] at E'
          subst E'
          go_wp2
          refine ret_cell2 rfl Tryd.underlying37 rfl (cs := #[.int .i64 x1, .int .i64 x2]) (by kernel_rfl) rfl (((B2.out.set 0 _).set 1 _).old _) rfl ⟨rfl, ?_⟩
          exact alloc_below ((hw.setCell (by simp; omega) _).setCell (by simp; omega) _) (Nat.le_refl _) _
      · rw [join_hit1 q1] at E'
        subst E'
        go_wp2
        refine ret_cell2 rfl Tryd.underlying37 rfl (cs := #[.int .i64 x3, .int .i64 x4]) (by kernel_rfl) rfl (((B2.out.set 0 _).set 1 _).old _) rfl ⟨rfl, ?_⟩
        exact alloc_below ((hw.setCell (by simp; omega) _).setCell (by simp; omega) _) (Nat.le_refl _) _
end Go.Proofs.YthoodaldmfojaaaDoor
