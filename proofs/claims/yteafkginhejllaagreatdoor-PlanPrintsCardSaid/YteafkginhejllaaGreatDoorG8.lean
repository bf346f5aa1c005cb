/- Texts of the layers 5 to 7, merged. -/
import Derived.Deep.RegionHeld3
import Derived.Laws.OwnMore
import Derived.Test.YteafkginhejllaaGreatDoorF8
namespace Go.Proofs.YteafkginhejllaaGreatDoor
section
open Go.ChangeShapes Go.WideShapes Go.ChangeAt Go.RowKit
theorem exS_false {els : List ElD} {e : EndD} (h : e.1 < 0 ∨ (els.length : Int) ≤ e.1 ∨ e.2 < 0) : exS els e = false := by
  rw [← Bool.not_eq_true]
  intro hh
  simp only [exS, Bool.and_eq_true, decide_eq_true_eq] at hh
  omega
theorem exS_in {els : List ElD} {k : Nat} {y : ElD} {s : Int} (hy : els[k]? = some y) (hs : ¬ s < 0) : exS els ((k : Int), s) = decide (s < sidesS y.kind) := by
  have hk : k < els.length := (List.getElem?_eq_some_iff.1 hy).1
  have h1 : decide ((0 : Int) ≤ ((k : Nat) : Int)) = true := by simp
  have h2 : decide (((k : Nat) : Int) < (els.length : Int)) = true := by simp; omega
  have h3 : decide ((0 : Int) ≤ s) = true := by simp; omega
  have h4 : elAt els ((k : Nat) : Int) ElD.kind = y.kind := by simp [elAt, hy]
  simp only [exS, h1, h2, h3, h4, Bool.true_and]
set_option maxRecDepth 100000 in
set_option maxHeartbeats 4000000 in
theorem rexists_any (v : Value) (L : LayD) (e s : Int) (w : World) (hv : RLay w v L) : Calls Tryz.prog 100 #[v, .agg #[.int .i64 e, .int .i64 s]] w (RetB w (exS L.els (e, s))) := by
  obtain ⟨v1, v2, v3, v4, v5, rfl, h1, h2, h3, h4, h5⟩ := hv
  clear h1 h3 h4 h5
  obtain ⟨a2, c2, rfl, ⟨m2, _⟩, HC⟩ := h2.openM
  clear h2
  obtain ⟨n, en⟩ : ∃ n, L.els.length = n := ⟨_, rfl⟩
  obtain ⟨nm, es⟩ : ∃ s, str L.name = s := ⟨_, rfl⟩
  have hbb : Below w.heap.size w w := Below.refl _ _
  by_cases t1 : e < 0
  · rw [exS_false (Or.inl t1), es, en]
    have t0 : decide (0 ≤ e) = false := by simp; omega
    clear t1 HC en es
    go_enter Tryz.func100, Tryz.ntmps100
    go_wp2
    go_quiet (fail)
    go_wp2
    go_ret
    exact ⟨rfl, bdrew ((hbb.alloc (Nat.le_refl _) _).alloc (by simp) _) _⟩
  by_cases t2 : (n : Int) ≤ e
  · rw [exS_false (Or.inr (Or.inl (by rw [en]; exact t2))), es, en]
    have t0 : (0 ≤ e) := by omega
    have t3 : decide (e < (n : Int)) = false := by simp; omega
    clear t1 t2 HC en es
    go_enter Tryz.func100, Tryz.ntmps100
    go_wp2
    go_quiet (fail)
    go_wp2
    go_ret
    exact ⟨rfl, bdrew ((hbb.alloc (Nat.le_refl _) _).alloc (by simp) _) _⟩
  by_cases t4 : s < 0
  · rw [exS_false (Or.inr (Or.inr t4)), es, en]
    have t0 : (0 ≤ e) := by omega
    have t3 : (e < (n : Int)) := by omega
    have t5 : decide (0 ≤ s) = false := by simp; omega
    clear t1 t2 HC en es t4
    go_enter Tryz.func100, Tryz.ntmps100
    go_wp2
    go_quiet (fail)
    go_wp2
    go_ret
    exact ⟨rfl, bdrew ((hbb.alloc (Nat.le_refl _) _).alloc (by simp) _) _⟩
  · obtain ⟨k, rfl⟩ : ∃ k : Nat, e = k := ⟨e.toNat, by omega⟩
    have hk : k < L.els.length := by omega
    obtain ⟨y, hy, _⟩ := at_take hk
    rw [exS_in hy t4, es, en]
    obtain ⟨b, off, rfl, hlt, hc⟩ := HC.out.rd hbb hy
    have cK := hc 1 _ rfl
    have t3 : ((k : Int) < (n : Int)) := by omega
    have t3n : k < n := by omega
    have t5 : (0 ≤ s) := by omega
    clear t1 t2 HC en es t4 hc hk hy
    have K := fun ww => rsides_any y.kind ww
    obtain ⟨q, hq⟩ : ∃ q, sidesS y.kind = q := ⟨_, rfl⟩
    rw [hq]
    simp only [hq] at K
    obtain ⟨kd, hkd⟩ : ∃ kd, y.kind = kd := ⟨_, rfl⟩
    simp only [hkd] at K cK
    clear hq hkd
    go_enter Tryz.func100, Tryz.ntmps100
    go_wp2
    go_quiet ((go_at_call 131; exact Calls.quiet_of_same ((K _).mono fun e w' h => ⟨h.1, h.2.symm⟩)))
    go_wp2
    go_ret
    exact ⟨rfl, bdrew ((hbb.alloc (Nat.le_refl _) _).alloc (by simp) _) _⟩
end
section
open Go.ChangeShapes Go.WideShapes Go.ChangeAt Go.RowKit
def joinO (o : Option EndD) : Value := match o with
  | some f => .tuple #[.agg #[.int .i64 f.1, .int .i64 f.2], .bool true]
  | none => .tuple #[.agg #[.int .i64 0, .int .i64 0], .bool false]
def RetJ (w : World) (o : Option EndD) (e : Ending) (w' : World) : Prop := e = .returned (joinO o) ∧ Below w.heap.size w w'
theorem join_hit1 {e a b : EndD} {r : List (EndD × EndD)} (h : (a == e) = true) : joinF e ((a, b) :: r) = some b := by
  rw [joinF, if_pos (by simpa using h)]
theorem join_hit2 {e a b : EndD} {r : List (EndD × EndD)} (h : (a == e) = false) (h2 : (b == e) = true) : joinF e ((a, b) :: r) = some a := by
  rw [joinF, if_neg (by simpa using h), if_pos (by simpa using h2)]
theorem join_miss {e a b : EndD} {r : List (EndD × EndD)} (h : (a == e) = false) (h2 : (b == e) = false) : joinF e ((a, b) :: r) = joinF e r := by
  rw [joinF, if_neg (by simpa using h), if_neg (by simpa using h2)]
set_option maxRecDepth 100000 in
set_option maxHeartbeats 4000000 in
theorem rjoined_any (v : Value) (L : LayD) (e s : Int) (w : World) (hv : RLay w v L) : Calls Tryz.prog 102 #[v, .agg #[.int .i64 e, .int .i64 s]] w (RetJ w (joinF (e, s) L.joints)) := by
  obtain ⟨v1, v2, v3, v4, v5, rfl, h1, h2, h3, h4, h5⟩ := hv
  clear h1 h2 h4 h5
  obtain ⟨a3, c3, rfl, ⟨m3, _⟩, HC⟩ := h3.openM
  clear h3
  obtain ⟨nm, es⟩ : ∃ s, str L.name = s := ⟨_, rfl⟩
  rw [es]
  clear es
  obtain ⟨q, hq⟩ : ∃ q, joinF (e, s) L.joints = q := ⟨_, rfl⟩
  rw [hq]
  have hq0 : Hid (joinF (e, s) (L.joints.drop 0) = q) := Lib.hid hq
  clear hq
  obtain ⟨js, hjs⟩ : ∃ js, L.joints = js := ⟨_, rfl⟩
  rw [hjs] at hq0 HC m3 ⊢
  clear hjs
  have EE := eql_end
  obtain ⟨W3, hW⟩ : ∃ W3, W3 = ((w.alloc (.cells #[nm, v1, v2, .slice a3 js.length c3, v4, v5] 28)).alloc (.cells #[.int .i64 e, .int .i64 s] 47)).alloc (.cells #[.int .i64 0, .int .i64 0] 47) := ⟨_, rfl⟩
  have HB : Below w.heap.size w W3 := by rw [hW]; exact (((Below.refl _ _).alloc (Nat.le_refl _) _).alloc (by simp) _).alloc (by simp; omega) _
  have HS : W3.heap.size = w.heap.size + 3 := by rw [hW]; simp
  have G1 : Blk W3 (w.heap.size + 1) #[.int .i64 e, .int .i64 s] := by rw [hW]; exact (Blk.new _ _ _ _ (by simp)).old _
  have G2 : Blk W3 (w.heap.size + 2) #[.int .i64 0, .int .i64 0] := by rw [hW]; exact Blk.new _ _ _ _ (by simp)
  go_enter Tryz.func102, Tryz.ntmps102
  go_wp2
  rw [← hW]
  clear hW
  go_loopg [11] js.length (fun g s11 wx => ∃ k : Nat, k + g = js.length ∧ s11 = .int .i64 k ∧ Hid (joinF (e, s) (js.drop k) = q) ∧ Below W3.heap.size W3 wx)
  case atStart => exact ⟨0, by omega, rfl, hq0, Below.refl _ _⟩
  case round =>
    obtain ⟨k, hk, rfl, E, hbw⟩ := hrel
    clear hq0
    have hw : Below w.heap.size w wr := HB.trans (hbw.mono HB.size)
    have hsz := hbw.size
    have B1 := G1.below hbw
    have B2 := G2.below hbw
    have d0 := B1.at 0 _ rfl
    have d1 := B1.at 1 _ rfl
    have p0 := B2.at 0 _ rfl
    have p1 := B2.at 1 _ rfl
    have f0 := B2.free 0
    have f1 := B2.free 1
    have hlw : w.heap.size + 2 < wr.heap.size := by omega
    have hl1 : w.heap.size + 1 < wr.heap.size := by omega
    replace B2 := Lib.hid B2
    clear G1 G2 B1
    cases gk with
    | zero =>
      have hz : ¬ ((k : Int) < (js.length : Int)) := by omega
      have E' := E.out
      rw [List.drop_eq_nil_of_le (by omega)] at E'
      unfold joinF at E'
      subst E'
      clear E hk
      go_wp2
      refine ret_cell2 rfl Tryz.underlying47 rfl (cs := #[.int .i64 0, .int .i64 0]) (by kernel_rfl) rfl ((B2.out.set 0 _).set 1 _) rfl ⟨rfl, ?_⟩
      exact (hw.setCell (by simp; omega) _).setCell (by simp; omega) _
    | succ g =>
      have hz : (k : Int) < (js.length : Int) := by omega
      obtain ⟨⟨⟨x1, x2⟩, ⟨x3, x4⟩⟩, hy, _⟩ := at_take (l := js) (k := k) (by omega)
      obtain ⟨b, off, rfl, hlt, hc⟩ := HC.out.rd hw hy
      have cc0 := hc 0 _ rfl
      have cc1 := hc 1 _ rfl
      have cc2 := hc 2 _ rfl
      have cc3 := hc 3 _ rfl
      simp only [Nat.add_zero] at cc0 cc1 cc2 cc3
      have E' := E.out
      rw [drop_get hy] at E'
      clear E hc hy
      replace hk := Lib.hid hk
      cases q1 : (((x1, x2) : EndD) == (e, s))
      · cases q2 : (((x3, x4) : EndD) == (e, s))
        · rw [join_miss q1 q2] at E'
          replace E' := Lib.hid E'
          go_wp2
          go_roundg g
          case measure => omega
          case rel => exact ⟨k + 1, by have := hk.out; omega, by go_num, E', alloc_below hbw (Nat.le_refl _) _⟩
        · rw [join_hit2 q1 q2] at E'
          subst E'
          go_wp2
          refine ret_cell2 rfl Tryz.underlying47 rfl (cs := #[.int .i64 x1, .int .i64 x2]) (by kernel_rfl) rfl (((B2.out.set 0 _).set 1 _).old _) rfl ⟨rfl, ?_⟩
          exact alloc_below ((hw.setCell (by simp; omega) _).setCell (by simp; omega) _) (Nat.le_refl _) _
      · rw [join_hit1 q1] at E'
        subst E'
        go_wp2
        refine ret_cell2 rfl Tryz.underlying47 rfl (cs := #[.int .i64 x3, .int .i64 x4]) (by kernel_rfl) rfl (((B2.out.set 0 _).set 1 _).old _) rfl ⟨rfl, ?_⟩
        exact alloc_below ((hw.setCell (by simp; omega) _).setCell (by simp; omega) _) (Nat.le_refl _) _
end
section
open Go.ChangeShapes Go.WideShapes Go.ChangeAt Go.RowKit
theorem rightS_bad {n : Nat} {x : ElD} (h : x.kind < 1 ∨ 3 < x.kind ∨ x.length < 500 ∨ 1000000 < x.length ∨ x.grade < -50 ∨ 50 < x.grade ∨ x.speed < 100 ∨ 10000 < x.speed ∨ x.sec < 0 ∨ (n : Int) ≤ x.sec) : rightS n x = false := by
  unfold rightS
  rw [decide_eq_false (by omega)]; rfl
theorem rightS_ok {n : Nat} {x : ElD} (h : ¬ (x.kind < 1 ∨ 3 < x.kind ∨ x.length < 500 ∨ 1000000 < x.length ∨ x.grade < -50 ∨ 50 < x.grade ∨ x.speed < 100 ∨ 10000 < x.speed ∨ x.sec < 0 ∨ (n : Int) ≤ x.sec)) : rightS n x = slowS x := by
  unfold rightS
  rw [decide_eq_true (by omega)]; rfl
theorem two_below (w : World) (o1 o2 : Obj) : Below w.heap.size w ((w.alloc o1).alloc o2) := ((Below.refl _ _).alloc (Nat.le_refl _) _).alloc (by simp) _
def elA (x : ElD) : Value := .agg #[str x.name, .int .i64 x.kind, .int .i64 x.length, .int .i64 x.grade, .int .i64 x.speed, .int .i64 x.slow, .int .i64 x.sec]
set_option maxRecDepth 100000 in
set_option maxHeartbeats 8000000 in
theorem rright_any (v : Value) (L : LayD) (x : ElD) (w : World) (hv : RLay w v L) : Calls Tryz.prog 98 #[v, elA x] w (RetB w (rightS L.secs.length x)) := by
  obtain ⟨v1, v2, v3, v4, v5, rfl, h1, h2, h3, h4, h5⟩ := hv
  clear h2 h3 h4 h5
  obtain ⟨a1, c1, rfl, ⟨m1, _⟩, _⟩ := h1.openS
  clear h1
  obtain ⟨n, en⟩ : ∃ n, L.secs.length = n := ⟨_, rfl⟩
  obtain ⟨lm, es⟩ : ∃ s, str L.name = s := ⟨_, rfl⟩
  rw [en, es]
  clear en es m1
  obtain ⟨xn, kd, ln, gr, sp, sl, sc⟩ := x
  unfold elA
  simp only
  obtain ⟨xm, ex⟩ : ∃ s, str xn = s := ⟨_, rfl⟩
  rw [ex]
  clear ex
  obtain ⟨x, hx⟩ : ∃ x : ElD, x = ⟨xn, kd, ln, gr, sp, sl, sc⟩ := ⟨_, rfl⟩
  rw [← hx]
  by_cases c0 : kd < 1
  · have e : rightS n x = false := by rw [hx]; exact rightS_bad (by simp only; omega)
    rw [e]
    have u0 : decide (kd < 1) = true := by simp; omega
    clear c0 e
    go_enter Tryz.func98, Tryz.ntmps98
    go_wp2
    go_ret
    exact ⟨rfl, two_below w _ _⟩
  by_cases c1 : 3 < kd
  · have e : rightS n x = false := by rw [hx]; exact rightS_bad (by simp only; omega)
    rw [e]
    have u0 : decide (kd < 1) = false := by simp; omega
    have u1 : decide (3 < kd) = true := by simp; omega
    clear c0 c1 e
    go_enter Tryz.func98, Tryz.ntmps98
    go_wp2
    go_ret
    exact ⟨rfl, two_below w _ _⟩
  by_cases c2 : ln < 500
  · have e : rightS n x = false := by rw [hx]; exact rightS_bad (by simp only; omega)
    rw [e]
    have u0 : decide (kd < 1) = false := by simp; omega
    have u1 : decide (3 < kd) = false := by simp; omega
    have u2 : decide (ln < 500) = true := by simp; omega
    clear c0 c1 c2 e
    go_enter Tryz.func98, Tryz.ntmps98
    go_wp2
    go_ret
    exact ⟨rfl, two_below w _ _⟩
  by_cases c3 : 1000000 < ln
  · have e : rightS n x = false := by rw [hx]; exact rightS_bad (by simp only; omega)
    rw [e]
    have u0 : decide (kd < 1) = false := by simp; omega
    have u1 : decide (3 < kd) = false := by simp; omega
    have u2 : decide (ln < 500) = false := by simp; omega
    have u3 : decide (1000000 < ln) = true := by simp; omega
    clear c0 c1 c2 c3 e
    go_enter Tryz.func98, Tryz.ntmps98
    go_wp2
    go_ret
    exact ⟨rfl, two_below w _ _⟩
  by_cases c4 : gr < -50
  · have e : rightS n x = false := by rw [hx]; exact rightS_bad (by simp only; omega)
    rw [e]
    have u0 : decide (kd < 1) = false := by simp; omega
    have u1 : decide (3 < kd) = false := by simp; omega
    have u2 : decide (ln < 500) = false := by simp; omega
    have u3 : decide (1000000 < ln) = false := by simp; omega
    have u4 : decide (gr < -50) = true := by simp; omega
    clear c0 c1 c2 c3 c4 e
    go_enter Tryz.func98, Tryz.ntmps98
    go_wp2
    go_ret
    exact ⟨rfl, two_below w _ _⟩
  by_cases c5 : 50 < gr
  · have e : rightS n x = false := by rw [hx]; exact rightS_bad (by simp only; omega)
    rw [e]
    have u0 : decide (kd < 1) = false := by simp; omega
    have u1 : decide (3 < kd) = false := by simp; omega
    have u2 : decide (ln < 500) = false := by simp; omega
    have u3 : decide (1000000 < ln) = false := by simp; omega
    have u4 : decide (gr < -50) = false := by simp; omega
    have u5 : decide (50 < gr) = true := by simp; omega
    clear c0 c1 c2 c3 c4 c5 e
    go_enter Tryz.func98, Tryz.ntmps98
    go_wp2
    go_ret
    exact ⟨rfl, two_below w _ _⟩
  by_cases c6 : sp < 100
  · have e : rightS n x = false := by rw [hx]; exact rightS_bad (by simp only; omega)
    rw [e]
    have u0 : decide (kd < 1) = false := by simp; omega
    have u1 : decide (3 < kd) = false := by simp; omega
    have u2 : decide (ln < 500) = false := by simp; omega
    have u3 : decide (1000000 < ln) = false := by simp; omega
    have u4 : decide (gr < -50) = false := by simp; omega
    have u5 : decide (50 < gr) = false := by simp; omega
    have u6 : decide (sp < 100) = true := by simp; omega
    clear c0 c1 c2 c3 c4 c5 c6 e
    go_enter Tryz.func98, Tryz.ntmps98
    go_wp2
    go_ret
    exact ⟨rfl, two_below w _ _⟩
  by_cases c7 : 10000 < sp
  · have e : rightS n x = false := by rw [hx]; exact rightS_bad (by simp only; omega)
    rw [e]
    have u0 : decide (kd < 1) = false := by simp; omega
    have u1 : decide (3 < kd) = false := by simp; omega
    have u2 : decide (ln < 500) = false := by simp; omega
    have u3 : decide (1000000 < ln) = false := by simp; omega
    have u4 : decide (gr < -50) = false := by simp; omega
    have u5 : decide (50 < gr) = false := by simp; omega
    have u6 : decide (sp < 100) = false := by simp; omega
    have u7 : decide (10000 < sp) = true := by simp; omega
    clear c0 c1 c2 c3 c4 c5 c6 c7 e
    go_enter Tryz.func98, Tryz.ntmps98
    go_wp2
    go_ret
    exact ⟨rfl, two_below w _ _⟩
  by_cases c8 : sc < 0
  · have e : rightS n x = false := by rw [hx]; exact rightS_bad (by simp only; omega)
    rw [e]
    have u0 : decide (kd < 1) = false := by simp; omega
    have u1 : decide (3 < kd) = false := by simp; omega
    have u2 : decide (ln < 500) = false := by simp; omega
    have u3 : decide (1000000 < ln) = false := by simp; omega
    have u4 : decide (gr < -50) = false := by simp; omega
    have u5 : decide (50 < gr) = false := by simp; omega
    have u6 : decide (sp < 100) = false := by simp; omega
    have u7 : decide (10000 < sp) = false := by simp; omega
    have u8 : decide (sc < 0) = true := by simp; omega
    clear c0 c1 c2 c3 c4 c5 c6 c7 c8 e
    go_enter Tryz.func98, Tryz.ntmps98
    go_wp2
    go_ret
    exact ⟨rfl, two_below w _ _⟩
  by_cases c9 : (n : Int) ≤ sc
  · have e : rightS n x = false := by rw [hx]; exact rightS_bad (by simp only; omega)
    rw [e]
    have u0 : decide (kd < 1) = false := by simp; omega
    have u1 : decide (3 < kd) = false := by simp; omega
    have u2 : decide (ln < 500) = false := by simp; omega
    have u3 : decide (1000000 < ln) = false := by simp; omega
    have u4 : decide (gr < -50) = false := by simp; omega
    have u5 : decide (50 < gr) = false := by simp; omega
    have u6 : decide (sp < 100) = false := by simp; omega
    have u7 : decide (10000 < sp) = false := by simp; omega
    have u8 : decide (sc < 0) = false := by simp; omega
    have u9 : decide ((n : Int) ≤ sc) = true := by simp; omega
    clear c0 c1 c2 c3 c4 c5 c6 c7 c8 c9 e
    go_enter Tryz.func98, Tryz.ntmps98
    go_wp2
    go_ret
    exact ⟨rfl, two_below w _ _⟩
  have e : rightS n x = slowS x := by rw [hx]; exact rightS_ok (by simp only; omega)
  rw [e]
  have u0 : decide (kd < 1) = false := by simp; omega
  have u1 : decide (3 < kd) = false := by simp; omega
  have u2 : decide (ln < 500) = false := by simp; omega
  have u3 : decide (1000000 < ln) = false := by simp; omega
  have u4 : decide (gr < -50) = false := by simp; omega
  have u5 : decide (50 < gr) = false := by simp; omega
  have u6 : decide (sp < 100) = false := by simp; omega
  have u7 : decide (10000 < sp) = false := by simp; omega
  have u8 : decide (sc < 0) = false := by simp; omega
  have u9 : decide ((n : Int) ≤ sc) = false := by simp; omega
  clear e c0 c1 c2 c3 c4 c5 c6 c7 c8 c9
  have es : slowS x = if kd = 2 then decide (100 ≤ sl) && decide (sl ≤ sp) else sl == 0 := by rw [hx]; rfl
  rw [es]
  clear es
  by_cases k2 : kd = 2
  · rw [if_pos k2]
    have b2 : (kd == 2) = true := by simpa using k2
    clear k2
    cases b3 : decide (100 ≤ sl)
    · go_enter Tryz.func98, Tryz.ntmps98
      go_wp2
      go_ret
      exact ⟨rfl, two_below w _ _⟩
    · go_enter Tryz.func98, Tryz.ntmps98
      go_wp2
      go_ret
      exact ⟨by simp, two_below w _ _⟩
  · rw [if_neg k2]
    have b2 : (kd == 2) = false := by simpa using k2
    clear k2
    go_enter Tryz.func98, Tryz.ntmps98
    go_wp2
    go_ret
    exact ⟨rfl, two_below w _ _⟩
end
section
open Go.ChangeShapes Go.WideShapes Go.ChangeAt Go.RowKit
theorem intsV_snoc (l : List Int) (n : Int) : intsV (l ++ [n]) = intsV l ++ [.int .i64 n] := by simp [intsV]
theorem wpList_pushB {P : Program} (w : World) {ops : Array Oper} {rest : List Oper} {o : Oper} {a : Act} {Q : Exit → Act → World → Prop} (hgd : o.guard = none) (s x : Operand) (t : TypeId)
    (ho : o.op = .call { callee := .builtin .append, args := #[s, x], argTypes := #[t, t] })
    (base : Nat) (e : TypeId) (z : Value) (size bytes : Nat) (ht : P.underlying t = some (.slice e)) (hi : (P.info? e).map (fun i => (i.zero, i.size, i.bytes)) = some (some z, size, bytes))
    (hzs : z.cells.size = size) (hsz : 0 < size)
    (v : Value) (n : Nat) (xs : List Value) (hs : a.eval s = v) (hown : w.ownsRow base e size v n xs) (B : Nat) (hB : B = w.heap.size)
    (news : List Value) (hx : a.eval x = .slice (some ⟨B, 0, none⟩) 1 1) (hl : news.length = size) (h1 : ∀ u ∈ news, u.oneCell' = true)
    (h63 : n + 1 ≤ 9223372036854775807) (hbytes : (n + 1) * bytes ≤ 140737488355328) (hbase : base ≤ w.heap.size)
    (h : ∀ v' w', w'.ownsRow base e size v' (n + 1) (xs ++ news) → w.grownBy w' v.ownBlock → (∀ g, v'.ownBlock = some g → v.ownBlock = some g ∨ w.heap.size ≤ g) → wpList P ops Q rest (a.put o.dst v') w') :
    wpList P ops Q (o :: rest) a (w.alloc (.cells news.toArray e)) := by
  subst hB
  exact wpList_push w hgd s x t ho base e z size bytes ht hi hzs hsz v n xs hs hown news hx hl h1 h63 hbytes hbase h
def memP (s : Int) (b : Bool) (i : Nat) : List ElD → List Int
  | [] => []
  | x :: xs => if x.sec = s ∧ b = true then (i : Int) :: memP s b (i + 1) xs else memP s b (i + 1) xs
theorem memP_true (s : Int) : ∀ (xs : List ElD) (i : Nat), memP s true i xs = memG s i xs
  | [], i => rfl
  | x :: xs, i => by unfold memP memG; rw [memP_true s xs]; simp
theorem memP_false (s : Int) : ∀ (xs : List ElD) (i : Nat), memP s false i xs = []
  | [], i => rfl
  | x :: xs, i => by unfold memP; rw [memP_false s xs]; simp
theorem members_eq (L : LayD) (s : Int) : membersS L s = memP s (decide (0 ≤ s) && decide (s < L.secs.length)) 0 L.els := by
  unfold membersS
  by_cases h : 0 ≤ s ∧ s < L.secs.length
  · rw [if_pos h, decide_eq_true h.1, decide_eq_true h.2]; exact (memP_true _ _ _).symm
  · rw [if_neg h]
    have e : (decide (0 ≤ s) && decide (s < L.secs.length)) = false := by
      rw [← Bool.not_eq_true]; intro hh; simp only [Bool.and_eq_true, decide_eq_true_eq] at hh; exact h hh
    rw [e]; exact (memP_false _ _ _).symm
set_option maxRecDepth 100000 in
set_option maxHeartbeats 8000000 in
theorem rmembers_any (v : Value) (L : LayD) (s : Int) (w : World) (hv : RLay w v L) (hL : L.els.length ≤ 60) : Calls Tryz.prog 99 #[v, .int .i64 s] w (RetL w (membersS L s)) := by
  obtain ⟨v1, v2, v3, v4, v5, rfl, h1, h2, h3, h4, h5⟩ := hv
  clear h3 h4 h5
  obtain ⟨a1, c1, rfl, ⟨m1, _⟩, _⟩ := h1.openS
  obtain ⟨a2, c2, rfl, ⟨m2, _⟩, HC⟩ := h2.openM
  clear h1 h2
  obtain ⟨nm, es⟩ : ∃ s, str L.name = s := ⟨_, rfl⟩
  rw [es, members_eq]
  clear es
  obtain ⟨n, en⟩ : ∃ n, L.secs.length = n := ⟨_, rfl⟩
  rw [en] at m1 ⊢
  obtain ⟨els, he⟩ : ∃ els, L.els = els := ⟨_, rfl⟩
  rw [he] at m2 HC hL ⊢
  clear en he
  obtain ⟨q, hq⟩ : ∃ q, memP s (decide (0 ≤ s) && decide (s < (n : Int))) 0 els = q := ⟨_, rfl⟩
  rw [hq]
  have hq0 : Hid ([] ++ memP s (decide (0 ≤ s) && decide (s < (n : Int))) 0 (els.drop 0) = q) := Lib.hid hq
  clear hq
  obtain ⟨W1, hW⟩ : ∃ W1, W1 = w.alloc (.cells #[nm, .slice a1 n c1, .slice a2 els.length c2, v3, v4, v5] 28) := ⟨_, rfl⟩
  have HB : Below w.heap.size w W1 := by rw [hW]; exact (Below.refl _ _).alloc (Nat.le_refl _) _
  have HS : W1.heap.size = w.heap.size + 1 := by rw [hW]; simp
  have G1 : Blk W1 w.heap.size #[nm, .slice a1 n c1, .slice a2 els.length c2, v3, v4, v5] := by rw [hW]; exact Blk.new _ _ _ _ rfl
  go_enter Tryz.func99, Tryz.ntmps99
  go_wp2
  rw [← hW]
  clear hW
  go_loopg [5, 11] els.length (fun g s5 s11 wx => ∃ (k : Nat) (acc : List Int), k + g = els.length ∧ s11 = .int .i64 k ∧ acc.length ≤ k ∧ Hid (acc ++ memP s (decide (0 ≤ s) && decide (s < (n : Int))) k (els.drop k) = q) ∧ wx.ownsRow W1.heap.size 3 1 s5 acc.length (intsV acc) ∧ Below W1.heap.size W1 wx)
  case atStart => exact ⟨0, [], by omega, rfl, Nat.le_refl _, hq0, World.ownsRow_nil _ _ _ _, Below.refl _ _⟩
  case round =>
    obtain ⟨k, acc, hk, rfl, hal, E, ho, hbw⟩ := hrel
    clear hq0
    have hw : Below w.heap.size w wr := HB.trans (hbw.mono HB.size)
    have hsz := hbw.size
    have hsw := hw.size
    have hl0 : w.heap.size < wr.heap.size := by omega
    have d1 := (G1.below hbw).at 1 _ rfl
    clear G1
    cases gk with
    | zero =>
      have hz : ¬ ((k : Int) < (els.length : Int)) := by omega
      have E' := E.out
      rw [List.drop_eq_nil_of_le (by omega)] at E'
      unfold memP at E'
      rw [List.append_nil] at E'
      subst E'
      clear E hk
      go_wp2
      go_ret
      exact ⟨_, rfl, RS.own ho, hw⟩
    | succ g =>
      have hz : (k : Int) < (els.length : Int) := by omega
      have hal2 : acc.length ≤ 60 := by omega
      obtain ⟨⟨xn, kd, ln, gr, sp, sl, sc⟩, hy, _⟩ := at_take (l := els) (k := k) (by omega)
      obtain ⟨b, off, rfl, hlt, hc⟩ := HC.out.rd hw hy
      have cc0 := hc 0 _ rfl
      have cc1 := hc 1 _ rfl
      have cc2 := hc 2 _ rfl
      have cc3 := hc 3 _ rfl
      have cc4 := hc 4 _ rfl
      have cc5 := hc 5 _ rfl
      have cc6 := hc 6 _ rfl
      simp only [Nat.add_zero] at cc0 cc1 cc2 cc3 cc4 cc5 cc6
      obtain ⟨xm, ex⟩ : ∃ s : ByteArray, (⟨xn.toArray⟩ : ByteArray) = s := ⟨_, rfl⟩
      have ex2 : str xn = .string xm := by rw [← ex]
      simp only [ex2] at cc0
      have E' := E.out
      rw [drop_get hy, memP] at E'
      simp only at E'
      clear E hc hy ex
      replace hk := Lib.hid hk
      replace hal := Lib.hid hal
      cases t1 : (sc == s)
      · rw [if_neg (by simp at t1; simp [t1])] at E'
        replace E' := Lib.hid E'
        go_wp2
        go_roundg g
        case measure => omega
        case rel => exact ⟨k + 1, acc, by have := hk.out; omega, by go_num, by have := hal.out; omega, E', ho.alloc _, alloc_below hbw (Nat.le_refl _) _⟩
      · cases t2 : decide (0 ≤ s)
        · rw [if_neg (by simp [t2])] at E'
          replace E' := Lib.hid E'
          go_wp2
          go_roundg g
          case measure => omega
          case rel => exact ⟨k + 1, acc, by have := hk.out; omega, by go_num, by have := hal.out; omega, E', ho.alloc _, alloc_below hbw (Nat.le_refl _) _⟩
        · cases t3 : decide (s < (n : Int))
          · rw [if_neg (by simp [t3])] at E'
            replace E' := Lib.hid E'
            go_wp2
            go_roundg g
            case measure => omega
            case rel => exact ⟨k + 1, acc, by have := hk.out; omega, by go_num, by have := hal.out; omega, E', ho.alloc _, alloc_below hbw (Nat.le_refl _) _⟩
          · rw [if_pos (by simp at t1; simp [t1, t2, t3])] at E'
            have E2 : Hid ((acc ++ [(k : Int)]) ++ memP s (decide (0 ≤ s) && decide (s < (n : Int))) (k + 1) (els.drop (k + 1)) = q) := Lib.hid (by simpa using E')
            clear E'
            go_wp2_with (at_builtin
                         refine wpList_pushB _ rfl _ _ 81 rfl W1.heap.size 3 (.int .i64 0) 1 8 Tryz.underlying81 info_int rfl (by omega) u5 acc.length _ rfl (ho.alloc _) (wr.heap.size + 1) (by simp) [.int .i64 k] rfl rfl (by simp [Value.oneCell']) (by omega) (by omega) (by simp; omega) ?_
                         intro v3 w3 p3 gr3 nb3
                         have hb3 := below_grown (alloc_below hbw (Nat.le_refl _) _) gr3 (ho.alloc _) (Nat.le_refl _) (by simp; omega)
                         replace p3 := Lib.hid p3
                         clear nb3 gr3)
            go_roundg g
            case measure => omega
            case rel => exact ⟨k + 1, acc ++ [(k : Int)], by have := hk.out; omega, by go_num, by have := hal.out; simp; omega, E2, by rw [intsV_snoc, List.length_append]; exact p3.out, hb3⟩
end
section
open Go.ChangeShapes Go.WideShapes Go.ChangeAt Go.RowKit
theorem not_nodup {α : Type} {l : List α} {i k : Nat} {y : α} (hk : l[k]? = some y) (hi : l[i]? = some y) (h : k < i) : ¬ l.Nodup := by
  intro hn
  obtain ⟨h1, e1⟩ := List.getElem?_eq_some_iff.1 hk
  obtain ⟨h2, e2⟩ := List.getElem?_eq_some_iff.1 hi
  have := (List.getElem_inj hn).1 (e1.trans e2.symm)
  omega
theorem nodup_next {α : Type} {l : List α} {i : Nat} {y : α} (h : (l.take i).Nodup) (ht : l.take (i + 1) = l.take i ++ [y]) (hy : y ∉ l.take i) : (l.take (i + 1)).Nodup := by
  rw [ht, List.nodup_append]
  exact ⟨h, by simp, fun a ha b hb => by simp at hb; subst hb; rintro rfl; exact hy ha⟩
theorem notin_next {α : Type} {l : List α} {k : Nat} {y z : α} (h : y ∉ l.take k) (ht : l.take (k + 1) = l.take k ++ [z]) (hz : z ≠ y) : y ∉ l.take (k + 1) := by
  rw [ht]; simp [h]; exact fun e => hz e.symm
set_option maxRecDepth 100000 in
set_option maxHeartbeats 4000000 in
theorem rends_any (v : Value) (l : List EndD) (w : World) (hv : RM w v 2 (l.map enV)) : Calls Tryz.prog 101 #[v] w (RetB w (!decide l.Nodup)) := by
  obtain ⟨a, c, rfl, ⟨m, _⟩, HC⟩ := hv.openM
  clear hv
  have EE := eql_end
  obtain ⟨q, hq⟩ : ∃ q, (!decide l.Nodup) = q := ⟨_, rfl⟩
  rw [hq]
  replace hq := Lib.hid hq
  go_enter Tryz.func101, Tryz.ntmps101
  go_wp2
  go_loopg [7] l.length (fun g s7 wx => ∃ i : Nat, i + g = l.length ∧ s7 = .int .i64 i ∧ Hid ((l.take i).Nodup) ∧ Below w.heap.size w wx)
  case atStart => exact ⟨0, by omega, rfl, Lib.hid (by simp), Below.refl _ _⟩
  case round =>
    obtain ⟨i, hi, rfl, HN, hbw⟩ := hrel
    cases gk with
    | zero =>
      have hz : ¬ ((i : Int) < (l.length : Int)) := by omega
      obtain rfl : q = false := by rw [← hq.out]; have := HN.out; rw [List.take_of_length_le (by omega)] at this; simp [this]
      replace hi := Lib.hid hi
      go_wp2
      go_ret
      exact ⟨rfl, hbw⟩
    | succ g =>
      have hz : (i : Int) < (l.length : Int) := by omega
      obtain ⟨y, hy, hty, _⟩ := at_take (l := l) (k := i) (by omega)
      replace hi := Lib.hid hi
      replace hy := Lib.hid hy
      replace hty := Lib.hid hty
      go_wp2
      go_loopg [11] i (fun g s11 wx => ∃ k : Nat, k + g = i ∧ s11 = .int .i64 k ∧ Hid (y ∉ l.take k) ∧ Below w.heap.size w wx)
      case atStart => exact ⟨0, by omega, rfl, Lib.hid (by simp), hbw⟩
      case round =>
        obtain ⟨k, hk, rfl, HY, hbw2⟩ := hrel
        clear hbw
        cases gk with
        | zero =>
          have h2 : ¬ ((k : Int) < (i : Int)) := by omega
          obtain rfl : k = i := by omega
          clear hk
          go_wp2
          go_roundg g
          case measure => omega
          case rel => exact ⟨k + 1, by have := hi.out; omega, by go_num, Lib.hid (nodup_next HN.out hty.out HY.out), hbw2⟩
        | succ g2 =>
          have h2 : (k : Int) < (i : Int) := by omega
          have hkl : (k : Int) < (l.length : Int) := by have := hi.out; omega
          obtain ⟨z, hzz, htz, _⟩ := at_take (l := l) (k := k) (by have := hi.out; omega)
          obtain ⟨b1, o1, rfl, hl1, cy⟩ := HC.out.rd hbw2 hy.out
          have y0 := cy 0 _ rfl
          have y1 := cy 1 _ rfl
          simp only [Nat.add_zero] at y0 y1
          obtain ⟨b2, o2, e2, hl2, cz⟩ := HC.out.rd hbw2 hzz
          obtain ⟨rfl, rfl⟩ : b1 = b2 ∧ o1 = o2 := by simpa using e2
          have z0 := cz 0 _ rfl
          have z1 := cz 1 _ rfl
          simp only [Nat.add_zero] at z0 z1
          clear cy cz e2 hl2
          replace hk := Lib.hid hk
          replace hzz := Lib.hid hzz
          replace htz := Lib.hid htz
          cases t : (((y.1, y.2) : EndD) == (z.1, z.2))
          · have hne : z ≠ y := by
              rintro rfl
              simp at t
            have hne2 := Lib.hid hne
            clear hne
            go_wp2
            go_quiet (fail)
            go_wp2
            go_roundg g2
            case measure => omega
            case rel => exact ⟨k + 1, by have := hk.out; omega, by go_num, Lib.hid (notin_next HY.out htz.out hne2.out), bdrew hbw2 _⟩
          · obtain rfl : q = true := by
              have e : y = z := by simp at t; exact Prod.ext t.1 t.2
              subst e
              rw [← hq.out]; simp; exact not_nodup hzz.out hy.out (by omega)
            go_wp2
            go_quiet (fail)
            go_wp2
            go_ret
            exact ⟨rfl, bdrew hbw2 _⟩
set_option maxRecDepth 100000 in
set_option maxHeartbeats 4000000 in
theorem rtexts_any (v : Value) (l : List L8) (w : World) (hv : RS w v (strsV l)) : Calls Tryz.prog 97 #[v] w (RetB w (!decide l.Nodup)) := by
  obtain ⟨a, c, rfl, ⟨m, _⟩, HC⟩ := hv.openS
  clear hv
  obtain ⟨q, hq⟩ : ∃ q, (!decide l.Nodup) = q := ⟨_, rfl⟩
  rw [hq]
  replace hq := Lib.hid hq
  go_enter Tryz.func97, Tryz.ntmps97
  go_wp2
  go_loopg [7] l.length (fun g s7 wx => ∃ i : Nat, i + g = l.length ∧ s7 = .int .i64 i ∧ Hid ((l.take i).Nodup) ∧ Below w.heap.size w wx)
  case atStart => exact ⟨0, by omega, rfl, Lib.hid (by simp), Below.refl _ _⟩
  case round =>
    obtain ⟨i, hi, rfl, HN, hbw⟩ := hrel
    cases gk with
    | zero =>
      have hz : ¬ ((i : Int) < (l.length : Int)) := by omega
      obtain rfl : q = false := by rw [← hq.out]; have := HN.out; rw [List.take_of_length_le (by omega)] at this; simp [this]
      replace hi := Lib.hid hi
      go_wp2
      go_ret
      exact ⟨rfl, hbw⟩
    | succ g =>
      have hz : (i : Int) < (l.length : Int) := by omega
      obtain ⟨y, hy, hty, _⟩ := at_take (l := l) (k := i) (by omega)
      replace hi := Lib.hid hi
      replace hy := Lib.hid hy
      replace hty := Lib.hid hty
      go_wp2
      go_loopg [11] i (fun g s11 wx => ∃ k : Nat, k + g = i ∧ s11 = .int .i64 k ∧ Hid (y ∉ l.take k) ∧ Below w.heap.size w wx)
      case atStart => exact ⟨0, by omega, rfl, Lib.hid (by simp), hbw⟩
      case round =>
        obtain ⟨k, hk, rfl, HY, hbw2⟩ := hrel
        clear hbw
        cases gk with
        | zero =>
          have h2 : ¬ ((k : Int) < (i : Int)) := by omega
          obtain rfl : k = i := by omega
          clear hk
          go_wp2
          go_roundg g
          case measure => omega
          case rel => exact ⟨k + 1, by have := hi.out; omega, by go_num, Lib.hid (nodup_next HN.out hty.out HY.out), hbw2⟩
        | succ g2 =>
          have h2 : (k : Int) < (i : Int) := by omega
          have hkl : (k : Int) < (l.length : Int) := by have := hi.out; omega
          obtain ⟨z, hzz, htz, _⟩ := at_take (l := l) (k := k) (by have := hi.out; omega)
          obtain ⟨b1, o1, rfl, hl1, y0⟩ := HC.out.rd hbw2 hy.out
          obtain ⟨b2, o2, e2, hl2, z0⟩ := HC.out.rd hbw2 hzz
          obtain ⟨rfl, rfl⟩ : b1 = b2 ∧ o1 = o2 := by simpa using e2
          clear e2 hl2
          replace hk := Lib.hid hk
          replace hzz := Lib.hid hzz
          replace htz := Lib.hid htz
          cases t : (y == z)
          · have hne : z ≠ y := by
              rintro rfl
              simp at t
            have hne2 := Lib.hid hne
            clear hne
            go_wp2
            go_quiet (fail)
            go_wp2
            go_roundg g2
            case measure => omega
            case rel => exact ⟨k + 1, by have := hk.out; omega, by go_num, Lib.hid (notin_next HY.out htz.out hne2.out), bdrew hbw2 _⟩
          · obtain rfl : q = true := by
              have e : y = z := by simpa using t
              subst e
              rw [← hq.out]; simp; exact not_nodup hzz.out hy.out (by omega)
            go_wp2
            go_quiet (fail)
            go_wp2
            go_ret
            exact ⟨rfl, bdrew hbw2 _⟩
set_option maxRecDepth 100000 in
set_option maxHeartbeats 4000000 in
theorem rnumbers_any (v : Value) (l : List Int) (w : World) (hv : RS w v (intsV l)) : Calls Tryz.prog 103 #[v] w (RetB w (!decide l.Nodup)) := by
  obtain ⟨a, c, rfl, m, HC⟩ := hv.open
  clear hv
  obtain ⟨q, hq⟩ : ∃ q, (!decide l.Nodup) = q := ⟨_, rfl⟩
  rw [hq]
  replace hq := Lib.hid hq
  go_enter Tryz.func103, Tryz.ntmps103
  go_wp2
  go_loopg [7] l.length (fun g s7 wx => ∃ i : Nat, i + g = l.length ∧ s7 = .int .i64 i ∧ Hid ((l.take i).Nodup) ∧ Below w.heap.size w wx)
  case atStart => exact ⟨0, by omega, rfl, Lib.hid (by simp), Below.refl _ _⟩
  case round =>
    obtain ⟨i, hi, rfl, HN, hbw⟩ := hrel
    cases gk with
    | zero =>
      have hz : ¬ ((i : Int) < (l.length : Int)) := by omega
      obtain rfl : q = false := by rw [← hq.out]; have := HN.out; rw [List.take_of_length_le (by omega)] at this; simp [this]
      replace hi := Lib.hid hi
      go_wp2
      go_ret
      exact ⟨rfl, hbw⟩
    | succ g =>
      have hz : (i : Int) < (l.length : Int) := by omega
      obtain ⟨y, hy, hty, _⟩ := at_take (l := l) (k := i) (by omega)
      replace hi := Lib.hid hi
      replace hy := Lib.hid hy
      replace hty := Lib.hid hty
      go_wp2
      go_loopg [11] i (fun g s11 wx => ∃ k : Nat, k + g = i ∧ s11 = .int .i64 k ∧ Hid (y ∉ l.take k) ∧ Below w.heap.size w wx)
      case atStart => exact ⟨0, by omega, rfl, Lib.hid (by simp), hbw⟩
      case round =>
        obtain ⟨k, hk, rfl, HY, hbw2⟩ := hrel
        clear hbw
        cases gk with
        | zero =>
          have h2 : ¬ ((k : Int) < (i : Int)) := by omega
          obtain rfl : k = i := by omega
          clear hk
          go_wp2
          go_roundg g
          case measure => omega
          case rel => exact ⟨k + 1, by have := hi.out; omega, by go_num, Lib.hid (nodup_next HN.out hty.out HY.out), hbw2⟩
        | succ g2 =>
          have h2 : (k : Int) < (i : Int) := by omega
          have hkl : (k : Int) < (l.length : Int) := by have := hi.out; omega
          obtain ⟨z, hzz, htz, _⟩ := at_take (l := l) (k := k) (by have := hi.out; omega)
          obtain ⟨b1, o1, rfl, hl1, y0⟩ := HC.out.rd hbw2 hy.out
          obtain ⟨b2, o2, e2, hl2, z0⟩ := HC.out.rd hbw2 hzz
          obtain ⟨rfl, rfl⟩ : b1 = b2 ∧ o1 = o2 := by simpa using e2
          clear e2 hl2
          replace hk := Lib.hid hk
          replace hzz := Lib.hid hzz
          replace htz := Lib.hid htz
          cases t : (y == z)
          · have hne : z ≠ y := by
              rintro rfl
              simp at t
            have hne2 := Lib.hid hne
            clear hne
            go_wp2
            go_quiet (fail)
            go_wp2
            go_roundg g2
            case measure => omega
            case rel => exact ⟨k + 1, by have := hk.out; omega, by go_num, Lib.hid (notin_next HY.out htz.out hne2.out), bdrew hbw2 _⟩
          · obtain rfl : q = true := by
              have e : y = z := by simpa using t
              subst e
              rw [← hq.out]; simp; exact not_nodup hzz.out hy.out (by omega)
            go_wp2
            go_quiet (fail)
            go_wp2
            go_ret
            exact ⟨rfl, bdrew hbw2 _⟩
end
section
open Go.ChangeShapes Go.WideShapes Go.ChangeAt Go.RowKit
section
variable {P : Program} {w : World}
theorem run_append_zero (base : Nat) (t ty e : TypeId) (i : TypeInfo) (size : Nat) (ht : P.underlying t = some (.slice e)) (hi : P.info? e = some i)
    (v : Value) (n : Nat) (xs : List Value) (hown : w.ownsRow base e size v n xs) (a : Option Addr) (c : Nat) :
    (Builtin.append_ #[t, t] ty #[v, .slice a 0 c]).run P w = .ok v w := by
  have z : ∀ a ww, (loadCells a 0).run P ww = .ok #[] ww := fun a ww => by simpa using run_loadCells_list (P := P) ww a [] (by simp)
  rcases hown.2 with ⟨rfl, rfl⟩ | ⟨g, cap, cur, rfl, _, _, hnc, _⟩
  · cases a <;> simp [Builtin.append_, run_underlying ht, sizeOf, typeInfo, hi, Builtin.lenOf, Builtin.firstCells, z]
  · cases a <;> simp [Builtin.append_, run_underlying ht, sizeOf, typeInfo, hi, Builtin.lenOf, Builtin.firstCells, hnc, storeCells, z]
/-- append(v, u...) of a row that the call owns and a slice of one-cell elements that can be read. -/
theorem run_append_rs (w : World) (base : Nat) (t ty e : TypeId) (z : Value) (bytes : Nat) (ht : P.underlying t = some (.slice e)) (hi : (P.info? e).map (fun i => (i.zero, i.size, i.bytes)) = some (some z, 1, bytes))
    (hzs : z.cells.size = 1) (v : Value) (n : Nat) (xs : List Value) (hown : w.ownsRow base e 1 v n xs) (u : Value) (news : List Value) (hu : RS w u news) (h1 : ∀ x ∈ news, x.oneCell' = true)
    (h63 : n + news.length ≤ 9223372036854775807) (hbytes : (n + news.length) * bytes ≤ 140737488355328) (hbase : base ≤ w.heap.size) :
    ∃ v' w', (Builtin.append_ #[t, t] ty #[v, u]).run P w = .ok v' w' ∧ w'.ownsRow base e 1 v' (n + news.length) (xs ++ news) ∧ w.grownBy w' v.ownBlock ∧ (∀ g, v'.ownBlock = some g → v.ownBlock = some g ∨ w.heap.size ≤ g) := by
  obtain ⟨i, hi', hz, hsize, hby⟩ := info_parts hi
  obtain ⟨a, c, rfl, hm, hc⟩ := hu
  by_cases h0 : news.length = 0
  · obtain rfl : news = [] := List.eq_nil_of_length_eq_zero h0
    refine ⟨v, w, run_append_zero base t ty e i 1 ht hi' v n xs hown a c, by simpa using hown, ⟨rfl, rfl, rfl, Nat.le_refl _, fun _ _ _ => rfl⟩, fun g hg => Or.inl hg⟩
  · obtain ⟨b, off, rfl, _, _⟩ := hc 0 news[0] (by simp)
    have hnews : ∀ j x, news[j]? = some x → w.cell? ((⟨b, off, none⟩ : Addr).add j) = some x := by
      intro j x hj
      obtain ⟨b', off', he, _, hcc⟩ := hc j x hj
      simp only [Option.some.injEq, Addr.mk.injEq, and_true] at he
      obtain ⟨rfl, rfl⟩ := he
      have : (⟨b, off, none⟩ : Addr).add j = ⟨b, off + j, none⟩ := by unfold Addr.add; split <;> simp_all
      rw [this]; exact hcc
    exact run_append_told (P := P) w base t ty e i z 1 bytes ht hi' hz hsize hby hzs (by omega) v n xs hown ⟨b, off, none⟩ news.length c news (by omega) hnews h1 (by simp only [maxLen]; omega) hbytes hbase
/-- The same at an operation of the walk. -/
theorem wpList_append_rs (w : World) {ops : Array Oper} {rest : List Oper} {o : Oper} {a : Act} {Q : Exit → Act → World → Prop} (hgd : o.guard = none) (s x : Operand) (t : TypeId)
    (ho : o.op = .call { callee := .builtin .append, args := #[s, x], argTypes := #[t, t] })
    (base : Nat) (e : TypeId) (z : Value) (bytes : Nat) (ht : P.underlying t = some (.slice e)) (hi : (P.info? e).map (fun i => (i.zero, i.size, i.bytes)) = some (some z, 1, bytes))
    (hzs : z.cells.size = 1) (v : Value) (n : Nat) (xs : List Value) (hs : a.eval s = v) (hown : w.ownsRow base e 1 v n xs) (u : Value) (hx : a.eval x = u) (news : List Value) (hu : RS w u news) (h1 : ∀ x ∈ news, x.oneCell' = true)
    (h63 : n + news.length ≤ 9223372036854775807) (hbytes : (n + news.length) * bytes ≤ 140737488355328) (hbase : base ≤ w.heap.size)
    (h : ∀ v' w', w'.ownsRow base e 1 v' (n + news.length) (xs ++ news) → w.grownBy w' v.ownBlock → (∀ g, v'.ownBlock = some g → v.ownBlock = some g ∨ w.heap.size ≤ g) → wpList P ops Q rest (a.put o.dst v') w') :
    wpList P ops Q (o :: rest) a w := by
  refine wpList_plain hgd fun K hK => ?_
  obtain ⟨v', w', hr, h2, h3, h4⟩ := run_append_rs (P := P) w base t o.type e z bytes ht hi hzs v n xs hown u news hu h1 h63 hbytes hbase
  unfold Oper.wp execOp
  simp only [ho, resolve, invoke, builtin, Sem.run_bind, Sem.run_pure, Result.andThen_ok, List.map_toArray, List.map_cons, List.map_nil, hs, hx, hr]
  exact hK _ _ (h v' w' h2 h3 h4)
/-- The same as a step of a drawn region. -/
theorem step_append_rs {ops : Array Oper} {o : Oper} {a : Act} {w : World} {K : Act → World → Prop} {Q : Exit → Act → World → Prop} {E : Prop}
    (hg : o.guard = none) (s x : Operand) (t : TypeId) (hop : o.op = .call { callee := .builtin .append, args := #[s, x], argTypes := #[t, t] })
    (base : Nat) (e : TypeId) (z : Value) (bytes : Nat) (ht : P.underlying t = some (.slice e)) (hi : (P.info? e).map (fun i => (i.zero, i.size, i.bytes)) = some (some z, 1, bytes))
    (hzs : z.cells.size = 1) (v : Value) (n : Nat) (xs : List Value) (hs : a.eval s = v) (hown : w.ownsRow base e 1 v n xs) (u : Value) (hx : a.eval x = u) (news : List Value) (hu : RS w u news) (h1 : ∀ x ∈ news, x.oneCell' = true)
    (h63 : n + news.length ≤ 9223372036854775807) (hbytes : (n + news.length) * bytes ≤ 140737488355328) (hbase : base ≤ w.heap.size)
    (hK : ∀ v' w', w'.ownsRow base e 1 v' (n + news.length) (xs ++ news) → w.grownBy w' v.ownBlock → (∀ g, v'.ownBlock = some g → v.ownBlock = some g ∨ w.heap.size ≤ g) → K (a.put o.dst v') w') :
    if Region.wanted o (yielded ops a.tmps) = true then Oper.wp P o a w K Q else E := by
  have hw : Region.wanted o (yielded ops a.tmps) = true := by simp [Region.wanted, hg]
  rw [if_pos hw]
  obtain ⟨v', w', hr, h2, h3, h4⟩ := run_append_rs (P := P) w base t o.type e z bytes ht hi hzs v n xs hown u news hu h1 h63 hbytes hbase
  unfold Oper.wp execOp
  simp only [hop, resolve, invoke, builtin, Sem.run_bind, Sem.run_pure, Result.andThen_ok, List.map_toArray, List.map_cons, List.map_nil, hs, hx, hr]
  exact hK _ _ h2 h3 h4
end
theorem Blk.grown {w w' : World} {n : Nat} {cs : Array Value} {row : Option Nat} (h : Blk w n cs) (hg : w.grownBy w' row) (hne : row ≠ some n) : Blk w' n cs := by
  have hl := h.lt
  obtain ⟨t, h⟩ := h
  exact ⟨t, by rw [hg.block n hl hne.symm]; exact h⟩
theorem own_set {w : World} {base size : Nat} {e : TypeId} {v : Value} {n : Nat} {xs : List Value} (h : w.ownsRow base e size v n xs) (B : Nat) (hB : B < base) (j : Nat) (x : Value) : (w.setCell ⟨B, j, none⟩ x).ownsRow base e size v n xs := by
  refine h.kept (row := some B) ⟨rfl, rfl, rfl, by simp, fun k hk hne => Below.heap_setCell _ _ _ _ (fun e => hne (by rw [e]))⟩ ?_
  cases hv : v.ownBlock with
  | none => exact Or.inl rfl
  | some g =>
    refine Or.inr fun e => ?_
    have := (h.lt g hv).1
    simp at e
    omega
theorem own_lt {w : World} {base size : Nat} {e : TypeId} {v : Value} {n : Nat} {xs : List Value} (h : w.ownsRow base e size v n xs) {B : Nat} (hB : B < base) : v.ownBlock ≠ some B := by
  intro e
  have := (h.lt B e).1
  omega
end
end Go.Proofs.YteafkginhejllaaGreatDoor
