/- Texts of the layers 5 to 7, merged. -/
import Derived.Test.YteafkginhejllaaGreatDoorH8
namespace Go.Proofs.YteafkginhejllaaGreatDoor
section
open Go.ChangeShapes Go.WideShapes Go.ChangeAt Go.RowKit
/-- append of m elements of size cells, laid in a block of their own. -/
theorem wpList_pushN {P : Program} (w : World) {ops : Array Oper} {rest : List Oper} {o : Oper} {a : Act} {Q : Exit → Act → World → Prop} (hgd : o.guard = none) (s x : Operand) (t : TypeId)
    (ho : o.op = .call { callee := .builtin .append, args := #[s, x], argTypes := #[t, t] })
    (base : Nat) (e : TypeId) (z : Value) (size bytes : Nat) (ht : P.underlying t = some (.slice e)) (hi : (P.info? e).map (fun i => (i.zero, i.size, i.bytes)) = some (some z, size, bytes))
    (hzs : z.cells.size = size) (hsz : 0 < size)
    (v : Value) (n : Nat) (xs : List Value) (hs : a.eval s = v) (hown : w.ownsRow base e size v n xs) (B : Nat) (hB : B = w.heap.size) (m : Nat)
    (news : List Value) (hx : a.eval x = .slice (some ⟨B, 0, none⟩) m m) (hl : news.length = m * size) (h1 : ∀ u ∈ news, u.oneCell' = true)
    (h63 : n + m ≤ 9223372036854775807) (hbytes : (n + m) * bytes ≤ 140737488355328) (hbase : base ≤ w.heap.size)
    (h : ∀ v' w', w'.ownsRow base e size v' (n + m) (xs ++ news) → w.grownBy w' v.ownBlock → (∀ g, v'.ownBlock = some g → v.ownBlock = some g ∨ w.heap.size ≤ g) → wpList P ops Q rest (a.put o.dst v') w') :
    wpList P ops Q (o :: rest) a (w.alloc (.cells news.toArray e)) := by
  subst hB
  obtain ⟨i, hi, hz, hsize, hby⟩ := info_parts hi
  refine wpList_plain hgd fun K hK => ?_
  have hnews : ∀ j u, news[j]? = some u → (w.alloc (.cells news.toArray e)).cell? ((⟨w.heap.size, 0, none⟩ : Addr).add j) = some u := by
    intro j u hj
    have : (⟨w.heap.size, 0, none⟩ : Addr).add j = ⟨w.heap.size, j, none⟩ := by unfold Addr.add; split <;> simp_all
    rw [this, World.cell?_alloc_new]
    simpa using hj
  obtain ⟨v', w', hr, h2, h3, h4⟩ := run_append_told (P := P) (w.alloc (.cells news.toArray e)) base t o.type e i z size bytes ht hi hz hsize hby hzs hsz v n xs (hown.alloc _) ⟨w.heap.size, 0, none⟩ m m news hl hnews h1 (by simp only [maxLen]; omega) hbytes (by simp; omega)
  unfold Oper.wp execOp
  simp only [ho, resolve, invoke, builtin, Sem.run_bind, Sem.run_pure, Result.andThen_ok, List.map_toArray, List.map_cons, List.map_nil, hs, hx, hr]
  refine hK _ _ (h v' w' h2 ?_ ?_)
  · exact ⟨h3.os, h3.tape, h3.output, Nat.le_trans (by simp) h3.size, fun k hk hne => (h3.block k (by simp; omega) hne).trans (Below.heap_alloc _ _ _ hk)⟩
  · intro g hg
    rcases h4 g hg with h | h
    · exact Or.inl h
    · exact Or.inr (by simp at h; omega)
def enF (l : List EndD) : List Value := l.flatMap enV
theorem enF_length (l : List EndD) : (enF l).length = l.length * 2 := by
  induction l with
  | nil => rfl
  | cons x xs ih =>
    show (enV x ++ enF xs).length = _
    rw [List.length_append, ih]; simp [enV]; omega
theorem enF_at : ∀ (l : List EndD) (j : Nat) (e : EndD) (i : Nat) (x : Value), l[j]? = some e → (enV e)[i]? = some x → (enF l)[j * 2 + i]? = some x
  | [], j, e, i, x, h, _ => by simp at h
  | y :: ys, 0, e, i, x, h, hx => by
    simp at h; subst h
    have hi : i < 2 := by have := (List.getElem?_eq_some_iff.1 hx).1; simpa [enV] using this
    show (enV y ++ enF ys)[0 * 2 + i]? = some x
    rw [List.getElem?_append_left (by simp [enV]; omega)]
    simpa using hx
  | y :: ys, j + 1, e, i, x, h, hx => by
    show (enV y ++ enF ys)[(j + 1) * 2 + i]? = some x
    rw [List.getElem?_append_right (by simp [enV]; omega)]
    have := enF_at ys j e i x (by simpa using h) hx
    rw [show (j + 1) * 2 + i - (enV y).length = j * 2 + i by simp [enV]; omega]
    exact this
theorem RM.own {w : World} {base : Nat} {e : TypeId} {v : Value} {l : List EndD} (h : w.ownsRow base e 2 v l.length (enF l)) : RM w v 2 (l.map enV) := by
  obtain ⟨hl, h⟩ := h
  rcases h with ⟨rfl, hn⟩ | ⟨g, cap, cur, rfl, hg, hh, hnc, hcm, hcs, ht⟩
  · obtain rfl : l = [] := List.eq_nil_of_length_eq_zero hn
    exact ⟨none, 0, rfl, by simp, fun j r hr => by simp at hr⟩
  · refine ⟨some ⟨g, 0, none⟩, cap, by rw [List.length_map], by rw [List.length_map]; simp only [maxLen] at hcm; omega, fun j r hr => ⟨g, 0, rfl, (Array.getElem?_eq_some_iff.1 hh).1, fun i x hx => ?_⟩⟩
    rw [List.getElem?_map, Option.map_eq_some_iff] at hr
    obtain ⟨y, hy, rfl⟩ := hr
    have hj := (List.getElem?_eq_some_iff.1 hy).1
    have hi : i < 2 := by have := (List.getElem?_eq_some_iff.1 hx).1; simpa [enV] using this
    have h2 := enF_at l j y i x hy hx
    rw [← ht, List.getElem?_take, if_pos (by omega)] at h2
    simp only [World.cell?, hh, Nat.zero_add]
    simpa using h2
theorem info_end : (Tryz.prog.info? 47).map (fun i => (i.zero, i.size, i.bytes)) = some (some (.agg #[.int .i64 0, .int .i64 0]), 2, 16) := by kernel_rfl
theorem enF_snoc2 (l : List EndD) (a b : EndD) : enF (l ++ [a, b]) = enF l ++ [.int .i64 a.1, .int .i64 a.2, .int .i64 b.1, .int .i64 b.2] := by simp [enF, enV]
theorem enF_snoc (l : List EndD) (a : EndD) : enF (l ++ [a]) = enF l ++ [.int .i64 a.1, .int .i64 a.2] := by simp [enF, enV]
theorem below1 {B : Nat} {a w W' : World} {o1 : Obj} (h : Below B a w) (hs : B ≤ w.heap.size) (bb : Below (w.alloc o1).heap.size (w.alloc o1) W') : Below B a W' :=
  (h.alloc hs o1).trans (bb.mono (by simp; omega))
def elementsS (L : LayD) : Int := if elB L = false then 1 else if secB L = false then 1 else if jnB L = false then 1 else if jdB L = false then 8 else 0
theorem all_next {α : Type} {l : List α} {k : Nat} {y : α} {p : α → Bool} (ht : l.take (k + 1) = l.take k ++ [y]) (h : (l.take k).all p = true) (hp : p y = true) : (l.take (k + 1)).all p = true := by
  rw [ht, List.all_append, h]; simp [hp]
theorem all_miss {α : Type} {l : List α} {y : α} {p : α → Bool} (hm : y ∈ l) (hp : p y = false) : l.all p = false := by
  rw [← Bool.not_eq_true]
  intro h
  rw [List.all_eq_true] at h
  rw [h y hm] at hp; cases hp
theorem all_full {α : Type} {l : List α} {k : Nat} {p : α → Bool} (hk : l.length ≤ k) (h : (l.take k).all p = true) : l.all p = true := by
  rwa [List.take_of_length_le hk] at h
set_option maxRecDepth 100000 in
set_option maxHeartbeats 8000000 in
theorem relements_any (v : Value) (L : LayD) (w : World) (hv : RLay w v L) (n1 : L.secs.length ≤ 60) (n2 : L.els.length ≤ 60) (n3 : L.joints.length ≤ 100) : Calls Tryz.prog 51 #[v] w (RetV w (.int .i64 (elementsS L))) := by
  obtain ⟨q, hq⟩ : ∃ q, elementsS L = q := ⟨_, rfl⟩
  rw [hq]
  replace hq := Lib.hid hq
  have HV := Lib.hid hv
  obtain ⟨v1, v2, v3, v4, v5, rfl, h1, h2, h3, h4, h5⟩ := hv
  obtain ⟨a1, c1, rfl, ⟨m1, _⟩, _⟩ := h1.openS
  obtain ⟨a2, c2, rfl, ⟨m2, _⟩, HE⟩ := h2.openM
  obtain ⟨a3, c3, rfl, ⟨m3, _⟩, HJ⟩ := h3.openM
  obtain ⟨a4, c4, rfl, _, _⟩ := h4.openM
  obtain ⟨a5, c5, rfl, _, _⟩ := h5.openM
  clear h1 h2 h3 h4 h5
  obtain ⟨nb, en⟩ : ∃ s : ByteArray, (⟨L.name.toArray⟩ : ByteArray) = s := ⟨_, rfl⟩
  have en2 : str L.name = .string nb := by rw [← en]
  rw [en2] at HV ⊢
  clear en en2
  obtain ⟨s1, e1⟩ : ∃ n, L.secs.length = n := ⟨_, rfl⟩
  obtain ⟨s4, e4⟩ : ∃ n, L.sigs.length = n := ⟨_, rfl⟩
  obtain ⟨s5, e5⟩ : ∃ n, L.bals.length = n := ⟨_, rfl⟩
  obtain ⟨els, ee⟩ : ∃ n, L.els = n := ⟨_, rfl⟩
  obtain ⟨js, ej⟩ : ∃ n, L.joints = n := ⟨_, rfl⟩
  rw [e1] at n1 m1
  rw [ee] at n2 m2 HE
  rw [ej] at n3 m3 HJ
  rw [e1, ee, ej, e4, e5] at HV ⊢
  replace ee := Lib.hid ee
  replace ej := Lib.hid ej
  replace e1 := Lib.hid e1
  clear e4 e5
  obtain ⟨LV, hLV⟩ : ∃ LV : Array Value, LV = #[.string nb, .slice a1 s1 c1, .slice a2 els.length c2, .slice a3 js.length c3, .slice a4 s4 c4, .slice a5 s5 c5] := ⟨_, rfl⟩
  obtain ⟨W1, hW⟩ : ∃ W1, W1 = w.alloc (.cells LV 28) := ⟨_, rfl⟩
  have HB : Below w.heap.size w W1 := by rw [hW]; exact (Below.refl _ _).alloc (Nat.le_refl _) _
  have G1 : Blk W1 w.heap.size LV := by rw [hW]; exact Blk.new _ _ _ _ rfl
  rw [hLV] at G1
  have SK : ∀ W, Below W1.heap.size W1 W → Below w.heap.size w W ∧ w.heap.size < W.heap.size ∧ W.cell? ⟨w.heap.size, 0, none⟩ = some (.string nb) ∧ W.cell? ⟨w.heap.size, 1, none⟩ = some (.slice a1 s1 c1) ∧ W.cell? ⟨w.heap.size, 2, none⟩ = some (.slice a2 els.length c2) ∧
      W.cell? ⟨w.heap.size, 3, none⟩ = some (.slice a3 js.length c3) ∧ W.cell? ⟨w.heap.size, 4, none⟩ = some (.slice a4 s4 c4) ∧ W.cell? ⟨w.heap.size, 5, none⟩ = some (.slice a5 s5 c5) := by
    intro W h
    have b := G1.below h
    exact ⟨HB.trans (h.mono HB.size), b.lt, b.at 0 _ rfl, b.at 1 _ rfl, b.at 2 _ rfl, b.at 3 _ rfl, b.at 4 _ rfl, b.at 5 _ rfl⟩
  have HV2 : ∀ W, Below w.heap.size w W → RLay W (.agg #[.string nb, .slice a1 s1 c1, .slice a2 els.length c2, .slice a3 js.length c3, .slice a4 s4 c4, .slice a5 s5 c5]) L := fun W h => HV.out.below h
  replace HV2 := Lib.hid HV2
  replace SK := Lib.hid SK
  clear HV G1
  go_enter Tryz.func51, Tryz.ntmps51
  go_wp2
  rw [← hLV, ← hW]
  clear hW hLV
  go_loopg [12] els.length (fun g s12 wx => ∃ k : Nat, k + g = els.length ∧ s12 = .int .i64 k ∧ Hid ((els.take k).all (rightS s1) = true) ∧ Below W1.heap.size W1 wx)
  case atStart => exact ⟨0, by omega, rfl, Lib.hid (by simp), Below.refl _ _⟩
  case round =>
    obtain ⟨k, hk, rfl, HA, hbw⟩ := hrel
    obtain ⟨hw, hl0, k0, k1, k2, k3, k4, k5⟩ := SK.out _ hbw
    cases gk with
    | zero =>
      have hz : ¬ ((k : Int) < (els.length : Int)) := by omega
      have hA : elB L = true := by unfold elB; rw [ee.out, e1.out]; exact all_full (by omega) HA.out
      have hq2 := hq.out
      unfold elementsS at hq2
      rw [if_neg (by simp [hA])] at hq2
      replace hq2 := Lib.hid hq2
      clear hA hq HA
      replace hk := Lib.hid hk
      go_wp2
      clear k0 k1 k2 k3 k4 k5
      go_loopg [24] s1 (fun g s24 wx => ∃ k : Nat, k + g = s1 ∧ s24 = .int .i64 k ∧ Hid (∀ s : Nat, s < k → membersS L (s : Int) ≠ []) ∧ Below W1.heap.size W1 wx)
      case atStart => exact ⟨0, by omega, rfl, Lib.hid (fun s h => by omega), hbw⟩
      case round =>
        clear hbw hw hl0 hk
        obtain ⟨k, hk, rfl, HA, hbw⟩ := hrel
        obtain ⟨hw, hl0, k0, k1, k2, k3, k4, k5⟩ := SK.out _ hbw
        cases gk with
        | zero =>
          have hz : ¬ ((k : Int) < (s1 : Int)) := by omega
          have hA : secB L = true := by
            unfold secB
            rw [List.all_eq_true]
            intro s hs
            rw [List.mem_range, e1.out] at hs
            exact decide_eq_true (HA.out s (by omega))
          have hq3 := hq2.out
          rw [if_neg (by simp [hA])] at hq3
          replace hq3 := Lib.hid hq3
          clear hA hq2 HA
          replace hk := Lib.hid hk
          go_wp2
          clear k0 k1 k2 k3 k4 k5
          have EE := eql_end
          go_loopg [6, 36] js.length (fun g s6 s36 wx => ∃ (k : Nat) (acc : List EndD), k + g = js.length ∧ s36 = .int .i64 k ∧ acc.length = 2 * k ∧ Hid (acc = endsJ (js.take k)) ∧ Hid ((js.take k).all (fun j => exS els j.1 && (exS els j.2 && !(j.1 == j.2))) = true) ∧
            wx.ownsRow W1.heap.size 47 2 s6 acc.length (enF acc) ∧ Below W1.heap.size W1 wx)
          case atStart => exact ⟨0, [], by omega, rfl, rfl, Lib.hid rfl, Lib.hid (by simp), World.ownsRow_nil _ _ _ _, hbw⟩
          case round =>
            clear hbw hw hl0 hk
            obtain ⟨k, acc, hk, rfl, hal, HA, HX, ho, hbw⟩ := hrel
            obtain ⟨hw, hl0, k0, k1, k2, k3, k4, k5⟩ := SK.out _ hbw
            cases gk with
            | zero =>
              have hz : ¬ ((k : Int) < (js.length : Int)) := by omega
              have hA : jnB L = true := by unfold jnB; rw [ej.out, ee.out]; exact all_full (by omega) HX.out
              have hac : acc = endsJ L.joints := by rw [HA.out, ej.out, List.take_of_length_le (by omega)]
              have hq4 := hq3.out
              rw [if_neg (by simp [hA])] at hq4
              unfold jdB at hq4
              rw [← hac] at hq4
              have K := rends_any _ acc wr (RM.own ho)
              clear hA hq3 HX HA hac
              replace hk := Lib.hid hk
              replace hal := Lib.hid hal
              cases D : decide acc.Nodup
              · rw [D] at K hq4
                have hq5 : 8 = q := by simpa using hq4
                subst hq5
                go_wp2_with (go_at_call 101; refine K.mono ?_; rintro e ww ⟨rfl, bb⟩)
                go_ret
                exact ⟨rfl, hw.trans (bb.mono hw.size)⟩
              · rw [D] at K hq4
                have hq5 : 0 = q := by simpa using hq4
                subst hq5
                go_wp2_with (go_at_call 101; refine K.mono ?_; rintro e ww ⟨rfl, bb⟩)
                go_ret
                exact ⟨rfl, hw.trans (bb.mono hw.size)⟩
            | succ g =>
              have hz : (k : Int) < (js.length : Int) := by omega
              obtain ⟨⟨⟨x1, x2⟩, ⟨x3, x4⟩⟩, hy, ht, hmem⟩ := at_take (l := js) (k := k) (by omega)
              obtain ⟨b, off, rfl, hlt, hc⟩ := HJ.out.rd hw hy
              have cc0 := hc 0 _ rfl
              have cc1 := hc 1 _ rfl
              have cc2 := hc 2 _ rfl
              have cc3 := hc 3 _ rfl
              simp only [Nat.add_zero] at cc0 cc1 cc2 cc3
              have KA := fun ww (hh : Below w.heap.size w ww) => rexists_any _ L x1 x2 ww (HV2.out _ hh)
              have KB := fun ww (hh : Below w.heap.size w ww) => rexists_any _ L x3 x4 ww (HV2.out _ hh)
              rw [ee.out] at KA KB
              have HT : (fun j : EndD × EndD => exS els j.1 && (exS els j.2 && !(j.1 == j.2))) ((x1, x2), (x3, x4)) = (exS els (x1, x2) && (exS els (x3, x4) && !(((x1, x2) : EndD) == (x3, x4)))) := rfl
              obtain ⟨okA, hA⟩ : ∃ ok, exS els (x1, x2) = ok := ⟨_, rfl⟩
              obtain ⟨okB, hB⟩ : ∃ ok, exS els (x3, x4) = ok := ⟨_, rfl⟩
              rw [hA] at KA HT
              rw [hB] at KB HT
              replace hk := Lib.hid hk
              replace ht := Lib.hid ht
              replace hmem := Lib.hid hmem
              have hq4 : ((fun j : EndD × EndD => exS els j.1 && (exS els j.2 && !(j.1 == j.2))) ((x1, x2), (x3, x4)) = false) → 1 = q := fun h => by
                rw [← hq3.out, if_pos]; unfold jnB; rw [ej.out, ee.out]; exact all_miss hmem.out h
              clear hc hy hA hB
              cases okA
              · have hq5 := hq4 (by rw [HT]; rfl)
                subst hq5
                go_wp2_with fail
                refine (KA _ (alloc_below hw (Nat.le_refl _) _)).mono ?_
                rintro e w7 ⟨rfl, bb⟩
                have BJ := (Blk.new wr _ _ _ rfl).below bb
                have h7 := below1 hw hw.size bb
                have b7 := below1 hbw hbw.size bb
                obtain ⟨_, hl7, f0, f1, f2, f3, f4, f5⟩ := SK.out _ b7
                have d0 := BJ.at 0 _ rfl
                have d1 := BJ.at 1 _ rfl
                have d2 := BJ.at 2 _ rfl
                have d3 := BJ.at 3 _ rfl
                have o7 := own_below (ho.alloc _) bb
                clear KA k0 k1 k2 k3 k4 k5 cc0 cc1 cc2 cc3 bb ho
                go_wp2
                go_ret
                exact ⟨rfl, h7⟩
              · cases okB
                · have hq5 := hq4 (by rw [HT]; rfl)
                  subst hq5
                  go_wp2_with fail
                  refine (KA _ (alloc_below hw (Nat.le_refl _) _)).mono ?_
                  rintro e w7 ⟨rfl, bb⟩
                  have BJ := (Blk.new wr _ _ _ rfl).below bb
                  have h7 := below1 hw hw.size bb
                  have b7 := below1 hbw hbw.size bb
                  obtain ⟨_, hl7, f0, f1, f2, f3, f4, f5⟩ := SK.out _ b7
                  have d0 := BJ.at 0 _ rfl
                  have d1 := BJ.at 1 _ rfl
                  have d2 := BJ.at 2 _ rfl
                  have d3 := BJ.at 3 _ rfl
                  have o7 := own_below (ho.alloc _) bb
                  clear KA k0 k1 k2 k3 k4 k5 cc0 cc1 cc2 cc3 bb ho
                  go_wp2_with fail
                  refine (KB _ h7).mono ?_
                  rintro e w8 ⟨rfl, bb⟩
                  replace BJ := BJ.below bb
                  have h8 := h7.trans (bb.mono h7.size)
                  have b8 := b7.trans (bb.mono b7.size)
                  have d4 := BJ.at 0 _ rfl
                  have d5 := BJ.at 1 _ rfl
                  have d6 := BJ.at 2 _ rfl
                  have d7 := BJ.at 3 _ rfl
                  have o8 := own_below o7 bb
                  clear KB f0 f1 f2 f3 f4 f5 d0 d1 d2 d3 bb o7 BJ
                  go_wp2
                  go_ret
                  exact ⟨rfl, h8⟩
                · cases E : (((x1, x2) : EndD) == (x3, x4))
                  · have HN := Lib.hid (all_next ht.out HX.out (HT.trans (by rw [E]; rfl)))
                    have HA2 : Hid (acc ++ [(x1, x2), (x3, x4)] = endsJ (js.take (k + 1))) := Lib.hid (by rw [HA.out, ht.out]; simp [endsJ])
                    have hal2 : acc.length ≤ 200 := by have := hk.out; omega
                    replace hal := Lib.hid hal
                    clear HT hq4 HX HA
                    go_wp2_with fail
                    refine (KA _ (alloc_below hw (Nat.le_refl _) _)).mono ?_
                    rintro e w7 ⟨rfl, bb⟩
                    have BJ := (Blk.new wr _ _ _ rfl).below bb
                    have h7 := below1 hw hw.size bb
                    have b7 := below1 hbw hbw.size bb
                    obtain ⟨_, hl7, f0, f1, f2, f3, f4, f5⟩ := SK.out _ b7
                    have d0 := BJ.at 0 _ rfl
                    have d1 := BJ.at 1 _ rfl
                    have d2 := BJ.at 2 _ rfl
                    have d3 := BJ.at 3 _ rfl
                    have o7 := own_below (ho.alloc _) bb
                    clear KA k0 k1 k2 k3 k4 k5 cc0 cc1 cc2 cc3 bb ho
                    go_wp2_with fail
                    refine (KB _ h7).mono ?_
                    rintro e w8 ⟨rfl, bb⟩
                    replace BJ := BJ.below bb
                    have h8 := h7.trans (bb.mono h7.size)
                    have b8 := b7.trans (bb.mono b7.size)
                    have d4 := BJ.at 0 _ rfl
                    have d5 := BJ.at 1 _ rfl
                    have d6 := BJ.at 2 _ rfl
                    have d7 := BJ.at 3 _ rfl
                    have o8 := own_below o7 bb
                    clear KB f0 f1 f2 f3 f4 f5 d0 d1 d2 d3 bb o7 BJ
                    have sz8 := b8.size
                    go_wp2_with (at_builtin
                                 refine wpList_pushN _ rfl _ _ 126 rfl W1.heap.size 47 (.agg #[.int .i64 0, .int .i64 0]) 2 16 Tryz.underlying126 info_end rfl (by omega) u6 acc.length _ rfl o8 w8.heap.size rfl 2 [.int .i64 x1, .int .i64 x2, .int .i64 x3, .int .i64 x4] rfl rfl (by simp [Value.oneCell']) (by omega) (by omega) sz8 ?_
                                 intro v3 w9 p3 gr3 nb3
                                 have hb9 := below_grown b8 gr3 o8 (Nat.le_refl _) sz8
                                 replace p3 := Lib.hid p3
                                 clear nb3 gr3)
                    go_roundg g
                    case measure => omega
                    case rel => exact ⟨k + 1, acc ++ [(x1, x2), (x3, x4)], by have := hk.out; omega, by go_num, by have := hal.out; simp; omega, HA2, HN, by rw [enF_snoc2, List.length_append]; exact p3.out, hb9⟩
                  · have hq5 := hq4 (by rw [HT, E]; rfl)
                    subst hq5
                    go_wp2_with fail
                    refine (KA _ (alloc_below hw (Nat.le_refl _) _)).mono ?_
                    rintro e w7 ⟨rfl, bb⟩
                    have BJ := (Blk.new wr _ _ _ rfl).below bb
                    have h7 := below1 hw hw.size bb
                    have b7 := below1 hbw hbw.size bb
                    obtain ⟨_, hl7, f0, f1, f2, f3, f4, f5⟩ := SK.out _ b7
                    have d0 := BJ.at 0 _ rfl
                    have d1 := BJ.at 1 _ rfl
                    have d2 := BJ.at 2 _ rfl
                    have d3 := BJ.at 3 _ rfl
                    have o7 := own_below (ho.alloc _) bb
                    clear KA k0 k1 k2 k3 k4 k5 cc0 cc1 cc2 cc3 bb ho
                    go_wp2_with fail
                    refine (KB _ h7).mono ?_
                    rintro e w8 ⟨rfl, bb⟩
                    replace BJ := BJ.below bb
                    have h8 := h7.trans (bb.mono h7.size)
                    have b8 := b7.trans (bb.mono b7.size)
                    have d4 := BJ.at 0 _ rfl
                    have d5 := BJ.at 1 _ rfl
                    have d6 := BJ.at 2 _ rfl
                    have d7 := BJ.at 3 _ rfl
                    have o8 := own_below o7 bb
                    clear KB f0 f1 f2 f3 f4 f5 d0 d1 d2 d3 bb o7 BJ
                    go_wp2
                    go_ret
                    exact ⟨rfl, h8⟩
        | succ g =>
          have hz : (k : Int) < (s1 : Int) := by omega
          have K := rmembers_any _ L k wr (HV2.out _ hw) (by rw [ee.out]; exact n2)
          obtain ⟨ml, hml⟩ : ∃ ml, membersS L (k : Int) = ml := ⟨_, rfl⟩
          rw [hml] at K
          replace hml := Lib.hid hml
          replace hk := Lib.hid hk
          have next : ml ≠ [] → Hid (∀ s : Nat, s < k + 1 → membersS L (s : Int) ≠ []) := fun h => Lib.hid (fun s hs => by
            rcases Nat.lt_succ_iff_lt_or_eq.1 hs with h1 | h1
            · exact HA.out s h1
            · subst h1; rw [hml.out]; exact h)
          cases ml with
          | nil =>
            have hq3 : 1 = q := by
              rw [← hq2.out, if_pos]
              unfold secB
              refine all_miss (y := k) (List.mem_range.2 (by rw [e1.out]; have := hk.out; omega)) ?_
              rw [hml.out]; rfl
            subst hq3
            go_wp2_with (go_at_call 99; refine K.mono ?_; rintro e ww ⟨vv, rfl, R, bb⟩; obtain ⟨av, cv, rfl, _, _⟩ := R.open; clear R)
            go_ret
            exact ⟨rfl, hw.trans (bb.mono hw.size)⟩
          | cons x xs =>
            have N := next (by simp)
            clear next HA
            obtain ⟨m, hm⟩ : ∃ m, (x :: xs).length = m := ⟨_, rfl⟩
            have hm0 : 0 < m := by rw [← hm]; simp
            have t0 : ((m : Int) == 0) = false := by simp; omega
            have t1 : (m == 0) = false := by simp; omega
            replace hm := Lib.hid hm
            go_wp2_with (go_at_call 99; refine K.mono ?_; rintro e ww ⟨vv, rfl, R, bb⟩; obtain ⟨av, cv, rfl, _, _⟩ := R.open; clear R; rw [hm.out])
            go_roundg g
            case measure => omega
            case rel => exact ⟨k + 1, by have := hk.out; omega, by go_num, N, hbw.trans (bb.mono hbw.size)⟩
    | succ g =>
      have hz : (k : Int) < (els.length : Int) := by omega
      obtain ⟨⟨xn, kd, ln, gr, sp, sl, sc⟩, hy, ht, hmem⟩ := at_take (l := els) (k := k) (by omega)
      obtain ⟨b, off, rfl, hlt, hc⟩ := HE.out.rd hw hy
      have cc0 := hc 0 _ rfl
      have cc1 := hc 1 _ rfl
      have cc2 := hc 2 _ rfl
      have cc3 := hc 3 _ rfl
      have cc4 := hc 4 _ rfl
      have cc5 := hc 5 _ rfl
      have cc6 := hc 6 _ rfl
      simp only [Nat.add_zero] at cc0 cc1 cc2 cc3 cc4 cc5 cc6
      obtain ⟨xm, ex⟩ : ∃ s : ByteArray, (⟨xn.toArray⟩ : ByteArray) = s := ⟨_, rfl⟩
      have ex2 : str xn = .string xm := by rw [← ex]
      simp only [ex2] at cc0
      have K := fun o => rright_any _ L ⟨xn, kd, ln, gr, sp, sl, sc⟩ (wr.alloc o) (HV2.out _ (alloc_below hw (Nat.le_refl _) o))
      rw [e1.out] at K
      unfold elA at K
      simp only [ex2] at K
      obtain ⟨ok, hok⟩ : ∃ ok, rightS s1 ⟨xn, kd, ln, gr, sp, sl, sc⟩ = ok := ⟨_, rfl⟩
      rw [hok] at K
      replace hk := Lib.hid hk
      replace ht := Lib.hid ht
      replace hok := Lib.hid hok
      replace hmem := Lib.hid hmem
      clear hc hy ex ex2
      cases ok
      · have hq3 : 1 = q := by
          rw [← hq.out]; unfold elementsS; rw [if_pos]; unfold elB; rw [ee.out, e1.out]; exact all_miss hmem.out hok.out
        subst hq3
        go_wp2_with (go_at_call 98; refine (K _).mono ?_; rintro e ww ⟨rfl, bb⟩)
        go_ret
        exact ⟨rfl, below1 hw hw.size bb⟩
      · go_wp2_with (go_at_call 98; refine (K _).mono ?_; rintro e ww ⟨rfl, bb⟩)
        go_roundg g
        case measure => omega
        case rel => exact ⟨k + 1, by have := hk.out; omega, by go_num, Lib.hid (all_next ht.out HA.out hok.out), below1 hbw hbw.size bb⟩
end
section
open Go.ChangeShapes Go.WideShapes Go.ChangeAt Go.RowKit
def signalsS (L : LayD) : Int := if sgB L = false then 1 else if sdB L = false then 8 else if suB L = false then 14 else 0
def sgP (els : List ElD) (s : SigD) : Bool := exS els s.at_ && (decide (0 ≤ s.overlap) && decide (s.overlap ≤ 1000000))
theorem sgB_eq (L : LayD) : sgB L = L.sigs.all (sgP L.els) := rfl
theorem suB_eq (L : LayD) : suB L = (L.sigs.map SigD.at_).all (unsB L.els L.joints) := by unfold suB; rw [List.all_map]; rfl
theorem jn_ex {L : LayD} (V : jnB L = true) {e f : EndD} (h : joinF e L.joints = some f) : exS L.els f = true := by
  have hm := (join_mem h).2
  unfold jnB at V
  rw [List.all_eq_true] at V
  unfold endsJ at hm
  obtain ⟨j, hjm, he⟩ := List.mem_flatMap.1 hm
  have := V j hjm
  simp only [Bool.and_eq_true] at this
  simp only [List.mem_cons, List.mem_nil_iff, or_false] at he
  rcases he with rfl | rfl
  · exact this.1
  · exact this.2.1
theorem ex_at {els : List ElD} {e : EndD} (h : exS els e = true) : ∃ (k : Nat) (y : ElD), e.1 = k ∧ els[k]? = some y := by
  simp only [exS, Bool.and_eq_true, decide_eq_true_eq] at h
  obtain ⟨h1, h2, _⟩ := h
  refine ⟨e.1.toNat, els[e.1.toNat]'(by omega), by omega, List.getElem?_eq_getElem (by omega)⟩
theorem elAt_at {els : List ElD} {k : Nat} {y : ElD} {f : ElD → Int} (h : els[k]? = some y) : elAt els (k : Int) f = f y := by simp [elAt, h]
set_option maxRecDepth 100000 in
set_option maxHeartbeats 8000000 in
theorem rsignals_any (v : Value) (L : LayD) (w : World) (hv : RLay w v L) (n2 : L.els.length ≤ 60) (n4 : L.sigs.length ≤ 60) (hjn : jnB L = true) : Calls Tryz.prog 52 #[v] w (RetV w (.int .i64 (signalsS L))) := by
  have _n2 := n2
  obtain ⟨q, hq⟩ : ∃ q, signalsS L = q := ⟨_, rfl⟩
  rw [hq]
  replace hq := Lib.hid hq
  replace hjn := Lib.hid hjn
  have HV := Lib.hid hv
  obtain ⟨v1, v2, v3, v4, v5, rfl, h1, h2, h3, h4, h5⟩ := hv
  obtain ⟨a1, c1, rfl, _, _⟩ := h1.openS
  obtain ⟨a2, c2, rfl, ⟨m2, _⟩, HE⟩ := h2.openM
  obtain ⟨a3, c3, rfl, _, _⟩ := h3.openM
  obtain ⟨a4, c4, rfl, ⟨m4, _⟩, HS⟩ := h4.openM
  obtain ⟨a5, c5, rfl, _, _⟩ := h5.openM
  clear h1 h2 h3 h4 h5
  obtain ⟨nb, en⟩ : ∃ s : ByteArray, (⟨L.name.toArray⟩ : ByteArray) = s := ⟨_, rfl⟩
  have en2 : str L.name = .string nb := by rw [← en]
  rw [en2] at HV ⊢
  clear en en2
  obtain ⟨s1, e1⟩ : ∃ n, L.secs.length = n := ⟨_, rfl⟩
  obtain ⟨s3, e3⟩ : ∃ n, L.joints.length = n := ⟨_, rfl⟩
  obtain ⟨s5, e5⟩ : ∃ n, L.bals.length = n := ⟨_, rfl⟩
  obtain ⟨els, ee⟩ : ∃ n, L.els = n := ⟨_, rfl⟩
  obtain ⟨sigs, ej⟩ : ∃ n, L.sigs = n := ⟨_, rfl⟩
  rw [ee] at n2 m2 HE
  rw [ej] at n4 m4 HS
  rw [e1, ee, ej, e3, e5] at HV ⊢
  replace ee := Lib.hid ee
  replace ej := Lib.hid ej
  clear e1 e3 e5
  obtain ⟨LV, hLV⟩ : ∃ LV : Array Value, LV = #[.string nb, .slice a1 s1 c1, .slice a2 els.length c2, .slice a3 s3 c3, .slice a4 sigs.length c4, .slice a5 s5 c5] := ⟨_, rfl⟩
  obtain ⟨W1, hW⟩ : ∃ W1, W1 = w.alloc (.cells LV 28) := ⟨_, rfl⟩
  have HB : Below w.heap.size w W1 := by rw [hW]; exact (Below.refl _ _).alloc (Nat.le_refl _) _
  have G1 : Blk W1 w.heap.size LV := by rw [hW]; exact Blk.new _ _ _ _ rfl
  rw [hLV] at G1
  have SK : ∀ W, Below W1.heap.size W1 W → Below w.heap.size w W ∧ w.heap.size < W.heap.size ∧ W.cell? ⟨w.heap.size, 0, none⟩ = some (.string nb) ∧ W.cell? ⟨w.heap.size, 1, none⟩ = some (.slice a1 s1 c1) ∧ W.cell? ⟨w.heap.size, 2, none⟩ = some (.slice a2 els.length c2) ∧
      W.cell? ⟨w.heap.size, 3, none⟩ = some (.slice a3 s3 c3) ∧ W.cell? ⟨w.heap.size, 4, none⟩ = some (.slice a4 sigs.length c4) ∧ W.cell? ⟨w.heap.size, 5, none⟩ = some (.slice a5 s5 c5) := by
    intro W h
    have b := G1.below h
    exact ⟨HB.trans (h.mono HB.size), b.lt, b.at 0 _ rfl, b.at 1 _ rfl, b.at 2 _ rfl, b.at 3 _ rfl, b.at 4 _ rfl, b.at 5 _ rfl⟩
  have HV2 : ∀ W, Below w.heap.size w W → RLay W (.agg #[.string nb, .slice a1 s1 c1, .slice a2 els.length c2, .slice a3 s3 c3, .slice a4 sigs.length c4, .slice a5 s5 c5]) L := fun W h => HV.out.below h
  replace HV2 := Lib.hid HV2
  replace SK := Lib.hid SK
  clear HV G1
  go_enter Tryz.func52, Tryz.ntmps52
  go_wp2
  rw [← hLV, ← hW]
  clear hW hLV
  go_loopg [3, 13] sigs.length (fun g s3 s13 wx => ∃ (k : Nat) (acc : List EndD), k + g = sigs.length ∧ s13 = .int .i64 k ∧ acc.length = k ∧ Hid (acc = (sigs.take k).map SigD.at_) ∧ Hid ((sigs.take k).all (sgP els) = true) ∧
    wx.ownsRow W1.heap.size 47 2 s3 acc.length (enF acc) ∧ Below W1.heap.size W1 wx)
  case atStart => exact ⟨0, [], by omega, rfl, rfl, Lib.hid rfl, Lib.hid (by simp), World.ownsRow_nil _ _ _ _, Below.refl _ _⟩
  case round =>
    obtain ⟨k, acc, hk, rfl, hal, HA, HX, ho, hbw⟩ := hrel
    obtain ⟨hw, hl0, k0, k1, k2, k3, k4, k5⟩ := SK.out _ hbw
    cases gk with
    | zero =>
      have hz : ¬ ((k : Int) < (sigs.length : Int)) := by omega
      have hX : sigs.all (sgP els) = true := all_full (by omega) HX.out
      have hA : sgB L = true := by rw [sgB_eq, ej.out, ee.out]; exact hX
      have hac : acc = sigs.map SigD.at_ := by rw [HA.out, List.take_of_length_le (by omega)]
      have hq2 := hq.out
      unfold signalsS at hq2
      rw [if_neg (by simp [hA])] at hq2
      unfold sdB at hq2
      rw [suB_eq, ej.out, ← hac] at hq2
      have hex : ∀ e ∈ acc, exS els e = true := by
        intro e he
        rw [hac] at he
        obtain ⟨s, hs, rfl⟩ := List.mem_map.1 he
        rw [List.all_eq_true] at hX
        have := hX s hs
        simp only [sgP, Bool.and_eq_true] at this
        exact this.1
      have RA := RM.own ho
      have K := rends_any _ acc wr RA
      obtain ⟨a6, c6, e6, _, HC⟩ := RA.openM
      subst e6
      have hex := Lib.hid hex
      have hal2 : acc.length ≤ 60 := by omega
      clear hA hq HX HA hac hX RA ho
      replace hk := Lib.hid hk
      replace hal := Lib.hid hal
      cases D : decide acc.Nodup
      · rw [D] at K hq2
        have hq5 : 8 = q := by simpa using hq2
        subst hq5
        go_wp2_with (go_at_call 101; refine K.mono ?_; rintro e ww ⟨rfl, bb⟩)
        go_ret
        exact ⟨rfl, hw.trans (bb.mono hw.size)⟩
      · rw [D] at K hq2
        rw [if_neg (by simp), ee.out] at hq2
        replace hq2 := Lib.hid hq2
        go_wp2_with (go_at_call 101; refine K.mono ?_; rintro e w2 ⟨rfl, bb⟩; have b2 := hbw.trans (bb.mono hbw.size); clear k0 k1 k2 k3 k4 k5)
        replace HC := Lib.hid (HC.out.below bb)
        clear hbw hw hl0 bb
        go_loopg [42] acc.length (fun g s42 wx => ∃ k : Nat, k + g = acc.length ∧ s42 = .int .i64 k ∧ Hid ((acc.take k).all (unsB els L.joints) = true) ∧ Below w2.heap.size w2 wx)
        case atStart => exact ⟨0, by omega, rfl, Lib.hid (by simp), Below.refl _ _⟩
        case round =>
          clear hk hal
          obtain ⟨k, hk, rfl, HU, hb2⟩ := hrel
          have hbw := b2.trans (hb2.mono b2.size)
          obtain ⟨hw, hl0, k0, k1, k2, k3, k4, k5⟩ := SK.out _ hbw
          cases gk with
          | zero =>
            have hz : ¬ ((k : Int) < (acc.length : Int)) := by omega
            have hU : acc.all (unsB els L.joints) = true := all_full (by omega) HU.out
            have hq5 : 0 = q := by rw [← hq2.out, if_neg (by simp [hU])]
            subst hq5
            replace hk := Lib.hid hk
            clear hU HU hq2
            go_wp2
            go_ret
            exact ⟨rfl, hw⟩
          | succ g =>
            have hz : (k : Int) < (acc.length : Int) := by omega
            obtain ⟨⟨e1, e2⟩, hy, ht, hmem⟩ := at_take (l := acc) (k := k) (by omega)
            obtain ⟨b, off, rfl, hlt, hc⟩ := HC.out.rd hb2 hy
            have cc0 := hc 0 _ rfl
            have cc1 := hc 1 _ rfl
            simp only [Nat.add_zero] at cc0 cc1
            obtain ⟨ke, ye, hke, hye⟩ := ex_at (hex.out _ hmem)
            simp only at hke
            subst hke
            have K := fun o => rjoined_any _ L (ke : Int) e2 (wr.alloc o) (HV2.out _ (alloc_below hw (Nat.le_refl _) o))
            have HT : unsB els L.joints ((ke : Int), e2) = match joinF ((ke : Int), e2) L.joints with | some f => !(elAt els f.1 ElD.sec == elAt els (ke : Int) ElD.sec) | none => false := rfl
            have hq4 : unsB els L.joints ((ke : Int), e2) = false → 14 = q := fun h => by rw [← hq2.out, if_pos]; exact all_miss hmem h
            have HF : ∀ f, joinF ((ke : Int), e2) L.joints = some f → ∃ (kf : Nat) (yf : ElD), f.1 = kf ∧ els[kf]? = some yf := fun f hf => by
              have := jn_ex hjn.out hf
              rw [ee.out] at this
              exact ex_at this
            obtain ⟨jf, hjf⟩ : ∃ jf, joinF ((ke : Int), e2) L.joints = jf := ⟨_, rfl⟩
            rw [hjf] at K HT HF
            unfold RetJ at K
            replace hk := Lib.hid hk
            replace ht := Lib.hid ht
            clear hc hy hjf hmem
            cases jf with
            | none =>
              have hq5 := hq4 HT
              subst hq5
              clear HF HT hq4
              simp only [joinO] at K
              go_wp2_with fail
              refine (K _).mono ?_
              rintro e w7 ⟨rfl, bb⟩
              have BJ := (Blk.new wr _ _ _ rfl).below bb
              have h7 := below1 hw hw.size bb
              have b7 := below1 hbw hbw.size bb
              have b72 := below1 hb2 hb2.size bb
              obtain ⟨_, hl7, f0, f1', f2', f3, f4, f5⟩ := SK.out _ b7
              have d0 := BJ.at 0 _ rfl
              have d1 := BJ.at 1 _ rfl
              have hlj := BJ.lt
              clear K k0 k1 k2 k3 k4 k5 cc0 cc1 bb BJ
              go_wp2
              go_quiet (fail)
              go_wp2
              go_ret
              exact ⟨rfl, bdrew (alloc_below h7 (Nat.le_refl _) _) _⟩
            | some f =>
              obtain ⟨f1, f2⟩ := f
              obtain ⟨kf, yf, hkf, hyf⟩ := HF _ rfl
              simp only at hkf
              subst hkf
              simp only at HT
              rw [elAt_at hyf, elAt_at hye] at HT
              have hkf1 : kf < els.length := (List.getElem?_eq_some_iff.1 hyf).1
              have hke1 : ke < els.length := (List.getElem?_eq_some_iff.1 hye).1
              have hkf2 : (kf : Int) < (els.length : Int) := by omega
              have hke2 : (ke : Int) < (els.length : Int) := by omega
              obtain ⟨sf, hsf⟩ : ∃ s, yf.sec = s := ⟨_, rfl⟩
              obtain ⟨se, hse⟩ : ∃ s, ye.sec = s := ⟨_, rfl⟩
              rw [hsf, hse] at HT
              cases E : (sf == se)
              · have HN := Lib.hid (all_next ht.out HU.out (HT.trans (by rw [E]; rfl)))
                clear HF HT hq4 HU
                simp only [joinO] at K
                go_wp2_with fail
                refine (K _).mono ?_
                rintro e w7 ⟨rfl, bb⟩
                have BJ := (Blk.new wr _ _ _ rfl).below bb
                have h7 := below1 hw hw.size bb
                have b7 := below1 hbw hbw.size bb
                have b72 := below1 hb2 hb2.size bb
                obtain ⟨_, hl7, f0, f1', f2', f3, f4, f5⟩ := SK.out _ b7
                have d0 := BJ.at 0 _ rfl
                have d1 := BJ.at 1 _ rfl
                have hlj := BJ.lt
                clear K k0 k1 k2 k3 k4 k5 cc0 cc1 bb BJ
                obtain ⟨b, off, rfl, hltb, cf⟩ := HE.out.rd h7 hyf
                obtain ⟨b', off', e2', _, ce⟩ := HE.out.rd h7 hye
                obtain ⟨rfl, rfl⟩ : b = b' ∧ off = off' := by simpa using e2'
                have cf6 := cf 6 _ rfl
                have ce6 := ce 6 _ rfl
                
                clear cf ce e2'
                rw [hsf] at cf6
                rw [hse] at ce6
                clear hsf hse hyf hye
                go_wp2
                go_quiet (fail)
                go_wp2
                go_roundg g
                case measure => omega
                case rel => exact ⟨k + 1, by have := hk.out; omega, by go_num, HN, bdrew (alloc_below b72 (Nat.le_refl _) _) _⟩
              · have hq5 := hq4 (HT.trans (by rw [E]; rfl))
                subst hq5
                clear HF HT hq4 HU
                simp only [joinO] at K
                go_wp2_with fail
                refine (K _).mono ?_
                rintro e w7 ⟨rfl, bb⟩
                have BJ := (Blk.new wr _ _ _ rfl).below bb
                have h7 := below1 hw hw.size bb
                have b7 := below1 hbw hbw.size bb
                have b72 := below1 hb2 hb2.size bb
                obtain ⟨_, hl7, f0, f1', f2', f3, f4, f5⟩ := SK.out _ b7
                have d0 := BJ.at 0 _ rfl
                have d1 := BJ.at 1 _ rfl
                have hlj := BJ.lt
                clear K k0 k1 k2 k3 k4 k5 cc0 cc1 bb BJ
                obtain ⟨b, off, rfl, hltb, cf⟩ := HE.out.rd h7 hyf
                obtain ⟨b', off', e2', _, ce⟩ := HE.out.rd h7 hye
                obtain ⟨rfl, rfl⟩ : b = b' ∧ off = off' := by simpa using e2'
                have cf6 := cf 6 _ rfl
                have ce6 := ce 6 _ rfl
                
                clear cf ce e2'
                rw [hsf] at cf6
                rw [hse] at ce6
                clear hsf hse hyf hye
                go_wp2
                go_quiet (fail)
                go_wp2
                go_ret
                exact ⟨rfl, bdrew (alloc_below h7 (Nat.le_refl _) _) _⟩
    | succ g =>
      have hz : (k : Int) < (sigs.length : Int) := by omega
      obtain ⟨⟨xn, ⟨e1, e2⟩, ov⟩, hy, ht, hmem⟩ := at_take (l := sigs) (k := k) (by omega)
      obtain ⟨b, off, rfl, hlt, hc⟩ := HS.out.rd hw hy
      have cc0 := hc 0 _ rfl
      have cc1 := hc 1 _ rfl
      have cc2 := hc 2 _ rfl
      have cc3 := hc 3 _ rfl
      simp only [Nat.add_zero] at cc0 cc1 cc2 cc3
      obtain ⟨xm, ex⟩ : ∃ s : ByteArray, (⟨xn.toArray⟩ : ByteArray) = s := ⟨_, rfl⟩
      have ex2 : str xn = .string xm := by rw [← ex]
      simp only [ex2] at cc0
      have KA := fun ww (hh : Below w.heap.size w ww) => rexists_any _ L e1 e2 ww (HV2.out _ hh)
      rw [ee.out] at KA
      have HT : sgP els ⟨xn, (e1, e2), ov⟩ = (exS els (e1, e2) && (decide (0 ≤ ov) && decide (ov ≤ 1000000))) := rfl
      obtain ⟨okA, hA⟩ : ∃ ok, exS els (e1, e2) = ok := ⟨_, rfl⟩
      rw [hA] at KA HT
      replace hk := Lib.hid hk
      replace ht := Lib.hid ht
      replace hmem := Lib.hid hmem
      have hq4 : sgP els ⟨xn, (e1, e2), ov⟩ = false → 1 = q := fun h => by
        rw [← hq.out]; unfold signalsS; rw [if_pos]; rw [sgB_eq, ej.out, ee.out]; exact all_miss hmem.out h
      clear hc hy hA ex ex2
      cases okA
      · have hq5 := hq4 (by rw [HT]; rfl)
        subst hq5
        go_wp2_with fail
        refine (KA _ (alloc_below hw (Nat.le_refl _) _)).mono ?_
        rintro e w7 ⟨rfl, bb⟩
        have BJ := (Blk.new wr _ _ _ rfl).below bb
        have h7 := below1 hw hw.size bb
        have b7 := below1 hbw hbw.size bb
        have d1 := BJ.at 1 _ rfl
        have d2 := BJ.at 2 _ rfl
        have d3 := BJ.at 3 _ rfl
        have o7 := own_below (ho.alloc _) bb
        clear KA k0 k1 k2 k3 k4 k5 cc0 cc1 cc2 cc3 bb ho BJ
        go_wp2
        go_ret
        exact ⟨rfl, h7⟩
      · by_cases t1 : ov < 0
        · have hq5 := hq4 (by rw [HT, decide_eq_false (by omega)]; rfl)
          subst hq5
          have u1 : decide (ov < 0) = true := by simp; omega
          clear t1
          go_wp2_with fail
          refine (KA _ (alloc_below hw (Nat.le_refl _) _)).mono ?_
          rintro e w7 ⟨rfl, bb⟩
          have BJ := (Blk.new wr _ _ _ rfl).below bb
          have h7 := below1 hw hw.size bb
          have b7 := below1 hbw hbw.size bb
          have d1 := BJ.at 1 _ rfl
          have d2 := BJ.at 2 _ rfl
          have d3 := BJ.at 3 _ rfl
          have o7 := own_below (ho.alloc _) bb
          clear KA k0 k1 k2 k3 k4 k5 cc0 cc1 cc2 cc3 bb ho BJ
          go_wp2
          go_ret
          exact ⟨rfl, h7⟩
        · by_cases t2 : 1000000 < ov
          · have hq5 := hq4 (by rw [HT, decide_eq_false (p := ov ≤ 1000000) (by omega)]; simp)
            subst hq5
            have u1 : decide (ov < 0) = false := by simp; omega
            have u2 : decide (1000000 < ov) = true := by simp; omega
            clear t1 t2
            go_wp2_with fail
            refine (KA _ (alloc_below hw (Nat.le_refl _) _)).mono ?_
            rintro e w7 ⟨rfl, bb⟩
            have BJ := (Blk.new wr _ _ _ rfl).below bb
            have h7 := below1 hw hw.size bb
            have b7 := below1 hbw hbw.size bb
            have d1 := BJ.at 1 _ rfl
            have d2 := BJ.at 2 _ rfl
            have d3 := BJ.at 3 _ rfl
            have o7 := own_below (ho.alloc _) bb
            clear KA k0 k1 k2 k3 k4 k5 cc0 cc1 cc2 cc3 bb ho BJ
            go_wp2
            go_ret
            exact ⟨rfl, h7⟩
          · have HN := Lib.hid (all_next ht.out HX.out (HT.trans (by rw [decide_eq_true (p := 0 ≤ ov) (by omega), decide_eq_true (p := ov ≤ 1000000) (by omega)]; rfl)))
            have HA2 : Hid (acc ++ [(e1, e2)] = (sigs.take (k + 1)).map SigD.at_) := Lib.hid (by rw [HA.out, ht.out]; simp)
            have hal2 : acc.length ≤ 60 := by have := hk.out; omega
            have u1 : decide (ov < 0) = false := by simp; omega
            have u2 : decide (1000000 < ov) = false := by simp; omega
            replace hal := Lib.hid hal
            clear HT hq4 HX HA t1 t2
            go_wp2_with fail
            refine (KA _ (alloc_below hw (Nat.le_refl _) _)).mono ?_
            rintro e w7 ⟨rfl, bb⟩
            have BJ := (Blk.new wr _ _ _ rfl).below bb
            have h7 := below1 hw hw.size bb
            have b7 := below1 hbw hbw.size bb
            have d1 := BJ.at 1 _ rfl
            have d2 := BJ.at 2 _ rfl
            have d3 := BJ.at 3 _ rfl
            have o7 := own_below (ho.alloc _) bb
            clear KA k0 k1 k2 k3 k4 k5 cc0 cc1 cc2 cc3 bb ho BJ
            have sz7 := b7.size
            go_wp2_with (at_builtin
                         refine wpList_pushN _ rfl _ _ 126 rfl W1.heap.size 47 (.agg #[.int .i64 0, .int .i64 0]) 2 16 Tryz.underlying126 info_end rfl (by omega) u3 acc.length _ rfl o7 w7.heap.size rfl 1 [.int .i64 e1, .int .i64 e2] rfl rfl (by simp [Value.oneCell']) (by omega) (by omega) sz7 ?_
                         intro v3 w9 p3 gr3 nb3
                         have hb9 := below_grown b7 gr3 o7 (Nat.le_refl _) sz7
                         replace p3 := Lib.hid p3
                         clear nb3 gr3)
            go_roundg g
            case measure => omega
            case rel => exact ⟨k + 1, acc ++ [(e1, e2)], by have := hk.out; omega, by go_num, by have := hal.out; simp; omega, HA2, HN, by rw [enF_snoc, List.length_append]; exact p3.out, hb9⟩
end
end Go.Proofs.YteafkginhejllaaGreatDoor
