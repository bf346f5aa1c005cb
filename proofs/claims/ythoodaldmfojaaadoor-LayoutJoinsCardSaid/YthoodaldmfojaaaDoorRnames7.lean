/- Contract of the reference's names. Conditions: the layout can be read; at most 60 elements, sections and signals. -/
import Derived.Test.YthoodaldmfojaaaDoorRdup7
import Derived.Test.YthoodaldmfojaaaDoorApp7
namespace Go.Proofs.YthoodaldmfojaaaDoor
open Go.ChangeShapes Go.WideShapes Go.ChangeAt Go.RowKit
theorem ret_cell1 {P : Program} {fn : Func} {p : Tmp} {ty : TypeId} {R : Ending → World → Prop} {a : Act} {w : World} (hr : fn.results = #[.cell p ty]) {d : TypeDesc} (hu : P.underlying ty = some d)
    (hd : (match d with | .struct _ | .array _ _ => true | _ => false) = true) {n : Nat} {cs : Array Value} (hi : (P.info? ty).map (·.size) = some cs.size) (hp : a.tmps.getD p undef = .pointer (some ⟨n, 0, none⟩))
    (hB : Blk w n cs) (hf : a.defers = []) (hR : R (.returned (.agg cs)) w) : bodyPost P fn R .ret a w := by
  obtain ⟨t, h⟩ := hB
  exact bodyPost_ret (v := .agg cs) (results_cell_row hr a.tmps w n t cs (0, 0) d hp h hu hd hi) hf hR
def Dis (v u : Value) : Prop := ∀ g, v.ownBlock = some g → u.ownBlock ≠ some g
theorem Dis.symm {v u : Value} (h : Dis v u) : Dis u v := fun g hu hv => h g hv hu
abbrev noS : Value := .slice none 0 0
structure NmS (w W : World) (LV : Array Value) (v0 v1 v2 : Value) (l0 l1 l2 : List L8) : Prop where
  b0 : Blk W w.heap.size LV
  b1 : Blk W (w.heap.size + 1) #[noS, noS, noS]
  b2 : Blk W (w.heap.size + 2) #[v0, v1, v2]
  o0 : W.ownsRow (w.heap.size + 3) 9 1 v0 l0.length (strsV l0)
  o1 : W.ownsRow (w.heap.size + 3) 9 1 v1 l1.length (strsV l1)
  o2 : W.ownsRow (w.heap.size + 3) 9 1 v2 l2.length (strsV l2)
  d01 : Dis v0 v1
  d02 : Dis v0 v2
  d12 : Dis v1 v2
  bel : Below w.heap.size w W
  sz : w.heap.size + 3 ≤ W.heap.size
theorem NmS.alloc {w W : World} {LV : Array Value} {v0 v1 v2 : Value} {l0 l1 l2 : List L8} (h : NmS w W LV v0 v1 v2 l0 l1 l2) (o : Obj) : NmS w (W.alloc o) LV v0 v1 v2 l0 l1 l2 :=
  ⟨h.b0.old o, h.b1.old o, h.b2.old o, h.o0.alloc o, h.o1.alloc o, h.o2.alloc o, h.d01, h.d02, h.d12, alloc_below h.bel (Nat.le_refl _) o, by have := h.sz; simp; omega⟩
theorem dis_told {W : World} {base : Nat} {v v' u : Value} {n : Nat} {xs : List Value} (hu : W.ownsRow base 9 1 u n xs) (hd : Dis v u) (ht : ∀ g, v'.ownBlock = some g → v.ownBlock = some g ∨ W.heap.size ≤ g) : Dis v' u := by
  intro g hg hug
  rcases ht g hg with h | h
  · exact hd g h hug
  · have := (hu.lt g hug).2; omega
theorem own_keep {W W' : World} {base : Nat} {v u : Value} {n : Nat} {xs : List Value} (hu : W.ownsRow base 9 1 u n xs) (hg : W.grownBy W' v.ownBlock) (hd : Dis v u) : W'.ownsRow base 9 1 u n xs :=
  own_kept hu hg fun g h1 h2 => hd g h2 h1
theorem below_set {w W : World} (h : Below w.heap.size w W) {B : Nat} (hB : w.heap.size ≤ B) (j : Nat) (x : Value) : Below w.heap.size w (W.setCell ⟨B, j, none⟩ x) := h.setCell hB x
theorem NmS.push0 {w W W' : World} {LV : Array Value} {v0 v1 v2 v' : Value} {l0 l1 l2 l' : List L8} (h : NmS w W LV v0 v1 v2 l0 l1 l2) (ho : W'.ownsRow (w.heap.size + 3) 9 1 v' l'.length (strsV l'))
    (hg : W.grownBy W' v0.ownBlock) (ht : ∀ g, v'.ownBlock = some g → v0.ownBlock = some g ∨ W.heap.size ≤ g) : NmS w (W'.setCell ⟨w.heap.size + 2, 0, none⟩ v') LV v' v1 v2 l' l1 l2 := by
  have nb : ∀ B, B < w.heap.size + 3 → v0.ownBlock ≠ some B := fun B hB => own_lt h.o0 hB
  have hs := hg.size
  have hsz := h.sz
  refine ⟨(h.b0.grown hg (nb _ (by omega))).other (by omega) _ _, (h.b1.grown hg (nb _ (by omega))).other (by omega) _ _, (h.b2.grown hg (nb _ (by omega))).set 0 v', own_set ho _ (by omega) _ _,
    own_set (own_keep h.o1 hg h.d01) _ (by omega) _ _, own_set (own_keep h.o2 hg h.d02) _ (by omega) _ _, dis_told h.o1 h.d01 ht, dis_told h.o2 h.d02 ht, h.d12, ?_, by simp; omega⟩
  exact below_set (below_grown h.bel hg h.o0 (by omega) (by omega)) (by omega) _ _
theorem NmS.push1 {w W W' : World} {LV : Array Value} {v0 v1 v2 v' : Value} {l0 l1 l2 l' : List L8} (h : NmS w W LV v0 v1 v2 l0 l1 l2) (ho : W'.ownsRow (w.heap.size + 3) 9 1 v' l'.length (strsV l'))
    (hg : W.grownBy W' v1.ownBlock) (ht : ∀ g, v'.ownBlock = some g → v1.ownBlock = some g ∨ W.heap.size ≤ g) : NmS w (W'.setCell ⟨w.heap.size + 2, 1, none⟩ v') LV v0 v' v2 l0 l' l2 := by
  have nb : ∀ B, B < w.heap.size + 3 → v1.ownBlock ≠ some B := fun B hB => own_lt h.o1 hB
  have hs := hg.size
  have hsz := h.sz
  refine ⟨(h.b0.grown hg (nb _ (by omega))).other (by omega) _ _, (h.b1.grown hg (nb _ (by omega))).other (by omega) _ _, (h.b2.grown hg (nb _ (by omega))).set 1 v', own_set (own_keep h.o0 hg h.d01.symm) _ (by omega) _ _,
    own_set ho _ (by omega) _ _, own_set (own_keep h.o2 hg h.d12) _ (by omega) _ _, (dis_told h.o0 h.d01.symm ht).symm, h.d02, dis_told h.o2 h.d12 ht, ?_, by simp; omega⟩
  exact below_set (below_grown h.bel hg h.o1 (by omega) (by omega)) (by omega) _ _
theorem NmS.push2 {w W W' : World} {LV : Array Value} {v0 v1 v2 v' : Value} {l0 l1 l2 l' : List L8} (h : NmS w W LV v0 v1 v2 l0 l1 l2) (ho : W'.ownsRow (w.heap.size + 3) 9 1 v' l'.length (strsV l'))
    (hg : W.grownBy W' v2.ownBlock) (ht : ∀ g, v'.ownBlock = some g → v2.ownBlock = some g ∨ W.heap.size ≤ g) : NmS w (W'.setCell ⟨w.heap.size + 2, 2, none⟩ v') LV v0 v1 v' l0 l1 l' := by
  have nb : ∀ B, B < w.heap.size + 3 → v2.ownBlock ≠ some B := fun B hB => own_lt h.o2 hB
  have hs := hg.size
  have hsz := h.sz
  refine ⟨(h.b0.grown hg (nb _ (by omega))).other (by omega) _ _, (h.b1.grown hg (nb _ (by omega))).other (by omega) _ _, (h.b2.grown hg (nb _ (by omega))).set 2 v', own_set (own_keep h.o0 hg h.d02.symm) _ (by omega) _ _,
    own_set (own_keep h.o1 hg h.d12.symm) _ (by omega) _ _, own_set ho _ (by omega) _ _, h.d01, (dis_told h.o0 h.d02.symm ht).symm, (dis_told h.o1 h.d12.symm ht).symm, ?_, by simp; omega⟩
  exact below_set (below_grown h.bel hg h.o2 (by omega) (by omega)) (by omega) _ _
/-- Three lists of texts, as an array. -/
def RetN (w : World) (l0 l1 l2 : List L8) (e : Ending) (w' : World) : Prop :=
  ∃ v0 v1 v2, e = .returned (.agg #[v0, v1, v2]) ∧ RS w' v0 (strsV l0) ∧ RS w' v1 (strsV l1) ∧ RS w' v2 (strsV l2) ∧ Below w.heap.size w w'
theorem noS_own (W : World) (B : Nat) : W.ownsRow B 9 1 noS ([] : List L8).length (strsV []) := World.ownsRow_nil _ _ _ _
theorem strs_one (l : List L8) : ∀ x ∈ strsV l, x.oneCell' = true := by
  intro x hx
  simp only [strsV, List.mem_map] at hx
  obtain ⟨y, _, rfl⟩ := hx
  rfl
set_option maxRecDepth 100000 in
set_option maxHeartbeats 8000000 in
theorem rnames_any (v : Value) (L : LayD) (w : World) (hv : RLay w v L) (n1 : L.secs.length ≤ 60) (n2 : L.els.length ≤ 60) (n4 : L.sigs.length ≤ 60) :
    Calls Tryd.prog 71 #[v] w (RetN w L.secs (L.els.map ElD.name) (L.sigs.map SigD.name)) := by
  obtain ⟨v1, v2, v3, v4, v5, rfl, h1, h2, h3, h4, h5⟩ := hv
  clear h3 h5
  have HR := Lib.hid h1
  obtain ⟨a1, c1, rfl, ⟨m1, _⟩, _⟩ := h1.openS
  obtain ⟨a2, c2, rfl, ⟨m2, _⟩, HC⟩ := h2.openM
  obtain ⟨a4, c4, rfl, ⟨m4, _⟩, HS⟩ := h4.openM
  clear h1 h2 h4
  obtain ⟨nm, es⟩ : ∃ s, str L.name = s := ⟨_, rfl⟩
  rw [es]
  clear es
  obtain ⟨secs, e1⟩ : ∃ x, L.secs = x := ⟨_, rfl⟩
  obtain ⟨els, e2⟩ : ∃ x, L.els = x := ⟨_, rfl⟩
  obtain ⟨sigs, e4⟩ : ∃ x, L.sigs = x := ⟨_, rfl⟩
  rw [e1] at n1 m1 HR ⊢
  rw [e2] at n2 m2 HC ⊢
  rw [e4] at n4 m4 HS ⊢
  clear e1 e2 e4
  obtain ⟨LV, hLV⟩ : ∃ LV : Array Value, LV = #[nm, .slice a1 secs.length c1, .slice a2 els.length c2, v3, .slice a4 sigs.length c4, v5] := ⟨_, rfl⟩
  obtain ⟨W3, hW⟩ : ∃ W3, W3 = ((w.alloc (.cells LV 28)).alloc (.cells #[noS, noS, noS] 84)).alloc (.cells #[noS, noS, noS] 84) := ⟨_, rfl⟩
  have H3 : Hid (NmS w W3 LV noS noS noS [] [] []) := Lib.hid (by
    rw [hW]
    refine ⟨((Blk.new _ _ _ _ rfl).old _).old _, (Blk.new _ _ _ _ (by simp)).old _, Blk.new _ _ _ _ (by simp), noS_own _ _, noS_own _ _, noS_own _ _, ?_, ?_, ?_, ((((Below.refl _ _).alloc (Nat.le_refl _) _).alloc (by simp) _).alloc (by simp; omega) _), by simp⟩
    all_goals (intro g hg; simp [Value.ownBlock] at hg))
  go_enter Tryd.func71, Tryd.ntmps71
  rw [← hLV]
  go_wp2_with (at_builtin; rw [← hLV]; rw [← hW]
               refine wpList_append_rs _ rfl _ _ 22 rfl (w.heap.size + 3) 9 (.string ByteArray.empty) 16 Tryd.underlying22 info_str rfl noS 0 [] rfl H3.out.o0 _ rfl (strsV secs) (HR.out.below H3.out.bel) (strs_one _) (by rw [strsV_length]; omega) (by rw [strsV_length]; omega) H3.out.sz ?_
               intro x1 W4 p1 gr1 nb1
               rw [strsV_length, Nat.zero_add, List.nil_append] at p1
               obtain ⟨ax, cx, rfl⟩ := own_shape p1
               have BB := H3.out.b2.grown gr1 (own_lt H3.out.o0 (by omega))
               have k0 := BB.at 0 _ rfl
               have f0 := BB.free 0
               have k2 : W4.cell? ⟨w.heap.size, 2, none⟩ = some (.slice a2 els.length c2) := (H3.out.b0.grown gr1 (own_lt H3.out.o0 (by omega))).at 2 _ (by rw [hLV]; rfl)
               have N1 := Lib.hid (H3.out.push0 p1 gr1 nb1)
               clear BB p1 gr1 nb1)
  clear k0 f0 k2 H3 hW
  go_loopg [18] els.length (fun g s18 wx => ∃ (k : Nat) (v1 : Value), k + g = els.length ∧ s18 = .int .i64 k ∧ Hid (NmS w wx LV (.slice ax secs.length cx) v1 noS secs ((els.take k).map ElD.name) []))
  case atStart => exact ⟨0, noS, by omega, rfl, N1⟩
  case round =>
    obtain ⟨k, u1, hk, rfl, HN⟩ := hrel
    clear N1
    have hw := HN.out.bel
    have hs3 := HN.out.sz
    have hl2 : w.heap.size + 2 < wr.heap.size := by omega
    have hl0 : w.heap.size < wr.heap.size := by omega
    cases gk with
    | zero =>
      have hz : ¬ ((k : Int) < (els.length : Int)) := by omega
      have N2 : Hid (NmS w wr LV (.slice ax secs.length cx) u1 noS secs (els.map ElD.name) []) := Lib.hid (by have := HN.out; rwa [List.take_of_length_le (by omega)] at this)
      have k4 : wr.cell? ⟨w.heap.size, 4, none⟩ = some (.slice a4 sigs.length c4) := HN.out.b0.at 4 _ (by rw [hLV]; rfl)
      replace hk := Lib.hid hk
      clear HN
      go_wp2
      clear k4
      go_loopg [33] sigs.length (fun g s33 wx => ∃ (k : Nat) (v2 : Value), k + g = sigs.length ∧ s33 = .int .i64 k ∧ Hid (NmS w wx LV (.slice ax secs.length cx) u1 v2 secs (els.map ElD.name) ((sigs.take k).map SigD.name)))
      case atStart => exact ⟨0, noS, by omega, rfl, N2⟩
      case round =>
        clear N2 hk hl2 hl0 hs3 hw
        obtain ⟨k, u2, hk, rfl, HN⟩ := hrel
        have hw := HN.out.bel
        have hs3 := HN.out.sz
        have hl2 : w.heap.size + 2 < wr.heap.size := by omega
        have hl0 : w.heap.size < wr.heap.size := by omega
        cases gk with
        | zero =>
          have hz : ¬ ((k : Int) < (sigs.length : Int)) := by omega
          have N2 : Hid (NmS w wr LV (.slice ax secs.length cx) u1 u2 secs (els.map ElD.name) (sigs.map SigD.name)) := Lib.hid (by have := HN.out; rwa [List.take_of_length_le (by omega)] at this)
          clear HN
          obtain ⟨b1, c1, e1⟩ := own_shape N2.out.o1
          obtain ⟨b2, c2, e2⟩ := own_shape N2.out.o2
          subst e1 e2
          have O1 := Lib.hid N2.out.o1
          have O2 := Lib.hid N2.out.o2
          simp only [List.length_map] at O1 O2
          have k0 := N2.out.b2.at 0 _ rfl
          have k1 := N2.out.b2.at 1 _ rfl
          have k2 := N2.out.b2.at 2 _ rfl
          have j0 := N2.out.b1.at 0 _ rfl
          have j1 := N2.out.b1.at 1 _ rfl
          have j2 := N2.out.b1.at 2 _ rfl
          have f0 := N2.out.b1.free 0
          have f1 := N2.out.b1.free 1
          have f2 := N2.out.b1.free 2
          replace hk := Lib.hid hk
          go_wp2
          refine ret_cell1 rfl Tryd.underlying84 rfl (cs := #[_, _, _]) (by kernel_rfl) rfl (((N2.out.b1.set 0 _).set 1 _).set 2 _) rfl ⟨_, _, _, rfl, ?_, ?_, ?_, ?_⟩
          · exact RS.own (own_set (own_set (own_set N2.out.o0 (w.heap.size + 1) (by omega) _ _) (w.heap.size + 1) (by omega) _ _) (w.heap.size + 1) (by omega) _ _)
          · exact RS.own (own_set (own_set (own_set O1.out (w.heap.size + 1) (by omega) _ _) (w.heap.size + 1) (by omega) _ _) (w.heap.size + 1) (by omega) _ _)
          · exact RS.own (own_set (own_set (own_set O2.out (w.heap.size + 1) (by omega) _ _) (w.heap.size + 1) (by omega) _ _) (w.heap.size + 1) (by omega) _ _)
          · exact below_set (B := w.heap.size + 1) (below_set (B := w.heap.size + 1) (below_set (B := w.heap.size + 1) hw (by omega) _ _) (by omega) _ _) (by omega) _ _
        | succ g =>
          have hz : (k : Int) < (sigs.length : Int) := by omega
          obtain ⟨⟨xn, ⟨e1, e2⟩, ov⟩, hy, ht, _⟩ := at_take (l := sigs) (k := k) (by omega)
          obtain ⟨b, off, rfl, hlt, hc⟩ := HS.out.rd hw hy
          have cc0 := hc 0 _ rfl
          have cc1 := hc 1 _ rfl
          have cc2 := hc 2 _ rfl
          have cc3 := hc 3 _ rfl
          simp only [Nat.add_zero] at cc0 cc1 cc2 cc3
          obtain ⟨xm, ex⟩ : ∃ s : ByteArray, (⟨xn.toArray⟩ : ByteArray) = s := ⟨_, rfl⟩
          have ex2 : str xn = .string xm := by rw [← ex]
          simp only [ex2] at cc0
          have k1 := HN.out.b2.at 2 _ rfl
          have hlen : ((sigs.take k).map SigD.name).length = k := by simp; omega
          replace hlen := Lib.hid hlen
          replace ht := Lib.hid ht
          replace hk := Lib.hid hk
          replace ex2 := Lib.hid ex2
          clear hc hy ex
          go_wp2_with (at_builtin
                       refine wpList_pushB _ rfl _ _ 22 rfl (w.heap.size + 3) 9 (.string ByteArray.empty) 1 16 Tryd.underlying22 info_str rfl (by omega) u2 _ _ rfl (HN.out.o2.alloc _) (wr.heap.size + 1) (by simp) [.string xm] rfl rfl (by simp [Value.oneCell']) (by rw [hlen.out]; omega) (by rw [hlen.out]; omega) (by simp; omega) ?_
                       intro x1 W5 p1 gr1 nb1
                       have p2 : W5.ownsRow (w.heap.size + 3) 9 1 x1 (k + 1) (strsV ((sigs.take (k + 1)).map SigD.name)) := by
                         rw [ht.out, List.map_append, List.map_cons, List.map_nil, strsV_snoc, ex2.out]; rw [hlen.out] at p1; exact p1
                       clear p1
                       obtain ⟨ax5, cx5, e5⟩ := own_shape p2
                       subst e5
                       have BB := (HN.out.b2.old _).grown gr1 (own_lt HN.out.o2 (by omega))
                       have q0 := BB.at 2 _ rfl
                       have q1 := BB.free 2
                       have N5 := Lib.hid ((HN.out.alloc _).push2 (l' := (sigs.take (k + 1)).map SigD.name) (by rw [show ((sigs.take (k + 1)).map SigD.name).length = k + 1 by simp; omega]; exact p2) gr1 nb1)
                       clear BB p2 gr1 nb1)
          go_roundg g
          case measure => omega
          case rel => exact ⟨k + 1, _, by have := hk.out; omega, by go_num, N5⟩
    | succ g =>
      have hz : (k : Int) < (els.length : Int) := by omega
      obtain ⟨⟨xn, kd, ln, gr, sp, sl, sc⟩, hy, ht, _⟩ := at_take (l := els) (k := k) (by omega)
      obtain ⟨b, off, rfl, hlt, hc⟩ := HC.out.rd hw hy
      have cc0 := hc 0 _ rfl
      have cc1 := hc 1 _ rfl
      have cc2 := hc 2 _ rfl
      have cc3 := hc 3 _ rfl
      have cc4 := hc 4 _ rfl
      have cc5 := hc 5 _ rfl
      have cc6 := hc 6 _ rfl
      simp only [Nat.add_zero] at cc0 cc1 cc2 cc3 cc4 cc5 cc6
      obtain ⟨xm, ex⟩ : ∃ s : ByteArray, (⟨xn.toArray⟩ : ByteArray) = s := ⟨_, rfl⟩
      have ex2 : str xn = .string xm := by rw [← ex]
      simp only [ex2] at cc0
      have k1 := HN.out.b2.at 1 _ rfl
      have hlen : ((els.take k).map ElD.name).length = k := by simp; omega
      replace hlen := Lib.hid hlen
      replace ht := Lib.hid ht
      replace hk := Lib.hid hk
      replace ex2 := Lib.hid ex2
      clear hc hy ex
      go_wp2_with (at_builtin
                   refine wpList_pushB _ rfl _ _ 22 rfl (w.heap.size + 3) 9 (.string ByteArray.empty) 1 16 Tryd.underlying22 info_str rfl (by omega) u1 _ _ rfl (HN.out.o1.alloc _) (wr.heap.size + 1) (by simp) [.string xm] rfl rfl (by simp [Value.oneCell']) (by rw [hlen.out]; omega) (by rw [hlen.out]; omega) (by simp; omega) ?_
                   intro x1 W5 p1 gr1 nb1
                   have p2 : W5.ownsRow (w.heap.size + 3) 9 1 x1 (k + 1) (strsV ((els.take (k + 1)).map ElD.name)) := by
                     rw [ht.out, List.map_append, List.map_cons, List.map_nil, strsV_snoc, ex2.out]; rw [hlen.out] at p1; exact p1
                   clear p1
                   obtain ⟨ax5, cx5, e5⟩ := own_shape p2
                   subst e5
                   have BB := (HN.out.b2.old _).grown gr1 (own_lt HN.out.o1 (by omega))
                   have q0 := BB.at 1 _ rfl
                   have q1 := BB.free 1
                   have N5 := Lib.hid ((HN.out.alloc _).push1 (l' := (els.take (k + 1)).map ElD.name) (by rw [show ((els.take (k + 1)).map ElD.name).length = k + 1 by simp; omega]; exact p2) gr1 nb1)
                   clear BB p2 gr1 nb1)
      go_roundg g
      case measure => omega
      case rel => exact ⟨k + 1, _, by have := hk.out; omega, by go_num, N5⟩
end Go.Proofs.YthoodaldmfojaaaDoor
