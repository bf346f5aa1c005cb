/- Texts of the layers 5 to 7, merged. -/
import Derived.Test.YteafkginhejllaaGreatDoorG8
namespace Go.Proofs.YteafkginhejllaaGreatDoor
section
open Go.ChangeShapes Go.WideShapes Go.ChangeAt Go.RowKit
theorem ret_cell1 {P : Program} {fn : Func} {p : Tmp} {ty : TypeId} {R : Ending → World → Prop} {a : Act} {w : World} (hr : fn.results = #[.cell p ty]) {d : TypeDesc} (hu : P.underlying ty = some d)
    (hd : (match d with | .struct _ | .array _ _ => true | _ => false) = true) {n : Nat} {cs : Array Value} (hi : (P.info? ty).map (·.size) = some cs.size) (hp : a.tmps.getD p undef = .pointer (some ⟨n, 0, none⟩))
    (hB : Blk w n cs) (hf : a.defers = []) (hR : R (.returned (.agg cs)) w) : bodyPost P fn R .ret a w := by
  obtain ⟨t, h⟩ := hB
  exact bodyPost_ret (v := .agg cs) (results_cell_row hr a.tmps w n t cs (0, 0) d hp h hu hd hi) hf hR
def Dis (v u : Value) : Prop := ∀ g, v.ownBlock = some g → u.ownBlock ≠ some g
theorem Dis.symm {v u : Value} (h : Dis v u) : Dis u v := fun g hu hv => h g hv hu
abbrev noS : Value := .slice none 0 0
structure NmS (w W : World) (LV : Array Value) (v0 v1 v2 : Value) (l0 l1 l2 : List L8) : Prop where
  b0 : Blk W w.heap.size LV
  b1 : Blk W (w.heap.size + 1) #[noS, noS, noS]
  b2 : Blk W (w.heap.size + 2) #[v0, v1, v2]
  o0 : W.ownsRow (w.heap.size + 3) 9 1 v0 l0.length (strsV l0)
  o1 : W.ownsRow (w.heap.size + 3) 9 1 v1 l1.length (strsV l1)
  o2 : W.ownsRow (w.heap.size + 3) 9 1 v2 l2.length (strsV l2)
  d01 : Dis v0 v1
  d02 : Dis v0 v2
  d12 : Dis v1 v2
  bel : Below w.heap.size w W
  sz : w.heap.size + 3 ≤ W.heap.size
theorem NmS.alloc {w W : World} {LV : Array Value} {v0 v1 v2 : Value} {l0 l1 l2 : List L8} (h : NmS w W LV v0 v1 v2 l0 l1 l2) (o : Obj) : NmS w (W.alloc o) LV v0 v1 v2 l0 l1 l2 :=
  ⟨h.b0.old o, h.b1.old o, h.b2.old o, h.o0.alloc o, h.o1.alloc o, h.o2.alloc o, h.d01, h.d02, h.d12, alloc_below h.bel (Nat.le_refl _) o, by have := h.sz; simp; omega⟩
theorem dis_told {W : World} {base : Nat} {v v' u : Value} {n : Nat} {xs : List Value} (hu : W.ownsRow base 9 1 u n xs) (hd : Dis v u) (ht : ∀ g, v'.ownBlock = some g → v.ownBlock = some g ∨ W.heap.size ≤ g) : Dis v' u := by
  intro g hg hug
  rcases ht g hg with h | h
  · exact hd g h hug
  · have := (hu.lt g hug).2; omega
theorem own_keep {W W' : World} {base : Nat} {v u : Value} {n : Nat} {xs : List Value} (hu : W.ownsRow base 9 1 u n xs) (hg : W.grownBy W' v.ownBlock) (hd : Dis v u) : W'.ownsRow base 9 1 u n xs :=
  own_kept hu hg fun g h1 h2 => hd g h2 h1
theorem below_set {w W : World} (h : Below w.heap.size w W) {B : Nat} (hB : w.heap.size ≤ B) (j : Nat) (x : Value) : Below w.heap.size w (W.setCell ⟨B, j, none⟩ x) := h.setCell hB x
theorem NmS.push0 {w W W' : World} {LV : Array Value} {v0 v1 v2 v' : Value} {l0 l1 l2 l' : List L8} (h : NmS w W LV v0 v1 v2 l0 l1 l2) (ho : W'.ownsRow (w.heap.size + 3) 9 1 v' l'.length (strsV l'))
    (hg : W.grownBy W' v0.ownBlock) (ht : ∀ g, v'.ownBlock = some g → v0.ownBlock = some g ∨ W.heap.size ≤ g) : NmS w (W'.setCell ⟨w.heap.size + 2, 0, none⟩ v') LV v' v1 v2 l' l1 l2 := by
  have nb : ∀ B, B < w.heap.size + 3 → v0.ownBlock ≠ some B := fun B hB => own_lt h.o0 hB
  have hs := hg.size
  have hsz := h.sz
  refine ⟨(h.b0.grown hg (nb _ (by omega))).other (by omega) _ _, (h.b1.grown hg (nb _ (by omega))).other (by omega) _ _, (h.b2.grown hg (nb _ (by omega))).set 0 v', own_set ho _ (by omega) _ _,
    own_set (own_keep h.o1 hg h.d01) _ (by omega) _ _, own_set (own_keep h.o2 hg h.d02) _ (by omega) _ _, dis_told h.o1 h.d01 ht, dis_told h.o2 h.d02 ht, h.d12, ?_, by simp; omega⟩
  exact below_set (below_grown h.bel hg h.o0 (by omega) (by omega)) (by omega) _ _
theorem NmS.push1 {w W W' : World} {LV : Array Value} {v0 v1 v2 v' : Value} {l0 l1 l2 l' : List L8} (h : NmS w W LV v0 v1 v2 l0 l1 l2) (ho : W'.ownsRow (w.heap.size + 3) 9 1 v' l'.length (strsV l'))
    (hg : W.grownBy W' v1.ownBlock) (ht : ∀ g, v'.ownBlock = some g → v1.ownBlock = some g ∨ W.heap.size ≤ g) : NmS w (W'.setCell ⟨w.heap.size + 2, 1, none⟩ v') LV v0 v' v2 l0 l' l2 := by
  have nb : ∀ B, B < w.heap.size + 3 → v1.ownBlock ≠ some B := fun B hB => own_lt h.o1 hB
  have hs := hg.size
  have hsz := h.sz
  refine ⟨(h.b0.grown hg (nb _ (by omega))).other (by omega) _ _, (h.b1.grown hg (nb _ (by omega))).other (by omega) _ _, (h.b2.grown hg (nb _ (by omega))).set 1 v', own_set (own_keep h.o0 hg h.d01.symm) _ (by omega) _ _,
    own_set ho _ (by omega) _ _, own_set (own_keep h.o2 hg h.d12) _ (by omega) _ _, (dis_told h.o0 h.d01.symm ht).symm, h.d02, dis_told h.o2 h.d12 ht, ?_, by simp; omega⟩
  exact below_set (below_grown h.bel hg h.o1 (by omega) (by omega)) (by omega) _ _
theorem NmS.push2 {w W W' : World} {LV : Array Value} {v0 v1 v2 v' : Value} {l0 l1 l2 l' : List L8} (h : NmS w W LV v0 v1 v2 l0 l1 l2) (ho : W'.ownsRow (w.heap.size + 3) 9 1 v' l'.length (strsV l'))
    (hg : W.grownBy W' v2.ownBlock) (ht : ∀ g, v'.ownBlock = some g → v2.ownBlock = some g ∨ W.heap.size ≤ g) : NmS w (W'.setCell ⟨w.heap.size + 2, 2, none⟩ v') LV v0 v1 v' l0 l1 l' := by
  have nb : ∀ B, B < w.heap.size + 3 → v2.ownBlock ≠ some B := fun B hB => own_lt h.o2 hB
  have hs := hg.size
  have hsz := h.sz
  refine ⟨(h.b0.grown hg (nb _ (by omega))).other (by omega) _ _, (h.b1.grown hg (nb _ (by omega))).other (by omega) _ _, (h.b2.grown hg (nb _ (by omega))).set 2 v', own_set (own_keep h.o0 hg h.d02.symm) _ (by omega) _ _,
    own_set (own_keep h.o1 hg h.d12.symm) _ (by omega) _ _, own_set ho _ (by omega) _ _, h.d01, (dis_told h.o0 h.d02.symm ht).symm, (dis_told h.o1 h.d12.symm ht).symm, ?_, by simp; omega⟩
  exact below_set (below_grown h.bel hg h.o2 (by omega) (by omega)) (by omega) _ _
/-- Three lists of texts, as an array. -/
def RetN (w : World) (l0 l1 l2 : List L8) (e : Ending) (w' : World) : Prop :=
  ∃ v0 v1 v2, e = .returned (.agg #[v0, v1, v2]) ∧ RS w' v0 (strsV l0) ∧ RS w' v1 (strsV l1) ∧ RS w' v2 (strsV l2) ∧ Below w.heap.size w w'
theorem noS_own (W : World) (B : Nat) : W.ownsRow B 9 1 noS ([] : List L8).length (strsV []) := World.ownsRow_nil _ _ _ _
theorem strs_one (l : List L8) : ∀ x ∈ strsV l, x.oneCell' = true := by
  intro x hx
  simp only [strsV, List.mem_map] at hx
  obtain ⟨y, _, rfl⟩ := hx
  rfl
set_option maxRecDepth 100000 in
set_option maxHeartbeats 8000000 in
theorem rnames_any (v : Value) (L : LayD) (w : World) (hv : RLay w v L) (n1 : L.secs.length ≤ 60) (n2 : L.els.length ≤ 60) (n4 : L.sigs.length ≤ 60) :
    Calls Tryz.prog 95 #[v] w (RetN w L.secs (L.els.map ElD.name) (L.sigs.map SigD.name)) := by
  obtain ⟨v1, v2, v3, v4, v5, rfl, h1, h2, h3, h4, h5⟩ := hv
  clear h3 h5
  have HR := Lib.hid h1
  obtain ⟨a1, c1, rfl, ⟨m1, _⟩, _⟩ := h1.openS
  obtain ⟨a2, c2, rfl, ⟨m2, _⟩, HC⟩ := h2.openM
  obtain ⟨a4, c4, rfl, ⟨m4, _⟩, HS⟩ := h4.openM
  clear h1 h2 h4
  obtain ⟨nm, es⟩ : ∃ s, str L.name = s := ⟨_, rfl⟩
  rw [es]
  clear es
  obtain ⟨secs, e1⟩ : ∃ x, L.secs = x := ⟨_, rfl⟩
  obtain ⟨els, e2⟩ : ∃ x, L.els = x := ⟨_, rfl⟩
  obtain ⟨sigs, e4⟩ : ∃ x, L.sigs = x := ⟨_, rfl⟩
  rw [e1] at n1 m1 HR ⊢
  rw [e2] at n2 m2 HC ⊢
  rw [e4] at n4 m4 HS ⊢
  clear e1 e2 e4
  obtain ⟨LV, hLV⟩ : ∃ LV : Array Value, LV = #[nm, .slice a1 secs.length c1, .slice a2 els.length c2, v3, .slice a4 sigs.length c4, v5] := ⟨_, rfl⟩
  obtain ⟨W3, hW⟩ : ∃ W3, W3 = ((w.alloc (.cells LV 28)).alloc (.cells #[noS, noS, noS] 123)).alloc (.cells #[noS, noS, noS] 123) := ⟨_, rfl⟩
  have H3 : Hid (NmS w W3 LV noS noS noS [] [] []) := Lib.hid (by
    rw [hW]
    refine ⟨((Blk.new _ _ _ _ rfl).old _).old _, (Blk.new _ _ _ _ (by simp)).old _, Blk.new _ _ _ _ (by simp), noS_own _ _, noS_own _ _, noS_own _ _, ?_, ?_, ?_, ((((Below.refl _ _).alloc (Nat.le_refl _) _).alloc (by simp) _).alloc (by simp; omega) _), by simp⟩
    all_goals (intro g hg; simp [Value.ownBlock] at hg))
  go_enter Tryz.func95, Tryz.ntmps95
  rw [← hLV]
  go_wp2_with (at_builtin; rw [← hLV]; rw [← hW]
               refine wpList_append_rs _ rfl _ _ 22 rfl (w.heap.size + 3) 9 (.string ByteArray.empty) 16 Tryz.underlying22 info_str rfl noS 0 [] rfl H3.out.o0 _ rfl (strsV secs) (HR.out.below H3.out.bel) (strs_one _) (by rw [strsV_length]; omega) (by rw [strsV_length]; omega) H3.out.sz ?_
               intro x1 W4 p1 gr1 nb1
               rw [strsV_length, Nat.zero_add, List.nil_append] at p1
               obtain ⟨ax, cx, rfl⟩ := own_shape p1
               have BB := H3.out.b2.grown gr1 (own_lt H3.out.o0 (by omega))
               have k0 := BB.at 0 _ rfl
               have f0 := BB.free 0
               have k2 : W4.cell? ⟨w.heap.size, 2, none⟩ = some (.slice a2 els.length c2) := (H3.out.b0.grown gr1 (own_lt H3.out.o0 (by omega))).at 2 _ (by rw [hLV]; rfl)
               have N1 := Lib.hid (H3.out.push0 p1 gr1 nb1)
               clear BB p1 gr1 nb1)
  clear k0 f0 k2 H3 hW
  go_loopg [18] els.length (fun g s18 wx => ∃ (k : Nat) (v1 : Value), k + g = els.length ∧ s18 = .int .i64 k ∧ Hid (NmS w wx LV (.slice ax secs.length cx) v1 noS secs ((els.take k).map ElD.name) []))
  case atStart => exact ⟨0, noS, by omega, rfl, N1⟩
  case round =>
    obtain ⟨k, u1, hk, rfl, HN⟩ := hrel
    clear N1
    have hw := HN.out.bel
    have hs3 := HN.out.sz
    have hl2 : w.heap.size + 2 < wr.heap.size := by omega
    have hl0 : w.heap.size < wr.heap.size := by omega
    cases gk with
    | zero =>
      have hz : ¬ ((k : Int) < (els.length : Int)) := by omega
      have N2 : Hid (NmS w wr LV (.slice ax secs.length cx) u1 noS secs (els.map ElD.name) []) := Lib.hid (by have := HN.out; rwa [List.take_of_length_le (by omega)] at this)
      have k4 : wr.cell? ⟨w.heap.size, 4, none⟩ = some (.slice a4 sigs.length c4) := HN.out.b0.at 4 _ (by rw [hLV]; rfl)
      replace hk := Lib.hid hk
      clear HN
      go_wp2
      clear k4
      go_loopg [33] sigs.length (fun g s33 wx => ∃ (k : Nat) (v2 : Value), k + g = sigs.length ∧ s33 = .int .i64 k ∧ Hid (NmS w wx LV (.slice ax secs.length cx) u1 v2 secs (els.map ElD.name) ((sigs.take k).map SigD.name)))
      case atStart => exact ⟨0, noS, by omega, rfl, N2⟩
      case round =>
        clear N2 hk hl2 hl0 hs3 hw
        obtain ⟨k, u2, hk, rfl, HN⟩ := hrel
        have hw := HN.out.bel
        have hs3 := HN.out.sz
        have hl2 : w.heap.size + 2 < wr.heap.size := by omega
        have hl0 : w.heap.size < wr.heap.size := by omega
        cases gk with
        | zero =>
          have hz : ¬ ((k : Int) < (sigs.length : Int)) := by omega
          have N2 : Hid (NmS w wr LV (.slice ax secs.length cx) u1 u2 secs (els.map ElD.name) (sigs.map SigD.name)) := Lib.hid (by have := HN.out; rwa [List.take_of_length_le (by omega)] at this)
          clear HN
          obtain ⟨b1, c1, e1⟩ := own_shape N2.out.o1
          obtain ⟨b2, c2, e2⟩ := own_shape N2.out.o2
          subst e1 e2
          have O1 := Lib.hid N2.out.o1
          have O2 := Lib.hid N2.out.o2
          simp only [List.length_map] at O1 O2
          have k0 := N2.out.b2.at 0 _ rfl
          have k1 := N2.out.b2.at 1 _ rfl
          have k2 := N2.out.b2.at 2 _ rfl
          have j0 := N2.out.b1.at 0 _ rfl
          have j1 := N2.out.b1.at 1 _ rfl
          have j2 := N2.out.b1.at 2 _ rfl
          have f0 := N2.out.b1.free 0
          have f1 := N2.out.b1.free 1
          have f2 := N2.out.b1.free 2
          replace hk := Lib.hid hk
          go_wp2
          refine ret_cell1 rfl Tryz.underlying123 rfl (cs := #[_, _, _]) (by kernel_rfl) rfl (((N2.out.b1.set 0 _).set 1 _).set 2 _) rfl ⟨_, _, _, rfl, ?_, ?_, ?_, ?_⟩
          · exact RS.own (own_set (own_set (own_set N2.out.o0 (w.heap.size + 1) (by omega) _ _) (w.heap.size + 1) (by omega) _ _) (w.heap.size + 1) (by omega) _ _)
          · exact RS.own (own_set (own_set (own_set O1.out (w.heap.size + 1) (by omega) _ _) (w.heap.size + 1) (by omega) _ _) (w.heap.size + 1) (by omega) _ _)
          · exact RS.own (own_set (own_set (own_set O2.out (w.heap.size + 1) (by omega) _ _) (w.heap.size + 1) (by omega) _ _) (w.heap.size + 1) (by omega) _ _)
          · exact below_set (B := w.heap.size + 1) (below_set (B := w.heap.size + 1) (below_set (B := w.heap.size + 1) hw (by omega) _ _) (by omega) _ _) (by omega) _ _
        | succ g =>
          have hz : (k : Int) < (sigs.length : Int) := by omega
          obtain ⟨⟨xn, ⟨e1, e2⟩, ov⟩, hy, ht, _⟩ := at_take (l := sigs) (k := k) (by omega)
          obtain ⟨b, off, rfl, hlt, hc⟩ := HS.out.rd hw hy
          have cc0 := hc 0 _ rfl
          have cc1 := hc 1 _ rfl
          have cc2 := hc 2 _ rfl
          have cc3 := hc 3 _ rfl
          simp only [Nat.add_zero] at cc0 cc1 cc2 cc3
          obtain ⟨xm, ex⟩ : ∃ s : ByteArray, (⟨xn.toArray⟩ : ByteArray) = s := ⟨_, rfl⟩
          have ex2 : str xn = .string xm := by rw [← ex]
          simp only [ex2] at cc0
          have k1 := HN.out.b2.at 2 _ rfl
          have hlen : ((sigs.take k).map SigD.name).length = k := by simp; omega
          replace hlen := Lib.hid hlen
          replace ht := Lib.hid ht
          replace hk := Lib.hid hk
          replace ex2 := Lib.hid ex2
          clear hc hy ex
          go_wp2_with (at_builtin
                       refine wpList_pushB _ rfl _ _ 22 rfl (w.heap.size + 3) 9 (.string ByteArray.empty) 1 16 Tryz.underlying22 info_str rfl (by omega) u2 _ _ rfl (HN.out.o2.alloc _) (wr.heap.size + 1) (by simp) [.string xm] rfl rfl (by simp [Value.oneCell']) (by rw [hlen.out]; omega) (by rw [hlen.out]; omega) (by simp; omega) ?_
                       intro x1 W5 p1 gr1 nb1
                       have p2 : W5.ownsRow (w.heap.size + 3) 9 1 x1 (k + 1) (strsV ((sigs.take (k + 1)).map SigD.name)) := by
                         rw [ht.out, List.map_append, List.map_cons, List.map_nil, strsV_snoc, ex2.out]; rw [hlen.out] at p1; exact p1
                       clear p1
                       obtain ⟨ax5, cx5, e5⟩ := own_shape p2
                       subst e5
                       have BB := (HN.out.b2.old _).grown gr1 (own_lt HN.out.o2 (by omega))
                       have q0 := BB.at 2 _ rfl
                       have q1 := BB.free 2
                       have N5 := Lib.hid ((HN.out.alloc _).push2 (l' := (sigs.take (k + 1)).map SigD.name) (by rw [show ((sigs.take (k + 1)).map SigD.name).length = k + 1 by simp; omega]; exact p2) gr1 nb1)
                       clear BB p2 gr1 nb1)
          go_roundg g
          case measure => omega
          case rel => exact ⟨k + 1, _, by have := hk.out; omega, by go_num, N5⟩
    | succ g =>
      have hz : (k : Int) < (els.length : Int) := by omega
      obtain ⟨⟨xn, kd, ln, gr, sp, sl, sc⟩, hy, ht, _⟩ := at_take (l := els) (k := k) (by omega)
      obtain ⟨b, off, rfl, hlt, hc⟩ := HC.out.rd hw hy
      have cc0 := hc 0 _ rfl
      have cc1 := hc 1 _ rfl
      have cc2 := hc 2 _ rfl
      have cc3 := hc 3 _ rfl
      have cc4 := hc 4 _ rfl
      have cc5 := hc 5 _ rfl
      have cc6 := hc 6 _ rfl
      simp only [Nat.add_zero] at cc0 cc1 cc2 cc3 cc4 cc5 cc6
      obtain ⟨xm, ex⟩ : ∃ s : ByteArray, (⟨xn.toArray⟩ : ByteArray) = s := ⟨_, rfl⟩
      have ex2 : str xn = .string xm := by rw [← ex]
      simp only [ex2] at cc0
      have k1 := HN.out.b2.at 1 _ rfl
      have hlen : ((els.take k).map ElD.name).length = k := by simp; omega
      replace hlen := Lib.hid hlen
      replace ht := Lib.hid ht
      replace hk := Lib.hid hk
      replace ex2 := Lib.hid ex2
      clear hc hy ex
      go_wp2_with (at_builtin
                   refine wpList_pushB _ rfl _ _ 22 rfl (w.heap.size + 3) 9 (.string ByteArray.empty) 1 16 Tryz.underlying22 info_str rfl (by omega) u1 _ _ rfl (HN.out.o1.alloc _) (wr.heap.size + 1) (by simp) [.string xm] rfl rfl (by simp [Value.oneCell']) (by rw [hlen.out]; omega) (by rw [hlen.out]; omega) (by simp; omega) ?_
                   intro x1 W5 p1 gr1 nb1
                   have p2 : W5.ownsRow (w.heap.size + 3) 9 1 x1 (k + 1) (strsV ((els.take (k + 1)).map ElD.name)) := by
                     rw [ht.out, List.map_append, List.map_cons, List.map_nil, strsV_snoc, ex2.out]; rw [hlen.out] at p1; exact p1
                   clear p1
                   obtain ⟨ax5, cx5, e5⟩ := own_shape p2
                   subst e5
                   have BB := (HN.out.b2.old _).grown gr1 (own_lt HN.out.o1 (by omega))
                   have q0 := BB.at 1 _ rfl
                   have q1 := BB.free 1
                   have N5 := Lib.hid ((HN.out.alloc _).push1 (l' := (els.take (k + 1)).map ElD.name) (by rw [show ((els.take (k + 1)).map ElD.name).length = k + 1 by simp; omega]; exact p2) gr1 nb1)
                   clear BB p2 gr1 nb1)
      go_roundg g
      case measure => omega
      case rel => exact ⟨k + 1, _, by have := hk.out; omega, by go_num, N5⟩
end
section
open Go.ChangeShapes Go.WideShapes Go.ChangeAt Go.RowKit
def namedS (L : LayD) : Int := if limB L = false then 2 else if namB isName L = false then 3 else if dupB L = false then 8 else 0
def allNames (L : LayD) : List L8 := ([L.name] ++ L.secs ++ L.els.map ElD.name) ++ L.sigs.map SigD.name
theorem namB_all (L : LayD) : namB isName L = (allNames L).all isName := by
  unfold namB allNames
  simp only [List.all_append, List.all_cons, List.all_nil, Bool.and_true, List.all_map, Bool.and_assoc]
  rfl
set_option maxRecDepth 100000 in
set_option maxHeartbeats 8000000 in
theorem named_bad (v : Value) (L : LayD) (w : World) (hv : RLay w v L) (hl : limB L = false) : Calls Tryz.prog 50 #[v] w (RetV w (.int .i64 2)) := by
  obtain ⟨v1, v2, v3, v4, v5, rfl, h1, h2, h3, h4, h5⟩ := hv
  obtain ⟨a1, c1, rfl, m1, _⟩ := h1.openS
  obtain ⟨a2, c2, rfl, m2, _⟩ := h2.openM
  obtain ⟨a4, c4, rfl, m4, _⟩ := h4.openM
  obtain ⟨a5, c5, rfl, m5, _⟩ := h5.openM
  clear h1 h2 h3 h4 h5
  unfold limB at hl
  obtain ⟨n1, e1⟩ : ∃ n, L.secs.length = n := ⟨_, rfl⟩
  obtain ⟨n2, e2⟩ : ∃ n, L.els.length = n := ⟨_, rfl⟩
  obtain ⟨n4, e4⟩ : ∃ n, L.sigs.length = n := ⟨_, rfl⟩
  obtain ⟨n5, e5⟩ : ∃ n, L.bals.length = n := ⟨_, rfl⟩
  obtain ⟨s, es⟩ : ∃ s, str L.name = s := ⟨_, rfl⟩
  rw [e1, e2, e4, e5] at hl
  rw [e1, e2, e4, e5, es]
  rw [decide_eq_false_iff_not] at hl
  clear e1 e2 e4 e5 es m1 m2 m4 m5
  by_cases c0 : (n2 : Int) < 1
  · clear hl
    have u0 : decide ((n2 : Int) < 1) = true := by simp; omega
    clear c0
    go_enter Tryz.func50, Tryz.ntmps50
    go_wp2
    go_ret
    exact ⟨rfl, (Below.refl _ _).alloc (Nat.le_refl _) _⟩
  by_cases c1 : 32 < (n2 : Int)
  · clear hl
    have u0 : decide ((n2 : Int) < 1) = false := by simp; omega
    have u1 : decide (32 < (n2 : Int)) = true := by simp; omega
    clear c0 c1
    go_enter Tryz.func50, Tryz.ntmps50
    go_wp2
    go_ret
    exact ⟨rfl, (Below.refl _ _).alloc (Nat.le_refl _) _⟩
  by_cases c2 : (n1 : Int) < 1
  · clear hl
    have u0 : decide ((n2 : Int) < 1) = false := by simp; omega
    have u1 : decide (32 < (n2 : Int)) = false := by simp; omega
    have u2 : decide ((n1 : Int) < 1) = true := by simp; omega
    clear c0 c1 c2
    go_enter Tryz.func50, Tryz.ntmps50
    go_wp2
    go_ret
    exact ⟨rfl, (Below.refl _ _).alloc (Nat.le_refl _) _⟩
  by_cases c3 : 24 < (n1 : Int)
  · clear hl
    have u0 : decide ((n2 : Int) < 1) = false := by simp; omega
    have u1 : decide (32 < (n2 : Int)) = false := by simp; omega
    have u2 : decide ((n1 : Int) < 1) = false := by simp; omega
    have u3 : decide (24 < (n1 : Int)) = true := by simp; omega
    clear c0 c1 c2 c3
    go_enter Tryz.func50, Tryz.ntmps50
    go_wp2
    go_ret
    exact ⟨rfl, (Below.refl _ _).alloc (Nat.le_refl _) _⟩
  by_cases c4 : 20 < (n4 : Int)
  · clear hl
    have u0 : decide ((n2 : Int) < 1) = false := by simp; omega
    have u1 : decide (32 < (n2 : Int)) = false := by simp; omega
    have u2 : decide ((n1 : Int) < 1) = false := by simp; omega
    have u3 : decide (24 < (n1 : Int)) = false := by simp; omega
    have u4 : decide (20 < (n4 : Int)) = true := by simp; omega
    clear c0 c1 c2 c3 c4
    go_enter Tryz.func50, Tryz.ntmps50
    go_wp2
    go_ret
    exact ⟨rfl, (Below.refl _ _).alloc (Nat.le_refl _) _⟩
  by_cases c5 : 24 < (n5 : Int)
  · clear hl
    have u0 : decide ((n2 : Int) < 1) = false := by simp; omega
    have u1 : decide (32 < (n2 : Int)) = false := by simp; omega
    have u2 : decide ((n1 : Int) < 1) = false := by simp; omega
    have u3 : decide (24 < (n1 : Int)) = false := by simp; omega
    have u4 : decide (20 < (n4 : Int)) = false := by simp; omega
    have u5 : decide (24 < (n5 : Int)) = true := by simp; omega
    clear c0 c1 c2 c3 c4 c5
    go_enter Tryz.func50, Tryz.ntmps50
    go_wp2
    go_ret
    exact ⟨rfl, (Below.refl _ _).alloc (Nat.le_refl _) _⟩
  exact (hl (by omega)).elim
set_option maxRecDepth 100000 in
set_option maxHeartbeats 8000000 in
theorem named_ok (v : Value) (L : LayD) (w : World) (hv : RLay w v L) (hl : limB L = true) (hs : ∀ s ∈ allNames L, s.length ≤ 9223372036854775807) : Calls Tryz.prog 50 #[v] w (RetV w (.int .i64 (namedS L))) := by
  have HV := Lib.hid hv
  obtain ⟨v1, v2, v3, v4, v5, rfl, h1, h2, h3, h4, h5⟩ := hv
  obtain ⟨a1, c1, rfl, m1, _⟩ := h1.openS
  obtain ⟨a2, c2, rfl, m2, _⟩ := h2.openM
  obtain ⟨a4, c4, rfl, m4, _⟩ := h4.openM
  obtain ⟨a5, c5, rfl, m5, _⟩ := h5.openM
  obtain ⟨a3, c3, rfl, m3, _⟩ := h3.openM
  clear h1 h2 h3 h4 h5
  have hl2 := hl
  unfold limB at hl2
  rw [decide_eq_true_eq] at hl2
  have N := Lib.hid hl2
  have hnm : namedS L = if (allNames L).all isName = false then 3 else if dupB L = false then 8 else 0 := by unfold namedS; rw [hl, if_neg (by simp), namB_all]
  rw [hnm]
  clear hnm hl
  obtain ⟨q, hq⟩ : ∃ q : Int, (if (allNames L).all isName = false then 3 else if dupB L = false then 8 else 0) = q := ⟨_, rfl⟩
  rw [hq]
  replace hq := Lib.hid hq
  have K := fun vv ww hh => rnames_any vv L ww hh (by omega) (by omega) (by omega)
  obtain ⟨n1, e1⟩ : ∃ n, L.secs.length = n := ⟨_, rfl⟩
  obtain ⟨n2, e2⟩ : ∃ n, L.els.length = n := ⟨_, rfl⟩
  obtain ⟨n3, e3⟩ : ∃ n, L.joints.length = n := ⟨_, rfl⟩
  obtain ⟨n4, e4⟩ : ∃ n, L.sigs.length = n := ⟨_, rfl⟩
  obtain ⟨n5, e5⟩ : ∃ n, L.bals.length = n := ⟨_, rfl⟩
  rw [e1, e2, e3, e4, e5] at HV
  rw [e1, e2, e4, e5] at hl2
  rw [e1, e2, e3, e4, e5]
  clear e1 e2 e3 e4 e5 m1 m2 m3 m4 m5
  have u0 : decide ((n2 : Int) < 1) = false := by simp; omega
  have u1 : decide (32 < (n2 : Int)) = false := by simp; omega
  have u2 : decide ((n1 : Int) < 1) = false := by simp; omega
  have u3 : decide (24 < (n1 : Int)) = false := by simp; omega
  have u4 : decide (20 < (n4 : Int)) = false := by simp; omega
  have u5 : decide (24 < (n5 : Int)) = false := by simp; omega
  clear hl2
  obtain ⟨nb, en⟩ : ∃ s : ByteArray, (⟨L.name.toArray⟩ : ByteArray) = s := ⟨_, rfl⟩
  have en2 : str L.name = .string nb := by rw [← en]
  rw [en2] at HV ⊢
  replace en2 := Lib.hid en2
  clear en
  obtain ⟨LV, hLV⟩ : ∃ LV : Array Value, LV = #[.string nb, .slice a1 n1 c1, .slice a2 n2 c2, .slice a3 n3 c3, .slice a4 n4 c4, .slice a5 n5 c5] := ⟨_, rfl⟩
  obtain ⟨W1, hW⟩ : ∃ W1, W1 = w.alloc (.cells LV 28) := ⟨_, rfl⟩
  have HB : Below w.heap.size w W1 := by rw [hW]; exact (Below.refl _ _).alloc (Nat.le_refl _) _
  have G1 : Blk W1 w.heap.size LV := by rw [hW]; exact Blk.new _ _ _ _ rfl
  have HS : W1.heap.size = w.heap.size + 1 := by rw [hW]; simp
  go_enter Tryz.func50, Tryz.ntmps50
  go_wp2_with fail
  rw [← hLV, ← hW]
  refine (K _ _ (by rw [hLV]; exact HV.out.below HB)).mono ?_
  rintro e W2 ⟨u0, u1, u2, rfl, R0, R1, R2, bb⟩
  have hb2 : Below w.heap.size w W2 := HB.trans (bb.mono HB.size)
  obtain ⟨x0, y0, e0⟩ := R0.shape
  obtain ⟨x1, y1, e1⟩ := R1.shape
  obtain ⟨x2, y2, e2⟩ := R2.shape
  rw [strsV_length] at e0 e1 e2
  obtain ⟨l0, el0⟩ : ∃ l, L.secs = l := ⟨_, rfl⟩
  obtain ⟨l1, el1⟩ : ∃ l, L.els.map ElD.name = l := ⟨_, rfl⟩
  obtain ⟨l2, el2⟩ : ∃ l, L.sigs.map SigD.name = l := ⟨_, rfl⟩
  have hn0 : l0.length ≤ 60 := by rw [← el0]; have := N.out; omega
  have hn1 : l1.length ≤ 60 := by rw [← el1, List.length_map]; have := N.out; omega
  have hn2 : l2.length ≤ 60 := by rw [← el2, List.length_map]; have := N.out; omega
  have eall : allNames L = ([L.name] ++ l0 ++ l1) ++ l2 := by unfold allNames; rw [el0, el1, el2]
  have edup : dupB L = (decide l0.Nodup && (decide l1.Nodup && decide l2.Nodup)) := by unfold dupB; rw [el0, el1, el2]
  rw [el0] at R0 e0
  rw [el1] at R1 e1
  rw [el2] at R2 e2
  obtain ⟨m0, em0⟩ : ∃ m, l0.length = m := ⟨_, rfl⟩
  obtain ⟨m1, em1⟩ : ∃ m, l1.length = m := ⟨_, rfl⟩
  obtain ⟨m2, em2⟩ : ∃ m, l2.length = m := ⟨_, rfl⟩
  rw [em0] at e0
  rw [em1] at e1
  rw [em2] at e2
  subst e0 e1 e2
  obtain ⟨W3, hW3⟩ : ∃ W3, W3 = W2.alloc (.cells #[.slice x0 m0 y0, .slice x1 m1 y1, .slice x2 m2 y2] 123) := ⟨_, rfl⟩
  have HB3 : Below w.heap.size w W3 := by rw [hW3]; exact alloc_below hb2 (Nat.le_refl _) _
  have HS3 : W3.heap.size = W2.heap.size + 1 := by rw [hW3]; simp
  have GA : Blk W3 W2.heap.size #[.slice x0 m0 y0, .slice x1 m1 y1, .slice x2 m2 y2] := by rw [hW3]; exact Blk.new _ _ _ _ rfl
  have GL : Blk W3 w.heap.size LV := by rw [hW3]; exact (G1.below bb).old _
  have R0' := Lib.hid (show RS W3 _ _ by rw [hW3]; exact R0.alloc _)
  have R1' := Lib.hid (show RS W3 _ _ by rw [hW3]; exact R1.alloc _)
  have R2' := Lib.hid (show RS W3 _ _ by rw [hW3]; exact R2.alloc _)
  have SK : ∀ W, Below W3.heap.size W3 W → (W.cell? ⟨w.heap.size, 0, none⟩ = some (.string nb) ∧ W.cell? ⟨W2.heap.size, 0, none⟩ = some (.slice x0 m0 y0) ∧ W.cell? ⟨W2.heap.size, 1, none⟩ = some (.slice x1 m1 y1) ∧ W.cell? ⟨W2.heap.size, 2, none⟩ = some (.slice x2 m2 y2) ∧ Below W3.heap.size W3 W) := by
    intro W h
    have a := GA.below h
    have b := GL.below h
    exact ⟨b.at 0 _ (by rw [hLV]; rfl), a.at 0 _ rfl, a.at 1 _ rfl, a.at 2 _ rfl, h⟩
  clear R0 R1 R2 bb hb2 K HV G1 HS
  go_wp2_with fail
  rw [← hW3]
  have SD := SK _ (Below.refl _ _).drew
  have SE := fun o => SK _ (alloc_below (Below.refl W3.heap.size W3) (Nat.le_refl _) o).drew
  clear hW3 HS3
  obtain ⟨N6, eN⟩ : ∃ N6, 1 + m0 + m1 + m2 = N6 := ⟨_, rfl⟩
  have hN2 : N6 ≤ 1000 := by omega
  replace eN := Lib.hid eN
  go_region_held3 (fun w' => w'.cell? ⟨w.heap.size, 0, none⟩ = some (.string nb) ∧ w'.cell? ⟨W2.heap.size, 0, none⟩ = some (.slice x0 m0 y0) ∧ w'.cell? ⟨W2.heap.size, 1, none⟩ = some (.slice x1 m1 y1) ∧ w'.cell? ⟨W2.heap.size, 2, none⟩ = some (.slice x2 m2 y2) ∧ Below W3.heap.size W3 w')
    (first | exact SD | exact SE _ | (refine SK _ ?_; assumption) | (go_split_ands; refine SK _ (alloc_below ?_ (Nat.le_refl _) _); assumption))
    (first
      | (refine step_append_rs rfl (.tmp 50) (.tmp 52) 22 rfl W3.heap.size 9 (.string ByteArray.empty) 16 Tryz.underlying22 info_str rfl _ (1 + m0 + m1) ([.string nb] ++ strsV l0 ++ strsV l1) rfl ?k1 _ rfl (strsV l2) ?k2 (strs_one _) ?k3 ?k4 ?k5 ?k6
         case k1 => exact p5
         case k2 => exact R2'.out.below B5
         case k3 => rw [strsV_length]; omega
         case k4 => rw [strsV_length]; omega
         case k5 => exact B5.size
         intro v6 w6 p6 gr6 nb6
         rw [strsV_length, em2, eN.out] at p6
         obtain ⟨a6, c6, rfl⟩ := own_shape p6
         have B6 : Below W3.heap.size W3 w6 := below_grown B5 gr6 p5 (Nat.le_refl _) B5.size)
      | (refine step_append_rs rfl (.tmp 44) (.tmp 46) 22 rfl W3.heap.size 9 (.string ByteArray.empty) 16 Tryz.underlying22 info_str rfl (.slice (some ⟨W3.heap.size, 0, none⟩) 1 1) 1 [.string nb] rfl ?h1 _ rfl (strsV l0) ?h2 (strs_one _) ?h3 ?h4 ?h5 ?h6
         case h1 => exact World.ownsRow_lit (base := W3.heap.size) W3.drew #[.string nb] 1 (by simp) (by unfold maxLen; omega) rfl
         case h2 => exact R0'.out.below (by go_split_ands; assumption)
         case h3 => rw [strsV_length]; omega
         case h4 => rw [strsV_length]; omega
         case h5 => go_split_ands; exact Below.size (by assumption)
         intro v4 w4 p4 gr4 nb4
         rw [strsV_length, em0] at p4
         obtain ⟨a4, c4, rfl⟩ := own_shape p4
         have B4 : Below W3.heap.size W3 w4 := by
           go_split_ands
           refine Below.grown (by assumption) gr4 (Below.size (by assumption)) (fun k hk => ?_)
           simp [Value.ownBlock] at hk; omega)
      | (refine step_append_rs rfl (.tmp 47) (.tmp 49) 22 rfl W3.heap.size 9 (.string ByteArray.empty) 16 Tryz.underlying22 info_str rfl _ (1 + m0) ([.string nb] ++ strsV l0) rfl ?g1 _ rfl (strsV l1) ?g2 (strs_one _) ?g3 ?g4 ?g5 ?g6
         case g1 => exact p4
         case g2 => exact R1'.out.below B4
         case g3 => rw [strsV_length]; omega
         case g4 => rw [strsV_length]; omega
         case g5 => exact B4.size
         intro v5 w5 p5 gr5 nb5
         rw [strsV_length, em1] at p5
         obtain ⟨a5, c5, rfl⟩ := own_shape p5
         have B5 : Below W3.heap.size W3 w5 := below_grown B4 gr5 p4 (Nat.le_refl _) B4.size))
  obtain ⟨al, eal⟩ : ∃ al, allNames L = al := ⟨_, rfl⟩
  have e6 : [Value.string nb] ++ strsV l0 ++ strsV l1 ++ strsV l2 = strsV al := by rw [← eal, eall, ← en2.out]; simp [strsV]
  have hN : al.length = 1 + m0 + m1 + m2 := by rw [← eal, eall]; simp; omega
  rw [e6] at p6
  rw [eal] at hq hs
  rw [eN.out] at hN
  obtain ⟨a7, c7, hv7, _, HC⟩ := (RS.own p6).openS
  rw [hN] at hv7
  injection hv7 with e1 _ e2
  subst e1 e2
  replace hs := Lib.hid hs
  replace hN := Lib.hid hN
  replace edup := Lib.hid edup
  clear p6 p5 p4 e6 eN eall eal gr4 gr5 gr6 nb4 nb5 nb6 B4 B5 SD SE el0 el1 el2
  go_wp2
  go_loopg [55] N6 (fun g s55 wx => ∃ k : Nat, k + g = N6 ∧ s55 = .int .i64 k ∧ Hid ((al.take k).all isName = true) ∧ w6 = wx)
  case atStart => exact ⟨0, by omega, rfl, Lib.hid (by simp), rfl⟩
  case round =>
    obtain ⟨k, hk, rfl, HA, rfl⟩ := hrel
    have hb6 : Below w.heap.size w w6 := HB3.trans (B6.mono HB3.size)
    cases gk with
    | zero =>
      have hz : ¬ ((k : Int) < (N6 : Int)) := by omega
      have ha : al.all isName = true := by have := HA.out; rwa [List.take_of_length_le (by have := hN.out; omega)] at this
      have hq2 := hq.out
      rw [if_neg (by simp [ha]), edup.out] at hq2
      clear HA ha hq
      replace hk := Lib.hid hk
      obtain ⟨_, k0, k1, k2, _⟩ := SK _ B6
      have T0 := rtexts_any _ l0 w6 (R0'.out.below B6)
      have T1 := fun ww (hh : Below W3.heap.size W3 ww) => rtexts_any _ l1 ww (R1'.out.below hh)
      have T2 := fun ww (hh : Below W3.heap.size W3 ww) => rtexts_any _ l2 ww (R2'.out.below hh)
      clear edup
      cases D0 : decide l0.Nodup
      · rw [D0] at hq2 T0
        have hq3 : 8 = q := by simpa using hq2
        subst hq3
        go_wp2_with fail
        refine T0.mono ?_
        rintro e w7 ⟨rfl, b7⟩
        have b7' := B6.trans (b7.mono B6.size)
        replace hb6 := hb6.trans (b7.mono hb6.size)
        obtain ⟨_, k3, k4, k5, _⟩ := SK _ b7'
        clear b7 T0
        go_wp2
        go_ret
        exact ⟨rfl, hb6⟩
      · cases D1 : decide l1.Nodup
        · rw [D0, D1] at hq2
          rw [D0] at T0
          simp only [D1] at T1
          have hq3 : 8 = q := by simpa using hq2
          subst hq3
          go_wp2_with fail
          refine T0.mono ?_
          rintro e w7 ⟨rfl, b7⟩
          have b7' := B6.trans (b7.mono B6.size)
          replace hb6 := hb6.trans (b7.mono hb6.size)
          obtain ⟨_, k3, k4, k5, _⟩ := SK _ b7'
          clear b7 T0
          go_wp2_with fail
          refine (T1 _ b7').mono ?_
          rintro e w8 ⟨rfl, b8⟩
          have b8' := b7'.trans (b8.mono b7'.size)
          replace hb6 := hb6.trans (b8.mono hb6.size)
          obtain ⟨_, k6, k7, k8, _⟩ := SK _ b8'
          clear b8 T1
          go_wp2
          go_ret
          exact ⟨rfl, hb6⟩
        · cases D2 : decide l2.Nodup
          · rw [D0, D1, D2] at hq2
            rw [D0] at T0
            simp only [D1] at T1
            simp only [D2] at T2
            have hq3 : 8 = q := by simpa using hq2
            subst hq3
            go_wp2_with fail
            refine T0.mono ?_
            rintro e w7 ⟨rfl, b7⟩
            have b7' := B6.trans (b7.mono B6.size)
            replace hb6 := hb6.trans (b7.mono hb6.size)
            obtain ⟨_, k3, k4, k5, _⟩ := SK _ b7'
            clear b7 T0
            go_wp2_with fail
            refine (T1 _ b7').mono ?_
            rintro e w8 ⟨rfl, b8⟩
            have b8' := b7'.trans (b8.mono b7'.size)
            replace hb6 := hb6.trans (b8.mono hb6.size)
            obtain ⟨_, k6, k7, k8, _⟩ := SK _ b8'
            clear b8 T1
            go_wp2_with fail
            refine (T2 _ b8').mono ?_
            rintro e w9 ⟨rfl, b9⟩
            replace hb6 := hb6.trans (b9.mono hb6.size)
            clear b9 T2
            go_wp2
            go_ret
            exact ⟨rfl, hb6⟩
          · rw [D0, D1, D2] at hq2
            rw [D0] at T0
            simp only [D1] at T1
            simp only [D2] at T2
            have hq3 : 0 = q := by simpa using hq2
            subst hq3
            go_wp2_with fail
            refine T0.mono ?_
            rintro e w7 ⟨rfl, b7⟩
            have b7' := B6.trans (b7.mono B6.size)
            replace hb6 := hb6.trans (b7.mono hb6.size)
            obtain ⟨_, k3, k4, k5, _⟩ := SK _ b7'
            clear b7 T0
            go_wp2_with fail
            refine (T1 _ b7').mono ?_
            rintro e w8 ⟨rfl, b8⟩
            have b8' := b7'.trans (b8.mono b7'.size)
            replace hb6 := hb6.trans (b8.mono hb6.size)
            obtain ⟨_, k6, k7, k8, _⟩ := SK _ b8'
            clear b8 T1
            go_wp2_with fail
            refine (T2 _ b8').mono ?_
            rintro e w9 ⟨rfl, b9⟩
            replace hb6 := hb6.trans (b9.mono hb6.size)
            clear b9 T2
            go_wp2
            go_ret
            exact ⟨rfl, hb6⟩
    | succ g =>
      have hz : (k : Int) < (N6 : Int) := by omega
      obtain ⟨y, hy, ht, hmem⟩ := at_take (l := al) (k := k) (by have := hN.out; omega)
      obtain ⟨b, off, rfl, hlt, cy⟩ := HC.out.rd (Below.refl _ _) hy
      have K := rname_any y w6 (hs.out y hmem)
      have tn : (al.take (k + 1)).all isName = ((al.take k).all isName && isName y) := by rw [ht]; simp
      replace tn := Lib.hid tn
      obtain ⟨ok, hok⟩ : ∃ ok, isName y = ok := ⟨_, rfl⟩
      rw [hok] at K
      replace hok := Lib.hid hok
      replace hk := Lib.hid hk
      replace hy := Lib.hid hy
      replace hmem := Lib.hid hmem
      replace ht := Lib.hid ht
      cases ok
      · have hq2 : 3 = q := by
          rw [← hq.out, if_pos]
          rw [← Bool.not_eq_true]
          intro h
          rw [List.all_eq_true] at h
          have := h y hmem.out
          rw [hok.out] at this; cases this
        subst hq2
        go_wp2_with (go_at_call 96; refine K.mono ?_; rintro e ww ⟨rfl, rfl⟩)
        go_ret
        exact ⟨rfl, hb6⟩
      · go_wp2_with (go_at_call 96; refine K.mono ?_; rintro e ww ⟨rfl, rfl⟩)
        go_roundg g
        case measure => omega
        case rel => exact ⟨k + 1, by have := hk.out; omega, by go_num, Lib.hid (by rw [tn.out, HA.out, hok.out]; rfl), rfl⟩
end
end Go.Proofs.YteafkginhejllaaGreatDoor
