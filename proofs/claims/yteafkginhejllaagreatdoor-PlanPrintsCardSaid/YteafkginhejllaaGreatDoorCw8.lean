/- The walk of compose. Conditions: the lines can be read; bounds on the lengths; what the program reads (GT). -/
import Derived.Test.YteafkginhejllaaGreatDoorCo8
import Derived.Deep.Cut
namespace Go.Proofs.YteafkginhejllaaGreatDoor
open Go.ChangeShapes Go.WideShapes Go.ChangeAt Go.RowKit
open Go.ChangeMaps
open Go.MapKept Go.Maps
abbrev zF : Value := .agg #[.int .i64 0, .slice none 0 0, .nilFunc]
set_option maxRecDepth 100000 in
set_option maxHeartbeats 16000000 in
theorem compose_any (v : Value) (m : List (List L8)) (w : World) (hv : LL w v m) (hG : GT w) (hm : m.length ≤ 40000) (hw : ∀ ws ∈ m, 0 < ws.length ∧ ws.length ≤ 100000 ∧ ∀ x ∈ ws, x.length ≤ 100000) :
    Calls Tryz.prog 36 #[v] w (RetC w (outC m)) := by
  obtain ⟨a, cap, rfl, hml, HC⟩ := hv.open
  clear hv
  obtain ⟨W0, hW0⟩ : ∃ W0, W0 = (w.alloc (.cells zL 28)).alloc (.cells zL 28) := ⟨_, rfl⟩
  have b0 : Below w.heap.size w W0 := by rw [hW0]; exact ((Below.refl _ _).alloc (Nat.le_refl _) _).alloc (by simp) _
  have GR : Blk W0 w.heap.size zL := by rw [hW0]; exact (Blk.new _ _ _ _ rfl).old _
  have GB : Blk W0 (w.heap.size + 1) zL := by rw [hW0]; exact Blk.new _ _ _ _ (by simp)
  have z0 : W0.heap.size = w.heap.size + 2 := by rw [hW0]; simp
  have KF := forms_any W0
  have hz : ∀ ww : World, (zeroValue 115).run Tryz.prog ww = .ok zF ww := fun ww => by kernel_rfl
  replace GR := Lib.hid GR
  replace GB := Lib.hid GB
  replace b0 := Lib.hid b0
  replace z0 := Lib.hid z0
  replace hw := Lib.hid hw
  obtain ⟨Q, hQ⟩ : ∃ Q, outC m = Q := ⟨_, rfl⟩
  rw [hQ]
  have H0 := Lib.hid (show outQ (runS start (m.drop 0)) = Q from hQ)
  clear hQ
  go_enter Tryz.func36, Tryz.ntmps36
  go_wp2_with fail
  rw [← hW0]
  clear hW0
  refine KF.mono ?_
  rintro e wF ⟨bm, M, rfl, hM, hbm, bF⟩
  clear KF
  have hsF := bF.size
  have e0 := z0.out
  obtain ⟨base, hbase⟩ : ∃ n, wF.heap.size = n := ⟨_, rfl⟩
  obtain ⟨B, hB⟩ : ∃ n, w.heap.size + 1 = n := ⟨_, rfl⟩
  have hBb : B < base := by omega
  have hbB : bm ≠ B := by omega
  have hbb : bm < base := by have := hM.1.lt; omega
  have GRF : Blk wF w.heap.size zL := GR.out.below bF
  have L0 : LayB wF B base zeroL := by
    refine ⟨noS, noS, noS, noS, noS, ?_, hBb, by omega, World.ownsRow_nil _ _ _ _, World.ownsRow_nil _ _ _ _, World.ownsRow_nil _ _ _ _, World.ownsRow_nil _ _ _ _, World.ownsRow_nil _ _ _ _⟩
    rw [← hB]; exact GB.out.below bF
  have bwF : Below w.heap.size w wF := b0.out.trans (bF.mono (by omega))
  have hlo : B < W0.heap.size + 1 := by omega
  obtain ⟨lo, hlo2⟩ : ∃ n, W0.heap.size + 1 = n := ⟨_, rfl⟩
  rw [hlo2] at hM hlo
  have hRB : w.heap.size ≠ B := by omega
  have hRb : w.heap.size < base := by omega
  have hwB : w.heap.size ≤ B := by omega
  -- what is known behind any number of rounds
  have HK : ∀ W, Kept B base wF W → Below w.heap.size w W ∧ Blk W w.heap.size zL ∧ OwnB sV vV W bm M ∧ (∀ s, Good W lo s (lookM s M)) := by
    intro W hk
    refine ⟨bwF.trans (hk.below hwB (by omega)), ?_, hM.1.same (hk.block bm hbb hbB), fun s => ((hM.2.2 s).2 (by simp)).grown (hk.grown (by omega)) (Or.inl hlo)⟩
    obtain ⟨t, ht⟩ := GRF
    exact ⟨t, by rw [hk.block _ hRb hRB]; exact ht⟩
  have hMn := hM.2.1
  rw [hB]
  replace HK := Lib.hid HK
  replace L0 := Lib.hid L0
  replace hMn := Lib.hid hMn
  replace hbase := Lib.hid hbase
  replace hB := Lib.hid hB
  replace hlo2 := Lib.hid hlo2
  clear GR GB GRF b0 bF hM e0 hbm hsF bwF z0
  go_wp2
  go_loopg [7, 18] m.length (fun g s7 s18 wx => ∃ (k : Nat) (st : StD), s18 = .int .i64 k ∧ k + g = m.length ∧ s7 = .int .i64 st.last ∧ Hid (st.i = k ∧ 0 ≤ st.last ∧ LenB st.lay k) ∧ Hid (outQ (runS st (m.drop k)) = Q) ∧ Hid (LayB wx B base st.lay) ∧ Hid (Kept B base wF wx))
  case atStart => exact ⟨0, start, rfl, by omega, rfl, Lib.hid ⟨rfl, by decide, by unfold LenB; simp [start, zeroL]⟩, H0, L0, Lib.hid (Kept.refl _ _ _)⟩
  case round =>
    obtain ⟨k, st, rfl, hg, rfl, hI, HN, HL, HKk⟩ := hrel
    clear H0 L0
    obtain ⟨hbw, hRR, hMM, hGG⟩ := HK.out _ HKk.out
    cases gk with
    | zero =>
      have h : ¬ ((k : Int) < (m.length : Int)) := by omega
      have E : Q = (st.lay, 0, 0) := by have := HN.out; rw [show m.drop k = [] from List.drop_eq_nil_of_le (by omega)] at this; exact this.symm
      subst E
      obtain ⟨v1, v2, v3, v4, v5, hP⟩ := HL.out
      have hP2 := hP
      obtain ⟨_, _, _, o1, o2, o3, o4, o5⟩ := hP2
      obtain ⟨_, _, rfl⟩ := own_shape o1
      obtain ⟨_, _, rfl⟩ := own_shape o2
      obtain ⟨_, _, rfl⟩ := own_shape o3
      obtain ⟨_, _, rfl⟩ := own_shape o4
      obtain ⟨_, _, rfl⟩ := own_shape o5
      clear o1 o2 o3 o4 o5
      have hPB := hP.1
      have y0 : wr.cell? ⟨B, 0, none⟩ = some (str st.lay.name) := hPB.at 0 _ rfl
      have y1 := hPB.at 1 _ rfl
      have y2 := hPB.at 2 _ rfl
      have y3 := hPB.at 3 _ rfl
      have y4 := hPB.at 4 _ rfl
      have y5 := hPB.at 5 _ rfl
      have c0 := hRR.at 0 _ rfl
      have c1 := hRR.at 1 _ rfl
      have c2 := hRR.at 2 _ rfl
      have c3 := hRR.at 3 _ rfl
      have c4 := hRR.at 4 _ rfl
      have c5 := hRR.at 5 _ rfl
      have f0 := hRR.free 0
      have f1 := hRR.free 1
      have f2 := hRR.free 2
      have f3 := hRR.free 3
      have f4 := hRR.free 4
      have f5 := hRR.free 5
      replace hRR := Lib.hid hRR
      replace hP := Lib.hid hP
      clear HN HL hPB hMM hGG
      go_wp2
      refine ret_cell3 rfl Tryz.underlying28 rfl (cs := #[_, _, _, _, _, _]) (by kernel_rfl) rfl ((((((hRR.out.set 0 _).set 1 _).set 2 _).set 3 _).set 4 _).set 5 _) rfl ⟨_, rfl, ?_, ?_⟩
      · exact ((((((hP.out.setR hRb hRB 0 _).setR hRb hRB 1 _).setR hRb hRB 2 _).setR hRb hRB 3 _).setR hRb hRB 4 _).setR hRb hRB 5 _).layO (by omega)
      · exact below_set (B := w.heap.size) (below_set (B := w.heap.size) (below_set (B := w.heap.size) (below_set (B := w.heap.size) (below_set (B := w.heap.size) (below_set (B := w.heap.size) hbw (Nat.le_refl _) _ _) (Nat.le_refl _) _ _) (Nat.le_refl _) _ _) (Nat.le_refl _) _ _) (Nat.le_refl _) _ _) (Nat.le_refl _) _ _
    | succ g =>
      have h : ((k : Int) < (m.length : Int)) := by omega
      obtain ⟨ws, hy, _, hmem⟩ := at_take (l := m) (k := k) (by omega)
      obtain ⟨bl, off, xv, rfl, hlt, hcell, hrow⟩ := HC.out.rd hbw hy
      obtain ⟨hwl, hwl2, hwx⟩ := hw.out ws hmem
      have D := drop_get hy
      clear hy hmem
      obtain ⟨kw, rest, rfl⟩ : ∃ kw rest, ws = kw :: rest := by
        cases ws with
        | nil => simp at hwl
        | cons a b => exact ⟨a, b, rfl⟩
      have HRow := Lib.hid hrow
      obtain ⟨av, cv, rfl, hmv, HS⟩ := hrow.openS
      obtain ⟨b2, o2, rfl, hlt2, hc0⟩ := HS.out.rd (Below.refl _ _) (show (kw :: rest)[0]? = some kw from rfl)
      simp only [Nat.add_zero] at hc0
      have HN2 := HN.out
      rw [D] at HN2
      simp only [runS] at HN2
      obtain ⟨hik, hlast, hLen⟩ := hI.out
      have hl := hMM.own.look (P := Tryz.prog) key_str hMn.out Tryz.underlying110 (hz wr) kw true
      simp only [if_true, sV] at hl
      have hgd := hGG kw
      unfold Good at hgd
      obtain ⟨nl, hnl⟩ : ∃ n, (kw :: rest).length = n := ⟨_, rfl⟩
      rw [hnl] at HRow hcell hwl hwl2 hmv
      have hn0 : (0 : Int) < (nl : Int) := by omega
      have hRlt := hRR.lt
      replace hnl := Lib.hid hnl
      replace hwx := Lib.hid hwx
      clear hGG HN HS D hrow hwl
      cases hf : formK kw with
      | none =>
        rw [hf] at hgd
        simp only at hgd
        rw [hgd] at hl
        simp only [Option.map_none, Option.getD_none, Option.isSome_none] at hl
        rw [step_none hf hlast] at HN2
        have E : Q = (zeroL, (k : Int) + 1, 4) := by rw [← HN2, hik]; rfl
        subst E
        obtain ⟨WA, hWA⟩ : ∃ W, W = wr.alloc (.cells #[.int .i64 0, .slice none 0 0, .nilFunc] 115) := ⟨_, rfl⟩
        have hRA : Blk WA w.heap.size zL := by rw [hWA]; exact hRR.old _
        have c0 := hRA.at 0 _ rfl
        have c1 := hRA.at 1 _ rfl
        have c2 := hRA.at 2 _ rfl
        have c3 := hRA.at 3 _ rfl
        have c4 := hRA.at 4 _ rfl
        have c5 := hRA.at 5 _ rfl
        have f0 := hRA.free 0
        have f1 := hRA.free 1
        have f2 := hRA.free 2
        have f3 := hRA.free 3
        have f4 := hRA.free 4
        have f5 := hRA.free 5
        have hbA : Below w.heap.size w WA := by rw [hWA]; exact hbw.alloc hbw.size _
        replace hRA := Lib.hid hRA
        clear hgd hf hRR hMM HL hik HN2
        go_upto_region 9 with fail
        rw [← hWA]
        clear hWA
        go_wp2
        refine ret_cell3 rfl Tryz.underlying28 rfl (cs := #[_, _, _, _, _, _]) (by kernel_rfl) rfl ((((((hRA.out.set 0 _).set 1 _).set 2 _).set 3 _).set 4 _).set 5 _) rfl ⟨_, rfl, ?_, ?_⟩
        · exact layO_zero _ _
        · exact below_set (B := w.heap.size) (below_set (B := w.heap.size) (below_set (B := w.heap.size) (below_set (B := w.heap.size) (below_set (B := w.heap.size) (below_set (B := w.heap.size) hbA (Nat.le_refl _) _ _) (Nat.le_refl _) _ _) (Nat.le_refl _) _ _) (Nat.le_refl _) _ _) (Nat.le_refl _) _ _) (Nat.le_refl _) _ _
      | some q =>
        rw [hf] at hgd
        simp only at hgd
        obtain ⟨fvv, hfv, n, fcap, cs, lb, rfl, hlon, hBk, hcs, hcap, hok⟩ := hgd
        rw [hfv] at hl
        simp only [Option.map_some, Option.getD_some, Option.isSome_some] at hl
        obtain ⟨p, fs, f, ok⟩ := q
        simp only at hl hcs hcap hok HRow ⊢
        obtain ⟨WA, hWA⟩ : ∃ W, W = wr.alloc (.cells #[.int .i64 p, .slice (some ⟨n, 0, none⟩) fs.length fcap, .func (.func f) #[] lb] 115) := ⟨_, rfl⟩
        have hA : Below wr.heap.size wr WA := by rw [hWA]; exact (Below.refl _ _).alloc (Nat.le_refl _) _
        have hbA : Below w.heap.size w WA := hbw.trans (hA.mono hbw.size)
        have hNA : WA.heap[wr.heap.size]? = some (.cells #[.int .i64 p, .slice (some ⟨n, 0, none⟩) fs.length fcap, .func (.func f) #[] lb] 115 (0, 0)) := by rw [hWA]; exact heap_alloc_new _ _
        have hRA := hRR.below hA
        have KI := fun W => inPlace_any p (k : Int) st.last W
        have n0 : WA.cell? ⟨wr.heap.size, 0, none⟩ = some (.int .i64 p) := by rw [cell_of_row WA _ 0 _ _ (0, 0) hNA]; rfl
        have n1 : WA.cell? ⟨wr.heap.size, 1, none⟩ = some (.slice (some ⟨n, 0, none⟩) fs.length fcap) := by rw [cell_of_row WA _ 1 _ _ (0, 0) hNA]; rfl
        have n2 : WA.cell? ⟨wr.heap.size, 2, none⟩ = some (.func (.func f) #[] lb) := by rw [cell_of_row WA _ 2 _ _ (0, 0) hNA]; rfl
        cases hp : inPl p (k : Int) st.last with
        | false =>
          rw [step_place hf (by rw [hik]; exact hp)] at HN2
          have E : Q = (zeroL, (k : Int) + 1, 4) := by rw [← HN2, hik]; rfl
          subst E
          simp only [hp] at KI
          have c0 := hRA.at 0 _ rfl
          have c1 := hRA.at 1 _ rfl
          have c2 := hRA.at 2 _ rfl
          have c3 := hRA.at 3 _ rfl
          have c4 := hRA.at 4 _ rfl
          have c5 := hRA.at 5 _ rfl
          have f0 := hRA.free 0
          have f1 := hRA.free 1
          have f2 := hRA.free 2
          have f3 := hRA.free 3
          have f4 := hRA.free 4
          have f5 := hRA.free 5
          replace hRA := Lib.hid hRA
          clear hf hRR hMM HL hik HN2 hNA hok hBk hcs hp
          go_upto_region 8 with fail
          rw [← hWA]
          clear hWA
          go_wp2_with (go_at_call 86; refine (KI _).mono ?_; rintro e w2 ⟨rfl, rfl⟩)
          refine ret_cell3 rfl Tryz.underlying28 rfl (cs := #[_, _, _, _, _, _]) (by kernel_rfl) rfl ((((((hRA.out.set 0 _).set 1 _).set 2 _).set 3 _).set 4 _).set 5 _) rfl ⟨_, rfl, ?_, ?_⟩
          · exact layO_zero _ _
          · exact below_set (B := w.heap.size) (below_set (B := w.heap.size) (below_set (B := w.heap.size) (below_set (B := w.heap.size) (below_set (B := w.heap.size) (below_set (B := w.heap.size) hbA (Nat.le_refl _) _ _) (Nat.le_refl _) _ _) (Nat.le_refl _) _ _) (Nat.le_refl _) _ _) (Nat.le_refl _) _ _) (Nat.le_refl _) _ _
        | true =>
          simp only [hp] at KI
          obtain ⟨hff, hfl, eg⟩ := form_fields hf
          have hre := read_err st.lay rest hf
          simp only at hff hfl eg hre
          have hLA := HL.out.below hA
          obtain ⟨v1, v2, v3, v4, v5, hP⟩ := hLA
          have hP2 := hP
          obtain ⟨hPB, _, _, o1, o2', o3, o4, o5⟩ := hP2
          obtain ⟨p1, r1, rfl⟩ := own_shape o1
          obtain ⟨p2, r2, rfl⟩ := own_shape o2'
          obtain ⟨p3, r3, rfl⟩ := own_shape o3
          obtain ⟨p4, r4, rfl⟩ := own_shape o4
          obtain ⟨p5, r5, rfl⟩ := own_shape o5
          clear o1 o2' o3 o4 o5
          have hRL := hP.rlay
          obtain ⟨ut, hut, hRT⟩ := tail_S HRow.out
          have hRT2 := hRT.below hA
          have hBk2 := hBk.below hA
          obtain ⟨au, nu, cu, rfl⟩ : ∃ a n c, ut = .slice a n c := by obtain ⟨a', c', e⟩ := hRT.shape; exact ⟨_, _, _, e⟩
          obtain ⟨rs, hrs⟩ : ∃ r, readS st.lay fs rest = r := ⟨_, rfl⟩
          have KR := fun W (hW : Below WA.heap.size WA W) => read_any p n fcap fs (.func (.func f) #[] lb) _ _ st.lay rest W (fun j x hx => (hBk2.below hW).at j _ (hcs j x hx)) ((hBk2.below hW).lt) hff hfl hcap (hRL.below hW) (hG.below (hbA.trans (hW.mono hbA.size))) (hRT2.below hW) (fun x hx => hwx.out x (by simp [hx]))
          rw [hrs] at KR hre
          have SJ : ∀ W, Below WA.heap.size WA W → (W.cell? ⟨wr.heap.size, 0, none⟩ = some (.int .i64 p) ∧ W.cell? ⟨wr.heap.size, 1, none⟩ = some (.slice (some ⟨n, 0, none⟩) fs.length fcap) ∧ W.cell? ⟨wr.heap.size, 2, none⟩ = some (.func (.func f) #[] lb) ∧
              W.cell? ⟨B, 0, none⟩ = some (str st.lay.name) ∧ W.cell? ⟨B, 1, none⟩ = some (.slice p1 st.lay.secs.length r1) ∧ W.cell? ⟨B, 2, none⟩ = some (.slice p2 st.lay.els.length r2) ∧ W.cell? ⟨B, 3, none⟩ = some (.slice p3 st.lay.joints.length r3) ∧
              W.cell? ⟨B, 4, none⟩ = some (.slice p4 st.lay.sigs.length r4) ∧ W.cell? ⟨B, 5, none⟩ = some (.slice p5 st.lay.bals.length r5)) := fun W hW =>
            ⟨cell_kept hW n0, cell_kept hW n1, cell_kept hW n2, (hPB.below hW).at 0 _ rfl, (hPB.below hW).at 1 _ rfl, (hPB.below hW).at 2 _ rfl, (hPB.below hW).at 3 _ rfl, (hPB.below hW).at 4 _ rfl, (hPB.below hW).at 5 _ rfl⟩
          have SD := SJ _ (Below.refl WA.heap.size WA).drew
          have BD : Below WA.heap.size WA WA.drew := (Below.refl _ _).drew
          go_upto_region 8 with fail
          rw [← hWA]
          clear hWA
          go_wp2_with (go_at_call 86; refine (KI _).mono ?_; rintro e w2 ⟨rfl, rfl⟩)
          have hLB : LayB WA B base st.lay := ⟨_, _, _, _, _, hP⟩
          replace hLB := Lib.hid hLB
          replace hRA := Lib.hid hRA
          replace hre := Lib.hid hre
          replace HN2 := Lib.hid HN2
          replace hok := Lib.hid hok
          replace hNA := Lib.hid hNA
          have hsA := hA.size
          clear hRR hMM HL hP hPB hRL hRT hRT2 hBk hBk2 hcs HRow hl KI n0 n1 n2 hcell hc0
          go_region_held3 (fun W => W.cell? ⟨wr.heap.size, 0, none⟩ = some (.int .i64 p) ∧ W.cell? ⟨wr.heap.size, 1, none⟩ = some (.slice (some ⟨n, 0, none⟩) fs.length fcap) ∧ W.cell? ⟨wr.heap.size, 2, none⟩ = some (.func (.func f) #[] lb) ∧
              W.cell? ⟨B, 0, none⟩ = some (str st.lay.name) ∧ W.cell? ⟨B, 1, none⟩ = some (.slice p1 st.lay.secs.length r1) ∧ W.cell? ⟨B, 2, none⟩ = some (.slice p2 st.lay.els.length r2) ∧ W.cell? ⟨B, 3, none⟩ = some (.slice p3 st.lay.joints.length r3) ∧
              W.cell? ⟨B, 4, none⟩ = some (.slice p4 st.lay.sigs.length r4) ∧ W.cell? ⟨B, 5, none⟩ = some (.slice p5 st.lay.bals.length r5))
            (first | exact SD | exact SJ _ B2)
            (first | (go_at_call 87; refine (KR _ BD).mono ?_; rintro e w2 ⟨u2, rfl, ou, bb2⟩; have B2 : Below WA.heap.size WA w2 := BD.trans bb2; obtain ⟨au2, cu2, rfl⟩ := own_slice ou))
          have SJ2 := SJ _ B2
          clear SD SJ KR
          cases he : (rs.2.2 != 0) with
          | true =>
            have he2 : rs.2.2 ≠ 0 := by simpa using he
            have he3 : (rs.2.2 == 0) = false := by simpa using he2
            have E : Q = (zeroL, (k : Int) + 1, rs.2.2) := by
              have H := HN2.out
              rw [step_bad hf (by rw [hik]; exact hp) (by rw [← hre.out]; exact he2)] at H
              rw [← H, hik, hre.out]; rfl
            subst E
            have hRA2 : Blk w2 w.heap.size zL := hRA.out.below B2
            have hb2 : Below w.heap.size w w2 := hbA.trans (B2.mono hbA.size)
            clear hRA B2 bb2 BD
            have c0 := hRA2.at 0 _ rfl
            have c1 := hRA2.at 1 _ rfl
            have c2 := hRA2.at 2 _ rfl
            have c3 := hRA2.at 3 _ rfl
            have c4 := hRA2.at 4 _ rfl
            have c5 := hRA2.at 5 _ rfl
            have f0 := hRA2.free 0
            have f1 := hRA2.free 1
            have f2 := hRA2.free 2
            have f3 := hRA2.free 3
            have f4 := hRA2.free 4
            have f5 := hRA2.free 5
            replace hRA2 := Lib.hid hRA2
            clear HN2 hre
            go_wp2
            refine ret_cell3 rfl Tryz.underlying28 rfl (cs := #[_, _, _, _, _, _]) (by kernel_rfl) rfl ((((((hRA2.out.set 0 _).set 1 _).set 2 _).set 3 _).set 4 _).set 5 _) rfl ⟨_, rfl, ?_, ?_⟩
            · exact layO_zero _ _
            · exact below_set (B := w.heap.size) (below_set (B := w.heap.size) (below_set (B := w.heap.size) (below_set (B := w.heap.size) (below_set (B := w.heap.size) (below_set (B := w.heap.size) hb2 (Nat.le_refl _) _ _) (Nat.le_refl _) _ _) (Nat.le_refl _) _ _) (Nat.le_refl _) _ _) (Nat.le_refl _) _ _) (Nat.le_refl _) _ _
          | false =>
            have he2 : rs.2.2 = 0 := by simpa using he
            have he3 : (rs.2.2 == 0) = true := by simpa using he2
            have hB0 : B < WA.heap.size := by
              have := HKk.out.size
              have := hbase.out
              omega
            have hLB2 : LayB w2 B base st.lay := hLB.out.below B2
            have hlb : LbOK w2 lb ok := by
              have := hok.out
              revert this
              cases ok with
              | none => exact fun h => h
              | some kk => exact fun ⟨mm, e1, _, hm1⟩ => ⟨mm, e1, (hm1.below hA).below B2⟩
            have hS8 : Small8 st.lay := by
              obtain ⟨l1, l2, l3, l4, l5⟩ := hLen
              exact ⟨by omega, by omega, by omega, by omega, by omega⟩
            have hle : (lineS st.lay (kw :: rest)).1 = 0 := by rw [← hre.out]; exact he2
            have bdr : B < WA.drew.heap.size := by simpa using hB0
            subst hrs
            have KP := put_any st.lay rest hf hle B base w2 lb _ hlb hLB2 hS8 _ bdr ou
            obtain ⟨_, _, m2, _, _, _, _, _, _⟩ := SJ2
            have hN3 : ∀ w3, Kept B base w2 w3 → w3.cell? ⟨wr.heap.size, 0, none⟩ = some (.int .i64 p) := by
              intro w3 hk
              have h2 := (B2.block wr.heap.size (by have := (Array.getElem?_eq_some_iff.1 hNA.out).1; exact this)).trans hNA.out
              have h3 := hk.typed _ _ _ _ h2 (by have := HKk.out.size; have := hbase.out; omega) rfl
              rw [cell_of_row w3 _ 0 _ _ (0, 0) h3]; rfl
            have hKA : Kept B base wr w2 := Kept.of_below (hA.trans (B2.mono hA.size)) (by have := HKk.out.size; have := hbase.out; omega)
            have HN3 : outQ (runS ⟨k + 1, p, (lineS st.lay (kw :: rest)).2⟩ (m.drop (k + 1))) = Q := by
              have H := HN2.out
              rw [step_good hf (by rw [hik]; exact hp) hle] at H
              rw [hik] at H
              exact H
            have hLen3 := line_len hLen (kw :: rest)
            have hrk := rank_ge hf
            simp only at hrk
            replace HN3 := Lib.hid HN3
            replace hKA := Lib.hid hKA
            replace hLen3 := Lib.hid hLen3
            clear HN2 hre hRA hok hNA hlb hLB2 hLB hS8 hle
            go_wp2_with (refine KP.mono ?_; rintro e w3 ⟨rfl, hL3, hK3⟩; have m3 := hN3 _ hK3)
            go_roundg g
            case measure => exact Nat.lt_succ_self g
            case rel => exact ⟨k + 1, ⟨k + 1, p, (lineS st.lay (kw :: rest)).2⟩, rfl, by omega, rfl, Lib.hid ⟨rfl, hrk, hLen3.out⟩, HN3, Lib.hid hL3, Lib.hid (HKk.out.trans (hKA.out.trans hK3))⟩
end Go.Proofs.YteafkginhejllaaGreatDoor
