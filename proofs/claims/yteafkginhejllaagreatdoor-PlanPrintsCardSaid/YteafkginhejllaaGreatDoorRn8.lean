/- Contracts of the reference's name, line and element. Conditions: the layout can be read; the element is one of a valid layout; bounds on lengths. -/
import Derived.Test.YteafkginhejllaaGreatDoorEl8
import Derived.Test.YteafkginhejllaaGreatDoorC8
namespace Go.Proofs.YteafkginhejllaaGreatDoor
open Go.ChangeShapes Go.WideShapes Go.ChangeAt Go.RowKit
set_option maxRecDepth 100000 in
set_option maxHeartbeats 4000000 in
theorem r8name_any (v : Value) (L : LayD) (e : Int) (w : World) (hv : RLay w v L) (he : OkIx L.els e) :
    Calls Tryz.prog 21 #[v, .int .i64 e] w (RetV w (str (nameAt L.els e))) := by
  obtain ⟨k, y, rfl, hy⟩ := ix_at he
  rw [nameAt_at hy]
  obtain ⟨v1, v2, v3, v4, v5, rfl, h1, h2, h3, h4, h5⟩ := hv
  obtain ⟨a2, c2, rfl, ⟨m2, _⟩, HE⟩ := h2.openM
  obtain ⟨nm, en⟩ : ∃ s, str L.name = s := ⟨_, rfl⟩
  rw [en]
  obtain ⟨els, ee⟩ : ∃ n, L.els = n := ⟨_, rfl⟩
  rw [ee] at m2 HE hy ⊢
  clear h1 h2 h3 h4 h5 en ee he
  have hkl : k < els.length := (List.getElem?_eq_some_iff.1 hy).1
  have hki : (k : Int) < (els.length : Int) := by omega
  have HB : Below w.heap.size w (w.alloc (.cells #[nm, v1, .slice a2 els.length c2, v3, v4, v5] 28)) := (Below.refl _ _).alloc (Nat.le_refl _) _
  obtain ⟨b, off, rfl, hlt, hc⟩ := HE.out.rd HB hy
  have hc0 := hc 0 _ rfl
  simp only [Nat.add_zero] at hc0
  clear HE hc hy
  go_enter Tryz.func21, Tryz.ntmps21
  go_wp2
  go_ret
  exact ⟨rfl, HB⟩
set_option maxRecDepth 100000 in
set_option maxHeartbeats 4000000 in
theorem r8line_any (v u : Value) (ws : List L8) (ns : List Int) (w : World) (hr : RS w v (strsV ws)) (hu : RS w u (intsV ns)) (h1 : ws.length ≤ 100) (h2 : ns.length ≤ 100) (hb : Ints8 ns) :
    Calls Tryz.prog 23 #[v, u] w (RetS w (ws ++ itoas8 ns)) := by
  have B1 : Below w.heap.size w (w.alloc (.cells #[] 9)) := (Below.refl _ _).alloc (Nat.le_refl _) _
  have OE := World.ownsRow_lit (base := w.heap.size) (size := 1) (e := 9) w #[] 0 (Nat.le_refl _) (by unfold maxLen; omega) rfl
  have R1 := hr.below B1
  obtain ⟨a0, c0, rfl, _⟩ := hr.openS
  have hs1 := B1.size
  have hwl : (strsV ws).length ≤ 100 := by rw [strsV_length]; exact h1
  obtain ⟨a, cap, rfl, hm, HC⟩ := hu.open
  clear hr hu
  replace hb := Lib.hid hb
  obtain ⟨q, hq⟩ : ∃ q, itoas8 ns = q := ⟨_, rfl⟩
  rw [hq]
  replace hq := Lib.hid hq
  go_enter Tryz.func23, Tryz.ntmps23
  go_wp2_with (at_builtin
               refine wpList_append_rs _ rfl _ _ 22 rfl w.heap.size 9 (.string ByteArray.empty) 16 Tryz.underlying22 info_str rfl _ 0 _ rfl OE _ rfl (strsV ws) R1 (strs_one _) (by omega) (by omega) hs1 ?_
               intro v2 w2 p2 gr2 nb2
               have B2 := below_grown B1 gr2 OE (Nat.le_refl _) hs1
               clear gr2 nb2 OE R1 B1 hs1)
  have P2 : w2.ownsRow w.heap.size 9 1 v2 (ws ++ itoas8 (ns.take 0)).length (strsV (ws ++ itoas8 (ns.take 0))) := by
    have e : ws ++ itoas8 (ns.take 0) = ws := by simp [itoas8]
    rw [e]
    have p := p2
    rw [Nat.zero_add, strsV_length] at p
    exact p
  clear p2 hwl
  replace P2 := Lib.hid P2
  go_loopg [5, 6] ns.length (fun g s5 s6 wx => ∃ (k : Nat), s6 = .int .i64 k ∧ k + g = ns.length ∧ Hid (wx.ownsRow w.heap.size 9 1 s5 (ws ++ itoas8 (ns.take k)).length (strsV (ws ++ itoas8 (ns.take k)))) ∧ Below w.heap.size w wx)
  case atStart => exact ⟨0, rfl, by omega, P2, B2⟩
  case round =>
    clear P2 B2
    obtain ⟨k, rfl, hg, ho, hbw⟩ := hrel
    have hsz := hbw.size
    cases gk with
    | zero =>
      have h : ¬ ((k : Int) < (ns.length : Int)) := by omega
      have E : itoas8 (ns.take k) = q := by rw [List.take_of_length_le (by omega), hq.out]
      rw [E] at ho
      have ho1 := ho.out
      obtain ⟨a3, c3, rfl⟩ := own_slice ho1
      obtain ⟨nl, hnl⟩ : ∃ n, (ws ++ q).length = n := ⟨_, rfl⟩
      rw [hnl] at ho
      clear ho1 E
      have T := Lib.hid (show RetS w (ws ++ q) (.returned (.slice a3 nl c3)) wr from ⟨_, rfl, by rw [hnl]; exact ho.out, hbw⟩)
      rw [hnl]
      clear ho hnl
      go_wp2
      go_ret
      exact T.out
    | succ g =>
      have h : ((k : Int) < (ns.length : Int)) := by omega
      obtain ⟨n, hn, _, hmem⟩ := at_take (l := ns) (k := k) (by omega)
      obtain ⟨b, off, rfl, hlt, hcell⟩ := HC.out.rd hbw hn
      have K := fun W => rformat_any n W (hb.out n hmem)
      have N := Lib.hid (show (ws ++ itoas8 (ns.take k)) ++ [Lib.itoa n] = ws ++ itoas8 (ns.take (k + 1)) by rw [itoas8_take hn, List.append_assoc])
      obtain ⟨x, hx⟩ : ∃ x, Lib.itoa n = x := ⟨_, rfl⟩
      rw [hx] at K N
      have hfl : (ws ++ itoas8 (ns.take k)).length ≤ 300 := by simp [itoas8]; omega
      obtain ⟨fs, hfs⟩ : ∃ fs, ws ++ itoas8 (ns.take k) = fs := ⟨_, rfl⟩
      rw [hfs] at N hfl ho
      have ho1 := ho.out
      replace hx := Lib.hid hx
      replace hn := Lib.hid hn
      replace hfs := Lib.hid hfs
      clear ho
      go_wp2_with (first
        | (go_at_call 22; refine (K _).mono ?_; rintro e w2 ⟨rfl, rfl⟩)
        | (at_builtin
           refine wpList_push _ rfl _ _ 22 rfl w.heap.size 9 (.string ByteArray.empty) 1 16 Tryz.underlying22 info_str rfl (by omega) _ fs.length _ rfl ho1 [str x] rfl rfl (one_str x) (by omega) (by omega) hsz ?_
           intro v3 w3 p3 gr3 nb3
           have hbw3 := below_grown hbw gr3 ho1 (Nat.le_refl _) hsz
           replace p3 := Lib.hid p3
           clear nb3 gr3))
      go_roundg g
      case measure => omega
      case rel => exact ⟨k + 1, by go_num, by omega, Lib.hid (by rw [← N.out, strsV_snoc, List.length_append]; exact p3.out), hbw3⟩
end Go.Proofs.YteafkginhejllaaGreatDoor
