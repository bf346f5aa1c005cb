/- Texts of the layers 5 to 7, merged. -/
import Derived.Laws.EntriesVeiled
import Derived.Test.YteafkginhejllaaGreatDoorP8
import Derived.Test.YteafkginhejllaaGreatDoorN8
namespace Go.Proofs.YteafkginhejllaaGreatDoor
section
open Go.ChangeShapes Go.WideShapes Go.ChangeAt Go.RowKit
def condL (L : LayD) : List (Int × Bool) := [(2, limB L), (3, namB isName L), (8, dupB L), (1, elB L), (1, secB L), (1, jnB L), (8, jdB L), (1, sgB L), (8, sdB L), (14, L.sigs.all fun x => unsP L x.at_), (1, blB L), (8, bdB L)]
def firstE : List (Int × Bool) → Int
  | [] => 0
  | (e, b) :: r => if b = false then e else firstE r
theorem uns_eq {L : LayD} (hj : jnB L = true) (hs : sgB L = true) : (L.sigs.all fun x => unsP L x.at_) = suB L := by
  unfold suB
  have sec : ∀ e, exS L.els e = true → sectionS L e.1 = elAt L.els e.1 ElD.sec := by
    intro e h
    simp only [exS, Bool.and_eq_true, decide_eq_true_eq] at h
    unfold sectionS
    rw [if_neg (by omega)]
  have key : ∀ x ∈ L.sigs, unsP L x.at_ = unsB L.els L.joints x.at_ := by
    intro x hx
    unfold sgB at hs
    rw [List.all_eq_true] at hs
    have h1 := hs x hx
    rw [Bool.and_eq_true] at h1
    unfold unsP unsB
    cases hf : joinF x.at_ L.joints with
    | none => rfl
    | some f =>
      have hm := (join_mem hf).2
      unfold endsJ at hm
      obtain ⟨j, hjm, he⟩ := List.mem_flatMap.1 hm
      unfold jnB at hj
      rw [List.all_eq_true] at hj
      have h2 := hj j hjm
      simp only [Bool.and_eq_true] at h2
      simp only [List.mem_cons, List.mem_nil_iff, or_false] at he
      have h3 : exS L.els f = true := by
        rcases he with rfl | rfl
        · exact h2.1
        · exact h2.2.1
      simp only
      rw [sec f h3, sec _ h1.1]
  rw [Bool.eq_iff_iff, List.all_eq_true, List.all_eq_true]
  exact ⟨fun h x hx => (key x hx) ▸ h x hx, fun h x hx => (key x hx).symm ▸ h x hx⟩
theorem first_eq (L : LayD) : firstE (condL L) = checkS isName L := by
  unfold checkS condL
  simp only [firstE]
  cases h6 : jnB L with
  | false => cases limB L <;> cases namB isName L <;> cases dupB L <;> cases elB L <;> cases secB L <;> rfl
  | true =>
    cases h8 : sgB L with
    | false => cases limB L <;> cases namB isName L <;> cases dupB L <;> cases elB L <;> cases secB L <;> cases jdB L <;> rfl
    | true => rw [uns_eq h6 h8]
abbrev fnV (g : Nat) : Value := .func (.func g) #[] #[]
def tabC : Array Value := #[.int .i64 2, fnV 24, .int .i64 3, fnV 25, .int .i64 8, fnV 26, .int .i64 1, fnV 27,
  .int .i64 1, fnV 28, .int .i64 1, fnV 29, .int .i64 8, fnV 30, .int .i64 1, fnV 31,
  .int .i64 8, fnV 32, .int .i64 14, fnV 33, .int .i64 1, fnV 34, .int .i64 8, fnV 35]
/-- One row of the table: its error, its condition, and what the condition answers. -/
def RowOk (w : World) (v : Value) (k : Nat) (e : Int) (b : Bool) : Prop :=
  ∃ g, tabC[k * 2]? = some (.int .i64 e) ∧ tabC[k * 2 + 1]? = some (fnV g) ∧ (∀ (args : Array Value) (w : World), (callFunc g args).run Tryz.prog w = .ok (.enter g args) w) ∧ ∀ W, Below w.heap.size w W → Calls Tryz.prog g #[v] W (RetB W b)
structure BigL (L : LayD) : Prop where
  n2 : L.els.length ≤ 100000
  n3 : L.joints.length ≤ 100000
  hs : ∀ s ∈ allNames L, s.length ≤ 9223372036854775807
theorem FewL.big {L : LayD} (F : FewL L) : BigL L := ⟨by have := F.n2; omega, by have := F.n3; omega, F.hs⟩
theorem rows_ok (v : Value) (L : LayD) (w : World) (hG : GW w) (hv : RLay w v L) (F : BigL L) (k : Nat) (e : Int) (b : Bool) (h : (condL L)[k]? = some (e, b)) : RowOk w v k e b := by
  have n3 : L.joints.length ≤ 100000 := by have := F.n3; omega
  have n2 : L.els.length ≤ 100000 := by have := F.n2; omega
  have hk : k < 12 := (List.getElem?_eq_some_iff.1 h).1
  have hc : k = 0 ∨ k = 1 ∨ k = 2 ∨ k = 3 ∨ k = 4 ∨ k = 5 ∨ k = 6 ∨ k = 7 ∨ k = 8 ∨ k = 9 ∨ k = 10 ∨ k = 11 := by omega
  rcases hc with rfl | rfl | rfl | rfl | rfl | rfl | rfl | rfl | rfl | rfl | rfl | rfl
  all_goals (simp [condL] at h; obtain ⟨rfl, rfl⟩ := h)
  · exact ⟨_, rfl, rfl, enters_of Tryz.func24 (by kernel_rfl) rfl, fun W hb => sizes_any v L W (hv.below hb)⟩
  · exact ⟨_, rfl, rfl, enters_of Tryz.func25 (by kernel_rfl) rfl, fun W hb => names_any v L W (hv.below hb) F.hs⟩
  · exact ⟨_, rfl, rfl, enters_of Tryz.func26 (by kernel_rfl) rfl, fun W hb => namesDiffer_any v L W (hv.below hb)⟩
  · exact ⟨_, rfl, rfl, enters_of Tryz.func27 (by kernel_rfl) rfl, fun W hb => elements_any v L W (hG.below hb) (hv.below hb)⟩
  · exact ⟨_, rfl, rfl, enters_of Tryz.func28 (by kernel_rfl) rfl, fun W hb => sections_any v L W (hv.below hb) n2⟩
  · exact ⟨_, rfl, rfl, enters_of Tryz.func29 (by kernel_rfl) rfl, fun W hb => joints_any v L W (hG.below hb) (hv.below hb)⟩
  · exact ⟨_, rfl, rfl, enters_of Tryz.func30 (by kernel_rfl) rfl, fun W hb => jointsEnd_any v L W (hv.below hb) n3⟩
  · exact ⟨_, rfl, rfl, enters_of Tryz.func31 (by kernel_rfl) rfl, fun W hb => signals_any v L W (hG.below hb) (hv.below hb)⟩
  · exact ⟨_, rfl, rfl, enters_of Tryz.func32 (by kernel_rfl) rfl, fun W hb => signalsEnd_any v L W (hv.below hb)⟩
  · exact ⟨_, rfl, rfl, enters_of Tryz.func33 (by kernel_rfl) rfl, fun W hb => by have := divide_any v L W (hv.below hb) n3; simpa using this⟩
  · exact ⟨_, rfl, rfl, enters_of Tryz.func34 (by kernel_rfl) rfl, fun W hb => balises_any v L W (hG.below hb) (hv.below hb)⟩
  · exact ⟨_, rfl, rfl, enters_of Tryz.func35 (by kernel_rfl) rfl, fun W hb => balisesDiffer_any v L W (hv.below hb)⟩
set_option maxRecDepth 100000 in
set_option maxHeartbeats 4000000 in
theorem check_any (v : Value) (L : LayD) (w : World) (hG : GW w) (hv : RLay w v L) (F : BigL L) : Calls Tryz.prog 11 #[v] w (RetV w (.int .i64 (checkS isName L))) := by
  have KR := rows_ok v L w hG hv F
  rw [← first_eq]
  obtain ⟨res, hres⟩ : ∃ r, firstE (condL L) = r := ⟨_, rfl⟩
  rw [hres]
  obtain ⟨cs, hcs⟩ : ∃ cs, condL L = cs := ⟨_, rfl⟩
  have hlen : cs.length = 12 := by rw [← hcs]; rfl
  rw [hcs] at KR hres
  have H0 := Lib.hid (show firstE (cs.drop 0) = res from hres)
  replace KR := Lib.hid KR
  clear hcs hres
  obtain ⟨v1, v2, v3, v4, v5, rfl, r1, r2, r3, r4, r5⟩ := hv
  obtain ⟨nm, es⟩ : ∃ s, str L.name = s := ⟨_, rfl⟩
  rw [es] at KR ⊢
  clear es r1 r2 r3 r4 r5 hG F
  obtain ⟨TC, hTC⟩ : ∃ TC, TC = tabC := ⟨_, rfl⟩
  obtain ⟨W1, hW⟩ : ∃ W1, W1 = (w.alloc (.cells #[nm, v1, v2, v3, v4, v5] 28)).alloc (.cells TC 60) := ⟨_, rfl⟩
  have HB : Below w.heap.size w W1 := by rw [hW]; exact ((Below.refl _ w).alloc (Nat.le_refl _) _).alloc (by simp) _
  have G1 : Blk W1 w.heap.size #[nm, v1, v2, v3, v4, v5] := by rw [hW]; exact (Blk.new _ _ _ _ rfl).old _
  have G2 : Blk W1 (w.heap.size + 1) TC := by rw [hW]; exact Blk.new _ _ _ _ (by simp)
  have SK : ∀ W, Below W1.heap.size W1 W → Below w.heap.size w W ∧ W.cell? ⟨w.heap.size, 0, none⟩ = some nm ∧ W.cell? ⟨w.heap.size, 1, none⟩ = some v1 ∧ W.cell? ⟨w.heap.size, 2, none⟩ = some v2 ∧
      W.cell? ⟨w.heap.size, 3, none⟩ = some v3 ∧ W.cell? ⟨w.heap.size, 4, none⟩ = some v4 ∧ W.cell? ⟨w.heap.size, 5, none⟩ = some v5 ∧ Blk W (w.heap.size + 1) TC := by
    intro W h
    have b := G1.below h
    exact ⟨HB.trans (h.mono HB.size), b.at 0 _ rfl, b.at 1 _ rfl, b.at 2 _ rfl, b.at 3 _ rfl, b.at 4 _ rfl, b.at 5 _ rfl, G2.below h⟩
  replace SK := Lib.hid SK
  clear G1 G2
  have hT := hTC
  unfold tabC at hT
  go_enter Tryz.func11, Tryz.ntmps11
  go_wp2
  rw [← hT, ← hW]
  clear hW hT
  go_loopg [19] 12 (fun g s19 wx => ∃ k : Nat, k + g = 12 ∧ s19 = .int .i64 k ∧ Hid (firstE (cs.drop k) = res) ∧ Below W1.heap.size W1 wx)
  case atStart => exact ⟨0, by omega, rfl, H0, Below.refl _ _⟩
  case round =>
    obtain ⟨k, hk, rfl, HN, hbw⟩ := hrel
    clear H0
    obtain ⟨hw, k0, k1, k2, k3, k4, k5, kt⟩ := SK.out _ hbw
    cases gk with
    | zero =>
      have hz : ¬ ((k : Int) < 12) := by omega
      have E : res = 0 := by have := HN.out; rw [List.drop_eq_nil_of_le (by omega)] at this; exact this.symm
      subst E
      clear HN kt
      go_wp2
      go_ret
      exact ⟨rfl, hw⟩
    | succ g' =>
      have hz : ((k : Int) < 12) := by omega
      have hz2 : k < 12 := by omega
      obtain ⟨⟨e, b⟩, hy, _⟩ := at_take (l := cs) (k := k) (by omega)
      obtain ⟨g, t0, t1, eg, K⟩ := KR.out k e b hy
      rw [← hTC] at t0 t1
      have c0 := kt.at _ _ t0
      have c1 : wr.cell? ⟨w.heap.size + 1, k * 2 + 1, none⟩ = some (.func (.func g) #[] #[]) := kt.at _ _ t1
      have D := drop_get hy
      have h1 : Below W1.heap.size W1 (wr.alloc (.cells #[.int .i64 e, .func (.func g) #[] #[]] 60)) := hbw.alloc hbw.size _
      obtain ⟨hwa, j0, j1, j2, j3, j4, j5, _⟩ := SK.out _ h1
      have KK := K _ hwa
      have NB := Blk.new wr #[.int .i64 e, .func (.func g) #[] #[]] 60 wr.heap.size rfl
      clear t0 t1 K kt hy
      go_wp2_with fail
      refine KK.mono ?_
      rintro e2 w1 ⟨rfl, b1⟩
      have x0 := (NB.below b1).at 0 _ rfl
      have hw1 := hwa.trans (b1.mono hwa.size)
      have h2 := h1.trans (b1.mono h1.size)
      clear KK eg j0 j1 j2 j3 j4 j5 NB
      cases b with
      | false =>
        have E : res = e := by have := HN.out; rw [D, firstE, if_pos rfl] at this; exact this.symm
        subst E
        clear HN D
        go_wp2
        go_ret
        exact ⟨rfl, hw1⟩
      | true =>
        have N := Lib.hid (show firstE (cs.drop (k + 1)) = res by have := HN.out; rwa [D, firstE, if_neg (by decide)] at this)
        clear HN D
        go_wp2
        go_roundg g'
        case measure => omega
        case rel => exact ⟨k + 1, by omega, by go_num, N, h2⟩
end
end Go.Proofs.YteafkginhejllaaGreatDoor
