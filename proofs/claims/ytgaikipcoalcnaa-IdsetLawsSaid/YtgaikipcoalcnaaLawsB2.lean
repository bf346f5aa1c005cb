/- The walks of IdsetLaws and IdsetAlgebra: each returns true and changes nothing that was there. -/
import Derived.Test.YtgaikipcoalcnaaLawsA2
namespace Go.Proofs.Ytgaikipcoalcnaa
open Go.ChangeShapes Go.WideShapes Go.ChangeAt Go.RowKit
theorem selU_has (l m : List Int) (n : Int) : (sel kU l m).contains n = (l.contains n || m.contains n) := by
  rw [Bool.eq_iff_iff]; simp [mem_sel, kU]
theorem selC_has (l m : List Int) (n : Int) : (sel kC l m).contains n = (l.contains n && m.contains n) := by
  rw [Bool.eq_iff_iff]; simp [mem_sel, kC]; intro h _; exact Or.inl h
theorem selM_has (l m : List Int) (n : Int) : (sel kM l m).contains n = (l.contains n && !m.contains n) := by
  rw [Bool.eq_iff_iff]; simp [mem_sel, kM]; intro h _; exact Or.inl h
/-- Two ascending lists without a common element, and the ascending list of all their elements: the lengths add up. -/
theorem asc_nodup : ∀ l : List Int, Asc l → l.Nodup
  | [], _ => List.nodup_nil
  | x :: l, h => List.nodup_cons.2 ⟨fun hm => by have := h.1 x hm; omega, asc_nodup l h.2⟩
theorem len_split (u a b : List Int) (hu : Asc u) (ha : Asc a) (hb : Asc b) (hm : ∀ n, n ∈ u ↔ n ∈ a ∨ n ∈ b) (hd : ∀ n, n ∈ a → n ∉ b) : u.length = a.length + b.length := by
  have h1 : (a ++ b).Nodup := List.nodup_append.2 ⟨asc_nodup a ha, asc_nodup b hb, fun x hx y hy e => hd x hx (by rw [e]; exact hy)⟩
  have h2 : u.Perm (a ++ b) := (List.perm_ext_iff_of_nodup (asc_nodup u hu) h1).2 fun n => by rw [hm, List.mem_append]
  rw [h2.length_eq, List.length_append]
theorem lenU (l m : List Int) : (sel kU l m).length = (sel kM l m).length + (mk m).length := by
  refine len_split _ _ _ (asc_sel ..) (asc_sel ..) (asc_mk _) (fun n => ?_) (fun n h1 h2 => ?_)
  · rw [mem_sel, mem_sel, mem_mk]; simp [kU, kM]
    by_cases h : n ∈ m <;> simp [h]
  · rw [mem_mk] at h2
    have := ((mem_sel ..).1 h1).2
    simp [kM, h2] at this
theorem lenC (l m : List Int) : (mk l).length = (sel kC l m).length + (sel kM l m).length := by
  refine len_split _ _ _ (asc_mk _) (asc_sel ..) (asc_sel ..) (fun n => ?_) (fun n h1 h2 => ?_)
  · rw [mem_sel, mem_sel, mem_mk]; simp [kC, kM]
    by_cases h : n ∈ m <;> simp [h]
  · have a := ((mem_sel ..).1 h1).2
    have b := ((mem_sel ..).1 h2).2
    simp [kC] at a
    simp [kM, a.2] at b
theorem alg1 (a b : List Int) : sel kU b a = sel kU a b := asc_ext _ _ (asc_sel ..) (asc_sel ..) fun n => by simp [mem_sel, kU, or_comm]
theorem alg2 (a b : List Int) : sel kC b a = sel kC a b := asc_ext _ _ (asc_sel ..) (asc_sel ..) fun n => by simp [mem_sel, kC, or_comm, and_comm]
theorem memU (a b : List Int) (n : Int) : n ∈ sel kU a b ↔ n ∈ a ∨ n ∈ b := by rw [mem_sel]; simp [kU]
theorem memC (a b : List Int) (n : Int) : n ∈ sel kC a b ↔ n ∈ a ∧ n ∈ b := by rw [mem_sel]; simp [kC]; intro h _; exact Or.inl h
theorem memM (a b : List Int) (n : Int) : n ∈ sel kM a b ↔ n ∈ a ∧ n ∉ b := by rw [mem_sel]; simp [kM]; intro h _; exact Or.inl h
theorem alg3 (a b c : List Int) : sel kU (sel kC a b) (sel kC a c) = sel kC a (sel kU b c) := asc_ext _ _ (asc_sel ..) (asc_sel ..) fun n => by
  simp only [memU, memC]
  constructor
  · rintro (⟨h, h'⟩ | ⟨h, h'⟩)
    · exact ⟨h, Or.inl h'⟩
    · exact ⟨h, Or.inr h'⟩
  · rintro ⟨h, h' | h'⟩
    · exact Or.inl ⟨h, h'⟩
    · exact Or.inr ⟨h, h'⟩
theorem alg4 (a b c : List Int) : sel kM (sel kM a b) c = sel kM a (sel kU b c) := asc_ext _ _ (asc_sel ..) (asc_sel ..) fun n => by
  simp only [memU, memM]
  constructor
  · rintro ⟨⟨h, h'⟩, h2⟩
    exact ⟨h, fun h3 => h3.elim h' h2⟩
  · rintro ⟨h, h'⟩
    exact ⟨⟨h, fun h3 => h' (Or.inl h3)⟩, fun h3 => h' (Or.inr h3)⟩
theorem alg5 (a b : List Int) : sel kU (sel kM a b) (sel kC a b) = mk a := mk_eq _ _ (asc_sel ..) fun n => by
  simp only [memU, memM, memC]
  constructor
  · rintro (⟨h, _⟩ | ⟨h, _⟩) <;> exact h
  · intro h
    by_cases h' : n ∈ b
    · exact Or.inr ⟨h, h'⟩
    · exact Or.inl ⟨h, h'⟩
set_option maxHeartbeats 4000000 in
theorem laws_any (v u : Value) (l m : List Int) (n : Int) (w : World) (hl : RS w v (intsV l)) (hm : RS w u (intsV m)) :
    Calls Try.prog 6 #[v, u, .int .i64 n] w (RetB w true) := by
  replace hl := Lib.hid hl
  replace hm := Lib.hid hm
  have HB := Below.refl w.heap.size w
  cases hg : large l m
  case false =>
    have b0 : l.length ≤ 200 ∧ m.length ≤ 200 := by simpa [large] using hg
    obtain ⟨b1, b2⟩ := b0
    have L1 : (((sel kU l m).length : Int) == ((sel kM l m).length : Int) + ((mk m).length : Int)) = true := by have := lenU l m; simp; omega
    have L2 : (((sel kC l m).length : Int) + ((sel kM l m).length : Int) == ((mk l).length : Int)) = true := by have := lenC l m; simp; omega
    have s1 := sel_length kU l m
    have s2 := sel_length kC l m
    have s3 := sel_length kM l m
    have s4 := mk_length l
    have s5 := mk_length m
    replace hg := Lib.hid hg
    go_enter Try.func6, Try.ntmps6
    go_wp2_with fail
    refine (largeb _ _ l m _ hl.out hm.out).mono ?_
    rintro e w' ⟨rfl, rfl⟩
    rw [hg.out]
    go_wp2_with fail
    refine (union_any _ _ l m _ hl.out hm.out (by omega) (by omega)).mono ?_
    rintro e W2 ⟨v2, rfl, RU, bb⟩
    replace RU := Lib.hid RU
    replace hl := Lib.hid (hl.out.below bb)
    replace hm := Lib.hid (hm.out.below bb)
    replace HB := HB.trans (bb.mono HB.size)
    clear bb
    go_wp2_with fail
    refine (common_any _ _ l m _ hl.out hm.out (by omega) (by omega)).mono ?_
    rintro e W3 ⟨v3, rfl, RC, bb⟩
    replace RC := Lib.hid RC
    replace hl := Lib.hid (hl.out.below bb)
    replace hm := Lib.hid (hm.out.below bb)
    replace RU := Lib.hid (RU.out.below bb)
    replace HB := HB.trans (bb.mono HB.size)
    clear bb
    go_wp2_with fail
    refine (minus_any _ _ l m _ hl.out hm.out (by omega) (by omega)).mono ?_
    rintro e W4 ⟨v4, rfl, RM, bb⟩
    replace RM := Lib.hid RM
    replace hl := Lib.hid (hl.out.below bb)
    replace hm := Lib.hid (hm.out.below bb)
    replace RU := Lib.hid (RU.out.below bb)
    replace RC := Lib.hid (RC.out.below bb)
    replace HB := HB.trans (bb.mono HB.size)
    clear bb
    cases hx : l.contains n <;> cases hy : m.contains n
    all_goals
      have EU := selU_has l m n
      have EC := selC_has l m n
      have EM := selM_has l m n
      rw [hx, hy] at EU EC EM
      replace EU := Lib.hid EU
      replace EC := Lib.hid EC
      replace EM := Lib.hid EM
      replace hx := Lib.hid hx
      replace hy := Lib.hid hy
      go_wp2_with fail
      refine (has_any _ l n _ hl.out).mono ?_
      rintro e w' ⟨rfl, rfl⟩
      rw [hx.out]
      go_wp2_with fail
      refine (has_any _ m n _ hm.out).mono ?_
      rintro e w' ⟨rfl, rfl⟩
      rw [hy.out]
      go_wp2_with fail
      refine (has_any _ (sel kU l m) n _ RU.out).mono ?_
      rintro e w' ⟨rfl, rfl⟩
      rw [EU.out]
      go_wp2_with fail
      refine (has_any _ (sel kC l m) n _ RC.out).mono ?_
      rintro e w' ⟨rfl, rfl⟩
      rw [EC.out]
      go_wp2_with fail
      refine (has_any _ (sel kM l m) n _ RM.out).mono ?_
      rintro e w' ⟨rfl, rfl⟩
      rw [EM.out]
      obtain ⟨aU, capU, rfl, _, _⟩ := RU.out.open
      obtain ⟨aC, capC, rfl, _, _⟩ := RC.out.open
      obtain ⟨aM, capM, rfl, _, _⟩ := RM.out.open
      go_wp2_with fail
      refine (ascending_any _ (sel kU l m) _ RU.out (asc_sel ..)).mono ?_
      rintro e W10 ⟨rfl, bb⟩
      replace hl := Lib.hid (hl.out.below bb)
      replace hm := Lib.hid (hm.out.below bb)
      replace RU := Lib.hid (RU.out.below bb)
      replace RC := Lib.hid (RC.out.below bb)
      replace RM := Lib.hid (RM.out.below bb)
      replace HB := HB.trans (bb.mono HB.size)
      clear bb
      go_wp2_with fail
      refine (ascending_any _ (sel kC l m) _ RC.out (asc_sel ..)).mono ?_
      rintro e W11 ⟨rfl, bb⟩
      replace hl := Lib.hid (hl.out.below bb)
      replace hm := Lib.hid (hm.out.below bb)
      replace RU := Lib.hid (RU.out.below bb)
      replace RC := Lib.hid (RC.out.below bb)
      replace RM := Lib.hid (RM.out.below bb)
      replace HB := HB.trans (bb.mono HB.size)
      clear bb
      go_wp2_with fail
      refine (ascending_any _ (sel kM l m) _ RM.out (asc_sel ..)).mono ?_
      rintro e W12 ⟨rfl, bb⟩
      replace hl := Lib.hid (hl.out.below bb)
      replace hm := Lib.hid (hm.out.below bb)
      replace RU := Lib.hid (RU.out.below bb)
      replace RC := Lib.hid (RC.out.below bb)
      replace RM := Lib.hid (RM.out.below bb)
      replace HB := HB.trans (bb.mono HB.size)
      clear bb
      go_wp2_with fail
      refine (make_any _ m _ hm.out (by omega)).mono ?_
      rintro e W13 ⟨v13, rfl, R1, bb⟩
      replace R1 := Lib.hid R1
      replace hl := Lib.hid (hl.out.below bb)
      replace hm := Lib.hid (hm.out.below bb)
      replace RU := Lib.hid (RU.out.below bb)
      replace RC := Lib.hid (RC.out.below bb)
      replace RM := Lib.hid (RM.out.below bb)
      replace HB := HB.trans (bb.mono HB.size)
      clear bb
      obtain ⟨a1, cap1, rfl, _, _⟩ := R1.out.open
      go_wp2_with fail
      refine (make_any _ l _ hl.out (by omega)).mono ?_
      rintro e W14 ⟨v14, rfl, R2, bb⟩
      replace R2 := Lib.hid R2
      replace hl := Lib.hid (hl.out.below bb)
      replace hm := Lib.hid (hm.out.below bb)
      replace RU := Lib.hid (RU.out.below bb)
      replace RC := Lib.hid (RC.out.below bb)
      replace RM := Lib.hid (RM.out.below bb)
      replace R1 := Lib.hid (R1.out.below bb)
      replace HB := HB.trans (bb.mono HB.size)
      clear bb
      obtain ⟨a2, cap2, rfl, _, _⟩ := R2.out.open
      go_wp2_with fail
      refine (alive_any _).mono ?_
      rintro e W15 ⟨rfl, bb⟩
      replace hl := Lib.hid (hl.out.below bb)
      replace hm := Lib.hid (hm.out.below bb)
      replace RU := Lib.hid (RU.out.below bb)
      replace RC := Lib.hid (RC.out.below bb)
      replace RM := Lib.hid (RM.out.below bb)
      replace R1 := Lib.hid (R1.out.below bb)
      replace R2 := Lib.hid (R2.out.below bb)
      replace HB := HB.trans (bb.mono HB.size)
      clear bb
      go_wp2
      go_ret
      exact ⟨rfl, HB⟩
  case true =>
    replace hg := Lib.hid hg
    go_enter Try.func6, Try.ntmps6
    go_wp2_with fail
    refine (largeb _ _ l m _ hl.out hm.out).mono ?_
    rintro e w' ⟨rfl, rfl⟩
    rw [hg.out]
    go_wp2_with fail
    refine (alive_any _).mono ?_
    rintro e W2 ⟨rfl, bb⟩
    replace hl := Lib.hid (hl.out.below bb)
    replace hm := Lib.hid (hm.out.below bb)
    replace HB := HB.trans (bb.mono HB.size)
    clear bb
    go_wp2
    go_ret
    exact ⟨rfl, HB⟩
set_option maxHeartbeats 4000000 in
theorem algebra_any (v u x : Value) (l m r : List Int) (w : World) (hl : RS w v (intsV l)) (hm : RS w u (intsV m)) (hr : RS w x (intsV r)) :
    Calls Try.prog 7 #[v, u, x] w (RetB w true) := by
  replace hl := Lib.hid hl
  replace hm := Lib.hid hm
  replace hr := Lib.hid hr
  have HB := Below.refl w.heap.size w
  cases hg : decide (l.length ≤ 100 ∧ m.length ≤ 100 ∧ r.length ≤ 100)
  case true =>
    have b0 : l.length ≤ 100 ∧ m.length ≤ 100 ∧ r.length ≤ 100 := by simpa using hg
    obtain ⟨b1, b2, b3⟩ := b0
    have s1 := sel_length kU m r
    have s2 := sel_length kC l m
    have s3 := sel_length kC l r
    have s4 := sel_length kM l m
    have i1 : ¬ (100 : Int) < (l.length : Int) := by omega
    have i2 : ¬ (100 : Int) < (m.length : Int) := by omega
    have i3 : ¬ (100 : Int) < (r.length : Int) := by omega
    obtain ⟨a1, c1, rfl, _, _⟩ := hl.out.open
    obtain ⟨a2, c2, rfl, _, _⟩ := hm.out.open
    obtain ⟨a3, c3, rfl, _, _⟩ := hr.out.open
    replace hg := Lib.hid hg
    go_enter Try.func7, Try.ntmps7
    go_wp2_with fail
    refine (union_any _ _ l m _ hl.out hm.out (by omega) (by omega)).mono ?_
    rintro e W1 ⟨v1, rfl, R1, bb⟩
    replace R1 := Lib.hid R1
    replace hl := Lib.hid (hl.out.below bb)
    replace hm := Lib.hid (hm.out.below bb)
    replace hr := Lib.hid (hr.out.below bb)
    replace HB := HB.trans (bb.mono HB.size)
    clear bb
    go_wp2_with fail
    refine (union_any _ _ m l _ hm.out hl.out (by omega) (by omega)).mono ?_
    rintro e W2 ⟨v2, rfl, R2, bb⟩
    replace R2 := Lib.hid R2
    replace hl := Lib.hid (hl.out.below bb)
    replace hm := Lib.hid (hm.out.below bb)
    replace hr := Lib.hid (hr.out.below bb)
    replace R1 := Lib.hid (R1.out.below bb)
    replace HB := HB.trans (bb.mono HB.size)
    clear bb
    rw [alg1] at R2
    go_wp2_with fail
    refine (same_any _ _ (sel kU l m) _ R1.out R2.out).mono ?_
    rintro e W3 ⟨rfl, bb⟩
    clear R1
    clear R2
    replace hl := Lib.hid (hl.out.below bb)
    replace hm := Lib.hid (hm.out.below bb)
    replace hr := Lib.hid (hr.out.below bb)
    replace HB := HB.trans (bb.mono HB.size)
    clear bb
    go_wp2_with fail
    refine (common_any _ _ l m _ hl.out hm.out (by omega) (by omega)).mono ?_
    rintro e W4 ⟨v4, rfl, R1, bb⟩
    replace R1 := Lib.hid R1
    replace hl := Lib.hid (hl.out.below bb)
    replace hm := Lib.hid (hm.out.below bb)
    replace hr := Lib.hid (hr.out.below bb)
    replace HB := HB.trans (bb.mono HB.size)
    clear bb
    go_wp2_with fail
    refine (common_any _ _ m l _ hm.out hl.out (by omega) (by omega)).mono ?_
    rintro e W5 ⟨v5, rfl, R2, bb⟩
    replace R2 := Lib.hid R2
    replace hl := Lib.hid (hl.out.below bb)
    replace hm := Lib.hid (hm.out.below bb)
    replace hr := Lib.hid (hr.out.below bb)
    replace R1 := Lib.hid (R1.out.below bb)
    replace HB := HB.trans (bb.mono HB.size)
    clear bb
    rw [alg2] at R2
    go_wp2_with fail
    refine (same_any _ _ (sel kC l m) _ R1.out R2.out).mono ?_
    rintro e W6 ⟨rfl, bb⟩
    clear R1
    clear R2
    replace hl := Lib.hid (hl.out.below bb)
    replace hm := Lib.hid (hm.out.below bb)
    replace hr := Lib.hid (hr.out.below bb)
    replace HB := HB.trans (bb.mono HB.size)
    clear bb
    go_wp2_with fail
    refine (union_any _ _ m r _ hm.out hr.out (by omega) (by omega)).mono ?_
    rintro e W7 ⟨v7, rfl, R1, bb⟩
    replace R1 := Lib.hid R1
    replace hl := Lib.hid (hl.out.below bb)
    replace hm := Lib.hid (hm.out.below bb)
    replace hr := Lib.hid (hr.out.below bb)
    replace HB := HB.trans (bb.mono HB.size)
    clear bb
    go_wp2_with fail
    refine (common_any _ _ l (sel kU m r) _ hl.out R1.out (by omega) (by omega)).mono ?_
    rintro e W8 ⟨v8, rfl, R2, bb⟩
    replace R2 := Lib.hid R2
    clear R1
    replace hl := Lib.hid (hl.out.below bb)
    replace hm := Lib.hid (hm.out.below bb)
    replace hr := Lib.hid (hr.out.below bb)
    replace HB := HB.trans (bb.mono HB.size)
    clear bb
    go_wp2_with fail
    refine (common_any _ _ l m _ hl.out hm.out (by omega) (by omega)).mono ?_
    rintro e W9 ⟨v9, rfl, R3, bb⟩
    replace R3 := Lib.hid R3
    replace hl := Lib.hid (hl.out.below bb)
    replace hm := Lib.hid (hm.out.below bb)
    replace hr := Lib.hid (hr.out.below bb)
    replace R2 := Lib.hid (R2.out.below bb)
    replace HB := HB.trans (bb.mono HB.size)
    clear bb
    go_wp2_with fail
    refine (common_any _ _ l r _ hl.out hr.out (by omega) (by omega)).mono ?_
    rintro e W10 ⟨v10, rfl, R4, bb⟩
    replace R4 := Lib.hid R4
    replace hl := Lib.hid (hl.out.below bb)
    replace hm := Lib.hid (hm.out.below bb)
    replace hr := Lib.hid (hr.out.below bb)
    replace R2 := Lib.hid (R2.out.below bb)
    replace R3 := Lib.hid (R3.out.below bb)
    replace HB := HB.trans (bb.mono HB.size)
    clear bb
    go_wp2_with fail
    refine (union_any _ _ (sel kC l m) (sel kC l r) _ R3.out R4.out (by omega) (by omega)).mono ?_
    rintro e W11 ⟨v11, rfl, R5, bb⟩
    replace R5 := Lib.hid R5
    clear R3
    clear R4
    replace hl := Lib.hid (hl.out.below bb)
    replace hm := Lib.hid (hm.out.below bb)
    replace hr := Lib.hid (hr.out.below bb)
    replace R2 := Lib.hid (R2.out.below bb)
    replace HB := HB.trans (bb.mono HB.size)
    clear bb
    rw [alg3] at R5
    go_wp2_with fail
    refine (same_any _ _ (sel kC l (sel kU m r)) _ R2.out R5.out).mono ?_
    rintro e W12 ⟨rfl, bb⟩
    clear R2
    clear R5
    replace hl := Lib.hid (hl.out.below bb)
    replace hm := Lib.hid (hm.out.below bb)
    replace hr := Lib.hid (hr.out.below bb)
    replace HB := HB.trans (bb.mono HB.size)
    clear bb
    go_wp2_with fail
    refine (union_any _ _ m r _ hm.out hr.out (by omega) (by omega)).mono ?_
    rintro e W13 ⟨v13, rfl, R1, bb⟩
    replace R1 := Lib.hid R1
    replace hl := Lib.hid (hl.out.below bb)
    replace hm := Lib.hid (hm.out.below bb)
    replace hr := Lib.hid (hr.out.below bb)
    replace HB := HB.trans (bb.mono HB.size)
    clear bb
    go_wp2_with fail
    refine (minus_any _ _ l (sel kU m r) _ hl.out R1.out (by omega) (by omega)).mono ?_
    rintro e W14 ⟨v14, rfl, R2, bb⟩
    replace R2 := Lib.hid R2
    clear R1
    replace hl := Lib.hid (hl.out.below bb)
    replace hm := Lib.hid (hm.out.below bb)
    replace hr := Lib.hid (hr.out.below bb)
    replace HB := HB.trans (bb.mono HB.size)
    clear bb
    go_wp2_with fail
    refine (minus_any _ _ l m _ hl.out hm.out (by omega) (by omega)).mono ?_
    rintro e W15 ⟨v15, rfl, R3, bb⟩
    replace R3 := Lib.hid R3
    replace hl := Lib.hid (hl.out.below bb)
    replace hm := Lib.hid (hm.out.below bb)
    replace hr := Lib.hid (hr.out.below bb)
    replace R2 := Lib.hid (R2.out.below bb)
    replace HB := HB.trans (bb.mono HB.size)
    clear bb
    go_wp2_with fail
    refine (minus_any _ _ (sel kM l m) r _ R3.out hr.out (by omega) (by omega)).mono ?_
    rintro e W16 ⟨v16, rfl, R4, bb⟩
    replace R4 := Lib.hid R4
    clear R3
    replace hl := Lib.hid (hl.out.below bb)
    replace hm := Lib.hid (hm.out.below bb)
    replace hr := Lib.hid (hr.out.below bb)
    replace R2 := Lib.hid (R2.out.below bb)
    replace HB := HB.trans (bb.mono HB.size)
    clear bb
    rw [alg4] at R4
    go_wp2_with fail
    refine (same_any _ _ (sel kM l (sel kU m r)) _ R2.out R4.out).mono ?_
    rintro e W17 ⟨rfl, bb⟩
    clear R2
    clear R4
    replace hl := Lib.hid (hl.out.below bb)
    replace hm := Lib.hid (hm.out.below bb)
    replace hr := Lib.hid (hr.out.below bb)
    replace HB := HB.trans (bb.mono HB.size)
    clear bb
    go_wp2_with fail
    refine (minus_any _ _ l m _ hl.out hm.out (by omega) (by omega)).mono ?_
    rintro e W18 ⟨v18, rfl, R1, bb⟩
    replace R1 := Lib.hid R1
    replace hl := Lib.hid (hl.out.below bb)
    replace hm := Lib.hid (hm.out.below bb)
    replace hr := Lib.hid (hr.out.below bb)
    replace HB := HB.trans (bb.mono HB.size)
    clear bb
    go_wp2_with fail
    refine (common_any _ _ l m _ hl.out hm.out (by omega) (by omega)).mono ?_
    rintro e W19 ⟨v19, rfl, R2, bb⟩
    replace R2 := Lib.hid R2
    replace hl := Lib.hid (hl.out.below bb)
    replace hm := Lib.hid (hm.out.below bb)
    replace hr := Lib.hid (hr.out.below bb)
    replace R1 := Lib.hid (R1.out.below bb)
    replace HB := HB.trans (bb.mono HB.size)
    clear bb
    go_wp2_with fail
    refine (union_any _ _ (sel kM l m) (sel kC l m) _ R1.out R2.out (by omega) (by omega)).mono ?_
    rintro e W20 ⟨v20, rfl, R3, bb⟩
    replace R3 := Lib.hid R3
    clear R1
    clear R2
    replace hl := Lib.hid (hl.out.below bb)
    replace hm := Lib.hid (hm.out.below bb)
    replace hr := Lib.hid (hr.out.below bb)
    replace HB := HB.trans (bb.mono HB.size)
    clear bb
    rw [alg5] at R3
    go_wp2_with fail
    refine (make_any _ l _ hl.out (by omega)).mono ?_
    rintro e W21 ⟨v21, rfl, R4, bb⟩
    replace R4 := Lib.hid R4
    replace hl := Lib.hid (hl.out.below bb)
    replace hm := Lib.hid (hm.out.below bb)
    replace hr := Lib.hid (hr.out.below bb)
    replace R3 := Lib.hid (R3.out.below bb)
    replace HB := HB.trans (bb.mono HB.size)
    clear bb
    go_wp2_with fail
    refine (same_any _ _ (mk l) _ R3.out R4.out).mono ?_
    rintro e W22 ⟨rfl, bb⟩
    clear R3
    clear R4
    replace hl := Lib.hid (hl.out.below bb)
    replace hm := Lib.hid (hm.out.below bb)
    replace hr := Lib.hid (hr.out.below bb)
    replace HB := HB.trans (bb.mono HB.size)
    clear bb
    go_wp2_with fail
    refine (alive_any _).mono ?_
    rintro e W23 ⟨rfl, bb⟩
    replace hl := Lib.hid (hl.out.below bb)
    replace hm := Lib.hid (hm.out.below bb)
    replace hr := Lib.hid (hr.out.below bb)
    replace HB := HB.trans (bb.mono HB.size)
    clear bb
    go_wp2
    go_ret
    exact ⟨rfl, HB⟩
  case false =>
    obtain ⟨a1, c1, rfl, _, _⟩ := hl.out.open
    obtain ⟨a2, c2, rfl, _, _⟩ := hm.out.open
    obtain ⟨a3, c3, rfl, _, _⟩ := hr.out.open
    have hg2 : 100 < l.length ∨ ¬ 100 < l.length ∧ 100 < m.length ∨ ¬ 100 < l.length ∧ ¬ 100 < m.length ∧ 100 < r.length := by
      have := of_decide_eq_false hg; omega
    clear hg
    rcases hg2 with h1 | ⟨h1, h2⟩ | ⟨h1, h2, h3⟩
    · have i1 : (100 : Int) < (l.length : Int) := by omega
      clear h1
      go_enter Try.func7, Try.ntmps7
      go_wp2_with fail
      refine (alive_any _).mono ?_
      rintro e W1 ⟨rfl, bb⟩
      replace hl := Lib.hid (hl.out.below bb)
      replace hm := Lib.hid (hm.out.below bb)
      replace hr := Lib.hid (hr.out.below bb)
      replace HB := HB.trans (bb.mono HB.size)
      clear bb
      go_wp2
      go_ret
      exact ⟨rfl, HB⟩
    · have i1 : ¬ (100 : Int) < (l.length : Int) := by omega
      have i2 : (100 : Int) < (m.length : Int) := by omega
      clear h1 h2
      go_enter Try.func7, Try.ntmps7
      go_wp2_with fail
      refine (alive_any _).mono ?_
      rintro e W1 ⟨rfl, bb⟩
      replace hl := Lib.hid (hl.out.below bb)
      replace hm := Lib.hid (hm.out.below bb)
      replace hr := Lib.hid (hr.out.below bb)
      replace HB := HB.trans (bb.mono HB.size)
      clear bb
      go_wp2
      go_ret
      exact ⟨rfl, HB⟩
    · have i1 : ¬ (100 : Int) < (l.length : Int) := by omega
      have i2 : ¬ (100 : Int) < (m.length : Int) := by omega
      have i3 : (100 : Int) < (r.length : Int) := by omega
      clear h1 h2 h3
      go_enter Try.func7, Try.ntmps7
      go_wp2_with fail
      refine (alive_any _).mono ?_
      rintro e W1 ⟨rfl, bb⟩
      replace hl := Lib.hid (hl.out.below bb)
      replace hm := Lib.hid (hm.out.below bb)
      replace hr := Lib.hid (hr.out.below bb)
      replace HB := HB.trans (bb.mono HB.size)
      clear bb
      go_wp2
      go_ret
      exact ⟨rfl, HB⟩
end Go.Proofs.Ytgaikipcoalcnaa
