/- Contract of exists. Conditions: the layout can be read; what the program reads (GW). -/
import Derived.Test.YthoodaldmfojaaaDoorCond7
namespace Go.Proofs.YthoodaldmfojaaaDoor
open Go.ChangeShapes Go.WideShapes Go.ChangeAt Go.RowKit
set_option maxRecDepth 100000 in
set_option maxHeartbeats 4000000 in
theorem exists_any (v : Value) (L : LayD) (e s : Int) (w : World) (hG : GW w) (hv : RLay w v L) : Calls Tryd.prog 62 #[v, .agg #[.int .i64 e, .int .i64 s]] w (RetB w (exS L.els (e, s))) := by
  obtain ⟨v1, v2, v3, v4, v5, rfl, h1, h2, h3, h4, h5⟩ := hv
  clear h1 h3 h4 h5
  obtain ⟨a2, c2, rfl, ⟨m2, _⟩, HC⟩ := h2.openM
  clear h2
  obtain ⟨nm, es⟩ : ∃ s, str L.name = s := ⟨_, rfl⟩
  have hbb : Below w.heap.size w w := Below.refl _ _
  have KI := fun (n k : Int) (h0 : 0 ≤ k) (h1 : k ≤ 9223372036854775807) ww => isIndex_any n k ww h0 h1
  by_cases hs : e < 0 ∨ (L.els.length : Int) ≤ e
  · have e1 : (decide (0 ≤ e) && decide (e < (L.els.length : Int))) = false := by
      rcases hs with h | h
      · rw [decide_eq_false (by omega), Bool.false_and]
      · rw [decide_eq_false (p := e < _) (by omega), Bool.and_false]
    have eq : exS L.els (e, s) = false := exS_false (by rcases hs with h | h; exact Or.inl h; exact Or.inr (Or.inl h))
    rw [es, eq]
    have K1 := KI e L.els.length (by omega) (by omega)
    rw [e1] at K1
    obtain ⟨n, en⟩ : ∃ n, L.els.length = n := ⟨_, rfl⟩
    rw [en] at K1 ⊢
    clear hs HC en es e1 KI eq
    go_enter Tryd.func62, Tryd.ntmps62
    go_wp2
    go_quiet ((go_at_call 38; exact Calls.quiet_of_same ((K1 _).mono fun e w' h => ⟨h.1, h.2.symm⟩)))
    go_wp2
    go_ret
    exact ⟨rfl, bdrew ((hbb.alloc (Nat.le_refl _) _).alloc (by simp) _) _⟩
  · have e1 : (decide (0 ≤ e) && decide (e < (L.els.length : Int))) = true := by
      rw [decide_eq_true (by omega), decide_eq_true (by omega)]; rfl
    obtain ⟨k, rfl⟩ : ∃ k : Nat, e = k := ⟨e.toNat, by omega⟩
    have hk : k < L.els.length := by omega
    obtain ⟨y, hy, _⟩ := at_take hk
    have eq : exS L.els ((k : Int), s) = (decide (0 ≤ s) && decide (s < sidesS y.kind)) := by
      by_cases h : s < 0
      · rw [exS_false (Or.inr (Or.inr h)), decide_eq_false (by omega), Bool.false_and]
      · rw [exS_in hy h, decide_eq_true (p := 0 ≤ s) (by omega), Bool.true_and]
    rw [eq, es]
    obtain ⟨b, off, rfl, hlt, hc⟩ := HC.out.rd hbb hy
    have cK := hc 1 _ rfl
    have t3 : ((k : Int) < (L.els.length : Int)) := by omega
    have K1 := KI k L.els.length (by omega) (by omega)
    have K2 := KI s (sidesS y.kind) (sides_le _).1 (by have := (sides_le y.kind).2; omega)
    rw [e1] at K1
    have KS := fun ww (h : GW ww) => sides_any y.kind ww h
    obtain ⟨q, hq⟩ : ∃ q, sidesS y.kind = q := ⟨_, rfl⟩
    rw [hq] at K2 ⊢
    simp only [hq] at KS
    obtain ⟨kd, hkd⟩ : ∃ kd, y.kind = kd := ⟨_, rfl⟩
    simp only [hkd] at KS cK
    obtain ⟨n, en⟩ : ∃ n, L.els.length = n := ⟨_, rfl⟩
    rw [en] at K1 t3 hk ⊢
    obtain ⟨rr, hrr⟩ : ∃ rr, (decide (0 ≤ s) && decide (s < q)) = rr := ⟨_, rfl⟩
    rw [hrr] at K2 ⊢
    have hG2 : ∀ o1 o2, GW ((w.alloc o1).alloc o2) := fun o1 o2 => hG.below ((hbb.alloc (Nat.le_refl _) _).alloc (by simp) _)
    have KS2 : ∀ o1 o2 m, Calls Tryd.prog 58 #[.int .i64 kd] (((w.alloc o1).alloc o2).drewN m) (fun e w' => e = .returned (.int .i64 q) ∧ ((w.alloc o1).alloc o2).drewN m = w') := fun o1 o2 m => KS (((w.alloc o1).alloc o2).drewN m) (hG2 o1 o2)
    clear hs HC en es e1 KI eq hc hy hq hkd hrr hG m2 hG2 KS
    go_enter Tryd.func62, Tryd.ntmps62
    go_wp2
    go_quiet ((first
      | (go_at_call 38; first | exact Calls.quiet_of_same ((K1 _).mono fun e w' h => ⟨h.1, h.2.symm⟩) | exact Calls.quiet_of_same ((K2 _).mono fun e w' h => ⟨h.1, h.2.symm⟩))
      | (go_at_call 58; exact Calls.quiet_of_same ((KS2 _ _ _).mono fun e w' h => ⟨h.1, h.2.symm⟩))))
    go_wp2
    go_ret
    exact ⟨rfl, bdrew ((hbb.alloc (Nat.le_refl _) _).alloc (by simp) _) _⟩
end Go.Proofs.YthoodaldmfojaaaDoor
