/- Contracts of elementForm and forms. Conditions: the kind. -/
import Derived.Test.YteafkginhejllaaGreatDoorNu8
import Derived.Laws.EntriesVeiled
namespace Go.Proofs.YteafkginhejllaaGreatDoor
open Go.ChangeShapes Go.WideShapes Go.ChangeAt Go.RowKit
open Go.ChangeMaps
open Go.MapKept Go.Maps
theorem info_field : (Tryz.prog.info? 139).map (fun i => (i.zero, i.size, i.bytes)) = some (some (.int .i64 0), 1, 8) := by kernel_rfl
/-- A form as a value: its place, its fields, its function and, where it has one, its kind. All that it leads to lies from block lo on. -/
def FormOK (w : World) (lo : Nat) (v : Value) (p : Int) (fs : List Int) (f : Nat) (ok : Option Int) : Prop :=
  ∃ n cap cs lb, v = .agg #[.int .i64 p, .slice (some ⟨n, 0, none⟩) fs.length cap, .func (.func f) #[] lb] ∧ lo ≤ n ∧ Blk w n cs ∧ (∀ (j : Nat) x, fs[j]? = some x → cs[j]? = some (.int .i64 x)) ∧ fs.length ≤ cap ∧
    (match ok with
      | none => lb = #[]
      | some k => ∃ m, lb = #[.pointer (some ⟨m, 0, none⟩)] ∧ lo ≤ m ∧ Blk w m #[.int .i64 k])
theorem FormOK.below {w w' : World} {lo : Nat} {v : Value} {p : Int} {fs : List Int} {f : Nat} {ok : Option Int} (h : FormOK w lo v p fs f ok) (hb : Below w.heap.size w w') : FormOK w' lo v p fs f ok := by
  obtain ⟨n, cap, cs, lb, e, h1, h2, h3, h4, h5⟩ := h
  refine ⟨n, cap, cs, lb, e, h1, h2.below hb, h3, h4, ?_⟩
  cases ok with
  | none => exact h5
  | some k => obtain ⟨m, e1, e2, e3⟩ := h5; exact ⟨m, e1, e2, e3.below hb⟩
theorem FormOK.grown {w w' : World} {lo : Nat} {v : Value} {p : Int} {fs : List Int} {f : Nat} {ok : Option Int} (h : FormOK w lo v p fs f ok) {B : Nat} (hg : w.grownBy w' (some B)) (hB : B < lo ∨ ∀ cs, ¬ Blk w B cs) : FormOK w' lo v p fs f ok := by
  obtain ⟨n, cap, cs, lb, e, h1, h2, h3, h4, h5⟩ := h
  refine ⟨n, cap, cs, lb, e, h1, h2.grown hg (fun e => by cases e; rcases hB with hB | hB; omega; exact hB _ h2), h3, h4, ?_⟩
  cases ok with
  | none => exact h5
  | some k => obtain ⟨m, e1, e2, e3⟩ := h5; exact ⟨m, e1, e2, e3.grown hg (fun e => by cases e; rcases hB with hB | hB; omega; exact hB _ e3)⟩
theorem FormOK.mono {w : World} {lo lo' : Nat} {v : Value} {p : Int} {fs : List Int} {f : Nat} {ok : Option Int} (h : FormOK w lo v p fs f ok) (hl : lo' ≤ lo) : FormOK w lo' v p fs f ok := by
  obtain ⟨n, cap, cs, lb, e, h1, h2, h3, h4, h5⟩ := h
  refine ⟨n, cap, cs, lb, e, Nat.le_trans hl h1, h2, h3, h4, ?_⟩
  cases ok with
  | none => exact h5
  | some k => obtain ⟨m, e1, e2, e3⟩ := h5; exact ⟨m, e1, Nat.le_trans hl e2, e3⟩
def elFs (k : Int) : List Int := if k = 2 then [0, 2, 1, 1, 1, 1] else [0, 2, 1, 1, 1]
theorem run_makeF (w : World) (f : Nat) (p : Value) : ∀ ww : World, (Instr.makeFunc (.func f) #[] #[p]).run Tryz.prog ww = .ok (.func (.func f) #[] #[p]) ww := by
  intro ww
  rfl
set_option maxRecDepth 100000 in
set_option maxHeartbeats 4000000 in
theorem elementForm_any (k : Int) (w : World) : Calls Tryz.prog 125 #[.int .i64 k] w fun e w' => ∃ v, e = .returned v ∧ FormOK w' w.heap.size v 2 (elFs k) 138 (some k) ∧ Below w.heap.size w w' := by
  by_cases hk : k = 2
  · subst hk
    go_enter Tryz.func125, Tryz.ntmps125
    go_wp2
    obtain ⟨cap, hcap⟩ : ∃ c, (Question.appendCap 6 5 139).cut (w.tape w.drawn (Question.appendCap 6 5 139)) = c := ⟨_, rfl⟩
    have hc6 : 6 ≤ cap := by rw [← hcap]; exact grownCap_ge w 6 5 _
    rw [hcap]
    clear hcap
    refine ret_cell1 rfl Tryz.underlying115 rfl (cs := #[.int .i64 2, .slice (some ⟨w.heap.size + 1 + 1 + 1 + 1, 0, none⟩) 6 cap, .func (.func 138) #[] #[.pointer (some ⟨w.heap.size, 0, none⟩)]]) (by kernel_rfl) rfl ?hB rfl ?hR
    case hB => exact (((((Blk.new _ _ _ _ (by simp)).old _).old _).old _).below ((Below.refl _ _).drew))
    case hR =>
      refine ⟨_, rfl, ⟨_, cap, #[.int .i64 0, .int .i64 2, .int .i64 1, .int .i64 1, .int .i64 1, .int .i64 1] ++ Builtin.zeroCells #[.int .i64 0] (cap - 6), _, rfl, by omega, ?_, ?_, ?_, ?_⟩, ?_⟩
      · exact Blk.below (Blk.new _ _ _ (w.heap.size + 1 + 1 + 1 + 1) (by simp)) ((Below.refl _ _).drew)
      · intro j x hx
        have hj : j < 6 := (List.getElem?_eq_some_iff.1 hx).1
        rw [Array.getElem?_append_left (by simpa using hj)]
        have hc : j = 0 ∨ j = 1 ∨ j = 2 ∨ j = 3 ∨ j = 4 ∨ j = 5 := by omega
        rcases hc with rfl | rfl | rfl | rfl | rfl | rfl <;> (simp [elFs] at hx; subst hx; rfl)
      · exact hc6
      · exact ⟨w.heap.size, rfl, Nat.le_refl _, ((((((Blk.new _ _ _ _ rfl).old _).old _).old _).old _).below ((Below.refl _ _).drew))⟩
      · exact ((((((Below.refl _ _).alloc (Nat.le_refl _) _).alloc (by simp) _).alloc (by simp; omega) _).alloc (by simp; omega) _).alloc (by simp; omega) _).drew
  · have e2 : (k == 2) = false := by simpa using hk
    unfold elFs
    rw [if_neg hk]
    clear hk
    go_enter Tryz.func125, Tryz.ntmps125
    go_wp2
    refine ret_cell1 rfl Tryz.underlying115 rfl (cs := #[.int .i64 2, .slice (some ⟨w.heap.size + 1 + 1, 0, none⟩) 5 5, .func (.func 138) #[] #[.pointer (some ⟨w.heap.size, 0, none⟩)]]) (by kernel_rfl) rfl ?hB2 rfl ?hR2
    case hB2 => exact (Blk.new _ _ _ _ (by simp)).old _
    case hR2 =>
      refine ⟨_, rfl, ⟨_, 5, #[.int .i64 0, .int .i64 2, .int .i64 1, .int .i64 1, .int .i64 1], _, rfl, by omega, Blk.new _ _ _ (w.heap.size + 1 + 1) (by simp), ?_, by simp, ?_⟩, ?_⟩
      · intro j x hx
        have hj : j < 5 := (List.getElem?_eq_some_iff.1 hx).1
        have hc : j = 0 ∨ j = 1 ∨ j = 2 ∨ j = 3 ∨ j = 4 := by omega
        rcases hc with rfl | rfl | rfl | rfl | rfl <;> (simp at hx; subst hx; rfl)
      · exact ⟨w.heap.size, rfl, Nat.le_refl _, ((Blk.new _ _ _ _ rfl).old _).old _⟩
      · exact (((Below.refl _ _).alloc (Nat.le_refl _) _).alloc (by simp) _).alloc (by simp; omega) _
end Go.Proofs.YteafkginhejllaaGreatDoor
