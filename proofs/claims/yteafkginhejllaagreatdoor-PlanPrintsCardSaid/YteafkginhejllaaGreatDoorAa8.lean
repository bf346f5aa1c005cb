/- What a line says is put into the layout: one contract for all forms. Conditions: as stated. -/
import Derived.Test.YteafkginhejllaaGreatDoorCa8
import Derived.Test.YteafkginhejllaaGreatDoorAb8
import Derived.Test.YteafkginhejllaaGreatDoorAs8
import Derived.Test.YteafkginhejllaaGreatDoorAj8
import Derived.Test.YteafkginhejllaaGreatDoorAe8
namespace Go.Proofs.YteafkginhejllaaGreatDoor
open Go.ChangeShapes Go.WideShapes Go.ChangeAt Go.RowKit
/-- What a form's function leads to beside its arguments. -/
def LbOK (w : World) (lb : Array Value) (ok : Option Int) : Prop :=
  match ok with
  | none => lb = #[]
  | some k => ∃ m, lb = #[.pointer (some ⟨m, 0, none⟩)] ∧ Blk w m #[.int .i64 k]
theorem read_err {k : L8} {q : Int × List Int × Nat × Option Int} (L : LayD) (xs : List L8) (h : formK k = some q) : (readS L q.2.1 xs).2.2 = (lineS L (k :: xs)).1 := by
  unfold formK at h
  by_cases a1 : k = kLayout
  · subst a1; simp (decide := true) at h; subst h; exact (read_layout L xs).1
  by_cases a2 : k = kSection
  · subst a2; simp (decide := true) at h; subst h; exact (read_section L xs).1
  by_cases a3 : k = kJoint
  · subst a3; simp (decide := true) at h; subst h; exact (read_joint L xs).1
  by_cases a4 : k = kSignal
  · subst a4; simp (decide := true) at h; subst h; exact (read_signal L xs).1
  by_cases a5 : k = kBalise
  · subst a5; simp (decide := true) at h; subst h; exact (read_balise L xs).1
  by_cases a6 : k = kTrack
  · subst a6; simp (decide := true) at h; subst h; exact (read_el L xs kTrack 1 (Or.inl ⟨rfl, rfl⟩)).1
  by_cases a7 : k = kPoints
  · subst a7; simp (decide := true) at h; subst h; exact (read_points L xs).1
  by_cases a8 : k = kCross
  · subst a8; simp (decide := true) at h; subst h; exact (read_el L xs kCross 3 (Or.inr ⟨rfl, rfl⟩)).1
  simp [a1, a2, a3, a4, a5, a6, a7, a8] at h
structure Small8 (L : LayD) : Prop where
  n1 : L.secs.length ≤ 100000
  n2 : L.els.length ≤ 100000
  n3 : L.joints.length ≤ 100000
  n4 : L.sigs.length ≤ 100000
  n5 : L.bals.length ≤ 100000
theorem put_any {k : L8} {q : Int × List Int × Nat × Option Int} (L : LayD) (xs : List L8) (h : formK k = some q) (he : (lineS L (k :: xs)).1 = 0) (B base : Nat) (w : World) (lb : Array Value) (u : Value) (hb : LbOK w lb q.2.2.2) (hL : LayB w B base L) (hs : Small8 L) (bV : Nat) (hBV : B < bV) (hu : w.ownsRow bV 3 1 u (readS L q.2.1 xs).2.1.length (intsV (readS L q.2.1 xs).2.1)) :
    Calls Tryz.prog q.2.2.1 (#[.pointer (some ⟨B, 0, none⟩), str (readS L q.2.1 xs).1, u] ++ lb) w (RetA w B base (lineS L (k :: xs)).2) := by
  unfold formK at h
  by_cases a1 : k = kLayout
  · subst a1; simp (decide := true) at h; subst h
    obtain ⟨a, e1, e2⟩ := (read_layout L xs).2 he
    simp only at hb hu ⊢
    obtain rfl : lb = #[] := hb
    rw [e1, e2]
    exact add1_any B base L a u w hL
  by_cases a2 : k = kSection
  · subst a2; simp (decide := true) at h; subst h
    obtain ⟨a, e1, e2⟩ := (read_section L xs).2 he
    simp only at hb hu ⊢
    obtain rfl : lb = #[] := hb
    rw [e1, e2]
    exact add2_any B base L a u w hL hs.n1
  by_cases a3 : k = kJoint
  · subst a3; simp (decide := true) at h; subst h
    obtain ⟨a, b, c, d, e1, e2⟩ := (read_joint L xs).2 he
    simp only at hb hu ⊢
    obtain rfl : lb = #[] := hb
    rw [e1] at hu
    rw [e1, e2]
    exact add3_any B base bV L [] u a b c d w hL hs.n3 hBV hu
  by_cases a4 : k = kSignal
  · subst a4; simp (decide := true) at h; subst h
    obtain ⟨x, a, b, c, e1, e2⟩ := (read_signal L xs).2 he
    simp only at hb hu ⊢
    obtain rfl : lb = #[] := hb
    rw [e1] at hu
    rw [e1, e2]
    exact add4_any B base L x u a b c w hL hs.n4 (RS.own hu)
  by_cases a5 : k = kBalise
  · subst a5; simp (decide := true) at h; subst h
    obtain ⟨a, b, c, e1, e2⟩ := (read_balise L xs).2 he
    simp only at hb hu ⊢
    obtain rfl : lb = #[] := hb
    rw [e1] at hu
    rw [e1, e2]
    exact add5_any B base L [] u a b c w hL hs.n5 (RS.own hu)
  by_cases a6 : k = kTrack
  · subst a6; simp (decide := true) at h; subst h
    obtain ⟨x, s, a, b, c, e1, e2⟩ := (read_el L xs kTrack 1 (Or.inl ⟨rfl, rfl⟩)).2 he
    simp only at hb
    obtain ⟨m, rfl, hm⟩ := hb
    have hf : elFs 1 = [0, 2, 1, 1, 1] := rfl
    simp only [hf] at hu ⊢
    rw [e1] at hu
    rw [e1, e2]
    exact adde_any B base m 1 L x u s a b c w hL hs.n2 (by decide) hm (RS.own hu)
  by_cases a7 : k = kPoints
  · subst a7; simp (decide := true) at h; subst h
    obtain ⟨x, s, a, b, c, d, e1, e2⟩ := (read_points L xs).2 he
    simp only at hb
    obtain ⟨m, rfl, hm⟩ := hb
    have hf : elFs 2 = [0, 2, 1, 1, 1, 1] := rfl
    simp only [hf] at hu ⊢
    rw [e1] at hu
    rw [e1, e2]
    exact adde2_any B base m L x u s a b c d w hL hs.n2 hm (RS.own hu)
  by_cases a8 : k = kCross
  · subst a8; simp (decide := true) at h; subst h
    obtain ⟨x, s, a, b, c, e1, e2⟩ := (read_el L xs kCross 3 (Or.inr ⟨rfl, rfl⟩)).2 he
    simp only at hb
    obtain ⟨m, rfl, hm⟩ := hb
    have hf : elFs 3 = [0, 2, 1, 1, 1] := rfl
    simp only [hf] at hu ⊢
    rw [e1] at hu
    rw [e1, e2]
    exact adde_any B base m 3 L x u s a b c w hL hs.n2 (by decide) hm (RS.own hu)
  simp [a1, a2, a3, a4, a5, a6, a7, a8] at h
/-- The forms' fields and functions. -/
theorem form_fields {k : L8} {q : Int × List Int × Nat × Option Int} (h : formK k = some q) : (∀ f ∈ q.2.1, f = 0 ∨ f = 1 ∨ f = 2 ∨ f = 3) ∧ q.2.1.length ≤ 100 ∧ ∀ (args : Array Value) (w : World), (callFunc q.2.2.1 args).run Tryz.prog w = .ok (.enter q.2.2.1 args) w := by
  have f1 : elFs 1 = [0, 2, 1, 1, 1] := rfl
  have f2 : elFs 2 = [0, 2, 1, 1, 1, 1] := rfl
  have f3 : elFs 3 = [0, 2, 1, 1, 1] := rfl
  unfold formK at h
  by_cases a1 : k = kLayout
  · subst a1; simp (decide := true) at h; subst h; exact ⟨by simp, by simp, enters_of Tryz.func119 (by kernel_rfl) rfl⟩
  by_cases a2 : k = kSection
  · subst a2; simp (decide := true) at h; subst h; exact ⟨by simp, by simp, enters_of Tryz.func120 (by kernel_rfl) rfl⟩
  by_cases a3 : k = kJoint
  · subst a3; simp (decide := true) at h; subst h; exact ⟨by simp, by simp, enters_of Tryz.func121 (by kernel_rfl) rfl⟩
  by_cases a4 : k = kSignal
  · subst a4; simp (decide := true) at h; subst h; exact ⟨by simp, by simp, enters_of Tryz.func122 (by kernel_rfl) rfl⟩
  by_cases a5 : k = kBalise
  · subst a5; simp (decide := true) at h; subst h; exact ⟨by simp, by simp, enters_of Tryz.func123 (by kernel_rfl) rfl⟩
  by_cases a6 : k = kTrack
  · subst a6; simp (decide := true) at h; subst h; exact ⟨by simp [f1], by simp [f1], enters_of Tryz.func138 (by kernel_rfl) rfl⟩
  by_cases a7 : k = kPoints
  · subst a7; simp (decide := true) at h; subst h; exact ⟨by simp [f2], by simp [f2], enters_of Tryz.func138 (by kernel_rfl) rfl⟩
  by_cases a8 : k = kCross
  · subst a8; simp (decide := true) at h; subst h; exact ⟨by simp [f3], by simp [f3], enters_of Tryz.func138 (by kernel_rfl) rfl⟩
  simp [a1, a2, a3, a4, a5, a6, a7, a8] at h
end Go.Proofs.YteafkginhejllaaGreatDoor
