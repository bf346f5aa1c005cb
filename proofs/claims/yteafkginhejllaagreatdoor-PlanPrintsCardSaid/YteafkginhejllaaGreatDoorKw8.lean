/- Contracts of kinds and kindWord. Conditions: the kind is one of the three. -/
import Derived.Test.YteafkginhejllaaGreatDoorMi8
import Derived.Test.YteafkginhejllaaGreatDoorR8
namespace Go.Proofs.YteafkginhejllaaGreatDoor
open Go.ChangeShapes Go.WideShapes Go.ChangeAt Go.RowKit
open Go.ChangeMaps
open Go.MapKept Go.Maps
def kindsM : List (L8 × Int) := [(kTrack, 1), (kPoints, 2), (kCross, 3)]
abbrev iV (n : Int) : Value := .int .i64 n
abbrev sV (s : L8) : Value := str s
theorem lit_track : str kTrack = .string ⟨#[116, 114, 97, 99, 107]⟩ := rfl
theorem lit_points : str kPoints = .string ⟨#[112, 111, 105, 110, 116, 115]⟩ := rfl
theorem lit_cross : str kCross = .string ⟨#[99, 114, 111, 115, 115]⟩ := rfl
theorem lit_layout : str kLayout = .string ⟨#[108, 97, 121, 111, 117, 116]⟩ := rfl
theorem lit_section : str kSection = .string ⟨#[115, 101, 99, 116, 105, 111, 110]⟩ := rfl
theorem lit_joint : str kJoint = .string ⟨#[106, 111, 105, 110, 116]⟩ := rfl
theorem lit_signal : str kSignal = .string ⟨#[115, 105, 103, 110, 97, 108]⟩ := rfl
theorem lit_balise : str kBalise = .string ⟨#[98, 97, 108, 105, 115, 101]⟩ := rfl
theorem below_of_grown {B : Nat} {a w w' : World} {b : Nat} (h : Below B a w) (hg : w.grownBy w' (some b)) (hb : B ≤ b) (hs : B ≤ w.heap.size) : Below B a w' :=
  h.grown hg hs (fun k hk => by cases hk; exact hb)
theorem kinds_any (w : World) : Calls Tryz.prog 124 #[] w fun e w' => ∃ b, e = .returned (.map (some b)) ∧ OwnB sV iV w' b kindsM ∧ Below w.heap.size w w' ∧ w.heap.size ≤ b := by
  have hu := Tryz.underlying140
  obtain ⟨w1, hw1⟩ : ∃ w1, w1 = w.alloc (.map #[] 0) := ⟨_, rfl⟩
  have h0 : OwnB sV iV w1 w.heap.size ([] : List (L8 × Int)) := by rw [hw1]; exact OwnB.made w
  obtain ⟨w2, r2, h2, g2, z2⟩ := h0.store key_str (by simp) hu kTrack 1
  obtain ⟨w3, r3, h3, g3, z3⟩ := h2.store key_str (by simp [putM]) hu kPoints 2
  obtain ⟨w4, r4, h4, g4, z4⟩ := h3.store key_str (by decide) hu kCross 3
  have b1 : Below w.heap.size w w1 := by rw [hw1]; exact (Below.refl _ _).alloc (Nat.le_refl _) _
  have s1 := b1.size
  have b4 := below_of_grown (below_of_grown (below_of_grown b1 g2 (Nat.le_refl _) s1) g3 (Nat.le_refl _) (by omega)) g4 (Nat.le_refl _) (by omega)
  have e4 : OwnB sV iV w4 w.heap.size kindsM := h4
  clear h0 h2 h3 h4 g2 g3 g4 z2 z3 z4 b1 s1
  have r1 : (Instr.makeMap 140 none).run Tryz.prog w = .ok (.map (some w.heap.size)) w1 := by rw [hw1]; exact run_makeMap _ _
  simp only [sV, iV, lit_track, lit_points, lit_cross] at r2 r3 r4
  clear hw1
  go_enter Tryz.func124, Tryz.ntmps124
  go_wp2
  go_ret
  exact ⟨_, rfl, e4, b4, Nat.le_refl _⟩
def kindW (k : Int) : L8 := if k = 2 then kPoints else if k = 3 then kCross else kTrack
theorem kinds_has {k : Int} (h : k = 1 ∨ k = 2 ∨ k = 3) : (kindW k, k) ∈ kindsM ∧ ∀ p ∈ kindsM, p.2 = k → p.1 = kindW k := by
  rcases h with rfl | rfl | rfl <;> exact ⟨by decide, by decide⟩
set_option maxRecDepth 100000 in
theorem kindWord_any (k : Int) (hk : k = 1 ∨ k = 2 ∨ k = 3) (w : World) : Calls Tryz.prog 92 #[.int .i64 k] w (RetV w (str (kindW k))) := by
  obtain ⟨hk1, hk2⟩ := kinds_has hk
  clear hk
  obtain ⟨s, hs⟩ : ∃ s, kindW k = s := ⟨_, rfl⟩
  rw [hs] at hk1 hk2 ⊢
  clear hs
  have KK := kinds_any w
  go_enter Tryz.func92, Tryz.ntmps92
  go_wp2_with (go_at_call 124
               refine KK.mono ?_
               rintro e w1 ⟨b, rfl, o1, b1, hb⟩
               have hlt := o1.lt
               obtain ⟨w2, q1, i2, b2, z2⟩ := o1.range Tryz.underlying140
               have b3 := b1.trans (b2.mono b1.size)
               have hs1 := b1.size
               have I2 := Lib.hid i2
               clear i2 o1 b1 b2)
  obtain ⟨r, hr⟩ : ∃ r, w1.heap.size = r := ⟨_, rfl⟩
  rw [hr] at I2 z2 hlt ⊢
  have hbr : b ≠ r := by omega
  have hwr : w.heap.size ≤ r := by omega
  clear q1 z2 hlt hs1 hr KK
  go_loopg [7] 3 (fun g _ wx => ∃ todo, todo.length = g ∧ Below w.heap.size w wx ∧ Hid (IterM sV iV wx r b todo) ∧ Hid ((s, k) ∈ todo ∧ ∀ p ∈ todo, p.2 = k → p.1 = s))
  case atStart => exact ⟨kindsM, rfl, b3, I2, Lib.hid ⟨hk1, hk2⟩⟩
  case round =>
    obtain ⟨todo, hl, hB, hI, hT⟩ := hrel
    clear I2 b3 hk1 hk2
    rcases hI.out.next (P := Tryz.prog) hbr 0 with ⟨e0, _⟩ | ⟨i, ⟨x, n⟩, w3, hp, q1, q2, i3, g3, _⟩
    · subst e0
      exact absurd hT.out.1 (by simp)
    · have B3 := below_of_grown hB g3 hwr hB.size
      have I3 := Lib.hid i3
      have hx := hT.out.2 _ (List.mem_of_getElem? hp)
      simp only [sV, iV] at q1 q2
      by_cases hn : n = k
      · obtain rfl : x = s := hx hn
        subst hn
        clear i3 g3 hT hI hp hl hx
        go_wp2
        go_ret
        exact ⟨rfl, B3⟩
      · have T3 : Hid ((s, k) ∈ todo.eraseIdx i ∧ ∀ p ∈ todo.eraseIdx i, p.2 = k → p.1 = s) := by
          refine Lib.hid ⟨?_, fun p hp => hT.out.2 p (List.mem_of_mem_eraseIdx hp)⟩
          obtain ⟨j, hj⟩ := List.mem_iff_getElem?.1 hT.out.1
          have hij : j ≠ i := by
            intro e
            subst e
            rw [hj] at hp
            injection hp with hp
            injection hp with _ hp
            exact hn hp.symm
          exact (List.mem_eraseIdx_iff_getElem? (l := todo) (k := i)).2 ⟨j, hij, hj⟩
        have hlen : (todo.eraseIdx i).length = gk - 1 := by
          rw [List.length_eraseIdx, if_pos (List.getElem?_eq_some_iff.1 hp).1, hl]
        have hpos : 0 < gk := by
          have := (List.getElem?_eq_some_iff.1 hp).1
          omega
        have hne : (n == k) = false := by simpa using hn
        replace hlen := Lib.hid hlen
        clear i3 g3 hT hI hp hl hx hn
        go_wp2
        go_roundg (gk - 1)
        case measure => omega
        case rel => exact ⟨_, hlen.out, B3, I3, T3⟩
end Go.Proofs.YteafkginhejllaaGreatDoor
