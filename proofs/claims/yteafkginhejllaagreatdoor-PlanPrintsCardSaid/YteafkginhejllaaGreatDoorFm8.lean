/- Contract of forms. No condition. -/
import Derived.Test.YteafkginhejllaaGreatDoorFo8
namespace Go.Proofs.YteafkginhejllaaGreatDoor
open Go.ChangeShapes Go.WideShapes Go.ChangeAt Go.RowKit
open Go.ChangeMaps
open Go.MapKept Go.Maps
abbrev vV (v : Value) : Value := v
/-- What is known of a word: its place, its fields, its function, its kind. -/
def formK (s : L8) : Option (Int × List Int × Nat × Option Int) :=
  if s = kLayout then some (0, [0], 119, none) else if s = kSection then some (1, [0], 120, none)
  else if s = kJoint then some (3, [3, 1, 3, 1], 121, none) else if s = kSignal then some (4, [0, 3, 1, 1], 122, none)
  else if s = kBalise then some (5, [1, 3, 1], 123, none)
  else if s = kTrack then some (2, elFs 1, 138, some 1) else if s = kPoints then some (2, elFs 2, 138, some 2)
  else if s = kCross then some (2, elFs 3, 138, some 3) else none
def Good (w : World) (lo : Nat) (s : L8) (o : Option Value) : Prop :=
  match formK s with
  | none => o = none
  | some q => ∃ v, o = some v ∧ FormOK w lo v q.1 q.2.1 q.2.2.1 q.2.2.2
theorem Good.below {w w' : World} {lo : Nat} {s : L8} {o : Option Value} (h : Good w lo s o) (hb : Below w.heap.size w w') : Good w' lo s o := by
  unfold Good at h ⊢
  cases hf : formK s with
  | none => rw [hf] at h; exact h
  | some q => rw [hf] at h; obtain ⟨v, e, h⟩ := h; exact ⟨v, e, h.below hb⟩
theorem Good.grown {w w' : World} {lo B : Nat} {s : L8} {o : Option Value} (h : Good w lo s o) (hg : w.grownBy w' (some B)) (hB : B < lo ∨ ∀ cs, ¬ Blk w B cs) : Good w' lo s o := by
  unfold Good at h ⊢
  cases hf : formK s with
  | none => rw [hf] at h; exact h
  | some q => rw [hf] at h; obtain ⟨v, e, h⟩ := h; exact ⟨v, e, h.grown hg hB⟩
/-- A new entry. -/
theorem OwnB.push {w : World} {b : Nat} {m : List (L8 × Value)} (h : OwnB sV vV w b m) (x : L8) (v : Value) (hx : lookM x m = none) (hu : (m.map Prod.fst).Nodup) :
    ∃ w', (Instr.mapUpdate 110 (.map (some b)) (str x) v).run Tryz.prog w = .ok () w' ∧ OwnB sV vV w' b (m ++ [(x, v)]) ∧ w.grownBy w' (some b) ∧ w'.heap.size = w.heap.size := by
  obtain ⟨w', r, h1, g, z⟩ := h.store key_str hu Tryz.underlying110 x v
  rw [putM_new x v m hx] at h1
  exact ⟨w', r, h1, g, z⟩
theorem look_app {s x : L8} {v : Value} : ∀ {m : List (L8 × Value)}, lookM x m = none → lookM s (m ++ [(x, v)]) = if s = x then some v else lookM s m
  | [], _ => by
    simp only [List.nil_append, lookM]
    by_cases h : x = s
    · simp [h]
    · rw [if_neg h, if_neg (fun e => h e.symm)]
  | (a, c) :: r, h => by
    unfold lookM at h
    by_cases ha : a = x
    · rw [if_pos ha] at h; cases h
    · rw [if_neg ha] at h
      simp only [List.cons_append, lookM]
      rw [look_app h]
      by_cases hs : a = s
      · subst hs; rw [if_pos rfl, if_neg ha, if_pos rfl]
      · rw [if_neg hs, if_neg hs]
/-- What stands behind the inserts and in the loop. -/
def FInvM (w : World) (b : Nat) (M : List (L8 × Value)) (todo : List (L8 × Int)) (lo : Nat) : Prop :=
  OwnB sV vV w b M ∧ (M.map Prod.fst).Nodup ∧ ∀ s, (s ∈ todo.map Prod.fst → lookM s M = none) ∧ (s ∉ todo.map Prod.fst → Good w lo s (lookM s M))
theorem FInvM.below {w w' : World} {b lo : Nat} {M : List (L8 × Value)} {todo : List (L8 × Int)} (h : FInvM w b M todo lo) (hb : Below w.heap.size w w') : FInvM w' b M todo lo :=
  ⟨h.1.below hb, h.2.1, fun s => ⟨(h.2.2 s).1, fun hs => ((h.2.2 s).2 hs).below hb⟩⟩
theorem mem_erase {α : Type} : ∀ {l : List α} {i : Nat} {x s : α}, l.Nodup → l[i]? = some x → (s ∈ l.eraseIdx i ↔ s ∈ l ∧ s ≠ x)
  | [], i, x, s, _, h => by simp at h
  | a :: r, 0, x, s, hn, h => by
    simp at h
    subst h
    simp only [List.nodup_cons] at hn
    rw [List.eraseIdx_cons_zero, List.mem_cons]
    exact ⟨fun hs => ⟨Or.inr hs, fun e => hn.1 (e ▸ hs)⟩, fun ⟨h1, h2⟩ => h1.resolve_left h2⟩
  | a :: r, i + 1, x, s, hn, h => by
    have hr : r[i]? = some x := by simpa using h
    simp only [List.nodup_cons] at hn
    have hax : a ≠ x := fun e => hn.1 (e ▸ List.mem_of_getElem? hr)
    rw [List.eraseIdx_cons_succ, List.mem_cons, List.mem_cons, mem_erase hn.2 hr]
    constructor
    · rintro (rfl | ⟨h1, h2⟩)
      · exact ⟨Or.inl rfl, hax⟩
      · exact ⟨Or.inr h1, h2⟩
    · rintro ⟨rfl | h1, h2⟩
      · exact Or.inl rfl
      · exact Or.inr ⟨h1, h2⟩
theorem kinds_form {x : L8} {n : Int} (h : (x, n) ∈ kindsM) : formK x = some (2, elFs n, 138, some n) := by
  simp only [kindsM, List.mem_cons, List.mem_nil_iff, or_false, Prod.mk.injEq] at h
  rcases h with ⟨rfl, rfl⟩ | ⟨rfl, rfl⟩ | ⟨rfl, rfl⟩ <;> rfl
theorem FInvM.iter {w w' : World} {b lo r bk : Nat} {M : List (L8 × Value)} {todo t2 : List (L8 × Int)} (h : FInvM w b M todo lo) (hi : IterM sV iV w r bk t2) (hg : w.grownBy w' (some r)) (hb : b ≠ r) : FInvM w' b M todo lo := by
  have hn : ∀ cs, ¬ Blk w r cs := by
    rintro cs ⟨t, ht⟩
    obtain ⟨_, _, _, _, _, _, e, _⟩ := hi
    rw [ht] at e
    simp at e
  exact ⟨h.1.same (hg.block b h.1.lt (fun e => hb (by cases e; rfl))), h.2.1, fun s => ⟨(h.2.2 s).1, fun hs => ((h.2.2 s).2 hs).grown hg (Or.inr hn)⟩⟩
/-- The round's store. -/
theorem FInvM.push {w : World} {b lo : Nat} {M : List (L8 × Value)} {todo : List (L8 × Int)} {i : Nat} {x : L8} {n : Int} {v : Value} (h : FInvM w b M todo lo) (hbl : b < lo) (hp : todo[i]? = some (x, n)) (hk : (x, n) ∈ kindsM) (hn : (todo.map Prod.fst).Nodup)
    (hv : FormOK w lo v 2 (elFs n) 138 (some n)) :
    ∃ w', (Instr.mapUpdate 110 (.map (some b)) (str x) v).run Tryz.prog w = .ok () w' ∧ FInvM w' b (M ++ [(x, v)]) (todo.eraseIdx i) lo ∧ w.grownBy w' (some b) ∧ w'.heap.size = w.heap.size := by
  have hx : x ∈ todo.map Prod.fst := List.mem_map.2 ⟨(x, n), List.mem_of_getElem? hp, rfl⟩
  have hl := (h.2.2 x).1 hx
  obtain ⟨w', r, h1, g, z⟩ := h.1.push x v hl h.2.1
  have hpx : (todo.map Prod.fst)[i]? = some x := by simp [hp]
  refine ⟨w', r, ⟨h1, ?_, fun s => ?_⟩, g, z⟩
  · rw [List.map_append, List.nodup_append]
    refine ⟨h.2.1, by simp, ?_⟩
    intro a ha c hc
    simp at hc
    intro e
    rw [e, hc] at ha
    exact (lookM_none x M).1 hl ha
  · rw [map_erase, mem_erase hn hpx, look_app hl]
    by_cases hs : s = x
    · rw [if_pos hs]
      refine ⟨fun h => absurd hs h.2, fun _ => ?_⟩
      rw [hs]
      unfold Good
      rw [kinds_form hk]
      exact ⟨v, rfl, hv.grown g (Or.inl hbl)⟩
    · rw [if_neg hs]
      exact ⟨fun hh => (h.2.2 s).1 hh.1, fun hh => ((h.2.2 s).2 (fun hm => hh ⟨hm, hs⟩)).grown g (Or.inl hbl)⟩
theorem form_lit (W : World) (lo : Nat) (p : Int) (fs : List Int) (n : Nat) (f : Nat) (hn : n = fs.length) (hlo : lo ≤ W.heap.size) :
    FormOK (W.alloc (.cells (intsV fs).toArray 139)) lo (.agg #[.int .i64 p, .slice (some ⟨W.heap.size, 0, none⟩) n n, .func (.func f) #[] #[]]) p fs f none := by
  subst hn
  refine ⟨W.heap.size, fs.length, (intsV fs).toArray, #[], rfl, hlo, Blk.new _ _ _ _ rfl, fun j x hx => ?_, Nat.le_refl _, rfl⟩
  simp [intsV, hx]
set_option maxRecDepth 100000 in
set_option maxHeartbeats 8000000 in
theorem forms_any (w : World) : Calls Tryz.prog 85 #[] w fun e w' => ∃ b M, e = .returned (.map (some b)) ∧ FInvM w' b M [] (w.heap.size + 1) ∧ w.heap.size ≤ b ∧ Below w.heap.size w w' := by
  obtain ⟨w1, hw1⟩ : ∃ w1, w1 = w.alloc (.map #[] 0) := ⟨_, rfl⟩
  have h0 : OwnB sV vV w1 w.heap.size ([] : List (L8 × Value)) := by rw [hw1]; exact OwnB.made w
  have r0 : (Instr.makeMap 110 none).run Tryz.prog w = .ok (.map (some w.heap.size)) w1 := by rw [hw1]; exact run_makeMap _ _
  have b1 : Below w.heap.size w w1 := by rw [hw1]; exact (Below.refl _ _).alloc (Nat.le_refl _) _
  have z1 : w1.heap.size = w.heap.size + 1 := by rw [hw1]; simp
  clear hw1
  have step : ∀ (W : World) (m : List (L8 × Value)) (x : L8) (p : Int) (fs : List Int) (n f : Nat), OwnB sV vV W w.heap.size m → lookM x m = none → (m.map Prod.fst).Nodup → n = fs.length → Below w.heap.size w W → w.heap.size < W.heap.size →
      ∃ W' v, v = .agg #[.int .i64 p, .slice (some ⟨W.heap.size, 0, none⟩) n n, .func (.func f) #[] #[]] ∧ (Instr.mapUpdate 110 (.map (some w.heap.size)) (str x) (.agg #[.int .i64 p, .slice (some ⟨W.heap.size, 0, none⟩) n n, .func (.func f) #[] #[]])).run Tryz.prog (W.alloc (.cells (intsV fs).toArray 139)) = .ok () W' ∧ OwnB sV vV W' w.heap.size (m ++ [(x, v)]) ∧
        FormOK W' (w.heap.size + 1) v p fs f none ∧ Below w.heap.size w W' ∧ w.heap.size < W'.heap.size ∧ (∀ v' p' fs' f', FormOK W (w.heap.size + 1) v' p' fs' f' none → FormOK W' (w.heap.size + 1) v' p' fs' f' none) := by
    intro W m x p fs n f h hx hu hn hb hlt
    have ha : OwnB sV vV (W.alloc (.cells (intsV fs).toArray 139)) w.heap.size m := h.below ((Below.refl _ _).alloc (Nat.le_refl _) _)
    obtain ⟨W', r, h1, g, z⟩ := ha.push x (.agg #[.int .i64 p, .slice (some ⟨W.heap.size, 0, none⟩) n n, .func (.func f) #[] #[]]) hx hu
    have hba := hb.alloc (o := .cells (intsV fs).toArray 139) hb.size
    refine ⟨W', _, rfl, r, h1, (form_lit W (w.heap.size + 1) p fs n f hn (by omega)).grown g (Or.inl (by omega)), below_of_grown hba g (Nat.le_refl _) hba.size, by rw [z]; simp; omega, fun v' p' fs' f' hF => ?_⟩
    exact (hF.below ((Below.refl _ _).alloc (Nat.le_refl _) _)).grown g (Or.inl (by omega))
  obtain ⟨w2, V1, e1, r1, o1, f1, b2, z2, _⟩ := step w1 [] kLayout 0 [0] 1 119 h0 rfl (by simp) rfl b1 (by omega)
  obtain ⟨w3, V2, e2, r2, o2, f2, b3, z3, k2⟩ := step w2 _ kSection 1 [0] 1 120 o1 rfl (by simp) rfl b2 z2
  obtain ⟨w4, V3, e3, r3, o3, f3, b4, z4, k3⟩ := step w3 _ kJoint 3 [3, 1, 3, 1] 4 121 o2 rfl (by simp; decide) rfl b3 z3
  obtain ⟨w5, V4, e4, r4, o4, f4, b5, z5, k4⟩ := step w4 _ kSignal 4 [0, 3, 1, 1] 4 122 o3 rfl (by simp; decide) rfl b4 z4
  obtain ⟨w6, V5, e5, r5, o5, f5, b6, z6, k5⟩ := step w5 _ kBalise 5 [1, 3, 1] 3 123 o4 rfl (by simp; decide) rfl b5 z5
  have I0 : FInvM w6 w.heap.size [(kLayout, V1), (kSection, V2), (kJoint, V3), (kSignal, V4), (kBalise, V5)] kindsM (w.heap.size + 1) := by
    refine ⟨o5, by simp; decide, fun s => ⟨fun hs => ?_, fun hs => ?_⟩⟩
    · simp only [kindsM, List.map_cons, List.map_nil, List.mem_cons, List.mem_nil_iff, or_false] at hs
      rcases hs with rfl | rfl | rfl <;> rfl
    · simp only [kindsM, List.map_cons, List.map_nil, List.mem_cons, List.mem_nil_iff, or_false, not_or] at hs
      unfold Good formK
      by_cases a1 : s = kLayout
      · subst a1; exact ⟨V1, rfl, k5 _ _ _ _ (k4 _ _ _ _ (k3 _ _ _ _ (k2 _ _ _ _ f1)))⟩
      rw [if_neg a1]
      by_cases a2 : s = kSection
      · subst a2; exact ⟨V2, rfl, k5 _ _ _ _ (k4 _ _ _ _ (k3 _ _ _ _ f2))⟩
      rw [if_neg a2]
      by_cases a3 : s = kJoint
      · subst a3; exact ⟨V3, rfl, k5 _ _ _ _ (k4 _ _ _ _ f3)⟩
      rw [if_neg a3]
      by_cases a4 : s = kSignal
      · subst a4; exact ⟨V4, rfl, k5 _ _ _ _ f4⟩
      rw [if_neg a4]
      by_cases a5 : s = kBalise
      · subst a5; exact ⟨V5, rfl, f5⟩
      rw [if_neg a5, if_neg hs.1, if_neg hs.2.1, if_neg hs.2.2]
      simp only [lookM]
      rw [if_neg (fun e => a1 e.symm), if_neg (fun e => a2 e.symm), if_neg (fun e => a3 e.symm), if_neg (fun e => a4 e.symm), if_neg (fun e => a5 e.symm)]
  simp only [lit_layout, lit_section, lit_joint, lit_signal, lit_balise, intsV, List.map_cons, List.map_nil] at r1 r2 r3 r4 r5
  replace I0 := Lib.hid I0
  clear step h0 o1 o2 o3 o4 o5 f1 f2 f3 f4 f5 k2 k3 k4 k5 e1 e2 e3 e4 e5 b1 b2 b3 b4 b5 z1 z2 z3 z4 z5
  have hlo6 : w.heap.size + 1 ≤ w6.heap.size := z6
  have KK := kinds_any w6
  go_enter Tryz.func85, Tryz.ntmps85
  go_wp2_with (go_at_call 124
               refine KK.mono ?_
               rintro e w7 ⟨bk, rfl, q1, bb7, hbk⟩
               have J7 := I0.out.below bb7
               have b7 := b6.trans (bb7.mono b6.size)
               have hlt7 := q1.lt
               obtain ⟨w8, rr, i8, bb8, z8⟩ := q1.range Tryz.underlying140
               have J8 := Lib.hid (J7.below bb8)
               have b8 := b7.trans (bb8.mono b7.size)
               have hs7 := b7.size
               have hs67 := bb7.size
               have I8 := Lib.hid i8
               clear i8 q1 bb7 bb8 J7)
  clear KK I0 b6 rr r0 r1 r2 r3 r4 r5
  obtain ⟨r, hr⟩ : ∃ r, w7.heap.size = r := ⟨_, rfl⟩
  rw [hr] at I8 z8 hlt7 hs7 hs67 ⊢
  have hbr : bk ≠ r := by omega
  have hb1 : w.heap.size ≠ r := by omega
  have hb2 : w.heap.size ≠ bk := by omega
  have hwr : w.heap.size ≤ r := by omega
  have hlr : w.heap.size + 1 ≤ r := by omega
  clear z8 hlt7 hs7 hs67 hr z6 hbk
  go_loopg [18] 3 (fun g _ wx => ∃ M todo, todo.length = g ∧ Below w.heap.size w wx ∧ Hid (IterM sV iV wx r bk todo) ∧ Hid (FInvM wx w.heap.size M todo (w.heap.size + 1)) ∧ Hid ((∀ p ∈ todo, p ∈ kindsM) ∧ (todo.map Prod.fst).Nodup) ∧ Hid (r < wx.heap.size))
  case atStart => exact ⟨_, kindsM, rfl, b8, I8, J8, Lib.hid ⟨fun p hp => hp, by decide⟩, Lib.hid (by have := I8.out.lt.2; exact this)⟩
  case round =>
    obtain ⟨M, todo, hl, hB, hI, hJ, hT, hrl⟩ := hrel
    clear I8 J8 b8
    rcases hI.out.next (P := Tryz.prog) hbr 0 with ⟨e0, q1⟩ | ⟨i, ⟨x, n⟩, w3, hp, q1, q2, i3, g3, z3⟩
    · subst e0
      clear hI hl
      go_wp2
      go_ret
      exact ⟨_, M, rfl, ⟨hJ.out.1, hJ.out.2.1, hJ.out.2.2⟩, Nat.le_refl _, hB⟩
    · have hxn := hT.out.1 _ (List.mem_of_getElem? hp)
      have J3 := hJ.out.iter hI.out g3 hb1
      have B3 := below_of_grown hB g3 hwr hB.size
      have hs3 : w.heap.size + 1 ≤ w3.heap.size := by have := hrl.out; omega
      have hs0 := B3.size
      simp only [sV, iV] at q1 q2
      have KE := elementForm_any n w3
      have hlen : Hid ((todo.eraseIdx i).length = gk - 1) := Lib.hid (by rw [List.length_eraseIdx, if_pos (List.getElem?_eq_some_iff.1 hp).1, hl])
      have hpos : 0 < gk := by have := (List.getElem?_eq_some_iff.1 hp).1; omega
      have T3 : Hid ((∀ p ∈ todo.eraseIdx i, p ∈ kindsM) ∧ ((todo.eraseIdx i).map Prod.fst).Nodup) := Lib.hid ⟨fun p hp => hT.out.1 p (List.mem_of_mem_eraseIdx hp), by rw [map_erase]; exact hT.out.2.sublist (List.eraseIdx_sublist _ _)⟩
      replace J3 := Lib.hid J3
      replace hp := Lib.hid hp
      replace hxn := Lib.hid hxn
      replace i3 := Lib.hid i3
      have hrl3 : Hid (r < w3.heap.size) := Lib.hid (by have := hrl.out; omega)
      clear hJ hI hB g3 z3 hrl hl
      go_wp2_with (go_at_call 125
                   refine KE.mono ?_
                   rintro e w4 ⟨v, rfl, hv, bb4⟩
                   have J4 := J3.out.below bb4
                   have I4 := i3.out.below bb4
                   have B4 := B3.trans (bb4.mono hs0)
                   obtain ⟨w5, rr, J5, g5, z5⟩ := J4.push (by omega) hp.out hxn.out hT.out.2 (hv.mono hs3)
                   have B5 := below_of_grown B4 g5 (Nat.le_refl _) B4.size
                   have I5 : Hid (IterM sV iV w5 r bk (todo.eraseIdx i)) := Lib.hid (I4.same (g5.block _ I4.lt.1 (fun e => hb2 (by cases e; rfl))) (g5.block _ I4.lt.2 (fun e => hb1 (by cases e; rfl))))
                   have hrl5 : Hid (r < w5.heap.size) := Lib.hid I5.out.lt.2
                   replace J5 := Lib.hid J5
                   clear J4 I4 B4 hv g5 z5 bb4)
      go_roundg (gk - 1)
      case measure => omega
      case rel => exact ⟨_, _, hlen.out, B5, I5, J5, T3, hrl5⟩
end Go.Proofs.YteafkginhejllaaGreatDoor
