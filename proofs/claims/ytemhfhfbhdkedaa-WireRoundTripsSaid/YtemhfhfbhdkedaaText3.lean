/- Contracts of the readers of texts and of lists. Conditions: as stated. -/
import Derived.Test.YtemhfhfbhdkedaaRead3
import Derived.Laws.DeepStrings4
namespace Go.Proofs.Ytemhfhfbhdkedaa
open Go.ChangeShapes Go.WideShapes Go.ChangeAt Go.RowKit
theorem part_conv {w : World} {l x : List UInt8} {a o n C cap : Nat} {fr : Nat × Nat} (hx : x = (l.drop a).take n) (hn : a + n ≤ l.length) (ho : o = a ∨ n = 0) :
    (convert 52 9 (.slice (some ⟨w.heap.size, o, none⟩) n cap)).run Try.prog (w.alloc (.cells (bytesRow (sb l) C) 5 fr)).drew = .ok (str x) (w.alloc (.cells (bytesRow (sb l) C) 5 fr)).drew := by
  have hl : x.length = n := by rw [hx, List.length_take, List.length_drop]; omega
  subst hl
  refine run_convert_bytes_back _ _ _ 5 _ cap x Try.underlying52 Try.underlying5 Try.underlying9 fun j hj => ?_
  obtain rfl : o = a := by omega
  have e : (⟨w.heap.size, o, none⟩ : Addr).add j = ⟨w.heap.size, o + j, none⟩ := by
    unfold Addr.add
    split
    · rename_i h0; subst h0; rfl
    · rfl
  have h1 : (w.alloc (.cells (bytesRow (sb l) C) 5 fr)).cell? ⟨w.heap.size, o + j, none⟩ = _ := World.cell?_alloc_mark w _ _ fr (o + j)
  have h2 := bytesRow_at (sb l) C (o + j) (by simp; omega)
  rw [e]
  refine Eq.trans h1 (h2.trans ?_)
  congr 3
  have : x[j] = l[o + j]'(by omega) := by
    have e2 : x[j]? = l[o + j]? := by rw [hx, List.getElem?_take, if_pos hj, List.getElem?_drop]
    rw [List.getElem?_eq_getElem hj, List.getElem?_eq_getElem (by omega)] at e2
    exact Option.some.inj e2
  rw [this]; rfl
set_option maxHeartbeats 400000 in
theorem part_any (l : List UInt8) (a b : Nat) (w : World) (hl : l.length ≤ 100000) (h1 : a ≤ b) (h2 : b ≤ l.length) :
    Calls Try.prog 41 #[str l, .int .i64 a, .int .i64 b] w fun e w' => ∃ v', e = .returned v' ∧ (convert 52 9 v').run Try.prog w' = .ok (str ((l.drop a).take (b - a))) w' ∧ Below w.heap.size w w' := by
  have hs := sb_size l
  have K := run_bytes_of_string (P := Try.prog) w 9 52 5 (sb l) Try.underlying9 Try.underlying52 Try.underlying5
  rw [hs] at K
  have G := grownCap_ge w l.length 0 5
  obtain ⟨C, hC⟩ : ∃ C, grownCap w l.length 0 5 = C := ⟨_, rfl⟩
  rw [hC] at K G
  obtain ⟨R, hR⟩ : ∃ R, bytesRow (sb l) C = R := ⟨_, rfl⟩
  rw [hR] at K
  have V : ∀ (ww : World) (o : Nat) (fr : Nat × Nat), o = a ∨ b - a = 0 → (convert 52 9 (.slice (some ⟨ww.heap.size, o, none⟩) (b - a) (b - a))).run Try.prog (ww.alloc (.cells R 5 fr)).drew = .ok (str ((l.drop a).take (b - a))) (ww.alloc (.cells R 5 fr)).drew := by
    subst hR
    exact fun ww o fr ho => part_conv rfl (by omega) ho
  replace V := Lib.hid V
  replace hC := Lib.hid hC
  replace hR := Lib.hid hR
  replace hs := Lib.hid hs
  by_cases hab : a = b
  · subst hab
    go_enter Try.func41, Try.ntmps41
    go_wp2
    go_ret
    refine ⟨_, rfl, ?_, bdrew ((Below.refl _ _).alloc (Nat.le_refl _) _) 1⟩
    have := V.out w 0 (R.size, R.size + 1) (by omega)
    simpa using this
  · have h3 : b ≠ a := fun h => hab h.symm
    go_enter Try.func41, Try.ntmps41
    go_wp2
    go_ret
    refine ⟨_, rfl, ?_, bdrew ((Below.refl _ _).alloc (Nat.le_refl _) _) 1⟩
    exact V.out w a (R.size, R.size + 1) (Or.inl rfl)
def RetT (w : World) (v : Value) (e : Ending) (w' : World) : Prop := e = .returned v ∧ Below w.heap.size w w'
theorem ret3_t {l m : List UInt8} {t t' e : Int} (h : l = m) (h2 : t = t') : Ending.returned (.tuple #[str l, .int .i64 t, .int .i64 e]) = .returned (.tuple #[str m, .int .i64 t', .int .i64 e]) := by rw [h, h2]
set_option maxHeartbeats 1000000 in
theorem takeText_any (l : List UInt8) (at_ most : Int) (w : World) (hl : l.length ≤ 100000) (ha : In64 at_) (hm : In64 most) :
    Calls Try.prog 28 #[str l, .int .i64 at_, .int .i64 most] w (RetV w (outT (tT l at_ most))) := by
  have K := takeCount_any l at_ most w (by omega) ha hm
  cases h : tC l at_ most with
  | ok x =>
    obtain ⟨n, t⟩ := x
    rw [h] at K
    obtain ⟨g1, g2, g3⟩ := tC_ok h
    obtain ⟨f1, f2, f3, f4, f5⟩ := tU_ok g1
    obtain ⟨c, rfl⟩ : ∃ c : Nat, t = c := ⟨t.toNat, by omega⟩
    have E := Lib.hid (show tT l at_ most = .ok ((l.drop c).take n, (c : Int) + n) by rw [tT, h]; rfl)
    replace h := Lib.hid h
    replace f5 := Lib.hid f5
    replace g1 := Lib.hid g1
    have P := part_any l c (c + n) w hl (by omega) (by omega)
    rw [show c + n - c = n by omega, Int.natCast_add] at P
    go_enter Try.func28, Try.ntmps28
    go_wp2_with fail
    refine K.mono ?_
    rintro e w' ⟨rfl, rfl⟩
    simp only [outC]
    go_wp2_with fail
    refine P.mono ?_
    rintro e w1 ⟨v1, rfl, hc, bb⟩
    clear P K
    go_wp2
    go_ret3
    rw [E.out]
    exact ⟨rfl, bb⟩
  | err e =>
    rw [h] at K
    have E := Lib.hid (show tT l at_ most = .err e by rw [tT, h])
    have hne := ne_flag (tC_err h)
    replace h := Lib.hid h
    go_enter Try.func28, Try.ntmps28
    go_wp2_with fail
    refine K.mono ?_
    rintro e w' ⟨rfl, rfl⟩
    simp only [outC]
    go_wp2
    go_ret3
    rw [E.out]
    exact ⟨rfl, Below.refl _ _⟩
set_option maxHeartbeats 1000000 in
theorem rtakeText_any (l : List UInt8) (at_ most : Int) (w : World) (hl : l.length ≤ 100000) (ha : In64 at_) (hm : In64 most) :
    Calls Try.prog 29 #[str l, .int .i64 at_, .int .i64 most] w (RetV w (outT (tT l at_ most))) := by
  have K := rtakeCount_any l at_ most w (by omega) ha hm
  cases h : tC l at_ most with
  | ok x =>
    obtain ⟨n, t⟩ := x
    rw [h] at K
    obtain ⟨g1, g2, g3⟩ := tC_ok h
    obtain ⟨f1, f2, f3, f4, f5⟩ := tU_ok g1
    obtain ⟨c, rfl⟩ : ∃ c : Nat, t = c := ⟨t.toNat, by omega⟩
    have E := Lib.hid (show tT l at_ most = .ok ((l.drop c).take n, (c : Int) + n) by rw [tT, h]; rfl)
    replace h := Lib.hid h
    replace f5 := Lib.hid f5
    replace g1 := Lib.hid g1
    have X : ∀ ww : World, (Instr.slice 9 (.string ⟨l.toArray⟩) (some (.int .i64 (c : Int))) (some (.int .i64 ((c : Int) + n))) none).run Try.prog ww = .ok (str ((l.drop c).take n)) ww := by
      intro ww
      rw [run_slice_string ww 9 _ _ _ _ _ Try.underlying9 (by omega) (by omega) (by rw [sb_size]; omega), ByteArray.extract_mk]
      congr 5
      omega
    go_enter Try.func29, Try.ntmps29
    go_wp2_with fail
    refine K.mono ?_
    rintro e w' ⟨rfl, rfl⟩
    simp only [outC]
    go_wp2
    go_ret3
    rw [E.out]
    exact ⟨rfl, Below.refl _ _⟩
  | err e =>
    rw [h] at K
    have E := Lib.hid (show tT l at_ most = .err e by rw [tT, h])
    have hne := ne_flag (tC_err h)
    replace h := Lib.hid h
    go_enter Try.func29, Try.ntmps29
    go_wp2_with fail
    refine K.mono ?_
    rintro e w' ⟨rfl, rfl⟩
    simp only [outC]
    go_wp2
    go_ret3
    rw [E.out]
    exact ⟨rfl, Below.refl _ _⟩
end Go.Proofs.Ytemhfhfbhdkedaa
