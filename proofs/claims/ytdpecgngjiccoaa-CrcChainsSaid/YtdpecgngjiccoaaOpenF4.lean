/- Contracts of Open, the program's and the reference's. Conditions: as stated. -/
import Derived.Test.YtdpecgngjiccoaaSeal4
namespace Go.Proofs.Ytdpecgngjiccoaa
open Go.ChangeShapes Go.WideShapes Go.ChangeAt Go.RowKit
theorem four_of {l : List UInt8} (h : l.length = 4) : ∃ a b c d, l = [a, b, c, d] := by
  match l, h with
  | [a, b, c, d], _ => exact ⟨a, b, c, d, rfl⟩
theorem str_from {s : List UInt8} {e : Nat} (he : e ≤ s.length) : ∀ ww : World, (Instr.slice 9 (.string ⟨s.toArray⟩) (some (.int .i64 (e : Int))) none none).run Try.prog ww = .ok (str (s.drop e)) ww := by
  intro ww
  rw [run_slice_string_from_if ww 9 _ _ _ Try.underlying9, if_pos ⟨by omega, by rw [sb_size]; omega⟩, ByteArray.extract_mk]
  rw [Int.toNat_natCast, sb_size]
  rw [List.take_of_length_le (by simp)]
theorem str_to {s : List UInt8} {e : Nat} (he : e ≤ s.length) : ∀ ww : World, (Instr.slice 9 (.string ⟨s.toArray⟩) none (some (.int .i64 (e : Int))) none).run Try.prog ww = .ok (str (s.take e)) ww := by
  intro ww
  rw [run_slice_string_to_if ww 9 _ _ _ Try.underlying9, if_pos ⟨by omega, by rw [sb_size]; omega⟩, ByteArray.extract_mk]
  congr 4
/-- Four cells of a block of the call's own. -/
def Four (g : Nat) (x0 x1 x2 x3 : Value) (w0 w : World) : Prop :=
  (w.cell? ⟨g, 0, none⟩ = some x0 ∧ w.cell? ⟨g, 1, none⟩ = some x1 ∧ w.cell? ⟨g, 2, none⟩ = some x2 ∧ w.cell? ⟨g, 3, none⟩ = some x3) ∧ g < w.heap.size ∧ Below g w0 w
theorem Four.start (w : World) (x0 x1 x2 x3 : Value) (t : TypeId) : Four w.heap.size x0 x1 x2 x3 w (w.alloc (.cells #[x0, x1, x2, x3] t)).drew.drew := by
  refine ⟨⟨?_, ?_, ?_, ?_⟩, by simp, bdrew (bdrew ((Below.refl _ _).alloc (Nat.le_refl _) _) 1) 1⟩
  all_goals exact World.cell?_alloc_mark w _ _ (0, 0) _
theorem Four.below {g : Nat} {x0 x1 x2 x3 : Value} {w0 w w' : World} (h : Four g x0 x1 x2 x3 w0 w) (hb : Below w.heap.size w w') : Four g x0 x1 x2 x3 w0 w' := by
  obtain ⟨⟨h0, h1, h2, h3⟩, hg, hB⟩ := h
  exact ⟨⟨(hb.cell (p := ⟨g, 0, none⟩) hg).trans h0, (hb.cell (p := ⟨g, 1, none⟩) hg).trans h1, (hb.cell (p := ⟨g, 2, none⟩) hg).trans h2, (hb.cell (p := ⟨g, 3, none⟩) hg).trans h3⟩, Nat.lt_of_lt_of_le hg hb.size, hB.trans (hb.mono (Nat.le_of_lt hg))⟩
theorem Four.all {g : Nat} {x0 x1 x2 x3 : Value} {w0 w : World} (h : Four g x0 x1 x2 x3 w0 w) :
    w.cell? ⟨g, 0, none⟩ = some x0 ∧ w.cell? ⟨g, 1, none⟩ = some x1 ∧ w.cell? ⟨g, 2, none⟩ = some x2 ∧ w.cell? ⟨g, 3, none⟩ = some x3 ∧ Four g x0 x1 x2 x3 w0 w := ⟨h.1.1, h.1.2.1, h.1.2.2.1, h.1.2.2.2, h⟩
theorem Four.keep {g : Nat} {x0 x1 x2 x3 : Value} {w0 w w' : World} (h : Four g x0 x1 x2 x3 w0 w) (hb : Below w.heap.size w w') :
    w'.cell? ⟨g, 0, none⟩ = some x0 ∧ w'.cell? ⟨g, 1, none⟩ = some x1 ∧ w'.cell? ⟨g, 2, none⟩ = some x2 ∧ w'.cell? ⟨g, 3, none⟩ = some x3 ∧ Four g x0 x1 x2 x3 w0 w' := (h.below hb).all
abbrev u8v (b : UInt8) : Value := .int .u8 (b.toNat : Int)
def outO (x : List UInt8 × Int) : Value := .tuple #[str x.1, .int .i64 x.2]
set_option maxHeartbeats 1000000 in
theorem open_any (s : List UInt8) (w : World) (hl : s.length ≤ 100000) :
    Calls Try.prog 13 #[str s] w (RetV w (outO (openL s))) := by
  have hs := Lib.hid (sb_size s)
  by_cases h4 : s.length < 4
  · rw [openL_short h4]
    unfold outO
    have h : ((s.length : Int) - 4 < 0) := by omega
    go_enter Try.func13, Try.ntmps13
    go_wp2
    go_ret2
    exact ⟨rfl, Below.refl _ _⟩
  · obtain ⟨e, he⟩ : ∃ e, s.length - 4 = e := ⟨_, rfl⟩
    obtain ⟨a, b, c, d, hq⟩ := four_of (l := s.drop e) (by simp; omega)
    have hE : (s.length : Int) - 4 = (e : Int) := by omega
    have S1 := str_from (s := s) (e := e) (by omega)
    have S2 := str_to (s := s) (e := e) (by omega)
    rw [hq] at S1
    have ht : (s.take e).length ≤ 100000 := by simp; omega
    have O0 : [a, b, c, d] = be4 (crc (s.take e)) → openL s = (s.take e, 0) := by
      intro h; unfold openL; rw [if_neg h4, he, hq, if_pos h]
    have O1 : ¬ [a, b, c, d] = be4 (crc (s.take e)) → openL s = ([], 6) := by
      intro h; unfold openL; rw [if_neg h4, he, hq, if_neg h]
    obtain ⟨t, htt⟩ : ∃ t, s.take e = t := ⟨_, rfl⟩
    rw [htt] at S2 ht O0 O1
    have K := fun ww => sumBytes_any t ww (by omega)
    have hc := crc_lt t
    obtain ⟨n, hn⟩ : ∃ n, crc t = n := ⟨_, rfl⟩
    rw [hn] at K hc O0 O1
    have N : ∀ ww, (binOp .neq 38 (.agg #[u8v a, u8v b, u8v c, u8v d]) (.agg (quad n))).run Try.prog ww = .ok (.bool (!([a, b, c, d] == be4 n))) ww := by
      intro ww; rw [quad_row hc]; exact run_neq_bytes ww [a, b, c, d] (be4 n) rfl rfl
    replace hn := Lib.hid hn
    replace hq := Lib.hid hq
    replace he := Lib.hid he
    replace htt := Lib.hid htt
    have h0 : ¬ ((e : Int) < 0) := by omega
    clear h4
    by_cases hr : [a, b, c, d] = be4 n
    · rw [O0 hr]
      clear O0 O1
      rw [show ([a, b, c, d] == be4 n) = true by rw [hr]; exact beq_self_eq_true _] at N
      replace hr := Lib.hid hr
      unfold outO
      have B2 := (Four.start w (u8v a) (u8v b) (u8v c) (u8v d) 38).all
      go_enter Try.func13, Try.ntmps13
      go_wp2
      go_region_law (refine step_copy_new rfl (.tmp 11) (.tmp 14) rfl 4 _ _ [a, b, c, d] rfl rfl rfl rfl ?_)
      go_wp2
      go_region_held3 (fun w' => w'.cell? ⟨w.heap.size, 0, none⟩ = some (u8v a) ∧ w'.cell? ⟨w.heap.size, 1, none⟩ = some (u8v b) ∧ w'.cell? ⟨w.heap.size, 2, none⟩ = some (u8v c) ∧ w'.cell? ⟨w.heap.size, 3, none⟩ = some (u8v d) ∧ Four w.heap.size (u8v a) (u8v b) (u8v c) (u8v d) w w')
        (first | exact B2 | (go_split_ands; exact Four.keep (by assumption) bb))
        (first | (go_at_call 20; refine (K _).mono ?_; rintro e w' ⟨rfl, bb⟩))
      rename_i hH
      replace hH := hH.2.2.2.2.2.2
      go_wp2
      go_ret2
      exact ⟨rfl, hH⟩
    · rw [O1 hr]
      clear O0 O1
      rw [show ([a, b, c, d] == be4 n) = false by simpa using hr] at N
      replace hr := Lib.hid hr
      unfold outO
      have B2 := (Four.start w (u8v a) (u8v b) (u8v c) (u8v d) 38).all
      go_enter Try.func13, Try.ntmps13
      go_wp2
      go_region_law (refine step_copy_new rfl (.tmp 11) (.tmp 14) rfl 4 _ _ [a, b, c, d] rfl rfl rfl rfl ?_)
      go_wp2
      go_region_held3 (fun w' => w'.cell? ⟨w.heap.size, 0, none⟩ = some (u8v a) ∧ w'.cell? ⟨w.heap.size, 1, none⟩ = some (u8v b) ∧ w'.cell? ⟨w.heap.size, 2, none⟩ = some (u8v c) ∧ w'.cell? ⟨w.heap.size, 3, none⟩ = some (u8v d) ∧ Four w.heap.size (u8v a) (u8v b) (u8v c) (u8v d) w w')
        (first | exact B2 | (go_split_ands; exact Four.keep (by assumption) bb))
        (first | (go_at_call 20; refine (K _).mono ?_; rintro e w' ⟨rfl, bb⟩))
      rename_i hH
      replace hH := hH.2.2.2.2.2.2
      go_wp2
      go_ret2
      exact ⟨rfl, hH⟩
set_option maxHeartbeats 1000000 in
theorem ropen_any (s : List UInt8) (w : World) (hl : s.length ≤ 100000) :
    Calls Try.prog 14 #[str s] w (RetV w (outO (openL s))) := by
  have hs := Lib.hid (sb_size s)
  by_cases h4 : s.length < 4
  · rw [openL_short h4]
    unfold outO
    have h : ((s.length : Int) < 4) := by omega
    clear h4
    go_enter Try.func14, Try.ntmps14
    go_wp2
    go_ret2
    exact ⟨rfl, Below.refl _ _⟩
  · obtain ⟨e, he⟩ : ∃ e, s.length - 4 = e := ⟨_, rfl⟩
    have hE : (s.length : Int) - 4 = (e : Int) := by omega
    have S2 := str_to (s := s) (e := e) (by omega)
    have ht : (s.take e).length ≤ 100000 := by simp; omega
    have O0 : sealL (s.take e) = s → openL s = (s.take e, 0) := by
      intro h
      have := (openL_ref (s := s) (by omega)).2 (by rw [he]; exact h)
      unfold openL; rw [if_neg h4, if_pos this, he]
    have O1 : ¬ sealL (s.take e) = s → openL s = ([], 6) := by
      intro h
      have := fun g => h (by have := (openL_ref (s := s) (by omega)).1 g; rw [he] at this; exact this)
      unfold openL; rw [if_neg h4, if_neg this]
    obtain ⟨t, htt⟩ : ∃ t, s.take e = t := ⟨_, rfl⟩
    rw [htt] at S2 ht O0 O1
    have K := fun ww => rseal_any t ww (by omega)
    have h0 : decide ((s.length : Int) < 4) = false := by simp; omega
    obtain ⟨x, hx⟩ : ∃ x, sealL t = x := ⟨_, rfl⟩
    rw [hx] at K O0 O1
    replace he := Lib.hid he
    replace htt := Lib.hid htt
    replace hx := Lib.hid hx
    clear h4
    by_cases hr : x = s
    · rw [O0 hr]
      clear O0 O1
      have T : (x == s) = true := by rw [hr]; exact beq_self_eq_true _
      replace hr := Lib.hid hr
      unfold outO
      go_enter Try.func14, Try.ntmps14
      go_wp2_with fail
      refine (K _).mono ?_
      rintro e w' ⟨rfl, bb⟩
      go_wp2
      go_ret2
      exact ⟨rfl, bb⟩
    · rw [O1 hr]
      clear O0 O1
      have T : (x == s) = false := by simpa using hr
      replace hr := Lib.hid hr
      unfold outO
      go_enter Try.func14, Try.ntmps14
      go_wp2_with fail
      refine (K _).mono ?_
      rintro e w' ⟨rfl, bb⟩
      go_wp2
      go_ret2
      exact ⟨rfl, bb⟩
end Go.Proofs.Ytdpecgngjiccoaa
