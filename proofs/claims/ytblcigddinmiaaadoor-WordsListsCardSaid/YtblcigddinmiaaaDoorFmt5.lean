/- Contracts of Format, the program's and the reference's. Conditions: an int; what the library reads (GW). -/
import Derived.Test.YtblcigddinmiaaaDoorRint5
namespace Go.Proofs.YtblcigddinmiaaaDoor
open Go.ChangeShapes Go.WideShapes Go.ChangeAt Go.RowKit
theorem below_grow (w : World) (os : Array Obj) : Below w.heap.size w (Go.Sort.grow w os) :=
  ⟨rfl, rfl, rfl, by simp [Go.Sort.grow], fun k hk => by simp only [Go.Sort.grow]; exact Array.getElem?_append_left hk⟩
theorem format_any (n : Int) (w : World) (hn : -9223372036854775808 ≤ n ∧ n ≤ 9223372036854775807) (hg : GW w) :
    Calls Tryd.prog 20 #[.int .i64 n] w (RetV w (str (Lib.itoa n))) := by
  have K := (Tryd.strconv_Itoa n hn.1 hn.2 w hg.2.2)
  go_enter Tryd.func20, Tryd.ntmps20
  go_wp2_with (go_at_call 41; refine K.mono ?_; rintro e w1 ⟨rfl, k, os, rfl⟩)
  go_ret
  exact ⟨rfl, (bdrew (Below.refl _ _) k).trans (show Below w.heap.size (w.drewN k) _ from below_grow (w.drewN k) os)⟩
/-- The reference's loop. -/
def FInv (n m : Int) (s : L8) : Prop := (s = [] ∧ m = n) ∨ (s ≠ [] ∧ ((m = 0 ∧ s = Lib.decDigits n.natAbs) ∨ (m ≠ 0 ∧ Lib.decDigits m.natAbs ++ s = Lib.decDigits n.natAbs)))
theorem FInv.next {n m : Int} {s : L8} {d : Nat} (h : FInv n m s) (hc : m ≠ 0 ∨ s = []) (hd : d = m.natAbs % 10) : FInv n (m.tdiv 10) (UInt8.ofNat (48 + d) :: s) := by
  have e : Lib.decDigits m.natAbs ++ s = Lib.decDigits n.natAbs := by
    rcases h with ⟨h1, h2⟩ | ⟨h1, h2 | h2⟩
    · rw [h1, h2]; simp
    · rcases hc with hc | hc
      · exact absurd h2.1 hc
      · exact absurd hc h1
    · exact h2.2
  right
  refine ⟨by simp, ?_⟩
  have ha : (m.tdiv 10).natAbs = m.natAbs / 10 := by rw [Int.natAbs_tdiv]; rfl
  by_cases hs : m.natAbs < 10
  · left
    refine ⟨Int.natAbs_eq_zero.1 (by rw [ha]; omega), ?_⟩
    rw [← e, Lib.decDigits_one hs, hd, Nat.mod_eq_of_lt hs]; rfl
  · right
    refine ⟨fun h0 => ?_, ?_⟩
    · have := Int.natAbs_eq_zero.2 h0
      rw [ha] at this; omega
    · rw [ha, ← e, decDigits_step _ hs, hd]; simp
theorem FInv.last {n : Int} {s : L8} (h : FInv n 0 s) (hs : s ≠ []) : s = Lib.decDigits n.natAbs := by
  rcases h with ⟨h1, _⟩ | ⟨_, h2 | h2⟩
  · exact absurd h1 hs
  · exact h2.2
  · exact absurd rfl h2.1
theorem FInv.len {n m : Int} {s : L8} (h : FInv n m s) (hn : -9223372036854775808 ≤ n ∧ n ≤ 9223372036854775807) : s.length ≤ 1000 := by
  have hl := (itoa_len n hn).1
  have e : (Lib.decDigits n.natAbs).length ≤ 20 := by
    unfold Lib.itoa at hl
    split at hl
    · simp at hl; omega
    · rw [show n.natAbs = n.toNat by omega]; exact hl
  rcases h with ⟨h1, _⟩ | ⟨_, h2 | h2⟩
  · simp [h1]
  · rw [h2.2]; omega
  · have := congrArg List.length h2.2
    rw [List.length_append] at this; omega
theorem digit_cut {d : Nat} (h : d < 10) : ∀ ww : World, (Instr.slice 9 (.string ⟨#[48, 49, 50, 51, 52, 53, 54, 55, 56, 57]⟩) (some (.int .i64 (d : Int))) (some (.int .i64 ((d : Int) + 1))) none).run Tryd.prog ww = .ok (str [UInt8.ofNat (48 + d)]) ww := by
  intro ww
  rw [run_slice_string ww 9 _ _ _ _ _ Tryd.underlying9 (by omega) (by omega) (by show ((d : Int) + 1) ≤ 10; omega)]
  have : ∀ i : Fin 10, (([48, 49, 50, 51, 52, 53, 54, 55, 56, 57] : L8).drop ((i.val : Int)).toNat).take (((i.val : Int) + 1).toNat - ((i.val : Int)).toNat) = [UInt8.ofNat (48 + i.val)] := by decide +kernel
  rw [show (⟨#[48, 49, 50, 51, 52, 53, 54, 55, 56, 57]⟩ : ByteArray) = ByteArray.mk ([48, 49, 50, 51, 52, 53, 54, 55, 56, 57] : L8).toArray from rfl, ByteArray.extract_mk, this ⟨d, h⟩]
theorem tmod_ten (m : Int) : (0 ≤ m.tmod 10 ∧ m.tmod 10 = (m.natAbs % 10 : Nat)) ∨ (m.tmod 10 < 0 ∧ -(m.tmod 10) = (m.natAbs % 10 : Nat)) := by
  by_cases h : 0 ≤ m
  · left
    have : m.tmod 10 = m % 10 := Int.tmod_eq_emod_of_nonneg h
    omega
  · have e : m.tmod 10 = -((-m) % 10) := by
      rw [show m = -(-m) by omega, Int.neg_tmod, Int.tmod_eq_emod_of_nonneg (by omega)]; simp
    by_cases h0 : (-m) % 10 = 0
    · left; omega
    · right; omega
set_option maxRecDepth 100000 in
set_option maxHeartbeats 1000000 in
theorem rformat_any (n : Int) (w : World) (hn : -9223372036854775808 ≤ n ∧ n ≤ 9223372036854775807) :
    Calls Tryd.prog 21 #[.int .i64 n] w fun e w' => e = .returned (str (Lib.itoa n)) ∧ w = w' := by
  go_enter Tryd.func21, Tryd.ntmps21
  go_wp2
  go_loopg [3, 4] (n.natAbs + 1) (fun g s3 s4 wx => ∃ (m : Int) (s : L8), s3 = str s ∧ s4 = .int .i64 m ∧ Hid (FInv n m s) ∧ Hid (m.natAbs + (if s = [] then 1 else 0) ≤ g) ∧ (-9223372036854775808 ≤ m ∧ m ≤ 9223372036854775807) ∧ w = wx)
  case atStart => exact ⟨n, [], rfl, rfl, Lib.hid (Or.inl ⟨rfl, rfl⟩), Lib.hid (Nat.le_refl _), hn, rfl⟩
  case round =>
    obtain ⟨m, s, rfl, rfl, HN, HG, hm, rfl⟩ := hrel
    by_cases hc : m ≠ 0 ∨ s = []
    · have hsl := HN.out.len hn
      have X := digit_cut (d := m.natAbs % 10) (Nat.mod_lt _ (by omega))
      have N := Lib.hid (HN.out.next hc rfl)
      have hb : UInt8.ofNat (48 + m.natAbs % 10) :: s ≠ [] := by simp
      have ha : (m.tdiv 10).natAbs = m.natAbs / 10 := by rw [Int.natAbs_tdiv]; rfl
      have G := Lib.hid (show (m.tdiv 10).natAbs + (if UInt8.ofNat (48 + m.natAbs % 10) :: s = [] then 1 else 0) < gk by
        have := HG.out
        rw [if_neg hb, ha]
        rcases hc with hc | hc
        · split at this <;> omega
        · rw [if_pos hc] at this; omega)
      have R : -9223372036854775808 ≤ m.tdiv 10 ∧ m.tdiv 10 ≤ 9223372036854775807 := by omega
      have T := tmod_ten m
      obtain ⟨c, hcc⟩ : ∃ c, UInt8.ofNat (48 + m.natAbs % 10) = c := ⟨_, rfl⟩
      rw [hcc] at X N G
      have A : ∀ ww : World, (Op.stringOp .add ⟨[c].toArray⟩ ⟨s.toArray⟩).run Tryd.prog ww = .ok (.string ⟨(c :: s).toArray⟩) ww := fun ww => run_string_add_lists (P := Tryd.prog) ww [c] s (by simp) (by omega)
      replace hcc := Lib.hid hcc
      clear HN HG hb ha hsl
      obtain ⟨d, hd⟩ : ∃ d : Nat, m.natAbs % 10 = d := ⟨_, rfl⟩
      rw [hd] at X T
      have hd9 : d < 10 := by omega
      replace hd := Lib.hid hd
      by_cases h0 : m = 0
      · obtain rfl : s = [] := by rcases hc with h | h; exact absurd h0 h; exact h
        subst h0
        obtain rfl : d = 0 := by have := hd.out; simp at this; exact this.symm
        clear T hc
        obtain rfl : 48 = c := by have := hcc.out; simpa using this
        go_wp2
        go_roundg (((0 : Int).tdiv 10).natAbs + (if (48 : UInt8) :: [] = [] then 1 else 0))
        case measure => exact G.out
        case rel => exact ⟨(0 : Int).tdiv 10, [48], by kernel_rfl, rfl, N, Lib.hid (Nat.le_refl _), R, rfl⟩
      · clear hc
        rcases T with ⟨T1, T2⟩ | ⟨T1, T2⟩
        · go_wp2
          go_roundg ((m.tdiv 10).natAbs + (if c :: s = [] then 1 else 0))
          case measure => exact G.out
          case rel => exact ⟨m.tdiv 10, c :: s, rfl, rfl, N, Lib.hid (Nat.le_refl _), R, rfl⟩
        · go_wp2
          go_roundg ((m.tdiv 10).natAbs + (if c :: s = [] then 1 else 0))
          case measure => exact G.out
          case rel => exact ⟨m.tdiv 10, c :: s, rfl, rfl, N, Lib.hid (Nat.le_refl _), R, rfl⟩
    · have h1 : m = 0 := Decidable.byContradiction fun e => hc (Or.inl e)
      have h2 : s ≠ [] := fun e => hc (Or.inr e)
      subst h1
      have L := Lib.hid (HN.out.last h2)
      obtain ⟨z1, z2, z3⟩ := not_nil (List.length_pos_iff.2 h2)
      have hsl := HN.out.len hn
      clear hc h2 HN HG
      by_cases h0 : n < 0
      · have E := Lib.hid (show 45 :: s = Lib.itoa n by rw [Lib.itoa, if_pos h0, L.out])
        have A : ∀ ww : World, (Op.stringOp .add ⟨#[45]⟩ ⟨s.toArray⟩).run Tryd.prog ww = .ok (.string ⟨(45 :: s).toArray⟩) ww := fun ww => run_string_add_lists (P := Tryd.prog) ww [45] s (by simp) (by omega)
        go_wp2
        go_ret
        exact ⟨by rw [← E.out]; rfl, rfl⟩
      · have E := Lib.hid (show s = Lib.itoa n by rw [Lib.itoa, if_neg h0, L.out, show n.natAbs = n.toNat by omega])
        go_wp2
        go_ret
        exact ⟨by rw [← E.out]; rfl, rfl⟩
end Go.Proofs.YtblcigddinmiaaaDoor
