/- Contracts of List and FormatList, the program's. Conditions: bounds on the lengths; what the library reads (GW). -/
import Derived.Test.YtblcigddinmiaaaDoorRjoin5
namespace Go.Proofs.YtblcigddinmiaaaDoor
open Go.ChangeShapes Go.WideShapes Go.ChangeAt Go.RowKit
theorem idx_one (c : UInt8) (s : L8) : (∃ t r, s = t ++ c :: r ∧ c ∉ t ∧ Lib.index s [c] = (t.length : Int)) ∨ (c ∉ s ∧ Lib.index s [c] = -1) := by
  have e := Lib.index_one s c
  by_cases h : Lib.indexByte s c = -1
  · right
    refine ⟨fun hm => ?_, by rw [e, h]⟩
    obtain ⟨k, hk⟩ := List.mem_iff_getElem?.1 hm
    exact Lib.indexByte_none h k hk
  · left
    have hge := Lib.indexByte_ge s c
    obtain ⟨o, ho⟩ : ∃ o : Nat, Lib.indexByte s c = o := ⟨(Lib.indexByte s c).toNat, by omega⟩
    obtain ⟨h1, h2⟩ := Lib.indexByte_some ho
    obtain ⟨hl, hv⟩ := List.getElem?_eq_some_iff.1 h1
    refine ⟨s.take o, s.drop (o + 1), ?_, ?_, ?_⟩
    · rw [← hv, ← List.drop_eq_getElem_cons hl, List.take_append_drop]
    · intro hm
      obtain ⟨j, hj⟩ := List.mem_iff_getElem?.1 hm
      rw [List.getElem?_take] at hj
      split at hj
      · rename_i hjo
        exact h2 j hjo hj
      · cases hj
    · rw [e, ho, List.length_take, Nat.min_eq_left (by omega)]
theorem split_cutA (c : UInt8) : ∀ (n : Nat) (s : L8), s.length ≤ n → Lib.splitK [c] 0 (Lib.count s [c]) s = cutA c [] s
  | n, s, hn => by
    rcases idx_one c s with ⟨t, r, rfl, h1, h2⟩ | ⟨h1, h2⟩
    · cases n with
      | zero => simp at hn
      | succ n =>
        have hd : (t ++ c :: r).drop (t.length + 1) = r := by simp
        rw [Lib.count_hit (by simp) h2]
        simp only [List.length_cons, List.length_nil, Nat.zero_add, hd]
        rw [Nat.add_comm, Lib.splitK, if_neg (by rw [h2]; simp), h2, cutA_sep c t [] r h1]
        simp only [Int.toNat_natCast, Nat.add_zero, List.length_cons, List.length_nil, Nat.zero_add, hd, List.nil_append, List.take_left']
        rw [split_cutA c n r (by simp at hn; omega)]
    · rw [Lib.count_miss h2, Lib.splitK, cutA_none c s [] h1]; rfl
theorem split_bytes (c : UInt8) (s : L8) : Lib.splitB ⟨#[c]⟩ 0 (Lib.countB (sb s) ⟨#[c]⟩) (sb s) = (cutA c [] s).map sb := by
  have h := Lib.splitB_data ⟨#[c]⟩ 0 (Lib.countB (sb s) ⟨#[c]⟩) (sb s)
  have e : Lib.splitK (⟨#[c]⟩ : ByteArray).data.toList 0 (Lib.countB (sb s) ⟨#[c]⟩) (sb s).data.toList = cutA c [] s := split_cutA c _ s (Nat.le_refl _)
  rw [e] at h
  rw [← h, List.map_map]
  exact (List.map_id _).symm
def RetRS (w : World) (l : List L8) (e : Ending) (w' : World) : Prop := ∃ v, e = .returned v ∧ RS w' v (strsV l) ∧ Below w.heap.size w w'
theorem split_any (s : L8) (w : World) (hg : GW w) (hl : s.length ≤ 100000) : Calls Tryd.prog 44 #[str s, .string ⟨#[44]⟩] w (RetRS w (cutA 44 [] s)) := by
  obtain ⟨⟨m, hm⟩, _⟩ := hg
  have hlen := Lib.splitB_all ⟨#[44]⟩ (by decide) 0 _ (sb s) rfl
  rw [split_bytes, List.length_map] at hlen
  have hcl := cutA_le 44 s []
  refine (Tryd.strings_Split (sb s) ⟨#[44]⟩ m w (by rw [sb_size]; omega) hm (by decide)).mono ?_
  rintro e w' ⟨rfl, rfl⟩
  refine ⟨_, rfl, ?_, (Below.refl _ _).alloc (Nat.le_refl _) _⟩
  refine RS.new w _ _ (strsV (cutA 44 [] s)) _ _ ?_ (by rw [strsV_length]; exact hlen.symm) (by omega)
  rw [split_bytes, List.map_map]
  rfl
/-- Numbers and an error are handed back; nothing that was there has changed. -/
def RetI (w : World) (x : List Int × Int) (e : Ending) (w' : World) : Prop := ∃ v, e = .returned (.tuple #[v, .int .i64 x.2]) ∧ RS w' v (intsV x.1) ∧ Below w.heap.size w w'
theorem intsV_snoc (l : List Int) (n : Int) : intsV (l ++ [n]) = intsV l ++ [.int .i64 n] := by simp [intsV]
theorem intL_err (p : L8) : (intL p).2 = 0 ∨ (intL p).2 = 4 ∨ (intL p).2 = 17 := by
  unfold intL
  repeat' split
  all_goals simp
set_option maxRecDepth 100000 in
set_option maxHeartbeats 2000000 in
theorem list_any (s : L8) (w : World) (hG : GW w) (hl : s.length ≤ 100000) :
    Calls Tryd.prog 24 #[str s] w (RetI w (listL s)) := by
  by_cases h45 : s = [45]
  · subst h45
    have e : listL [45] = ([], 0) := rfl
    rw [e]
    go_enter Tryd.func24, Tryd.ntmps24
    go_wp2
    go_ret2
    exact ⟨_, rfl, RS.nil _ _ _, Below.refl _ _⟩
  · have z : (s == [45]) = false := by simpa using h45
    obtain ⟨q, hq⟩ : ∃ q, listL s = q := ⟨_, rfl⟩
    rw [hq]
    have KS := split_any s w hG hl
    have hpl : ∀ x ∈ cutA 44 [] s, x.length ≤ 100000 := fun x hx => by have := cutA_len 44 s [] x hx; simp at this; omega
    have hps := cutA_le 44 s []
    have S0 : intsOf [] (cutA 44 [] s) = q := by rw [← hq, listL, if_neg h45]
    obtain ⟨ps, hpp⟩ : ∃ ps, cutA 44 [] s = ps := ⟨_, rfl⟩
    rw [hpp] at KS hpl hps S0
    replace hpp := Lib.hid hpp
    replace hpl := Lib.hid hpl
    replace hq := Lib.hid hq
    have S1 := Lib.hid (show intsOf [] (ps.drop 0) = q from S0)
    replace h45 := Lib.hid h45
    go_enter Tryd.func24, Tryd.ntmps24
    go_wp2_with (go_at_call 44; refine KS.mono ?_; rintro e w1 ⟨v1, rfl, r1, b1⟩; obtain ⟨a1, c1, rfl, ⟨hm1, _⟩, HC⟩ := r1.openS)
    clear r1 KS
    go_loopg [4, 14] ps.length (fun g s4 s14 wx => ∃ (k : Nat) (acc : List Int), s14 = .int .i64 k ∧ k + g = ps.length ∧ acc.length = k ∧ wx.ownsRow w1.heap.size 3 1 s4 acc.length (intsV acc) ∧ Hid (intsOf acc (ps.drop k) = q) ∧ Below w1.heap.size w1 wx ∧ Below w.heap.size w wx)
    case atStart => exact ⟨0, [], rfl, by omega, rfl, World.ownsRow_nil _ _ _ _, S1, Below.refl _ _, b1⟩
    case round =>
      obtain ⟨k, acc, rfl, hg, hal, ho, HN, hb1, hbw⟩ := hrel
      have hsz := hbw.size
      cases gk with
      | zero =>
        have h : ¬ ((k : Int) < (ps.length : Int)) := by omega
        have E := HN.out
        rw [show ps.drop k = [] from List.drop_eq_nil_of_le (by omega), intsOf] at E
        subst E
        clear HN S1 S0
        replace hal := Lib.hid hal
        go_wp2
        go_ret2
        exact ⟨_, rfl, RS.own ho, hbw⟩
      | succ g =>
        have h : ((k : Int) < (ps.length : Int)) := by omega
        obtain ⟨p, hp, _, hmem⟩ := at_take (l := ps) (k := k) (by omega)
        obtain ⟨b, off, rfl, hlt, hcell⟩ := HC.out.rd hb1 hp
        have E := HN.out
        have hd : ps.drop k = p :: ps.drop (k + 1) := by
          obtain ⟨h1, h2⟩ := List.getElem?_eq_some_iff.1 hp
          rw [List.drop_eq_getElem_cons h1, h2]
        rw [hd, intsOf] at E
        have K := int_any p wr (hG.below hbw) (hpl.out p hmem)
        have hne := intL_err p
        obtain ⟨n, hn⟩ : ∃ n, (intL p).1 = n := ⟨_, rfl⟩
        obtain ⟨er, her⟩ : ∃ er, (intL p).2 = er := ⟨_, rfl⟩
        unfold outI at K
        rw [hn, her] at E K
        rw [her] at hne
        replace hn := Lib.hid hn
        replace her := Lib.hid her
        replace hp := Lib.hid hp
        replace hd := Lib.hid hd
        clear HN S1 S0
        by_cases h0 : er = 0
        · subst h0
          rw [if_pos rfl] at E
          replace E := Lib.hid E
          have hal2 : acc.length ≤ 100001 := by omega
          replace hal := Lib.hid hal
          go_wp2_with (first
            | (go_at_call 18; refine K.mono ?_; rintro e w2 ⟨rfl, b2⟩; have ho2 := own_below ho b2; have hbw2 := hbw.trans (b2.mono hsz); have hsz2 := hbw2.size; have hb12 := hb1.trans (b2.mono hb1.size); have hs12 := hb12.size; clear ho)
            | (at_builtin
               refine wpList_push _ rfl _ _ 39 rfl w1.heap.size 3 (.int .i64 0) 1 8 Tryd.underlying39 info_int rfl (by omega) u4 acc.length _ rfl ho2 [.int .i64 n] rfl rfl (by simp [Value.oneCell']) (by omega) (by omega) hs12 ?_
               intro v3 w3 p3 gr3 nb3
               have hb3 := below_grown hb12 gr3 ho2 (Nat.le_refl _) hs12
               have hbw3 := below_grown hbw2 gr3 ho2 b1.size hsz2
               replace p3 := Lib.hid p3
               clear nb3 gr3))
          go_roundg g
          case measure => omega
          case rel => exact ⟨k + 1, acc ++ [n], by go_num, by omega, by have := hal.out; simp; omega, by rw [intsV_snoc, List.length_append]; exact p3.out, E, hb3, hbw3⟩
        · have E2 : ([], er) = q := by rw [if_neg h0] at E; exact E
          subst E2
          have t : ((er : Int) == 0) = false := by simpa using h0
          replace hal := Lib.hid hal
          clear h0 E
          go_wp2_with (go_at_call 18; refine K.mono ?_; rintro e w2 ⟨rfl, b2⟩)
          go_ret2
          exact ⟨_, rfl, RS.nil _ _ _, hbw.trans (b2.mono hsz)⟩
end Go.Proofs.YtblcigddinmiaaaDoor
