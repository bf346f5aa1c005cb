/- Contracts of the reference's List; FormatList, the program's and the reference's. Conditions: bounds on the lengths; what the library reads (GW). -/
import Derived.Test.YtblcigddinmiaaaDoorList5
namespace Go.Proofs.YtblcigddinmiaaaDoor
open Go.ChangeShapes Go.WideShapes Go.ChangeAt Go.RowKit
def LS (s : L8) (q : List Int × Int) (i f : Nat) (acc : List Int) : Prop := (i ≤ s.length ∧ f ≤ i ∧ intsOf acc (cutA 44 (piece s f i) (s.drop i)) = q) ∨ (i = s.length + 1 ∧ (acc, 0) = q)
set_option maxRecDepth 100000 in
set_option maxHeartbeats 2000000 in
theorem rlist_any (s : L8) (w : World) (hl : s.length ≤ 100000) :
    Calls Tryd.prog 25 #[str s] w (RetI w (listL s)) := by
  have hs := Lib.hid (sb_size s)
  by_cases h45 : s = [45]
  · subst h45
    have e : listL [45] = ([], 0) := rfl
    rw [e]
    go_enter Tryd.func25, Tryd.ntmps25
    go_wp2
    go_ret2
    exact ⟨_, rfl, RS.nil _ _ _, Below.refl _ _⟩
  · have z : (s == [45]) = false := by simpa using h45
    obtain ⟨q, hq⟩ : ∃ q, listL s = q := ⟨_, rfl⟩
    rw [hq]
    have S0 := Lib.hid (show LS s q 0 0 [] from Or.inl ⟨by omega, by omega, by rw [← hq, listL, if_neg h45, piece_self]; rfl⟩)
    replace hq := Lib.hid hq
    replace h45 := Lib.hid h45
    go_enter Tryd.func25, Tryd.ntmps25
    go_wp2
    go_loopg [4, 5, 6] (s.length + 1) (fun g s4 s5 s6 wx => ∃ (i f : Nat) (acc : List Int), s5 = .int .i64 f ∧ s6 = .int .i64 i ∧ i + g = s.length + 1 ∧ acc.length ≤ i ∧ wx.ownsRow w.heap.size 3 1 s4 acc.length (intsV acc) ∧ Hid (LS s q i f acc) ∧ Below w.heap.size w wx)
    case atStart => exact ⟨0, 0, [], rfl, rfl, by omega, by simp, World.ownsRow_nil _ _ _ _, S0, Below.refl _ _⟩
    case round =>
      clear S0
      obtain ⟨i, f, acc, rfl, rfl, hg, hal, ho, HN, hbw⟩ := hrel
      have hsz := hbw.size
      cases gk with
      | zero =>
        have h : ¬ ((i : Int) ≤ (s.length : Int)) := by omega
        have E : (acc, 0) = q := by
          rcases HN.out with e | e
          · omega
          · exact e.2
        subst E
        clear HN
        go_wp2
        go_ret2
        exact ⟨_, rfl, RS.own ho, hbw⟩
      | succ g =>
        have h : ((i : Int) ≤ (s.length : Int)) := by omega
        obtain ⟨_, hf, E⟩ : i ≤ s.length ∧ f ≤ i ∧ intsOf acc (cutA 44 (piece s f i) (s.drop i)) = q := by
          rcases HN.out with e | e
          · exact e
          · omega
        have X := piece_at (s := s) (f := f) (p := i) hf (by omega)
        have hpl := piece_len (s := s) (f := f) (p := i)
        have K := fun ww => rint_any (piece s f i) ww (by omega)
        -- what is left behind this piece
        have hrest : i < s.length → (∃ b, s[i]? = some b ∧ (b ≠ 44 → intsOf acc (cutA 44 (piece s f (i + 1)) (s.drop (i + 1))) = q) ∧ (b = 44 → intsOf acc (piece s f i :: cutA 44 (piece s (i + 1) (i + 1)) (s.drop (i + 1))) = q)) := by
          intro hlt
          obtain ⟨b, hb⟩ := at_get (l := s) (k := i) hlt
          refine ⟨b, hb, fun hne => ?_, fun he => ?_⟩
          · rw [← E, ← cutA_over (n := 1) hf (fun j hj e => by
              obtain rfl : j = 0 := by omega
              rw [Nat.add_zero, hb] at e
              exact hne (Option.some.inj e))]
          · subst he
            rw [← E, cutA_at hb, piece_self]
        have hend : i = s.length → intsOf acc [piece s f i] = q := by
          intro he
          rw [← E, show s.drop i = [] from List.drop_eq_nil_of_le (by omega)]
          rfl
        obtain ⟨p, hp⟩ : ∃ p, piece s f i = p := ⟨_, rfl⟩
        rw [hp] at hend X hpl
        simp only [hp] at hrest K
        have hne := intL_err p
        obtain ⟨n, hn⟩ : ∃ n, (intL p).1 = n := ⟨_, rfl⟩
        obtain ⟨er, her⟩ : ∃ er, (intL p).2 = er := ⟨_, rfl⟩
        unfold outI at K
        simp only [hn, her] at K
        rw [her] at hne
        replace hp := Lib.hid hp
        clear HN E
        by_cases hlt : i < s.length
        · have hlt' : ((i : Int) < (s.length : Int)) := by omega
          obtain ⟨b, hb, R1, R2⟩ := hrest hlt
          have hi := at_idx hb hs
          clear hrest hend
          by_cases c44 : b = 44
          · have E := R2 c44
            rw [intsOf, hn, her] at E
            replace hn := Lib.hid hn
            replace her := Lib.hid her
            have e44 : (b.toNat : Int) = 44 := by subst c44; rfl
            replace c44 := Lib.hid c44
            replace hb := Lib.hid hb
            clear R1 R2
            by_cases h0 : er = 0
            · subst h0
              rw [if_pos rfl] at E
              have N := Lib.hid (show LS s q (i + 1) (i + 1) (acc ++ [n]) from Or.inl ⟨by omega, by omega, E⟩)
              clear E
              go_wp2_with (first
                | (go_at_call 19; refine (K _).mono ?_; rintro e w2 ⟨rfl, rfl⟩)
                | (at_builtin
                   refine wpList_push _ rfl _ _ 39 rfl w.heap.size 3 (.int .i64 0) 1 8 Tryd.underlying39 info_int rfl (by omega) u4 acc.length _ rfl ho [.int .i64 n] rfl rfl (by simp [Value.oneCell']) (by omega) (by omega) hsz ?_
                   intro v3 w3 p3 gr3 nb3
                   have hbw3 := below_grown hbw gr3 ho (Nat.le_refl _) hsz
                   replace p3 := Lib.hid p3
                   clear nb3 gr3 ho))
              go_roundg g
              case measure => omega
              case rel => exact ⟨i + 1, i + 1, acc ++ [n], by go_num, by go_num, by omega, by simp; omega, by rw [intsV_snoc, List.length_append]; exact p3.out, N, hbw3⟩
            · have E2 : ([], er) = q := by rw [if_neg h0] at E; exact E
              subst E2
              have t : ((er : Int) == 0) = false := by simpa using h0
              clear h0 E
              go_wp2_with (go_at_call 19; refine (K _).mono ?_; rintro e w2 ⟨rfl, rfl⟩)
              go_ret2
              exact ⟨_, rfl, RS.nil _ _ _, hbw⟩
          · have N := Lib.hid (show LS s q (i + 1) f acc from Or.inl ⟨by omega, by omega, R1 c44⟩)
            have e44 : ¬ (b.toNat : Int) = 44 := fun e => c44 (UInt8.toNat_inj.1 (by show b.toNat = 44; omega))
            have g44 : ((b.toNat : Int) != 44) = true := by simp [bne]; omega
            replace hb := Lib.hid hb
            clear R1 R2
            go_wp2
            go_roundg g
            case measure => omega
            case rel => exact ⟨i + 1, f, acc, rfl, by go_num, by omega, by omega, ho, N, hbw⟩
        · have hlt' : ¬ ((i : Int) < (s.length : Int)) := by omega
          have hie : i = s.length := by omega
          have E := hend hie
          rw [intsOf, hn, her] at E
          replace hn := Lib.hid hn
          replace her := Lib.hid her
          clear hrest hend
          have hie' := Lib.hid hie
          clear hie hlt
          by_cases h0 : er = 0
          · subst h0
            rw [if_pos rfl, intsOf] at E
            have N := Lib.hid (show LS s q (i + 1) (i + 1) (acc ++ [n]) from Or.inr ⟨by rw [hie'.out], E⟩)
            clear E
            go_wp2_with (first
              | (go_at_call 19; refine (K _).mono ?_; rintro e w2 ⟨rfl, rfl⟩)
              | (at_builtin
                 refine wpList_push _ rfl _ _ 39 rfl w.heap.size 3 (.int .i64 0) 1 8 Tryd.underlying39 info_int rfl (by omega) u4 acc.length _ rfl ho [.int .i64 n] rfl rfl (by simp [Value.oneCell']) (by omega) (by omega) hsz ?_
                 intro v3 w3 p3 gr3 nb3
                 have hbw3 := below_grown hbw gr3 ho (Nat.le_refl _) hsz
                 replace p3 := Lib.hid p3
                 clear nb3 gr3 ho))
            go_roundg g
            case measure => omega
            case rel => exact ⟨i + 1, i + 1, acc ++ [n], by go_num, by go_num, by omega, by simp; omega, by rw [intsV_snoc, List.length_append]; exact p3.out, N, hbw3⟩
          · have E2 : ([], er) = q := by rw [if_neg h0] at E; exact E
            subst E2
            have t : ((er : Int) == 0) = false := by simpa using h0
            clear h0 E
            go_wp2_with (go_at_call 19; refine (K _).mono ?_; rintro e w2 ⟨rfl, rfl⟩)
            go_ret2
            exact ⟨_, rfl, RS.nil _ _ _, hbw⟩
end Go.Proofs.YtblcigddinmiaaaDoor
