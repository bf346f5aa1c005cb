/- Plain mathematics of layer 5, second part: decimal forms, names, lists of numbers. No program, no model. -/
import Derived.Test.YtblcigddinmiaaaDoorWords5
namespace Go.Proofs.YtblcigddinmiaaaDoor
def isDg (b : UInt8) : Bool := decide (48 ≤ b.toNat) && decide (b.toNat ≤ 57)
def digs (l : L8) : Bool := l.all isDg && (decide (0 < l.length) && (decide (l.head? ≠ some 48) || decide (l.length = 1)))
def stp (acc : Nat) (b : UInt8) : Nat := acc * 10 + (b.toNat - 48)
def valF (acc : Nat) (l : L8) : Nat := l.foldl stp acc
def neg (s : L8) : Bool := decide (s.head? = some 45)
def mag (s : L8) : L8 := if neg s then s.tail else s
def isDec (s : L8) : Bool := digs (mag s) && !(neg s && decide (mag s = [48]))
def intL (s : L8) : Int × Int :=
  if isDec s then (if neg s then (if valF 0 (mag s) ≤ 9223372036854775808 then (-(valF 0 (mag s) : Int), 0) else (0, 17)) else (if valF 0 (mag s) < 9223372036854775808 then ((valF 0 (mag s) : Int), 0) else (0, 17))) else (0, 4)
theorem valF_cons (acc : Nat) (b : UInt8) (r : L8) : valF acc (b :: r) = valF (acc * 10 + (b.toNat - 48)) r := by
  unfold valF
  rw [List.foldl_cons, stp]
theorem valF_nil (acc : Nat) : valF acc [] = acc := by unfold valF; rw [List.foldl_nil]
theorem valF_ge : ∀ (l : L8) (acc : Nat), acc ≤ valF acc l
  | [], acc => by rw [valF_nil]; exact Nat.le_refl acc
  | b :: r, acc => by
    have := valF_ge r (acc * 10 + (b.toNat - 48))
    rw [valF_cons]; omega
theorem valF_append : ∀ (a b : L8) (acc : Nat), valF acc (a ++ b) = valF (valF acc a) b
  | [], b, acc => by rw [List.nil_append, valF_nil]
  | x :: a, b, acc => by rw [List.cons_append, valF_cons, valF_cons]; exact valF_append a b _
theorem valF_snoc (l : L8) (b : UInt8) : valF 0 (l ++ [b]) = valF 0 l * 10 + (b.toNat - 48) := by rw [valF_append, valF_cons, valF_nil]
theorem valF_take {l : L8} {k : Nat} : valF 0 (l.take k) ≤ valF 0 l := by
  have h := valF_append (l.take k) (l.drop k) 0
  rw [List.take_append_drop] at h
  rw [h]
  exact valF_ge _ _
theorem isDg_iff {b : UInt8} : isDg b = true ↔ 48 ≤ b.toNat ∧ b.toNat ≤ 57 := by simp [isDg]
theorem parse_digits : ∀ (l : L8) (acc : Nat), acc < 18446744073709551616 → l.all isDg = true → Lib.parseUint10 acc l = if valF acc l < 18446744073709551616 then .ok (valF acc l) else .range
  | [], acc, ha, _ => by rw [Lib.parseUint10, valF_nil, if_pos ha]
  | b :: r, acc, ha, h => by
    simp only [List.all_cons, Bool.and_eq_true] at h
    have hb := isDg_iff.1 h.1
    have hge := valF_ge r (acc * 10 + (b.toNat - 48))
    rw [Lib.parseUint10, if_pos hb, valF_cons]
    by_cases h1 : 1844674407370955162 ≤ acc
    · rw [if_pos h1, if_neg (by omega)]
    · rw [if_neg h1]
      by_cases h2 : 18446744073709551616 ≤ acc * 10 + (b.toNat - 48)
      · rw [if_pos h2, if_neg (by omega)]
      · rw [if_neg h2, parse_digits r _ (by omega) h.2]
theorem digs_all {l : L8} (h : digs l = true) : l.all isDg = true := by simp only [digs, Bool.and_eq_true] at h; exact h.1
theorem digs_pos {l : L8} (h : digs l = true) : 0 < l.length := by simp only [digs, Bool.and_eq_true, decide_eq_true_eq] at h; exact h.2.1
theorem digs_ne {l : L8} (h : digs l = true) : l ≠ [] := by intro e; subst e; simp [digs] at h
/-- What strconv.Atoi does with a decimal form. -/
theorem atoi_dec {s : L8} (h : isDec s = true) : Lib.atoiAll s = if neg s then (if valF 0 (mag s) ≤ 9223372036854775808 then .ok (-(valF 0 (mag s) : Int)) else .range) else (if valF 0 (mag s) < 9223372036854775808 then .ok (valF 0 (mag s) : Int) else .range) := by
  simp only [isDec, Bool.and_eq_true] at h
  have hd := h.1
  have P : Lib.parseMag (mag s) = if valF 0 (mag s) < 18446744073709551616 then .ok (valF 0 (mag s)) else .range := by
    rw [Lib.parseMag, if_neg (digs_ne hd), parse_digits _ 0 (by omega) (digs_all hd)]
  cases s with
  | nil => simp [mag, neg, digs] at hd
  | cons c r =>
    by_cases hn : c = 45
    · subst hn
      have e : mag (45 :: r) = r := rfl
      have en : neg (45 :: r) = true := rfl
      rw [e] at P ⊢
      rw [en, if_pos rfl]
      have hm : (if (45 : UInt8).toNat = 43 ∨ (45 : UInt8).toNat = 45 then r else 45 :: r) = r := rfl
      simp only [Lib.atoiAll, hm, P]
      by_cases h1 : valF 0 r < 18446744073709551616
      · simp only [if_pos h1]
        by_cases h2 : valF 0 r ≤ 9223372036854775808
        · rw [if_neg (fun e => e.1 rfl), if_neg (by omega), if_pos (show (45 : UInt8).toNat = 45 from rfl), if_pos h2]
        · rw [if_neg (fun e => e.1 rfl), if_pos ⟨rfl, by omega⟩, if_neg h2]
      · simp only [if_neg h1]
        rw [if_neg (by omega)]
    · have en : neg (c :: r) = false := by simp [neg, hn]
      have e : mag (c :: r) = c :: r := by simp [mag, en]
      rw [e] at P hd ⊢
      rw [en]
      have hc := isDg_iff.1 (by have := digs_all hd; simp only [List.all_cons, Bool.and_eq_true] at this; exact this.1)
      have hm : (if c.toNat = 43 ∨ c.toNat = 45 then r else c :: r) = c :: r := if_neg (by omega)
      simp only [Lib.atoiAll, hm, P]
      have h45 : ¬ c.toNat = 45 := by omega
      by_cases h1 : valF 0 (c :: r) < 18446744073709551616
      · simp only [if_pos h1, h45, not_false_eq_true, true_and, false_and, if_false]
        by_cases h2 : valF 0 (c :: r) < 9223372036854775808
        · rw [if_neg (by omega), if_pos h2]; rfl
        · rw [if_pos (by omega), if_neg h2]; rfl
      · simp only [if_neg h1]
        have : ¬ valF 0 (c :: r) < 9223372036854775808 := by omega
        rw [if_neg (by decide), if_neg this]
theorem trim_mag (s : L8) : Lib.trimPrefix s [45] = mag s := by
  cases s with
  | nil => rfl
  | cons c r =>
    by_cases hn : c = 45
    · subst hn; simp [Lib.trimPrefix, Lib.hasPrefix, mag, neg]
    · simp [Lib.trimPrefix, Lib.hasPrefix, mag, neg, hn, List.isPrefixOf]
      intro h; exact absurd h.symm hn
/-- The program's test. -/
theorem isDec_prog {s : L8} (h0 : mag s ≠ []) (ha : (mag s).all isDg = true) : isDec s = (!decide ((mag s).head? = some 48) || decide (s = [48])) := by
  have hl : 0 < (mag s).length := List.length_pos_iff.2 h0
  by_cases hn : neg s = true
  · have hs : ¬ s = [48] := by intro e; subst e; simp [neg] at hn
    by_cases h48 : (mag s).head? = some 48
    · by_cases h1 : mag s = [48]
      · simp [isDec, hn, h1, hs]
      · have : ¬ (mag s).length = 1 := by
          intro e
          obtain ⟨x, hx⟩ := List.length_eq_one_iff.1 e
          rw [hx] at h48 h1
          simp at h48
          exact h1 (by rw [h48])
        simp [isDec, digs, hn, h48, hs, this]
    · have : ¬ mag s = [48] := by intro e; rw [e] at h48; exact h48 rfl
      simp [isDec, digs, ha, hl, h48, this]
  · have e : mag s = s := by simp [mag, hn]
    rw [e] at ha hl ⊢
    simp only [Bool.not_eq_true] at hn
    simp only [isDec, e, hn, Bool.false_and, Bool.not_false, Bool.and_true, digs, ha, hl, decide_true, Bool.true_and]
    by_cases h48 : s.head? = some 48
    · by_cases h1 : s.length = 1
      · obtain ⟨x, hx⟩ := List.length_eq_one_iff.1 h1
        subst hx
        simp at h48
        subst h48
        rfl
      · have : ¬ s = [48] := by intro e; subst e; exact h1 rfl
        simp [h48, h1, this]
    · simp [h48]
theorem isDec_none {s : L8} (h : mag s = []) : isDec s = false := by simp [isDec, digs, h]
theorem isDec_bad {s : L8} (h : (mag s).all isDg = false) : isDec s = false := by simp [isDec, digs, h]
theorem intL_bad {s : L8} (h : isDec s = false) : intL s = (0, 4) := by simp [intL, h]
/-- Decimal digits of a number, and back. -/
theorem decDigits_step (u : Nat) (h : ¬ u < 10) : Lib.decDigits u = Lib.decDigits (u / 10) ++ [UInt8.ofNat (48 + u % 10)] := by rw [Lib.decDigits, dif_neg h]
theorem dg_nat {d : Nat} (h : d < 10) : (UInt8.ofNat (48 + d)).toNat = 48 + d := by simp; omega
theorem dg_is {d : Nat} (h : d < 10) : isDg (UInt8.ofNat (48 + d)) = true := by rw [isDg_iff, dg_nat h]; omega
theorem dec_all (u : Nat) : (Lib.decDigits u).all isDg = true := by
  induction u using Nat.strongRecOn with
  | _ u ih =>
    by_cases h : u < 10
    · rw [Lib.decDigits_one h, List.all_cons, dg_is h]; rfl
    · rw [decDigits_step u h, List.all_append, ih (u / 10) (by omega), List.all_cons, dg_is (Nat.mod_lt u (by omega))]; rfl
theorem dec_val (u : Nat) : valF 0 (Lib.decDigits u) = u := by
  induction u using Nat.strongRecOn with
  | _ u ih =>
    by_cases h : u < 10
    · rw [Lib.decDigits_one h, valF_cons, valF_nil, dg_nat h]; omega
    · rw [decDigits_step u h, valF_snoc, ih (u / 10) (by omega), dg_nat (Nat.mod_lt u (by omega))]; omega
theorem dec_len (u : Nat) : 0 < (Lib.decDigits u).length := by rw [Lib.decDigits_length]; exact Lib.nDigits_pos u
theorem dec_head (u : Nat) (h : 0 < u) : (Lib.decDigits u).head? ≠ some 48 := by
  induction u using Nat.strongRecOn with
  | _ u ih =>
    by_cases h1 : u < 10
    · rw [Lib.decDigits_one h1]
      intro e
      simp only [List.head?_cons, Option.some.injEq] at e
      have := congrArg UInt8.toNat e
      rw [dg_nat h1] at this
      simp at this; omega
    · rw [decDigits_step u h1]
      have hl := dec_len (u / 10)
      have := ih (u / 10) (by omega) (by omega)
      cases hc : Lib.decDigits (u / 10) with
      | nil => rw [hc] at hl; simp at hl
      | cons x xs => rw [hc] at this; simpa using this
theorem dec_digs (u : Nat) : digs (Lib.decDigits u) = true := by
  simp only [digs, Bool.and_eq_true, dec_all, decide_eq_true_eq, dec_len, true_and, Bool.or_eq_true]
  by_cases h : 0 < u
  · exact Or.inl (dec_head u h)
  · obtain rfl : u = 0 := by omega
    right
    rw [Lib.decDigits_one (by omega)]; rfl
theorem dec_back : ∀ (n : Nat) (l : L8), l.length ≤ n → digs l = true → Lib.decDigits (valF 0 l) = l
  | n, l, hn, h => by
    have hp := digs_pos h
    rcases List.eq_nil_or_concat l with rfl | ⟨a, b, rfl⟩
    · simp at hp
    · rw [List.concat_eq_append] at h hn ⊢
      have ha := digs_all h
      simp only [List.all_append, List.all_cons, List.all_nil, Bool.and_true, Bool.and_eq_true] at ha
      have hb := isDg_iff.1 ha.2
      have eb : UInt8.ofNat (48 + (b.toNat - 48)) = b := by rw [show 48 + (b.toNat - 48) = b.toNat by omega]; simp
      rw [valF_snoc]
      cases n with
      | zero => simp at hn
      | succ n =>
        cases a with
        | nil =>
          rw [valF_nil, List.nil_append, Nat.zero_mul, Nat.zero_add, Lib.decDigits_one (by omega), eb]
        | cons x a =>
          have hx : x ≠ 48 := by
            have := h
            simp only [digs, Bool.and_eq_true, Bool.or_eq_true, decide_eq_true_eq] at this
            rcases this.2.2 with e | e
            · intro e2; subst e2; exact e rfl
            · simp at e
          have hd : digs (x :: a) = true := by
            simp only [digs, ha.1, Bool.true_and, Bool.and_eq_true, decide_eq_true_eq, Bool.or_eq_true]
            exact ⟨by simp, Or.inl (by simpa using hx)⟩
          have hxd : 49 ≤ x.toNat := by
            have h1 : isDg x = true := by have := ha.1; simp only [List.all_cons, Bool.and_eq_true] at this; exact this.1
            have := isDg_iff.1 h1
            have : x.toNat ≠ 48 := fun e => hx (UInt8.toNat_inj.1 e)
            omega
          have hv : 1 ≤ valF 0 (x :: a) := by
            have := valF_ge a (0 * 10 + (x.toNat - 48))
            rw [valF_cons]; omega
          rw [decDigits_step _ (by omega), show (valF 0 (x :: a) * 10 + (b.toNat - 48)) / 10 = valF 0 (x :: a) by omega, dec_back n (x :: a) (by simp at hn ⊢; omega) hd,
            show (valF 0 (x :: a) * 10 + (b.toNat - 48)) % 10 = b.toNat - 48 by omega, eb]
theorem dec_zero : Lib.decDigits 0 = [48] := by rw [Lib.decDigits_one (by omega)]; rfl
theorem neg_dec (u : Nat) : neg (Lib.decDigits u) = false := by
  have := dec_all u
  have hl := dec_len u
  cases hc : Lib.decDigits u with
  | nil => rw [hc] at hl; simp at hl
  | cons x xs =>
    rw [hc] at this
    simp only [List.all_cons, Bool.and_eq_true] at this
    have := isDg_iff.1 this.1
    simp only [neg, List.head?_cons, decide_eq_false_iff_not, Option.some.injEq]
    intro e; subst e; revert this; decide
/-- The number of a decimal form of an int is the int. -/
theorem intL_itoa {n : Int} (h : -9223372036854775808 ≤ n ∧ n ≤ 9223372036854775807) : intL (Lib.itoa n) = (n, 0) := by
  unfold Lib.itoa
  by_cases hn : n < 0
  · rw [if_pos hn]
    have e1 : neg (45 :: Lib.decDigits n.natAbs) = true := rfl
    have e2 : mag (45 :: Lib.decDigits n.natAbs) = Lib.decDigits n.natAbs := rfl
    have e3 : ¬ Lib.decDigits n.natAbs = [48] := by
      intro e
      have := dec_val n.natAbs
      rw [e, valF_cons, valF_nil] at this
      have e48 : (48 : UInt8).toNat = 48 := rfl
      omega
    have hd : isDec (45 :: Lib.decDigits n.natAbs) = true := by simp [isDec, e1, e2, dec_digs, e3]
    rw [intL, if_pos hd, e1, if_pos rfl, e2, dec_val, if_pos (by omega)]
    congr 1; omega
  · rw [if_neg hn]
    have e1 := neg_dec n.toNat
    have e2 : mag (Lib.decDigits n.toNat) = Lib.decDigits n.toNat := by simp [mag, e1]
    have hd : isDec (Lib.decDigits n.toNat) = true := by simp [isDec, e1, e2, dec_digs]
    rw [intL, if_pos hd, e1, e2, dec_val]
    simp only [Bool.false_eq_true, if_false]
    rw [if_pos (by omega)]
    congr 1; omega
/-- What is accepted is the decimal form of its result. -/
theorem itoa_intL {s : L8} (h : (intL s).2 = 0) : Lib.itoa (intL s).1 = s := by
  unfold intL at h ⊢
  by_cases hd : isDec s = true
  · rw [if_pos hd] at h ⊢
    simp only [isDec, Bool.and_eq_true] at hd
    have hb := dec_back _ (mag s) (Nat.le_refl _) hd.1
    by_cases hn : neg s = true
    · rw [if_pos hn] at h ⊢
      split at h
      · rename_i hle
        rw [if_pos hle]
        obtain ⟨r, rfl⟩ : ∃ r, s = 45 :: r := by
          cases s with
          | nil => simp [neg] at hn
          | cons c r => simp [neg] at hn; exact ⟨r, by rw [hn]⟩
        have e : mag (45 :: r) = r := rfl
        rw [e] at hb hd ⊢
        have h0 : valF 0 r ≠ 0 := by
          intro e0
          rw [e0, dec_zero] at hb
          have := hd.2
          rw [hn, ← hb] at this
          simp at this
        simp only [Lib.itoa]
        rw [if_pos (by omega), show (-(valF 0 r : Int)).natAbs = valF 0 r by omega, hb]
      · simp at h
    · have e : mag s = s := by simp [mag, hn]
      rw [if_neg hn] at h ⊢
      split at h
      · rename_i hlt
        rw [if_pos hlt]
        simp only [Lib.itoa]
        rw [if_neg (by omega), show ((valF 0 (mag s) : Int)).toNat = valF 0 (mag s) by omega, hb, e]
      · simp at h
  · rw [if_neg hd] at h
    simp at h
theorem intL_range (s : L8) : -9223372036854775808 ≤ (intL s).1 ∧ (intL s).1 ≤ 9223372036854775807 := by
  unfold intL
  repeat' split
  all_goals (simp only; omega)
theorem itoa_len (n : Int) (h : -9223372036854775808 ≤ n ∧ n ≤ 9223372036854775807) : (Lib.itoa n).length ≤ 20 ∧ 1 ≤ (Lib.itoa n).length := by
  have key : ∀ (k u : Nat), u < 10 ^ k → 1 ≤ k → Lib.nDigits u ≤ k := by
    intro k
    induction k with
    | zero => intro u _ h; omega
    | succ k ih =>
      intro u hu _
      by_cases h1 : u < 10
      · rw [Lib.nDigits_small h1]; omega
      · rw [Lib.nDigits_big h1]
        rw [Nat.pow_succ] at hu
        by_cases hk : 1 ≤ k
        · have := ih (u / 10) (by omega) hk; omega
        · obtain rfl : k = 0 := by omega
          simp at hu; omega
  unfold Lib.itoa
  split
  · have := key 19 n.natAbs (by omega) (by omega)
    simp only [List.length_cons, Lib.decDigits_length]; omega
  · have := key 19 n.toNat (by omega) (by omega)
    have := Lib.nDigits_pos n.toNat
    simp only [Lib.decDigits_length]; omega
theorem itoa_not (n : Int) : (44 : UInt8) ∉ Lib.itoa n := by
  have key : ∀ u, (44 : UInt8) ∉ Lib.decDigits u := by
    intro u hm
    have := List.all_eq_true.1 (dec_all u) _ hm
    revert this; decide
  unfold Lib.itoa
  split
  · simp only [List.mem_cons, not_or]
    exact ⟨by decide, key _⟩
  · exact key _
/-- Names. -/
def isLt (b : UInt8) : Bool := decide (97 ≤ b.toNat) && decide (b.toNat ≤ 122)
def nmB (b : UInt8) : Bool := isLt b || (isDg b || decide (b = 95))
def isName (s : L8) : Bool := s.all nmB && ((match s.head? with | some b => isLt b | none => false) && decide (s.length ≤ 12))
/-- Lists of numbers. -/
def intsOf (acc : List Int) : List L8 → List Int × Int
  | [] => (acc, 0)
  | p :: r => if (intL p).2 = 0 then intsOf (acc ++ [(intL p).1]) r else ([], (intL p).2)
def listL (s : L8) : List Int × Int := if s = [45] then ([], 0) else intsOf [] (cutA 44 [] s)
def formL (l : List Int) : L8 := if l = [] then [45] else Lib.join (l.map Lib.itoa) [44]
theorem intsOf_ok : ∀ (ps : List L8) (acc r : List Int), intsOf acc ps = (r, 0) → ∃ l, r = acc ++ l ∧ l.map Lib.itoa = ps ∧ ∀ n ∈ l, -9223372036854775808 ≤ n ∧ n ≤ 9223372036854775807
  | [], acc, r, h => by
    simp only [intsOf, Prod.mk.injEq] at h
    exact ⟨[], by simp [h.1], rfl, by simp⟩
  | p :: ps, acc, r, h => by
    simp only [intsOf] at h
    split at h
    · rename_i h0
      obtain ⟨l, rfl, e, hb⟩ := intsOf_ok ps _ r h
      refine ⟨(intL p).1 :: l, by simp, by simp [itoa_intL h0, e], ?_⟩
      intro n hn
      rcases List.mem_cons.1 hn with rfl | hn
      · exact intL_range p
      · exact hb n hn
    · rename_i h0
      simp only [Prod.mk.injEq] at h
      exact absurd h.2 h0
theorem intsOf_form : ∀ (l acc : List Int), (∀ n ∈ l, -9223372036854775808 ≤ n ∧ n ≤ 9223372036854775807) → intsOf acc (l.map Lib.itoa) = (acc ++ l, 0)
  | [], acc, _ => by simp [intsOf]
  | n :: l, acc, h => by
    have hn := intL_itoa (h n (by simp))
    simp only [List.map_cons, intsOf, hn, if_true]
    rw [intsOf_form l _ (fun x hx => h x (by simp [hx]))]
    simp
theorem join_one_ne {l : List Int} (hb : ∀ n ∈ l, -9223372036854775808 ≤ n ∧ n ≤ 9223372036854775807) (h0 : l ≠ []) : Lib.join (l.map Lib.itoa) [44] ≠ [45] := by
  intro e
  have hc := cutA_joined 44 (ws := l.map Lib.itoa) (by simpa using List.length_pos_iff.2 h0) (fun x hx => by
    obtain ⟨n, _, rfl⟩ := List.mem_map.1 hx
    exact itoa_not n)
  rw [e] at hc
  have e1 : cutA 44 [] [45] = [[45]] := rfl
  rw [e1] at hc
  cases l with
  | nil => exact h0 rfl
  | cons n l =>
    simp only [List.map_cons, List.cons.injEq] at hc
    have := intL_itoa (hb n (by simp))
    rw [← hc.1] at this
    have h2 : intL [45] = (0, 4) := by decide
    rw [h2] at this
    simp at this
/-- Lists are restored from their text. -/
theorem list_form {l : List Int} (h : ∀ n ∈ l, -9223372036854775808 ≤ n ∧ n ≤ 9223372036854775807) : listL (formL l) = (l, 0) := by
  unfold listL formL
  by_cases h0 : l = []
  · subst h0; rfl
  · rw [if_neg h0, if_neg (join_one_ne h h0), cutA_joined 44 (by simpa using List.length_pos_iff.2 h0) (fun x hx => by
      obtain ⟨n, _, rfl⟩ := List.mem_map.1 hx
      exact itoa_not n), intsOf_form l [] h]
    simp
theorem form_list {s : L8} (h : (listL s).2 = 0) : formL (listL s).1 = s := by
  unfold listL at h ⊢
  by_cases h0 : s = [45]
  · rw [if_pos h0, h0]; rfl
  · rw [if_neg h0] at h ⊢
    obtain ⟨l, e1, e2, _⟩ := intsOf_ok (cutA 44 [] s) [] (intsOf [] (cutA 44 [] s)).1 (by rw [← h])
    rw [e1, List.nil_append]
    have hl : l ≠ [] := by
      intro e; subst e
      have := cutA_pos 44 s []
      rw [← e2] at this; simp at this
    rw [formL, if_neg hl, e2, cutA_glue]; simp
theorem list_bound (s : L8) : ∀ n ∈ (listL s).1, -9223372036854775808 ≤ n ∧ n ≤ 9223372036854775807 := by
  unfold listL
  split
  · simp
  · have key : ∀ (ps : List L8) (acc : List Int), (∀ n ∈ acc, -9223372036854775808 ≤ n ∧ n ≤ 9223372036854775807) → ∀ n ∈ (intsOf acc ps).1, -9223372036854775808 ≤ n ∧ n ≤ 9223372036854775807 := by
      intro ps
      induction ps with
      | nil => intro acc h n hn; exact h n hn
      | cons p ps ih =>
        intro acc h n hn
        simp only [intsOf] at hn
        split at hn
        · refine ih _ ?_ n hn
          intro m hm
          rcases List.mem_append.1 hm with hm | hm
          · exact h m hm
          · simp at hm; subst hm; exact intL_range p
        · simp at hn
    exact key _ [] (by simp)
theorem intsOf_len : ∀ (ps : List L8) (acc : List Int), (intsOf acc ps).1.length ≤ acc.length + ps.length
  | [], acc => by simp [intsOf]
  | p :: ps, acc => by
    simp only [intsOf]
    split
    · have := intsOf_len ps (acc ++ [(intL p).1])
      simp at this ⊢; omega
    · simp
theorem list_len (s : L8) : (listL s).1.length ≤ s.length + 1 := by
  unfold listL
  split
  · simp
  · have := intsOf_len (cutA 44 [] s) []
    have := cutA_le 44 s []
    simp at *; omega
end Go.Proofs.YtblcigddinmiaaaDoor
