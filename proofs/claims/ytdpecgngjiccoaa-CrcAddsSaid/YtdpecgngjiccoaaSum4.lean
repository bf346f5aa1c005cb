/- Plain mathematics of the checksum: a register of 32 bits is stepped bit by bit; steps are linear over exclusive or, and injective. Conditions: as stated. -/
import Derived.Lib.Hide
namespace Go.Proofs.Ytdpecgngjiccoaa
theorem nxor_cancel {a b : Nat} (h : a ^^^ b = 0) : a = b := by
  have e : a ^^^ b ^^^ b = b := by rw [h, Nat.zero_xor]
  rw [Nat.xor_assoc, Nat.xor_self, Nat.xor_zero] at e
  exact e
theorem nxor_back (a b : Nat) : a ^^^ b ^^^ b = a := by rw [Nat.xor_assoc, Nat.xor_self, Nat.xor_zero]
theorem nxor_swap (a b c : Nat) : a ^^^ b ^^^ c = a ^^^ c ^^^ b := by rw [Nat.xor_assoc, Nat.xor_comm b c, ← Nat.xor_assoc]
theorem nxor_four (a b c d : Nat) : (a ^^^ b) ^^^ (c ^^^ d) = (a ^^^ c) ^^^ (b ^^^ d) := by
  rw [← Nat.xor_assoc, nxor_swap a b c, Nat.xor_assoc]
theorem nxor_inj {a b c : Nat} (h : a ^^^ c = b ^^^ c) : a = b := by rw [← nxor_back a c, h, nxor_back]
/-- One step of the register. -/
def stepR (r : Nat) : Nat := if r % 2 = 1 then (r / 2) ^^^ 3988292384 else r / 2
theorem stepR_odd {r : Nat} (h : r % 2 = 1) : stepR r = (r / 2) ^^^ 3988292384 := by unfold stepR; rw [if_pos h]
theorem stepR_even {r : Nat} (h : ¬ r % 2 = 1) : stepR r = r / 2 := by unfold stepR; rw [if_neg h]
theorem stepR_xor (a b : Nat) : stepR (a ^^^ b) = stepR a ^^^ stepR b := by
  have h := @Nat.xor_mod_two_eq_one a b
  by_cases ha : a % 2 = 1
  · by_cases hb : b % 2 = 1
    · rw [stepR_odd ha, stepR_odd hb, stepR_even (by rw [h]; simp [ha, hb]), Nat.xor_div_two, nxor_four, Nat.xor_self, Nat.xor_zero]
    · rw [stepR_odd ha, stepR_even hb, stepR_odd (by rw [h]; simp [ha, hb]), Nat.xor_div_two, nxor_swap]
  · by_cases hb : b % 2 = 1
    · rw [stepR_even ha, stepR_odd hb, stepR_odd (by rw [h]; simp [ha, hb]), Nat.xor_div_two, Nat.xor_assoc]
    · rw [stepR_even ha, stepR_even hb, stepR_even (by rw [h]; simp [ha, hb]), Nat.xor_div_two]
theorem stepR_lt {r : Nat} (h : r < 4294967296) : stepR r < 4294967296 := by
  unfold stepR
  split
  · exact Nat.xor_lt_two_pow (n := 32) (by omega) (by decide)
  · omega
theorem stepR_zero {r : Nat} (h : r < 4294967296) (h0 : stepR r = 0) : r = 0 := by
  by_cases hr : r % 2 = 1
  · rw [stepR_odd hr] at h0
    have := nxor_cancel h0
    omega
  · rw [stepR_even hr] at h0
    omega
theorem stepR_inj {a b : Nat} (ha : a < 4294967296) (hb : b < 4294967296) (h : stepR a = stepR b) : a = b :=
  nxor_cancel (stepR_zero (Nat.xor_lt_two_pow (n := 32) ha hb) (by rw [stepR_xor, h, Nat.xor_self]))
def stepN : Nat → Nat → Nat
  | 0, r => r
  | k + 1, r => stepR (stepN k r)
theorem stepN_succ (k r : Nat) : stepN (k + 1) r = stepR (stepN k r) := rfl
theorem stepN_xor (a b : Nat) : ∀ k : Nat, stepN k (a ^^^ b) = stepN k a ^^^ stepN k b
  | 0 => rfl
  | k + 1 => by rw [stepN_succ, stepN_xor a b k, stepR_xor]; rfl
theorem stepN_lt {r : Nat} (h : r < 4294967296) : ∀ k : Nat, stepN k r < 4294967296
  | 0 => h
  | k + 1 => stepR_lt (stepN_lt h k)
theorem stepN_inj {a b : Nat} (ha : a < 4294967296) (hb : b < 4294967296) : ∀ k : Nat, stepN k a = stepN k b → a = b
  | 0, h => h
  | k + 1, h => stepN_inj ha hb k (stepR_inj (stepN_lt ha k) (stepN_lt hb k) h)
/-- The register behind one byte. -/
def put8 (r : Nat) (b : UInt8) : Nat := stepN 8 (r ^^^ b.toNat)
theorem byte_lt (b : UInt8) : b.toNat < 4294967296 := Nat.lt_trans b.toNat_lt (by decide)
theorem xor_byte_lt {r : Nat} (h : r < 4294967296) (b : UInt8) : r ^^^ b.toNat < 4294967296 := Nat.xor_lt_two_pow (n := 32) h (byte_lt b)
theorem put8_lt {r : Nat} (h : r < 4294967296) (b : UInt8) : put8 r b < 4294967296 := stepN_lt (xor_byte_lt h b) 8
theorem put8_inj {r s : Nat} {b : UInt8} (hr : r < 4294967296) (hs : s < 4294967296) (h : put8 r b = put8 s b) : r = s :=
  nxor_inj (stepN_inj (xor_byte_lt hr b) (xor_byte_lt hs b) 8 h)
theorem put8_byte {r : Nat} {b c : UInt8} (hr : r < 4294967296) (h : put8 r b = put8 r c) : b = c := by
  have e := stepN_inj (xor_byte_lt hr b) (xor_byte_lt hr c) 8 h
  rw [Nat.xor_comm r, Nat.xor_comm r] at e
  exact UInt8.toNat_inj.1 (nxor_inj e)
def regs (r : Nat) (l : List UInt8) : Nat := l.foldl put8 r
theorem regs_nil (r : Nat) : regs r [] = r := rfl
theorem regs_snoc (r : Nat) (l : List UInt8) (b : UInt8) : regs r (l ++ [b]) = put8 (regs r l) b := by simp [regs]
theorem regs_append (r : Nat) (l m : List UInt8) : regs r (l ++ m) = regs (regs r l) m := by simp [regs]
theorem regs_lt {r : Nat} (h : r < 4294967296) (l : List UInt8) : regs r l < 4294967296 := by
  induction l generalizing r with
  | nil => exact h
  | cons b l ih => exact ih (put8_lt h b)
theorem regs_inj {r s : Nat} (hr : r < 4294967296) (hs : s < 4294967296) (l : List UInt8) (h : regs r l = regs s l) : r = s := by
  induction l generalizing r s with
  | nil => exact h
  | cons b l ih => exact put8_inj hr hs (ih (put8_lt hr b) (put8_lt hs b) h)
def crc (l : List UInt8) : Nat := regs 4294967295 l ^^^ 4294967295
theorem crc_lt (l : List UInt8) : crc l < 4294967296 := Nat.xor_lt_two_pow (n := 32) (regs_lt (by decide) l) (by decide)
/-- One byte changed changes the checksum. -/
theorem crc_set {l : List UInt8} {i : Nat} {b c : UInt8} (hb : l[i]? = some b) (h : crc (l.set i c) = crc l) : b = c := by
  have h := nxor_inj h
  obtain ⟨hi, he⟩ := List.getElem?_eq_some_iff.1 hb
  have e1 : l = l.take i ++ b :: l.drop (i + 1) := by rw [← he]; simp
  have e2 : l.set i c = l.take i ++ c :: l.drop (i + 1) := List.set_eq_take_append_cons_drop.trans (if_pos hi)
  rw [e2] at h
  rw [show regs 4294967295 l = regs 4294967295 (l.take i ++ b :: l.drop (i + 1)) from congrArg _ e1, regs_append, regs_append] at h
  have hr := regs_lt (r := 4294967295) (by decide) (l.take i)
  exact (put8_byte hr (regs_inj (put8_lt hr c) (put8_lt hr b) _ h)).symm
/-- The exclusive or of three texts, byte by byte. -/
def xor3 : List UInt8 → List UInt8 → List UInt8 → List UInt8
  | a :: l, b :: m, c :: n => (a ^^^ b ^^^ c) :: xor3 l m n
  | _, _, _ => []
theorem regs_xor3 (r s t : Nat) : ∀ (l m n : List UInt8), l.length = m.length → l.length = n.length → regs (r ^^^ s ^^^ t) (xor3 l m n) = regs r l ^^^ regs s m ^^^ regs t n
  | [], [], [], _, _ => rfl
  | a :: l, b :: m, c :: n, h1, h2 => by
    have e : put8 (r ^^^ s ^^^ t) (a ^^^ b ^^^ c) = put8 r a ^^^ put8 s b ^^^ put8 t c := by
      unfold put8
      rw [← stepN_xor, ← stepN_xor, UInt8.toNat_xor, UInt8.toNat_xor, nxor_four (r ^^^ s) t, nxor_four r s]
    show regs (put8 _ _) _ = regs (put8 r a) l ^^^ regs (put8 s b) m ^^^ regs (put8 t c) n
    rw [e]
    exact regs_xor3 _ _ _ l m n (by simpa using h1) (by simpa using h2)
  | [], _ :: _, _, h, _ => by simp at h
  | _ :: _, [], _, h, _ => by simp at h
  | [], [], _ :: _, _, h => by simp at h
  | _ :: _, _ :: _, [], _, h => by simp at h
theorem xor_ones : (4294967295 ^^^ 4294967295 ^^^ 4294967295 : Nat) = 4294967295 := by decide
theorem crc_xor3 (l m n : List UInt8) (h1 : l.length = m.length) (h2 : l.length = n.length) : crc (xor3 l m n) = crc l ^^^ crc m ^^^ crc n := by
  have h := regs_xor3 4294967295 4294967295 4294967295 l m n h1 h2
  rw [xor_ones] at h
  unfold crc
  rw [h, nxor_four (regs 4294967295 l), ← nxor_four (regs 4294967295 l ^^^ regs 4294967295 m), xor_ones]
theorem xor3_snoc {a b c : UInt8} : ∀ {l m n : List UInt8}, l.length = m.length → l.length = n.length → xor3 (l ++ [a]) (m ++ [b]) (n ++ [c]) = xor3 l m n ++ [a ^^^ b ^^^ c]
  | [], [], [], _, _ => rfl
  | x :: l, y :: m, z :: n, h1, h2 => by
    show _ :: xor3 (l ++ [a]) (m ++ [b]) (n ++ [c]) = _ :: (xor3 l m n ++ [a ^^^ b ^^^ c])
    rw [xor3_snoc (by simpa using h1) (by simpa using h2)]
  | [], _ :: _, _, h, _ => by simp at h
  | _ :: _, [], _, h, _ => by simp at h
  | [], [], _ :: _, _, h => by simp at h
  | _ :: _, _ :: _, [], _, h => by simp at h
theorem xor3_length : ∀ (l m n : List UInt8), l.length = m.length → l.length = n.length → (xor3 l m n).length = l.length
  | [], [], [], _, _ => rfl
  | x :: l, y :: m, z :: n, h1, h2 => by
    show (xor3 l m n).length + 1 = l.length + 1
    rw [xor3_length l m n (by simpa using h1) (by simpa using h2)]
  | [], _ :: _, _, h, _ => by simp at h
  | _ :: _, [], _, h, _ => by simp at h
  | [], [], _ :: _, _, h => by simp at h
  | _ :: _, _ :: _, [], _, h => by simp at h
/-- The reference takes the bits of a byte one by one: its register after k of them. -/
def half (r : Nat) (b : UInt8) (k : Nat) : Nat := stepN k (r ^^^ b.toNat) ^^^ (b.toNat / 2 ^ k)
theorem half_zero (r : Nat) (b : UInt8) : half r b 0 = r := by unfold half; rw [Nat.pow_zero, Nat.div_one]; exact nxor_back r _
theorem half_eight (r : Nat) (b : UInt8) : half r b 8 = put8 r b := by
  unfold half put8
  rw [Nat.div_eq_of_lt (show b.toNat < 2 ^ 8 from b.toNat_lt), Nat.xor_zero]
theorem half_odd (r : Nat) (b : UInt8) (k : Nat) : half r b k ^^^ (b.toNat / 2 ^ k) = stepN k (r ^^^ b.toNat) := by unfold half; exact nxor_back _ _
theorem half_lt {r : Nat} (h : r < 4294967296) (b : UInt8) (k : Nat) : half r b k < 4294967296 :=
  Nat.xor_lt_two_pow (n := 32) (stepN_lt (xor_byte_lt h b) k) (Nat.lt_of_le_of_lt (Nat.div_le_self _ _) (byte_lt b))
theorem half_step1 {r : Nat} {b : UInt8} {k : Nat} (h : (half r b k ^^^ (b.toNat / 2 ^ k)) % 2 = 1) : half r b (k + 1) = (half r b k / 2) ^^^ 3988292384 := by
  rw [half_odd] at h
  unfold half
  rw [stepN_succ, stepR_odd h, Nat.xor_div_two, Nat.div_div_eq_div_mul, ← Nat.pow_succ, nxor_swap]
theorem half_step0 {r : Nat} {b : UInt8} {k : Nat} (h : ¬ (half r b k ^^^ (b.toNat / 2 ^ k)) % 2 = 1) : half r b (k + 1) = half r b k / 2 := by
  rw [half_odd] at h
  unfold half
  rw [stepN_succ, stepR_even h, Nat.xor_div_two, Nat.div_div_eq_div_mul, ← Nat.pow_succ]
/-- Four bytes of a number, the most significant one first. -/
def be4 (n : Nat) : List UInt8 := [UInt8.ofNat (n / 16777216), UInt8.ofNat (n / 65536), UInt8.ofNat (n / 256), UInt8.ofNat n]
theorem be4_length (n : Nat) : (be4 n).length = 4 := rfl
theorem u8_of {a b : Nat} (h : UInt8.ofNat a = UInt8.ofNat b) : a % 256 = b % 256 := by
  have := congrArg UInt8.toNat h
  simpa using this
theorem be4_inj {a b : Nat} (ha : a < 4294967296) (hb : b < 4294967296) (h : be4 a = be4 b) : a = b := by
  simp only [be4, List.cons.injEq, and_true] at h
  have h1 := u8_of h.1
  have h2 := u8_of h.2.1
  have h3 := u8_of h.2.2.1
  have h4 := u8_of h.2.2.2
  omega
def sealL (l : List UInt8) : List UInt8 := l ++ be4 (crc l)
theorem sealL_length (l : List UInt8) : (sealL l).length = l.length + 4 := by simp [sealL, be4_length]
/-- What opening gives: the text, or an error's number. -/
def openL (s : List UInt8) : List UInt8 × Int :=
  if s.length < 4 then ([], 5) else if s.drop (s.length - 4) = be4 (crc (s.take (s.length - 4))) then (s.take (s.length - 4), 0) else ([], 6)
theorem openL_short {s : List UInt8} (h : s.length < 4) : openL s = ([], 5) := by unfold openL; rw [if_pos h]
theorem openL_yes {s : List UInt8} (h : 4 ≤ s.length) (he : s.drop (s.length - 4) = be4 (crc (s.take (s.length - 4)))) : openL s = (s.take (s.length - 4), 0) := by
  unfold openL; rw [if_neg (by omega), if_pos he]
theorem openL_no {s : List UInt8} (h : 4 ≤ s.length) (he : ¬ s.drop (s.length - 4) = be4 (crc (s.take (s.length - 4)))) : openL s = ([], 6) := by
  unfold openL; rw [if_neg (by omega), if_neg he]
theorem openL_seal (l : List UInt8) : openL (sealL l) = (l, 0) := by
  have e : (sealL l).length - 4 = l.length := by rw [sealL_length]; omega
  have t : (sealL l).take ((sealL l).length - 4) = l := by rw [e]; simp [sealL]
  have d : (sealL l).drop ((sealL l).length - 4) = be4 (crc l) := by rw [e]; simp [sealL]
  rw [openL_yes (by rw [sealL_length]; omega) (by rw [t, d]), t]
theorem openL_back {s t : List UInt8} (h : openL s = (t, 0)) : sealL t = s := by
  by_cases h4 : s.length < 4
  · rw [openL_short h4] at h; exact absurd (congrArg Prod.snd h) (by simp)
  · by_cases he : s.drop (s.length - 4) = be4 (crc (s.take (s.length - 4)))
    · rw [openL_yes (by omega) he] at h
      have e : s.take (s.length - 4) = t := congrArg Prod.fst h
      rw [← e, sealL, ← he, List.take_append_drop]
    · rw [openL_no (by omega) he] at h; exact absurd (congrArg Prod.snd h) (by simp)
/-- The reference seals what stands ahead of the last four bytes. -/
theorem openL_ref {s : List UInt8} (h : 4 ≤ s.length) : s.drop (s.length - 4) = be4 (crc (s.take (s.length - 4))) ↔ sealL (s.take (s.length - 4)) = s := by
  constructor
  · intro he; rw [sealL, ← he, List.take_append_drop]
  · intro he
    have e := congrArg (List.drop (s.length - 4)) he
    rw [← e, sealL, List.drop_left' (by rw [List.length_take]; omega)]
/-- A sealed text with one byte changed is not accepted. -/
theorem openL_set {l : List UInt8} {i : Nat} {b c : UInt8} (hb : (sealL l)[i]? = some b) (hc : b ≠ c) : openL ((sealL l).set i c) = ([], 6) := by
  have hlen : ((sealL l).set i c).length = l.length + 4 := by rw [List.length_set, sealL_length]
  have hi : i < (sealL l).length := (List.getElem?_eq_some_iff.1 hb).1
  refine openL_no (by omega) fun he => hc ?_
  rw [hlen, Nat.add_sub_cancel] at he
  by_cases hlt : i < l.length
  · have e1 : (sealL l).set i c = l.set i c ++ be4 (crc l) := by unfold sealL; rw [List.set_append_left _ _ hlt]
    rw [e1, List.drop_left' (by simp), List.take_left' (by simp)] at he
    have hb' : l[i]? = some b := by rw [sealL, List.getElem?_append_left hlt] at hb; exact hb
    exact crc_set hb' (be4_inj (crc_lt _) (crc_lt _) he).symm
  · have e1 : (sealL l).set i c = l ++ (be4 (crc l)).set (i - l.length) c := by unfold sealL; rw [List.set_append_right _ _ (by omega)]
    rw [e1, List.drop_left' rfl, List.take_left' rfl] at he
    have hb' : (be4 (crc l))[i - l.length]? = some b := by rw [sealL, List.getElem?_append_right (by omega)] at hb; exact hb
    have h2 : ((be4 (crc l)).set (i - l.length) c)[i - l.length]? = some c := by
      rw [List.getElem?_set_self (by rw [be4_length]; rw [sealL_length] at hi; omega)]
    rw [he, hb'] at h2
    exact Option.some.inj h2
theorem openL_same {l : List UInt8} {i : Nat} {b : UInt8} (hb : (sealL l)[i]? = some b) : openL ((sealL l).set i b) = (l, 0) := by
  obtain ⟨hi, he⟩ := List.getElem?_eq_some_iff.1 hb
  rw [← he, List.set_getElem_self, openL_seal]
end Go.Proofs.Ytdpecgngjiccoaa
