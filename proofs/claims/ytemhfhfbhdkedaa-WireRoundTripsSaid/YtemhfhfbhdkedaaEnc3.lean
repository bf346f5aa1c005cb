/- Plain mathematics of the byte encoding: numbers as groups of seven bits, and back. Conditions: as stated. -/
import Derived.Lib.Hide
namespace Go.Proofs.Ytemhfhfbhdkedaa
/-- What a decoder gives: a value, or an error's number. -/
inductive DR (α : Type) where
  | ok (a : α)
  | err (e : Int)

def enc (n : Nat) : List UInt8 := if h : n < 128 then [UInt8.ofNat n] else UInt8.ofNat (128 + n % 128) :: enc (n / 128)
termination_by n
decreasing_by omega

theorem enc_lo {n : Nat} (h : n < 128) : enc n = [UInt8.ofNat n] := by rw [enc, dif_pos h]
theorem enc_hi {n : Nat} (h : 128 ≤ n) : enc n = UInt8.ofNat (128 + n % 128) :: enc (n / 128) := by rw [enc, dif_neg (by omega)]
theorem u8_nat {n : Nat} (h : n < 256) : (UInt8.ofNat n).toNat = n := by simp; omega
theorem u8_lt (b : UInt8) : b.toNat < 256 := b.toNat_lt

theorem enc_pos (n : Nat) : 1 ≤ (enc n).length := by rw [enc]; split <;> simp
theorem enc_mono : ∀ (m n : Nat), m ≤ n → (enc m).length ≤ (enc n).length := by
  intro m
  induction m using Nat.strongRecOn with
  | _ m ih =>
    intro n h
    by_cases hm : m < 128
    · rw [enc_lo hm]; exact enc_pos n
    · rw [enc_hi (by omega), enc_hi (n := n) (by omega)]
      have := ih (m / 128) (by omega) (n / 128) (Nat.div_le_div_right h)
      simp; omega
theorem enc_len : ∀ (k n : Nat), n < 128 ^ (k + 1) → (enc n).length ≤ k + 1
  | 0, n, h => by rw [enc_lo (by omega)]; simp
  | k + 1, n, h => by
    by_cases hn : n < 128
    · rw [enc_lo hn]; simp
    · rw [enc_hi (by omega)]
      have := enc_len k (n / 128) (by rw [Nat.div_lt_iff_lt_mul (by omega), ← Nat.pow_succ]; exact h)
      simp; omega
theorem enc_ten {n : Nat} (h : n < 18446744073709551616) : (enc n).length ≤ 10 :=
  enc_len 9 n (Nat.lt_of_lt_of_le h (by decide))

/-- The decoder at index i of a number. -/
def dec : Nat → List UInt8 → DR (Nat × Nat)
  | _, [] => .err 5
  | i, b :: l => if (i ≠ 0 ∧ b.toNat = 0) ∨ (i = 9 ∧ b.toNat ≠ 1) then .err 4 else if b.toNat < 128 then .ok (b.toNat, 1) else
    match dec (i + 1) l with
    | .ok (n, k) => .ok (b.toNat % 128 + 128 * n, k + 1)
    | .err e => .err e

/-- The range of a number whose first group stands at index i. -/
def Fits (i n : Nat) : Prop := i ≤ 9 ∧ n * 128 ^ i < 18446744073709551616 ∧ (i ≠ 0 → n ≠ 0)
theorem Fits.zero {n : Nat} (h : n < 18446744073709551616) : Fits 0 n := ⟨by omega, by simpa using h, by simp⟩
theorem Fits.nine {n : Nat} (h : Fits 9 n) : n = 1 := by
  obtain ⟨_, h2, h3⟩ := h
  have := h3 (by omega)
  omega
theorem Fits.next {i n : Nat} (h : Fits i n) (hn : 128 ≤ n) : Fits (i + 1) (n / 128) := by
  have h9 : i ≠ 9 := by rintro rfl; have := h.nine; omega
  obtain ⟨h1, h2, h3⟩ := h
  refine ⟨by omega, ?_, fun _ => by omega⟩
  calc n / 128 * 128 ^ (i + 1) = (n / 128 * 128) * 128 ^ i := by rw [Nat.pow_succ, Nat.mul_comm (128 ^ i), Nat.mul_assoc]
    _ ≤ n * 128 ^ i := Nat.mul_le_mul_right _ (by omega)
    _ < _ := h2

theorem dec_enc : ∀ (n i : Nat), Fits i n → ∀ l, dec i (enc n ++ l) = .ok (n, (enc n).length) := by
  intro n
  induction n using Nat.strongRecOn with
  | _ n ih =>
    intro i h l
    by_cases hn : n < 128
    · rw [enc_lo hn]
      have h1 : ¬ ((i ≠ 0 ∧ n = 0) ∨ (i = 9 ∧ n ≠ 1)) := by
        rintro (⟨a, b⟩ | ⟨a, b⟩)
        · exact h.2.2 a b
        · subst a; exact b h.nine
      simp only [List.cons_append, List.nil_append, dec, u8_nat (show n < 256 by omega), if_neg h1, if_pos hn, List.length_singleton]
    · have h9 : i ≠ 9 := by rintro rfl; have := h.nine; omega
      rw [enc_hi (by omega)]
      have hb := u8_nat (show 128 + n % 128 < 256 by omega)
      have h1 : ¬ ((i ≠ 0 ∧ 128 + n % 128 = 0) ∨ (i = 9 ∧ 128 + n % 128 ≠ 1)) := by omega
      simp only [List.cons_append, dec, hb, if_neg h1, if_neg (show ¬ 128 + n % 128 < 128 by omega), ih (n / 128) (by omega) (i + 1) (h.next (by omega)) l, List.length_cons]
      congr 2
      omega

theorem dec_exact : ∀ (l : List UInt8) (i n k : Nat), i ≤ 9 → dec i l = .ok (n, k) → Fits i n ∧ k ≤ l.length ∧ l.take k = enc n := by
  intro l
  induction l with
  | nil => intro i n k _ h; simp [dec] at h
  | cons b l ih =>
    intro i n k hi h
    have hb := u8_lt b
    rw [dec] at h
    split at h
    · cases h
    rename_i h1
    split at h
    · rename_i h2
      simp only [DR.ok.injEq, Prod.mk.injEq] at h
      obtain ⟨rfl, rfl⟩ := h
      refine ⟨⟨hi, ?_, fun h => by omega⟩, by simp, ?_⟩
      · by_cases h9 : i = 9
        · subst h9
          have : b.toNat = 1 := by omega
          rw [this]; decide
        · calc b.toNat * 128 ^ i ≤ 127 * 128 ^ i := Nat.mul_le_mul_right _ (by omega)
            _ ≤ 127 * 128 ^ 8 := Nat.mul_le_mul_left _ (Nat.pow_le_pow_right (by omega) (by omega))
            _ < _ := by decide
      · rw [enc_lo h2]; simp
    · rename_i h2
      have h9 : i ≠ 9 := by omega
      split at h
      · rename_i m j hd
        simp only [DR.ok.injEq, Prod.mk.injEq] at h
        obtain ⟨rfl, rfl⟩ := h
        obtain ⟨f, g1, g2⟩ := ih (i + 1) m j (by omega) hd
        have hm : m ≠ 0 := f.2.2 (by omega)
        refine ⟨⟨hi, ?_, fun _ => by omega⟩, by simpa using g1, ?_⟩
        · have f2 := f.2.1
          rw [Nat.pow_succ, Nat.mul_comm (128 ^ i), ← Nat.mul_assoc] at f2
          -- m * 128 * 128^i < 2^64, and 2^64 is a multiple of 128 ^ i .. or of 2 ^ (7 i)
          have hp : 128 ^ i = 2 ^ (7 * i) := by rw [Nat.pow_mul]
          have hq : (18446744073709551616 : Nat) = 2 ^ (64 - 7 * i) * 128 ^ i := by rw [hp, ← Nat.pow_add, show 64 - 7 * i + 7 * i = 64 by omega]
          rw [hq] at f2 ⊢
          have f3 : m * 128 < 2 ^ (64 - 7 * i) := Nat.lt_of_mul_lt_mul_right f2
          refine Nat.mul_lt_mul_of_pos_right ?_ (Nat.pow_pos (by omega))
          have hs : 2 ^ (64 - 7 * i) = 128 * 2 ^ (64 - 7 * i - 7) := by
            rw [show (128 : Nat) = 2 ^ 7 from rfl, ← Nat.pow_add]; congr 1; omega
          omega
        · rw [enc_hi (by omega), List.take_succ_cons, g2]
          congr 1
          · rw [← UInt8.toNat_inj, u8_nat (by omega)]; omega
          · congr 1; omega
      · cases h

theorem dec_cut : ∀ (n i : Nat), Fits i n → ∀ j, j < (enc n).length → dec i ((enc n).take j) = .err 5 := by
  intro n
  induction n using Nat.strongRecOn with
  | _ n ih =>
    intro i h j hj
    cases j with
    | zero => simp [dec]
    | succ j =>
      by_cases hn : n < 128
      · rw [enc_lo hn] at hj; simp at hj
      · have h9 : i ≠ 9 := by rintro rfl; have := h.nine; omega
        rw [enc_hi (by omega)] at hj ⊢
        have hb := u8_nat (show 128 + n % 128 < 256 by omega)
        have h1 : ¬ ((i ≠ 0 ∧ 128 + n % 128 = 0) ∨ (i = 9 ∧ 128 + n % 128 ≠ 1)) := by omega
        simp only [List.take_succ_cons, dec, hb, if_neg h1, if_neg (show ¬ 128 + n % 128 < 128 by omega), ih (n / 128) (by omega) (i + 1) (h.next (by omega)) j (by simpa using hj)]

/-- A number as one that is not negative. -/
def zig (n : Int) : Nat := if n < 0 then (-n - 1).toNat * 2 + 1 else n.toNat * 2
def zag (n : Nat) : Int := if n % 2 = 1 then -((n / 2 : Nat) : Int) - 1 else ((n / 2 : Nat) : Int)
theorem zag_zig (n : Int) : zag (zig n) = n := by
  unfold zag zig
  by_cases h : n < 0
  · rw [if_pos h, if_pos (by omega)]; omega
  · rw [if_neg h, if_neg (by omega)]; omega
theorem zig_zag (n : Nat) : zig (zag n) = n := by
  unfold zag zig
  by_cases h : n % 2 = 1
  · rw [if_pos h, if_pos (by omega)]; omega
  · rw [if_neg h, if_neg (by omega)]; omega
theorem zig_lt {n : Int} (h1 : -9223372036854775808 ≤ n) (h2 : n ≤ 9223372036854775807) : zig n < 18446744073709551616 := by
  unfold zig; split <;> omega
theorem zag_in {n : Nat} (h : n < 18446744073709551616) : -9223372036854775808 ≤ zag n ∧ zag n ≤ 9223372036854775807 := by
  unfold zag; split <;> omega

/-- TakeUint, TakeInt, TakeBool, TakeCount, TakeText, TakeInts, as the document has them. -/
def tU (l : List UInt8) (at_ : Int) : DR (Nat × Int) :=
  if at_ < 0 ∨ at_ > l.length then .err 1 else match dec 0 (l.drop at_.toNat) with | .ok (n, k) => .ok (n, at_ + k) | .err e => .err e
def tI (l : List UInt8) (at_ : Int) : DR (Int × Int) := match tU l at_ with | .ok (n, t) => .ok (zag n, t) | .err e => .err e
def tB (l : List UInt8) (at_ : Int) : DR (Bool × Int) :=
  if at_ < 0 ∨ at_ > l.length then .err 1 else match l.drop at_.toNat with | [] => .err 5 | b :: _ => if b.toNat > 1 then .err 4 else .ok (decide (b.toNat = 1), at_ + 1)
def tC (l : List UInt8) (at_ most : Int) : DR (Nat × Int) :=
  match tU l at_ with | .err e => .err e | .ok (n, t) => if most < 0 ∨ (n : Int) > most then .err 2 else if (n : Int) > l.length - t then .err 5 else .ok (n, t)
def tT (l : List UInt8) (at_ most : Int) : DR (List UInt8 × Int) :=
  match tC l at_ most with | .err e => .err e | .ok (n, t) => .ok ((l.drop t.toNat).take n, t + n)
def tN (l : List UInt8) : Nat → Int → DR (List Int × Int)
  | 0, t => .ok ([], t)
  | c + 1, t => match tI l t with | .err e => .err e | .ok (n, t1) => match tN l c t1 with | .err e => .err e | .ok (xs, t2) => .ok (n :: xs, t2)
def tL (l : List UInt8) (at_ most : Int) : DR (List Int × Int) :=
  match tC l at_ most with | .err e => .err e | .ok (n, t) => tN l n t

def encI (n : Int) : List UInt8 := enc (zig n)
def encB (b : Bool) : List UInt8 := if b then [1] else [0]
def encT (l : List UInt8) : List UInt8 := enc l.length ++ l
def encs (l : List Int) : List UInt8 := l.flatMap encI
def encL (l : List Int) : List UInt8 := enc l.length ++ encs l

def In64 (n : Int) : Prop := -9223372036854775808 ≤ n ∧ n ≤ 9223372036854775807
theorem encI_len {n : Int} (h : In64 n) : 1 ≤ (encI n).length ∧ (encI n).length ≤ 10 := ⟨enc_pos _, enc_ten (zig_lt h.1 h.2)⟩
theorem encs_len : ∀ (l : List Int), (∀ n ∈ l, In64 n) → l.length ≤ (encs l).length ∧ (encs l).length ≤ 10 * l.length
  | [], _ => by simp [encs]
  | n :: l, h => by
    have h1 := encI_len (h n (by simp))
    have h2 := encs_len l fun m hm => h m (by simp [hm])
    have h3 : encs (n :: l) = encI n ++ encs l := rfl
    rw [h3, List.length_append, List.length_cons]
    omega

/-! Facts on the decoders' results. -/
theorem tU_ok {l : List UInt8} {a : Int} {n : Nat} {t : Int} (h : tU l a = .ok (n, t)) : 0 ≤ a ∧ a < t ∧ t ≤ l.length ∧ n < 18446744073709551616 ∧ (l.drop a.toNat).take (t - a).toNat = enc n := by
  unfold tU at h
  split at h
  · cases h
  rename_i h1
  split at h
  · rename_i m k hd
    simp only [DR.ok.injEq, Prod.mk.injEq] at h
    obtain ⟨rfl, rfl⟩ := h
    obtain ⟨f, g1, g2⟩ := dec_exact _ 0 m k (by omega) hd
    have hk : 1 ≤ k := by
      have := enc_pos m
      rw [← g2, List.length_take] at this
      omega
    rw [List.length_drop] at g1
    refine ⟨by omega, by omega, by omega, by simpa using f.2.1, ?_⟩
    rw [show (a + (k : Int) - a).toNat = k by omega]; exact g2
  · cases h
theorem tI_ok {l : List UInt8} {a : Int} {n t : Int} (h : tI l a = .ok (n, t)) : 0 ≤ a ∧ a < t ∧ t ≤ l.length ∧ In64 n ∧ (l.drop a.toNat).take (t - a).toNat = encI n := by
  unfold tI at h
  split at h
  · rename_i m k hd
    simp only [DR.ok.injEq, Prod.mk.injEq] at h
    obtain ⟨rfl, rfl⟩ := h
    obtain ⟨h1, h2, h3, h4, h5⟩ := tU_ok hd
    exact ⟨h1, h2, h3, zag_in h4, by rw [h5, encI, zig_zag]⟩
  · cases h
theorem tC_ok {l : List UInt8} {a m : Int} {n : Nat} {t : Int} (h : tC l a m = .ok (n, t)) : tU l a = .ok (n, t) ∧ (n : Int) ≤ m ∧ t + n ≤ l.length := by
  unfold tC at h
  split at h
  · cases h
  · split at h
    · cases h
    · split at h
      · cases h
      · rename_i h0 h1 h2
        simp only [DR.ok.injEq, Prod.mk.injEq] at h
        obtain ⟨rfl, rfl⟩ := h
        exact ⟨h0, by omega, by omega⟩

theorem take_part {l : List UInt8} {a b c : Nat} (h1 : a ≤ b) (h2 : b ≤ c) : (l.drop a).take (c - a) = (l.drop a).take (b - a) ++ (l.drop b).take (c - b) := by
  rw [show c - a = (b - a) + (c - b) by omega, List.take_add, List.drop_drop, show a + (b - a) = b by omega]

theorem tT_ok {l : List UInt8} {a m : Int} {x : List UInt8} {t : Int} (h : tT l a m = .ok (x, t)) : 0 ≤ a ∧ a < t ∧ t ≤ l.length ∧ (x.length : Int) ≤ m ∧ (l.drop a.toNat).take (t - a).toNat = encT x := by
  unfold tT at h
  split at h
  · cases h
  · rename_i n t1 hc
    simp only [DR.ok.injEq, Prod.mk.injEq] at h
    obtain ⟨rfl, rfl⟩ := h
    obtain ⟨h1, h2, h3⟩ := tC_ok hc
    obtain ⟨g1, g2, g3, g4, g5⟩ := tU_ok h1
    have hl : (List.take n (List.drop t1.toNat l)).length = n := by rw [List.length_take, List.length_drop]; omega
    refine ⟨g1, by omega, h3, by omega, ?_⟩
    rw [encT, hl, ← g5]
    have := take_part (l := l) (a := a.toNat) (b := t1.toNat) (c := (t1 + n).toNat) (by omega) (by omega)
    rw [show (t1 + (n : Int) - a).toNat = (t1 + n).toNat - a.toNat by omega, show (t1 - a).toNat = t1.toNat - a.toNat by omega, this, show (t1 + (n : Int)).toNat - t1.toNat = n by omega]

theorem tN_ok {l : List UInt8} : ∀ {c : Nat} {t : Int} {xs : List Int} {t2 : Int}, 0 ≤ t → t ≤ l.length → tN l c t = .ok (xs, t2) →
    xs.length = c ∧ t ≤ t2 ∧ t2 ≤ l.length ∧ (∀ n ∈ xs, In64 n) ∧ (l.drop t.toNat).take (t2 - t).toNat = encs xs
  | 0, t, xs, t2, h0, h1, h => by
    simp only [tN, DR.ok.injEq, Prod.mk.injEq] at h
    obtain ⟨rfl, rfl⟩ := h
    simp [encs, h1]
  | c + 1, t, xs, t2, h0, h1, h => by
    rw [tN] at h
    split at h
    · cases h
    · rename_i n t1 hi
      split at h
      · cases h
      · rename_i ys t3 hn
        simp only [DR.ok.injEq, Prod.mk.injEq] at h
        obtain ⟨rfl, rfl⟩ := h
        obtain ⟨a1, a2, a3, a4, a5⟩ := tI_ok hi
        obtain ⟨b1, b2, b3, b4, b5⟩ := tN_ok (by omega) a3 hn
        refine ⟨by simp [b1], by omega, b3, ?_, ?_⟩
        · intro m hm
          rcases List.mem_cons.1 hm with rfl | hm
          · exact a4
          · exact b4 m hm
        · have e : encs (n :: ys) = encI n ++ encs ys := rfl
          rw [e, ← a5, ← b5]
          have := take_part (l := l) (a := t.toNat) (b := t1.toNat) (c := t3.toNat) (by omega) (by omega)
          rw [show (t3 - t).toNat = t3.toNat - t.toNat by omega, show (t1 - t).toNat = t1.toNat - t.toNat by omega, show (t3 - t1).toNat = t3.toNat - t1.toNat by omega, this]

theorem tL_ok {l : List UInt8} {a m : Int} {xs : List Int} {t : Int} (h : tL l a m = .ok (xs, t)) : 0 ≤ a ∧ a ≤ t ∧ t ≤ l.length ∧ (xs.length : Int) ≤ m ∧ (∀ n ∈ xs, In64 n) ∧ (l.drop a.toNat).take (t - a).toNat = encL xs := by
  unfold tL at h
  split at h
  · cases h
  · rename_i n t1 hc
    obtain ⟨h1, h2, h3⟩ := tC_ok hc
    obtain ⟨g1, g2, g3, g4, g5⟩ := tU_ok h1
    obtain ⟨k1, k2, k3, k4, k5⟩ := tN_ok (by omega) g3 h
    refine ⟨g1, by omega, k3, by omega, k4, ?_⟩
    rw [encL, k1, ← g5, ← k5]
    have := take_part (l := l) (a := a.toNat) (b := t1.toNat) (c := t.toNat) (by omega) (by omega)
    rw [show (t - a).toNat = t.toNat - a.toNat by omega, show (t1 - a).toNat = t1.toNat - a.toNat by omega, show (t - t1).toNat = t.toNat - t1.toNat by omega, this]

/-! What is encoded is decoded. -/
theorem drop_pre (p l : List UInt8) : (p ++ l).drop ((p.length : Int)).toNat = l := by simp
theorem tU_enc {n : Nat} (h : n < 18446744073709551616) (p l : List UInt8) : tU (p ++ (enc n ++ l)) p.length = .ok (n, (p.length : Int) + (enc n).length) := by
  unfold tU
  rw [if_neg (by simp; omega), drop_pre, dec_enc n 0 (Fits.zero h) l]
theorem tI_enc {n : Int} (h : In64 n) (p l : List UInt8) : tI (p ++ (encI n ++ l)) p.length = .ok (n, (p.length : Int) + (encI n).length) := by
  unfold tI encI
  rw [tU_enc (zig_lt h.1 h.2), ]
  simp [zag_zig]
theorem tB_enc (b : Bool) (p l : List UInt8) : tB (p ++ (encB b ++ l)) p.length = .ok (b, (p.length : Int) + 1) := by
  unfold tB
  rw [if_neg (by simp; omega), drop_pre]
  cases b <;> simp [encB]
theorem tC_enc {n : Nat} (h : n < 18446744073709551616) (p l : List UInt8) {m : Int} (hm : (n : Int) ≤ m) (hl : n ≤ l.length) : tC (p ++ (enc n ++ l)) p.length m = .ok (n, (p.length : Int) + (enc n).length) := by
  unfold tC
  rw [tU_enc h]
  simp only
  rw [if_neg (by omega), if_neg (by simp; omega)]
theorem tT_enc {x : List UInt8} (h : x.length < 18446744073709551616) (p l : List UInt8) {m : Int} (hm : (x.length : Int) ≤ m) : tT (p ++ (encT x ++ l)) p.length m = .ok (x, (p.length : Int) + (encT x).length) := by
  unfold tT encT
  rw [List.append_assoc, tC_enc h p _ hm (by simp)]
  simp only
  congr 2
  · rw [show ((p.length : Int) + ((enc x.length).length : Int)).toNat = (p ++ enc x.length).length by simp; omega, ← List.append_assoc]
    simp
  · simp; omega
theorem tN_enc : ∀ (xs : List Int), (∀ n ∈ xs, In64 n) → ∀ (p l : List UInt8), tN (p ++ (encs xs ++ l)) xs.length p.length = .ok (xs, (p.length : Int) + (encs xs).length)
  | [], _, p, l => by simp [tN, encs]
  | n :: xs, h, p, l => by
    have e : encs (n :: xs) = encI n ++ encs xs := rfl
    rw [List.length_cons, tN, e, List.append_assoc, tI_enc (h n (by simp))]
    have := tN_enc xs (fun m hm => h m (by simp [hm])) (p ++ encI n) l
    simp only
    rw [List.append_assoc, List.length_append, Int.natCast_add] at this
    rw [this]
    simp only [List.length_append]
    congr 2
    omega
theorem tL_enc {xs : List Int} (h : ∀ n ∈ xs, In64 n) (hx : xs.length < 18446744073709551616) (p l : List UInt8) {m : Int} (hm : (xs.length : Int) ≤ m) : tL (p ++ (encL xs ++ l)) p.length m = .ok (xs, (p.length : Int) + (encL xs).length) := by
  unfold tL encL
  have hs := (encs_len xs h).1
  rw [List.append_assoc, tC_enc hx p _ hm (by simp; omega)]
  simp only
  have := tN_enc xs h (p ++ enc xs.length) l
  rw [List.append_assoc, List.length_append, Int.natCast_add] at this
  rw [this]
  simp only [List.length_append]
  congr 2
  omega

/-! Beginnings. -/
theorem tU_cut {n : Nat} (h : n < 18446744073709551616) (p : List UInt8) {j : Nat} (hj : j < (enc n).length) : tU (p ++ (enc n).take j) p.length = .err 5 := by
  unfold tU
  rw [if_neg (by simp; omega), drop_pre, dec_cut n 0 (Fits.zero h) j hj]
theorem tI_cut {n : Int} (h : In64 n) (p : List UInt8) {j : Nat} (hj : j < (encI n).length) : tI (p ++ (encI n).take j) p.length = .err 5 := by
  unfold tI encI at *
  rw [tU_cut (zig_lt h.1 h.2) p hj]
theorem tC_cut {n : Nat} (h : n < 18446744073709551616) (l : List UInt8) {m : Int} (hm : (n : Int) ≤ m) (hl : l.length ≤ n) {j : Nat} (hj : j < (enc n ++ l).length) (hn : l.length = n) : tC ((enc n ++ l).take j) 0 m = .err 5 := by
  unfold tC
  by_cases h1 : j < (enc n).length
  · have := tU_cut h [] h1
    rw [List.take_append_of_le_length (by omega)]
    simp only [List.nil_append, List.length_nil, Int.natCast_zero] at this
    rw [this]
  · rw [List.take_append, List.take_of_length_le (by omega)]
    have := tU_enc h [] (l.take (j - (enc n).length))
    simp only [List.nil_append, List.length_nil, Int.natCast_zero] at this
    rw [this]
    simp only
    rw [if_neg (by omega), if_pos]
    simp at hj ⊢
    omega
theorem tT_cut {x : List UInt8} (h : x.length < 18446744073709551616) {m : Int} (hm : (x.length : Int) ≤ m) {j : Nat} (hj : j < (encT x).length) : tT ((encT x).take j) 0 m = .err 5 := by
  unfold tT encT at *
  rw [tC_cut h x hm (Nat.le_refl _) hj rfl]
theorem tN_cut : ∀ (xs : List Int), (∀ n ∈ xs, In64 n) → ∀ (p : List UInt8) (j : Nat), j < (encs xs).length → tN (p ++ (encs xs).take j) xs.length p.length = .err 5
  | [], _, p, j, h => by simp [encs] at h
  | n :: xs, h, p, j, hj => by
    have e : encs (n :: xs) = encI n ++ encs xs := rfl
    rw [e] at hj ⊢
    rw [List.length_cons, tN]
    by_cases h1 : j < (encI n).length
    · rw [List.take_append_of_le_length (by omega), tI_cut (h n (by simp)) p h1]
    · rw [List.take_append, List.take_of_length_le (by omega), tI_enc (h n (by simp))]
      have := tN_cut xs (fun m hm => h m (by simp [hm])) (p ++ encI n) (j - (encI n).length) (by simp at hj; omega)
      rw [List.append_assoc, List.length_append, Int.natCast_add] at this
      simp only [this]
theorem tL_cut {xs : List Int} (h : ∀ n ∈ xs, In64 n) (hx : xs.length < 18446744073709551616) {m : Int} (hm : (xs.length : Int) ≤ m) {j : Nat} (hj : j < (encL xs).length) : tL ((encL xs).take j) 0 m = .err 5 := by
  unfold tL tC encL at *
  by_cases h1 : j < (enc xs.length).length
  · have := tU_cut hx [] h1
    rw [List.take_append_of_le_length (by omega)]
    simp only [List.nil_append, List.length_nil, Int.natCast_zero] at this
    rw [this]
  · rw [List.take_append, List.take_of_length_le (by omega)]
    have := tU_enc hx [] ((encs xs).take (j - (enc xs.length).length))
    simp only [List.nil_append, List.length_nil, Int.natCast_zero] at this
    rw [this]
    simp only
    rw [if_neg (by omega)]
    have := tN_cut xs h (enc xs.length) (j - (enc xs.length).length) (by simp at hj; omega)
    split
    · rename_i h2
      split at h2
      · cases h2; rfl
      · cases h2
    · rename_i h2
      split at h2
      · cases h2
      · simp only [DR.ok.injEq, Prod.mk.injEq] at h2
        obtain ⟨rfl, rfl⟩ := h2
        rw [Int.zero_add]
        exact this
end Go.Proofs.Ytemhfhfbhdkedaa
