/- Contracts of Name, the program's and the reference's. Conditions: the text's length. -/
import Derived.Test.YthoodaldmfojaaaDoorKitS
import Derived.Lib.DecodeN
import Derived.Laws.RangeAny
namespace Go.Proofs.YthoodaldmfojaaaDoor
open Go.ChangeShapes Go.WideShapes Go.ChangeAt Go.RowKit
/-- A byte that is not ASCII: the rune is none either, and so is each byte that it takes. -/
theorem high_rune {s : ByteArray} {pos : Nat} (h : pos < s.size) (h0 : 128 ≤ (s.get! pos).toNat) :
    128 ≤ (Utf8.decode s pos).1 ∧ (Utf8.decode s pos).1 < 2147483648 ∧ 1 ≤ (Utf8.decode s pos).2 ∧ pos + (Utf8.decode s pos).2 ≤ s.size ∧ ∀ j, j < (Utf8.decode s pos).2 → 128 ≤ (s.get! (pos + j)).toNat := by
  have lt : ∀ k, (s.get! k).toNat < 256 := fun k => by have := (s.get! k).toNat_lt; omega
  have l0 := lt pos
  have l1 := lt (pos + 1)
  have l2 := lt (pos + 2)
  have l3 := lt (pos + 3)
  rw [Lib.decode_at]
  unfold Lib.decodeN
  have key : ∀ (n : Nat), n ≤ 4 → (∀ j, 1 ≤ j → j < n → 128 ≤ (s.get! (pos + j)).toNat) → ∀ j, j < n → 128 ≤ (s.get! (pos + j)).toNat := by
    intro n _ hn j hj
    by_cases hz : j = 0
    · subst hz; exact h0
    · exact hn j (by omega) hj
  repeat' split
  all_goals (refine ⟨by simp only; omega, by simp only; omega, by simp only; omega, by simp only; omega, key _ (by simp only; omega) ?_⟩; intro j h1 h2; simp only at h2)
  all_goals first
    | omega
    | (have : j = 1 := by omega
       subst this; omega)
    | (have : j = 1 ∨ j = 2 := by omega
       rcases this with rfl | rfl <;> omega)
    | (have : j = 1 ∨ j = 2 ∨ j = 3 := by omega
       rcases this with rfl | rfl | rfl <;> omega)
theorem sb_get {l : L8} {k : Nat} {b : UInt8} (hb : l[k]? = some b) : (sb l).get! k = b := by
  obtain ⟨h1, h2⟩ := List.getElem?_eq_some_iff.1 hb
  have h : k < (sb l).size := by rw [sb_size]; exact h1
  have e : (sb l).get! k = (sb l)[k]'h := by
    simp [ByteArray.get!]
    rw [hb]
    exact h2.symm
  rw [e]
  exact h2
theorem sb_lt {l : L8} {k : Nat} : k < (sb l).size ↔ k < l.length := by rw [sb_size]
/-- What a rune at place k is. -/
def RuneAt (l : L8) (k : Nat) (b : UInt8) (r n : Nat) : Prop :=
  (b.toNat < 128 ∧ r = b.toNat ∧ n = 1) ∨ (128 ≤ b.toNat ∧ 128 ≤ r ∧ r < 2147483648 ∧ 1 ≤ n ∧ k + n ≤ l.length ∧ ∀ j, j < n → ∃ c, l[k + j]? = some c ∧ 128 ≤ c.toNat)
theorem rune_at {l : L8} {k : Nat} {b : UInt8} (hb : l[k]? = some b) : RuneAt l k b (Utf8.decode (sb l) k).1 (Utf8.decode (sb l) k).2 := by
  have hk : k < (sb l).size := by rw [sb_lt]; exact (List.getElem?_eq_some_iff.1 hb).1
  have hg := sb_get hb
  by_cases h : b.toNat < 128
  · left
    have e : (sb l)[k] = b := by
      obtain ⟨h1, h2⟩ := List.getElem?_eq_some_iff.1 hb
      subst h2; rfl
    have := decode_ascii (sb l) k hk (by rw [e]; exact h)
    rw [this, e]
    exact ⟨h, rfl, rfl⟩
  · right
    obtain ⟨h1, h2, h3, h4, h5⟩ := high_rune (s := sb l) hk (by rw [hg]; omega)
    rw [sb_size] at h4
    refine ⟨by omega, h1, h2, h3, h4, fun j hj => ?_⟩
    have hl : k + j < l.length := by omega
    refine ⟨l[k + j], by simp [hl], ?_⟩
    have := h5 j hj
    rwa [sb_get (b := l[k + j]) (by simp [hl])] at this
theorem next_iter {l : L8} {k : Nat} {b : UInt8} (hb : l[k]? = some b) (w : World) : ∃ r n : Nat, RuneAt l k b r n ∧ ∀ ty, (Instr.next (.pointer (some ⟨w.heap.size, 0, none⟩)) true ty).run Tryd.prog (w.iter (sb l) k) = .ok (.tuple #[.bool true, .int .i64 k, .int .i32 r]) (w.iter (sb l) (k + n)) :=
  ⟨_, _, rune_at hb, fun ty => run_next_any w (sb l) k ty (by rw [sb_lt]; exact (List.getElem?_eq_some_iff.1 hb).1)⟩
theorem end_iter {l : L8} {k : Nat} (h : k = l.length) (w : World) : ∀ ty, (Instr.next (.pointer (some ⟨w.heap.size, 0, none⟩)) true ty).run Tryd.prog (w.iter (sb l) k) = .ok (.tuple #[.bool false]) (w.iter (sb l) k) :=
  fun ty => run_next_end w (sb l) k ty (by rw [sb_lt]; omega)
theorem below_iter (w : World) (s : ByteArray) (k : Nat) : Below w.heap.size w (w.iter s k) := (Below.refl _ _).alloc (Nat.le_refl _) _
theorem all_take {l : L8} {k : Nat} {b : UInt8} {p : UInt8 → Bool} (hb : l[k]? = some b) (h : (l.take k).all p = true) (hp : p b = true) : (l.take (k + 1)).all p = true := by
  obtain ⟨h1, h2⟩ := List.getElem?_eq_some_iff.1 hb
  rw [List.take_succ_eq_append_getElem h1, List.all_append, h, h2]; simp [hp]
theorem all_bad {l : L8} {k : Nat} {b : UInt8} {p : UInt8 → Bool} (hb : l[k]? = some b) (hp : p b = false) : l.all p = false := by
  rw [← Bool.not_eq_true, List.all_eq_true]
  intro h
  have := h b (List.mem_of_getElem? hb)
  rw [hp] at this; cases this
theorem at_get {l : L8} {k : Nat} (h : k < l.length) : ∃ b, l[k]? = some b := ⟨l[k], by simp [h]⟩
theorem at_idx {l : List UInt8} {k : Nat} {b : UInt8} (hb : l[k]? = some b) (hs : Hid ((sb l).size = l.length)) : ∀ ww : World, (Instr.index 9 (.string ⟨l.toArray⟩) (.int .i64 (k : Int))).run Tryd.prog ww = .ok (.int .u8 (b.toNat : Int)) ww := by
  intro ww
  obtain ⟨hj, he⟩ := List.getElem?_eq_some_iff.1 hb
  rw [run_index_string ww 9 _ _ _ Tryd.underlying9, dif_pos ⟨by omega, by rw [hs.out]; omega⟩]
  subst he
  rfl
theorem not_nil {l : L8} (h : 1 ≤ l.length) : (l == []) = false ∧ l.isEmpty = false ∧ decide (l = []) = false := by
  cases l with
  | nil => simp at h
  | cons x xs => exact ⟨rfl, rfl, rfl⟩
theorem letter_any (r : Nat) (q : Bool) (w : World) (h : (decide (97 ≤ r) && decide (r ≤ 122)) = q) :
    Calls Tryd.prog 81 #[.int .i32 r] w fun e w' => e = .returned (.bool q) ∧ w = w' := by
  by_cases h1 : 97 ≤ r
  · have t1 : decide ((97 : Int) ≤ (r : Int)) = true := by simp; omega
    have E := Lib.hid (show decide ((r : Int) ≤ 122) = q by rw [← h]; simp [h1]; by_cases h2 : r ≤ 122 <;> simp [h2] <;> omega)
    clear h
    go_enter Tryd.func81, Tryd.ntmps81
    go_wp2
    go_ret
    exact ⟨ret1_bool E.out, rfl⟩
  · have t1 : decide ((97 : Int) ≤ (r : Int)) = false := by simp; omega
    have E : false = q := by rw [← h]; simp [h1]
    subst E
    clear h
    go_enter Tryd.func81, Tryd.ntmps81
    go_wp2
    go_ret
    exact ⟨rfl, rfl⟩
theorem digit_any (r : Nat) (q : Bool) (w : World) (h : (decide (48 ≤ r) && decide (r ≤ 57)) = q) :
    Calls Tryd.prog 82 #[.int .i32 r] w fun e w' => e = .returned (.bool q) ∧ w = w' := by
  by_cases h1 : 48 ≤ r
  · have t1 : decide ((48 : Int) ≤ (r : Int)) = true := by simp; omega
    have E := Lib.hid (show decide ((r : Int) ≤ 57) = q by rw [← h]; simp [h1]; by_cases h2 : r ≤ 57 <;> simp [h2] <;> omega)
    clear h
    go_enter Tryd.func82, Tryd.ntmps82
    go_wp2
    go_ret
    exact ⟨ret1_bool E.out, rfl⟩
  · have t1 : decide ((48 : Int) ≤ (r : Int)) = false := by simp; omega
    have E : false = q := by rw [← h]; simp [h1]
    subst E
    clear h
    go_enter Tryd.func82, Tryd.ntmps82
    go_wp2
    go_ret
    exact ⟨rfl, rfl⟩
theorem rune_lt {l : L8} {k : Nat} {b : UInt8} {r n : Nat} (h : RuneAt l k b r n) : (decide (97 ≤ r) && decide (r ≤ 122)) = isLt b := by
  rcases h with ⟨h1, h2, _⟩ | ⟨h1, h2, _⟩
  · rw [h2]; rfl
  · have : ¬ r ≤ 122 := by omega
    have : ¬ b.toNat ≤ 122 := by omega
    simp [isLt, *]
theorem rune_dg {l : L8} {k : Nat} {b : UInt8} {r n : Nat} (h : RuneAt l k b r n) : (decide (48 ≤ r) && decide (r ≤ 57)) = isDg b := by
  rcases h with ⟨h1, h2, _⟩ | ⟨h1, h2, _⟩
  · rw [h2]; rfl
  · have : ¬ r ≤ 57 := by omega
    have : ¬ b.toNat ≤ 57 := by omega
    simp [isDg, *]
theorem byte_eq {b : UInt8} {n : Nat} (hn : n < 256) : (b.toNat = n) ↔ b = UInt8.ofNat n := by
  constructor
  · intro h; apply UInt8.toNat_inj.1; rw [h]; simp; omega
  · intro h; subst h; simp; omega
theorem rune_us {l : L8} {k : Nat} {b : UInt8} {r n : Nat} (h : RuneAt l k b r n) : (r = 95) ↔ b = 95 := by
  have e := byte_eq (b := b) (n := 95) (by omega)
  rcases h with ⟨h1, h2, _⟩ | ⟨h1, h2, _⟩
  · rw [h2]; exact e
  · constructor
    · intro h; omega
    · intro h; have := e.2 h; omega
def nmD (b : UInt8) : Bool := isDg b || decide (b = 95)
def okN (k : Nat) (b : UInt8) : Bool := isLt b || (decide (k ≠ 0) && nmD b)
theorem okN_ascii {k : Nat} {b : UInt8} (h : okN k b = true) : b.toNat < 128 := by
  simp only [okN, nmD, Bool.or_eq_true, Bool.and_eq_true, isLt, isDg, decide_eq_true_eq] at h
  rcases h with h | ⟨_, h | h⟩
  · omega
  · omega
  · subst h; decide
theorem name_bad {l : L8} {k : Nat} {b : UInt8} (hb : l[k]? = some b) (h : okN k b = false) : isName l = false := by
  simp only [okN, Bool.or_eq_false_iff] at h
  by_cases hk : k = 0
  · subst hk
    cases l with
    | nil => simp at hb
    | cons x xs => simp at hb; subst hb; simp [isName, h.1]
  · have h2 : nmB b = false := by
      have h1 := h.2
      simp only [hk, ne_eq, not_false_eq_true, decide_true, Bool.true_and] at h1
      simp only [nmB, h.1, Bool.false_or]; exact h1
    simp [isName, all_bad hb h2]
theorem name_out {l : L8} (h : ¬ (1 ≤ l.length ∧ l.length ≤ 12)) : isName l = false := by
  rw [← Bool.not_eq_true]; intro e
  simp only [isName, Bool.and_eq_true, decide_eq_true_eq] at e
  cases l with
  | nil => simp at e
  | cons x xs => exact h ⟨by simp, e.2.2⟩
def NPre (l : L8) (k : Nat) : Prop := ∀ j b, j < k → l[j]? = some b → okN j b = true
theorem NPre.next {l : L8} {k : Nat} {b : UInt8} (h : NPre l k) (hb : l[k]? = some b) (ho : okN k b = true) : NPre l (k + 1) := by
  intro j c hj hc
  by_cases e : j = k
  · subst e; rw [hb] at hc; simp at hc; subst hc; exact ho
  · exact h j c (by omega) hc
theorem name_ok {l : L8} (h : NPre l l.length) (h1 : 1 ≤ l.length) (h2 : l.length ≤ 12) : isName l = true := by
  cases l with
  | nil => simp at h1
  | cons x xs =>
    have h0 := h 0 x (by simp) rfl
    simp [okN] at h0
    have ha : (x :: xs).all nmB = true := by
      rw [List.all_eq_true]
      intro b hb
      obtain ⟨j, hj, e⟩ := List.getElem_of_mem hb
      have := h j b hj (by rw [List.getElem?_eq_getElem hj, e])
      simp only [okN, nmD, Bool.or_eq_true, Bool.and_eq_true] at this
      simp only [nmB, Bool.or_eq_true]
      rcases this with h | ⟨_, h⟩
      · exact Or.inl h
      · exact Or.inr h
    simp only [isName, ha, List.head?_cons, h0, Bool.true_and, decide_eq_true_eq]; exact h2
set_option maxRecDepth 100000 in
set_option maxHeartbeats 2000000 in
theorem name_any (l : L8) (w : World) (hl : l.length ≤ 9223372036854775807) :
    Calls Tryd.prog 45 #[str l] w (RetB w (isName l)) := by
  obtain ⟨q, hq⟩ : ∃ q, isName l = q := ⟨_, rfl⟩
  rw [hq]
  have hs := Lib.hid (sb_size l)
  replace hq := Lib.hid hq
  by_cases h12 : 1 ≤ l.length ∧ l.length ≤ 12
  · obtain ⟨z1, z2, z3⟩ := not_nil h12.1
    have t0 : decide ((12 : Int) < (l.length : Int)) = false := by simp; omega
    go_enter Tryd.func45, Tryd.ntmps45
    go_wp2
    go_loopg [] l.length (fun g wx => ∃ (k : Nat), k + g = l.length ∧ Hid (NPre l k) ∧ wx = w.iter (sb l) k)
    case atStart => exact ⟨0, by omega, Lib.hid (fun j b h => absurd h (Nat.not_lt_zero _)), rfl⟩
    case round =>
      obtain ⟨k, hg, HN, rfl⟩ := hrel
      cases gk with
      | zero =>
        have hnx := end_iter (l := l) (k := k) (by omega) w
        have E := hq.out
        rw [name_ok (by have := HN.out; rwa [show k = l.length by omega] at this) h12.1 h12.2] at E
        subst E
        clear HN
        go_wp2
        go_ret
        exact ⟨rfl, below_iter _ _ _⟩
      | succ g =>
        obtain ⟨b, hb⟩ := at_get (l := l) (k := k) (by omega)
        obtain ⟨r, n, hr, hnx⟩ := next_iter hb w
        have KL := fun ww => letter_any r (isLt b) ww (rune_lt hr)
        have KD := fun ww => digit_any r (isDg b) ww (rune_dg hr)
        have hu := rune_us hr
        by_cases hok : okN k b = true
        · have N := Lib.hid (HN.out.next hb hok)
          obtain ⟨rfl, rfl⟩ : r = b.toNat ∧ n = 1 := by
            rcases hr with h | h
            · exact h.2
            · have := okN_ascii hok; omega
          have hb' := Lib.hid hb
          clear hr HN hb
          by_cases c1 : isLt b = true
          · rw [c1] at KL
            clear KD hu hok
            go_wp2_with (go_at_call 81; refine (KL _).mono ?_; rintro e w' ⟨rfl, rfl⟩)
            go_roundg g
            case measure => omega
            case rel => exact ⟨k + 1, by omega, N, rfl⟩
          · simp only [Bool.not_eq_true] at c1
            rw [c1] at KL
            simp only [okN, c1, Bool.false_or, Bool.and_eq_true, decide_eq_true_eq] at hok
            have c2 : ((k : Int) == 0) = false := by simp; exact hok.1
            by_cases c3 : isDg b = true
            · rw [c3] at KD
              clear hok hu
              go_wp2_with (first
                | (go_at_call 81; refine (KL _).mono ?_; rintro e w' ⟨rfl, rfl⟩)
                | (go_at_call 82; refine (KD _).mono ?_; rintro e w' ⟨rfl, rfl⟩))
              go_roundg g
              case measure => omega
              case rel => exact ⟨k + 1, by omega, N, rfl⟩
            · simp only [Bool.not_eq_true] at c3
              rw [c3] at KD
              have c4 : b = 95 := by have := hok.2; simpa [nmD, c3] using this
              clear hok hu KL KD c1 c3
              subst c4
              have KL := fun ww => letter_any 95 false ww rfl
              have KD := fun ww => digit_any 95 false ww rfl
              go_wp2_with (first
                | (go_at_call 81; refine (KL _).mono ?_; rintro e w' ⟨rfl, rfl⟩)
                | (go_at_call 82; refine (KD _).mono ?_; rintro e w' ⟨rfl, rfl⟩))
              go_roundg g
              case measure => omega
              case rel => exact ⟨k + 1, by omega, N, rfl⟩
        · simp only [Bool.not_eq_true] at hok
          have Q := hq.out
          rw [name_bad hb hok] at Q
          subst Q
          simp only [okN, Bool.or_eq_false_iff] at hok
          rw [hok.1] at KL
          replace hb := Lib.hid hb
          clear hr HN
          by_cases c2 : k = 0
          · subst c2
            clear hok hu KD
            go_wp2_with (go_at_call 81; refine (KL _).mono ?_; rintro e w' ⟨rfl, rfl⟩)
            go_ret
            exact ⟨rfl, below_iter _ _ _⟩
          · have h2 := hok.2
            simp only [c2, ne_eq, not_false_eq_true, decide_true, Bool.true_and, nmD, Bool.or_eq_false_iff, decide_eq_false_iff_not] at h2
            rw [h2.1] at KD
            have c3 : ((k : Int) == 0) = false := by simp; exact c2
            have c4 : ((r : Int) == 95) = false := by
              rw [← Bool.not_eq_true]; intro e
              have := eq_of_beq e
              exact h2.2 (hu.1 (by omega))
            clear hok hu h2
            go_wp2_with (first
              | (go_at_call 81; refine (KL _).mono ?_; rintro e w' ⟨rfl, rfl⟩)
              | (go_at_call 82; refine (KD _).mono ?_; rintro e w' ⟨rfl, rfl⟩))
            go_ret
            exact ⟨rfl, below_iter _ _ _⟩
  · have E := hq.out
    rw [name_out h12] at E
    subst E
    by_cases h1 : 1 ≤ l.length
    · obtain ⟨z1, z2, z3⟩ := not_nil h1
      have t0 : decide ((12 : Int) < (l.length : Int)) = true := by simp; omega
      go_enter Tryd.func45, Tryd.ntmps45
      go_wp2
      go_ret
      exact ⟨rfl, Below.refl _ _⟩
    · obtain rfl : l = [] := List.length_eq_zero_iff.1 (by omega)
      go_enter Tryd.func45, Tryd.ntmps45
      go_wp2
      go_ret
      exact ⟨rfl, Below.refl _ _⟩
set_option maxRecDepth 100000 in
set_option maxHeartbeats 2000000 in
theorem rname_any (l : L8) (w : World) (hl : l.length ≤ 9223372036854775807) :
    Calls Tryd.prog 72 #[str l] w fun e w' => e = .returned (.bool (isName l)) ∧ w = w' := by
  obtain ⟨q, hq⟩ : ∃ q, isName l = q := ⟨_, rfl⟩
  rw [hq]
  have hs := Lib.hid (sb_size l)
  replace hq := Lib.hid hq
  go_enter Tryd.func72, Tryd.ntmps72
  go_wp2
  go_loopg [3] l.length (fun g s3 wx => ∃ (k : Nat), s3 = .int .i64 k ∧ k + g = l.length ∧ Hid (NPre l k) ∧ w = wx)
  case atStart => exact ⟨0, rfl, by omega, Lib.hid (fun j b h => absurd h (Nat.not_lt_zero _)), rfl⟩
  case round =>
    obtain ⟨k, rfl, hg, HN, rfl⟩ := hrel
    cases gk with
    | zero =>
      have h : ¬ ((k : Int) < (l.length : Int)) := by omega
      have HA := HN.out
      rw [show k = l.length by omega] at HA
      clear HN
      by_cases h1 : 1 ≤ l.length
      · have t1 : decide ((1 : Int) ≤ (l.length : Int)) = true := by simp; omega
        have E := Lib.hid (show decide ((l.length : Int) ≤ 12) = q by
          rw [← hq.out]
          by_cases h2 : l.length ≤ 12
          · rw [name_ok HA h1 h2]; simp; omega
          · rw [name_out (by omega)]; simp; omega)
        replace HA := Lib.hid HA
        clear h1
        go_wp2
        all_goals go_ret
        all_goals exact ⟨ret1_bool E.out, rfl⟩
      · have t1 : decide ((1 : Int) ≤ (l.length : Int)) = false := by simp; omega
        have Q := hq.out
        rw [name_out (by omega)] at Q
        subst Q
        replace HA := Lib.hid HA
        clear h1
        go_wp2
        all_goals go_ret
        all_goals exact ⟨rfl, rfl⟩
    | succ g =>
      have h : ((k : Int) < (l.length : Int)) := by omega
      obtain ⟨b, hb⟩ := at_get (l := l) (k := k) (by omega)
      have hi := at_idx hb hs
      have e95 := byte_eq (b := b) (n := 95) (by omega)
      have eb : (UInt8.ofNat 95) = (95 : UInt8) := rfl
      rw [eb] at e95
      have O : okN k b = true ↔ ((97 ≤ (b.toNat : Int) ∧ (b.toNat : Int) ≤ 122) ∨ (¬ (k : Int) = 0 ∧ ((48 ≤ (b.toNat : Int) ∧ (b.toNat : Int) ≤ 57) ∨ (b.toNat : Int) = 95))) := by
        simp only [okN, nmD, isLt, isDg, Bool.or_eq_true, Bool.and_eq_true, decide_eq_true_eq, ← e95]
        omega
      have N := Lib.hid (show ((97 ≤ (b.toNat : Int) ∧ (b.toNat : Int) ≤ 122) ∨ (¬ (k : Int) = 0 ∧ ((48 ≤ (b.toNat : Int) ∧ (b.toNat : Int) ≤ 57) ∨ (b.toNat : Int) = 95))) → Hid (NPre l (k + 1)) from fun ho => Lib.hid (HN.out.next hb (O.2 ho)))
      have M := Lib.hid (show ¬ ((97 ≤ (b.toNat : Int) ∧ (b.toNat : Int) ≤ 122) ∨ (¬ (k : Int) = 0 ∧ ((48 ≤ (b.toNat : Int) ∧ (b.toNat : Int) ≤ 57) ∨ (b.toNat : Int) = 95))) → isName l = false from fun ho => name_bad hb (by rw [← Bool.not_eq_true]; intro e; exact ho (O.1 e)))
      clear O eb e95 HN
      replace hb := Lib.hid hb
      go_wp2
      all_goals first
        | (go_roundg g
           case measure => omega
           case rel => exact ⟨k + 1, by go_num, by omega, N.out (by clear hi; (try simp only [Bool.not_eq_false', decide_eq_true_eq, beq_iff_eq, beq_eq_false_iff_ne, ne_eq] at *); omega), rfl⟩)
        | (go_ret
           exact ⟨ret1_bool ((M.out (by clear hi; (try simp only [Bool.not_eq_true', decide_eq_false_iff_not, beq_iff_eq, beq_eq_false_iff_ne, ne_eq, Int.not_le] at *); omega)).symm.trans hq.out), rfl⟩)
end Go.Proofs.YthoodaldmfojaaaDoor
