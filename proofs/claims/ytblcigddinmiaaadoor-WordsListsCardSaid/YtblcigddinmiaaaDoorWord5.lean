/- Contracts of the tests on one word: isWord and the reference's word; Name; isDecimal and the reference's digits. Conditions: the text's length. -/
import Derived.Test.YtblcigddinmiaaaDoorKit5
namespace Go.Proofs.YtblcigddinmiaaaDoor
open Go.ChangeShapes Go.WideShapes Go.ChangeAt Go.RowKit
theorem sb_get {l : L8} {k : Nat} {b : UInt8} (hb : l[k]? = some b) : (sb l).get! k = b := by
  obtain ⟨h1, h2⟩ := List.getElem?_eq_some_iff.1 hb
  have h : k < (sb l).size := by rw [sb_size]; exact h1
  have e : (sb l).get! k = (sb l)[k]'h := by
    simp [ByteArray.get!, getElem!_pos, h]
    rw [hb]
    exact h2.symm
  rw [e]
  exact h2
theorem sb_lt {l : L8} {k : Nat} : k < (sb l).size ↔ k < l.length := by rw [sb_size]
/-- What a rune at place k is. -/
def RuneAt (l : L8) (k : Nat) (b : UInt8) (r n : Nat) : Prop :=
  (b.toNat < 128 ∧ r = b.toNat ∧ n = 1) ∨ (128 ≤ b.toNat ∧ 128 ≤ r ∧ r < 2147483648 ∧ 1 ≤ n ∧ k + n ≤ l.length ∧ ∀ j, j < n → ∃ c, l[k + j]? = some c ∧ 128 ≤ c.toNat)
theorem rune_at {l : L8} {k : Nat} {b : UInt8} (hb : l[k]? = some b) : RuneAt l k b (Utf8.decode (sb l) k).1 (Utf8.decode (sb l) k).2 := by
  have hk : k < (sb l).size := by rw [sb_lt]; exact (List.getElem?_eq_some_iff.1 hb).1
  have hg := sb_get hb
  by_cases h : b.toNat < 128
  · left
    have e : (sb l)[k] = b := by
      obtain ⟨h1, h2⟩ := List.getElem?_eq_some_iff.1 hb
      subst h2; rfl
    have := decode_ascii (sb l) k hk (by rw [e]; exact h)
    rw [this, e]
    exact ⟨h, rfl, rfl⟩
  · right
    obtain ⟨h1, h2, h3, h4, h5⟩ := high_rune (s := sb l) hk (by rw [hg]; omega)
    rw [sb_size] at h4
    refine ⟨by omega, h1, h2, h3, h4, fun j hj => ?_⟩
    have hl : k + j < l.length := by omega
    refine ⟨l[k + j], by simp [hl], ?_⟩
    have := h5 j hj
    rwa [sb_get (b := l[k + j]) (by simp [hl])] at this
theorem next_iter {l : L8} {k : Nat} {b : UInt8} (hb : l[k]? = some b) (w : World) : ∃ r n : Nat, RuneAt l k b r n ∧ ∀ ty, (Instr.next (.pointer (some ⟨w.heap.size, 0, none⟩)) true ty).run Tryd.prog (w.iter (sb l) k) = .ok (.tuple #[.bool true, .int .i64 k, .int .i32 r]) (w.iter (sb l) (k + n)) :=
  ⟨_, _, rune_at hb, fun ty => run_next_any w (sb l) k ty (by rw [sb_lt]; exact (List.getElem?_eq_some_iff.1 hb).1)⟩
theorem end_iter {l : L8} {k : Nat} (h : k = l.length) (w : World) : ∀ ty, (Instr.next (.pointer (some ⟨w.heap.size, 0, none⟩)) true ty).run Tryd.prog (w.iter (sb l) k) = .ok (.tuple #[.bool false]) (w.iter (sb l) k) :=
  fun ty => run_next_end w (sb l) k ty (by rw [sb_lt]; omega)
theorem below_iter (w : World) (s : ByteArray) (k : Nat) : Below w.heap.size w (w.iter s k) := (Below.refl _ _).alloc (Nat.le_refl _) _
theorem all_take {l : L8} {k : Nat} {b : UInt8} {p : UInt8 → Bool} (hb : l[k]? = some b) (h : (l.take k).all p = true) (hp : p b = true) : (l.take (k + 1)).all p = true := by
  obtain ⟨h1, h2⟩ := List.getElem?_eq_some_iff.1 hb
  rw [List.take_succ_eq_append_getElem h1, List.all_append, h, h2]; simp [hp]
theorem all_bad {l : L8} {k : Nat} {b : UInt8} {p : UInt8 → Bool} (hb : l[k]? = some b) (hp : p b = false) : l.all p = false := by
  rw [← Bool.not_eq_true, List.all_eq_true]
  intro h
  have := h b (List.mem_of_getElem? hb)
  rw [hp] at this; cases this
theorem at_get {l : L8} {k : Nat} (h : k < l.length) : ∃ b, l[k]? = some b := ⟨l[k], by simp [h]⟩
theorem isW_bad {l : L8} (h : l.all okB = false) : isW l = false := by simp [isW, h]
theorem isW_end {l : L8} (h : l.all okB = true) (h1 : 1 ≤ l.length) (h2 : l.length ≤ 64) : isW l = true := by simp [isW, h, h1, h2]
theorem isW_out {l : L8} (h1 : ¬ (1 ≤ l.length ∧ l.length ≤ 64)) : isW l = false := by
  rw [← Bool.not_eq_true]; intro h; exact h1 (isW_len h)
set_option maxHeartbeats 1000000 in
theorem isWord_any (l : L8) (w : World) (hl : l.length ≤ 9223372036854775807) :
    Calls Tryd.prog 46 #[str l] w (RetB w (isW l)) := by
  obtain ⟨q, hq⟩ : ∃ q, isW l = q := ⟨_, rfl⟩
  rw [hq]
  have hs := Lib.hid (sb_size l)
  replace hq := Lib.hid hq
  go_enter Tryd.func46, Tryd.ntmps46
  go_wp2
  go_loopg [] l.length (fun g wx => ∃ (k : Nat), k + g = l.length ∧ Hid ((l.take k).all okB = true) ∧ wx = w.iter (sb l) k)
  case atStart => exact ⟨0, by omega, Lib.hid rfl, rfl⟩
  case round =>
    obtain ⟨k, hg, HN, rfl⟩ := hrel
    cases gk with
    | zero =>
      have hnx := end_iter (l := l) (k := k) (by omega) w
      have HA : l.all okB = true := by have := HN.out; rwa [List.take_of_length_le (by omega)] at this
      cases l with
      | nil =>
        obtain rfl : false = q := hq.out
        go_wp2
        go_ret
        exact ⟨rfl, below_iter _ _ _⟩
      | cons x xs =>
        have E : decide ((xs.length : Int) + 1 ≤ 64) = q := by
          rw [← hq.out]
          by_cases h64 : (x :: xs).length ≤ 64
          · rw [isW_end HA (by simp) h64]; simp at h64 ⊢; omega
          · rw [isW_out (by omega)]; simp at h64 ⊢; omega
        replace HA := Lib.hid HA
        replace E := Lib.hid E
        replace hs := Lib.hid hs
        go_wp2
        go_ret
        exact ⟨ret1_bool E.out, below_iter _ _ _⟩
    | succ g =>
      obtain ⟨b, hb⟩ := at_get (l := l) (k := k) (by omega)
      obtain ⟨r, n, hr, hnx⟩ := next_iter hb w
      have hg2 : k < l.length := by omega
      by_cases hok : okB b = true
      · have N := Lib.hid (all_take hb HN.out hok)
        have h1 : 33 ≤ b.toNat ∧ b.toNat ≤ 126 := by simpa [okB] using hok
        obtain ⟨rfl, rfl⟩ : r = b.toNat ∧ n = 1 := by
          rcases hr with h | h
          · exact h.2
          · omega
        have t1 : decide ((b.toNat : Int) < 33) = false := by simp; omega
        have t2 : decide ((126 : Int) < (b.toNat : Int)) = false := by simp; omega
        replace hb := Lib.hid hb
        clear hr hok h1
        go_wp2
        go_roundg g
        case measure => omega
        case rel => exact ⟨k + 1, by omega, N, rfl⟩
      · have Q := hq.out
        rw [isW_bad (all_bad hb (by simpa using hok))] at Q
        subst Q
        have h1 : ¬ (33 ≤ b.toNat ∧ b.toNat ≤ 126) := by simpa [okB] using hok
        have h2 : (r < 33 ∨ 126 < r) := by
          rcases hr with h | h <;> omega
        replace hb := Lib.hid hb
        clear hr hok h1
        rcases h2 with h2 | h2
        · have t1 : ((r : Int) < 33) := by omega
          go_wp2
          go_ret
          exact ⟨rfl, below_iter _ _ _⟩
        · have t1 : ¬ ((r : Int) < 33) := by omega
          have t2 : ((126 : Int) < (r : Int)) := by omega
          go_wp2
          go_ret
          exact ⟨rfl, below_iter _ _ _⟩
end Go.Proofs.YtblcigddinmiaaaDoor
