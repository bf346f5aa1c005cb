/- Texts of the layers 5 to 7, merged. -/
import Derived.Test.YteafkginhejllaaGreatDoorShelf
import Derived.Lib.OthersKept
import Derived.Lib.DecodeN
import Derived.Laws.RangeAny
import Derived.LoopTactic
import Derived.Outline
import Derived.Test.YteafkginhejllaaGreatDoorA8
namespace Go.Proofs.YteafkginhejllaaGreatDoor
section
open Go.ChangeShapes Go.WideShapes Go.ChangeAt Go.RowKit
theorem info_str : (Tryz.prog.info? 9).map (fun i => (i.zero, i.size, i.bytes)) = some (some (.string ByteArray.empty), 1, 16) := by kernel_rfl
theorem info_strs : (Tryz.prog.info? 22).map (fun i => (i.zero, i.size, i.bytes)) = some (some (.slice none 0 0), 1, 24) := by kernel_rfl
def strsV (l : List L8) : List Value := l.map fun x => str x
theorem strsV_length (l : List L8) : (strsV l).length = l.length := by simp [strsV]
theorem strsV_snoc (l : List L8) (x : L8) : strsV (l ++ [x]) = strsV l ++ [str x] := by simp [strsV]
/-- What the cells of a slice of texts hold. -/
def SCells (w : World) (a : Option Addr) (l : List L8) : Prop := ∀ (j : Nat) x, (strsV l)[j]? = some x → ∃ b off, a = some ⟨b, off, none⟩ ∧ b < w.heap.size ∧ w.cell? ⟨b, off + j, none⟩ = some x
theorem SCells.rd {w wr : World} {a : Option Addr} {l : List L8} {k : Nat} {y : L8} (h : SCells w a l) (hb : Below w.heap.size w wr) (hy : l[k]? = some y) :
    ∃ b off, a = some ⟨b, off, none⟩ ∧ b < wr.heap.size ∧ wr.cell? ⟨b, off + k, none⟩ = some (str y) := by
  obtain ⟨b, off, ha, hlt, hc⟩ := h k (str y) (by simp [strsV, hy])
  exact ⟨b, off, ha, Nat.lt_of_lt_of_le hlt hb.size, (hb.cell (p := ⟨b, off + k, none⟩) hlt).trans hc⟩
theorem RS.openS {w : World} {v : Value} {l : List L8} (h : RS w v (strsV l)) : ∃ a cap, v = .slice a l.length cap ∧ (l.length ≤ 9223372036854775807 ∧ l.length ≤ cap) ∧ Hid (SCells w a l) := by
  obtain ⟨a, cap, hv, hm, hc⟩ := h
  rw [strsV_length] at hv hm
  exact ⟨a, cap, hv, hm, Lib.hid hc⟩
theorem SCells.rs {w : World} {a : Option Addr} {cap : Nat} {l : List L8} (h : SCells w a l) (hm : l.length ≤ 9223372036854775807 ∧ l.length ≤ cap) : RS w (.slice a l.length cap) (strsV l) :=
  ⟨a, cap, by rw [strsV_length], by rw [strsV_length]; exact hm, h⟩
/-- A slice of slices of texts. -/
def LL (w : World) (v : Value) (l : List (List L8)) : Prop := ∃ vs, RS w v vs ∧ vs.length = l.length ∧ ∀ (j : Nat) x y, vs[j]? = some x → l[j]? = some y → RS w x (strsV y)
theorem LL.below {w w' : World} {v : Value} {l : List (List L8)} (h : LL w v l) (hb : Below w.heap.size w w') : LL w' v l := by
  obtain ⟨vs, h1, h2, h3⟩ := h
  exact ⟨vs, h1.below hb, h2, fun j x y hx hy => (h3 j x y hx hy).below hb⟩
theorem LL.nil (w : World) (a : Option Addr) (cap : Nat) : LL w (.slice a 0 cap) [] := ⟨[], RS.nil _ _ _, rfl, fun j x y hx => by simp at hx⟩
def RowsL (w : World) (vs : List Value) (l : List (List L8)) : Prop := vs.length = l.length ∧ ∀ (j : Nat) x y, vs[j]? = some x → l[j]? = some y → RS w x (strsV y)
theorem RowsL.nil (w : World) : RowsL w [] [] := ⟨rfl, fun j x y hx => by simp at hx⟩
theorem RowsL.below {w w' : World} {vs : List Value} {l : List (List L8)} (h : RowsL w vs l) (hb : Below w.heap.size w w') : RowsL w' vs l := ⟨h.1, fun j x y hx hy => (h.2 j x y hx hy).below hb⟩
theorem RowsL.snoc {w : World} {vs : List Value} {l : List (List L8)} {v : Value} {x : List L8} (h : RowsL w vs l) (hx : RS w v (strsV x)) : RowsL w (vs ++ [v]) (l ++ [x]) := by
  refine ⟨by simp [h.1], fun j a y ha hy => ?_⟩
  by_cases hj : j < vs.length
  · rw [List.getElem?_append_left hj] at ha
    rw [List.getElem?_append_left (by rw [← h.1]; exact hj)] at hy
    exact h.2 j a y ha hy
  · by_cases he : j = vs.length
    · subst he
      rw [List.getElem?_append_right (by omega), Nat.sub_self] at ha
      rw [List.getElem?_append_right (by rw [h.1]; omega), h.1, Nat.sub_self] at hy
      simp at ha hy
      subst ha hy
      exact hx
    · rw [List.getElem?_eq_none (by simp; omega)] at ha
      cases ha
theorem LL.of {w : World} {v : Value} {vs : List Value} {l : List (List L8)} (h : RS w v vs) (hr : RowsL w vs l) : LL w v l := ⟨vs, h, hr.1, hr.2⟩
/-- One row of a slice of slices of texts, in a later world. -/
def LCells (w : World) (a : Option Addr) (l : List (List L8)) : Prop := ∀ (j : Nat) y, l[j]? = some y → ∃ b off x, a = some ⟨b, off, none⟩ ∧ b < w.heap.size ∧ w.cell? ⟨b, off + j, none⟩ = some x ∧ RS w x (strsV y)
theorem LL.open {w : World} {v : Value} {l : List (List L8)} (h : LL w v l) : ∃ a cap, v = .slice a l.length cap ∧ l.length ≤ 9223372036854775807 ∧ Hid (LCells w a l) := by
  obtain ⟨vs, ⟨a, cap, hv, ⟨hm, _⟩, hc⟩, h2, h3⟩ := h
  rw [h2] at hv hm
  refine ⟨a, cap, hv, hm, Lib.hid fun j y hy => ?_⟩
  have hj : j < l.length := (List.getElem?_eq_some_iff.1 hy).1
  have hx : vs[j]? = some (vs[j]'(by omega)) := List.getElem?_eq_getElem (by omega)
  obtain ⟨b, off, ha, hlt, hcell⟩ := hc j _ hx
  exact ⟨b, off, _, ha, hlt, hcell, h3 j _ y hx hy⟩
theorem LCells.rd {w wr : World} {a : Option Addr} {l : List (List L8)} {k : Nat} {y : List L8} (h : LCells w a l) (hb : Below w.heap.size w wr) (hy : l[k]? = some y) :
    ∃ b off x, a = some ⟨b, off, none⟩ ∧ b < wr.heap.size ∧ wr.cell? ⟨b, off + k, none⟩ = some x ∧ RS wr x (strsV y) := by
  obtain ⟨b, off, x, ha, hlt, hc, hr⟩ := h k y hy
  exact ⟨b, off, x, ha, Nat.lt_of_lt_of_le hlt hb.size, (hb.cell (p := ⟨b, off + k, none⟩) hlt).trans hc, hr.below hb⟩
theorem one_slice (a : Option Addr) (n c : Nat) : ∀ u ∈ [Value.slice a n c], u.oneCell' = true := by simp [Value.oneCell']
theorem one_str (x : L8) : ∀ u ∈ [str x], u.oneCell' = true := by simp [Value.oneCell']
theorem RS.shape {w : World} {v : Value} {vs : List Value} (h : RS w v vs) : ∃ a c, v = .slice a vs.length c := by
  obtain ⟨a, c, hv, _⟩ := h
  exact ⟨a, c, hv⟩
/-- What the library reads: its variable MaxLen, the table of powers of ten, the error of range. -/
def GT (w : World) : Prop := (∃ m, w.cell? ⟨1, 0, none⟩ = some (.int .i64 m)) ∧ (∃ ev, w.cell? ⟨4, 0, none⟩ = some ev ∧ (ev = .nilIface ∨ ∃ te pe, ev = .iface te pe)) ∧ Lib.TabIs Tryz.prog w "internal/strconv.uint64pow10" .u64 Lib.pow10Tab
theorem cell_kept {w w' : World} (hb : Below w.heap.size w w') {a : Addr} {v : Value} (hc : w.cell? a = some v) : w'.cell? a = some v := (hb.cell (World.block_lt_of_cell? w a hc)).trans hc
theorem GT.below {w w' : World} (h : GT w) (hb : Below w.heap.size w w') : GT w' := by
  obtain ⟨⟨m, hm⟩, ⟨ev, he, hv⟩, ht⟩ := h
  refine ⟨⟨m, cell_kept hb hm⟩, ⟨ev, cell_kept hb he, hv⟩, ?_⟩
  unfold Lib.TabIs at ht ⊢
  have hg : Tryz.prog.globalNamed "internal/strconv.uint64pow10" = some 2 := by kernel_rfl
  unfold World.var? at ht ⊢
  rw [hg] at ht ⊢
  simp only [Option.bind_some] at ht ⊢
  have hlt : 2 < w.heap.size := by
    rcases Nat.lt_or_ge 2 w.heap.size with h' | h'
    · exact h'
    · rw [Array.getElem?_eq_none h'] at ht; cases ht
  rw [hb.block _ hlt]
  exact ht
theorem GT.of {B : Nat} {w w' : World} (h : GT w) (hb : Below B w w') (hB : B = w.heap.size) : GT w' := h.below (hB ▸ hb)
/-- A byte that is not ASCII: the rune is none either, and so is each byte that it takes. -/
theorem high_rune {s : ByteArray} {pos : Nat} (h : pos < s.size) (h0 : 128 ≤ (s.get! pos).toNat) :
    128 ≤ (Utf8.decode s pos).1 ∧ (Utf8.decode s pos).1 < 2147483648 ∧ 1 ≤ (Utf8.decode s pos).2 ∧ pos + (Utf8.decode s pos).2 ≤ s.size ∧ ∀ j, j < (Utf8.decode s pos).2 → 128 ≤ (s.get! (pos + j)).toNat := by
  have lt : ∀ k, (s.get! k).toNat < 256 := fun k => by have := (s.get! k).toNat_lt; omega
  have l0 := lt pos
  have l1 := lt (pos + 1)
  have l2 := lt (pos + 2)
  have l3 := lt (pos + 3)
  rw [Lib.decode_at]
  unfold Lib.decodeN
  have key : ∀ (n : Nat), n ≤ 4 → (∀ j, 1 ≤ j → j < n → 128 ≤ (s.get! (pos + j)).toNat) → ∀ j, j < n → 128 ≤ (s.get! (pos + j)).toNat := by
    intro n _ hn j hj
    by_cases hz : j = 0
    · subst hz; exact h0
    · exact hn j (by omega) hj
  repeat' split
  all_goals (refine ⟨by simp only; omega, by simp only; omega, by simp only; omega, by simp only; omega, key _ (by simp only; omega) ?_⟩; intro j h1 h2; simp only at h2)
  all_goals first
    | omega
    | (have : j = 1 := by omega
       subst this; omega)
    | (have : j = 1 ∨ j = 2 := by omega
       rcases this with rfl | rfl <;> omega)
    | (have : j = 1 ∨ j = 2 ∨ j = 3 := by omega
       rcases this with rfl | rfl | rfl <;> omega)
end
section
open Go.ChangeShapes Go.WideShapes Go.ChangeAt Go.RowKit
theorem sb_get {l : L8} {k : Nat} {b : UInt8} (hb : l[k]? = some b) : (sb l).get! k = b := by
  obtain ⟨h1, h2⟩ := List.getElem?_eq_some_iff.1 hb
  have h : k < (sb l).size := by rw [sb_size]; exact h1
  have e : (sb l).get! k = (sb l)[k]'h := by
    simp [ByteArray.get!, getElem!_pos, h]
    rw [hb]
    exact h2.symm
  rw [e]
  exact h2
theorem sb_lt {l : L8} {k : Nat} : k < (sb l).size ↔ k < l.length := by rw [sb_size]
/-- What a rune at place k is. -/
def RuneAt (l : L8) (k : Nat) (b : UInt8) (r n : Nat) : Prop :=
  (b.toNat < 128 ∧ r = b.toNat ∧ n = 1) ∨ (128 ≤ b.toNat ∧ 128 ≤ r ∧ r < 2147483648 ∧ 1 ≤ n ∧ k + n ≤ l.length ∧ ∀ j, j < n → ∃ c, l[k + j]? = some c ∧ 128 ≤ c.toNat)
theorem rune_at {l : L8} {k : Nat} {b : UInt8} (hb : l[k]? = some b) : RuneAt l k b (Utf8.decode (sb l) k).1 (Utf8.decode (sb l) k).2 := by
  have hk : k < (sb l).size := by rw [sb_lt]; exact (List.getElem?_eq_some_iff.1 hb).1
  have hg := sb_get hb
  by_cases h : b.toNat < 128
  · left
    have e : (sb l)[k] = b := by
      obtain ⟨h1, h2⟩ := List.getElem?_eq_some_iff.1 hb
      subst h2; rfl
    have := decode_ascii (sb l) k hk (by rw [e]; exact h)
    rw [this, e]
    exact ⟨h, rfl, rfl⟩
  · right
    obtain ⟨h1, h2, h3, h4, h5⟩ := high_rune (s := sb l) hk (by rw [hg]; omega)
    rw [sb_size] at h4
    refine ⟨by omega, h1, h2, h3, h4, fun j hj => ?_⟩
    have hl : k + j < l.length := by omega
    refine ⟨l[k + j], by simp [hl], ?_⟩
    have := h5 j hj
    rwa [sb_get (b := l[k + j]) (by simp [hl])] at this
theorem next_iter {l : L8} {k : Nat} {b : UInt8} (hb : l[k]? = some b) (w : World) : ∃ r n : Nat, RuneAt l k b r n ∧ ∀ ty, (Instr.next (.pointer (some ⟨w.heap.size, 0, none⟩)) true ty).run Tryz.prog (w.iter (sb l) k) = .ok (.tuple #[.bool true, .int .i64 k, .int .i32 r]) (w.iter (sb l) (k + n)) :=
  ⟨_, _, rune_at hb, fun ty => run_next_any w (sb l) k ty (by rw [sb_lt]; exact (List.getElem?_eq_some_iff.1 hb).1)⟩
theorem end_iter {l : L8} {k : Nat} (h : k = l.length) (w : World) : ∀ ty, (Instr.next (.pointer (some ⟨w.heap.size, 0, none⟩)) true ty).run Tryz.prog (w.iter (sb l) k) = .ok (.tuple #[.bool false]) (w.iter (sb l) k) :=
  fun ty => run_next_end w (sb l) k ty (by rw [sb_lt]; omega)
theorem below_iter (w : World) (s : ByteArray) (k : Nat) : Below w.heap.size w (w.iter s k) := (Below.refl _ _).alloc (Nat.le_refl _) _
theorem all_take {l : L8} {k : Nat} {b : UInt8} {p : UInt8 → Bool} (hb : l[k]? = some b) (h : (l.take k).all p = true) (hp : p b = true) : (l.take (k + 1)).all p = true := by
  obtain ⟨h1, h2⟩ := List.getElem?_eq_some_iff.1 hb
  rw [List.take_succ_eq_append_getElem h1, List.all_append, h, h2]; simp [hp]
theorem all_bad {l : L8} {k : Nat} {b : UInt8} {p : UInt8 → Bool} (hb : l[k]? = some b) (hp : p b = false) : l.all p = false := by
  rw [← Bool.not_eq_true, List.all_eq_true]
  intro h
  have := h b (List.mem_of_getElem? hb)
  rw [hp] at this; cases this
theorem at_get {l : L8} {k : Nat} (h : k < l.length) : ∃ b, l[k]? = some b := ⟨l[k], by simp [h]⟩
theorem isW_bad {l : L8} (h : l.all okB = false) : isW l = false := by simp [isW, h]
theorem isW_end {l : L8} (h : l.all okB = true) (h1 : 1 ≤ l.length) (h2 : l.length ≤ 64) : isW l = true := by simp [isW, h, h1, h2]
theorem isW_out {l : L8} (h1 : ¬ (1 ≤ l.length ∧ l.length ≤ 64)) : isW l = false := by
  rw [← Bool.not_eq_true]; intro h; exact h1 (isW_len h)
set_option maxHeartbeats 1000000 in
theorem isWord_any (l : L8) (w : World) (hl : l.length ≤ 9223372036854775807) :
    Calls Tryz.prog 89 #[str l] w (RetB w (isW l)) := by
  obtain ⟨q, hq⟩ : ∃ q, isW l = q := ⟨_, rfl⟩
  rw [hq]
  have hs := Lib.hid (sb_size l)
  replace hq := Lib.hid hq
  go_enter Tryz.func89, Tryz.ntmps89
  go_wp2
  go_loopg [] l.length (fun g wx => ∃ (k : Nat), k + g = l.length ∧ Hid ((l.take k).all okB = true) ∧ wx = w.iter (sb l) k)
  case atStart => exact ⟨0, by omega, Lib.hid rfl, rfl⟩
  case round =>
    obtain ⟨k, hg, HN, rfl⟩ := hrel
    cases gk with
    | zero =>
      have hnx := end_iter (l := l) (k := k) (by omega) w
      have HA : l.all okB = true := by have := HN.out; rwa [List.take_of_length_le (by omega)] at this
      cases l with
      | nil =>
        obtain rfl : false = q := hq.out
        go_wp2
        go_ret
        exact ⟨rfl, below_iter _ _ _⟩
      | cons x xs =>
        have E : decide ((xs.length : Int) + 1 ≤ 64) = q := by
          rw [← hq.out]
          by_cases h64 : (x :: xs).length ≤ 64
          · rw [isW_end HA (by simp) h64]; simp at h64 ⊢; omega
          · rw [isW_out (by omega)]; simp at h64 ⊢; omega
        replace HA := Lib.hid HA
        replace E := Lib.hid E
        replace hs := Lib.hid hs
        go_wp2
        go_ret
        exact ⟨ret1_bool E.out, below_iter _ _ _⟩
    | succ g =>
      obtain ⟨b, hb⟩ := at_get (l := l) (k := k) (by omega)
      obtain ⟨r, n, hr, hnx⟩ := next_iter hb w
      have hg2 : k < l.length := by omega
      by_cases hok : okB b = true
      · have N := Lib.hid (all_take hb HN.out hok)
        have h1 : 33 ≤ b.toNat ∧ b.toNat ≤ 126 := by simpa [okB] using hok
        obtain ⟨rfl, rfl⟩ : r = b.toNat ∧ n = 1 := by
          rcases hr with h | h
          · exact h.2
          · omega
        have t1 : decide ((b.toNat : Int) < 33) = false := by simp; omega
        have t2 : decide ((126 : Int) < (b.toNat : Int)) = false := by simp; omega
        replace hb := Lib.hid hb
        clear hr hok h1
        go_wp2
        go_roundg g
        case measure => omega
        case rel => exact ⟨k + 1, by omega, N, rfl⟩
      · have Q := hq.out
        rw [isW_bad (all_bad hb (by simpa using hok))] at Q
        subst Q
        have h1 : ¬ (33 ≤ b.toNat ∧ b.toNat ≤ 126) := by simpa [okB] using hok
        have h2 : (r < 33 ∨ 126 < r) := by
          rcases hr with h | h <;> omega
        replace hb := Lib.hid hb
        clear hr hok h1
        rcases h2 with h2 | h2
        · have t1 : ((r : Int) < 33) := by omega
          go_wp2
          go_ret
          exact ⟨rfl, below_iter _ _ _⟩
        · have t1 : ¬ ((r : Int) < 33) := by omega
          have t2 : ((126 : Int) < (r : Int)) := by omega
          go_wp2
          go_ret
          exact ⟨rfl, below_iter _ _ _⟩
end
section
open Go.ChangeShapes Go.WideShapes Go.ChangeAt Go.RowKit
theorem at_idx {l : List UInt8} {k : Nat} {b : UInt8} (hb : l[k]? = some b) (hs : Hid ((sb l).size = l.length)) : ∀ ww : World, (Instr.index 9 (.string ⟨l.toArray⟩) (.int .i64 (k : Int))).run Tryz.prog ww = .ok (.int .u8 (b.toNat : Int)) ww := by
  intro ww
  obtain ⟨hj, he⟩ := List.getElem?_eq_some_iff.1 hb
  rw [run_index_string ww 9 _ _ _ Tryz.underlying9, dif_pos ⟨by omega, by rw [hs.out]; omega⟩]
  subst he
  rfl
theorem not_nil {l : L8} (h : 1 ≤ l.length) : (l == []) = false ∧ l.isEmpty = false ∧ decide (l = []) = false := by
  cases l with
  | nil => simp at h
  | cons x xs => exact ⟨rfl, rfl, rfl⟩
set_option maxHeartbeats 1000000 in
theorem rword_any (l : L8) (w : World) (hl : l.length ≤ 9223372036854775807) :
    Calls Tryz.prog 44 #[str l] w fun e w' => e = .returned (.bool (isW l)) ∧ w = w' := by
  obtain ⟨q, hq⟩ : ∃ q, isW l = q := ⟨_, rfl⟩
  rw [hq]
  have hs := Lib.hid (sb_size l)
  replace hq := Lib.hid hq
  go_enter Tryz.func44, Tryz.ntmps44
  go_wp2
  go_loopg [3] l.length (fun g s3 wx => ∃ (k : Nat), s3 = .int .i64 k ∧ k + g = l.length ∧ Hid ((l.take k).all okB = true) ∧ w = wx)
  case atStart => exact ⟨0, rfl, by omega, Lib.hid rfl, rfl⟩
  case round =>
    obtain ⟨k, rfl, hg, HN, rfl⟩ := hrel
    cases gk with
    | zero =>
      have h : ¬ ((k : Int) < (l.length : Int)) := by omega
      have HA : l.all okB = true := by have := HN.out; rwa [List.take_of_length_le (by omega)] at this
      obtain ⟨m, hm⟩ : ∃ m, l.length = m := ⟨_, rfl⟩
      have Q : (decide (1 ≤ m) && decide (m ≤ 64)) = q := by rw [← hq.out, ← hm, isW, HA, Bool.true_and]
      clear HN
      replace HA := Lib.hid HA
      rw [hm] at h hg
      replace hm' := Lib.hid hm
      by_cases h1 : 1 ≤ m
      · have t1 : decide ((1 : Int) ≤ (m : Int)) = true := by simp; omega
        have E := Lib.hid (show decide ((m : Int) ≤ 64) = q by rw [← Q]; simp [h1]; by_cases h64 : m ≤ 64 <;> simp [h64] <;> omega)
        clear Q
        go_wp2
        all_goals go_ret
        all_goals exact ⟨ret1_bool (by rw [← E.out]), rfl⟩
      · have t1 : decide ((1 : Int) ≤ (m : Int)) = false := by simp; omega
        have E : false = q := by rw [← Q]; simp [h1]
        subst E
        clear Q
        go_wp2
        all_goals go_ret
        all_goals exact ⟨rfl, rfl⟩
    | succ g =>
      have h : ((k : Int) < (l.length : Int)) := by omega
      obtain ⟨b, hb⟩ := at_get (l := l) (k := k) (by omega)
      have hi := at_idx hb hs
      by_cases hok : okB b = true
      · have N := Lib.hid (all_take hb HN.out hok)
        have h1 : 33 ≤ b.toNat ∧ b.toNat ≤ 126 := by simpa [okB] using hok
        have t1 : decide ((b.toNat : Int) < 33) = false := by simp; omega
        have t2 : decide ((126 : Int) < (b.toNat : Int)) = false := by simp; omega
        replace hb := Lib.hid hb
        clear hok h1 HN
        go_wp2
        go_roundg g
        case measure => omega
        case rel => exact ⟨k + 1, by go_num, by omega, N, rfl⟩
      · have Q := hq.out
        rw [isW_bad (all_bad hb (by simpa using hok))] at Q
        subst Q
        have h1 : ¬ (33 ≤ b.toNat ∧ b.toNat ≤ 126) := by simpa [okB] using hok
        replace hb := Lib.hid hb
        clear hok
        by_cases h2 : b.toNat < 33
        · have t1 : decide ((b.toNat : Int) < 33) = true := by simp; omega
          go_wp2
          go_ret
          exact ⟨rfl, rfl⟩
        · have t1 : decide ((b.toNat : Int) < 33) = false := by simp; omega
          have t2 : decide ((126 : Int) < (b.toNat : Int)) = true := by simp; omega
          go_wp2
          go_ret
          exact ⟨rfl, rfl⟩
theorem letter_any (r : Nat) (q : Bool) (w : World) (h : (decide (97 ≤ r) && decide (r ≤ 122)) = q) :
    Calls Tryz.prog 104 #[.int .i32 r] w fun e w' => e = .returned (.bool q) ∧ w = w' := by
  by_cases h1 : 97 ≤ r
  · have t1 : decide ((97 : Int) ≤ (r : Int)) = true := by simp; omega
    have E := Lib.hid (show decide ((r : Int) ≤ 122) = q by rw [← h]; simp [h1]; by_cases h2 : r ≤ 122 <;> simp [h2] <;> omega)
    clear h
    go_enter Tryz.func104, Tryz.ntmps104
    go_wp2
    go_ret
    exact ⟨ret1_bool E.out, rfl⟩
  · have t1 : decide ((97 : Int) ≤ (r : Int)) = false := by simp; omega
    have E : false = q := by rw [← h]; simp [h1]
    subst E
    clear h
    go_enter Tryz.func104, Tryz.ntmps104
    go_wp2
    go_ret
    exact ⟨rfl, rfl⟩
theorem digit_any (r : Nat) (q : Bool) (w : World) (h : (decide (48 ≤ r) && decide (r ≤ 57)) = q) :
    Calls Tryz.prog 105 #[.int .i32 r] w fun e w' => e = .returned (.bool q) ∧ w = w' := by
  by_cases h1 : 48 ≤ r
  · have t1 : decide ((48 : Int) ≤ (r : Int)) = true := by simp; omega
    have E := Lib.hid (show decide ((r : Int) ≤ 57) = q by rw [← h]; simp [h1]; by_cases h2 : r ≤ 57 <;> simp [h2] <;> omega)
    clear h
    go_enter Tryz.func105, Tryz.ntmps105
    go_wp2
    go_ret
    exact ⟨ret1_bool E.out, rfl⟩
  · have t1 : decide ((48 : Int) ≤ (r : Int)) = false := by simp; omega
    have E : false = q := by rw [← h]; simp [h1]
    subst E
    clear h
    go_enter Tryz.func105, Tryz.ntmps105
    go_wp2
    go_ret
    exact ⟨rfl, rfl⟩
theorem rune_lt {l : L8} {k : Nat} {b : UInt8} {r n : Nat} (h : RuneAt l k b r n) : (decide (97 ≤ r) && decide (r ≤ 122)) = isLt b := by
  rcases h with ⟨h1, h2, _⟩ | ⟨h1, h2, _⟩
  · rw [h2]; rfl
  · have : ¬ r ≤ 122 := by omega
    have : ¬ b.toNat ≤ 122 := by omega
    simp [isLt, *]
theorem rune_dg {l : L8} {k : Nat} {b : UInt8} {r n : Nat} (h : RuneAt l k b r n) : (decide (48 ≤ r) && decide (r ≤ 57)) = isDg b := by
  rcases h with ⟨h1, h2, _⟩ | ⟨h1, h2, _⟩
  · rw [h2]; rfl
  · have : ¬ r ≤ 57 := by omega
    have : ¬ b.toNat ≤ 57 := by omega
    simp [isDg, *]
theorem byte_eq {b : UInt8} {n : Nat} (hn : n < 256) : (b.toNat = n) ↔ b = UInt8.ofNat n := by
  constructor
  · intro h; apply UInt8.toNat_inj.1; rw [h]; simp; omega
  · intro h; subst h; simp; omega
theorem rune_us {l : L8} {k : Nat} {b : UInt8} {r n : Nat} (h : RuneAt l k b r n) : (r = 95) ↔ b = 95 := by
  have e := byte_eq (b := b) (n := 95) (by omega)
  rcases h with ⟨h1, h2, _⟩ | ⟨h1, h2, _⟩
  · rw [h2]; exact e
  · constructor
    · intro h; omega
    · intro h; have := e.2 h; omega
def nmD (b : UInt8) : Bool := isDg b || decide (b = 95)
def okN (k : Nat) (b : UInt8) : Bool := isLt b || (decide (k ≠ 0) && nmD b)
theorem okN_ascii {k : Nat} {b : UInt8} (h : okN k b = true) : b.toNat < 128 := by
  simp only [okN, nmD, Bool.or_eq_true, Bool.and_eq_true, isLt, isDg, decide_eq_true_eq] at h
  rcases h with h | ⟨_, h | h⟩
  · omega
  · omega
  · subst h; decide
theorem name_bad {l : L8} {k : Nat} {b : UInt8} (hb : l[k]? = some b) (h : okN k b = false) : isName l = false := by
  simp only [okN, Bool.or_eq_false_iff] at h
  by_cases hk : k = 0
  · subst hk
    cases l with
    | nil => simp at hb
    | cons x xs => simp at hb; subst hb; simp [isName, h.1]
  · have h2 : nmB b = false := by
      have h1 := h.2
      simp only [hk, ne_eq, not_false_eq_true, decide_true, Bool.true_and] at h1
      simp only [nmB, h.1, Bool.false_or]; exact h1
    simp [isName, all_bad hb h2]
theorem name_out {l : L8} (h : ¬ (1 ≤ l.length ∧ l.length ≤ 12)) : isName l = false := by
  rw [← Bool.not_eq_true]; intro e
  simp only [isName, Bool.and_eq_true, decide_eq_true_eq] at e
  cases l with
  | nil => simp at e
  | cons x xs => exact h ⟨by simp, e.2.2⟩
def NPre (l : L8) (k : Nat) : Prop := ∀ j b, j < k → l[j]? = some b → okN j b = true
theorem NPre.next {l : L8} {k : Nat} {b : UInt8} (h : NPre l k) (hb : l[k]? = some b) (ho : okN k b = true) : NPre l (k + 1) := by
  intro j c hj hc
  by_cases e : j = k
  · subst e; rw [hb] at hc; simp at hc; subst hc; exact ho
  · exact h j c (by omega) hc
theorem name_ok {l : L8} (h : NPre l l.length) (h1 : 1 ≤ l.length) (h2 : l.length ≤ 12) : isName l = true := by
  cases l with
  | nil => simp at h1
  | cons x xs =>
    have h0 := h 0 x (by simp) rfl
    simp [okN] at h0
    have ha : (x :: xs).all nmB = true := by
      rw [List.all_eq_true]
      intro b hb
      obtain ⟨j, hj, e⟩ := List.getElem_of_mem hb
      have := h j b hj (by rw [List.getElem?_eq_getElem hj, e])
      simp only [okN, nmD, Bool.or_eq_true, Bool.and_eq_true] at this
      simp only [nmB, Bool.or_eq_true]
      rcases this with h | ⟨_, h⟩
      · exact Or.inl h
      · exact Or.inr h
    simp only [isName, ha, List.head?_cons, h0, Bool.true_and, decide_eq_true_eq]; exact h2
set_option maxRecDepth 100000 in
set_option maxHeartbeats 2000000 in
theorem name_any (l : L8) (w : World) (hl : l.length ≤ 9223372036854775807) :
    Calls Tryz.prog 55 #[str l] w (RetB w (isName l)) := by
  obtain ⟨q, hq⟩ : ∃ q, isName l = q := ⟨_, rfl⟩
  rw [hq]
  have hs := Lib.hid (sb_size l)
  replace hq := Lib.hid hq
  by_cases h12 : 1 ≤ l.length ∧ l.length ≤ 12
  · obtain ⟨z1, z2, z3⟩ := not_nil h12.1
    have t0 : decide ((12 : Int) < (l.length : Int)) = false := by simp; omega
    go_enter Tryz.func55, Tryz.ntmps55
    go_wp2
    go_loopg [] l.length (fun g wx => ∃ (k : Nat), k + g = l.length ∧ Hid (NPre l k) ∧ wx = w.iter (sb l) k)
    case atStart => exact ⟨0, by omega, Lib.hid (fun j b h => absurd h (Nat.not_lt_zero _)), rfl⟩
    case round =>
      obtain ⟨k, hg, HN, rfl⟩ := hrel
      cases gk with
      | zero =>
        have hnx := end_iter (l := l) (k := k) (by omega) w
        have E := hq.out
        rw [name_ok (by have := HN.out; rwa [show k = l.length by omega] at this) h12.1 h12.2] at E
        subst E
        clear HN
        go_wp2
        go_ret
        exact ⟨rfl, below_iter _ _ _⟩
      | succ g =>
        obtain ⟨b, hb⟩ := at_get (l := l) (k := k) (by omega)
        obtain ⟨r, n, hr, hnx⟩ := next_iter hb w
        have KL := fun ww => letter_any r (isLt b) ww (rune_lt hr)
        have KD := fun ww => digit_any r (isDg b) ww (rune_dg hr)
        have hu := rune_us hr
        by_cases hok : okN k b = true
        · have N := Lib.hid (HN.out.next hb hok)
          obtain ⟨rfl, rfl⟩ : r = b.toNat ∧ n = 1 := by
            rcases hr with h | h
            · exact h.2
            · have := okN_ascii hok; omega
          have hb' := Lib.hid hb
          clear hr HN hb
          by_cases c1 : isLt b = true
          · rw [c1] at KL
            clear KD hu hok
            go_wp2_with (go_at_call 104; refine (KL _).mono ?_; rintro e w' ⟨rfl, rfl⟩)
            go_roundg g
            case measure => omega
            case rel => exact ⟨k + 1, by omega, N, rfl⟩
          · simp only [Bool.not_eq_true] at c1
            rw [c1] at KL
            simp only [okN, c1, Bool.false_or, Bool.and_eq_true, decide_eq_true_eq] at hok
            have c2 : ((k : Int) == 0) = false := by simp; exact hok.1
            by_cases c3 : isDg b = true
            · rw [c3] at KD
              clear hok hu
              go_wp2_with (first
                | (go_at_call 104; refine (KL _).mono ?_; rintro e w' ⟨rfl, rfl⟩)
                | (go_at_call 105; refine (KD _).mono ?_; rintro e w' ⟨rfl, rfl⟩))
              go_roundg g
              case measure => omega
              case rel => exact ⟨k + 1, by omega, N, rfl⟩
            · simp only [Bool.not_eq_true] at c3
              rw [c3] at KD
              have c4 : b = 95 := by have := hok.2; simpa [nmD, c3] using this
              clear hok hu KL KD c1 c3
              subst c4
              have KL := fun ww => letter_any 95 false ww rfl
              have KD := fun ww => digit_any 95 false ww rfl
              go_wp2_with (first
                | (go_at_call 104; refine (KL _).mono ?_; rintro e w' ⟨rfl, rfl⟩)
                | (go_at_call 105; refine (KD _).mono ?_; rintro e w' ⟨rfl, rfl⟩))
              go_roundg g
              case measure => omega
              case rel => exact ⟨k + 1, by omega, N, rfl⟩
        · simp only [Bool.not_eq_true] at hok
          have Q := hq.out
          rw [name_bad hb hok] at Q
          subst Q
          simp only [okN, Bool.or_eq_false_iff] at hok
          rw [hok.1] at KL
          replace hb := Lib.hid hb
          clear hr HN
          by_cases c2 : k = 0
          · subst c2
            clear hok hu KD
            go_wp2_with (go_at_call 104; refine (KL _).mono ?_; rintro e w' ⟨rfl, rfl⟩)
            go_ret
            exact ⟨rfl, below_iter _ _ _⟩
          · have h2 := hok.2
            simp only [c2, ne_eq, not_false_eq_true, decide_true, Bool.true_and, nmD, Bool.or_eq_false_iff, decide_eq_false_iff_not] at h2
            rw [h2.1] at KD
            have c3 : ((k : Int) == 0) = false := by simp; exact c2
            have c4 : ((r : Int) == 95) = false := by
              rw [← Bool.not_eq_true]; intro e
              have := eq_of_beq e
              exact h2.2 (hu.1 (by omega))
            clear hok hu h2
            go_wp2_with (first
              | (go_at_call 104; refine (KL _).mono ?_; rintro e w' ⟨rfl, rfl⟩)
              | (go_at_call 105; refine (KD _).mono ?_; rintro e w' ⟨rfl, rfl⟩))
            go_ret
            exact ⟨rfl, below_iter _ _ _⟩
  · have E := hq.out
    rw [name_out h12] at E
    subst E
    by_cases h1 : 1 ≤ l.length
    · obtain ⟨z1, z2, z3⟩ := not_nil h1
      have t0 : decide ((12 : Int) < (l.length : Int)) = true := by simp; omega
      go_enter Tryz.func55, Tryz.ntmps55
      go_wp2
      go_ret
      exact ⟨rfl, Below.refl _ _⟩
    · obtain rfl : l = [] := List.length_eq_zero_iff.1 (by omega)
      go_enter Tryz.func55, Tryz.ntmps55
      go_wp2
      go_ret
      exact ⟨rfl, Below.refl _ _⟩
end
section
open Go.ChangeShapes Go.WideShapes Go.ChangeAt Go.RowKit
set_option maxRecDepth 100000 in
set_option maxHeartbeats 2000000 in
theorem rname_any (l : L8) (w : World) (hl : l.length ≤ 9223372036854775807) :
    Calls Tryz.prog 96 #[str l] w fun e w' => e = .returned (.bool (isName l)) ∧ w = w' := by
  obtain ⟨q, hq⟩ : ∃ q, isName l = q := ⟨_, rfl⟩
  rw [hq]
  have hs := Lib.hid (sb_size l)
  replace hq := Lib.hid hq
  go_enter Tryz.func96, Tryz.ntmps96
  go_wp2
  go_loopg [3] l.length (fun g s3 wx => ∃ (k : Nat), s3 = .int .i64 k ∧ k + g = l.length ∧ Hid (NPre l k) ∧ w = wx)
  case atStart => exact ⟨0, rfl, by omega, Lib.hid (fun j b h => absurd h (Nat.not_lt_zero _)), rfl⟩
  case round =>
    obtain ⟨k, rfl, hg, HN, rfl⟩ := hrel
    cases gk with
    | zero =>
      have h : ¬ ((k : Int) < (l.length : Int)) := by omega
      have HA := HN.out
      rw [show k = l.length by omega] at HA
      clear HN
      by_cases h1 : 1 ≤ l.length
      · have t1 : decide ((1 : Int) ≤ (l.length : Int)) = true := by simp; omega
        have E := Lib.hid (show decide ((l.length : Int) ≤ 12) = q by
          rw [← hq.out]
          by_cases h2 : l.length ≤ 12
          · rw [name_ok HA h1 h2]; simp; omega
          · rw [name_out (by omega)]; simp; omega)
        replace HA := Lib.hid HA
        clear h1
        go_wp2
        all_goals go_ret
        all_goals exact ⟨ret1_bool E.out, rfl⟩
      · have t1 : decide ((1 : Int) ≤ (l.length : Int)) = false := by simp; omega
        have Q := hq.out
        rw [name_out (by omega)] at Q
        subst Q
        replace HA := Lib.hid HA
        clear h1
        go_wp2
        all_goals go_ret
        all_goals exact ⟨rfl, rfl⟩
    | succ g =>
      have h : ((k : Int) < (l.length : Int)) := by omega
      obtain ⟨b, hb⟩ := at_get (l := l) (k := k) (by omega)
      have hi := at_idx hb hs
      have e95 := byte_eq (b := b) (n := 95) (by omega)
      have eb : (UInt8.ofNat 95) = (95 : UInt8) := rfl
      rw [eb] at e95
      have O : okN k b = true ↔ ((97 ≤ (b.toNat : Int) ∧ (b.toNat : Int) ≤ 122) ∨ (¬ (k : Int) = 0 ∧ ((48 ≤ (b.toNat : Int) ∧ (b.toNat : Int) ≤ 57) ∨ (b.toNat : Int) = 95))) := by
        simp only [okN, nmD, isLt, isDg, Bool.or_eq_true, Bool.and_eq_true, decide_eq_true_eq, ← e95]
        omega
      have N := Lib.hid (show ((97 ≤ (b.toNat : Int) ∧ (b.toNat : Int) ≤ 122) ∨ (¬ (k : Int) = 0 ∧ ((48 ≤ (b.toNat : Int) ∧ (b.toNat : Int) ≤ 57) ∨ (b.toNat : Int) = 95))) → Hid (NPre l (k + 1)) from fun ho => Lib.hid (HN.out.next hb (O.2 ho)))
      have M := Lib.hid (show ¬ ((97 ≤ (b.toNat : Int) ∧ (b.toNat : Int) ≤ 122) ∨ (¬ (k : Int) = 0 ∧ ((48 ≤ (b.toNat : Int) ∧ (b.toNat : Int) ≤ 57) ∨ (b.toNat : Int) = 95))) → isName l = false from fun ho => name_bad hb (by rw [← Bool.not_eq_true]; intro e; exact ho (O.1 e)))
      clear O eb e95 HN
      replace hb := Lib.hid hb
      go_wp2
      all_goals first
        | (go_roundg g
           case measure => omega
           case rel => exact ⟨k + 1, by go_num, by omega, N.out (by clear hi; (try simp only [Bool.not_eq_true', Bool.not_eq_false', decide_eq_true_eq, decide_eq_false_iff_not, beq_iff_eq, beq_eq_false_iff_ne, ne_eq, Bool.not_eq_true, Bool.not_eq_false, Int.not_le, Int.not_lt] at *); omega), rfl⟩)
        | (go_ret
           exact ⟨ret1_bool ((M.out (by clear hi; (try simp only [Bool.not_eq_true', Bool.not_eq_false', decide_eq_true_eq, decide_eq_false_iff_not, beq_iff_eq, beq_eq_false_iff_ne, ne_eq, Bool.not_eq_true, Bool.not_eq_false, Int.not_le, Int.not_lt] at *); omega)).symm.trans hq.out), rfl⟩)
theorem t : True := trivial
end
end Go.Proofs.YteafkginhejllaaGreatDoor
