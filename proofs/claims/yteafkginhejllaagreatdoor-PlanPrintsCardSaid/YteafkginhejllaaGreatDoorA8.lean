/- Texts of the layers 5 to 7, merged. -/
import Derived.WalkKit
import Derived.ProofKit
import Derived.OpenShut
import Derived.Lib.Hide
import Derived.Deep.LoopGhost
import Derived.Test.YteafkginhejllaaGreatDoorRows
import Derived.Lib.OwnBridge
import Derived.Lib.SmallJoins
import Derived.Laws.IdiomStrings
import Derived.Deep.QuietTactic
import Derived.BigQuiet
import Derived.Lib.AtoiAll
import Derived.Lib.ItoaMem
import Derived.Lib.Split
import Derived.Lib.SplitLaws
import Derived.Lib.CutLaws
import Derived.Lib.Join
import Derived.Lib.Strings
import Derived.Lib.IndexLaws
namespace Go.Proofs.YteafkginhejllaaGreatDoor
section
open Go.RowKit
theorem ret1_int {k1 : IntKind} {a b : Int} (h : a = b) : Ending.returned (.int k1 a) = .returned (.int k1 b) := by rw [h]
theorem ret1_bool {a b : Bool} (h : a = b) : Ending.returned (.bool a) = .returned (.bool b) := by rw [h]
theorem ret2_int {k1 k2 : IntKind} {a b c d : Int} (h : a = b) (h' : c = d) : Ending.returned (.tuple #[.int k1 a, .int k2 c]) = .returned (.tuple #[.int k1 b, .int k2 d]) := by rw [h, h']

def I64 (n : Int) : Prop := -9223372036854775808 ≤ n ∧ n ≤ 9223372036854775807
theorem I64.wf {n : Int} (h : I64 n) : (Lit.int .i64 n).wf = true := WalkArith.wf_i64 h
theorem I64.of_wf {n : Int} (h : (Lit.int .i64 n).wf = true) : I64 n := by
  simp only [Lit.wf, IntKind.min, IntKind.max, IntKind.signed, IntKind.bits, Bool.and_eq_true, decide_eq_true_eq, if_true] at h
  constructor <;> omega
def intsV (l : List Int) : List Value := l.map (Value.int .i64)
theorem intsV_length (l : List Int) : (intsV l).length = l.length := by simp [intsV]
theorem intsV_at (l : List Int) (k : Nat) (h : k < l.length) : (intsV l)[k]'(by simpa [intsV] using h) = .int .i64 l[k] := by simp [intsV]

/-- A slice value whose elements take one cell each, read in a world. -/
def RS (w : World) (v : Value) (vs : List Value) : Prop :=
  ∃ a cap, v = .slice a vs.length cap ∧ (vs.length ≤ 9223372036854775807 ∧ vs.length ≤ cap) ∧ ∀ (j : Nat) x, vs[j]? = some x → ∃ b off, a = some ⟨b, off, none⟩ ∧ b < w.heap.size ∧ w.cell? ⟨b, off + j, none⟩ = some x

theorem RS.get {w : World} {a : Option Addr} {vs : List Value} {k : Nat} (h : ∀ (j : Nat) x, vs[j]? = some x → ∃ b off, a = some ⟨b, off, none⟩ ∧ b < w.heap.size ∧ w.cell? ⟨b, off + j, none⟩ = some x) (hk : k < vs.length) :
    ∃ b off, a = some ⟨b, off, none⟩ ∧ b < w.heap.size ∧ w.cell? ⟨b, off + k, none⟩ = some vs[k] := h k _ (by simp [hk])

theorem RS.below {w w' : World} {v : Value} {vs : List Value} (h : RS w v vs) (hb : Below w.heap.size w w') : RS w' v vs := by
  obtain ⟨a, cap, hv, hm, hc⟩ := h
  refine ⟨a, cap, hv, hm, fun j x hj => ?_⟩
  obtain ⟨b, off, ha, hlt, hx⟩ := hc j x hj
  exact ⟨b, off, ha, Nat.lt_of_lt_of_le hlt hb.size, (hb.cell (p := ⟨b, off + j, none⟩) hlt).trans hx⟩

theorem RS.nil (w : World) (a : Option Addr) (cap : Nat) : RS w (.slice a 0 cap) [] := ⟨a, cap, rfl, by simp, fun j x h => by simp at h⟩

theorem RS.new (w : World) (n cap : Nat) (vs : List Value) (cs : Array Value) (t : TypeId) (hc : cs = vs.toArray) (hn : n = vs.length) (hv : n ≤ 9223372036854775807 ∧ n ≤ cap)
   : RS (w.alloc (.cells cs t)) (.slice (some ⟨w.heap.size, 0, none⟩) n cap) vs := by
  subst hc hn
  refine ⟨_, cap, rfl, hv, fun j x hj => ⟨_, 0, rfl, by simp, ?_⟩⟩
  rw [Nat.zero_add, World.cell?_alloc_new]
  simpa using hj

theorem RS.own {w : World} {base : Nat} {e : TypeId} {v : Value} {n : Nat} {vs : List Value} (h : w.ownsRow base e 1 v n vs) : RS w v vs := by
  obtain ⟨hl, h⟩ := h
  rcases h with ⟨rfl, hn⟩ | ⟨g, cap, cur, rfl, hg, hh, hnc, hcm, hcs, ht⟩
  · subst hn
    obtain rfl : vs = [] := List.eq_nil_of_length_eq_zero (by simpa using hl)
    exact RS.nil _ _ _
  · obtain rfl : vs.length = n := by simpa using hl
    refine ⟨_, cap, rfl, by simp only [maxLen] at hcm; omega, fun j x hj => ⟨g, 0, rfl, (Array.getElem?_eq_some_iff.1 hh).1, ?_⟩⟩
    rw [Nat.zero_add]
    simp only [World.cell?, hh]
    rw [← ht, List.getElem?_take] at hj
    split at hj
    · simpa using hj
    · cases hj

/-- The slice value of an owned row has the row's length. -/
theorem own_shape {w : World} {base size : Nat} {e : TypeId} {v : Value} {n : Nat} {xs : List Value} (h : w.ownsRow base e size v n xs) : ∃ a c, v = .slice a n c := by
  rcases h.2 with ⟨rfl, rfl⟩ | ⟨g, cap, cur, rfl, _⟩
  · exact ⟨_, _, rfl⟩
  · exact ⟨_, _, rfl⟩

theorem own_mono {w : World} {base base' size : Nat} {e : TypeId} {v : Value} {n : Nat} {xs : List Value} (h : w.ownsRow base e size v n xs) (hb : base' ≤ base) : w.ownsRow base' e size v n xs := by
  obtain ⟨h1, h2⟩ := h
  refine ⟨h1, ?_⟩
  rcases h2 with h2 | ⟨g, cap, cur, hv, hg, r⟩
  · exact Or.inl h2
  · exact Or.inr ⟨g, cap, cur, hv, Nat.le_trans hb hg, r⟩

section
variable {P : Program} (w : World)
theorem run_append_told (base : Nat) (t ty e : TypeId) (i : TypeInfo) (z : Value) (size bytes : Nat) (ht : P.underlying t = some (.slice e)) (hi : P.info? e = some i) (hz : i.zero = some z)
    (hsize : i.size = size) (hby : i.bytes = bytes) (hzs : z.cells.size = size) (hsz : 0 < size)
    (v : Value) (n : Nat) (xs : List Value) (hown : w.ownsRow base e size v n xs)
    (a : Addr) (m c : Nat) (news : List Value) (hl : news.length = m * size) (hnews : ∀ j u, news[j]? = some u → w.cell? (a.add j) = some u) (h1 : ∀ u ∈ news, u.oneCell' = true)
    (h63 : n + m ≤ maxLen) (hbytes : (n + m) * bytes ≤ 140737488355328) (hbase : base ≤ w.heap.size) :
    ∃ v' w', (Builtin.append_ #[t, t] ty #[v, .slice (some a) m c]).run P w = .ok v' w' ∧ w'.ownsRow base e size v' (n + m) (xs ++ news) ∧ w.grownBy w' v.ownBlock ∧
      (∀ g, v'.ownBlock = some g → v.ownBlock = some g ∨ w.heap.size ≤ g) := by
  obtain ⟨v', w', hr, h2, h3, _⟩ := run_append_own (P := P) w base t ty e i z size bytes ht hi hz hsize hby hzs hsz v n xs hown a m c news hl hnews h1 h63 hbytes hbase
  refine ⟨v', w', hr, h2, h3, ?_⟩
  rcases hown.2 with ⟨rfl, rfl⟩ | ⟨g, cap, cur, rfl, hbg, hg, hnc, hcm, hcs, htake⟩
  · obtain rfl : xs = [] := List.eq_nil_of_length_eq_zero (by simpa using hown.1)
    obtain ⟨v2, w2, hr2, k2, _⟩ := run_append_own (P := P) w w.heap.size t ty e i z size bytes ht hi hz hsize hby hzs hsz (.slice none 0 0) 0 [] (World.ownsRow_nil _ _ _ _) a m c news hl hnews h1 h63 hbytes (Nat.le_refl _)
    rw [hr2] at hr
    injection hr with e1 e2
    subst e1
    intro g hg
    exact Or.inr (k2.lt g hg).1
  · subst hsize hby
    by_cases hroom : n + m ≤ cap
    · have hfit : n * i.size + news.length ≤ cur.size := by rw [hl, hcs, ← Nat.add_mul]; exact Nat.mul_le_mul_right _ hroom
      have hr2 := run_append_room (P := P) w t ty e i ht hi g n cap cur hg a m c news hl hnews h1 hroom hfit
      rw [hr2] at hr
      injection hr with e1 e2
      subst e1
      intro g' hg'
      exact Or.inl hg'
    · have holds : ∀ j u, xs[j]? = some u → w.cell? ((⟨g, 0, none⟩ : Addr).add j) = some u := hown.cells (g := g) rfl
      have hr2 := run_append_grow (P := P) w t ty e i z ht hi hz ⟨g, 0, none⟩ n cap xs hown.1 holds a m c news hl hnews (by omega) (by simp only [maxLen] at h63; omega) (growslice_fits (by omega) hbytes)
      rw [hr2] at hr
      injection hr with e1 e2
      subst e1
      intro g' hg'
      simp [Value.ownBlock] at hg'
      omega

/-- 'append(s, x)' where s owns its row and x is one element, laid in a block of its own: the block of the result is that of s, or new. -/
theorem wpList_push {ops : Array Oper} {rest : List Oper} {o : Oper} {a : Act} {Q : Exit → Act → World → Prop} (hgd : o.guard = none) (s x : Operand) (t : TypeId)
    (ho : o.op = .call { callee := .builtin .append, args := #[s, x], argTypes := #[t, t] })
    (base : Nat) (e : TypeId) (z : Value) (size bytes : Nat) (ht : P.underlying t = some (.slice e)) (hi : (P.info? e).map (fun i => (i.zero, i.size, i.bytes)) = some (some z, size, bytes))
    (hzs : z.cells.size = size) (hsz : 0 < size)
    (v : Value) (n : Nat) (xs : List Value) (hs : a.eval s = v) (hown : w.ownsRow base e size v n xs)
    (news : List Value) (hx : a.eval x = .slice (some ⟨w.heap.size, 0, none⟩) 1 1) (hl : news.length = size) (h1 : ∀ u ∈ news, u.oneCell' = true)
    (h63 : n + 1 ≤ 9223372036854775807) (hbytes : (n + 1) * bytes ≤ 140737488355328) (hbase : base ≤ w.heap.size)
    (h : ∀ v' w', w'.ownsRow base e size v' (n + 1) (xs ++ news) → w.grownBy w' v.ownBlock → (∀ g, v'.ownBlock = some g → v.ownBlock = some g ∨ w.heap.size ≤ g) → wpList P ops Q rest (a.put o.dst v') w') :
    wpList P ops Q (o :: rest) a (w.alloc (.cells news.toArray e)) := by
  obtain ⟨i, hi, hz, hsize, hby⟩ := info_parts hi
  refine wpList_plain hgd fun K hK => ?_
  have hnews : ∀ j u, news[j]? = some u → (w.alloc (.cells news.toArray e)).cell? ((⟨w.heap.size, 0, none⟩ : Addr).add j) = some u := by
    intro j u hj
    have : (⟨w.heap.size, 0, none⟩ : Addr).add j = ⟨w.heap.size, j, none⟩ := by unfold Addr.add; split <;> simp_all
    rw [this, World.cell?_alloc_new]
    simpa using hj
  obtain ⟨v', w', hr, h2, h3, h4⟩ := run_append_told (P := P) (w.alloc (.cells news.toArray e)) base t o.type e i z size bytes ht hi hz hsize hby hzs hsz v n xs (hown.alloc _) ⟨w.heap.size, 0, none⟩ 1 1 news (by omega) hnews h1 (by simp only [maxLen]; omega) hbytes (by simp; omega)
  unfold Oper.wp execOp
  simp only [ho, resolve, invoke, builtin, Sem.run_bind, Sem.run_pure, Result.andThen_ok, List.map_toArray, List.map_cons, List.map_nil, hs, hx, hr]
  refine hK _ _ (h v' w' h2 ?_ ?_)
  · exact ⟨h3.os, h3.tape, h3.output, Nat.le_trans (by simp) h3.size, fun k hk hne => (h3.block k (by simp; omega) hne).trans (Below.heap_alloc _ _ _ hk)⟩
  · intro g hg
    rcases h4 g hg with h | h
    · exact Or.inl h
    · exact Or.inr (by simp at h; omega)
end

/-- An owned row stays owned while another row, or none, is written. -/
theorem own_kept {w w' : World} {base size : Nat} {e : TypeId} {v u : Value} {n : Nat} {xs : List Value} (h : w.ownsRow base e size v n xs) (hg : w.grownBy w' u.ownBlock) (hne : ∀ g, v.ownBlock = some g → u.ownBlock ≠ some g) : w'.ownsRow base e size v n xs :=
  h.kept hg (by
    cases hv : v.ownBlock with
    | none => exact Or.inl rfl
    | some g => exact Or.inr fun h => hne g hv h.symm)

theorem below_grown {B : Nat} {a w w' : World} {base size : Nat} {e : TypeId} {v : Value} {n : Nat} {xs : List Value} (h : Below B a w) (hg : w.grownBy w' v.ownBlock) (ho : w.ownsRow base e size v n xs) (hB : B ≤ base) (hs : B ≤ w.heap.size) : Below B a w' :=
  h.grown hg hs fun k hk => Nat.le_trans hB (ho.lt k hk).1
end
section
open Go.ChangeShapes Go.WideShapes Go.ChangeAt Go.RowKit
theorem info_int : (Tryz.prog.info? 3).map (fun i => (i.zero, i.size, i.bytes)) = some (some (.int .i64 0), 1, 8) := by kernel_rfl
theorem info_u8 : (Tryz.prog.info? 5).map (fun i => (i.zero, i.size, i.bytes)) = some (some (.int .u8 0), 1, 1) := by kernel_rfl
/-- What the cells of a slice hold. -/
def Cells (w : World) (a : Option Addr) (l : List Int) : Prop := ∀ (j : Nat) x, (intsV l)[j]? = some x → ∃ b off, a = some ⟨b, off, none⟩ ∧ b < w.heap.size ∧ w.cell? ⟨b, off + j, none⟩ = some x
theorem Cells.rd {w wr : World} {a : Option Addr} {l : List Int} {k : Nat} {y : Int} (h : Cells w a l) (hb : Below w.heap.size w wr) (hy : l[k]? = some y) :
    ∃ b off, a = some ⟨b, off, none⟩ ∧ b < wr.heap.size ∧ wr.cell? ⟨b, off + k, none⟩ = some (.int .i64 y) := by
  obtain ⟨b, off, ha, hlt, hc⟩ := h k (.int .i64 y) (by simp [intsV, hy])
  exact ⟨b, off, ha, Nat.lt_of_lt_of_le hlt hb.size, (hb.cell (p := ⟨b, off + k, none⟩) hlt).trans hc⟩
theorem at_take {α : Type} {l : List α} {k : Nat} (h : k < l.length) : ∃ y, l[k]? = some y ∧ l.take (k+1) = l.take k ++ [y] ∧ y ∈ l := by
  refine ⟨l[k], by simp [h], by rw [List.take_succ_eq_append_getElem h], List.getElem_mem h⟩
theorem RS.open {w : World} {v : Value} {l : List Int} (h : RS w v (intsV l)) : ∃ a cap, v = .slice a l.length cap ∧ l.length ≤ 9223372036854775807 ∧ Hid (Cells w a l) := by
  obtain ⟨a, cap, hv, ⟨hm, _⟩, hc⟩ := h
  rw [intsV_length] at hv hm
  exact ⟨a, cap, hv, hm, Lib.hid hc⟩
theorem Cells.rs {w : World} {a : Option Addr} {cap : Nat} {l : List Int} (h : Cells w a l) (hm : l.length ≤ 9223372036854775807 ∧ l.length ≤ cap) : RS w (.slice a l.length cap) (intsV l) :=
  ⟨a, cap, by rw [intsV_length], by rw [intsV_length]; exact hm, h⟩
theorem RS.alloc {w : World} {v : Value} {vs : List Value} (h : RS w v vs) (o : Obj) : RS (w.alloc o) v vs := h.below ((Below.refl _ _).alloc (Nat.le_refl _) _)
theorem RS.drewN {w : World} {v : Value} {vs : List Value} (h : RS w v vs) (n : Nat) : RS (w.drewN n) v vs := h
theorem RS.newAt (w : World) (b n cap : Nat) (l : List Int) (cs : Array Value) (t : TypeId) (hb : b = w.heap.size) (hc : cs = (intsV l).toArray) (hn : n = l.length) (hv : n ≤ 9223372036854775807 ∧ n ≤ cap) :
    RS (w.alloc (.cells cs t)) (.slice (some ⟨b, 0, none⟩) n cap) (intsV l) := by
  subst hb
  exact RS.new _ _ _ _ _ _ hc (by rw [intsV_length]; exact hn) hv
theorem bdrew {B : Nat} {a w : World} (h : Below B a w) (n : Nat) : Below B a (w.drewN n) := h.trans ⟨rfl, rfl, rfl, Nat.le_refl _, fun _ _ => rfl⟩
/-- A list is handed back; nothing that was there has changed. -/
def RetL (w : World) (l : List Int) (e : Ending) (w' : World) : Prop := ∃ v, e = .returned v ∧ RS w' v (intsV l) ∧ Below w.heap.size w w'
/-- A value is handed back; nothing that was there has changed. -/
def RetV (w : World) (v : Value) (e : Ending) (w' : World) : Prop := e = .returned v ∧ Below w.heap.size w w'
def RetB (w : World) (b : Bool) (e : Ending) (w' : World) : Prop := e = .returned (.bool b) ∧ Below w.heap.size w w'
/-- A text of a list of bytes. -/
abbrev sb (l : List UInt8) : ByteArray := ⟨l.toArray⟩
abbrev str (l : List UInt8) : Value := .string ⟨l.toArray⟩
theorem sb_size (l : List UInt8) : (sb l).size = l.length := by simp [ByteArray.size]
theorem sb_all (s : ByteArray) : ∃ l : List UInt8, s = ⟨l.toArray⟩ ∧ l.length = s.size := ⟨s.data.toList, rfl, Array.length_toList⟩
def bytesV (l : List UInt8) : List Value := l.map fun b => Value.int .u8 (b.toNat : Int)
theorem bytesV_length (l : List UInt8) : (bytesV l).length = l.length := by simp [bytesV]
theorem bytesV_append (a b : List UInt8) : bytesV (a ++ b) = bytesV a ++ bytesV b := by simp [bytesV]
/-- 'string(b)' of an owned row of bytes. -/
theorem run_string_own {w : World} {base : Nat} {v : Value} {l : List UInt8} {P : Program} (src dst e : TypeId) (hs : P.underlying src = some (.slice e)) (he : P.underlying e = some (.int .u8)) (hd : P.underlying dst = some .string)
    (h : w.ownsRow base e 1 v l.length (bytesV l)) (hl : 0 < l.length) : (convert src dst v).run P w = .ok (str l) w := by
  obtain ⟨b, cap, hv⟩ := Joins.ownsRow_form h hl
  subst hv
  refine run_convert_bytes_back w src dst e _ cap l hs he hd fun j hj => ?_
  exact h.cells (g := b) rfl j _ (by simp [bytesV, hj])
end
section

abbrev L8 := List UInt8
/-- A byte of a word. -/
def okB (b : UInt8) : Bool := decide (33 ≤ b.toNat) && decide (b.toNat ≤ 126)
def isW (l : L8) : Bool := l.all okB && (decide (1 ≤ l.length) && decide (l.length ≤ 64))
def isL (l : List L8) : Bool := l.all isW && decide (0 < l.length)
/-- The pieces between the bytes c; cur stands before. -/
def cutA (c : UInt8) (cur : L8) : L8 → List L8
  | [] => [cur]
  | b :: r => if b = c then cur :: cutA c [] r else cutA c (cur ++ [b]) r
theorem cutA_pos (c : UInt8) : ∀ (s cur : L8), 0 < (cutA c cur s).length
  | [], cur => by simp [cutA]
  | b :: r, cur => by
    unfold cutA
    split
    · simp
    · exact cutA_pos c r _
theorem cutA_le (c : UInt8) : ∀ (s cur : L8), (cutA c cur s).length ≤ s.length + 1
  | [], cur => by simp [cutA]
  | b :: r, cur => by
    unfold cutA
    split
    · have := cutA_le c r []
      simp only [List.length_cons]; omega
    · have := cutA_le c r (cur ++ [b])
      simp only [List.length_cons]; omega
theorem cutA_run (c : UInt8) : ∀ (t cur r : L8), c ∉ t → cutA c cur (t ++ r) = cutA c (cur ++ t) r
  | [], cur, r, _ => by simp
  | b :: t, cur, r, h => by
    simp only [List.mem_cons, not_or] at h
    rw [List.cons_append, cutA, if_neg (fun e => h.1 e.symm), cutA_run c t _ r h.2]
    simp
theorem cutA_sep (c : UInt8) (t cur r : L8) (h : c ∉ t) : cutA c cur (t ++ c :: r) = (cur ++ t) :: cutA c [] r := by
  rw [cutA_run c t cur _ h, cutA, if_pos rfl]
theorem cutA_none (c : UInt8) (t cur : L8) (h : c ∉ t) : cutA c cur t = [cur ++ t] := by
  have := cutA_run c t cur [] h
  simpa [cutA] using this
theorem cutA_len (c : UInt8) : ∀ (s cur : L8), ∀ x ∈ cutA c cur s, x.length ≤ cur.length + s.length
  | [], cur, x, h => by simp [cutA] at h; subst h; simp
  | b :: r, cur, x, h => by
    unfold cutA at h
    split at h
    · rcases List.mem_cons.1 h with h | h
      · subst h; simp only [List.length_cons]; omega
      · have := cutA_len c r [] x h; simp at this; simp only [List.length_cons]; omega
    · have := cutA_len c r _ x h
      simp at this ⊢; omega
/-- How the lines of a text are read. -/
inductive LR where
  | ok (l : List (List L8))
  | bad (n : Nat)
def scan (out : List (List L8)) (line : List L8) (cur : L8) : L8 → LR
  | [] => if cur = [] ∧ line = [] then .ok out else .bad (out.length + 1)
  | b :: r => if b = 32 ∨ b = 10 then (if isW cur then (if b = 10 then scan (out ++ [line ++ [cur]]) [] [] r else scan out (line ++ [cur]) [] r) else .bad (out.length + 1)) else scan out line (cur ++ [b]) r
theorem scan_nil (out : List (List L8)) : scan out [] [] [] = .ok out := by simp [scan]
theorem scan_line (out : List (List L8)) (r : L8) : ∀ (t : L8) (line : List L8) (cur : L8), 10 ∉ t →
    scan out line cur (t ++ 10 :: r) = if (cutA 32 cur t).all isW then scan (out ++ [line ++ cutA 32 cur t]) [] [] r else .bad (out.length + 1)
  | [], line, cur, _ => by
    simp only [List.nil_append, scan, cutA, List.all_cons, List.all_nil, Bool.and_true]
    simp
  | b :: t, line, cur, h => by
    simp only [List.mem_cons, not_or] at h
    have hb : ¬ b = 10 := fun e => h.1 e.symm
    rw [List.cons_append, scan]
    by_cases h32 : b = 32
    · subst h32
      rw [if_pos (Or.inl rfl)]
      by_cases hw : isW cur = true
      · rw [if_pos hw, if_neg (by decide), scan_line out r t _ _ h.2]
        simp only [cutA, if_true, List.all_cons, hw, Bool.true_and, List.append_assoc, List.singleton_append]
      · rw [if_neg hw]
        simp only [cutA, if_true, List.all_cons]
        rw [if_neg (by simp [hw])]
    · rw [if_neg (by simp [h32, hb]), scan_line out r t _ _ h.2]
      simp only [cutA, if_neg h32]
theorem scan_open (out : List (List L8)) : ∀ (t : L8) (line : List L8) (cur : L8), 10 ∉ t → ¬ (t = [] ∧ cur = [] ∧ line = []) → scan out line cur t = .bad (out.length + 1)
  | [], line, cur, _, h => by
    rw [scan, if_neg (fun e => h ⟨rfl, e.1, e.2⟩)]
  | b :: t, line, cur, h, _ => by
    simp only [List.mem_cons, not_or] at h
    have hb : ¬ b = 10 := fun e => h.1 e.symm
    rw [scan]
    by_cases h32 : b = 32
    · subst h32
      rw [if_pos (Or.inl rfl), if_neg (by decide : ¬ (32 : UInt8) = 10)]
      split
      · exact scan_open out t _ _ h.2 (by simp)
      · rfl
    · rw [if_neg (by simp [h32, hb])]
      exact scan_open out t _ _ h.2 (by simp)
/-- One line, as the program takes it. -/
theorem scan_step (out : List (List L8)) (t r : L8) (h : 10 ∉ t) : scan out [] [] (t ++ 10 :: r) = if isL (cutA 32 [] t) then scan (out ++ [cutA 32 [] t]) [] [] r else .bad (out.length + 1) := by
  rw [scan_line out r t [] [] h, List.nil_append]
  have : isL (cutA 32 [] t) = (cutA 32 [] t).all isW := by simp [isL, cutA_pos]
  rw [this]
theorem scan_left (out : List (List L8)) (t : L8) (h : 10 ∉ t) (h0 : t ≠ []) : scan out [] [] t = .bad (out.length + 1) := scan_open out t [] [] h (by simp [h0])
def outLines : LR → List (List L8) × Int × Int
  | .ok l => (l, 0, 0)
  | .bad n => ([], n, 4)
def linesR (s : L8) : List (List L8) × Int × Int := if 32768 < s.length then ([], 0, 2) else outLines (scan [] [] [] s)
theorem linesR_long {s : L8} (h : 32768 < s.length) : linesR s = ([], 0, 2) := by rw [linesR, if_pos h]
theorem linesR_of {s : L8} (h : ¬ 32768 < s.length) : linesR s = outLines (scan [] [] [] s) := by rw [linesR, if_neg h]
/-- The text of lines. -/
def lineT (ws : List L8) : L8 := Lib.join ws [32] ++ [10]
def textL (l : List (List L8)) : L8 := (l.map lineT).flatten
theorem textL_nil : textL [] = [] := rfl
theorem textL_cons (a : List L8) (l : List (List L8)) : textL (a :: l) = lineT a ++ textL l := rfl
theorem textL_snoc (l : List (List L8)) (a : List L8) : textL (l ++ [a]) = textL l ++ lineT a := by simp [textL]
def joinR (l : List (List L8)) : L8 × Int := if l.all isL then (if 32768 < (textL l).length then ([], 2) else (textL l, 0)) else ([], 1)
theorem isW_mem {w : L8} (h : isW w = true) : ∀ b ∈ w, 33 ≤ b.toNat ∧ b.toNat ≤ 126 := by
  simp only [isW, Bool.and_eq_true, List.all_eq_true, okB, decide_eq_true_eq] at h
  exact h.1
theorem isW_not {w : L8} (h : isW w = true) : (32 : UInt8) ∉ w ∧ (10 : UInt8) ∉ w := by
  constructor
  · intro hm; have := isW_mem h _ hm; revert this; decide
  · intro hm; have := isW_mem h _ hm; revert this; decide
theorem isW_len {w : L8} (h : isW w = true) : 1 ≤ w.length ∧ w.length ≤ 64 := by
  simp only [isW, Bool.and_eq_true, decide_eq_true_eq] at h
  exact h.2
theorem isL_all {l : List L8} (h : isL l = true) : ∀ w ∈ l, isW w = true := by
  simp only [isL, Bool.and_eq_true, List.all_eq_true, decide_eq_true_eq] at h
  exact h.1
theorem isL_pos {l : List L8} (h : isL l = true) : 0 < l.length := by
  simp only [isL, Bool.and_eq_true, decide_eq_true_eq] at h
  exact h.2
theorem cutA_join (c : UInt8) : ∀ (ws : List L8) (w : L8), c ∉ w → (∀ x ∈ ws, c ∉ x) → cutA c [] (w ++ Lib.joinTail [c] ws) = w :: ws
  | [], w, h, _ => by
    simp only [Lib.joinTail, List.map_nil, List.flatten_nil, List.append_nil]
    rw [cutA_none c w [] h]; simp
  | x :: ws, w, h, hs => by
    have e : Lib.joinTail [c] (x :: ws) = c :: (x ++ Lib.joinTail [c] ws) := by simp [Lib.joinTail]
    rw [e, cutA_sep c w [] _ h, cutA_join c ws x (hs x (by simp)) (fun y hy => hs y (by simp [hy]))]
    simp
theorem cutA_joined (c : UInt8) {ws : List L8} (h0 : 0 < ws.length) (h : ∀ x ∈ ws, c ∉ x) : cutA c [] (Lib.join ws [c]) = ws := by
  cases ws with
  | nil => simp at h0
  | cons w ws => rw [Lib.join_cons]; exact cutA_join c ws w (h w (by simp)) (fun x hx => h x (by simp [hx]))
theorem joinTail_not {b c : UInt8} (hc : b ≠ c) : ∀ (ws : List L8), (∀ x ∈ ws, b ∉ x) → b ∉ Lib.joinTail [c] ws := by
  intro ws h hm
  simp only [Lib.joinTail, List.mem_flatten, List.mem_map] at hm
  obtain ⟨l, ⟨x, hx, rfl⟩, hb⟩ := hm
  simp only [List.singleton_append, List.mem_cons] at hb
  rcases hb with hb | hb
  · exact hc hb
  · exact h x hx hb
theorem join_not {b c : UInt8} (hc : b ≠ c) (ws : List L8) (h : ∀ x ∈ ws, b ∉ x) : b ∉ Lib.join ws [c] := by
  cases ws with
  | nil => simp [Lib.join_nil]
  | cons w ws =>
    rw [Lib.join_cons, List.mem_append, not_or]
    exact ⟨h w (by simp), joinTail_not hc ws (fun x hx => h x (by simp [hx]))⟩
theorem scan_text : ∀ (l : List (List L8)) (out : List (List L8)), l.all isL = true → scan out [] [] (textL l) = .ok (out ++ l)
  | [], out, _ => by rw [textL_nil, scan_nil]; simp
  | a :: l, out, h => by
    simp only [List.all_cons, Bool.and_eq_true] at h
    have ha := isL_all h.1
    rw [textL_cons, lineT, List.append_assoc, List.singleton_append, scan_step out _ _ (join_not (by decide) a (fun x hx => (isW_not (ha x hx)).2)),
      cutA_joined 32 (isL_pos h.1) (fun x hx => (isW_not (ha x hx)).1), if_pos h.1, scan_text l _ h.2]
    simp
theorem cutA_glue (c : UInt8) : ∀ (s cur : L8), Lib.join (cutA c cur s) [c] = cur ++ s
  | [], cur => by simp [cutA, Lib.join_one]
  | b :: r, cur => by
    unfold cutA
    split
    · rename_i hb
      subst hb
      have h := cutA_glue b r []
      obtain ⟨y, ys, hy⟩ : ∃ y ys, cutA b [] r = y :: ys := by
        cases hc : cutA b [] r with
        | nil => have := cutA_pos b r []; rw [hc] at this; simp at this
        | cons y ys => exact ⟨y, ys, rfl⟩
      rw [hy] at h ⊢
      rw [Lib.join_cons] at h ⊢
      simp only [Lib.joinTail, List.map_cons, List.flatten_cons, List.singleton_append, List.nil_append] at h ⊢
      rw [← h]; simp
    · rw [cutA_glue c r]; simp
/-- A text that is accepted is the text of its lines. -/
theorem text_of_scan : ∀ (n : Nat) (s : L8) (out m : List (List L8)), s.length ≤ n → scan out [] [] s = .ok m → ∃ l, m = out ++ l ∧ textL l = s ∧ l.all isL = true
  | n, s, out, m, hn, h => by
    by_cases h10 : (10 : UInt8) ∈ s
    · obtain ⟨t, r, rfl, ht⟩ := List.eq_append_cons_of_mem h10
      rw [scan_step out t r ht] at h
      split at h
      · rename_i hl
        cases n with
        | zero => simp at hn
        | succ n =>
          obtain ⟨l, rfl, e, ha⟩ := text_of_scan n r _ m (by simp at hn; omega) h
          refine ⟨cutA 32 [] t :: l, by simp, ?_, by simp [hl, ha]⟩
          rw [textL_cons, lineT, cutA_glue, e]; simp
      · cases h
    · by_cases h0 : s = []
      · subst h0
        rw [scan_nil] at h
        injection h with h
        subst h
        exact ⟨[], by simp, rfl, rfl⟩
      · rw [scan_left out s h10 h0] at h
        cases h
end
section

def isDg (b : UInt8) : Bool := decide (48 ≤ b.toNat) && decide (b.toNat ≤ 57)
def digs (l : L8) : Bool := l.all isDg && (decide (0 < l.length) && (decide (l.head? ≠ some 48) || decide (l.length = 1)))
def stp (acc : Nat) (b : UInt8) : Nat := acc * 10 + (b.toNat - 48)
def valF (acc : Nat) (l : L8) : Nat := l.foldl stp acc
def neg (s : L8) : Bool := decide (s.head? = some 45)
def mag (s : L8) : L8 := if neg s then s.tail else s
def isDec (s : L8) : Bool := digs (mag s) && !(neg s && decide (mag s = [48]))
def intL (s : L8) : Int × Int :=
  if isDec s then (if neg s then (if valF 0 (mag s) ≤ 9223372036854775808 then (-(valF 0 (mag s) : Int), 0) else (0, 17)) else (if valF 0 (mag s) < 9223372036854775808 then ((valF 0 (mag s) : Int), 0) else (0, 17))) else (0, 4)
theorem valF_cons (acc : Nat) (b : UInt8) (r : L8) : valF acc (b :: r) = valF (acc * 10 + (b.toNat - 48)) r := by
  unfold valF
  rw [List.foldl_cons, stp]
theorem valF_nil (acc : Nat) : valF acc [] = acc := by unfold valF; rw [List.foldl_nil]
theorem valF_ge : ∀ (l : L8) (acc : Nat), acc ≤ valF acc l
  | [], acc => by rw [valF_nil]; exact Nat.le_refl acc
  | b :: r, acc => by
    have := valF_ge r (acc * 10 + (b.toNat - 48))
    rw [valF_cons]; omega
theorem valF_append : ∀ (a b : L8) (acc : Nat), valF acc (a ++ b) = valF (valF acc a) b
  | [], b, acc => by rw [List.nil_append, valF_nil]
  | x :: a, b, acc => by rw [List.cons_append, valF_cons, valF_cons]; exact valF_append a b _
theorem valF_snoc (l : L8) (b : UInt8) : valF 0 (l ++ [b]) = valF 0 l * 10 + (b.toNat - 48) := by rw [valF_append, valF_cons, valF_nil]
theorem valF_take {l : L8} {k : Nat} : valF 0 (l.take k) ≤ valF 0 l := by
  have h := valF_append (l.take k) (l.drop k) 0
  rw [List.take_append_drop] at h
  rw [h]
  exact valF_ge _ _
theorem isDg_iff {b : UInt8} : isDg b = true ↔ 48 ≤ b.toNat ∧ b.toNat ≤ 57 := by simp [isDg]
theorem parse_digits : ∀ (l : L8) (acc : Nat), acc < 18446744073709551616 → l.all isDg = true → Lib.parseUint10 acc l = if valF acc l < 18446744073709551616 then .ok (valF acc l) else .range
  | [], acc, ha, _ => by rw [Lib.parseUint10, valF_nil, if_pos ha]
  | b :: r, acc, ha, h => by
    simp only [List.all_cons, Bool.and_eq_true] at h
    have hb := isDg_iff.1 h.1
    have hge := valF_ge r (acc * 10 + (b.toNat - 48))
    rw [Lib.parseUint10, if_pos hb, valF_cons]
    by_cases h1 : 1844674407370955162 ≤ acc
    · rw [if_pos h1, if_neg (by omega)]
    · rw [if_neg h1]
      by_cases h2 : 18446744073709551616 ≤ acc * 10 + (b.toNat - 48)
      · rw [if_pos h2, if_neg (by omega)]
      · rw [if_neg h2, parse_digits r _ (by omega) h.2]
theorem digs_all {l : L8} (h : digs l = true) : l.all isDg = true := by simp only [digs, Bool.and_eq_true] at h; exact h.1
theorem digs_pos {l : L8} (h : digs l = true) : 0 < l.length := by simp only [digs, Bool.and_eq_true, decide_eq_true_eq] at h; exact h.2.1
theorem digs_ne {l : L8} (h : digs l = true) : l ≠ [] := by intro e; subst e; simp [digs] at h
/-- What strconv.Atoi does with a decimal form. -/
theorem atoi_dec {s : L8} (h : isDec s = true) : Lib.atoiAll s = if neg s then (if valF 0 (mag s) ≤ 9223372036854775808 then .ok (-(valF 0 (mag s) : Int)) else .range) else (if valF 0 (mag s) < 9223372036854775808 then .ok (valF 0 (mag s) : Int) else .range) := by
  simp only [isDec, Bool.and_eq_true] at h
  have hd := h.1
  have P : Lib.parseMag (mag s) = if valF 0 (mag s) < 18446744073709551616 then .ok (valF 0 (mag s)) else .range := by
    rw [Lib.parseMag, if_neg (digs_ne hd), parse_digits _ 0 (by omega) (digs_all hd)]
  cases s with
  | nil => simp [mag, neg, digs] at hd
  | cons c r =>
    by_cases hn : c = 45
    · subst hn
      have e : mag (45 :: r) = r := rfl
      have en : neg (45 :: r) = true := rfl
      rw [e] at P ⊢
      rw [en, if_pos rfl]
      have hm : (if (45 : UInt8).toNat = 43 ∨ (45 : UInt8).toNat = 45 then r else 45 :: r) = r := rfl
      simp only [Lib.atoiAll, hm, P]
      by_cases h1 : valF 0 r < 18446744073709551616
      · simp only [if_pos h1]
        by_cases h2 : valF 0 r ≤ 9223372036854775808
        · rw [if_neg (fun e => e.1 rfl), if_neg (by omega), if_pos (show (45 : UInt8).toNat = 45 from rfl), if_pos h2]
        · rw [if_neg (fun e => e.1 rfl), if_pos ⟨rfl, by omega⟩, if_neg h2]
      · simp only [if_neg h1]
        rw [if_neg (by omega)]
    · have en : neg (c :: r) = false := by simp [neg, hn]
      have e : mag (c :: r) = c :: r := by simp [mag, en]
      rw [e] at P hd ⊢
      rw [en]
      have hc := isDg_iff.1 (by have := digs_all hd; simp only [List.all_cons, Bool.and_eq_true] at this; exact this.1)
      have hm : (if c.toNat = 43 ∨ c.toNat = 45 then r else c :: r) = c :: r := if_neg (by omega)
      simp only [Lib.atoiAll, hm, P]
      have h45 : ¬ c.toNat = 45 := by omega
      by_cases h1 : valF 0 (c :: r) < 18446744073709551616
      · simp only [if_pos h1, h45, not_false_eq_true, true_and, false_and, if_false]
        by_cases h2 : valF 0 (c :: r) < 9223372036854775808
        · rw [if_neg (by omega), if_pos h2]; rfl
        · rw [if_pos (by omega), if_neg h2]; rfl
      · simp only [if_neg h1]
        have : ¬ valF 0 (c :: r) < 9223372036854775808 := by omega
        rw [if_neg (by decide), if_neg this]
theorem trim_mag (s : L8) : Lib.trimPrefix s [45] = mag s := by
  cases s with
  | nil => rfl
  | cons c r =>
    by_cases hn : c = 45
    · subst hn; simp [Lib.trimPrefix, Lib.hasPrefix, mag, neg]
    · simp [Lib.trimPrefix, Lib.hasPrefix, mag, neg, hn, List.isPrefixOf]
      intro h; exact absurd h.symm hn
/-- The program's test. -/
theorem isDec_prog {s : L8} (h0 : mag s ≠ []) (ha : (mag s).all isDg = true) : isDec s = (!decide ((mag s).head? = some 48) || decide (s = [48])) := by
  have hl : 0 < (mag s).length := List.length_pos_iff.2 h0
  by_cases hn : neg s = true
  · have hs : ¬ s = [48] := by intro e; subst e; simp [neg] at hn
    by_cases h48 : (mag s).head? = some 48
    · by_cases h1 : mag s = [48]
      · simp [isDec, hn, h1, hs]
      · have : ¬ (mag s).length = 1 := by
          intro e
          obtain ⟨x, hx⟩ := List.length_eq_one_iff.1 e
          rw [hx] at h48 h1
          simp at h48
          exact h1 (by rw [h48])
        simp [isDec, digs, hn, h48, hs, this]
    · have : ¬ mag s = [48] := by intro e; rw [e] at h48; exact h48 rfl
      simp [isDec, digs, ha, hl, h48, this]
  · have e : mag s = s := by simp [mag, hn]
    rw [e] at ha hl ⊢
    simp only [Bool.not_eq_true] at hn
    simp only [isDec, e, hn, Bool.false_and, Bool.not_false, Bool.and_true, digs, ha, hl, decide_true, Bool.true_and]
    by_cases h48 : s.head? = some 48
    · by_cases h1 : s.length = 1
      · obtain ⟨x, hx⟩ := List.length_eq_one_iff.1 h1
        subst hx
        simp at h48
        subst h48
        rfl
      · have : ¬ s = [48] := by intro e; subst e; exact h1 rfl
        simp [h48, h1, this]
    · simp [h48]
theorem isDec_none {s : L8} (h : mag s = []) : isDec s = false := by simp [isDec, digs, h]
theorem isDec_bad {s : L8} (h : (mag s).all isDg = false) : isDec s = false := by simp [isDec, digs, h]
theorem intL_bad {s : L8} (h : isDec s = false) : intL s = (0, 4) := by simp [intL, h]
/-- Decimal digits of a number, and back. -/
theorem decDigits_step (u : Nat) (h : ¬ u < 10) : Lib.decDigits u = Lib.decDigits (u / 10) ++ [UInt8.ofNat (48 + u % 10)] := by rw [Lib.decDigits, dif_neg h]
theorem dg_nat {d : Nat} (h : d < 10) : (UInt8.ofNat (48 + d)).toNat = 48 + d := by simp; omega
theorem dg_is {d : Nat} (h : d < 10) : isDg (UInt8.ofNat (48 + d)) = true := by rw [isDg_iff, dg_nat h]; omega
theorem dec_all (u : Nat) : (Lib.decDigits u).all isDg = true := by
  induction u using Nat.strongRecOn with
  | _ u ih =>
    by_cases h : u < 10
    · rw [Lib.decDigits_one h, List.all_cons, dg_is h]; rfl
    · rw [decDigits_step u h, List.all_append, ih (u / 10) (by omega), List.all_cons, dg_is (Nat.mod_lt u (by omega))]; rfl
theorem dec_val (u : Nat) : valF 0 (Lib.decDigits u) = u := by
  induction u using Nat.strongRecOn with
  | _ u ih =>
    by_cases h : u < 10
    · rw [Lib.decDigits_one h, valF_cons, valF_nil, dg_nat h]; omega
    · rw [decDigits_step u h, valF_snoc, ih (u / 10) (by omega), dg_nat (Nat.mod_lt u (by omega))]; omega
theorem dec_len (u : Nat) : 0 < (Lib.decDigits u).length := by rw [Lib.decDigits_length]; exact Lib.nDigits_pos u
theorem dec_head (u : Nat) (h : 0 < u) : (Lib.decDigits u).head? ≠ some 48 := by
  induction u using Nat.strongRecOn with
  | _ u ih =>
    by_cases h1 : u < 10
    · rw [Lib.decDigits_one h1]
      intro e
      simp only [List.head?_cons, Option.some.injEq] at e
      have := congrArg UInt8.toNat e
      rw [dg_nat h1] at this
      simp at this; omega
    · rw [decDigits_step u h1]
      have hl := dec_len (u / 10)
      have := ih (u / 10) (by omega) (by omega)
      cases hc : Lib.decDigits (u / 10) with
      | nil => rw [hc] at hl; simp at hl
      | cons x xs => rw [hc] at this; simpa using this
theorem dec_digs (u : Nat) : digs (Lib.decDigits u) = true := by
  simp only [digs, Bool.and_eq_true, dec_all, decide_eq_true_eq, dec_len, true_and, Bool.or_eq_true]
  by_cases h : 0 < u
  · exact Or.inl (dec_head u h)
  · obtain rfl : u = 0 := by omega
    right
    rw [Lib.decDigits_one (by omega)]; rfl
theorem dec_back : ∀ (n : Nat) (l : L8), l.length ≤ n → digs l = true → Lib.decDigits (valF 0 l) = l
  | n, l, hn, h => by
    have hp := digs_pos h
    rcases List.eq_nil_or_concat l with rfl | ⟨a, b, rfl⟩
    · simp at hp
    · rw [List.concat_eq_append] at h hn ⊢
      have ha := digs_all h
      simp only [List.all_append, List.all_cons, List.all_nil, Bool.and_true, Bool.and_eq_true] at ha
      have hb := isDg_iff.1 ha.2
      have eb : UInt8.ofNat (48 + (b.toNat - 48)) = b := by rw [show 48 + (b.toNat - 48) = b.toNat by omega]; simp
      rw [valF_snoc]
      cases n with
      | zero => simp at hn
      | succ n =>
        cases a with
        | nil =>
          rw [valF_nil, List.nil_append, Nat.zero_mul, Nat.zero_add, Lib.decDigits_one (by omega), eb]
        | cons x a =>
          have hx : x ≠ 48 := by
            have := h
            simp only [digs, Bool.and_eq_true, Bool.or_eq_true, decide_eq_true_eq] at this
            rcases this.2.2 with e | e
            · intro e2; subst e2; exact e rfl
            · simp at e
          have hd : digs (x :: a) = true := by
            simp only [digs, ha.1, Bool.true_and, Bool.and_eq_true, decide_eq_true_eq, Bool.or_eq_true]
            exact ⟨by simp, Or.inl (by simpa using hx)⟩
          have hxd : 49 ≤ x.toNat := by
            have h1 : isDg x = true := by have := ha.1; simp only [List.all_cons, Bool.and_eq_true] at this; exact this.1
            have := isDg_iff.1 h1
            have : x.toNat ≠ 48 := fun e => hx (UInt8.toNat_inj.1 e)
            omega
          have hv : 1 ≤ valF 0 (x :: a) := by
            have := valF_ge a (0 * 10 + (x.toNat - 48))
            rw [valF_cons]; omega
          rw [decDigits_step _ (by omega), show (valF 0 (x :: a) * 10 + (b.toNat - 48)) / 10 = valF 0 (x :: a) by omega, dec_back n (x :: a) (by simp at hn ⊢; omega) hd,
            show (valF 0 (x :: a) * 10 + (b.toNat - 48)) % 10 = b.toNat - 48 by omega, eb]
theorem dec_zero : Lib.decDigits 0 = [48] := by rw [Lib.decDigits_one (by omega)]; rfl
theorem neg_dec (u : Nat) : neg (Lib.decDigits u) = false := by
  have := dec_all u
  have hl := dec_len u
  cases hc : Lib.decDigits u with
  | nil => rw [hc] at hl; simp at hl
  | cons x xs =>
    rw [hc] at this
    simp only [List.all_cons, Bool.and_eq_true] at this
    have := isDg_iff.1 this.1
    simp only [neg, List.head?_cons, decide_eq_false_iff_not, Option.some.injEq]
    intro e; subst e; revert this; decide
/-- The number of a decimal form of an int is the int. -/
theorem intL_itoa {n : Int} (h : -9223372036854775808 ≤ n ∧ n ≤ 9223372036854775807) : intL (Lib.itoa n) = (n, 0) := by
  unfold Lib.itoa
  by_cases hn : n < 0
  · rw [if_pos hn]
    have e1 : neg (45 :: Lib.decDigits n.natAbs) = true := rfl
    have e2 : mag (45 :: Lib.decDigits n.natAbs) = Lib.decDigits n.natAbs := rfl
    have e3 : ¬ Lib.decDigits n.natAbs = [48] := by
      intro e
      have := dec_val n.natAbs
      rw [e, valF_cons, valF_nil] at this
      have e48 : (48 : UInt8).toNat = 48 := rfl
      omega
    have hd : isDec (45 :: Lib.decDigits n.natAbs) = true := by simp [isDec, e1, e2, dec_digs, e3]
    rw [intL, if_pos hd, e1, if_pos rfl, e2, dec_val, if_pos (by omega)]
    congr 1; omega
  · rw [if_neg hn]
    have e1 := neg_dec n.toNat
    have e2 : mag (Lib.decDigits n.toNat) = Lib.decDigits n.toNat := by simp [mag, e1]
    have hd : isDec (Lib.decDigits n.toNat) = true := by simp [isDec, e1, e2, dec_digs]
    rw [intL, if_pos hd, e1, e2, dec_val]
    simp only [Bool.false_eq_true, if_false]
    rw [if_pos (by omega)]
    congr 1; omega
/-- What is accepted is the decimal form of its result. -/
theorem itoa_intL {s : L8} (h : (intL s).2 = 0) : Lib.itoa (intL s).1 = s := by
  unfold intL at h ⊢
  by_cases hd : isDec s = true
  · rw [if_pos hd] at h ⊢
    simp only [isDec, Bool.and_eq_true] at hd
    have hb := dec_back _ (mag s) (Nat.le_refl _) hd.1
    by_cases hn : neg s = true
    · rw [if_pos hn] at h ⊢
      split at h
      · rename_i hle
        rw [if_pos hle]
        obtain ⟨r, rfl⟩ : ∃ r, s = 45 :: r := by
          cases s with
          | nil => simp [neg] at hn
          | cons c r => simp [neg] at hn; exact ⟨r, by rw [hn]⟩
        have e : mag (45 :: r) = r := rfl
        rw [e] at hb hd ⊢
        have h0 : valF 0 r ≠ 0 := by
          intro e0
          rw [e0, dec_zero] at hb
          have := hd.2
          rw [hn, ← hb] at this
          simp at this
        simp only [Lib.itoa]
        rw [if_pos (by omega), show (-(valF 0 r : Int)).natAbs = valF 0 r by omega, hb]
      · simp at h
    · have e : mag s = s := by simp [mag, hn]
      rw [if_neg hn] at h ⊢
      split at h
      · rename_i hlt
        rw [if_pos hlt]
        simp only [Lib.itoa]
        rw [if_neg (by omega), show ((valF 0 (mag s) : Int)).toNat = valF 0 (mag s) by omega, hb, e]
      · simp at h
  · rw [if_neg hd] at h
    simp at h
theorem intL_range (s : L8) : -9223372036854775808 ≤ (intL s).1 ∧ (intL s).1 ≤ 9223372036854775807 := by
  unfold intL
  repeat' split
  all_goals (simp only; omega)
theorem itoa_len (n : Int) (h : -9223372036854775808 ≤ n ∧ n ≤ 9223372036854775807) : (Lib.itoa n).length ≤ 20 ∧ 1 ≤ (Lib.itoa n).length := by
  have key : ∀ (k u : Nat), u < 10 ^ k → 1 ≤ k → Lib.nDigits u ≤ k := by
    intro k
    induction k with
    | zero => intro u _ h; omega
    | succ k ih =>
      intro u hu _
      by_cases h1 : u < 10
      · rw [Lib.nDigits_small h1]; omega
      · rw [Lib.nDigits_big h1]
        rw [Nat.pow_succ] at hu
        by_cases hk : 1 ≤ k
        · have := ih (u / 10) (by omega) hk; omega
        · obtain rfl : k = 0 := by omega
          simp at hu; omega
  unfold Lib.itoa
  split
  · have := key 19 n.natAbs (by omega) (by omega)
    simp only [List.length_cons, Lib.decDigits_length]; omega
  · have := key 19 n.toNat (by omega) (by omega)
    have := Lib.nDigits_pos n.toNat
    simp only [Lib.decDigits_length]; omega
theorem itoa_not (n : Int) : (44 : UInt8) ∉ Lib.itoa n := by
  have key : ∀ u, (44 : UInt8) ∉ Lib.decDigits u := by
    intro u hm
    have := List.all_eq_true.1 (dec_all u) _ hm
    revert this; decide
  unfold Lib.itoa
  split
  · simp only [List.mem_cons, not_or]
    exact ⟨by decide, key _⟩
  · exact key _
/-- Names. -/
def isLt (b : UInt8) : Bool := decide (97 ≤ b.toNat) && decide (b.toNat ≤ 122)
def nmB (b : UInt8) : Bool := isLt b || (isDg b || decide (b = 95))
def isName (s : L8) : Bool := s.all nmB && ((match s.head? with | some b => isLt b | none => false) && decide (s.length ≤ 12))
/-- Lists of numbers. -/
def intsOf (acc : List Int) : List L8 → List Int × Int
  | [] => (acc, 0)
  | p :: r => if (intL p).2 = 0 then intsOf (acc ++ [(intL p).1]) r else ([], (intL p).2)
def listL (s : L8) : List Int × Int := if s = [45] then ([], 0) else intsOf [] (cutA 44 [] s)
def formL (l : List Int) : L8 := if l = [] then [45] else Lib.join (l.map Lib.itoa) [44]
theorem intsOf_ok : ∀ (ps : List L8) (acc r : List Int), intsOf acc ps = (r, 0) → ∃ l, r = acc ++ l ∧ l.map Lib.itoa = ps ∧ ∀ n ∈ l, -9223372036854775808 ≤ n ∧ n ≤ 9223372036854775807
  | [], acc, r, h => by
    simp only [intsOf, Prod.mk.injEq] at h
    exact ⟨[], by simp [h.1], rfl, by simp⟩
  | p :: ps, acc, r, h => by
    simp only [intsOf] at h
    split at h
    · rename_i h0
      obtain ⟨l, rfl, e, hb⟩ := intsOf_ok ps _ r h
      refine ⟨(intL p).1 :: l, by simp, by simp [itoa_intL h0, e], ?_⟩
      intro n hn
      rcases List.mem_cons.1 hn with rfl | hn
      · exact intL_range p
      · exact hb n hn
    · rename_i h0
      simp only [Prod.mk.injEq] at h
      exact absurd h.2 h0
theorem intsOf_form : ∀ (l acc : List Int), (∀ n ∈ l, -9223372036854775808 ≤ n ∧ n ≤ 9223372036854775807) → intsOf acc (l.map Lib.itoa) = (acc ++ l, 0)
  | [], acc, _ => by simp [intsOf]
  | n :: l, acc, h => by
    have hn := intL_itoa (h n (by simp))
    simp only [List.map_cons, intsOf, hn, if_true]
    rw [intsOf_form l _ (fun x hx => h x (by simp [hx]))]
    simp
theorem join_one_ne {l : List Int} (hb : ∀ n ∈ l, -9223372036854775808 ≤ n ∧ n ≤ 9223372036854775807) (h0 : l ≠ []) : Lib.join (l.map Lib.itoa) [44] ≠ [45] := by
  intro e
  have hc := cutA_joined 44 (ws := l.map Lib.itoa) (by simpa using List.length_pos_iff.2 h0) (fun x hx => by
    obtain ⟨n, _, rfl⟩ := List.mem_map.1 hx
    exact itoa_not n)
  rw [e] at hc
  have e1 : cutA 44 [] [45] = [[45]] := rfl
  rw [e1] at hc
  cases l with
  | nil => exact h0 rfl
  | cons n l =>
    simp only [List.map_cons, List.cons.injEq] at hc
    have := intL_itoa (hb n (by simp))
    rw [← hc.1] at this
    have h2 : intL [45] = (0, 4) := by decide
    rw [h2] at this
    simp at this
/-- Lists are restored from their text. -/
theorem list_form {l : List Int} (h : ∀ n ∈ l, -9223372036854775808 ≤ n ∧ n ≤ 9223372036854775807) : listL (formL l) = (l, 0) := by
  unfold listL formL
  by_cases h0 : l = []
  · subst h0; rfl
  · rw [if_neg h0, if_neg (join_one_ne h h0), cutA_joined 44 (by simpa using List.length_pos_iff.2 h0) (fun x hx => by
      obtain ⟨n, _, rfl⟩ := List.mem_map.1 hx
      exact itoa_not n), intsOf_form l [] h]
    simp
theorem form_list {s : L8} (h : (listL s).2 = 0) : formL (listL s).1 = s := by
  unfold listL at h ⊢
  by_cases h0 : s = [45]
  · rw [if_pos h0, h0]; rfl
  · rw [if_neg h0] at h ⊢
    obtain ⟨l, e1, e2, _⟩ := intsOf_ok (cutA 44 [] s) [] (intsOf [] (cutA 44 [] s)).1 (by rw [← h])
    rw [e1, List.nil_append]
    have hl : l ≠ [] := by
      intro e; subst e
      have := cutA_pos 44 s []
      rw [← e2] at this; simp at this
    rw [formL, if_neg hl, e2, cutA_glue]; simp
theorem list_bound (s : L8) : ∀ n ∈ (listL s).1, -9223372036854775808 ≤ n ∧ n ≤ 9223372036854775807 := by
  unfold listL
  split
  · simp
  · have key : ∀ (ps : List L8) (acc : List Int), (∀ n ∈ acc, -9223372036854775808 ≤ n ∧ n ≤ 9223372036854775807) → ∀ n ∈ (intsOf acc ps).1, -9223372036854775808 ≤ n ∧ n ≤ 9223372036854775807 := by
      intro ps
      induction ps with
      | nil => intro acc h n hn; exact h n hn
      | cons p ps ih =>
        intro acc h n hn
        simp only [intsOf] at hn
        split at hn
        · refine ih _ ?_ n hn
          intro m hm
          rcases List.mem_append.1 hm with hm | hm
          · exact h m hm
          · simp at hm; subst hm; exact intL_range p
        · simp at hn
    exact key _ [] (by simp)
theorem intsOf_len : ∀ (ps : List L8) (acc : List Int), (intsOf acc ps).1.length ≤ acc.length + ps.length
  | [], acc => by simp [intsOf]
  | p :: ps, acc => by
    simp only [intsOf]
    split
    · have := intsOf_len ps (acc ++ [(intL p).1])
      simp at this ⊢; omega
    · simp
theorem list_len (s : L8) : (listL s).1.length ≤ s.length + 1 := by
  unfold listL
  split
  · simp
  · have := intsOf_len (cutA 44 [] s) []
    have := cutA_le 44 s []
    simp at *; omega
end
end Go.Proofs.YteafkginhejllaaGreatDoor
