/- Contract of Join. Conditions: bounds on the lengths. -/
import Derived.Test.YtblcigddinmiaaaDoorSmall5
namespace Go.Proofs.YtblcigddinmiaaaDoor
open Go.ChangeShapes Go.WideShapes Go.ChangeAt Go.RowKit
/-- Lines that no sum overflows at. -/
def Fits (ll : List (List L8)) : Prop := ll.length ≤ 100000 ∧ ∀ l ∈ ll, l.length ≤ 100000 ∧ ∀ s ∈ l, s.length ≤ 100000
theorem SmallP.fits {ll : List (List L8)} (h : SmallP ll) : Fits ll := by
  refine ⟨by have := h.1; omega, fun l hl => ?_⟩
  obtain ⟨h1, h2⟩ := h.2 l hl
  exact ⟨by omega, fun s hs => by have := h2 s hs; omega⟩
def wl (y : List L8) : Nat := (y.map fun x => x.length + 1).sum
def tl (ll : List (List L8)) : Nat := (ll.map wl).sum
theorem wl_snoc (y : List L8) (x : L8) : wl (y ++ [x]) = wl y + (x.length + 1) := by simp [wl]
theorem tl_snoc (ll : List (List L8)) (y : List L8) : tl (ll ++ [y]) = tl ll + wl y := by simp [tl]
theorem joinTail_len (c : UInt8) : ∀ (r : List L8), (Lib.joinTail [c] r).length = wl r
  | [] => rfl
  | x :: r => by
    have := joinTail_len c r
    simp only [Lib.joinTail, List.map_cons, List.flatten_cons, List.length_append, List.length_cons, List.length_nil, wl, List.sum_cons] at this ⊢
    omega
theorem join_len (c : UInt8) {y : List L8} (h : 0 < y.length) : (Lib.join y [c]).length + 1 = wl y := by
  cases y with
  | nil => simp at h
  | cons x r =>
    rw [Lib.join_cons, List.length_append, joinTail_len]
    simp only [wl, List.map_cons, List.sum_cons]; omega
theorem lineT_len {y : List L8} (h : 0 < y.length) : (lineT y).length = wl y := by
  rw [lineT, List.length_append, ← join_len 32 h]; simp
theorem textL_len : ∀ (ll : List (List L8)), ll.all isL = true → (textL ll).length = tl ll
  | [], _ => rfl
  | y :: ll, h => by
    simp only [List.all_cons, Bool.and_eq_true] at h
    rw [textL_cons, List.length_append, lineT_len (isL_pos h.1), textL_len ll h.2]
    simp [tl]
theorem wl_le {y : List L8} {m n : Nat} (h1 : y.length ≤ m) (h2 : ∀ s ∈ y, s.length ≤ n) : wl y ≤ m * (n + 1) := by
  have key : ∀ (y : List L8), (∀ s ∈ y, s.length ≤ n) → wl y ≤ y.length * (n + 1) := by
    intro y
    induction y with
    | nil => intro _; simp [wl]
    | cons x y ih =>
      intro h
      have h3 := ih (fun s hs => h s (by simp [hs]))
      have h4 := h x (by simp)
      simp only [wl, List.map_cons, List.sum_cons, List.length_cons, Nat.add_mul, Nat.one_mul] at h3 ⊢
      omega
  exact Nat.le_trans (key y h2) (Nat.mul_le_mul_right _ h1)
theorem tl_le {ll : List (List L8)} (h : Fits ll) : tl ll ≤ 1000010000000000 := by
  have key : ∀ (ll : List (List L8)), (∀ l ∈ ll, wl l ≤ 10000100000) → tl ll ≤ ll.length * 10000100000 := by
    intro ll
    induction ll with
    | nil => intro _; simp [tl]
    | cons x y ih =>
      intro h
      have h3 := ih (fun s hs => h s (by simp [hs]))
      have h4 := h x (by simp)
      simp only [tl, List.map_cons, List.sum_cons, List.length_cons, Nat.add_mul, Nat.one_mul] at h3 ⊢
      omega
  have := key ll (fun l hl => wl_le (h.2 l hl).1 (h.2 l hl).2)
  have h5 := Nat.mul_le_mul_right 10000100000 h.1
  omega
theorem take_le_wl {y : List L8} (k : Nat) : wl (y.take k) ≤ wl y := by
  have app : ∀ a b, wl (a ++ b) = wl a + wl b := fun a b => by simp [wl]
  have e := app (y.take k) (y.drop k)
  rw [List.take_append_drop] at e
  omega
theorem take_le_tl {y : List (List L8)} (k : Nat) : tl (y.take k) ≤ tl y := by
  have app : ∀ a b, tl (a ++ b) = tl a + tl b := fun a b => by simp [tl]
  have e := app (y.take k) (y.drop k)
  rw [List.take_append_drop] at e
  omega
theorem joinR_bad {ll : List (List L8)} (h : ll.all isL = false) : joinR ll = ([], 1) := by simp [joinR, h]
theorem joinR_long {ll : List (List L8)} (h : ll.all isL = true) (h2 : 32768 < tl ll) : joinR ll = ([], 2) := by
  rw [joinR, if_pos h, textL_len ll h, if_pos h2]
theorem joinR_ok {ll : List (List L8)} (h : ll.all isL = true) (h2 : ¬ 32768 < tl ll) : joinR ll = (textL ll, 0) := by
  rw [joinR, if_pos h, textL_len ll h, if_neg h2]
theorem all_takeL {ll : List (List L8)} {k : Nat} {y : List L8} (hy : ll[k]? = some y) (h : (ll.take k).all isL = true) (hp : isL y = true) : (ll.take (k + 1)).all isL = true := by
  obtain ⟨h1, h2⟩ := List.getElem?_eq_some_iff.1 hy
  rw [List.take_succ_eq_append_getElem h1, List.all_append, h, h2]; simp [hp]
theorem allL_bad {ll : List (List L8)} {k : Nat} {y : List L8} (hy : ll[k]? = some y) (hp : isL y = false) : ll.all isL = false := by
  rw [← Bool.not_eq_true, List.all_eq_true]; intro h
  have := h y (List.mem_of_getElem? hy)
  rw [hp] at this; cases this
/-- strings.Join of a list of texts. -/
theorem sjoin_any (c : UInt8) (v : Value) (l : List L8) (w : World) (hr : RS w v (strsV l)) (h1 : l.length ≤ 100000) (h2 : (Lib.join l [c]).length ≤ 140737488355328) :
    Calls Tryd.prog 35 #[v, .string ⟨#[c]⟩] w (RetV w (str (Lib.join l [c]))) := by
  obtain ⟨a, cap, rfl, ⟨hm, hc⟩, HC⟩ := hr.openS
  cases l with
  | nil =>
    refine (Tryd.strings_Join_none a cap ⟨#[c]⟩ w).mono ?_
    rintro e w' ⟨rfl, rfl⟩
    exact ⟨rfl, Below.refl _ _⟩
  | cons x l =>
    obtain ⟨b, off, rfl, hb, _⟩ := HC.out 0 (str x) rfl
    have e : ((x :: l).map sb).map (fun s => s.data.toList) = x :: l := by
      rw [List.map_map]
      exact List.map_id _
    have K := Tryd.strings_Join b off cap ((x :: l).map sb) ⟨#[c]⟩ w (fun j y hy => by
      rw [List.getElem?_map] at hy
      cases hz : (x :: l)[j]? with
      | none => rw [hz] at hy; cases hy
      | some z =>
        rw [hz] at hy
        obtain rfl := Option.some.inj hy
        obtain ⟨b', off', e2, _, h3⟩ := HC.out j (str z) (by simp only [strsV, List.getElem?_map, hz]; rfl)
        injection e2 with e3
        injection e3 with e4 e5
        subst e4 e5
        exact h3) hb (by rw [List.length_map]; omega) (by rw [List.length_map]; exact hc) (by rw [e]; exact h2)
    rw [e, List.length_map] at K
    refine K.mono ?_
    rintro e w' ⟨rfl, hbw⟩
    exact ⟨rfl, hbw⟩
/-- What stands in the builder. -/
def BInv (b : Nat) (acc : L8) (w : World) : Prop := Lib.IsBuilder 52 5 b b (Lib.byteCells acc) w
theorem BInv.below {b : Nat} {acc : L8} {w w' : World} (h : BInv b acc w) (hb : Below w.heap.size w w') : BInv b acc w' := by
  have key : ∀ p, Lib.BuilderAt 52 5 b b p (Lib.byteCells acc) w → Lib.BuilderAt 52 5 b b p (Lib.byteCells acc) w' := by
    rintro p ⟨h1, v, h2, h3, h4⟩
    have hlt : b < w.heap.size := (Array.getElem?_eq_some_iff.1 h2).1
    exact ⟨h1, v, (hb.block b hlt).trans h2, own_below h3 hb, h4⟩
  rcases h with h | h
  · exact Or.inl (key _ h)
  · exact Or.inr (key _ h)
theorem write_any (b : Nat) (acc x : L8) (w : World) (h : BInv b acc w) (hl : acc.length + x.length ≤ 100000000000) (hb : b ≤ w.heap.size) :
    Calls Tryd.prog 34 #[.pointer (some ⟨b, 0, none⟩), str x] w fun e w' => e = .returned (.tuple #[.int .i64 x.length, .nilIface]) ∧ BInv b (acc ++ x) w' ∧ Below b w w' := by
  have K := Any.Builder_WriteString { Tryd.lays156 with } Tryd.Builder_Extra_156 b b (Lib.byteCells acc) (sb x) w h (by rw [Lib.byteCells_length, sb_size]; omega) hb
  refine K.mono ?_
  rintro e w' ⟨rfl, h1, h2⟩
  refine ⟨by rw [sb_size], Or.inr ?_, h2⟩
  rw [Lib.byteCells_append]
  exact h1
end Go.Proofs.YtblcigddinmiaaaDoor
