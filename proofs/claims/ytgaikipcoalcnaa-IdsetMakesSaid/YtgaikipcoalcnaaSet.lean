/- Plain mathematics of sets as ascending lists: the set of a list, the choice of elements of two lists, and that an ascending list is given by its elements. Conditions: none. -/
namespace Go.Proofs.Ytgaikipcoalcnaa
/-- Strictly ascending. -/
def Asc : List Int → Prop
  | [] => True
  | x :: xs => (∀ y ∈ xs, x < y) ∧ Asc xs
theorem asc_ext : ∀ (a b : List Int), Asc a → Asc b → (∀ n, n ∈ a ↔ n ∈ b) → a = b
  | [], [], _, _, _ => rfl
  | [], y :: ys, _, _, h => absurd ((h y).2 (by simp)) (by simp)
  | x :: xs, [], _, _, h => absurd ((h x).1 (by simp)) (by simp)
  | x :: xs, y :: ys, ha, hb, h => by
    have e : x = y := by
      have h1 := (h x).1 (by simp)
      have h2 := (h y).2 (by simp)
      rcases List.mem_cons.1 h1 with h1 | h1
      · exact h1
      · rcases List.mem_cons.1 h2 with h2 | h2
        · exact h2.symm
        · have := hb.1 x h1; have := ha.1 y h2; omega
    subst e
    have t : xs = ys := asc_ext xs ys ha.2 hb.2 fun n => by
      constructor
      · intro hn
        rcases List.mem_cons.1 ((h n).1 (List.mem_cons_of_mem _ hn)) with e | e
        · have := ha.1 n hn; omega
        · exact e
      · intro hn
        rcases List.mem_cons.1 ((h n).2 (List.mem_cons_of_mem _ hn)) with e | e
        · have := hb.1 n hn; omega
        · exact e
    rw [t]
/-- n put before the first greater element, or at the end. -/
def put (n : Int) : List Int → List Int
  | [] => [n]
  | x :: xs => if n < x then n :: x :: xs else x :: put n xs
def ins (l : List Int) (n : Int) : List Int := if l.contains n then l else put n l
theorem mem_put (n m : Int) : ∀ l, m ∈ put n l ↔ m = n ∨ m ∈ l
  | [] => by simp [put]
  | x :: xs => by
    unfold put
    split
    · simp
    · rw [List.mem_cons, mem_put n m xs, List.mem_cons]
      constructor
      · rintro (h | h | h)
        · exact Or.inr (Or.inl h)
        · exact Or.inl h
        · exact Or.inr (Or.inr h)
      · rintro (h | h | h)
        · exact Or.inr (Or.inl h)
        · exact Or.inl h
        · exact Or.inr (Or.inr h)
theorem asc_put (n : Int) : ∀ l, Asc l → n ∉ l → Asc (put n l)
  | [], _, _ => ⟨by simp, trivial⟩
  | x :: xs, h, hn => by
    unfold put
    split
    · rename_i hlt
      refine ⟨fun y hy => ?_, h⟩
      rcases List.mem_cons.1 hy with rfl | hy
      · exact hlt
      · have := h.1 y hy; omega
    · rename_i hlt
      refine ⟨fun y hy => ?_, asc_put n xs h.2 fun hm => hn (List.mem_cons_of_mem _ hm)⟩
      rcases (mem_put n y xs).1 hy with rfl | hy
      · have : x ≠ y := fun e => hn (by simp [e])
        omega
      · exact h.1 y hy
theorem length_put (n : Int) : ∀ l, (put n l).length = l.length + 1
  | [] => rfl
  | x :: xs => by
    unfold put
    split
    · simp
    · simp [length_put n xs]
theorem mem_ins (l : List Int) (n m : Int) : m ∈ ins l n ↔ m = n ∨ m ∈ l := by
  unfold ins
  split
  · rename_i h
    have : n ∈ l := by simpa using h
    constructor
    · exact Or.inr
    · rintro (rfl | h)
      · exact this
      · exact h
  · exact mem_put n m l
theorem asc_ins (l : List Int) (n : Int) (h : Asc l) : Asc (ins l n) := by
  unfold ins
  split
  · exact h
  · rename_i hn
    exact asc_put n l h (by simpa using hn)
theorem length_ins (l : List Int) (n : Int) : (ins l n).length ≤ l.length + 1 := by
  unfold ins
  split
  · omega
  · rw [length_put]; omega
theorem foldl_ins (b : List Int) : ∀ a, Asc a → Asc (b.foldl ins a) ∧ ∀ n, n ∈ b.foldl ins a ↔ n ∈ a ∨ n ∈ b := by
  induction b with
  | nil => intro a h; exact ⟨h, by simp⟩
  | cons x b ih =>
    intro a h
    obtain ⟨h1, h2⟩ := ih _ (asc_ins a x h)
    refine ⟨h1, fun n => ?_⟩
    rw [List.foldl_cons, h2, mem_ins, List.mem_cons]
    constructor
    · rintro ((h | h) | h)
      · exact Or.inr (Or.inl h)
      · exact Or.inl h
      · exact Or.inr (Or.inr h)
    · rintro (h | h | h)
      · exact Or.inl (Or.inr h)
      · exact Or.inl (Or.inl h)
      · exact Or.inr h
theorem foldl_ins_length (b : List Int) : ∀ a, (b.foldl ins a).length ≤ a.length + b.length := by
  induction b with
  | nil => simp
  | cons x b ih => intro a; rw [List.foldl_cons]; have := ih (ins a x); have := length_ins a x; simp; omega
/-- The set of the elements of a list. -/
def mk (l : List Int) : List Int := l.foldl ins []
theorem asc_mk (l : List Int) : Asc (mk l) := (foldl_ins l [] trivial).1
theorem mem_mk (l : List Int) (n : Int) : n ∈ mk l ↔ n ∈ l := by rw [mk, (foldl_ins l [] trivial).2]; simp
theorem mk_length (l : List Int) : (mk l).length ≤ l.length := by have := foldl_ins_length l []; simpa [mk] using this
theorem mk_append (a b : List Int) : mk (a ++ b) = b.foldl ins (mk a) := by simp [mk]
theorem mk_snoc (a : List Int) (x : Int) : mk (a ++ [x]) = ins (mk a) x := by simp [mk]
theorem mk_eq (l s : List Int) (h : Asc s) (hm : ∀ n, n ∈ s ↔ n ∈ l) : s = mk l := asc_ext _ _ h (asc_mk l) fun n => by rw [hm, mem_mk]
theorem mk_asc (s : List Int) (h : Asc s) : mk s = s := (mk_eq s s h fun _ => Iff.rfl).symm
theorem mk_mk (l : List Int) : mk (mk l) = mk l := mk_asc _ (asc_mk l)
/-- The numbers of two lists that a condition on their membership keeps. -/
def sel (k : Bool → Bool → Bool) (a b : List Int) : List Int := mk ((a ++ b).filter fun n => k (a.contains n) (b.contains n))
theorem asc_sel (k : Bool → Bool → Bool) (a b : List Int) : Asc (sel k a b) := asc_mk _
theorem mem_sel (k : Bool → Bool → Bool) (a b : List Int) (n : Int) : n ∈ sel k a b ↔ (n ∈ a ∨ n ∈ b) ∧ k (a.contains n) (b.contains n) = true := by
  rw [sel, mem_mk, List.mem_filter, List.mem_append]
theorem sel_length (k : Bool → Bool → Bool) (a b : List Int) : (sel k a b).length ≤ a.length + b.length := by
  have h1 := mk_length ((a ++ b).filter fun n => k (a.contains n) (b.contains n))
  have h2 := List.length_filter_le (fun n => k (a.contains n) (b.contains n)) (a ++ b)
  simp only [List.length_append] at h2
  unfold sel; omega
theorem contains_congr {a a' : List Int} (h : ∀ n, n ∈ a ↔ n ∈ a') (n : Int) : a.contains n = a'.contains n := by
  rw [Bool.eq_iff_iff]; simp [h]
theorem sel_congr (k : Bool → Bool → Bool) {a a' b b' : List Int} (ha : ∀ n, n ∈ a ↔ n ∈ a') (hb : ∀ n, n ∈ b ↔ n ∈ b') : sel k a b = sel k a' b' :=
  asc_ext _ _ (asc_sel ..) (asc_sel ..) fun n => by rw [mem_sel, mem_sel, ha, hb, contains_congr ha, contains_congr hb]
theorem sel_mk (k : Bool → Bool → Bool) (a b : List Int) : sel k (mk a) (mk b) = sel k a b := sel_congr k (mem_mk a) (mem_mk b)
theorem sel_nil (k : Bool → Bool → Bool) : sel k [] [] = [] := rfl
def one (c : Bool) (x : Int) : List Int := if c then [x] else []
theorem mem_one (c : Bool) (x n : Int) : n ∈ one c x ↔ c = true ∧ n = x := by
  unfold one; cases c <;> simp
theorem asc_one_append (c : Bool) (x : Int) (l : List Int) (h : Asc l) (hx : ∀ y ∈ l, x < y) : Asc (one c x ++ l) := by
  unfold one; cases c
  · simpa using h
  · exact ⟨hx, h⟩
/-- One round of the merge: x is less than all that is left, and is in a just if inA, in b just if inB. -/
theorem sel_step (k : Bool → Bool → Bool) (a b a' b' : List Int) (x : Int) (inA inB : Bool) (hne : inA = true ∨ inB = true)
    (ha : ∀ n, n ∈ a ↔ (inA = true ∧ n = x) ∨ n ∈ a') (hb : ∀ n, n ∈ b ↔ (inB = true ∧ n = x) ∨ n ∈ b') (la : ∀ y ∈ a', x < y) (lb : ∀ y ∈ b', x < y) :
    sel k a b = one (k inA inB) x ++ sel k a' b' := by
  have xa : x ∉ a' := fun h => by have := la x h; omega
  have xb : x ∉ b' := fun h => by have := lb x h; omega
  have ca : a.contains x = inA := by rw [Bool.eq_iff_iff]; simp [ha, xa]
  have cb : b.contains x = inB := by rw [Bool.eq_iff_iff]; simp [hb, xb]
  have oa : ∀ n, n ≠ x → a.contains n = a'.contains n := fun n h => by rw [Bool.eq_iff_iff]; simp [ha, h]
  have ob : ∀ n, n ≠ x → b.contains n = b'.contains n := fun n h => by rw [Bool.eq_iff_iff]; simp [hb, h]
  refine asc_ext _ _ (asc_sel ..) (asc_one_append _ _ _ (asc_sel ..) fun y hy => ?_) fun n => ?_
  · rcases ((mem_sel ..).1 hy).1 with h | h
    · exact la y h
    · exact lb y h
  · rw [List.mem_append, mem_one, mem_sel, mem_sel]
    by_cases hn : n = x
    · subst hn
      rw [ca, cb]
      constructor
      · rintro ⟨_, h⟩; exact Or.inl ⟨h, rfl⟩
      · rintro (⟨h, _⟩ | ⟨h, _⟩)
        · refine ⟨?_, h⟩
          rcases hne with e | e
          · exact Or.inl ((ha n).2 (Or.inl ⟨e, rfl⟩))
          · exact Or.inr ((hb n).2 (Or.inl ⟨e, rfl⟩))
        · exact absurd h (by simp [xa, xb])
    · rw [oa n hn, ob n hn, ha, hb]
      simp [hn]
def kU (x y : Bool) : Bool := x || y
def kC (x y : Bool) : Bool := x && y
def kM (x y : Bool) : Bool := x && !y
theorem selU (a b : List Int) : mk (a ++ b) = sel kU a b := asc_ext _ _ (asc_mk _) (asc_sel ..) fun n => by
  rw [mem_mk, mem_sel, List.mem_append]; simp [kU]
theorem selC (a b : List Int) : mk (a.filter fun n => b.contains n == true) = sel kC a b := asc_ext _ _ (asc_mk _) (asc_sel ..) fun n => by
  rw [mem_mk, mem_sel, List.mem_filter]; simp [kC]
  intro h1 _; exact Or.inl h1
theorem selM (a b : List Int) : mk (a.filter fun n => b.contains n == false) = sel kM a b := asc_ext _ _ (asc_mk _) (asc_sel ..) fun n => by
  rw [mem_mk, mem_sel, List.mem_filter]; simp [kM]
  intro h1 _; exact Or.inl h1
theorem sel_empty_iff (a b : List Int) : (sel kM a b).length = 0 ↔ ∀ n ∈ a, n ∈ b := by
  constructor
  · intro h n hn
    have e : sel kM a b = [] := List.eq_nil_of_length_eq_zero h
    by_cases hb : n ∈ b
    · exact hb
    · have : n ∈ sel kM a b := (mem_sel ..).2 ⟨Or.inl hn, by simp [kM, hn, hb]⟩
      rw [e] at this; cases this
  · intro h
    rw [List.length_eq_zero_iff, List.eq_nil_iff_forall_not_mem]
    intro n hn
    obtain ⟨_, h2⟩ := (mem_sel ..).1 hn
    simp [kM] at h2
    exact h2.2 (h n h2.1)
theorem asc_lt : ∀ {l : List Int} {i j : Nat} {x y : Int}, Asc l → i < j → l[i]? = some x → l[j]? = some y → x < y
  | [], _, _, _, _, _, _, h, _ => by simp at h
  | a :: l, 0, 0, _, _, _, h, _, _ => by omega
  | a :: l, i+1, 0, _, _, _, h, _, _ => by omega
  | a :: l, 0, j+1, x, y, h, _, hx, hy => by
    simp at hx hy
    subst hx
    exact h.1 y (List.mem_of_getElem? hy)
  | a :: l, i+1, j+1, x, y, h, hij, hx, hy => by
    simp at hx hy
    exact asc_lt h.2 (by omega) hx hy
end Go.Proofs.Ytgaikipcoalcnaa
