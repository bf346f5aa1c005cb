/- Plain mathematics of layer 5: lines and words of texts, decimal forms, lists of numbers. No program, no model. -/
import Derived.Lib.AtoiAll
import Derived.Lib.ItoaMem
import Derived.Lib.Split
import Derived.Lib.SplitLaws
import Derived.Lib.CutLaws
import Derived.Lib.Join
import Derived.Lib.Strings
import Derived.Lib.IndexLaws
namespace Go.Proofs.YtblcigddinmiaaaDoor
abbrev L8 := List UInt8
/-- A byte of a word. -/
def okB (b : UInt8) : Bool := decide (33 ≤ b.toNat) && decide (b.toNat ≤ 126)
def isW (l : L8) : Bool := l.all okB && (decide (1 ≤ l.length) && decide (l.length ≤ 64))
def isL (l : List L8) : Bool := l.all isW && decide (0 < l.length)
/-- The pieces between the bytes c; cur stands before. -/
def cutA (c : UInt8) (cur : L8) : L8 → List L8
  | [] => [cur]
  | b :: r => if b = c then cur :: cutA c [] r else cutA c (cur ++ [b]) r
theorem cutA_pos (c : UInt8) : ∀ (s cur : L8), 0 < (cutA c cur s).length
  | [], cur => by simp [cutA]
  | b :: r, cur => by
    unfold cutA
    split
    · simp
    · exact cutA_pos c r _
theorem cutA_le (c : UInt8) : ∀ (s cur : L8), (cutA c cur s).length ≤ s.length + 1
  | [], cur => by simp [cutA]
  | b :: r, cur => by
    unfold cutA
    split
    · have := cutA_le c r []
      simp only [List.length_cons]; omega
    · have := cutA_le c r (cur ++ [b])
      simp only [List.length_cons]; omega
theorem cutA_run (c : UInt8) : ∀ (t cur r : L8), c ∉ t → cutA c cur (t ++ r) = cutA c (cur ++ t) r
  | [], cur, r, _ => by simp
  | b :: t, cur, r, h => by
    simp only [List.mem_cons, not_or] at h
    rw [List.cons_append, cutA, if_neg (fun e => h.1 e.symm), cutA_run c t _ r h.2]
    simp
theorem cutA_sep (c : UInt8) (t cur r : L8) (h : c ∉ t) : cutA c cur (t ++ c :: r) = (cur ++ t) :: cutA c [] r := by
  rw [cutA_run c t cur _ h, cutA, if_pos rfl]
theorem cutA_none (c : UInt8) (t cur : L8) (h : c ∉ t) : cutA c cur t = [cur ++ t] := by
  have := cutA_run c t cur [] h
  simpa [cutA] using this
theorem cutA_len (c : UInt8) : ∀ (s cur : L8), ∀ x ∈ cutA c cur s, x.length ≤ cur.length + s.length
  | [], cur, x, h => by simp [cutA] at h; subst h; simp
  | b :: r, cur, x, h => by
    unfold cutA at h
    split at h
    · rcases List.mem_cons.1 h with h | h
      · subst h; simp only [List.length_cons]; omega
      · have := cutA_len c r [] x h; simp at this; simp only [List.length_cons]; omega
    · have := cutA_len c r _ x h
      simp at this ⊢; omega
/-- How the lines of a text are read. -/
inductive LR where
  | ok (l : List (List L8))
  | bad (n : Nat)
def scan (out : List (List L8)) (line : List L8) (cur : L8) : L8 → LR
  | [] => if cur = [] ∧ line = [] then .ok out else .bad (out.length + 1)
  | b :: r => if b = 32 ∨ b = 10 then (if isW cur then (if b = 10 then scan (out ++ [line ++ [cur]]) [] [] r else scan out (line ++ [cur]) [] r) else .bad (out.length + 1)) else scan out line (cur ++ [b]) r
theorem scan_nil (out : List (List L8)) : scan out [] [] [] = .ok out := by simp [scan]
theorem scan_line (out : List (List L8)) (r : L8) : ∀ (t : L8) (line : List L8) (cur : L8), 10 ∉ t →
    scan out line cur (t ++ 10 :: r) = if (cutA 32 cur t).all isW then scan (out ++ [line ++ cutA 32 cur t]) [] [] r else .bad (out.length + 1)
  | [], line, cur, _ => by
    simp only [List.nil_append, scan, cutA, List.all_cons, List.all_nil, Bool.and_true]
    simp
  | b :: t, line, cur, h => by
    simp only [List.mem_cons, not_or] at h
    have hb : ¬ b = 10 := fun e => h.1 e.symm
    rw [List.cons_append, scan]
    by_cases h32 : b = 32
    · subst h32
      rw [if_pos (Or.inl rfl)]
      by_cases hw : isW cur = true
      · rw [if_pos hw, if_neg (by decide), scan_line out r t _ _ h.2]
        simp only [cutA, if_true, List.all_cons, hw, Bool.true_and, List.append_assoc, List.singleton_append]
      · rw [if_neg hw]
        simp only [cutA, if_true, List.all_cons]
        rw [if_neg (by simp [hw])]
    · rw [if_neg (by simp [h32, hb]), scan_line out r t _ _ h.2]
      simp only [cutA, if_neg h32]
theorem scan_open (out : List (List L8)) : ∀ (t : L8) (line : List L8) (cur : L8), 10 ∉ t → ¬ (t = [] ∧ cur = [] ∧ line = []) → scan out line cur t = .bad (out.length + 1)
  | [], line, cur, _, h => by
    rw [scan, if_neg (fun e => h ⟨rfl, e.1, e.2⟩)]
  | b :: t, line, cur, h, _ => by
    simp only [List.mem_cons, not_or] at h
    have hb : ¬ b = 10 := fun e => h.1 e.symm
    rw [scan]
    by_cases h32 : b = 32
    · subst h32
      rw [if_pos (Or.inl rfl), if_neg (by decide : ¬ (32 : UInt8) = 10)]
      split
      · exact scan_open out t _ _ h.2 (by simp)
      · rfl
    · rw [if_neg (by simp [h32, hb])]
      exact scan_open out t _ _ h.2 (by simp)
/-- One line, as the program takes it. -/
theorem scan_step (out : List (List L8)) (t r : L8) (h : 10 ∉ t) : scan out [] [] (t ++ 10 :: r) = if isL (cutA 32 [] t) then scan (out ++ [cutA 32 [] t]) [] [] r else .bad (out.length + 1) := by
  rw [scan_line out r t [] [] h, List.nil_append]
  have : isL (cutA 32 [] t) = (cutA 32 [] t).all isW := by simp [isL, cutA_pos]
  rw [this]
theorem scan_left (out : List (List L8)) (t : L8) (h : 10 ∉ t) (h0 : t ≠ []) : scan out [] [] t = .bad (out.length + 1) := scan_open out t [] [] h (by simp [h0])
def outLines : LR → List (List L8) × Int × Int
  | .ok l => (l, 0, 0)
  | .bad n => ([], n, 4)
def linesR (s : L8) : List (List L8) × Int × Int := if 32768 < s.length then ([], 0, 2) else outLines (scan [] [] [] s)
theorem linesR_long {s : L8} (h : 32768 < s.length) : linesR s = ([], 0, 2) := by rw [linesR, if_pos h]
theorem linesR_of {s : L8} (h : ¬ 32768 < s.length) : linesR s = outLines (scan [] [] [] s) := by rw [linesR, if_neg h]
/-- The text of lines. -/
def lineT (ws : List L8) : L8 := Lib.join ws [32] ++ [10]
def textL (l : List (List L8)) : L8 := (l.map lineT).flatten
theorem textL_nil : textL [] = [] := rfl
theorem textL_cons (a : List L8) (l : List (List L8)) : textL (a :: l) = lineT a ++ textL l := rfl
theorem textL_snoc (l : List (List L8)) (a : List L8) : textL (l ++ [a]) = textL l ++ lineT a := by simp [textL]
def joinR (l : List (List L8)) : L8 × Int := if l.all isL then (if 32768 < (textL l).length then ([], 2) else (textL l, 0)) else ([], 1)
theorem isW_mem {w : L8} (h : isW w = true) : ∀ b ∈ w, 33 ≤ b.toNat ∧ b.toNat ≤ 126 := by
  simp only [isW, Bool.and_eq_true, List.all_eq_true, okB, decide_eq_true_eq] at h
  exact h.1
theorem isW_not {w : L8} (h : isW w = true) : (32 : UInt8) ∉ w ∧ (10 : UInt8) ∉ w := by
  constructor
  · intro hm; have := isW_mem h _ hm; revert this; decide
  · intro hm; have := isW_mem h _ hm; revert this; decide
theorem isW_len {w : L8} (h : isW w = true) : 1 ≤ w.length ∧ w.length ≤ 64 := by
  simp only [isW, Bool.and_eq_true, decide_eq_true_eq] at h
  exact h.2
theorem isL_all {l : List L8} (h : isL l = true) : ∀ w ∈ l, isW w = true := by
  simp only [isL, Bool.and_eq_true, List.all_eq_true, decide_eq_true_eq] at h
  exact h.1
theorem isL_pos {l : List L8} (h : isL l = true) : 0 < l.length := by
  simp only [isL, Bool.and_eq_true, decide_eq_true_eq] at h
  exact h.2
theorem cutA_join (c : UInt8) : ∀ (ws : List L8) (w : L8), c ∉ w → (∀ x ∈ ws, c ∉ x) → cutA c [] (w ++ Lib.joinTail [c] ws) = w :: ws
  | [], w, h, _ => by
    simp only [Lib.joinTail, List.map_nil, List.flatten_nil, List.append_nil]
    rw [cutA_none c w [] h]; simp
  | x :: ws, w, h, hs => by
    have e : Lib.joinTail [c] (x :: ws) = c :: (x ++ Lib.joinTail [c] ws) := by simp [Lib.joinTail]
    rw [e, cutA_sep c w [] _ h, cutA_join c ws x (hs x (by simp)) (fun y hy => hs y (by simp [hy]))]
    simp
theorem cutA_joined (c : UInt8) {ws : List L8} (h0 : 0 < ws.length) (h : ∀ x ∈ ws, c ∉ x) : cutA c [] (Lib.join ws [c]) = ws := by
  cases ws with
  | nil => simp at h0
  | cons w ws => rw [Lib.join_cons]; exact cutA_join c ws w (h w (by simp)) (fun x hx => h x (by simp [hx]))
theorem joinTail_not {b c : UInt8} (hc : b ≠ c) : ∀ (ws : List L8), (∀ x ∈ ws, b ∉ x) → b ∉ Lib.joinTail [c] ws := by
  intro ws h hm
  simp only [Lib.joinTail, List.mem_flatten, List.mem_map] at hm
  obtain ⟨l, ⟨x, hx, rfl⟩, hb⟩ := hm
  simp only [List.singleton_append, List.mem_cons] at hb
  rcases hb with hb | hb
  · exact hc hb
  · exact h x hx hb
theorem join_not {b c : UInt8} (hc : b ≠ c) (ws : List L8) (h : ∀ x ∈ ws, b ∉ x) : b ∉ Lib.join ws [c] := by
  cases ws with
  | nil => simp [Lib.join_nil]
  | cons w ws =>
    rw [Lib.join_cons, List.mem_append, not_or]
    exact ⟨h w (by simp), joinTail_not hc ws (fun x hx => h x (by simp [hx]))⟩
theorem scan_text : ∀ (l : List (List L8)) (out : List (List L8)), l.all isL = true → scan out [] [] (textL l) = .ok (out ++ l)
  | [], out, _ => by rw [textL_nil, scan_nil]; simp
  | a :: l, out, h => by
    simp only [List.all_cons, Bool.and_eq_true] at h
    have ha := isL_all h.1
    rw [textL_cons, lineT, List.append_assoc, List.singleton_append, scan_step out _ _ (join_not (by decide) a (fun x hx => (isW_not (ha x hx)).2)),
      cutA_joined 32 (isL_pos h.1) (fun x hx => (isW_not (ha x hx)).1), if_pos h.1, scan_text l _ h.2]
    simp
theorem cutA_glue (c : UInt8) : ∀ (s cur : L8), Lib.join (cutA c cur s) [c] = cur ++ s
  | [], cur => by simp [cutA, Lib.join_one]
  | b :: r, cur => by
    unfold cutA
    split
    · rename_i hb
      subst hb
      have h := cutA_glue b r []
      obtain ⟨y, ys, hy⟩ : ∃ y ys, cutA b [] r = y :: ys := by
        cases hc : cutA b [] r with
        | nil => have := cutA_pos b r []; rw [hc] at this; simp at this
        | cons y ys => exact ⟨y, ys, rfl⟩
      rw [hy] at h ⊢
      rw [Lib.join_cons] at h ⊢
      simp only [Lib.joinTail, List.map_cons, List.flatten_cons, List.singleton_append, List.nil_append] at h ⊢
      rw [← h]; simp
    · rw [cutA_glue c r]; simp
/-- A text that is accepted is the text of its lines. -/
theorem text_of_scan : ∀ (n : Nat) (s : L8) (out m : List (List L8)), s.length ≤ n → scan out [] [] s = .ok m → ∃ l, m = out ++ l ∧ textL l = s ∧ l.all isL = true
  | n, s, out, m, hn, h => by
    by_cases h10 : (10 : UInt8) ∈ s
    · obtain ⟨t, r, rfl, ht⟩ := List.eq_append_cons_of_mem h10
      rw [scan_step out t r ht] at h
      split at h
      · rename_i hl
        cases n with
        | zero => simp at hn
        | succ n =>
          obtain ⟨l, rfl, e, ha⟩ := text_of_scan n r _ m (by simp at hn; omega) h
          refine ⟨cutA 32 [] t :: l, by simp, ?_, by simp [hl, ha]⟩
          rw [textL_cons, lineT, cutA_glue, e]; simp
      · cases h
    · by_cases h0 : s = []
      · subst h0
        rw [scan_nil] at h
        injection h with h
        subst h
        exact ⟨[], by simp, rfl, rfl⟩
      · rw [scan_left out s h10 h0] at h
        cases h
end Go.Proofs.YtblcigddinmiaaaDoor
