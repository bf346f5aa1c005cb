/- Texts of the layers 5 to 7, merged. -/
import Derived.Test.YteafkginhejllaaGreatDoorF8
namespace Go.Proofs.YteafkginhejllaaGreatDoor
section

def kLayout : L8 := [108, 97, 121, 111, 117, 116]
def kSection : L8 := [115, 101, 99, 116, 105, 111, 110]
def kTrack : L8 := [116, 114, 97, 99, 107]
def kPoints : L8 := [112, 111, 105, 110, 116, 115]
def kCross : L8 := [99, 114, 111, 115, 115]
def kJoint : L8 := [106, 111, 105, 110, 116]
def kSignal : L8 := [115, 105, 103, 110, 97, 108]
def kBalise : L8 := [98, 97, 108, 105, 115, 101]
def rankS (k : L8) : Int :=
  if k = kLayout then 0 else if k = kSection then 1 else if k = kTrack then 2 else if k = kPoints then 2 else if k = kCross then 2 else if k = kJoint then 3 else if k = kSignal then 4 else if k = kBalise then 5 else -1
def numB (w : L8) : Bool := decide ((intL w).2 = 0)
def placeF (n : L8) (i : Nat) : List L8 → Int
  | [] => -1
  | x :: r => if x = n then (i : Int) else placeF n (i + 1) r
def secAt (secs : List L8) (s : Int) : L8 := (secs[s.toNat]?).getD []
def nameAt (els : List ElD) (e : Int) : L8 := ((els[e.toNat]?).map ElD.name).getD []
/-! ### the lines of a layout -/
def elLine (secs : List L8) (x : ElD) : List L8 :=
  if x.kind = 2 then [kPoints, x.name, secAt secs x.sec, Lib.itoa x.length, Lib.itoa x.grade, Lib.itoa x.speed, Lib.itoa x.slow]
  else if x.kind = 3 then [kCross, x.name, secAt secs x.sec, Lib.itoa x.length, Lib.itoa x.grade, Lib.itoa x.speed]
  else [kTrack, x.name, secAt secs x.sec, Lib.itoa x.length, Lib.itoa x.grade, Lib.itoa x.speed]
def joLine (els : List ElD) (j : EndD × EndD) : List L8 := [kJoint, nameAt els j.1.1, Lib.itoa j.1.2, nameAt els j.2.1, Lib.itoa j.2.2]
def sgLine (els : List ElD) (s : SigD) : List L8 := [kSignal, s.name, nameAt els s.at_.1, Lib.itoa s.at_.2, Lib.itoa s.overlap]
def blLine (els : List ElD) (b : BalD) : List L8 := [kBalise, Lib.itoa b.id, nameAt els b.el, Lib.itoa b.off]
def linesOf (L : LayD) : List (List L8) :=
  [kLayout, L.name] :: (L.secs.map (fun s => [kSection, s]) ++ (L.els.map (elLine L.secs) ++ (L.joints.map (joLine L.els) ++ (L.sigs.map (sgLine L.els) ++ L.bals.map (blLine L.els)))))
def printS (L : LayD) : L8 × Int := if checkS isName L = 0 then joinR (linesOf L) else ([], checkS isName L)
/-! ### what a text says -/
def zeroL : LayD := ⟨[], [], [], [], [], []⟩
def elS (L : LayD) (x : ElD) : LayD := { L with els := L.els ++ [x] }
/-- What a line adds to a layout: its error, the layout. -/
def lineS (L : LayD) : List L8 → Int × LayD
  | [k, a] => if k = kLayout then (0, { L with name := a }) else if k = kSection then (0, { L with secs := L.secs ++ [a] }) else (4, L)
  | [k, a, s, x, y, z] =>
    if k = kTrack ∨ k = kCross then
      (if (numB x && (numB y && numB z)) = true then (if placeF s 0 L.secs < 0 then (9, L) else (0, elS L ⟨a, if k = kTrack then 1 else 3, (intL x).1, (intL y).1, (intL z).1, 0, placeF s 0 L.secs⟩)) else (4, L))
    else (4, L)
  | [k, a, s, x, y, z, t] =>
    if k = kPoints then
      (if (numB x && (numB y && (numB z && numB t))) = true then (if placeF s 0 L.secs < 0 then (9, L) else (0, elS L ⟨a, 2, (intL x).1, (intL y).1, (intL z).1, (intL t).1, placeF s 0 L.secs⟩)) else (4, L))
    else (4, L)
  | [k, a, b, c, d] =>
    if k = kJoint then
      (if (numB b && numB d) = true then (if nameF a 0 L.els < 0 ∨ nameF c 0 L.els < 0 then (9, L) else (0, { L with joints := L.joints ++ [((nameF a 0 L.els, (intL b).1), (nameF c 0 L.els, (intL d).1))] })) else (4, L))
    else if k = kSignal then
      (if (numB c && numB d) = true then (if nameF b 0 L.els < 0 then (9, L) else (0, { L with sigs := L.sigs ++ [⟨a, (nameF b 0 L.els, (intL c).1), (intL d).1⟩] })) else (4, L))
    else (4, L)
  | [k, a, b, c] =>
    if k = kBalise then
      (if (numB a && numB c) = true then (if nameF b 0 L.els < 0 then (9, L) else (0, { L with bals := L.bals ++ [⟨(intL a).1, nameF b 0 L.els, (intL c).1⟩] })) else (4, L))
    else (4, L)
  | _ => (4, L)
/-- Where a text stands: how many lines have come, the last one's place, the layout. -/
structure StD where
  i : Nat
  last : Int
  lay : LayD
def hd (ws : List L8) : L8 := ws.headD []
def stepS (st : StD) (ws : List L8) : (Nat × Int) ⊕ StD :=
  if (decide (rankS (hd ws) = 0) != decide (st.i = 0)) = true ∨ rankS (hd ws) < st.last then .inl (st.i + 1, 4)
  else if (lineS st.lay ws).1 = 0 then .inr ⟨st.i + 1, rankS (hd ws), (lineS st.lay ws).2⟩ else .inl (st.i + 1, (lineS st.lay ws).1)
def runS (st : StD) : List (List L8) → (Nat × Int) ⊕ StD
  | [] => .inr st
  | ws :: r => match stepS st ws with
    | .inl e => .inl e
    | .inr st' => runS st' r
def start : StD := ⟨0, 0, zeroL⟩
def parseL (m : List (List L8)) : LayD × Int × Int :=
  if m = [] then (zeroL, 1, 4) else match runS start m with
    | .inl e => (zeroL, e.1, e.2)
    | .inr st => if checkS isName st.lay = 0 then (st.lay, 0, 0) else (zeroL, 0, checkS isName st.lay)
def parseS (s : L8) : LayD × Int × Int := if (linesR s).2.2 = 0 then parseL (linesR s).1 else (zeroL, (linesR s).2.1, (linesR s).2.2)
theorem run_app : ∀ (a b : List (List L8)) (st : StD), runS st (a ++ b) = match runS st a with
    | .inl e => .inl e
    | .inr st' => runS st' b
  | [], b, st => rfl
  | ws :: r, b, st => by
    simp only [List.cons_append, runS]
    cases stepS st ws with
    | inl e => rfl
    | inr st' => exact run_app r b st'
theorem step_inr {st st' : StD} {ws : List L8} (h : stepS st ws = .inr st') : (rankS (hd ws) = 0 ↔ st.i = 0) ∧ st.last ≤ rankS (hd ws) ∧ (lineS st.lay ws).1 = 0 ∧ st' = ⟨st.i + 1, rankS (hd ws), (lineS st.lay ws).2⟩ := by
  unfold stepS at h
  by_cases h1 : (decide (rankS (hd ws) = 0) != decide (st.i = 0)) = true ∨ rankS (hd ws) < st.last
  · rw [if_pos h1] at h; cases h
  · rw [if_neg h1] at h
    by_cases h2 : (lineS st.lay ws).1 = 0
    · rw [if_pos h2] at h
      injection h with h
      rw [not_or] at h1
      refine ⟨?_, by omega, h2, h.symm⟩
      have := h1.1
      by_cases a : rankS (hd ws) = 0 <;> by_cases b : st.i = 0 <;> simp [a, b] at this ⊢
    · rw [if_neg h2] at h; cases h
theorem step_mk {st : StD} {ws : List L8} (h1 : rankS (hd ws) = 0 ↔ st.i = 0) (h2 : st.last ≤ rankS (hd ws)) (h3 : (lineS st.lay ws).1 = 0) : stepS st ws = .inr ⟨st.i + 1, rankS (hd ws), (lineS st.lay ws).2⟩ := by
  unfold stepS
  rw [if_neg, if_pos h3]
  rw [not_or]
  refine ⟨?_, by omega⟩
  by_cases b : st.i = 0
  · simp [h1.2 b, b]
  · have a : rankS (hd ws) ≠ 0 := fun a => b (h1.1 a)
    simp [a, b]
theorem step_inl {st : StD} {ws : List L8} {e : Nat × Int} (h : stepS st ws = .inl e) : e.1 = st.i + 1 ∧ e.2 ≠ 0 := by
  unfold stepS at h
  split at h
  · injection h with h; subst h; exact ⟨rfl, by show (4 : Int) ≠ 0; decide⟩
  · split at h
    · cases h
    · rename_i h2
      injection h with h; subst h; exact ⟨rfl, h2⟩
theorem run_i : ∀ (m : List (List L8)) (st st' : StD), runS st m = .inr st' → st'.i = st.i + m.length
  | [], st, st', h => by simp [runS] at h; subst h; simp
  | ws :: r, st, st', h => by
    simp only [runS] at h
    cases hs : stepS st ws with
    | inl e => rw [hs] at h; cases h
    | inr s1 =>
      rw [hs] at h
      have := run_i r s1 st' h
      rw [(step_inr hs).2.2.2] at this
      simp at this ⊢
      omega
theorem run_err : ∀ (m : List (List L8)) (st : StD) (e : Nat × Int), runS st m = .inl e → e.2 ≠ 0 ∧ ∃ a ws b s1, m = a ++ ws :: b ∧ runS st a = .inr s1 ∧ stepS s1 ws = .inl e ∧ e.1 = st.i + a.length + 1
  | [], st, e, h => by simp [runS] at h
  | ws :: r, st, e, h => by
    simp only [runS] at h
    cases hs : stepS st ws with
    | inl e' =>
      rw [hs] at h
      injection h with h
      subst h
      have := step_inl hs
      exact ⟨this.2, [], ws, r, st, rfl, rfl, hs, by simp [this.1]⟩
    | inr s1 =>
      rw [hs] at h
      obtain ⟨h1, a, w2, b, s2, h2, h3, h4, h5⟩ := run_err r s1 e h
      refine ⟨h1, ws :: a, w2, b, s2, by rw [h2]; rfl, by simp only [runS, hs]; exact h3, h4, ?_⟩
      rw [(step_inr hs).2.2.2] at h5
      simp at h5 ⊢
      omega
/-! ### places -/
theorem place_at : ∀ (l : List L8) (i k : Nat) (s : L8), l.Nodup → l[k]? = some s → placeF s i l = ((i + k : Nat) : Int)
  | [], i, k, s, _, h => by simp at h
  | y :: r, i, 0, s, _, h => by
    simp at h; subst h
    rw [placeF, if_pos rfl]; simp
  | y :: r, i, k + 1, s, hd, h => by
    simp only [List.nodup_cons] at hd
    have hr : r[k]? = some s := by simpa using h
    have hne : y ≠ s := fun e => hd.1 (by rw [e]; exact List.mem_of_getElem? hr)
    rw [placeF, if_neg hne, place_at r (i + 1) k s hd.2 hr]
    congr 1; omega
theorem place_back : ∀ (l : List L8) (i : Nat) (s : L8), 0 ≤ placeF s i l → ∃ k : Nat, placeF s i l = ((i + k : Nat) : Int) ∧ l[k]? = some s
  | [], i, s, h => by simp [placeF] at h
  | y :: r, i, s, h => by
    unfold placeF at h ⊢
    by_cases e : y = s
    · exact ⟨0, by simp [e], by simp [e]⟩
    · rw [if_neg e] at h ⊢
      obtain ⟨k, h1, h2⟩ := place_back r (i + 1) s h
      exact ⟨k + 1, by rw [h1]; congr 1; omega, by simpa using h2⟩
theorem name_back : ∀ (l : List ElD) (i : Nat) (s : L8), 0 ≤ nameF s i l → ∃ (k : Nat) (x : ElD), nameF s i l = ((i + k : Nat) : Int) ∧ l[k]? = some x ∧ x.name = s
  | [], i, s, h => by simp [nameF] at h
  | y :: r, i, s, h => by
    unfold nameF at h ⊢
    by_cases e : y.name = s
    · exact ⟨0, y, by simp [e], by simp, e⟩
    · rw [if_neg e] at h ⊢
      obtain ⟨k, x, h1, h2, h3⟩ := name_back r (i + 1) s h
      exact ⟨k + 1, x, by rw [h1]; congr 1; omega, by simpa using h2, h3⟩
theorem secAt_back {l : List L8} {s : L8} (h : ¬ placeF s 0 l < 0) : secAt l (placeF s 0 l) = s := by
  obtain ⟨k, h1, h2⟩ := place_back l 0 s (by omega)
  rw [h1]; simp [secAt, h2]
theorem nameAt_back {l : List ElD} {s : L8} (h : ¬ nameF s 0 l < 0) : nameAt l (nameF s 0 l) = s := by
  obtain ⟨k, x, h1, h2, h3⟩ := name_back l 0 s (by omega)
  rw [h1]; simp [nameAt, h2, h3]
theorem itoa_num {w : L8} (h : numB w = true) : Lib.itoa (intL w).1 = w := itoa_intL (by simpa [numB] using h)
theorem num_itoa {n : Int} (h : -9223372036854775808 ≤ n ∧ n ≤ 9223372036854775807) : numB (Lib.itoa n) = true ∧ (intL (Lib.itoa n)).1 = n := by
  rw [numB, intL_itoa h]; simp
/-! ### a text gives the lines back -/
def Ord (k : Int) (L : LayD) : Prop := (k < 1 → L.secs = []) ∧ (k < 2 → L.els = []) ∧ (k < 3 → L.joints = []) ∧ (k < 4 → L.sigs = []) ∧ (k < 5 → L.bals = [])
theorem rk_layout : rankS kLayout = 0 := by decide
theorem rk_section : rankS kSection = 1 := by decide
theorem rk_track : rankS kTrack = 2 := by decide
theorem rk_points : rankS kPoints = 2 := by decide
theorem rk_cross : rankS kCross = 2 := by decide
theorem rk_joint : rankS kJoint = 3 := by decide
theorem rk_signal : rankS kSignal = 4 := by decide
theorem rk_balise : rankS kBalise = 5 := by decide
theorem line_back {L : LayD} {ws : List L8} (hk : Ord (rankS (hd ws)) L) (h : (lineS L ws).1 = 0) (h0 : rankS (hd ws) ≠ 0) : linesOf (lineS L ws).2 = linesOf L ++ [ws] ∧ Ord (rankS (hd ws)) (lineS L ws).2 := by
  rcases ws with _ | ⟨k, _ | ⟨a, _ | ⟨b, _ | ⟨c, _ | ⟨d, _ | ⟨e, _ | ⟨f, _ | ⟨g, r⟩⟩⟩⟩⟩⟩⟩⟩
  · simp [lineS] at h
  · simp [lineS] at h
  · simp only [hd, List.headD_cons] at hk h0 ⊢
    simp only [lineS] at h ⊢
    by_cases e1 : k = kLayout
    · rw [e1, rk_layout] at h0; exact absurd rfl h0
    · rw [if_neg e1] at h ⊢
      by_cases e2 : k = kSection
      · rw [if_pos e2] at h ⊢
        subst e2
        rw [rk_section] at hk ⊢
        obtain ⟨_, h2, h3, h4, h5⟩ := hk
        have h2 := h2 (by decide)
        have h3 := h3 (by decide)
        have h4 := h4 (by decide)
        have h5 := h5 (by decide)
        exact ⟨by simp [linesOf, h2, h3, h4, h5], by unfold Ord; simp [h2, h3, h4, h5]⟩
      · rw [if_neg e2] at h; simp at h
  · simp [lineS] at h
  · simp only [hd, List.headD_cons] at hk h0 ⊢
    simp only [lineS] at h ⊢
    by_cases e1 : k = kBalise
    · rw [if_pos e1] at h ⊢
      subst e1
      by_cases e2 : (numB a && numB c) = true
      · rw [if_pos e2] at h ⊢
        by_cases e3 : nameF b 0 L.els < 0
        · rw [if_pos e3] at h; simp at h
        · rw [if_neg e3]
          rw [Bool.and_eq_true] at e2
          refine ⟨?_, by unfold Ord; rw [rk_balise]; refine ⟨fun h => absurd h (by decide), fun h => absurd h (by decide), fun h => absurd h (by decide), fun h => absurd h (by decide), fun h => absurd h (by decide)⟩⟩
          simp [linesOf, blLine, itoa_num e2.1, itoa_num e2.2, nameAt_back e3]
      · rw [if_neg e2] at h; simp at h
    · rw [if_neg e1] at h; simp at h
  · simp only [hd, List.headD_cons] at hk h0 ⊢
    simp only [lineS] at h ⊢
    by_cases e1 : k = kJoint
    · rw [if_pos e1] at h ⊢
      subst e1
      by_cases e2 : (numB b && numB d) = true
      · rw [if_pos e2] at h ⊢
        by_cases e3 : nameF a 0 L.els < 0 ∨ nameF c 0 L.els < 0
        · rw [if_pos e3] at h; simp at h
        · rw [if_neg e3]
          rw [Bool.and_eq_true] at e2
          rw [not_or] at e3
          rw [rk_joint] at hk ⊢
          obtain ⟨_, _, _, h4, h5⟩ := hk
          have h4 := h4 (by decide)
          have h5 := h5 (by decide)
          exact ⟨by simp [linesOf, joLine, itoa_num e2.1, itoa_num e2.2, nameAt_back e3.1, nameAt_back e3.2, h4, h5], by unfold Ord; simp [h4, h5]⟩
      · rw [if_neg e2] at h; simp at h
    · rw [if_neg e1] at h ⊢
      by_cases e1 : k = kSignal
      · rw [if_pos e1] at h ⊢
        subst e1
        by_cases e2 : (numB c && numB d) = true
        · rw [if_pos e2] at h ⊢
          by_cases e3 : nameF b 0 L.els < 0
          · rw [if_pos e3] at h; simp at h
          · rw [if_neg e3]
            rw [Bool.and_eq_true] at e2
            rw [rk_signal] at hk ⊢
            obtain ⟨_, _, _, _, h5⟩ := hk
            have h5 := h5 (by decide)
            exact ⟨by simp [linesOf, sgLine, itoa_num e2.1, itoa_num e2.2, nameAt_back e3, h5], by unfold Ord; simp [h5]⟩
        · rw [if_neg e2] at h; simp at h
      · rw [if_neg e1] at h; simp at h
  · simp only [hd, List.headD_cons] at hk h0 ⊢
    simp only [lineS] at h ⊢
    by_cases e1 : k = kTrack ∨ k = kCross
    · rw [if_pos e1] at h ⊢
      by_cases e2 : (numB c && (numB d && numB e)) = true
      · rw [if_pos e2] at h ⊢
        by_cases e3 : placeF b 0 L.secs < 0
        · rw [if_pos e3] at h; simp at h
        · rw [if_neg e3]
          simp only [Bool.and_eq_true] at e2
          have hr : rankS k = 2 := by rcases e1 with rfl | rfl; exact rk_track; exact rk_cross
          rw [hr] at hk ⊢
          obtain ⟨_, _, h3, h4, h5⟩ := hk
          have h3 := h3 (by decide)
          have h4 := h4 (by decide)
          have h5 := h5 (by decide)
          refine ⟨?_, by unfold Ord elS; simp [h3, h4, h5]⟩
          rcases e1 with rfl | rfl
          · simp [linesOf, elS, elLine, itoa_num e2.1, itoa_num e2.2.1, itoa_num e2.2.2, secAt_back e3, h3, h4, h5]
          · have hne : kCross ≠ kTrack := by decide
            simp [linesOf, elS, elLine, itoa_num e2.1, itoa_num e2.2.1, itoa_num e2.2.2, secAt_back e3, h3, h4, h5, hne]
      · rw [if_neg e2] at h; simp at h
    · rw [if_neg e1] at h; simp at h
  · simp only [hd, List.headD_cons] at hk h0 ⊢
    simp only [lineS] at h ⊢
    by_cases e1 : k = kPoints
    · rw [if_pos e1] at h ⊢
      subst e1
      by_cases e2 : (numB c && (numB d && (numB e && numB f))) = true
      · rw [if_pos e2] at h ⊢
        by_cases e3 : placeF b 0 L.secs < 0
        · rw [if_pos e3] at h; simp at h
        · rw [if_neg e3]
          simp only [Bool.and_eq_true] at e2
          rw [rk_points] at hk ⊢
          obtain ⟨_, _, h3, h4, h5⟩ := hk
          have h3 := h3 (by decide)
          have h4 := h4 (by decide)
          have h5 := h5 (by decide)
          refine ⟨?_, by unfold Ord elS; simp [h3, h4, h5]⟩
          simp [linesOf, elS, elLine, itoa_num e2.1, itoa_num e2.2.1, itoa_num e2.2.2.1, itoa_num e2.2.2.2, secAt_back e3, h3, h4, h5]
      · rw [if_neg e2] at h; simp at h
    · rw [if_neg e1] at h; simp at h
  · simp [lineS] at h
theorem ord_up {k k' : Int} {L : LayD} (h : Ord k L) (hk : k ≤ k') : Ord k' L :=
  ⟨fun h1 => h.1 (by omega), fun h1 => h.2.1 (by omega), fun h1 => h.2.2.1 (by omega), fun h1 => h.2.2.2.1 (by omega), fun h1 => h.2.2.2.2 (by omega)⟩
theorem run_back : ∀ (m : List (List L8)) (st st' : StD), 1 ≤ st.i → Ord st.last st.lay → runS st m = .inr st' → linesOf st'.lay = linesOf st.lay ++ m
  | [], st, st', _, _, h => by simp [runS] at h; subst h; simp
  | ws :: r, st, st', hi, ho, h => by
    simp only [runS] at h
    cases hs : stepS st ws with
    | inl e => rw [hs] at h; cases h
    | inr s1 =>
      rw [hs] at h
      obtain ⟨h1, h2, h3, h4⟩ := step_inr hs
      obtain ⟨b1, b2⟩ := line_back (ord_up ho h2) h3 (fun h0 => by have := h1.1 h0; omega)
      have ih := run_back r s1 st' (by rw [h4]; simp) (by rw [h4]; exact b2) h
      rw [ih, h4]
      simp [b1]
theorem rank_zero {k : L8} (h : rankS k = 0) : k = kLayout := by
  unfold rankS at h
  by_cases e : k = kLayout
  · exact e
  · rw [if_neg e] at h
    repeat' split at h
    all_goals omega
theorem line_first {L : LayD} {ws : List L8} (h : (lineS L ws).1 = 0) (h0 : hd ws = kLayout) : ∃ a, ws = [kLayout, a] := by
  have n1 : kLayout ≠ kBalise := by decide
  have n2 : kLayout ≠ kJoint := by decide
  have n3 : kLayout ≠ kSignal := by decide
  have n4 : ¬ (kLayout = kTrack ∨ kLayout = kCross) := by decide
  have n5 : kLayout ≠ kPoints := by decide
  rcases ws with _ | ⟨k, _ | ⟨a, _ | ⟨b, _ | ⟨c, _ | ⟨d, _ | ⟨e, _ | ⟨f, _ | ⟨g, r⟩⟩⟩⟩⟩⟩⟩⟩
  · simp [lineS] at h
  · simp [lineS] at h
  · simp only [hd, List.headD_cons] at h0
    exact ⟨a, by rw [h0]⟩
  · simp [lineS] at h
  · simp only [hd, List.headD_cons] at h0; subst h0; simp only [lineS, if_neg n1] at h; simp at h
  · simp only [hd, List.headD_cons] at h0; subst h0; simp only [lineS, if_neg n2, if_neg n3] at h; simp at h
  · simp only [hd, List.headD_cons] at h0; subst h0; simp only [lineS, if_neg n4] at h; simp at h
  · simp only [hd, List.headD_cons] at h0; subst h0; simp only [lineS, if_neg n5] at h; simp at h
  · simp [lineS] at h
/-- WHAT IS READ IS WHAT IS WRITTEN. -/
theorem lines_back {m : List (List L8)} {st : StD} (h : runS start m = .inr st) (hm : m ≠ []) : linesOf st.lay = m := by
  cases m with
  | nil => exact absurd rfl hm
  | cons ws r =>
    simp only [runS] at h
    cases hs : stepS start ws with
    | inl e => rw [hs] at h; cases h
    | inr s1 =>
      rw [hs] at h
      obtain ⟨h1, h2, h3, h4⟩ := step_inr hs
      have hr : rankS (hd ws) = 0 := h1.2 rfl
      have hl : ∃ a, ws = [kLayout, a] := line_first h3 (rank_zero hr)
      obtain ⟨a, rfl⟩ := hl
      have := run_back r s1 st (by rw [h4]; simp [start]) (by rw [h4]; simp [Ord, start, zeroL, lineS]) h
      rw [this, h4]
      simp [start, zeroL, lineS, linesOf]
/-! ### what is written is read -/
def I64b (n : Int) : Prop := -9223372036854775808 ≤ n ∧ n ≤ 9223372036854775807
theorem run_cons {st : StD} {ws : List L8} {r : List (List L8)} (h1 : rankS (hd ws) = 0 ↔ st.i = 0) (h2 : st.last ≤ rankS (hd ws)) (h3 : (lineS st.lay ws).1 = 0) : runS st (ws :: r) = runS ⟨st.i + 1, rankS (hd ws), (lineS st.lay ws).2⟩ r := by
  simp only [runS, step_mk h1 h2 h3]
theorem run_secs : ∀ (ss : List L8) (st : StD), 1 ≤ st.i → 0 ≤ st.last → st.last ≤ 1 → ∃ i k, 1 ≤ i ∧ 0 ≤ k ∧ k ≤ 1 ∧ runS st (ss.map fun s => [kSection, s]) = .inr ⟨i, k, { st.lay with secs := st.lay.secs ++ ss }⟩
  | [], st, h1, h2, h3 => ⟨st.i, st.last, h1, h2, h3, by simp [runS]⟩
  | s :: r, st, h1, h2, h3 => by
    have n1 : kSection ≠ kLayout := by decide
    have hl : lineS st.lay [kSection, s] = (0, { st.lay with secs := st.lay.secs ++ [s] }) := by simp [lineS, n1]
    rw [List.map_cons, run_cons (by simp only [hd, List.headD_cons, rk_section]; omega) (by simp only [hd, List.headD_cons, rk_section]; omega) (by rw [hl])]
    obtain ⟨i, k, a1, a2, a3, a4⟩ := run_secs r ⟨st.i + 1, rankS (hd [kSection, s]), (lineS st.lay [kSection, s]).2⟩ (by simp) (by simp only [hd, List.headD_cons, rk_section]; decide) (by simp only [hd, List.headD_cons, rk_section]; decide)
    refine ⟨i, k, a1, a2, a3, ?_⟩
    rw [a4, hl]
    simp
/-- What an element must be, to be written and read. -/
def OkEl (secs : List L8) (x : ElD) : Prop := (x.kind = 1 ∨ x.kind = 2 ∨ x.kind = 3) ∧ (x.kind ≠ 2 → x.slow = 0) ∧ I64b x.length ∧ I64b x.grade ∧ I64b x.speed ∧ I64b x.slow ∧ 0 ≤ x.sec ∧ x.sec < secs.length
theorem el_line {L : LayD} {x : ElD} (h : OkEl L.secs x) (hd' : L.secs.Nodup) : lineS L (elLine L.secs x) = (0, elS L x) ∧ rankS (hd (elLine L.secs x)) = 2 := by
  obtain ⟨hk, hs, b1, b2, b3, b4, s0, s1⟩ := h
  obtain ⟨nm, kd, ln, gr, sp, sl, sc⟩ := x
  simp only at hk hs b1 b2 b3 b4 s0 s1
  obtain ⟨k, rfl⟩ : ∃ k : Nat, sc = k := ⟨sc.toNat, by omega⟩
  have hkl : k < L.secs.length := by omega
  have hget : L.secs[k]? = some L.secs[k] := by simp [hkl]
  have hsec : secAt L.secs (k : Int) = L.secs[k] := by simp [secAt, hget]
  have hpl := place_at L.secs 0 k _ hd' hget
  rw [Nat.zero_add] at hpl
  have hn : ¬ ((k : Int) < 0) := by omega
  obtain ⟨p1, q1⟩ := num_itoa b1
  obtain ⟨p2, q2⟩ := num_itoa b2
  obtain ⟨p3, q3⟩ := num_itoa b3
  obtain ⟨p4, q4⟩ := num_itoa b4
  rcases hk with rfl | rfl | rfl
  · have hs := hs (by decide)
    subst hs
    have n2 : ¬ ((1 : Int) = 2) := by decide
    have n3 : ¬ ((1 : Int) = 3) := by decide
    exact ⟨by simp [elLine, n2, n3, lineS, hsec, hpl, hn, p1, p2, p3, q1, q2, q3, elS], by simp only [elLine, if_neg n2, if_neg n3, hd, List.headD_cons]; exact rk_track⟩
  · exact ⟨by simp [elLine, lineS, hsec, hpl, hn, p1, p2, p3, p4, q1, q2, q3, q4, elS], by simp only [elLine, if_pos, hd, List.headD_cons]; exact rk_points⟩
  · have hs := hs (by decide)
    subst hs
    have n2 : ¬ ((3 : Int) = 2) := by decide
    have n4 : kCross ≠ kTrack := by decide
    exact ⟨by simp [elLine, n2, n4, lineS, hsec, hpl, hn, p1, p2, p3, q1, q2, q3, elS], by simp only [elLine, if_neg n2, if_pos, hd, List.headD_cons]; exact rk_cross⟩
theorem run_els : ∀ (xs : List ElD) (st : StD), 1 ≤ st.i → st.last ≤ 2 → st.lay.secs.Nodup → (∀ x ∈ xs, OkEl st.lay.secs x) → ∃ i k, 1 ≤ i ∧ k ≤ 2 ∧ runS st (xs.map (elLine st.lay.secs)) = .inr ⟨i, k, { st.lay with els := st.lay.els ++ xs }⟩
  | [], st, h1, h2, _, _ => ⟨st.i, st.last, h1, h2, by simp [runS]⟩
  | x :: r, st, h1, h2, hn, hx => by
    obtain ⟨e1, e2⟩ := el_line (hx x (by simp)) hn
    rw [List.map_cons, run_cons (by rw [e2]; omega) (by rw [e2]; exact h2) (by rw [e1])]
    have hsec : (lineS st.lay (elLine st.lay.secs x)).2.secs = st.lay.secs := by rw [e1]; rfl
    obtain ⟨i, k, a1, a2, a3⟩ := run_els r ⟨st.i + 1, rankS (hd (elLine st.lay.secs x)), (lineS st.lay (elLine st.lay.secs x)).2⟩ (by simp) (by simp only [e2]; decide) (by simp only [hsec]; exact hn) (fun y hy => by simp only [hsec]; exact hx y (by simp [hy]))
    refine ⟨i, k, a1, a2, ?_⟩
    simp only [hsec] at a3
    rw [a3, e1]
    simp [elS]
/-- An element's index, to be written as a name and read. -/
def OkIx (els : List ElD) (e : Int) : Prop := 0 ≤ e ∧ e < els.length
theorem ix_name {els : List ElD} {e : Int} (h : OkIx els e) (hn : (els.map ElD.name).Nodup) : nameF (nameAt els e) 0 els = e ∧ ¬ e < 0 := by
  obtain ⟨h0, h1⟩ := h
  obtain ⟨k, rfl⟩ : ∃ k : Nat, e = k := ⟨e.toNat, by omega⟩
  have hk : k < els.length := by omega
  have hget : els[k]? = some els[k] := by simp [hk]
  have hna : nameAt els (k : Int) = els[k].name := by simp [nameAt, hget]
  have := nameF_at els 0 k _ hn hget
  rw [Nat.zero_add] at this
  rw [hna, this]
  exact ⟨rfl, by omega⟩
def OkJo (els : List ElD) (j : EndD × EndD) : Prop := OkIx els j.1.1 ∧ OkIx els j.2.1 ∧ I64b j.1.2 ∧ I64b j.2.2
def OkSg (els : List ElD) (s : SigD) : Prop := OkIx els s.at_.1 ∧ I64b s.at_.2 ∧ I64b s.overlap
def OkBl (els : List ElD) (b : BalD) : Prop := OkIx els b.el ∧ I64b b.id ∧ I64b b.off
theorem jo_line {L : LayD} {j : EndD × EndD} (h : OkJo L.els j) (hn : (L.els.map ElD.name).Nodup) : lineS L (joLine L.els j) = (0, { L with joints := L.joints ++ [j] }) := by
  obtain ⟨h1, h2, b1, b2⟩ := h
  obtain ⟨m1, m2⟩ := ix_name h1 hn
  obtain ⟨m3, m4⟩ := ix_name h2 hn
  obtain ⟨p1, q1⟩ := num_itoa b1
  obtain ⟨p2, q2⟩ := num_itoa b2
  have hne : ¬ (j.1.1 < 0 ∨ j.2.1 < 0) := by rw [not_or]; exact ⟨m2, m4⟩
  rw [joLine]
  simp only [lineS, if_pos, p1, p2, Bool.and_self, q1, q2, m1, m3, if_neg hne]
theorem sg_line {L : LayD} {s : SigD} (h : OkSg L.els s) (hn : (L.els.map ElD.name).Nodup) : lineS L (sgLine L.els s) = (0, { L with sigs := L.sigs ++ [s] }) := by
  obtain ⟨h1, b1, b2⟩ := h
  obtain ⟨m1, m2⟩ := ix_name h1 hn
  obtain ⟨p1, q1⟩ := num_itoa b1
  obtain ⟨p2, q2⟩ := num_itoa b2
  have n1 : kSignal ≠ kJoint := by decide
  rw [sgLine]
  simp only [lineS, if_neg n1, if_pos, p1, p2, Bool.and_self, if_neg m2, q1, q2, m1]
theorem bl_line {L : LayD} {b : BalD} (h : OkBl L.els b) (hn : (L.els.map ElD.name).Nodup) : lineS L (blLine L.els b) = (0, { L with bals := L.bals ++ [b] }) := by
  obtain ⟨h1, b1, b2⟩ := h
  obtain ⟨m1, m2⟩ := ix_name h1 hn
  obtain ⟨p1, q1⟩ := num_itoa b1
  obtain ⟨p2, q2⟩ := num_itoa b2
  rw [blLine]
  simp only [lineS, if_pos, p1, p2, Bool.and_self, if_neg m2, q1, q2, m1]
theorem run_jo : ∀ (xs : List (EndD × EndD)) (st : StD), 1 ≤ st.i → st.last ≤ 3 → (st.lay.els.map ElD.name).Nodup → (∀ x ∈ xs, OkJo st.lay.els x) → ∃ i k, 1 ≤ i ∧ k ≤ 3 ∧ runS st (xs.map (joLine st.lay.els)) = .inr ⟨i, k, { st.lay with joints := st.lay.joints ++ xs }⟩
  | [], st, h1, h2, _, _ => ⟨st.i, st.last, h1, h2, by simp [runS]⟩
  | x :: r, st, h1, h2, hn, hx => by
    have e1 := jo_line (hx x (by simp)) hn
    have e2 : rankS (hd (joLine st.lay.els x)) = 3 := rk_joint
    rw [List.map_cons, run_cons (by rw [e2]; omega) (by rw [e2]; exact h2) (by rw [e1])]
    have hels : (lineS st.lay (joLine st.lay.els x)).2.els = st.lay.els := by rw [e1]
    obtain ⟨i, k, a1, a2, a3⟩ := run_jo r ⟨st.i + 1, rankS (hd (joLine st.lay.els x)), (lineS st.lay (joLine st.lay.els x)).2⟩ (by simp) (by simp only [e2]; decide) (by simp only [hels]; exact hn) (fun y hy => by simp only [hels]; exact hx y (by simp [hy]))
    refine ⟨i, k, a1, a2, ?_⟩
    simp only [hels] at a3
    rw [a3, e1]
    simp
theorem run_sg : ∀ (xs : List (SigD)) (st : StD), 1 ≤ st.i → st.last ≤ 4 → (st.lay.els.map ElD.name).Nodup → (∀ x ∈ xs, OkSg st.lay.els x) → ∃ i k, 1 ≤ i ∧ k ≤ 4 ∧ runS st (xs.map (sgLine st.lay.els)) = .inr ⟨i, k, { st.lay with sigs := st.lay.sigs ++ xs }⟩
  | [], st, h1, h2, _, _ => ⟨st.i, st.last, h1, h2, by simp [runS]⟩
  | x :: r, st, h1, h2, hn, hx => by
    have e1 := sg_line (hx x (by simp)) hn
    have e2 : rankS (hd (sgLine st.lay.els x)) = 4 := rk_signal
    rw [List.map_cons, run_cons (by rw [e2]; omega) (by rw [e2]; exact h2) (by rw [e1])]
    have hels : (lineS st.lay (sgLine st.lay.els x)).2.els = st.lay.els := by rw [e1]
    obtain ⟨i, k, a1, a2, a3⟩ := run_sg r ⟨st.i + 1, rankS (hd (sgLine st.lay.els x)), (lineS st.lay (sgLine st.lay.els x)).2⟩ (by simp) (by simp only [e2]; decide) (by simp only [hels]; exact hn) (fun y hy => by simp only [hels]; exact hx y (by simp [hy]))
    refine ⟨i, k, a1, a2, ?_⟩
    simp only [hels] at a3
    rw [a3, e1]
    simp
theorem run_bl : ∀ (xs : List (BalD)) (st : StD), 1 ≤ st.i → st.last ≤ 5 → (st.lay.els.map ElD.name).Nodup → (∀ x ∈ xs, OkBl st.lay.els x) → ∃ i k, 1 ≤ i ∧ k ≤ 5 ∧ runS st (xs.map (blLine st.lay.els)) = .inr ⟨i, k, { st.lay with bals := st.lay.bals ++ xs }⟩
  | [], st, h1, h2, _, _ => ⟨st.i, st.last, h1, h2, by simp [runS]⟩
  | x :: r, st, h1, h2, hn, hx => by
    have e1 := bl_line (hx x (by simp)) hn
    have e2 : rankS (hd (blLine st.lay.els x)) = 5 := rk_balise
    rw [List.map_cons, run_cons (by rw [e2]; omega) (by rw [e2]; exact h2) (by rw [e1])]
    have hels : (lineS st.lay (blLine st.lay.els x)).2.els = st.lay.els := by rw [e1]
    obtain ⟨i, k, a1, a2, a3⟩ := run_bl r ⟨st.i + 1, rankS (hd (blLine st.lay.els x)), (lineS st.lay (blLine st.lay.els x)).2⟩ (by simp) (by simp only [e2]; decide) (by simp only [hels]; exact hn) (fun y hy => by simp only [hels]; exact hx y (by simp [hy]))
    refine ⟨i, k, a1, a2, ?_⟩
    simp only [hels] at a3
    rw [a3, e1]
    simp
/-- What a layout must be, to be written and read. -/
structure OkLay (L : LayD) : Prop where
  secs : L.secs.Nodup
  names : (L.els.map ElD.name).Nodup
  els : ∀ x ∈ L.els, OkEl L.secs x
  joints : ∀ x ∈ L.joints, OkJo L.els x
  sigs : ∀ x ∈ L.sigs, OkSg L.els x
  bals : ∀ x ∈ L.bals, OkBl L.els x
/-- WHAT IS WRITTEN IS READ. -/
theorem lines_run {L : LayD} (h : OkLay L) : ∃ i k, runS start (linesOf L) = .inr ⟨i, k, L⟩ := by
  unfold linesOf
  have hl : lineS zeroL [kLayout, L.name] = (0, { zeroL with name := L.name }) := by simp [lineS]
  rw [run_cons (by simp only [hd, List.headD_cons, rk_layout]; exact ⟨fun _ => rfl, fun _ => trivial⟩) (by simp only [hd, List.headD_cons, rk_layout]; exact Int.le_refl _) (by show (lineS zeroL [kLayout, L.name]).1 = 0; rw [hl])]
  rw [run_app]
  obtain ⟨i1, k1, a1, b1, c1, d1⟩ := run_secs L.secs ⟨start.i + 1, rankS (hd [kLayout, L.name]), (lineS start.lay [kLayout, L.name]).2⟩ (by simp) (by simp only [hd, List.headD_cons, rk_layout]; decide) (by simp only [hd, List.headD_cons, rk_layout]; decide)
  rw [d1]
  have hs : (lineS start.lay [kLayout, L.name]).2 = { zeroL with name := L.name } := by show (lineS zeroL [kLayout, L.name]).2 = _; rw [hl]
  simp only [hs]
  have e0 : ({ zeroL with name := L.name, secs := zeroL.secs ++ L.secs } : LayD) = ⟨L.name, L.secs, [], [], [], []⟩ := by simp [zeroL]
  rw [e0, run_app]
  obtain ⟨i2, k2, a2, b2, c2⟩ := run_els L.els ⟨i1, k1, ⟨L.name, L.secs, [], [], [], []⟩⟩ a1 (by simp only; omega) h.secs h.els
  rw [c2]
  simp only [List.nil_append]
  rw [run_app]
  obtain ⟨i3, k3, a3, b3, c3⟩ := run_jo L.joints ⟨i2, k2, ⟨L.name, L.secs, L.els, [], [], []⟩⟩ a2 (by simp only; omega) h.names h.joints
  rw [c3]
  simp only [List.nil_append]
  rw [run_app]
  obtain ⟨i4, k4, a4, b4, c4⟩ := run_sg L.sigs ⟨i3, k3, ⟨L.name, L.secs, L.els, L.joints, [], []⟩⟩ a3 (by simp only; omega) h.names h.sigs
  rw [c4]
  simp only [List.nil_append]
  obtain ⟨i5, k5, a5, b5, c5⟩ := run_bl L.bals ⟨i4, k4, ⟨L.name, L.secs, L.els, L.joints, L.sigs, []⟩⟩ a4 (by simp only; omega) h.names h.bals
  exact ⟨i5, k5, by rw [c5]; simp⟩
/-- A valid layout is one. -/
theorem ok_valid {L : LayD} (V : Valid isName L) : OkLay L := by
  have hd := V.dup
  unfold dupB at hd
  simp only [Bool.and_eq_true, decide_eq_true_eq] at hd
  have hel := V.el
  unfold elB at hel
  rw [List.all_eq_true] at hel
  have hends : ∀ e, exS L.els e = true → OkIx L.els e.1 ∧ I64b e.2 := by
    intro e he
    simp only [exS, Bool.and_eq_true, decide_eq_true_eq] at he
    have := (sides_le (elAt L.els e.1 ElD.kind)).2
    exact ⟨⟨he.1, he.2.1⟩, by unfold I64b; omega⟩
  refine ⟨hd.1, hd.2.1, fun x hx => ?_, fun j hj => ?_, fun s hs => ?_, fun b hb => ?_⟩
  · have := hel x hx
    simp only [rightS, Bool.and_eq_true, decide_eq_true_eq] at this
    obtain ⟨⟨k1, k2, l1, l2, g1, g2, s1, s2, c1, c2⟩, hsl⟩ := this
    unfold slowS at hsl
    refine ⟨by omega, fun hk => ?_, ?_, ?_, ?_, ?_, c1, c2⟩
    · rw [if_neg hk] at hsl; simpa using hsl
    · unfold I64b; omega
    · unfold I64b; omega
    · unfold I64b; omega
    · by_cases hk : x.kind = 2
      · rw [if_pos hk] at hsl
        simp only [Bool.and_eq_true, decide_eq_true_eq] at hsl
        unfold I64b; omega
      · rw [if_neg hk] at hsl
        have : x.slow = 0 := by simpa using hsl
        rw [this]; unfold I64b; omega
  · have hjn := V.jn
    unfold jnB at hjn
    rw [List.all_eq_true] at hjn
    have := hjn j hj
    simp only [Bool.and_eq_true] at this
    obtain ⟨a1, a2⟩ := hends _ this.1
    obtain ⟨b1, b2⟩ := hends _ this.2.1
    exact ⟨a1, b1, a2, b2⟩
  · have hsg := V.sg
    unfold sgB at hsg
    rw [List.all_eq_true] at hsg
    have := hsg s hs
    simp only [Bool.and_eq_true, decide_eq_true_eq] at this
    obtain ⟨a1, a2⟩ := hends _ this.1
    exact ⟨a1, a2, by unfold I64b; omega⟩
  · have hbl := V.bl
    unfold blB at hbl
    rw [List.all_eq_true] at hbl
    have := hbl b hb
    simp only [balS, decide_eq_true_eq] at this
    have hlen : elAt L.els b.el ElD.length ≤ 1000000 := by
      obtain ⟨k, hk⟩ : ∃ k : Nat, b.el = k := ⟨b.el.toNat, by omega⟩
      have hkl : k < L.els.length := by omega
      have h2 := hel L.els[k] (List.getElem_mem hkl)
      simp only [rightS, Bool.and_eq_true, decide_eq_true_eq] at h2
      have : elAt L.els b.el ElD.length = L.els[k].length := by simp [elAt, hk, hkl]
      omega
    exact ⟨⟨by omega, by omega⟩, by unfold I64b; omega, by unfold I64b; omega⟩
end
section

/-! ### lengths -/
def wlen (ws : List L8) : Nat := (ws.map fun w => w.length + 1).sum
theorem tail_len (c : UInt8) : ∀ ws : List L8, (Lib.joinTail [c] ws).length = wlen ws
  | [] => rfl
  | w :: r => by
    have := tail_len c r
    simp only [Lib.joinTail, List.map_cons, List.flatten_cons, List.length_append, List.length_cons, List.length_nil, wlen, List.sum_cons] at this ⊢
    omega
theorem lineT_len2 {w : L8} {ws : List L8} : (lineT (w :: ws)).length = wlen (w :: ws) := by
  unfold lineT
  rw [Lib.join_cons, List.length_append, List.length_append, tail_len]
  simp only [wlen, List.map_cons, List.sum_cons, List.length_cons, List.length_nil]; omega
theorem textL_app (a b : List (List L8)) : textL (a ++ b) = textL a ++ textL b := by simp [textL]
theorem wlen_le {ws : List L8} {k : Nat} (h : ∀ w ∈ ws, w.length ≤ k) : wlen ws ≤ ws.length * (k + 1) := by
  induction ws with
  | nil => simp [wlen]
  | cons w r ih =>
    have h1 := h w (by simp)
    have h2 := ih fun x hx => h x (by simp [hx])
    simp only [wlen, List.map_cons, List.sum_cons, List.length_cons] at h2 ⊢
    rw [Nat.succ_mul]; omega
theorem textL_len2 {k : Nat} : ∀ (m : List (List L8)), (∀ l ∈ m, (lineT l).length ≤ k) → (textL m).length ≤ m.length * k
  | [], _ => by simp [textL]
  | l :: r, h => by
    have h1 := h l (by simp)
    have h2 := textL_len2 r fun x hx => h x (by simp [hx])
    rw [textL_cons, List.length_append, List.length_cons, Nat.succ_mul]; omega
theorem nodup_bound : ∀ (n : Nat) (l : List Nat), l.Nodup → (∀ x ∈ l, x < n) → l.length ≤ n
  | 0, l, _, h => by
    cases l with
    | nil => simp
    | cons x r => have := h x (by simp); omega
  | n + 1, l, hd, h => by
    by_cases hm : n ∈ l
    · have h1 := nodup_bound n (l.erase n) (hd.erase n) fun x hx => by
        have := (hd.mem_erase_iff).1 hx
        have := h x this.2
        omega
      rw [List.length_erase_of_mem hm] at h1
      omega
    · have := nodup_bound n l hd fun x hx => by
        have h1 := h x hx
        have : x ≠ n := fun e => hm (e ▸ hx)
        omega
      omega
theorem endsJ_len (js : List (EndD × EndD)) : (endsJ js).length = 2 * js.length := by
  induction js with
  | nil => rfl
  | cons j r ih => simp only [endsJ, List.flatMap_cons, List.length_append, List.length_cons, List.length_nil] at ih ⊢; omega
theorem joints_few {L : LayD} (V : Valid isName L) : L.joints.length ≤ 64 := by
  have hd : (endsJ L.joints).Nodup := by have := V.jd; unfold jdB at this; exact of_decide_eq_true this
  have hl : L.els.length ≤ 32 := by have := V.lim; unfold limB at this; rw [decide_eq_true_eq] at this; exact this.2.1
  have hin : ∀ e ∈ endsJ L.joints, 0 ≤ e.1 ∧ e.1 < 32 ∧ 0 ≤ e.2 ∧ e.2 < 4 := by
    intro e he
    have := ends_ex V he
    simp only [exS, Bool.and_eq_true, decide_eq_true_eq] at this
    have h2 := (sides_le (elAt L.els e.1 ElD.kind)).2
    omega
  have hm : ((endsJ L.joints).map fun e => (e.1 * 4 + e.2).toNat).Nodup := by
    refine List.Pairwise.map _ ?_ ?_ (R := fun a b => a ≠ b ∧ a ∈ endsJ L.joints ∧ b ∈ endsJ L.joints)
    · rintro a b ⟨hne, ha, hb⟩ heq
      have h1 := hin a ha
      have h2 := hin b hb
      apply hne
      obtain ⟨a1, a2⟩ := a
      obtain ⟨b1, b2⟩ := b
      simp only [Prod.mk.injEq] at *
      omega
    · exact List.Pairwise.imp_of_mem (fun {a b} ha hb h => ⟨h, ha, hb⟩) hd
  have := nodup_bound 128 _ hm fun x hx => by
    obtain ⟨e, he, rfl⟩ := List.mem_map.1 hx
    have := hin e he
    omega
  rw [List.length_map, endsJ_len] at this
  omega
/-! ### words -/
theorem name_word {w : L8} (h : isName w = true) : isW w = true ∧ w.length ≤ 20 := by
  simp only [isName, Bool.and_eq_true, decide_eq_true_eq, List.all_eq_true] at h
  obtain ⟨h1, h2, h3⟩ := h
  refine ⟨?_, by omega⟩
  simp only [isW, Bool.and_eq_true, decide_eq_true_eq, List.all_eq_true]
  refine ⟨fun b hb => ?_, ?_, by omega⟩
  · have := h1 b hb
    simp only [nmB, isLt, isDg, Bool.or_eq_true, Bool.and_eq_true, decide_eq_true_eq] at this
    simp only [okB, Bool.and_eq_true, decide_eq_true_eq]
    rcases this with h | h | h
    · omega
    · omega
    · subst h; decide
  · cases w with
    | nil => simp at h2
    | cons b r => simp
theorem itoa_word {n : Int} (h : I64b n) : isW (Lib.itoa n) = true ∧ (Lib.itoa n).length ≤ 20 := by
  have hl := itoa_len n h
  refine ⟨?_, hl.1⟩
  have key : ∀ u, ∀ b ∈ Lib.decDigits u, okB b = true := by
    intro u b hb
    have := List.all_eq_true.1 (dec_all u) _ hb
    rw [isDg_iff] at this
    simp only [okB, Bool.and_eq_true, decide_eq_true_eq]
    omega
  simp only [isW, Bool.and_eq_true, decide_eq_true_eq, List.all_eq_true]
  refine ⟨?_, hl.2, by omega⟩
  unfold Lib.itoa
  split
  · intro b hb
    rcases List.mem_cons.1 hb with rfl | hb
    · decide
    · exact key _ b hb
  · exact key _
def okLine (ws : List L8) : Prop := (∀ w ∈ ws, isW w = true ∧ w.length ≤ 20) ∧ 0 < ws.length ∧ ws.length ≤ 7
theorem okLine.isL {ws : List L8} (h : okLine ws) : isL ws = true := by
  simp only [Go.Proofs.YteafkginhejllaaGreatDoor.isL, Bool.and_eq_true, decide_eq_true_eq, List.all_eq_true]
  exact ⟨fun w hw => (h.1 w hw).1, h.2.1⟩
theorem okLine.len {ws : List L8} (h : okLine ws) : (lineT ws).length ≤ 147 := by
  cases ws with
  | nil => have := h.2.1; simp at this
  | cons w r =>
    rw [lineT_len2]
    have := wlen_le (k := 20) fun x hx => (h.1 x hx).2
    have := h.2.2
    omega
theorem nm_at {L : LayD} (hn : ∀ x ∈ L.els, isName x.name = true) {e : Int} (h : OkIx L.els e) : isW (nameAt L.els e) = true ∧ (nameAt L.els e).length ≤ 20 := by
  obtain ⟨h0, h1⟩ := h
  obtain ⟨k, rfl⟩ : ∃ k : Nat, e = k := ⟨e.toNat, by omega⟩
  have hk : k < L.els.length := by omega
  have : nameAt L.els (k : Int) = L.els[k].name := by simp [nameAt, hk]
  rw [this]
  exact name_word (hn _ (List.getElem_mem hk))
theorem ok_lines {L : LayD} (V : Valid isName L) : ∀ l ∈ linesOf L, okLine l := by
  have O := ok_valid V
  have hn := V.nam
  unfold namB at hn
  simp only [Bool.and_eq_true, List.all_eq_true] at hn
  obtain ⟨n0, n1, n2, n3⟩ := hn
  have kw : ∀ k ∈ [kLayout, kSection, kTrack, kPoints, kCross, kJoint, kSignal, kBalise], isW k = true ∧ k.length ≤ 20 := by decide
  intro l hl
  unfold linesOf at hl
  simp only [List.mem_cons, List.mem_append, List.mem_map] at hl
  rcases hl with rfl | ⟨s, hs, rfl⟩ | ⟨x, hx, rfl⟩ | ⟨j, hj, rfl⟩ | ⟨s, hs, rfl⟩ | ⟨b, hb, rfl⟩
  · refine ⟨fun w hw => ?_, by simp, by simp⟩
    simp only [List.mem_cons, List.mem_nil_iff, or_false] at hw
    rcases hw with rfl | rfl
    · exact kw _ (by simp)
    · exact name_word n0
  · refine ⟨fun w hw => ?_, by simp, by simp⟩
    simp only [List.mem_cons, List.mem_nil_iff, or_false] at hw
    rcases hw with rfl | rfl
    · exact kw _ (by simp)
    · exact name_word (n1 _ hs)
  · obtain ⟨hk, _, b1, b2, b3, b4, s0, s1⟩ := O.els x hx
    have hsec : isW (secAt L.secs x.sec) = true ∧ (secAt L.secs x.sec).length ≤ 20 := by
      obtain ⟨k, hk⟩ : ∃ k : Nat, x.sec = k := ⟨x.sec.toNat, by omega⟩
      have hkl : k < L.secs.length := by omega
      have : secAt L.secs x.sec = L.secs[k] := by simp [secAt, hk, hkl]
      rw [this]
      exact name_word (n1 _ (List.getElem_mem hkl))
    unfold elLine
    split
    · refine ⟨fun w hw => ?_, by simp, by simp⟩
      simp only [List.mem_cons, List.mem_nil_iff, or_false] at hw
      rcases hw with rfl | rfl | rfl | rfl | rfl | rfl | rfl
      · exact kw _ (by simp)
      · exact name_word (n2 _ hx)
      · exact hsec
      · exact itoa_word b1
      · exact itoa_word b2
      · exact itoa_word b3
      · exact itoa_word b4
    · split <;>
      · refine ⟨fun w hw => ?_, by simp, by simp⟩
        simp only [List.mem_cons, List.mem_nil_iff, or_false] at hw
        rcases hw with rfl | rfl | rfl | rfl | rfl | rfl
        · exact kw _ (by simp)
        · exact name_word (n2 _ hx)
        · exact hsec
        · exact itoa_word b1
        · exact itoa_word b2
        · exact itoa_word b3
  · obtain ⟨i1, i2, b1, b2⟩ := O.joints j hj
    refine ⟨fun w hw => ?_, by simp [joLine], by simp [joLine]⟩
    simp only [joLine, List.mem_cons, List.mem_nil_iff, or_false] at hw
    rcases hw with rfl | rfl | rfl | rfl | rfl
    · exact kw _ (by simp)
    · exact nm_at n2 i1
    · exact itoa_word b1
    · exact nm_at n2 i2
    · exact itoa_word b2
  · obtain ⟨i1, b1, b2⟩ := O.sigs s hs
    refine ⟨fun w hw => ?_, by simp [sgLine], by simp [sgLine]⟩
    simp only [sgLine, List.mem_cons, List.mem_nil_iff, or_false] at hw
    rcases hw with rfl | rfl | rfl | rfl | rfl
    · exact kw _ (by simp)
    · exact name_word (n3 _ hs)
    · exact nm_at n2 i1
    · exact itoa_word b1
    · exact itoa_word b2
  · obtain ⟨i1, b1, b2⟩ := O.bals b hb
    refine ⟨fun w hw => ?_, by simp [blLine], by simp [blLine]⟩
    simp only [blLine, List.mem_cons, List.mem_nil_iff, or_false] at hw
    rcases hw with rfl | rfl | rfl | rfl
    · exact kw _ (by simp)
    · exact itoa_word b1
    · exact nm_at n2 i1
    · exact itoa_word b2
theorem lines_len (L : LayD) : (linesOf L).length = 1 + L.secs.length + L.els.length + L.joints.length + L.sigs.length + L.bals.length := by
  simp [linesOf]; omega
theorem text_len {L : LayD} (V : Valid isName L) : (textL (linesOf L)).length ≤ 32768 := by
  have h := textL_len2 (linesOf L) fun l hl => (ok_lines V l hl).len
  rw [lines_len] at h
  have hj := joints_few V
  have := V.lim
  unfold limB at this
  rw [decide_eq_true_eq] at this
  have h2 : (1 + L.secs.length + L.els.length + L.joints.length + L.sigs.length + L.bals.length) * 147 ≤ 165 * 147 := Nat.mul_le_mul_right _ (by omega)
  omega
/-- THE TEXT OF A VALID LAYOUT. -/
theorem print_ok {L : LayD} (V : Valid isName L) : printS L = (textL (linesOf L), 0) := by
  unfold printS
  rw [if_pos ((valid_iff _ _).2 V), joinR, if_pos (by rw [List.all_eq_true]; exact fun l hl => (ok_lines V l hl).isL), if_neg (by have := text_len V; omega)]
theorem lines_text {m : List (List L8)} (h : m.all isL = true) (hl : (textL m).length ≤ 32768) : linesR (textL m) = (m, 0, 0) := by
  rw [linesR_of (by omega), scan_text m [] h]; rfl
/-- A LAYOUT IS RESTORED FROM ITS TEXT. -/
theorem parse_print {L : LayD} (V : Valid isName L) : parseS (printS L).1 = (L, 0, 0) := by
  rw [print_ok V]
  have hall : (linesOf L).all isL = true := by rw [List.all_eq_true]; exact fun l hl => (ok_lines V l hl).isL
  have h1 := lines_text hall (text_len V)
  simp only [parseS, h1, if_pos]
  obtain ⟨i, k, hr⟩ := lines_run (ok_valid V)
  unfold parseL
  rw [if_neg (by simp [linesOf]), hr]
  simp only
  rw [if_pos ((valid_iff _ _).2 V)]
theorem text_back {s : L8} (h : (linesR s).2.2 = 0) : textL (linesR s).1 = s ∧ (linesR s).1.all isL = true ∧ s.length ≤ 32768 := by
  by_cases hl : 32768 < s.length
  · rw [linesR_long hl] at h; exact absurd h (by decide)
  · rw [linesR_of hl] at h ⊢
    cases hs : scan [] [] [] s with
    | ok m =>
      obtain ⟨l, h1, h2, h3⟩ := text_of_scan s.length s [] m (Nat.le_refl _) hs
      simp only [outLines]
      rw [List.nil_append] at h1
      subst h1
      exact ⟨h2, h3, by omega⟩
    | bad n => rw [hs] at h; simp [outLines] at h
theorem parseL_ok {m : List (List L8)} {n e : Int} {L : LayD} (h : parseL m = (L, n, e)) (he : e = 0) : checkS isName L = 0 ∧ linesOf L = m ∧ n = 0 := by
  unfold parseL at h
  by_cases hm : m = []
  · rw [if_pos hm] at h
    injection h with h1 h2
    injection h2 with h2 h3
    rw [he] at h3; exact absurd h3 (by decide)
  · rw [if_neg hm] at h
    cases hr : runS start m with
    | inl x =>
      rw [hr] at h
      injection h with h1 h2
      injection h2 with h2 h3
      exact absurd (h3.trans he) (run_err m start x hr).1
    | inr st =>
      rw [hr] at h
      simp only at h
      by_cases hc : checkS isName st.lay = 0
      · rw [if_pos hc] at h
        injection h with h1 h2
        injection h2 with h2 h3
        subst h1
        exact ⟨hc, lines_back hr hm, h2.symm⟩
      · rw [if_neg hc] at h
        injection h with h1 h2
        injection h2 with h2 h3
        exact absurd (h3.trans he) hc
/-- A TEXT THAT IS ACCEPTED IS THE TEXT OF ITS LAYOUT. -/
theorem print_parse {s : L8} {L : LayD} {n e : Int} (h : parseS s = (L, n, e)) (he : e = 0) : checkS isName L = 0 ∧ printS L = (s, 0) := by
  unfold parseS at h
  by_cases h0 : (linesR s).2.2 = 0
  · rw [if_pos h0] at h
    obtain ⟨h1, h2, _⟩ := parseL_ok h he
    obtain ⟨t1, t2, t3⟩ := text_back h0
    refine ⟨h1, ?_⟩
    unfold printS
    rw [if_pos h1, h2, joinR, if_pos t2, if_neg (by rw [t1]; omega), t1]
  · rw [if_neg h0] at h
    injection h with h1 h2
    injection h2 with h2 h3
    exact absurd (h3.trans he) h0
/-! ### the first line that has an error -/
theorem first_err {m : List (List L8)} {n : Nat} {e : Int} (h : runS start m = .inl (n, e)) : 1 ≤ n ∧ n ≤ m.length ∧ e ≠ 0 ∧ (∃ st, runS start (m.take (n - 1)) = .inr st) ∧ ∀ more, runS start (m.take n ++ more) = .inl (n, e) := by
  obtain ⟨h1, a, ws, b, s1, h2, h3, h4, h5⟩ := run_err m start (n, e) h
  simp only [start] at h5
  have hn : n = a.length + 1 := by simpa using h5
  subst h2 hn
  have e0 : (a ++ ws :: b).take (a.length + 1 - 1) = a := by rw [Nat.add_sub_cancel]; exact List.take_left' rfl
  have e1 : (a ++ ws :: b).take (a.length + 1) = a ++ [ws] := by rw [show a ++ ws :: b = (a ++ [ws]) ++ b from by simp]; exact List.take_left' (by simp)
  refine ⟨by omega, by simp, h1, ⟨s1, by rw [e0]; exact h3⟩, fun more => ?_⟩
  rw [e1, List.append_assoc, run_app, h3]
  simp only [List.singleton_append]
  simp only [runS, h4]
/-- What PlanFirst says, of the specification. -/
theorem first_all {s : L8} {L : LayD} {n e : Int} (h : parseS s = (L, n, e)) (hf : (linesR s).2.2 = 0) (h1 : 1 ≤ n) (h2 : n ≤ (linesR s).1.length) :
    ∃ k : Nat, n = k ∧ 1 ≤ k ∧ k ≤ (linesR s).1.length ∧ joinR ((linesR s).1.take (k - 1)) = (textL ((linesR s).1.take (k - 1)), 0) ∧
      (1 < k → (parseS (textL ((linesR s).1.take (k - 1)))).2.1 = 0) ∧ (k = 1 → parseS (textL ((linesR s).1.take (k - 1))) = (zeroL, 1, 4)) ∧
      ∀ more, (joinR ((linesR s).1.take k ++ more)).2 = 0 → (parseS (joinR ((linesR s).1.take k ++ more)).1).2 = (n, e) := by
  obtain ⟨t1, t2, t3⟩ := text_back hf
  obtain ⟨m, hm⟩ : ∃ m, (linesR s).1 = m := ⟨_, rfl⟩
  unfold parseS at h
  rw [if_pos hf] at h
  rw [hm] at t1 t2 h h2 ⊢
  unfold parseL at h
  by_cases h0 : m = []
  · subst h0; simp at h2; omega
  · rw [if_neg h0] at h
    cases hr : runS start m with
    | inr st =>
      rw [hr] at h
      simp only at h
      split at h
      · injection h with _ h; injection h with h _; omega
      · injection h with _ h; injection h with h _; omega
    | inl x =>
      obtain ⟨k, e'⟩ := x
      rw [hr] at h
      injection h with _ h
      injection h with h3 h4
      simp only at h3 h4
      subst h3 h4
      obtain ⟨f1, f2, f3, ⟨st, f4⟩, f5⟩ := first_err hr
      have hsub : (m.take (k - 1)).all isL = true := by
        rw [List.all_eq_true] at t2 ⊢
        exact fun l hl => t2 l (List.mem_of_mem_take hl)
      have hlen : (textL (m.take (k - 1))).length ≤ 32768 := by
        have : m = m.take (k - 1) ++ m.drop (k - 1) := (List.take_append_drop _ _).symm
        have h3 : (textL m).length = (textL (m.take (k - 1))).length + (textL (m.drop (k - 1))).length := by
          conv => lhs; rw [this]
          rw [textL_app, List.length_append]
        rw [t1] at h3
        omega
      have hlr := lines_text hsub hlen
      refine ⟨k, rfl, f1, f2, ?_, ?_, ?_, ?_⟩
      · rw [joinR, if_pos hsub, if_neg (by omega)]
      · intro hk
        simp only [parseS, hlr, if_pos]
        unfold parseL
        rw [if_neg (by
          intro e
          have := congrArg List.length e
          rw [List.length_take] at this
          simp only [List.length_nil] at this
          omega), f4]
        simp only
        split <;> rfl
      · intro hk
        subst hk
        simp only [parseS, hlr, if_pos]
        simp [parseL]
      · intro more hj
        by_cases ha : (m.take k ++ more).all isL = true
        · rw [joinR, if_pos ha] at hj ⊢
          by_cases hb : 32768 < (textL (m.take k ++ more)).length
          · rw [if_pos hb] at hj; exact absurd hj (by decide)
          · rw [if_neg hb]
            have hlr2 := lines_text ha (by omega)
            simp only [parseS, hlr2, if_pos]
            unfold parseL
            rw [if_neg (by
              intro e
              have := congrArg List.length e
              rw [List.length_append, List.length_take] at this
              simp only [List.length_nil] at this
              omega), f5]
        · rw [joinR, if_neg ha] at hj; exact absurd hj (by decide)
end
end Go.Proofs.YteafkginhejllaaGreatDoor
