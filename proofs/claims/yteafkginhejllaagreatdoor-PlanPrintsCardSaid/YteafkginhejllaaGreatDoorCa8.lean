/- A line read by its form: what the reader finds is what the line says. Conditions: none. -/
import Derived.Test.YteafkginhejllaaGreatDoorRd8
import Derived.Test.YteafkginhejllaaGreatDoorFm8
import Derived.Test.YteafkginhejllaaGreatDoorR8
namespace Go.Proofs.YteafkginhejllaaGreatDoor
theorem rank_form {k : L8} {q : Int × List Int × Nat × Option Int} (h : formK k = some q) : rankS k = q.1 := by
  unfold formK at h
  unfold rankS
  by_cases a1 : k = kLayout
  · rw [if_pos a1] at h; injection h with h; subst h; simp [a1]
  by_cases a2 : k = kSection
  · subst a2; simp (decide := true) at h; subst h; decide
  by_cases a3 : k = kJoint
  · subst a3; simp (decide := true) at h; subst h; decide
  by_cases a4 : k = kSignal
  · subst a4; simp (decide := true) at h; subst h; decide
  by_cases a5 : k = kBalise
  · subst a5; simp (decide := true) at h; subst h; decide
  by_cases a6 : k = kTrack
  · subst a6; simp (decide := true) at h; subst h; decide
  by_cases a7 : k = kPoints
  · subst a7; simp (decide := true) at h; subst h; decide
  by_cases a8 : k = kCross
  · subst a8; simp (decide := true) at h; subst h; decide
  simp [a1, a2, a3, a4, a5, a6, a7, a8] at h
theorem rank_none {k : L8} (h : formK k = none) : rankS k = -1 := by
  unfold formK at h
  unfold rankS
  by_cases a1 : k = kLayout
  · subst a1; simp (decide := true) at h
  by_cases a2 : k = kSection
  · subst a2; simp (decide := true) at h
  by_cases a3 : k = kJoint
  · subst a3; simp (decide := true) at h
  by_cases a4 : k = kSignal
  · subst a4; simp (decide := true) at h
  by_cases a5 : k = kBalise
  · subst a5; simp (decide := true) at h
  by_cases a6 : k = kTrack
  · subst a6; simp (decide := true) at h
  by_cases a7 : k = kPoints
  · subst a7; simp (decide := true) at h
  by_cases a8 : k = kCross
  · subst a8; simp (decide := true) at h
  simp [a1, a2, a3, a4, a5, a6, a7, a8]
theorem v0 (L : LayD) (x : L8) : valueS L 1 x = if numB x = true then ((intL x).1, 0) else (0, 4) := by simp [valueS]
theorem v2_ (L : LayD) (x : L8) : valueS L 2 x = if placeF x 0 L.secs < 0 then (0, 9) else (placeF x 0 L.secs, 0) := by simp [valueS, idxR]
theorem v3_ (L : LayD) (x : L8) : valueS L 3 x = if nameF x 0 L.els < 0 then (0, 9) else (nameF x 0 L.els, 0) := by simp [valueS, idxR]
theorem read_layout (L : LayD) (xs : List L8) : ((readS L [0] xs).2.2 = (lineS L (kLayout :: xs)).1) ∧ ((lineS L (kLayout :: xs)).1 = 0 → ∃ a, readS L [0] xs = (a, [], 0) ∧ (lineS L (kLayout :: xs)).2 = { L with name := a }) := by
  rcases xs with _ | ⟨a, _ | ⟨b, _ | ⟨c, _ | ⟨d, _ | ⟨e, _ | ⟨f, _ | ⟨g, r⟩⟩⟩⟩⟩⟩⟩ <;> simp (decide := true) [readS, readGo, lineS]
theorem read_section (L : LayD) (xs : List L8) : ((readS L [0] xs).2.2 = (lineS L (kSection :: xs)).1) ∧ ((lineS L (kSection :: xs)).1 = 0 → ∃ a, readS L [0] xs = (a, [], 0) ∧ (lineS L (kSection :: xs)).2 = { L with secs := L.secs ++ [a] }) := by
  rcases xs with _ | ⟨a, _ | ⟨b, _ | ⟨c, _ | ⟨d, _ | ⟨e, _ | ⟨f, _ | ⟨g, r⟩⟩⟩⟩⟩⟩⟩ <;> simp (decide := true) [readS, readGo, lineS]
theorem read_joint (L : LayD) (xs : List L8) : ((readS L [3, 1, 3, 1] xs).2.2 = (lineS L (kJoint :: xs)).1) ∧ ((lineS L (kJoint :: xs)).1 = 0 → ∃ a b c d, readS L [3, 1, 3, 1] xs = ([], [a, b, c, d], 0) ∧ (lineS L (kJoint :: xs)).2 = { L with joints := L.joints ++ [((a, b), (c, d))] }) := by
  rcases xs with _ | ⟨a, _ | ⟨b, _ | ⟨c, _ | ⟨d, _ | ⟨e, _ | ⟨f, _ | ⟨g, r⟩⟩⟩⟩⟩⟩⟩
  all_goals (try (simp (decide := true) [readS, readGo, lineS]; done))
  simp only [readS, readGo, lineS, v0, v3_, List.length_cons, List.length_nil, if_pos]
  by_cases n1 : nameF a 0 L.els < 0 <;> by_cases n2 : nameF c 0 L.els < 0 <;> cases n3 : numB b <;> cases n4 : numB d <;> simp [n1, n2, n3, n4]
  exact ⟨_, _, _, _, ⟨rfl, rfl, rfl, rfl⟩, ⟨rfl, rfl⟩, rfl, rfl⟩
theorem read_signal (L : LayD) (xs : List L8) : ((readS L [0, 3, 1, 1] xs).2.2 = (lineS L (kSignal :: xs)).1) ∧ ((lineS L (kSignal :: xs)).1 = 0 → ∃ x a b c, readS L [0, 3, 1, 1] xs = (x, [a, b, c], 0) ∧ (lineS L (kSignal :: xs)).2 = { L with sigs := L.sigs ++ [⟨x, (a, b), c⟩] }) := by
  have n0 : ¬ kSignal = kJoint := by decide
  rcases xs with _ | ⟨a, _ | ⟨b, _ | ⟨c, _ | ⟨d, _ | ⟨e, _ | ⟨f, _ | ⟨g, r⟩⟩⟩⟩⟩⟩⟩
  all_goals (try (simp (decide := true) [readS, readGo, lineS]; done))
  simp only [readS, readGo, lineS, v0, v3_, List.length_cons, List.length_nil, if_pos, if_neg n0]
  by_cases n1 : nameF b 0 L.els < 0 <;> cases n3 : numB c <;> cases n4 : numB d <;> simp [n1, n3, n4]
  exact ⟨_, _, _, _, ⟨rfl, rfl, rfl, rfl⟩, rfl, ⟨rfl, rfl⟩, rfl⟩
theorem read_balise (L : LayD) (xs : List L8) : ((readS L [1, 3, 1] xs).2.2 = (lineS L (kBalise :: xs)).1) ∧ ((lineS L (kBalise :: xs)).1 = 0 → ∃ a b c, readS L [1, 3, 1] xs = ([], [a, b, c], 0) ∧ (lineS L (kBalise :: xs)).2 = { L with bals := L.bals ++ [⟨a, b, c⟩] }) := by
  rcases xs with _ | ⟨a, _ | ⟨b, _ | ⟨c, _ | ⟨d, _ | ⟨e, _ | ⟨f, _ | ⟨g, r⟩⟩⟩⟩⟩⟩⟩
  all_goals (try (simp (decide := true) [readS, readGo, lineS]; done))
  simp only [readS, readGo, lineS, v0, v3_, List.length_cons, List.length_nil, if_pos]
  by_cases n1 : nameF b 0 L.els < 0 <;> cases n3 : numB a <;> cases n4 : numB c <;> simp [n1, n3, n4]
theorem read_el (L : LayD) (xs : List L8) (k : L8) (kd : Int) (hk : (k = kTrack ∧ kd = 1) ∨ (k = kCross ∧ kd = 3)) : ((readS L [0, 2, 1, 1, 1] xs).2.2 = (lineS L (k :: xs)).1) ∧
    ((lineS L (k :: xs)).1 = 0 → ∃ x s a b c, readS L [0, 2, 1, 1, 1] xs = (x, [s, a, b, c], 0) ∧ (lineS L (k :: xs)).2 = { L with els := L.els ++ [⟨x, kd, a, b, c, 0, s⟩] }) := by
  have n0 : ¬ kCross = kTrack := by decide
  rcases hk with ⟨rfl, rfl⟩ | ⟨rfl, rfl⟩
  all_goals
    rcases xs with _ | ⟨a, _ | ⟨b, _ | ⟨c, _ | ⟨d, _ | ⟨e, _ | ⟨f, _ | ⟨g, r⟩⟩⟩⟩⟩⟩⟩
    all_goals (try (simp (decide := true) [readS, readGo, lineS]; done))
    simp only [readS, readGo, lineS, v0, v2_, List.length_cons, List.length_nil, if_pos, true_or, or_true]
    by_cases n1 : placeF b 0 L.secs < 0 <;> cases n3 : numB c <;> cases n4 : numB d <;> cases n5 : numB e <;> simp [n1, n3, n4, n5, elS, n0]
    exact ⟨_, _, _, _, _, ⟨rfl, rfl, rfl, rfl, rfl⟩, rfl, rfl, rfl, rfl, rfl⟩
theorem read_points (L : LayD) (xs : List L8) : ((readS L [0, 2, 1, 1, 1, 1] xs).2.2 = (lineS L (kPoints :: xs)).1) ∧
    ((lineS L (kPoints :: xs)).1 = 0 → ∃ x s a b c d, readS L [0, 2, 1, 1, 1, 1] xs = (x, [s, a, b, c, d], 0) ∧ (lineS L (kPoints :: xs)).2 = { L with els := L.els ++ [⟨x, 2, a, b, c, d, s⟩] }) := by
  rcases xs with _ | ⟨a, _ | ⟨b, _ | ⟨c, _ | ⟨d, _ | ⟨e, _ | ⟨f, _ | ⟨g, r⟩⟩⟩⟩⟩⟩⟩
  all_goals (try (simp (decide := true) [readS, readGo, lineS]; done))
  simp only [readS, readGo, lineS, v0, v2_, List.length_cons, List.length_nil, if_pos]
  by_cases n1 : placeF b 0 L.secs < 0 <;> cases n3 : numB c <;> cases n4 : numB d <;> cases n5 : numB e <;> cases n6 : numB f <;> simp [n1, n3, n4, n5, n6, elS]
  exact ⟨_, _, _, _, _, _, ⟨rfl, rfl, rfl, rfl, rfl, rfl⟩, rfl, rfl, rfl, rfl, rfl, rfl⟩
end Go.Proofs.YteafkginhejllaaGreatDoor
