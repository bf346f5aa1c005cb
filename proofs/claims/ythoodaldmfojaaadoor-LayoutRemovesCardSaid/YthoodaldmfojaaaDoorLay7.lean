/- Plain mathematics of layouts: what each function answers of a layout as lists, and what is true of a layout that is valid. Conditions: none. -/
import Derived.Test.YthoodaldmfojaaaDoorL8
namespace Go.Proofs.YthoodaldmfojaaaDoor
abbrev EndD := Int × Int
structure ElD where
  name : L8
  kind : Int
  length : Int
  grade : Int
  speed : Int
  slow : Int
  sec : Int
structure SigD where
  name : L8
  at_ : EndD
  overlap : Int
structure BalD where
  id : Int
  el : Int
  off : Int
structure LayD where
  name : L8
  secs : List L8
  els : List ElD
  joints : List (EndD × EndD)
  sigs : List SigD
  bals : List BalD
def sidesS (k : Int) : Int := if k = 1 then 2 else if k = 2 then 3 else if k = 3 then 4 else 0
theorem sides_le (k : Int) : 0 ≤ sidesS k ∧ sidesS k ≤ 4 := by unfold sidesS; split <;> (try split) <;> (try split) <;> omega
def elAt (els : List ElD) (e : Int) (f : ElD → Int) : Int := (els[e.toNat]?).elim 0 f
def exS (els : List ElD) (e : EndD) : Bool := decide (0 ≤ e.1) && (decide (e.1 < els.length) && (decide (0 ≤ e.2) && decide (e.2 < sidesS (elAt els e.1 ElD.kind))))
def memG (s : Int) (i : Nat) : List ElD → List Int
  | [] => []
  | x :: xs => if x.sec = s then (i : Int) :: memG s (i + 1) xs else memG s (i + 1) xs
def membersS (L : LayD) (s : Int) : List Int := if 0 ≤ s ∧ s < L.secs.length then memG s 0 L.els else []
def joinF (e : EndD) : List (EndD × EndD) → Option EndD
  | [] => none
  | (a, b) :: r => if a = e then some b else if b = e then some a else joinF e r
def sigF (e : EndD) (i : Nat) : List SigD → Int
  | [] => -1
  | s :: r => if s.at_ = e then (i : Int) else sigF e (i + 1) r
def nameF (n : L8) (i : Nat) : List ElD → Int
  | [] => -1
  | x :: r => if x.name = n then (i : Int) else nameF n (i + 1) r
def pointF (i : Nat) : List ElD → List Int
  | [] => []
  | x :: r => if x.kind = 2 then (i : Int) :: pointF (i + 1) r else pointF (i + 1) r
def sectionS (L : LayD) (e : Int) : Int := if e < 0 ∨ L.els.length ≤ e then -1 else elAt L.els e ElD.sec
def slowS (x : ElD) : Bool := if x.kind = 2 then decide (100 ≤ x.slow) && decide (x.slow ≤ x.speed) else x.slow == 0
def rightS (n : Nat) (x : ElD) : Bool :=
  decide (1 ≤ x.kind ∧ x.kind ≤ 3 ∧ 500 ≤ x.length ∧ x.length ≤ 1000000 ∧ -50 ≤ x.grade ∧ x.grade ≤ 50 ∧ 100 ≤ x.speed ∧ x.speed ≤ 10000 ∧ 0 ≤ x.sec ∧ x.sec < n) && slowS x
def endsJ (js : List (EndD × EndD)) : List EndD := js.flatMap fun j => [j.1, j.2]
/-- The conditions, in their order. -/
def limB (L : LayD) : Bool := decide (1 ≤ L.els.length ∧ L.els.length ≤ 32 ∧ 1 ≤ L.secs.length ∧ L.secs.length ≤ 24 ∧ L.sigs.length ≤ 20 ∧ L.bals.length ≤ 24)
def namB (nm : L8 → Bool) (L : LayD) : Bool := nm L.name && (L.secs.all nm && (L.els.all (fun x => nm x.name) && L.sigs.all (fun x => nm x.name)))
def dupB (L : LayD) : Bool := decide L.secs.Nodup && (decide (L.els.map ElD.name).Nodup && decide (L.sigs.map SigD.name).Nodup)
def elB (L : LayD) : Bool := L.els.all (rightS L.secs.length)
def secB (L : LayD) : Bool := (List.range L.secs.length).all fun (s : Nat) => decide (membersS L (s : Int) ≠ [])
def jnB (L : LayD) : Bool := L.joints.all fun j => exS L.els j.1 && (exS L.els j.2 && !(j.1 == j.2))
def jdB (L : LayD) : Bool := decide (endsJ L.joints).Nodup
def sgB (L : LayD) : Bool := L.sigs.all fun s => exS L.els s.at_ && (decide (0 ≤ s.overlap) && decide (s.overlap ≤ 1000000))
def sdB (L : LayD) : Bool := decide (L.sigs.map SigD.at_).Nodup
def unsB (els : List ElD) (js : List (EndD × EndD)) (e : EndD) : Bool := match joinF e js with
  | some f => !(elAt els f.1 ElD.sec == elAt els e.1 ElD.sec)
  | none => false
def suB (L : LayD) : Bool := L.sigs.all fun s => unsB L.els L.joints s.at_
def balS (els : List ElD) (b : BalD) : Bool := decide (1 ≤ b.id ∧ b.id ≤ 1073741824 ∧ 0 ≤ b.el ∧ b.el < els.length ∧ 0 ≤ b.off ∧ b.off ≤ elAt els b.el ElD.length)
def blB (L : LayD) : Bool := L.bals.all (balS L.els)
def bdB (L : LayD) : Bool := decide (L.bals.map BalD.id).Nodup
def checkS (nm : L8 → Bool) (L : LayD) : Int :=
  if limB L = false then 2 else if namB nm L = false then 3 else if dupB L = false then 8 else if elB L = false then 1 else if secB L = false then 1
  else if jnB L = false then 1 else if jdB L = false then 8 else if sgB L = false then 1 else if sdB L = false then 8 else if suB L = false then 14
  else if blB L = false then 1 else if bdB L = false then 8 else 0
structure Valid (nm : L8 → Bool) (L : LayD) : Prop where
  lim : limB L = true
  nam : namB nm L = true
  dup : dupB L = true
  el : elB L = true
  sec : secB L = true
  jn : jnB L = true
  jd : jdB L = true
  sg : sgB L = true
  sd : sdB L = true
  su : suB L = true
  bl : blB L = true
  bd : bdB L = true
theorem valid_iff (nm : L8 → Bool) (L : LayD) : checkS nm L = 0 ↔ Valid nm L := by
  constructor
  · intro h
    unfold checkS at h
    cases h1 : limB L <;> cases h2 : namB nm L <;> cases h3 : dupB L <;> cases h4 : elB L <;> simp [h1, h2, h3, h4] at h
    cases h5 : secB L <;> cases h6 : jnB L <;> cases h7 : jdB L <;> cases h8 : sgB L <;> simp [h5, h6, h7, h8] at h
    cases h9 : sdB L <;> cases h10 : suB L <;> cases h11 : blB L <;> cases h12 : bdB L <;> simp [h9, h10, h11, h12] at h
    exact ⟨h1, h2, h3, h4, h5, h6, h7, h8, h9, h10, h11, h12⟩
  · intro ⟨h1, h2, h3, h4, h5, h6, h7, h8, h9, h10, h11, h12⟩
    simp [checkS, h1, h2, h3, h4, h5, h6, h7, h8, h9, h10, h11, h12]
/-! ### joined ends -/
theorem join_mem {e f : EndD} : ∀ {js : List (EndD × EndD)}, joinF e js = some f → e ∈ endsJ js ∧ f ∈ endsJ js
  | (a, b) :: r, h => by
    unfold joinF at h
    simp only [endsJ, List.flatMap_cons, List.cons_append, List.nil_append, List.mem_cons]
    split at h
    · rename_i ha
      obtain rfl := Option.some.inj h
      exact ⟨Or.inl ha.symm, Or.inr (Or.inl rfl)⟩
    · split at h
      · rename_i hb
        obtain rfl := Option.some.inj h
        exact ⟨Or.inr (Or.inl hb.symm), Or.inl rfl⟩
      · have := join_mem h
        exact ⟨Or.inr (Or.inr this.1), Or.inr (Or.inr this.2)⟩
theorem join_back {e f : EndD} : ∀ {js : List (EndD × EndD)}, (endsJ js).Nodup → (∀ j ∈ js, j.1 ≠ j.2) → joinF e js = some f → joinF f js = some e ∧ f ≠ e
  | (a, b) :: r, hd, hne, h => by
    have hab : a ≠ b := hne (a, b) (by simp)
    have hd' : a ≠ b ∧ a ∉ endsJ r ∧ b ∉ endsJ r ∧ (endsJ r).Nodup := by
      simp only [endsJ, List.flatMap_cons, List.cons_append, List.nil_append, List.nodup_cons, List.mem_cons, not_or] at hd
      exact ⟨hd.1.1, hd.1.2, hd.2.1, hd.2.2⟩
    unfold joinF at h
    split at h
    · rename_i ha
      obtain rfl := Option.some.inj h
      subst ha
      exact ⟨by rw [joinF, if_neg hab, if_pos rfl], fun h => hab h.symm⟩
    · rename_i ha
      split at h
      · rename_i hb
        obtain rfl := Option.some.inj h
        subst hb
        exact ⟨by rw [joinF, if_pos rfl], hab⟩
      · have hm := join_mem h
        obtain ⟨h1, h2⟩ := join_back hd'.2.2.2 (fun j hj => hne j (by simp [hj])) h
        refine ⟨?_, h2⟩
        rw [joinF, if_neg, if_neg, h1]
        · rintro rfl; exact hd'.2.2.1 hm.2
        · rintro rfl; exact hd'.2.1 hm.2
theorem sig_mem {e : EndD} : ∀ {ss : List SigD} {i : Nat}, 0 ≤ sigF e i ss → ∃ s ∈ ss, s.at_ = e
  | [], i, h => by simp [sigF] at h
  | s :: r, i, h => by
    unfold sigF at h
    split at h
    · rename_i hs; exact ⟨s, by simp, hs⟩
    · obtain ⟨t, ht, he⟩ := sig_mem h
      exact ⟨t, by simp [ht], he⟩
theorem sig_none {e : EndD} : ∀ {ss : List SigD} {i : Nat}, sigF e i ss < 0 → ∀ s ∈ ss, s.at_ ≠ e
  | [], i, h => by simp
  | s :: r, i, h => by
    unfold sigF at h
    split at h
    · omega
    · rename_i hs
      intro t ht
      rcases List.mem_cons.1 ht with rfl | ht
      · exact hs
      · exact sig_none h t ht
theorem ends_ex {L : LayD} {nm : L8 → Bool} (V : Valid nm L) {e : EndD} (h : e ∈ endsJ L.joints) : exS L.els e = true := by
  have hj := V.jn
  unfold jnB at hj
  rw [List.all_eq_true] at hj
  unfold endsJ at h
  obtain ⟨j, hjm, he⟩ := List.mem_flatMap.1 h
  have := hj j hjm
  simp only [Bool.and_eq_true] at this
  simp only [List.mem_cons, List.mem_nil_iff, or_false] at he
  rcases he with rfl | rfl
  · exact this.1
  · exact this.2.1
theorem valid_ne {L : LayD} {nm : L8 → Bool} (V : Valid nm L) : ∀ j ∈ L.joints, j.1 ≠ j.2 := by
  have hj := V.jn
  unfold jnB at hj
  rw [List.all_eq_true] at hj
  intro j hm
  have := hj j hm
  simp only [Bool.and_eq_true, Bool.not_eq_true', beq_eq_false_iff_ne] at this
  exact this.2.2
theorem valid_join {L : LayD} {nm : L8 → Bool} (V : Valid nm L) {e f : EndD} (h : joinF e L.joints = some f) : joinF f L.joints = some e ∧ f ≠ e ∧ exS L.els f = true := by
  have hd : (endsJ L.joints).Nodup := by have := V.jd; unfold jdB at this; exact of_decide_eq_true this
  obtain ⟨h1, h2⟩ := join_back hd (valid_ne V) h
  exact ⟨h1, h2, ends_ex V (join_mem h).2⟩
theorem valid_sig {L : LayD} {nm : L8 → Bool} (V : Valid nm L) {e : EndD} (h : 0 ≤ sigF e 0 L.sigs) : ∃ f, joinF e L.joints = some f ∧ elAt L.els f.1 ElD.sec ≠ elAt L.els e.1 ElD.sec := by
  obtain ⟨s, hs, rfl⟩ := sig_mem h
  have hu := V.su
  unfold suB at hu
  rw [List.all_eq_true] at hu
  have := hu s hs
  unfold unsB at this
  split at this
  · rename_i f hf
    exact ⟨f, hf, by simpa using this⟩
  · cases this
/-! ### parts removed -/
theorem range_all_congr {n : Nat} {p q : Nat → Bool} (h : ∀ k, p k = q k) : (List.range n).all p = (List.range n).all q := by
  have : p = q := funext h
  rw [this]
theorem nodup_sub {α : Type} {a b : List α} (h : a.Sublist b) (hd : b.Nodup) : a.Nodup := hd.sublist h
theorem valid_bal {nm : L8 → Bool} {L : LayD} (V : Valid nm L) (b : List BalD) (h : b.Sublist L.bals) : Valid nm { L with bals := b } := by
  refine ⟨?_, V.nam, V.dup, V.el, V.sec, V.jn, V.jd, V.sg, V.sd, V.su, ?_, ?_⟩
  · have := V.lim
    have hl := h.length_le
    unfold limB at this ⊢
    rw [decide_eq_true_eq] at this ⊢
    exact ⟨this.1, this.2.1, this.2.2.1, this.2.2.2.1, this.2.2.2.2.1, Nat.le_trans hl this.2.2.2.2.2⟩
  · have := V.bl
    unfold blB at this ⊢
    rw [List.all_eq_true] at this ⊢
    exact fun x hx => this x (h.subset hx)
  · have := V.bd
    unfold bdB at this ⊢
    rw [decide_eq_true_eq] at this ⊢
    exact this.sublist (h.map _)
theorem valid_sigs {nm : L8 → Bool} {L : LayD} (V : Valid nm L) (b : List SigD) (h : b.Sublist L.sigs) : Valid nm { L with sigs := b } := by
  have all : ∀ {p : SigD → Bool}, L.sigs.all p = true → b.all p = true := fun {p} hp => by
    rw [List.all_eq_true] at hp ⊢
    exact fun x hx => hp x (h.subset hx)
  refine ⟨?_, ?_, ?_, V.el, V.sec, V.jn, V.jd, all V.sg, ?_, all V.su, V.bl, V.bd⟩
  · have := V.lim
    have hl := h.length_le
    unfold limB at this ⊢
    rw [decide_eq_true_eq] at this ⊢
    exact ⟨this.1, this.2.1, this.2.2.1, this.2.2.2.1, Nat.le_trans hl this.2.2.2.2.1, this.2.2.2.2.2⟩
  · have := V.nam
    unfold namB at this ⊢
    simp only [Bool.and_eq_true] at this ⊢
    exact ⟨this.1, this.2.1, this.2.2.1, all this.2.2.2⟩
  · have := V.dup
    unfold dupB at this ⊢
    simp only [Bool.and_eq_true, decide_eq_true_eq] at this ⊢
    exact ⟨this.1, this.2.1, this.2.2.sublist (h.map _)⟩
  · have := V.sd
    unfold sdB at this ⊢
    rw [decide_eq_true_eq] at this ⊢
    exact this.sublist (h.map _)
theorem join_erase {e : EndD} : ∀ (js : List (EndD × EndD)) (i : Nat) (j : EndD × EndD), js[i]? = some j → j.1 ≠ e → j.2 ≠ e → joinF e (js.eraseIdx i) = joinF e js
  | [], i, j, h, _, _ => by simp at h
  | (a, b) :: r, 0, j, h, h1, h2 => by
    simp at h; subst h
    simp only [List.eraseIdx_cons_zero]
    rw [joinF, if_neg h1, if_neg h2]
  | (a, b) :: r, i + 1, j, h, h1, h2 => by
    simp only [List.eraseIdx_cons_succ]
    rw [joinF, joinF, join_erase r i j (by simpa using h) h1 h2]
theorem ends_sub {a b : List (EndD × EndD)} (h : a.Sublist b) : (endsJ a).Sublist (endsJ b) := by
  induction h with
  | slnil => exact List.Sublist.refl _
  | cons x _ ih => exact ih.trans (List.sublist_append_right _ _)
  | cons_cons x _ ih => exact (List.Sublist.refl _).append ih
theorem valid_joints {nm : L8 → Bool} {L : LayD} (V : Valid nm L) (i : Nat) (j : EndD × EndD) (hj : L.joints[i]? = some j) (h1 : sigF j.1 0 L.sigs < 0) (h2 : sigF j.2 0 L.sigs < 0) :
    Valid nm { L with joints := L.joints.eraseIdx i } := by
  have hs : (L.joints.eraseIdx i).Sublist L.joints := List.eraseIdx_sublist _ _
  refine ⟨V.lim, V.nam, V.dup, V.el, V.sec, ?_, ?_, V.sg, V.sd, ?_, V.bl, V.bd⟩
  · have := V.jn
    unfold jnB at this ⊢
    rw [List.all_eq_true] at this ⊢
    exact fun x hx => this x (hs.subset hx)
  · have := V.jd
    unfold jdB at this ⊢
    rw [decide_eq_true_eq] at this ⊢
    exact this.sublist (ends_sub hs)
  · have := V.su
    unfold suB at this ⊢
    rw [List.all_eq_true] at this ⊢
    intro s hm
    have := this s hm
    unfold unsB at this ⊢
    simp only
    rw [join_erase L.joints i j hj (fun h => sig_none h1 s hm h.symm) (fun h => sig_none h2 s hm h.symm)]
    exact this
theorem valid_check {nm : L8 → Bool} {L : LayD} (h : checkS nm L = 0) : Valid nm L := (valid_iff nm L).1 h
/-! ### members, names and points -/
theorem memG_mem (s : Int) : ∀ (els : List ElD) (i : Nat) (n : Int), n ∈ memG s i els ↔ ∃ k x, els[k]? = some x ∧ x.sec = s ∧ n = ((i + k : Nat) : Int)
  | [], i, n => by simp [memG]
  | x :: xs, i, n => by
    have ih := memG_mem s xs (i + 1) n
    unfold memG
    constructor
    · intro h
      split at h
      · rename_i hx
        rcases List.mem_cons.1 h with rfl | h
        · exact ⟨0, x, rfl, hx, by simp⟩
        · obtain ⟨k, y, hy, hs, hn⟩ := ih.1 h
          exact ⟨k + 1, y, by simpa using hy, hs, by rw [hn]; congr 1; omega⟩
      · obtain ⟨k, y, hy, hs, hn⟩ := ih.1 h
        exact ⟨k + 1, y, by simpa using hy, hs, by rw [hn]; congr 1; omega⟩
    · rintro ⟨k, y, hy, hs, hn⟩
      cases k with
      | zero =>
        simp at hy; subst hy
        rw [if_pos hs, hn]; simp
      | succ k =>
        have : n ∈ memG s (i + 1) xs := ih.2 ⟨k, y, by simpa using hy, hs, by rw [hn]; congr 1; omega⟩
        split
        · exact List.mem_cons_of_mem _ this
        · exact this
theorem memG_asc (s : Int) : ∀ (els : List ElD) (i : Nat), (memG s i els).Pairwise (· < ·) ∧ ∀ n ∈ memG s i els, (i : Int) ≤ n
  | [], i => by simp [memG]
  | x :: xs, i => by
    obtain ⟨h1, h2⟩ := memG_asc s xs (i + 1)
    unfold memG
    split
    · refine ⟨List.pairwise_cons.2 ⟨fun n hn => by have := h2 n hn; omega, h1⟩, fun n hn => ?_⟩
      rcases List.mem_cons.1 hn with rfl | hn
      · omega
      · have := h2 n hn; omega
    · exact ⟨h1, fun n hn => by have := h2 n hn; omega⟩
theorem nameF_at : ∀ (els : List ElD) (i k : Nat) (x : ElD), (els.map ElD.name).Nodup → els[k]? = some x → nameF x.name i els = ((i + k : Nat) : Int)
  | [], i, k, x, _, h => by simp at h
  | y :: r, i, 0, x, _, h => by
    simp at h; subst h
    rw [nameF, if_pos rfl]; simp
  | y :: r, i, k + 1, x, hd, h => by
    simp only [List.map_cons, List.nodup_cons] at hd
    have hr : r[k]? = some x := by simpa using h
    have hne : y.name ≠ x.name := fun e => hd.1 (by rw [e]; exact List.mem_map_of_mem (List.mem_of_getElem? hr))
    rw [nameF, if_neg hne, nameF_at r (i + 1) k x hd.2 hr]
    congr 1; omega
end Go.Proofs.YthoodaldmfojaaaDoor
