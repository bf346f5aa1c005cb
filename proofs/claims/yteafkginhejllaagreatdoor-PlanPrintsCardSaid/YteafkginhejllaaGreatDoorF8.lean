/- Texts of the layers 5 to 7, merged. -/
import Derived.Laws.Rows
import Derived.Laws.ResultCell
import Derived.Handy
import Derived.Laws.StructEq
import Derived.Maps.OwnSet
import Derived.Test.YteafkginhejllaaGreatDoorE8
namespace Go.Proofs.YteafkginhejllaaGreatDoor
section

abbrev EndD := Int × Int
structure ElD where
  name : L8
  kind : Int
  length : Int
  grade : Int
  speed : Int
  slow : Int
  sec : Int
structure SigD where
  name : L8
  at_ : EndD
  overlap : Int
structure BalD where
  id : Int
  el : Int
  off : Int
structure LayD where
  name : L8
  secs : List L8
  els : List ElD
  joints : List (EndD × EndD)
  sigs : List SigD
  bals : List BalD
def sidesS (k : Int) : Int := if k = 1 then 2 else if k = 2 then 3 else if k = 3 then 4 else 0
theorem sides_le (k : Int) : 0 ≤ sidesS k ∧ sidesS k ≤ 4 := by unfold sidesS; split <;> (try split) <;> (try split) <;> omega
def elAt (els : List ElD) (e : Int) (f : ElD → Int) : Int := (els[e.toNat]?).elim 0 f
def exS (els : List ElD) (e : EndD) : Bool := decide (0 ≤ e.1) && (decide (e.1 < els.length) && (decide (0 ≤ e.2) && decide (e.2 < sidesS (elAt els e.1 ElD.kind))))
def memG (s : Int) (i : Nat) : List ElD → List Int
  | [] => []
  | x :: xs => if x.sec = s then (i : Int) :: memG s (i + 1) xs else memG s (i + 1) xs
def membersS (L : LayD) (s : Int) : List Int := if 0 ≤ s ∧ s < L.secs.length then memG s 0 L.els else []
def joinF (e : EndD) : List (EndD × EndD) → Option EndD
  | [] => none
  | (a, b) :: r => if a = e then some b else if b = e then some a else joinF e r
def sigF (e : EndD) (i : Nat) : List SigD → Int
  | [] => -1
  | s :: r => if s.at_ = e then (i : Int) else sigF e (i + 1) r
def nameF (n : L8) (i : Nat) : List ElD → Int
  | [] => -1
  | x :: r => if x.name = n then (i : Int) else nameF n (i + 1) r
def pointF (i : Nat) : List ElD → List Int
  | [] => []
  | x :: r => if x.kind = 2 then (i : Int) :: pointF (i + 1) r else pointF (i + 1) r
def sectionS (L : LayD) (e : Int) : Int := if e < 0 ∨ L.els.length ≤ e then -1 else elAt L.els e ElD.sec
def slowS (x : ElD) : Bool := if x.kind = 2 then decide (100 ≤ x.slow) && decide (x.slow ≤ x.speed) else x.slow == 0
def rightS (n : Nat) (x : ElD) : Bool :=
  decide (1 ≤ x.kind ∧ x.kind ≤ 3 ∧ 500 ≤ x.length ∧ x.length ≤ 1000000 ∧ -50 ≤ x.grade ∧ x.grade ≤ 50 ∧ 100 ≤ x.speed ∧ x.speed ≤ 10000 ∧ 0 ≤ x.sec ∧ x.sec < n) && slowS x
def endsJ (js : List (EndD × EndD)) : List EndD := js.flatMap fun j => [j.1, j.2]
/-- The conditions, in their order. -/
def limB (L : LayD) : Bool := decide (1 ≤ L.els.length ∧ L.els.length ≤ 32 ∧ 1 ≤ L.secs.length ∧ L.secs.length ≤ 24 ∧ L.sigs.length ≤ 20 ∧ L.bals.length ≤ 24)
def namB (nm : L8 → Bool) (L : LayD) : Bool := nm L.name && (L.secs.all nm && (L.els.all (fun x => nm x.name) && L.sigs.all (fun x => nm x.name)))
def dupB (L : LayD) : Bool := decide L.secs.Nodup && (decide (L.els.map ElD.name).Nodup && decide (L.sigs.map SigD.name).Nodup)
def elB (L : LayD) : Bool := L.els.all (rightS L.secs.length)
def secB (L : LayD) : Bool := (List.range L.secs.length).all fun (s : Nat) => decide (membersS L (s : Int) ≠ [])
def jnB (L : LayD) : Bool := L.joints.all fun j => exS L.els j.1 && (exS L.els j.2 && !(j.1 == j.2))
def jdB (L : LayD) : Bool := decide (endsJ L.joints).Nodup
def sgB (L : LayD) : Bool := L.sigs.all fun s => exS L.els s.at_ && (decide (0 ≤ s.overlap) && decide (s.overlap ≤ 1000000))
def sdB (L : LayD) : Bool := decide (L.sigs.map SigD.at_).Nodup
def unsB (els : List ElD) (js : List (EndD × EndD)) (e : EndD) : Bool := match joinF e js with
  | some f => !(elAt els f.1 ElD.sec == elAt els e.1 ElD.sec)
  | none => false
def suB (L : LayD) : Bool := L.sigs.all fun s => unsB L.els L.joints s.at_
def balS (els : List ElD) (b : BalD) : Bool := decide (1 ≤ b.id ∧ b.id ≤ 1073741824 ∧ 0 ≤ b.el ∧ b.el < els.length ∧ 0 ≤ b.off ∧ b.off ≤ elAt els b.el ElD.length)
def blB (L : LayD) : Bool := L.bals.all (balS L.els)
def bdB (L : LayD) : Bool := decide (L.bals.map BalD.id).Nodup
def checkS (nm : L8 → Bool) (L : LayD) : Int :=
  if limB L = false then 2 else if namB nm L = false then 3 else if dupB L = false then 8 else if elB L = false then 1 else if secB L = false then 1
  else if jnB L = false then 1 else if jdB L = false then 8 else if sgB L = false then 1 else if sdB L = false then 8 else if suB L = false then 14
  else if blB L = false then 1 else if bdB L = false then 8 else 0
structure Valid (nm : L8 → Bool) (L : LayD) : Prop where
  lim : limB L = true
  nam : namB nm L = true
  dup : dupB L = true
  el : elB L = true
  sec : secB L = true
  jn : jnB L = true
  jd : jdB L = true
  sg : sgB L = true
  sd : sdB L = true
  su : suB L = true
  bl : blB L = true
  bd : bdB L = true
theorem valid_iff (nm : L8 → Bool) (L : LayD) : checkS nm L = 0 ↔ Valid nm L := by
  constructor
  · intro h
    unfold checkS at h
    cases h1 : limB L <;> cases h2 : namB nm L <;> cases h3 : dupB L <;> cases h4 : elB L <;> simp [h1, h2, h3, h4] at h
    cases h5 : secB L <;> cases h6 : jnB L <;> cases h7 : jdB L <;> cases h8 : sgB L <;> simp [h5, h6, h7, h8] at h
    cases h9 : sdB L <;> cases h10 : suB L <;> cases h11 : blB L <;> cases h12 : bdB L <;> simp [h9, h10, h11, h12] at h
    exact ⟨h1, h2, h3, h4, h5, h6, h7, h8, h9, h10, h11, h12⟩
  · intro ⟨h1, h2, h3, h4, h5, h6, h7, h8, h9, h10, h11, h12⟩
    simp [checkS, h1, h2, h3, h4, h5, h6, h7, h8, h9, h10, h11, h12]
/-! ### joined ends -/
theorem join_mem {e f : EndD} : ∀ {js : List (EndD × EndD)}, joinF e js = some f → e ∈ endsJ js ∧ f ∈ endsJ js
  | (a, b) :: r, h => by
    unfold joinF at h
    simp only [endsJ, List.flatMap_cons, List.cons_append, List.nil_append, List.mem_cons]
    split at h
    · rename_i ha
      obtain rfl := Option.some.inj h
      exact ⟨Or.inl ha.symm, Or.inr (Or.inl rfl)⟩
    · split at h
      · rename_i hb
        obtain rfl := Option.some.inj h
        exact ⟨Or.inr (Or.inl hb.symm), Or.inl rfl⟩
      · have := join_mem h
        exact ⟨Or.inr (Or.inr this.1), Or.inr (Or.inr this.2)⟩
theorem join_back {e f : EndD} : ∀ {js : List (EndD × EndD)}, (endsJ js).Nodup → (∀ j ∈ js, j.1 ≠ j.2) → joinF e js = some f → joinF f js = some e ∧ f ≠ e
  | (a, b) :: r, hd, hne, h => by
    have hab : a ≠ b := hne (a, b) (by simp)
    have hd' : a ≠ b ∧ a ∉ endsJ r ∧ b ∉ endsJ r ∧ (endsJ r).Nodup := by
      simp only [endsJ, List.flatMap_cons, List.cons_append, List.nil_append, List.nodup_cons, List.mem_cons, not_or] at hd
      exact ⟨hd.1.1, hd.1.2, hd.2.1, hd.2.2⟩
    unfold joinF at h
    split at h
    · rename_i ha
      obtain rfl := Option.some.inj h
      subst ha
      exact ⟨by rw [joinF, if_neg hab, if_pos rfl], fun h => hab h.symm⟩
    · rename_i ha
      split at h
      · rename_i hb
        obtain rfl := Option.some.inj h
        subst hb
        exact ⟨by rw [joinF, if_pos rfl], hab⟩
      · have hm := join_mem h
        obtain ⟨h1, h2⟩ := join_back hd'.2.2.2 (fun j hj => hne j (by simp [hj])) h
        refine ⟨?_, h2⟩
        rw [joinF, if_neg, if_neg, h1]
        · rintro rfl; exact hd'.2.2.1 hm.2
        · rintro rfl; exact hd'.2.1 hm.2
theorem sig_mem {e : EndD} : ∀ {ss : List SigD} {i : Nat}, 0 ≤ sigF e i ss → ∃ s ∈ ss, s.at_ = e
  | [], i, h => by simp [sigF] at h
  | s :: r, i, h => by
    unfold sigF at h
    split at h
    · rename_i hs; exact ⟨s, by simp, hs⟩
    · obtain ⟨t, ht, he⟩ := sig_mem h
      exact ⟨t, by simp [ht], he⟩
theorem sig_none {e : EndD} : ∀ {ss : List SigD} {i : Nat}, sigF e i ss < 0 → ∀ s ∈ ss, s.at_ ≠ e
  | [], i, h => by simp
  | s :: r, i, h => by
    unfold sigF at h
    split at h
    · omega
    · rename_i hs
      intro t ht
      rcases List.mem_cons.1 ht with rfl | ht
      · exact hs
      · exact sig_none h t ht
theorem ends_ex {L : LayD} {nm : L8 → Bool} (V : Valid nm L) {e : EndD} (h : e ∈ endsJ L.joints) : exS L.els e = true := by
  have hj := V.jn
  unfold jnB at hj
  rw [List.all_eq_true] at hj
  unfold endsJ at h
  obtain ⟨j, hjm, he⟩ := List.mem_flatMap.1 h
  have := hj j hjm
  simp only [Bool.and_eq_true] at this
  simp only [List.mem_cons, List.mem_nil_iff, or_false] at he
  rcases he with rfl | rfl
  · exact this.1
  · exact this.2.1
theorem valid_ne {L : LayD} {nm : L8 → Bool} (V : Valid nm L) : ∀ j ∈ L.joints, j.1 ≠ j.2 := by
  have hj := V.jn
  unfold jnB at hj
  rw [List.all_eq_true] at hj
  intro j hm
  have := hj j hm
  simp only [Bool.and_eq_true, Bool.not_eq_true', beq_eq_false_iff_ne] at this
  exact this.2.2
theorem valid_join {L : LayD} {nm : L8 → Bool} (V : Valid nm L) {e f : EndD} (h : joinF e L.joints = some f) : joinF f L.joints = some e ∧ f ≠ e ∧ exS L.els f = true := by
  have hd : (endsJ L.joints).Nodup := by have := V.jd; unfold jdB at this; exact of_decide_eq_true this
  obtain ⟨h1, h2⟩ := join_back hd (valid_ne V) h
  exact ⟨h1, h2, ends_ex V (join_mem h).2⟩
theorem valid_sig {L : LayD} {nm : L8 → Bool} (V : Valid nm L) {e : EndD} (h : 0 ≤ sigF e 0 L.sigs) : ∃ f, joinF e L.joints = some f ∧ elAt L.els f.1 ElD.sec ≠ elAt L.els e.1 ElD.sec := by
  obtain ⟨s, hs, rfl⟩ := sig_mem h
  have hu := V.su
  unfold suB at hu
  rw [List.all_eq_true] at hu
  have := hu s hs
  unfold unsB at this
  split at this
  · rename_i f hf
    exact ⟨f, hf, by simpa using this⟩
  · cases this
/-! ### parts removed -/
theorem range_all_congr {n : Nat} {p q : Nat → Bool} (h : ∀ k, p k = q k) : (List.range n).all p = (List.range n).all q := by
  have : p = q := funext h
  rw [this]
theorem nodup_sub {α : Type} {a b : List α} (h : a.Sublist b) (hd : b.Nodup) : a.Nodup := hd.sublist h
theorem valid_bal {nm : L8 → Bool} {L : LayD} (V : Valid nm L) (b : List BalD) (h : b.Sublist L.bals) : Valid nm { L with bals := b } := by
  refine ⟨?_, V.nam, V.dup, V.el, V.sec, V.jn, V.jd, V.sg, V.sd, V.su, ?_, ?_⟩
  · have := V.lim
    have hl := h.length_le
    unfold limB at this ⊢
    rw [decide_eq_true_eq] at this ⊢
    exact ⟨this.1, this.2.1, this.2.2.1, this.2.2.2.1, this.2.2.2.2.1, Nat.le_trans hl this.2.2.2.2.2⟩
  · have := V.bl
    unfold blB at this ⊢
    rw [List.all_eq_true] at this ⊢
    exact fun x hx => this x (h.subset hx)
  · have := V.bd
    unfold bdB at this ⊢
    rw [decide_eq_true_eq] at this ⊢
    exact this.sublist (h.map _)
theorem valid_sigs {nm : L8 → Bool} {L : LayD} (V : Valid nm L) (b : List SigD) (h : b.Sublist L.sigs) : Valid nm { L with sigs := b } := by
  have all : ∀ {p : SigD → Bool}, L.sigs.all p = true → b.all p = true := fun {p} hp => by
    rw [List.all_eq_true] at hp ⊢
    exact fun x hx => hp x (h.subset hx)
  refine ⟨?_, ?_, ?_, V.el, V.sec, V.jn, V.jd, all V.sg, ?_, all V.su, V.bl, V.bd⟩
  · have := V.lim
    have hl := h.length_le
    unfold limB at this ⊢
    rw [decide_eq_true_eq] at this ⊢
    exact ⟨this.1, this.2.1, this.2.2.1, this.2.2.2.1, Nat.le_trans hl this.2.2.2.2.1, this.2.2.2.2.2⟩
  · have := V.nam
    unfold namB at this ⊢
    simp only [Bool.and_eq_true] at this ⊢
    exact ⟨this.1, this.2.1, this.2.2.1, all this.2.2.2⟩
  · have := V.dup
    unfold dupB at this ⊢
    simp only [Bool.and_eq_true, decide_eq_true_eq] at this ⊢
    exact ⟨this.1, this.2.1, this.2.2.sublist (h.map _)⟩
  · have := V.sd
    unfold sdB at this ⊢
    rw [decide_eq_true_eq] at this ⊢
    exact this.sublist (h.map _)
theorem join_erase {e : EndD} : ∀ (js : List (EndD × EndD)) (i : Nat) (j : EndD × EndD), js[i]? = some j → j.1 ≠ e → j.2 ≠ e → joinF e (js.eraseIdx i) = joinF e js
  | [], i, j, h, _, _ => by simp at h
  | (a, b) :: r, 0, j, h, h1, h2 => by
    simp at h; subst h
    simp only [List.eraseIdx_cons_zero]
    rw [joinF, if_neg h1, if_neg h2]
  | (a, b) :: r, i + 1, j, h, h1, h2 => by
    simp only [List.eraseIdx_cons_succ]
    rw [joinF, joinF, join_erase r i j (by simpa using h) h1 h2]
theorem ends_sub {a b : List (EndD × EndD)} (h : a.Sublist b) : (endsJ a).Sublist (endsJ b) := by
  induction h with
  | slnil => exact List.Sublist.refl _
  | cons x _ ih => exact ih.trans (List.sublist_append_right _ _)
  | cons_cons x _ ih => exact (List.Sublist.refl _).append ih
theorem valid_joints {nm : L8 → Bool} {L : LayD} (V : Valid nm L) (i : Nat) (j : EndD × EndD) (hj : L.joints[i]? = some j) (h1 : sigF j.1 0 L.sigs < 0) (h2 : sigF j.2 0 L.sigs < 0) :
    Valid nm { L with joints := L.joints.eraseIdx i } := by
  have hs : (L.joints.eraseIdx i).Sublist L.joints := List.eraseIdx_sublist _ _
  refine ⟨V.lim, V.nam, V.dup, V.el, V.sec, ?_, ?_, V.sg, V.sd, ?_, V.bl, V.bd⟩
  · have := V.jn
    unfold jnB at this ⊢
    rw [List.all_eq_true] at this ⊢
    exact fun x hx => this x (hs.subset hx)
  · have := V.jd
    unfold jdB at this ⊢
    rw [decide_eq_true_eq] at this ⊢
    exact this.sublist (ends_sub hs)
  · have := V.su
    unfold suB at this ⊢
    rw [List.all_eq_true] at this ⊢
    intro s hm
    have := this s hm
    unfold unsB at this ⊢
    simp only
    rw [join_erase L.joints i j hj (fun h => sig_none h1 s hm h.symm) (fun h => sig_none h2 s hm h.symm)]
    exact this
theorem valid_check {nm : L8 → Bool} {L : LayD} (h : checkS nm L = 0) : Valid nm L := (valid_iff nm L).1 h
/-! ### members, names and points -/
theorem memG_mem (s : Int) : ∀ (els : List ElD) (i : Nat) (n : Int), n ∈ memG s i els ↔ ∃ k x, els[k]? = some x ∧ x.sec = s ∧ n = ((i + k : Nat) : Int)
  | [], i, n => by simp [memG]
  | x :: xs, i, n => by
    have ih := memG_mem s xs (i + 1) n
    unfold memG
    constructor
    · intro h
      split at h
      · rename_i hx
        rcases List.mem_cons.1 h with rfl | h
        · exact ⟨0, x, rfl, hx, by simp⟩
        · obtain ⟨k, y, hy, hs, hn⟩ := ih.1 h
          exact ⟨k + 1, y, by simpa using hy, hs, by rw [hn]; congr 1; omega⟩
      · obtain ⟨k, y, hy, hs, hn⟩ := ih.1 h
        exact ⟨k + 1, y, by simpa using hy, hs, by rw [hn]; congr 1; omega⟩
    · rintro ⟨k, y, hy, hs, hn⟩
      cases k with
      | zero =>
        simp at hy; subst hy
        rw [if_pos hs, hn]; simp
      | succ k =>
        have : n ∈ memG s (i + 1) xs := ih.2 ⟨k, y, by simpa using hy, hs, by rw [hn]; congr 1; omega⟩
        split
        · exact List.mem_cons_of_mem _ this
        · exact this
theorem memG_asc (s : Int) : ∀ (els : List ElD) (i : Nat), (memG s i els).Pairwise (· < ·) ∧ ∀ n ∈ memG s i els, (i : Int) ≤ n
  | [], i => by simp [memG]
  | x :: xs, i => by
    obtain ⟨h1, h2⟩ := memG_asc s xs (i + 1)
    unfold memG
    split
    · refine ⟨List.pairwise_cons.2 ⟨fun n hn => by have := h2 n hn; omega, h1⟩, fun n hn => ?_⟩
      rcases List.mem_cons.1 hn with rfl | hn
      · omega
      · have := h2 n hn; omega
    · exact ⟨h1, fun n hn => by have := h2 n hn; omega⟩
theorem nameF_at : ∀ (els : List ElD) (i k : Nat) (x : ElD), (els.map ElD.name).Nodup → els[k]? = some x → nameF x.name i els = ((i + k : Nat) : Int)
  | [], i, k, x, _, h => by simp at h
  | y :: r, i, 0, x, _, h => by
    simp at h; subst h
    rw [nameF, if_pos rfl]; simp
  | y :: r, i, k + 1, x, hd, h => by
    simp only [List.map_cons, List.nodup_cons] at hd
    have hr : r[k]? = some x := by simpa using h
    have hne : y.name ≠ x.name := fun e => hd.1 (by rw [e]; exact List.mem_map_of_mem (List.mem_of_getElem? hr))
    rw [nameF, if_neg hne, nameF_at r (i + 1) k x hd.2 hr]
    congr 1; omega
end
section
open Go.ChangeShapes Go.WideShapes Go.ChangeAt Go.RowKit
/-- What the cells of a slice of elements of m cells hold. -/
def MCells (w : World) (a : Option Addr) (m : Nat) (vss : List (List Value)) : Prop :=
  ∀ (j : Nat) r, vss[j]? = some r → ∃ b off, a = some ⟨b, off, none⟩ ∧ b < w.heap.size ∧ ∀ (i : Nat) x, r[i]? = some x → w.cell? ⟨b, off + j * m + i, none⟩ = some x
/-- A slice value whose elements take m cells each, read in a world. -/
def RM (w : World) (v : Value) (m : Nat) (vss : List (List Value)) : Prop :=
  ∃ a cap, v = .slice a vss.length cap ∧ (vss.length ≤ 9223372036854775807 ∧ vss.length ≤ cap) ∧ MCells w a m vss
theorem MCells.below {w w' : World} {a : Option Addr} {m : Nat} {vss : List (List Value)} (h : MCells w a m vss) (hb : Below w.heap.size w w') : MCells w' a m vss := by
  intro j r hr
  obtain ⟨b, off, ha, hlt, hc⟩ := h j r hr
  exact ⟨b, off, ha, Nat.lt_of_lt_of_le hlt hb.size, fun i x hx => (hb.cell (p := ⟨b, off + j * m + i, none⟩) hlt).trans (hc i x hx)⟩
theorem RM.below {w w' : World} {v : Value} {m : Nat} {vss : List (List Value)} (h : RM w v m vss) (hb : Below w.heap.size w w') : RM w' v m vss := by
  obtain ⟨a, cap, hv, hm, hc⟩ := h
  exact ⟨a, cap, hv, hm, hc.below hb⟩
def elV (x : ElD) : List Value := [str x.name, .int .i64 x.kind, .int .i64 x.length, .int .i64 x.grade, .int .i64 x.speed, .int .i64 x.slow, .int .i64 x.sec]
def joV (j : EndD × EndD) : List Value := [.int .i64 j.1.1, .int .i64 j.1.2, .int .i64 j.2.1, .int .i64 j.2.2]
def sgV (s : SigD) : List Value := [str s.name, .int .i64 s.at_.1, .int .i64 s.at_.2, .int .i64 s.overlap]
def blV (b : BalD) : List Value := [.int .i64 b.id, .int .i64 b.el, .int .i64 b.off]
def enV (e : EndD) : List Value := [.int .i64 e.1, .int .i64 e.2]
/-- A layout as a value, read in a world. -/
def RLay (w : World) (v : Value) (L : LayD) : Prop :=
  ∃ v1 v2 v3 v4 v5, v = .agg #[str L.name, v1, v2, v3, v4, v5] ∧ RS w v1 (strsV L.secs) ∧ RM w v2 7 (L.els.map elV) ∧ RM w v3 4 (L.joints.map joV) ∧ RM w v4 4 (L.sigs.map sgV) ∧ RM w v5 3 (L.bals.map blV)
theorem RLay.below {w w' : World} {v : Value} {L : LayD} (h : RLay w v L) (hb : Below w.heap.size w w') : RLay w' v L := by
  obtain ⟨v1, v2, v3, v4, v5, hv, h1, h2, h3, h4, h5⟩ := h
  exact ⟨v1, v2, v3, v4, v5, hv, h1.below hb, h2.below hb, h3.below hb, h4.below hb, h5.below hb⟩
theorem RM.openM {α : Type} {w : World} {v : Value} {m : Nat} {l : List α} {f : α → List Value} (h : RM w v m (l.map f)) :
    ∃ a cap, v = .slice a l.length cap ∧ (l.length ≤ 9223372036854775807 ∧ l.length ≤ cap) ∧ Hid (MCells w a m (l.map f)) := by
  obtain ⟨a, cap, hv, hm, hc⟩ := h
  rw [List.length_map] at hv hm
  exact ⟨a, cap, hv, hm, Lib.hid hc⟩
theorem MCells.rm {α : Type} {w : World} {a : Option Addr} {cap m : Nat} {l : List α} {f : α → List Value} (h : MCells w a m (l.map f)) (hm : l.length ≤ 9223372036854775807 ∧ l.length ≤ cap) : RM w (.slice a l.length cap) m (l.map f) :=
  ⟨a, cap, by rw [List.length_map], by rw [List.length_map]; exact hm, h⟩
/-- One element, its cells in a later world. -/
theorem MCells.rd {α : Type} {w wr : World} {a : Option Addr} {m : Nat} {l : List α} {f : α → List Value} {k : Nat} {y : α} (h : MCells w a m (l.map f)) (hb : Below w.heap.size w wr) (hy : l[k]? = some y) :
    ∃ b off, a = some ⟨b, off, none⟩ ∧ b < wr.heap.size ∧ ∀ (i : Nat) x, (f y)[i]? = some x → wr.cell? ⟨b, off + k * m + i, none⟩ = some x := by
  obtain ⟨b, off, ha, hlt, hc⟩ := h k (f y) (by simp [hy])
  exact ⟨b, off, ha, Nat.lt_of_lt_of_le hlt hb.size, fun i x hx => (hb.cell (p := ⟨b, off + k * m + i, none⟩) hlt).trans (hc i x hx)⟩
/-- A block of a world, as the call laid it. -/
def Blk (w : World) (n : Nat) (cs : Array Value) : Prop := ∃ t, w.heap[n]? = some (.cells cs t (0, 0))
theorem Blk.at {w : World} {n : Nat} {cs : Array Value} (h : Blk w n cs) (j : Nat) (x : Value) (hx : cs[j]? = some x) : w.cell? ⟨n, j, none⟩ = some x := by
  obtain ⟨t, h⟩ := h
  rw [cell_of_row w n j cs t (0, 0) h]; exact hx
theorem Blk.free {w : World} {n : Nat} {cs : Array Value} (h : Blk w n cs) (j : Nat) : w.frozen? ⟨n, j, none⟩ = false := by
  obtain ⟨t, h⟩ := h
  simp [World.frozen?, h]
theorem Blk.lt {w : World} {n : Nat} {cs : Array Value} (h : Blk w n cs) : n < w.heap.size := by
  obtain ⟨t, h⟩ := h
  exact (Array.getElem?_eq_some_iff.1 h).1
theorem Blk.below {w w' : World} {n : Nat} {cs : Array Value} (h : Blk w n cs) (hb : Below w.heap.size w w') : Blk w' n cs := by
  have hl := h.lt
  obtain ⟨t, h⟩ := h
  exact ⟨t, by rw [hb.block n hl]; exact h⟩
theorem Blk.new (w : World) (cs : Array Value) (t : TypeId) (n : Nat) (hn : n = w.heap.size) : Blk (w.alloc (.cells cs t)) n cs := by
  subst hn
  exact ⟨t, heap_alloc_new w _⟩
theorem Blk.old {w : World} {n : Nat} {cs : Array Value} (h : Blk w n cs) (o : Obj) : Blk (w.alloc o) n cs := h.below ((Below.refl _ _).alloc (Nat.le_refl _) _)
theorem Blk.set {w : World} {n : Nat} {cs : Array Value} (h : Blk w n cs) (j : Nat) (v : Value) : Blk (w.setCell ⟨n, j, none⟩ v) n (cs.setIfInBounds j v) := by
  obtain ⟨t, h⟩ := h
  refine ⟨t, ?_⟩
  simp only [World.setCell, Array.getElem?_modify, ↓reduceIte, h, Option.map_some]
  simp
theorem Blk.other {w : World} {n m : Nat} {cs : Array Value} (h : Blk w n cs) (hne : n ≠ m) (j : Nat) (v : Value) : Blk (w.setCell ⟨m, j, none⟩ v) n cs := by
  obtain ⟨t, h⟩ := h
  exact ⟨t, by rw [Below.heap_setCell _ _ _ _ hne]; exact h⟩
/-- A struct that is a result and lies in a block of its own, beside a second result. -/
theorem ret_cell2 {P : Program} {fn : Func} {p u : Tmp} {ty : TypeId} {R : Ending → World → Prop} {a : Act} {w : World} (hr : fn.results = #[.cell p ty, .tmp u]) {d : TypeDesc} (hu : P.underlying ty = some d)
    (hd : (match d with | .struct _ | .array _ _ => true | _ => false) = true) {n : Nat} {cs : Array Value} (hi : (P.info? ty).map (·.size) = some cs.size) (hp : a.tmps.getD p undef = .pointer (some ⟨n, 0, none⟩))
    (hB : Blk w n cs) (hf : a.defers = []) (hR : R (.returned (.tuple #[.agg cs, a.tmps.getD u undef])) w) : bodyPost P fn R .ret a w := by
  obtain ⟨t, h⟩ := hB
  refine bodyPost_ret (v := .tuple #[.agg cs, a.tmps.getD u undef]) ?_ hf hR
  rw [results_cell_tmp hr, hp]
  simp [asAddr, run_loadVar_row w n t ty cs (0, 0) d h hu hd hi]
theorem alloc_below {B : Nat} {a w : World} (h : Below B a w) (hs : B ≤ a.heap.size) (o : Obj) : Below B a (w.alloc o) := h.alloc (Nat.le_trans hs h.size) o
theorem drop_get {α : Type} {l : List α} {k : Nat} {y : α} (h : l[k]? = some y) : l.drop k = y :: l.drop (k + 1) := by
  obtain ⟨h1, h2⟩ := List.getElem?_eq_some_iff.1 h
  rw [List.drop_eq_getElem_cons h1, h2]
end
section
open Go.ChangeShapes Go.WideShapes Go.ChangeAt Go.RowKit
theorem equal_end (a b c d : Int) (w : World) : (Op.equalIn 10000 47 (.agg #[.int .i64 a, .int .i64 b]) (.agg #[.int .i64 c, .int .i64 d])).run Tryz.prog w = .ok (((a, b) : EndD) == (c, d)) w := by
  rw [run_equalIn_struct w 9999 47 _ _ (by kernel_rfl) (by kernel_rfl)]
  have e : (((a, b) : EndD) == (c, d)) = ((a == c) && (b == d)) := rfl
  rw [e]
  cases h1 : (a == c) <;> cases h2 : (b == d) <;> simp [Program.fieldsOf, Tryz.underlying47, Op.eqFields, part, Sem.run_bind, Sem.run_ite, run_equalIn_int w _ 3 _ _ _ _ Tryz.underlying3, h1, h2]
theorem eql_end (a b c d : Int) (w : World) : (binOp .eql 47 (.agg #[.int .i64 a, .int .i64 b]) (.agg #[.int .i64 c, .int .i64 d])).run Tryz.prog w = .ok (.bool (((a, b) : EndD) == (c, d))) w := by
  rw [run_eql_struct, equal_end]; rfl
theorem neq_end (a b c d : Int) (w : World) : (binOp .neq 47 (.agg #[.int .i64 a, .int .i64 b]) (.agg #[.int .i64 c, .int .i64 d])).run Tryz.prog w = .ok (.bool (!(((a, b) : EndD) == (c, d)))) w := by
  rw [run_neq_struct, equal_end]; rfl
end
section
open Go.ChangeMaps
open Go.ChangeShapes Go.WideShapes Go.ChangeAt Go.RowKit
open Go.MapKept Go.Maps
section
set_option linter.unusedSectionVars false
variable {κ ν : Type} [DecidableEq κ]
def lookM (x : κ) : List (κ × ν) → Option ν
  | [] => none
  | (a, b) :: r => if a = x then some b else lookM x r
def putM (x : κ) (v : ν) : List (κ × ν) → List (κ × ν)
  | [] => [(x, v)]
  | (a, b) :: r => if a = x then (x, v) :: r else (a, b) :: putM x v r
theorem lookM_put (x y : κ) (v : ν) : ∀ m : List (κ × ν), lookM y (putM x v m) = if x = y then some v else lookM y m
  | [] => by simp only [putM, lookM]
  | (a, b) :: r => by
    unfold putM
    by_cases h : a = x
    · rw [if_pos h]
      subst h
      by_cases h2 : a = y
      · simp [lookM, h2]
      · simp [lookM, h2]
    · rw [if_neg h]
      simp only [lookM]
      rw [lookM_put x y v r]
      by_cases h2 : a = y
      · subst h2
        rw [if_pos rfl, if_pos rfl, if_neg (fun e : x = a => h e.symm)]
      · rw [if_neg h2, if_neg h2]
theorem putM_new (x : κ) (v : ν) : ∀ m : List (κ × ν), lookM x m = none → putM x v m = m ++ [(x, v)]
  | [], _ => rfl
  | (a, b) :: r, h => by
    unfold lookM at h
    split at h
    · cases h
    · rename_i hn
      rw [putM, if_neg hn, putM_new x v r h]; rfl
theorem lookM_none (x : κ) : ∀ m : List (κ × ν), lookM x m = none ↔ x ∉ m.map Prod.fst
  | [] => by simp [lookM]
  | (a, b) :: r => by
    unfold lookM
    by_cases h : a = x
    · simp [h]
    · rw [if_neg h, lookM_none x r, List.map_cons, List.mem_cons, not_or]
      exact ⟨fun hh => ⟨fun e => h e.symm, hh⟩, fun hh => hh.2⟩
variable (kv : κ → Value) (vv : ν → Value)
/-- BLOCK b OF w IS A MAP WITH THESE ENTRIES. -/
def OwnM (w : World) (b : Nat) (m : List (κ × ν)) : Prop :=
  ∃ es clock, w.heap[b]? = some (.map es clock) ∧ es.toList.map (fun e => (e.key, e.val)) = m.map (fun p => (kv p.1, vv p.2))
/-- What is asked of the key's type. -/
structure Key (P : Program) (k : TypeId) (kv : κ → Value) : Prop where
  inj : ∀ {x y}, kv x = kv y → x = y
  check : ∀ (w : World) (em : Bool) (x : κ), (Instr.checkKey em 10000 k (kv x)).run P w = .ok () w
  find : ∀ (w : World) (x : κ) (es : List MapEntry), (∀ e ∈ es, ∃ y, e.key = kv y) →
    ((Instr.findKey k (kv x) es).run P w = .ok none w ∧ ∀ e ∈ es, e.key ≠ kv x) ∨ ∃ j e, (Instr.findKey k (kv x) es).run P w = .ok (some (j, e.val)) w ∧ es[j]? = some e ∧ e.key = kv x
  stays : ∀ (w : World) (x : κ), (Instr.keyThatStays (kv x) (kv x)).run P w = .ok (kv x) w
theorem Key.plain {P : Program} {k : TypeId} {kv : κ → Value} {d : TypeDesc} (hd : P.underlying k = some d) (hk : ∀ x, IsKey d (kv x)) (hi : ∀ {x y}, kv x = kv y → x = y) : Key P k kv where
  inj := hi
  check w em x := run_checkKey hd (hk x) em 9999
  find w x es hes := by
    rcases findNow_spec (hk x) es 0 (fun e he => by obtain ⟨y, hy⟩ := hes e he; rw [hy]; exact hk y) with ⟨h1, h2⟩ | ⟨j, e0, h1, h2, h3⟩
    · exact Or.inl ⟨run_findKey hd h1, h2⟩
    · exact Or.inr ⟨j, e0, by simpa using run_findKey hd h1, h2, h3⟩
  stays w x := run_keyThatStays (hk x)
variable {kv vv} {P : Program} {k : TypeId} {w : World} {b : Nat} {m : List (κ × ν)}
theorem OwnM.lt (h : OwnM kv vv w b m) : b < w.heap.size := by
  obtain ⟨es, clock, hb, _⟩ := h
  exact (Array.getElem?_eq_some_iff.1 hb).1
theorem OwnM.below {w' : World} (h : OwnM kv vv w b m) (hb : Below w.heap.size w w') : OwnM kv vv w' b m := by
  have hl := h.lt
  obtain ⟨es, clock, h1, h2⟩ := h
  exact ⟨es, clock, by rw [hb.block b hl]; exact h1, h2⟩
theorem OwnM.same {w' : World} (h : OwnM kv vv w b m) (hb : w'.heap[b]? = w.heap[b]?) : OwnM kv vv w' b m := by
  obtain ⟨es, clock, h1, h2⟩ := h
  exact ⟨es, clock, hb.trans h1, h2⟩
theorem OwnM.made (w : World) : OwnM kv vv (w.alloc (.map #[] 0)) w.heap.size ([] : List (κ × ν)) :=
  ⟨#[], 0, (MapKept.heap_alloc w _).1, by simp⟩
theorem find_list (K : Key P k kv) (w : World) (x : κ) (es : List MapEntry) (m : List (κ × ν)) (h : es.map (fun e => (e.key, e.val)) = m.map (fun p => (kv p.1, vv p.2))) (hu : (m.map Prod.fst).Nodup) :
    ((Instr.findKey k (kv x) es).run P w = .ok none w ∧ lookM x m = none) ∨
    ∃ j e v, (Instr.findKey k (kv x) es).run P w = .ok (some (j, e.val)) w ∧ es[j]? = some e ∧ e.key = kv x ∧ lookM x m = some v ∧ e.val = vv v ∧ m[j]? = some (x, v) := by
  have hkeys : ∀ e ∈ es, ∃ y, e.key = kv y := by
    intro e he
    have : (e.key, e.val) ∈ es.map (fun e => (e.key, e.val)) := List.mem_map_of_mem he
    rw [h] at this
    obtain ⟨p, _, hp⟩ := List.mem_map.1 this
    exact ⟨p.1, (Prod.mk.inj hp).1.symm⟩
  rcases K.find w x es hkeys with ⟨h1, h2⟩ | ⟨j, e, h1, h2, h3⟩
  · refine Or.inl ⟨h1, (lookM_none x m).2 fun hx => ?_⟩
    obtain ⟨p, hp, hpx⟩ := List.mem_map.1 hx
    have : (kv p.1, vv p.2) ∈ m.map (fun p => (kv p.1, vv p.2)) := List.mem_map_of_mem hp
    rw [← h] at this
    obtain ⟨e, he, hee⟩ := List.mem_map.1 this
    exact h2 e he (by rw [(Prod.mk.inj hee).1, hpx])
  · refine Or.inr ⟨j, e, ?_⟩
    have hj : (es.map (fun e => (e.key, e.val)))[j]? = some (e.key, e.val) := by simp [h2]
    rw [h, List.getElem?_map, Option.map_eq_some_iff] at hj
    obtain ⟨⟨p, v⟩, hp, hpe⟩ := hj
    have e1 := (Prod.mk.inj hpe).1
    have e2 := (Prod.mk.inj hpe).2
    have hpx : p = x := K.inj (by rw [e1, h3])
    subst hpx
    refine ⟨v, h1, h2, h3, ?_, e2.symm, hp⟩
    clear h e1 e2 hpe h1 h2 h3
    induction m generalizing j with
    | nil => simp at hp
    | cons q r ih =>
      obtain ⟨a, c⟩ := q
      cases j with
      | zero =>
        simp at hp
        obtain ⟨rfl, rfl⟩ := hp
        simp [lookM]
      | succ j =>
        simp only [List.map_cons, List.nodup_cons] at hu
        have hr : r[j]? = some (p, v) := by simpa using hp
        have hne : a ≠ p := fun e => hu.1 (by rw [e]; exact List.mem_map_of_mem (List.mem_of_getElem? hr))
        rw [lookM, if_neg hne]
        exact ih hu.2 j hr
/-- 'm[k]', 'v, ok := m[k]'. -/
theorem OwnM.look (h : OwnM kv vv w b m) (K : Key P k kv) (hu : (m.map Prod.fst).Nodup) {t e : TypeId} (ht : P.underlying t = some (.map k e)) {z : Value} (hz : (zeroValue e).run P w = .ok z w) (x : κ) (c : Bool) :
    (Instr.lookup t (.map (some b)) (kv x) c).run P w = .ok (if c then .tuple #[((lookM x m).map vv).getD z, .bool (lookM x m).isSome] else ((lookM x m).map vv).getD z) w := by
  obtain ⟨es, clock, hb, hm⟩ := h
  rcases find_list K w x es.toList m hm hu with ⟨h1, h2⟩ | ⟨j, e0, v, h1, _, _, h4, h5, _⟩
  · simp [Instr.lookup, run_underlying ht, MapKept.run_getObj_map hb, K.check, h1, h2, hz, Result.andThen]
  · simp [Instr.lookup, run_underlying ht, MapKept.run_getObj_map hb, K.check, h1, h4, h5, Result.andThen]
theorem keys_put (x : κ) (v : ν) : ∀ m : List (κ × ν), (m.map Prod.fst).Nodup → ((putM x v m).map Prod.fst).Nodup ∧ ∀ y, y ∈ (putM x v m).map Prod.fst → y = x ∨ y ∈ m.map Prod.fst
  | [], _ => by simp [putM]
  | (a, c) :: r, h => by
    simp only [List.map_cons, List.nodup_cons] at h
    obtain ⟨h1, h2⟩ := keys_put x v r h.2
    unfold putM
    split
    · rename_i ha
      subst ha
      simp only [List.map_cons, List.nodup_cons]
      exact ⟨h, fun y hy => Or.inr hy⟩
    · rename_i ha
      simp only [List.map_cons, List.nodup_cons]
      refine ⟨⟨fun hc => ?_, h1⟩, fun y hy => ?_⟩
      · rcases h2 a hc with rfl | hc
        · exact ha rfl
        · exact h.1 hc
      · rcases List.mem_cons.1 hy with rfl | hy
        · exact Or.inr (by simp)
        · rcases h2 y hy with rfl | hy
          · exact Or.inl rfl
          · exact Or.inr (List.mem_cons_of_mem _ hy)
theorem put_at {x : κ} {v v0 : ν} : ∀ {m : List (κ × ν)} {j : Nat}, (m.map Prod.fst).Nodup → m[j]? = some (x, v0) → putM x v m = m.set j (x, v)
  | [], j, _, h => by simp at h
  | (a, c) :: r, 0, _, h => by
    simp at h
    obtain ⟨rfl, rfl⟩ := h
    simp [putM]
  | (a, c) :: r, j + 1, hu, h => by
    simp only [List.map_cons, List.nodup_cons] at hu
    have hr : r[j]? = some (x, v0) := by simpa using h
    have hne : a ≠ x := fun e => hu.1 (by rw [e]; exact List.mem_map_of_mem (List.mem_of_getElem? hr))
    rw [putM, if_neg hne, put_at hu.2 hr, List.set_cons_succ]
/-- 'm[k] = v'. -/
theorem OwnM.store (h : OwnM kv vv w b m) (K : Key P k kv) (hu : (m.map Prod.fst).Nodup) {t e : TypeId} (ht : P.underlying t = some (.map k e)) (x : κ) (v : ν) :
    ∃ w', (Instr.mapUpdate t (.map (some b)) (kv x) (vv v)).run P w = .ok () w' ∧ OwnM kv vv w' b (putM x v m) ∧ w.grownBy w' (some b) := by
  obtain ⟨es, clock, hb, hm⟩ := h
  have hg : ∀ o, w.grownBy (setBlock w b o) (some b) := fun o => ⟨rfl, rfl, rfl, by simp [setBlock], fun i _ hi => heap_setBlock_other hb _ (fun e => hi (by rw [e]))⟩
  rcases find_list K w x es.toList m hm hu with ⟨h1, h2⟩ | ⟨j, e0, v0, h1, h3, h3k, h4, h5, h6⟩
  · refine ⟨setBlock w b (.map (es.push { key := kv x, val := vv v, born := clock }) (clock + 1)), ?_, ⟨_, _, heap_setBlock_same hb _, ?_⟩, hg _⟩
    · simp [Instr.mapUpdate, run_underlying ht, MapKept.run_getObj_map hb, K.check, h1, MapKept.run_setObj_map _ hb, setBlock, Result.andThen]
    · rw [putM_new x v m h2]; simp [hm]
  · have hj : es[j]? = some e0 := by rw [← Array.getElem?_toList]; exact h3
    refine ⟨setBlock w b (.map (es.modify j fun e => { e with key := kv x, val := vv v }) clock), ?_, ⟨_, _, heap_setBlock_same hb _, ?_⟩, hg _⟩
    · simp [Instr.mapUpdate, run_underlying ht, MapKept.run_getObj_map hb, K.check, h1, hj, h3k, K.stays, MapKept.run_setObj_map _ hb, setBlock, Result.andThen]
    · rw [put_at hu h6]
      have : (es.modify j fun e => { e with key := kv x, val := vv v }).toList = es.toList.modify j fun e => { e with key := kv x, val := vv v } := by simp
      rw [this, List.map_set, ← hm]
      apply List.ext_getElem?
      intro i
      simp only [List.getElem?_map, List.getElem?_modify, List.getElem?_set]
      by_cases hi : j = i
      · subst hi
        have hlt : j < es.size := (Array.getElem?_eq_some_iff.1 hj).1
        simp [hlt]
      · simp [hi]
theorem OwnM.len (h : OwnM kv vv w b m) {t e : TypeId} (ht : P.underlying t = some (.map k e)) (ty : TypeId) : (Builtin.len_ #[t] ty #[.map (some b)]).run P w = .ok (.int .i64 m.length) w := by
  obtain ⟨es, clock, hb, hm⟩ := h
  have e1 : es.size = m.length := by have := congrArg List.length hm; simpa using this
  simp [Builtin.len_, run_underlying ht, MapKept.run_getObj_map hb, goInt, Result.andThen, e1]
end
/-- 'm[k] = v' at the operation. -/
theorem wpList_store {κ ν : Type} [DecidableEq κ] {kv : κ → Value} {vv : ν → Value} {P : Program} (w : World) {ops : Array Oper} {rest : List Oper} {o : Oper} {a : Act} {Q : Exit → Act → World → Prop}
    (hg : o.guard = none) (m x v : Operand) (t : TypeId) (hop : o.op = Op.mapUpdate t m x v)
    (k e : TypeId) (K : Key P k kv) (ht : P.underlying t = some (.map k e)) (b : Nat) (M : List (κ × ν)) (hm : a.eval m = .map (some b)) (hown : OwnM kv vv w b M) (hu : (M.map Prod.fst).Nodup) (x0 : κ) (v0 : ν)
    (hx : a.eval x = kv x0) (hv : a.eval v = vv v0)
    (hK : ∀ w', OwnM kv vv w' b (putM x0 v0 M) → w.grownBy w' (some b) → wpList P ops Q rest (a.put o.dst undef) w') :
    wpList P ops Q (o :: rest) a w := by
  refine wpList_plain hg fun K' hK' => ?_
  obtain ⟨w', hrun, r1, r2⟩ := hown.store K hu ht x0 v0
  unfold Oper.wp
  simp [execOp, hop, hm, hx, hv, hrun, Result.andThen]
  exact hK' _ _ (hK w' r1 r2)
/-! ### the keys of this program's maps: texts, numbers, ends -/
theorem key_str : Key Tryz.prog 9 (fun s : L8 => str s) := Key.plain Tryz.underlying9 (fun x => trivial) (fun {x y} h => by simpa using h)
theorem key_int : Key Tryz.prog 3 (fun n : Int => Value.int .i64 n) := Key.plain Tryz.underlying3 (fun x => rfl) (fun {x y} h => by simpa using h)
abbrev endV (e : EndD) : Value := .agg #[.int .i64 e.1, .int .i64 e.2]
theorem endV_inj {x y : EndD} (h : endV x = endV y) : x = y := by
  obtain ⟨a, b⟩ := x; obtain ⟨c, d⟩ := y
  simpa [endV] using h
theorem asking_end (w : World) (x : EndD) : ∀ (es : List MapEntry) (i : Nat), (∀ e ∈ es, ∃ y, e.key = endV y) →
    ((Instr.findAsking 47 (endV x) es i).run Tryz.prog w = .ok none w ∧ ∀ e ∈ es, e.key ≠ endV x) ∨ ∃ j e, (Instr.findAsking 47 (endV x) es i).run Tryz.prog w = .ok (some (i + j, e.val)) w ∧ es[j]? = some e ∧ e.key = endV x
  | [], i, _ => Or.inl ⟨rfl, by simp⟩
  | e :: es, i, h => by
    obtain ⟨y, hy⟩ := h e (by simp)
    have hq : (Op.equal 47 (endV x) e.key).run Tryz.prog w = .ok (x == y) w := by rw [hy]; exact equal_end _ _ _ _ w
    by_cases hxy : x = y
    · refine Or.inr ⟨0, e, ?_, rfl, by rw [hy, hxy]⟩
      have hf : (x == y) = true := by simpa using hxy
      rw [hf] at hq
      simp [Instr.findAsking, hq, Result.andThen]
    · have hf : (x == y) = false := by simpa using hxy
      rw [hf] at hq
      rcases asking_end w x es (i + 1) (fun e he => h e (by simp [he])) with ⟨h1, h2⟩ | ⟨j, e0, h1, h2, h3⟩
      · refine Or.inl ⟨by simp [Instr.findAsking, hq, h1, Result.andThen], fun e' he => ?_⟩
        rcases List.mem_cons.1 he with rfl | he
        · rw [hy]; exact fun hh => hxy (endV_inj hh).symm
        · exact h2 e' he
      · refine Or.inr ⟨j + 1, e0, ?_, by simpa using h2, h3⟩
        simp [Instr.findAsking, hq, h1, Result.andThen]; omega
theorem key_end : Key Tryz.prog 47 endV where
  inj := endV_inj
  check w em x := by
    obtain ⟨a, b⟩ := x
    unfold Instr.checkKey
    simp [run_underlying Tryz.underlying47, Result.andThen, part, run_checkKey Tryz.underlying3 (k := .int .i64 a) rfl, run_checkKey Tryz.underlying3 (k := .int .i64 b) rfl]
  find w x es hes := by
    cases es with
    | nil => exact Or.inl ⟨by simp [Instr.findKey, run_underlying Tryz.underlying47, Instr.findNow, Result.andThen], by simp⟩
    | cons e es =>
      obtain ⟨y, hy⟩ := hes e (by simp)
      rcases asking_end w x (e :: es) 0 hes with h | ⟨j, e0, h1, h2, h3⟩
      · exact Or.inl ⟨by simp only [Instr.findKey, Sem.run_bind, run_underlying Tryz.underlying47, Result.andThen_ok, Instr.findNow, Instr.sameNow]; exact h.1, h.2⟩
      · rw [Nat.zero_add] at h1
        exact Or.inr ⟨j, e0, by simp only [Instr.findKey, Sem.run_bind, run_underlying Tryz.underlying47, Result.andThen_ok, Instr.findNow, Instr.sameNow]; exact h1, h2, h3⟩
  stays w x := by
    simp [Instr.keyThatStays, Instr.sameBits]
end
section
open Go.ChangeShapes Go.WideShapes Go.ChangeAt Go.RowKit
theorem rsides_any (k : Int) (w : World) : Calls Tryz.prog 131 #[.int .i64 k] w fun e w' => e = .returned (.int .i64 (sidesS k)) ∧ w = w' := by
  have hk : k = 1 ∨ k = 2 ∨ k = 3 ∨ (k ≠ 1 ∧ k ≠ 2 ∧ k ≠ 3) := by omega
  rcases hk with rfl | rfl | rfl | ⟨h1, h2, h3⟩
  · go_enter Tryz.func131, Tryz.ntmps131
    go_wp2
    go_ret
    exact ⟨rfl, rfl⟩
  · go_enter Tryz.func131, Tryz.ntmps131
    go_wp2
    go_ret
    exact ⟨rfl, rfl⟩
  · go_enter Tryz.func131, Tryz.ntmps131
    go_wp2
    go_ret
    exact ⟨rfl, rfl⟩
  have e : sidesS k = 0 := by unfold sidesS; rw [if_neg h1, if_neg h2, if_neg h3]
  rw [e]
  have b1 : (k == 1) = false := by simpa using h1
  have b2 : (k == 2) = false := by simpa using h2
  have b3 : (k == 3) = false := by simpa using h3
  go_enter Tryz.func131, Tryz.ntmps131
  go_wp2
  go_ret
  exact ⟨rfl, rfl⟩
def fewB (L : LayD) : Bool := decide (L.secs.length ≤ 60) && (decide (L.els.length ≤ 60) && (decide (L.joints.length ≤ 100) && (decide (L.sigs.length ≤ 60) && decide (L.bals.length ≤ 60))))
def fewC (L : LayD) : Bool := decide (L.els.length ≤ 60) && (decide (L.joints.length ≤ 100) && (decide (L.bals.length ≤ 60) && (decide (L.sigs.length ≤ 60) && decide (L.secs.length ≤ 60))))
theorem fewC_eq (L : LayD) : fewC L = fewB L := by
  unfold fewC fewB
  cases decide (L.els.length ≤ 60) <;> cases decide (L.joints.length ≤ 100) <;> cases decide (L.bals.length ≤ 60) <;> cases decide (L.sigs.length ≤ 60) <;> cases decide (L.secs.length ≤ 60) <;> rfl
set_option maxHeartbeats 2000000 in
theorem few8_any (v : Value) (L : LayD) (w : World) (hv : RLay w v L) : Calls Tryz.prog 7 #[v] w (RetB w (fewC L)) := by
  obtain ⟨v1, v2, v3, v4, v5, rfl, h1, h2, h3, h4, h5⟩ := hv
  obtain ⟨a1, c1, rfl, m1, _⟩ := h1.openS
  obtain ⟨a2, c2, rfl, m2, _⟩ := h2.openM
  obtain ⟨a3, c3, rfl, m3, _⟩ := h3.openM
  obtain ⟨a4, c4, rfl, m4, _⟩ := h4.openM
  obtain ⟨a5, c5, rfl, m5, _⟩ := h5.openM
  clear h1 h2 h3 h4 h5
  unfold fewC
  obtain ⟨n1, e1⟩ : ∃ n, L.secs.length = n := ⟨_, rfl⟩
  obtain ⟨n2, e2⟩ : ∃ n, L.els.length = n := ⟨_, rfl⟩
  obtain ⟨n3, e3⟩ : ∃ n, L.joints.length = n := ⟨_, rfl⟩
  obtain ⟨n4, e4⟩ : ∃ n, L.sigs.length = n := ⟨_, rfl⟩
  obtain ⟨n5, e5⟩ : ∃ n, L.bals.length = n := ⟨_, rfl⟩
  obtain ⟨s, es⟩ : ∃ s, str L.name = s := ⟨_, rfl⟩
  rw [e1, e2, e3, e4, e5, es]
  clear e1 e2 e3 e4 e5 es m1 m2 m3 m4 m5
  by_cases t1 : n2 ≤ 60
  · have u1 : decide ((n2 : Int) ≤ 60) = true := by simp; omega
    by_cases t2 : n3 ≤ 100
    · have u2 : decide ((n3 : Int) ≤ 100) = true := by simp; omega
      by_cases t3 : n5 ≤ 60
      · have u3 : decide ((n5 : Int) ≤ 60) = true := by simp; omega
        by_cases t4 : n4 ≤ 60
        · have u4 : decide ((n4 : Int) ≤ 60) = true := by simp; omega
          have u5 : decide (n1 ≤ 60) = decide ((n1 : Int) ≤ 60) := by by_cases t : n1 ≤ 60 <;> simp [t] <;> omega
          rw [decide_eq_true t1, decide_eq_true t2, decide_eq_true t3, decide_eq_true t4, u5]
          clear t1 t2 t3 t4 u5
          go_enter Tryz.func7, Tryz.ntmps7
          go_wp2
          go_ret
          exact ⟨rfl, (Below.refl _ _).alloc (Nat.le_refl _) _⟩
        · have u4 : decide ((n4 : Int) ≤ 60) = false := by simp; omega
          rw [decide_eq_true t1, decide_eq_true t2, decide_eq_true t3, decide_eq_false t4]
          clear t1 t2 t3 t4
          go_enter Tryz.func7, Tryz.ntmps7
          go_wp2
          go_ret
          exact ⟨rfl, (Below.refl _ _).alloc (Nat.le_refl _) _⟩
      · have u3 : decide ((n5 : Int) ≤ 60) = false := by simp; omega
        rw [decide_eq_true t1, decide_eq_true t2, decide_eq_false t3]
        clear t1 t2 t3
        go_enter Tryz.func7, Tryz.ntmps7
        go_wp2
        go_ret
        exact ⟨rfl, (Below.refl _ _).alloc (Nat.le_refl _) _⟩
    · have u2 : decide ((n3 : Int) ≤ 100) = false := by simp; omega
      rw [decide_eq_true t1, decide_eq_false t2]
      clear t1 t2
      go_enter Tryz.func7, Tryz.ntmps7
      go_wp2
      go_ret
      exact ⟨rfl, (Below.refl _ _).alloc (Nat.le_refl _) _⟩
  · have u1 : decide ((n2 : Int) ≤ 60) = false := by simp; omega
    rw [decide_eq_false t1]
    clear t1
    go_enter Tryz.func7, Tryz.ntmps7
    go_wp2
    go_ret
    exact ⟨rfl, (Below.refl _ _).alloc (Nat.le_refl _) _⟩

theorem few_any (v : Value) (L : LayD) (w : World) (hv : RLay w v L) : Calls Tryz.prog 7 #[v] w (RetB w (fewB L)) := fewC_eq L ▸ few8_any v L w hv
end
end Go.Proofs.YteafkginhejllaaGreatDoor
