/- The step from a walk to a law's row and card, once for all laws of this seat, where the rows list package-level variables. Conditions: as the rows' own. -/
import Derived.Test.YteafkginhejllaaGreatDoorRows
import Derived.Test.YteafkginhejllaaGreatDoorCards
import Derived.Test.YteafkginhejllaaGreatDoorTie
import Derived.Test.YteafkginhejllaaGreatDoorLy8
import Derived.ShutString
import Derived.ChangeOld
import Derived.Deep.DeepHandedRow
import Derived.Stop.LaidErr
import Derived.Shelf.Vars
import Derived.Lib.LaidTab
namespace Go.Proofs.YteafkginhejllaaGreatDoor
open Go.ChangeShapes Go.WideShapes Go.ChangeAt Go.RowKit
theorem own_knob : ownKnob Tryz.prog.godebug = none := by kernel_rfl
theorem laid_out : laidOutB Tryz.prog = true := by kernel_rfl

theorem trodAll_below {H : Type} {enc : TypeId × Value → H} {W W' : World} (hb : Below W.heap.size W W') : ∀ (ts : List TypeId) (vs : List Value) (ds : List (DataW H)) (p : List MemPlace),
    (∀ t ∈ ts, Tryz.prog.readableRec t = true ∧ t < Tryz.prog.types.size) → DataW.TrodAll enc Tryz.prog W 0 (fun _ => true) true ts vs ds p → DataW.TrodAll enc Tryz.prog W' 0 (fun b => decide (b < W.heap.size)) true ts vs ds p
  | [], [], [], p, _, h => h
  | t :: ts, v :: vs, d :: ds, p, hr, h => by
    obtain ⟨p1, q1, h1, h2, h3⟩ := h
    have hlt : ∀ x ∈ p1, x.block < W.heap.size := by obtain ⟨m, hm⟩ := h1; exact DataW.trod_lt m _ _ _ hm
    exact ⟨p1, q1, Below.trod laid_out (hr t (by simp)).1 (hr t (by simp)).2 h1 hb hlt, trodAll_below hb ts vs ds q1 (fun t ht => hr t (by simp [ht])) h2, h3⟩
  | [], [], _ :: _, _, _, h => h.elim
  | [], _ :: _, _, _, _, h => h.elim
  | _ :: _, [], _, _, _, h => h.elim
  | _ :: _, _ :: _, [], _, _, h => h.elim

theorem trodAll_len {H : Type} {enc : TypeId × Value → H} {W : World} : ∀ (ts : List TypeId) (vs : List Value) (ds : List (DataW H)) (p : List MemPlace),
    DataW.TrodAll enc Tryz.prog W 0 (fun _ => true) true ts vs ds p → ds.length = ts.length
  | [], [], [], p, h => rfl
  | t :: ts, v :: vs, d :: ds, p, h => by
    obtain ⟨p1, q1, h1, h2, h3⟩ := h
    simp [trodAll_len ts vs ds q1 h2]
  | [], [], _ :: _, _, h => h.elim
  | [], _ :: _, _, _, h => h.elim
  | _ :: _, [], _, _, h => h.elim
  | _ :: _, _ :: _, [], _, h => h.elim

/-- What a law's walk must show. -/
def LawWalkL (F : FuncId) (fn : Func) : Prop :=
  ∀ (H : Type) (enc : TypeId × Value → H) (W : World) (base : Nat) (args : Array Value) (ds : List (DataW H)) (p : List MemPlace),
    (∀ (j : Nat) t v, fn.params[j]? = some t → args[j]? = some v → Value.okWide Tryz.prog W .any base t v) →
    DataW.TrodAll enc Tryz.prog W 0 (fun _ => true) true fn.params.toList args.toList ds p → (GT W ∧ GW W) → (DataW.weightsEach Tryz.prog fn.params.toList ds).all (· ≤ reachBytes) = true →
    Calls Tryz.prog F args W fun e W' => e = .returned (.bool true) ∧ Below W.heap.size W W'

def TrueSpec (spec : ChangeSpec) (n : Nat) : Prop :=
  spec.vars = [] ∧ ∀ (H : Type) (ds : List (DataW H)), ds.length = n → spec.fn H ds = { results := [.lit (.bool true)], args := ds }

theorem witnessL {H : Type} {enc : TypeId × Value → H} {os : Os} (F : FuncId) (fn : Func) (spec : ChangeSpec) (args0 : Array Value) (x : List (DataW H) × List (DataW H) × List MemPlace)
    (hok : Input.okWideB Tryz.prog ((laidWorld os).forCall (fun _ _ => 0) ⟨#[], args0, []⟩) F ⟨#[], args0, []⟩ = true)
    (hx : DataW.whole enc Tryz.prog ((laidWorld os).forCall (fun _ _ => 0) ⟨#[], args0, []⟩).memory fn.params.toList spec.vars false args0.toList 8 = some x)
    (hsz : (OpenSpec.ofChange spec).bare.sizedB enc Tryz.prog fn false ((laidWorld os).forCall (fun _ _ => 0) ⟨#[], args0, []⟩).memory args0 8 = true) :
    ∃ (w : World) (tape : Tape) (i : Input), w.os = os ∧ (w.forCall tape i).Shaped Tryz.prog ∧ i.vars = [] ∧ Input.okWide Tryz.prog (w.forCall tape i) .any w.heap.size F i ∧
      (OpenSpec.ofChange spec).preRow enc Tryz.prog fn [] false LaidL (w.forCall tape i).memory i.args ∧ ({} : Assume).holds Tryz.prog (lone (Frame.enter Tryz.prog F i.args .normal) [] (w.forCall tape i)) :=
  ⟨laidWorld os, fun _ _ => 0, ⟨#[], args0, []⟩, rfl, laid_shaped os _, (Input.okWide_of_okWideB (base := 0) hok).1, (Input.okWide_of_okWideB hok).2,
    OpenSpec.preRow_of_cond 8 hx rfl (fun k hk => by cases hk) hsz (laid_met os _), by
      simp only [Assume.holds]
      exact ⟨by simp, by simp, fun _ => Modest.zero, by simp, by simp⟩⟩

set_option maxRecDepth 100000 in
theorem law_liftedL {H : Type} {enc : TypeId × Value → H} {os : Os} (started : os.Started) (F : FuncId) (fn : Func) (spec : ChangeSpec) (Fi : Stop.Interp) (hfn : Tryz.prog.funcs[F]? = some fn) (noInit : Tryz.prog.inits.idxOf? F = none)
    (hres : fn.resultTypes = #[4]) (hread : fn.params.toList.all (fun t => Tryz.prog.readableRec t && decide (t < Tryz.prog.types.size)) = true) (hs : TrueSpec spec fn.params.size) (hvt : (OpenSpec.ofChange spec).bare.plain.varTypes Tryz.prog = [])
    (witness : ∃ (w : World) (tape : Tape) (i : Input), w.os = os ∧ (w.forCall tape i).Shaped Tryz.prog ∧ i.vars = [] ∧ Input.okWide Tryz.prog (w.forCall tape i) .any w.heap.size F i ∧
      (OpenSpec.ofChange spec).preRow enc Tryz.prog fn [] false LaidL (w.forCall tape i).memory i.args ∧ ({} : Assume).holds Tryz.prog (lone (Frame.enter Tryz.prog F i.args .normal) [] (w.forCall tape i)))
    (walk : LawWalkL F fn) :
    ReturnsInHanded {} Tryz.checked os F .any ((OpenSpec.ofChange spec).preRow enc Tryz.prog fn [] false LaidL) (((OpenSpec.ofChange spec).at Fi).post enc Tryz.prog fn false true false false) := by
  obtain ⟨hsv, hsf⟩ := hs
  refine returnsInHanded_of_row (C := Tryz.checked) (s := OpenSpec.ofChange spec) own_knob started noInit hfn witness ?_
  intro W base args ds gs before hval hW _ _ hz hL hS _
  have hW' := hW
  obtain ⟨p, q, hA, hV, rfl, hfz, hnd⟩ := hW
  have hV' : DataW.TrodVars enc Tryz.prog W (fun _ => true) spec.vars gs q := hV
  rw [hsv] at hV'
  obtain ⟨rfl, rfl⟩ := trodVars_none hV'
  have hrd : ∀ t ∈ fn.params.toList, Tryz.prog.readableRec t = true ∧ t < Tryz.prog.types.size := by
    intro t ht
    have := List.all_eq_true.1 hread t ht
    simpa using this
  have hz' : (DataW.weightsEach Tryz.prog (fn.params.toList ++ (OpenSpec.ofChange spec).bare.plain.varTypes Tryz.prog) (ds ++ [])).all (· ≤ reachBytes) = true := hz
  rw [hvt, List.append_nil, List.append_nil] at hz'
  have hlen : ds.length = fn.params.size := by rw [trodAll_len _ _ _ _ hA]; simp
  refine (walk H enc W base args ds p hval hA (gw_of hL hS) hz').mono fun e W' ⟨he, bel⟩ => ?_
  subst he
  have hsp := hsf H (ds ++ []) (by simpa using hlen)
  have key : spec.post enc Tryz.prog fn false true false false W args (.bool true) W' := by
    refine ⟨ds, [], p ++ [], [], p, [], hW', ?_, ?_, ?_, bel.frame _, fun h => by cases h⟩
    · rw [hsp, hres]; exact trodAll_mk1 (shut_bool Tryz.underlying4 _)
    · rw [hsp]; simp only [List.append_nil]; exact trodAll_below bel _ _ _ _ hrd hA
    · rw [hsp, hsv]; exact rfl
  exact ⟨_, rfl, key⟩
end Go.Proofs.YteafkginhejllaaGreatDoor
