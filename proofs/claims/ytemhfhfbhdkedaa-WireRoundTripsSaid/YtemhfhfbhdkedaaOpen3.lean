/- The struct of values of layer 3, as it comes in. Conditions: none beyond the readings. -/
import Derived.Test.YtemhfhfbhdkedaaOpen
import Derived.Test.YtemhfhfbhdkedaaAlive3
namespace Go.Proofs.Ytemhfhfbhdkedaa
open Go.ChangeShapes Go.WideShapes Go.ChangeAt Go.RowKit
open Go.Deep
theorem open_value {H : Type} {enc : TypeId × Value → H} {W : World} {base : Nat} {v : Value} {d : DataW H} {p : List MemPlace} (hk : Value.okWide Try.prog W .any base 25 v)
    (h : DataW.Trod enc Try.prog W 0 (fun _ => true) true 25 v d p) :
    ∃ (u : Nat) (n : Int) (b : Bool) (s : List UInt8) (lv : Value) (l : List Int), v = val u n b s lv ∧ RS W lv (intsV l) ∧ u < 18446744073709551616 ∧ In64 n ∧ s.length ≤ 9223372036854775807 ∧ ∀ y ∈ l, In64 y := by
  obtain ⟨l, n, rfl, hl, hf⟩ := open_cells Try.underlying25 (by kernel_rfl) (by kernel_rfl) hk h
  match l, hl with
  | [c0, c1, c2, c3, c4], _ =>
    obtain ⟨_, y0, e0, t0⟩ := hf 0 _ rfl
    obtain ⟨_, y1, e1, t1⟩ := hf 1 _ rfl
    obtain ⟨_, y2, e2, t2⟩ := hf 2 _ rfl
    obtain ⟨_, y3, e3, t3⟩ := hf 3 _ rfl
    obtain ⟨_, y4, e4, t4⟩ := hf 4 _ rfl
    cases e0; cases e1; cases e2; cases e3; cases e4
    obtain ⟨i0, h0, _, w0⟩ := DataW.trod_int Try.underlying22 t0
    obtain ⟨i1, h1, _, w1⟩ := DataW.trod_int Try.underlying3 t1
    obtain ⟨b2, h2, _⟩ := DataW.trod_bool Try.underlying4 t2
    obtain ⟨s3, h3, _, w3⟩ := DataW.trod_string Try.underlying9 t3
    obtain ⟨l4, h4, w4⟩ := trod_intsRS t4
    cases h0; cases h1; cases h2; cases h3
    obtain ⟨u, rfl, hu⟩ := wf_u64 w0
    obtain ⟨s, rfl, hs⟩ := str_of s3 w3
    exact ⟨u, i1, b2, s, c4, l4, rfl, h4, hu, I64.of_wf w1, hs, w4⟩
end Go.Proofs.Ytemhfhfbhdkedaa
