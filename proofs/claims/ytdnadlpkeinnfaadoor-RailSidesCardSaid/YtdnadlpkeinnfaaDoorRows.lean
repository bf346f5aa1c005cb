/-
  NARROWER THAN 'FOR EVERY INPUT', by the rows' own cells (each row's printed sentence says how): RailSides: laid · RailPassages: laid · RailSymmetric: laid · RailPositions: laid · RailLegs: laid.
  DERIVED. THE GIVEN ROWS OF THIS SEAT. 5 by the template 'for every input the law returns true; each argument reads behind the call as it read before'; 0 by the template 'total and deterministic' (their statements: YtdnadlpkeinnfaaDoorTotals.lean).
  GIVEN WITH THE SEED: the statements are not yours to turn. If you find one false, say at which input.
  Laid BY PROGRAM, IN A SANDBOX (cutbox-rows.mjs): the forced cells as the released guide's own fill.sh prints them over the translation 812f9d938516b925… (all of the seat's roots in one cut). By AI agents, Wed Nov 11 2026. No macro, syntax, notation, axiom, sorry.
-/
import Derived.Test.YtdnadlpkeinnfaaDoorChecked
import GoSem.Claim
import GoSem.ClaimJoined
import GoSem.ClaimMapViews
import Derived.JoinedTies
import Derived.KernelRfl
namespace Go.Proofs.YtdnadlpkeinnfaaDoor
/- THE CELL 'sum', in the pinned program and in every row, IS THE sha256 OF THE DUMP (.gsa) THAT YtdnadlpkeinnfaaDoorProg.lean LOADS. Nothing in Lean hashes anything: it is a label: what it is worth is what the hold of that sum in a sandbox is worth. -/
noncomputable def Tryd.pinned : Pinned := { name := "ytdnadlpkeinnfaadoor", sum := "812f9d938516b92529554c11a6f04ebed2bd8e37db6650988611a79f2d604190", checked := Tryd.checked }
namespace Rows
def none {H : Type} : Left H := { results := [], args := [] }

/- WHAT THE LISTED PACKAGE-LEVEL VARIABLES READ AS WHEN THE CALL BEGINS. Each datum BY PROGRAM (the guide's laid-datum.mjs) off the statement by which the dump's own 'gosem.cut.vars' lays the variable. In a bare row this is a premise. The card (YtdnadlpkeinnfaaDoorCards.lean) ties it to the program's text. -/
def laid_signalling_rail_sideCounts {H : Type} : DataW H := .agg [.lit (.int .i64 0), .lit (.int .i64 2), .lit (.int .i64 3), .lit (.int .i64 4)]
def laid_signalling_rail_passages {H : Type} : DataW H := .agg [.agg [.lit (.int .i64 1), .lit (.int .i64 0), .lit (.int .i64 1), .lit (.int .i64 0)], .agg [.lit (.int .i64 1), .lit (.int .i64 1), .lit (.int .i64 0), .lit (.int .i64 0)], .agg [.lit (.int .i64 2), .lit (.int .i64 0), .lit (.int .i64 1), .lit (.int .i64 1)], .agg [.lit (.int .i64 2), .lit (.int .i64 0), .lit (.int .i64 2), .lit (.int .i64 2)], .agg [.lit (.int .i64 2), .lit (.int .i64 1), .lit (.int .i64 0), .lit (.int .i64 1)], .agg [.lit (.int .i64 2), .lit (.int .i64 2), .lit (.int .i64 0), .lit (.int .i64 2)], .agg [.lit (.int .i64 3), .lit (.int .i64 0), .lit (.int .i64 1), .lit (.int .i64 0)], .agg [.lit (.int .i64 3), .lit (.int .i64 1), .lit (.int .i64 0), .lit (.int .i64 0)], .agg [.lit (.int .i64 3), .lit (.int .i64 2), .lit (.int .i64 3), .lit (.int .i64 0)], .agg [.lit (.int .i64 3), .lit (.int .i64 3), .lit (.int .i64 2), .lit (.int .i64 0)]]

/-- 'signallinglaw06.RailSides': WHATEVER THE INPUT: true; the input reads as it did. -/
def railSidesSpec : ChangeSpec := { name := "railSides", fn := fun _ => fun
  | [d1, d2] => { results := [.lit (.bool true)], args := [d1, d2] }
  | _ => none }
def railSidesRow : OpenClaim := { program := "ytdnadlpkeinnfaadoor", sum := "812f9d938516b92529554c11a6f04ebed2bd8e37db6650988611a79f2d604190", func := "signalling/signallinglaw06.RailSides", spec := "railSides", named := ["signalling/rail.sideCounts", "signalling/rail.passages"], apart := false, laid := [("signalling/rail.sideCounts", laid_signalling_rail_sideCounts), ("signalling/rail.passages", laid_signalling_rail_passages)] }
def RailSidesSaid : Prop := railSidesRow.holds Tryd.pinned (OpenSpec.ofChange railSidesSpec)

/-- ITS FALSE NEIGHBOUR: 'it returns false'. Refute it at one input. -/
def railSidesWrong : ChangeSpec := { name := "railSides", fn := fun _ => fun
  | [d1, d2] => { results := [.lit (.bool false)], args := [d1, d2] }
  | _ => none }
def RailSidesWrongFalsely : Prop := railSidesRow.holds Tryd.pinned (OpenSpec.ofChange railSidesWrong)

/-- 'signallinglaw06.RailPassages': WHATEVER THE INPUT: true; the input reads as it did. -/
def railPassagesSpec : ChangeSpec := { name := "railPassages", fn := fun _ => fun
  | [d1, d2, d3] => { results := [.lit (.bool true)], args := [d1, d2, d3] }
  | _ => none }
def railPassagesRow : OpenClaim := { program := "ytdnadlpkeinnfaadoor", sum := "812f9d938516b92529554c11a6f04ebed2bd8e37db6650988611a79f2d604190", func := "signalling/signallinglaw06.RailPassages", spec := "railPassages", named := ["signalling/rail.passages", "signalling/rail.sideCounts"], apart := false, laid := [("signalling/rail.sideCounts", laid_signalling_rail_sideCounts), ("signalling/rail.passages", laid_signalling_rail_passages)] }
def RailPassagesSaid : Prop := railPassagesRow.holds Tryd.pinned (OpenSpec.ofChange railPassagesSpec)

/-- ITS FALSE NEIGHBOUR: 'it returns false'. Refute it at one input. -/
def railPassagesWrong : ChangeSpec := { name := "railPassages", fn := fun _ => fun
  | [d1, d2, d3] => { results := [.lit (.bool false)], args := [d1, d2, d3] }
  | _ => none }
def RailPassagesWrongFalsely : Prop := railPassagesRow.holds Tryd.pinned (OpenSpec.ofChange railPassagesWrong)

/-- 'signallinglaw06.RailSymmetric': WHATEVER THE INPUT: true; the input reads as it did. -/
def railSymmetricSpec : ChangeSpec := { name := "railSymmetric", fn := fun _ => fun
  | [d1, d2, d3, d4] => { results := [.lit (.bool true)], args := [d1, d2, d3, d4] }
  | _ => none }
def railSymmetricRow : OpenClaim := { program := "ytdnadlpkeinnfaadoor", sum := "812f9d938516b92529554c11a6f04ebed2bd8e37db6650988611a79f2d604190", func := "signalling/signallinglaw06.RailSymmetric", spec := "railSymmetric", named := ["signalling/rail.passages", "signalling/rail.sideCounts"], apart := false, laid := [("signalling/rail.sideCounts", laid_signalling_rail_sideCounts), ("signalling/rail.passages", laid_signalling_rail_passages)] }
def RailSymmetricSaid : Prop := railSymmetricRow.holds Tryd.pinned (OpenSpec.ofChange railSymmetricSpec)

/-- ITS FALSE NEIGHBOUR: 'it returns false'. Refute it at one input. -/
def railSymmetricWrong : ChangeSpec := { name := "railSymmetric", fn := fun _ => fun
  | [d1, d2, d3, d4] => { results := [.lit (.bool false)], args := [d1, d2, d3, d4] }
  | _ => none }
def RailSymmetricWrongFalsely : Prop := railSymmetricRow.holds Tryd.pinned (OpenSpec.ofChange railSymmetricWrong)

/-- 'signallinglaw06.RailPositions': WHATEVER THE INPUT: true; the input reads as it did. -/
def railPositionsSpec : ChangeSpec := { name := "railPositions", fn := fun _ => fun
  | [d1, d2, d3, d4] => { results := [.lit (.bool true)], args := [d1, d2, d3, d4] }
  | _ => none }
def railPositionsRow : OpenClaim := { program := "ytdnadlpkeinnfaadoor", sum := "812f9d938516b92529554c11a6f04ebed2bd8e37db6650988611a79f2d604190", func := "signalling/signallinglaw06.RailPositions", spec := "railPositions", named := ["signalling/rail.passages", "signalling/rail.sideCounts"], apart := false, laid := [("signalling/rail.sideCounts", laid_signalling_rail_sideCounts), ("signalling/rail.passages", laid_signalling_rail_passages)] }
def RailPositionsSaid : Prop := railPositionsRow.holds Tryd.pinned (OpenSpec.ofChange railPositionsSpec)

/-- ITS FALSE NEIGHBOUR: 'it returns false'. Refute it at one input. -/
def railPositionsWrong : ChangeSpec := { name := "railPositions", fn := fun _ => fun
  | [d1, d2, d3, d4] => { results := [.lit (.bool false)], args := [d1, d2, d3, d4] }
  | _ => none }
def RailPositionsWrongFalsely : Prop := railPositionsRow.holds Tryd.pinned (OpenSpec.ofChange railPositionsWrong)

/-- 'signallinglaw06.RailLegs': WHATEVER THE INPUT: true; the input reads as it did. -/
def railLegsSpec : ChangeSpec := { name := "railLegs", fn := fun _ => fun
  | [d1, d2] => { results := [.lit (.bool true)], args := [d1, d2] }
  | _ => none }
def railLegsRow : OpenClaim := { program := "ytdnadlpkeinnfaadoor", sum := "812f9d938516b92529554c11a6f04ebed2bd8e37db6650988611a79f2d604190", func := "signalling/signallinglaw06.RailLegs", spec := "railLegs", named := ["signalling/rail.passages", "signalling/rail.sideCounts"], apart := false, laid := [("signalling/rail.sideCounts", laid_signalling_rail_sideCounts), ("signalling/rail.passages", laid_signalling_rail_passages)] }
def RailLegsSaid : Prop := railLegsRow.holds Tryd.pinned (OpenSpec.ofChange railLegsSpec)

/-- ITS FALSE NEIGHBOUR: 'it returns false'. Refute it at one input. -/
def railLegsWrong : ChangeSpec := { name := "railLegs", fn := fun _ => fun
  | [d1, d2] => { results := [.lit (.bool false)], args := [d1, d2] }
  | _ => none }
def RailLegsWrongFalsely : Prop := railLegsRow.holds Tryd.pinned (OpenSpec.ofChange railLegsWrong)

/- THE SECOND FORM. 'bulk': how many values and letters a reading holds, each counted each time it is reached (what is shared counts as often as it is met; a slice's spare places count too). A statement '..UptoSaid' is the law's where the arguments, and the package variables that the reading takes, are together of bulk at most 1048576: NARROWER than '..Said'. Prove '..Said' where nothing that the law and all that it calls make is longer than what came in: it says more and counts as full. Else prove '..UptoSaid'. A law counts once. -/
mutual
def uptoBulk {H : Type} : DataW H → Nat
  | .lit (.string bytes) => bytes.length + 1
  | .lit _ => 1
  | .nil => 1
  | .ptr d => uptoBulk d + 1
  | .slice elems spare => uptoBulkAll elems + uptoBulkAll spare + 1
  | .agg parts => uptoBulkAll parts + 1
  | .iface _ d => uptoBulk d + 1
  | .map entries => uptoBulkEntries entries + 1
  | .held _ => 1
def uptoBulkAll {H : Type} : List (DataW H) → Nat
  | [] => 0
  | d :: r => uptoBulk d + uptoBulkAll r
def uptoBulkEntries {H : Type} : List (Lit × DataW H) → Nat
  | [] => 0
  | x :: r => uptoBulkEntry x + uptoBulkEntries r
def uptoBulkEntry {H : Type} : Lit × DataW H → Nat
  | (.string bytes, d) => bytes.length + uptoBulk d + 1
  | (_, d) => uptoBulk d + 1
 end
def uptoSmall : (H : Type) → List (DataW H) → Bool := fun _ ds => decide (uptoBulkAll ds ≤ 1048576)
def OpenSpec.upto (s : _root_.Go.ChangeSpec) : _root_.Go.OpenSpec := { _root_.Go.OpenSpec.ofChange s with cond := some uptoSmall }

/-- 'signallinglaw06.RailSides', WHERE WHAT IT READS IS OF BULK AT MOST 1048576: true; the input reads as it did. -/
def railSidesUptoRow : OpenClaim := { program := "ytdnadlpkeinnfaadoor", sum := "812f9d938516b92529554c11a6f04ebed2bd8e37db6650988611a79f2d604190", func := "signalling/signallinglaw06.RailSides", spec := "railSides", named := ["signalling/rail.sideCounts", "signalling/rail.passages"], apart := false, laid := [("signalling/rail.sideCounts", laid_signalling_rail_sideCounts), ("signalling/rail.passages", laid_signalling_rail_passages)], narrowed := true }
def RailSidesUptoSaid : Prop := railSidesUptoRow.holds Tryd.pinned (OpenSpec.upto railSidesSpec)

/-- 'signallinglaw06.RailPassages', WHERE WHAT IT READS IS OF BULK AT MOST 1048576: true; the input reads as it did. -/
def railPassagesUptoRow : OpenClaim := { program := "ytdnadlpkeinnfaadoor", sum := "812f9d938516b92529554c11a6f04ebed2bd8e37db6650988611a79f2d604190", func := "signalling/signallinglaw06.RailPassages", spec := "railPassages", named := ["signalling/rail.passages", "signalling/rail.sideCounts"], apart := false, laid := [("signalling/rail.sideCounts", laid_signalling_rail_sideCounts), ("signalling/rail.passages", laid_signalling_rail_passages)], narrowed := true }
def RailPassagesUptoSaid : Prop := railPassagesUptoRow.holds Tryd.pinned (OpenSpec.upto railPassagesSpec)

/-- 'signallinglaw06.RailSymmetric', WHERE WHAT IT READS IS OF BULK AT MOST 1048576: true; the input reads as it did. -/
def railSymmetricUptoRow : OpenClaim := { program := "ytdnadlpkeinnfaadoor", sum := "812f9d938516b92529554c11a6f04ebed2bd8e37db6650988611a79f2d604190", func := "signalling/signallinglaw06.RailSymmetric", spec := "railSymmetric", named := ["signalling/rail.passages", "signalling/rail.sideCounts"], apart := false, laid := [("signalling/rail.sideCounts", laid_signalling_rail_sideCounts), ("signalling/rail.passages", laid_signalling_rail_passages)], narrowed := true }
def RailSymmetricUptoSaid : Prop := railSymmetricUptoRow.holds Tryd.pinned (OpenSpec.upto railSymmetricSpec)

/-- 'signallinglaw06.RailPositions', WHERE WHAT IT READS IS OF BULK AT MOST 1048576: true; the input reads as it did. -/
def railPositionsUptoRow : OpenClaim := { program := "ytdnadlpkeinnfaadoor", sum := "812f9d938516b92529554c11a6f04ebed2bd8e37db6650988611a79f2d604190", func := "signalling/signallinglaw06.RailPositions", spec := "railPositions", named := ["signalling/rail.passages", "signalling/rail.sideCounts"], apart := false, laid := [("signalling/rail.sideCounts", laid_signalling_rail_sideCounts), ("signalling/rail.passages", laid_signalling_rail_passages)], narrowed := true }
def RailPositionsUptoSaid : Prop := railPositionsUptoRow.holds Tryd.pinned (OpenSpec.upto railPositionsSpec)

/-- 'signallinglaw06.RailLegs', WHERE WHAT IT READS IS OF BULK AT MOST 1048576: true; the input reads as it did. -/
def railLegsUptoRow : OpenClaim := { program := "ytdnadlpkeinnfaadoor", sum := "812f9d938516b92529554c11a6f04ebed2bd8e37db6650988611a79f2d604190", func := "signalling/signallinglaw06.RailLegs", spec := "railLegs", named := ["signalling/rail.passages", "signalling/rail.sideCounts"], apart := false, laid := [("signalling/rail.sideCounts", laid_signalling_rail_sideCounts), ("signalling/rail.passages", laid_signalling_rail_passages)], narrowed := true }
def RailLegsUptoSaid : Prop := railLegsUptoRow.holds Tryd.pinned (OpenSpec.upto railLegsSpec)

end Rows
end Go.Proofs.YtdnadlpkeinnfaaDoor
