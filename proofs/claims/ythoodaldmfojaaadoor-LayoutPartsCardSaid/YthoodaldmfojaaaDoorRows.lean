/-
  NARROWER THAN 'FOR EVERY INPUT', by the rows' own cells (each row's printed sentence says how): LayoutChecks: laid · LayoutJoins: laid · LayoutParts: laid · LayoutRemoves: laid.
  DERIVED. THE GIVEN ROWS OF THIS SEAT. 4 by the template 'for every input the law returns true; each argument reads behind the call as it read before'; 0 by the template 'total and deterministic' (their statements: YthoodaldmfojaaaDoorTotals.lean).
  GIVEN WITH THE SEED: the statements are not yours to turn. If you find one false, say at which input.
  Laid BY PROGRAM, IN A SANDBOX (cutbox-rows.mjs): the forced cells as the released guide's own fill.sh prints them over the translation a183da135eac667a… (all of the seat's roots in one cut). By AI agents, Wed Nov 11 2026. No macro, syntax, notation, axiom, sorry.
-/
import Derived.Test.YthoodaldmfojaaaDoorChecked
import GoSem.Claim
import GoSem.ClaimJoined
import GoSem.ClaimMapViews
import Derived.JoinedTies
import Derived.KernelRfl
namespace Go.Proofs.YthoodaldmfojaaaDoor
/- THE CELL 'sum', in the pinned program and in every row, IS THE sha256 OF THE DUMP (.gsa) THAT YthoodaldmfojaaaDoorProg.lean LOADS. Nothing in Lean hashes anything: it is a label: what it is worth is what the hold of that sum in a sandbox is worth. -/
noncomputable def Tryd.pinned : Pinned := { name := "ythoodaldmfojaaadoor", sum := "a183da135eac667a7592e76e6054fbf3f7d17a5994d09ffeffd8782662d074e6", checked := Tryd.checked }
namespace Rows
def none {H : Type} : Left H := { results := [], args := [] }

/- WHAT THE LISTED PACKAGE-LEVEL VARIABLES READ AS WHEN THE CALL BEGINS. Each datum BY PROGRAM (the guide's laid-datum.mjs) off the statement by which the dump's own 'gosem.cut.vars' lays the variable. In a bare row this is a premise. The card (YthoodaldmfojaaaDoorCards.lean) ties it to the program's text. -/
def laid_signalling_rail_sideCounts {H : Type} : DataW H := .agg [.lit (.int .i64 0), .lit (.int .i64 2), .lit (.int .i64 3), .lit (.int .i64 4)]

/-- 'signallinglaw07.LayoutChecks': WHATEVER THE INPUT: true; the input reads as it did. -/
def layoutChecksSpec : ChangeSpec := { name := "layoutChecks", fn := fun _ => fun
  | [d] => { results := [.lit (.bool true)], args := [d] }
  | _ => none }
def layoutChecksRow : OpenClaim := { program := "ythoodaldmfojaaadoor", sum := "a183da135eac667a7592e76e6054fbf3f7d17a5994d09ffeffd8782662d074e6", func := "signalling/signallinglaw07.LayoutChecks", spec := "layoutChecks", unfollowed := true, recurses := true, named := ["signalling/rail.sideCounts"], plainKeys := false, apart := false, laid := [("signalling/rail.sideCounts", laid_signalling_rail_sideCounts)] }
def LayoutChecksSaid : Prop := layoutChecksRow.holds Tryd.pinned (OpenSpec.ofChange layoutChecksSpec)

/-- ITS FALSE NEIGHBOUR: 'it returns false'. Refute it at one input. -/
def layoutChecksWrong : ChangeSpec := { name := "layoutChecks", fn := fun _ => fun
  | [d] => { results := [.lit (.bool false)], args := [d] }
  | _ => none }
def LayoutChecksWrongFalsely : Prop := layoutChecksRow.holds Tryd.pinned (OpenSpec.ofChange layoutChecksWrong)

/-- 'signallinglaw07.LayoutJoins': WHATEVER THE INPUT: true; the input reads as it did. -/
def layoutJoinsSpec : ChangeSpec := { name := "layoutJoins", fn := fun _ => fun
  | [d] => { results := [.lit (.bool true)], args := [d] }
  | _ => none }
def layoutJoinsRow : OpenClaim := { program := "ythoodaldmfojaaadoor", sum := "a183da135eac667a7592e76e6054fbf3f7d17a5994d09ffeffd8782662d074e6", func := "signalling/signallinglaw07.LayoutJoins", spec := "layoutJoins", unfollowed := true, recurses := true, named := ["signalling/rail.sideCounts"], plainKeys := false, apart := false, laid := [("signalling/rail.sideCounts", laid_signalling_rail_sideCounts)] }
def LayoutJoinsSaid : Prop := layoutJoinsRow.holds Tryd.pinned (OpenSpec.ofChange layoutJoinsSpec)

/-- ITS FALSE NEIGHBOUR: 'it returns false'. Refute it at one input. -/
def layoutJoinsWrong : ChangeSpec := { name := "layoutJoins", fn := fun _ => fun
  | [d] => { results := [.lit (.bool false)], args := [d] }
  | _ => none }
def LayoutJoinsWrongFalsely : Prop := layoutJoinsRow.holds Tryd.pinned (OpenSpec.ofChange layoutJoinsWrong)

/-- 'signallinglaw07.LayoutParts': WHATEVER THE INPUT: true; the input reads as it did. -/
def layoutPartsSpec : ChangeSpec := { name := "layoutParts", fn := fun _ => fun
  | [d] => { results := [.lit (.bool true)], args := [d] }
  | _ => none }
def layoutPartsRow : OpenClaim := { program := "ythoodaldmfojaaadoor", sum := "a183da135eac667a7592e76e6054fbf3f7d17a5994d09ffeffd8782662d074e6", func := "signalling/signallinglaw07.LayoutParts", spec := "layoutParts", unfollowed := true, recurses := true, named := ["signalling/rail.sideCounts"], plainKeys := false, apart := false, laid := [("signalling/rail.sideCounts", laid_signalling_rail_sideCounts)] }
def LayoutPartsSaid : Prop := layoutPartsRow.holds Tryd.pinned (OpenSpec.ofChange layoutPartsSpec)

/-- ITS FALSE NEIGHBOUR: 'it returns false'. Refute it at one input. -/
def layoutPartsWrong : ChangeSpec := { name := "layoutParts", fn := fun _ => fun
  | [d] => { results := [.lit (.bool false)], args := [d] }
  | _ => none }
def LayoutPartsWrongFalsely : Prop := layoutPartsRow.holds Tryd.pinned (OpenSpec.ofChange layoutPartsWrong)

/-- 'signallinglaw07.LayoutRemoves': WHATEVER THE INPUT: true; the input reads as it did. -/
def layoutRemovesSpec : ChangeSpec := { name := "layoutRemoves", fn := fun _ => fun
  | [d1, d2] => { results := [.lit (.bool true)], args := [d1, d2] }
  | _ => none }
def layoutRemovesRow : OpenClaim := { program := "ythoodaldmfojaaadoor", sum := "a183da135eac667a7592e76e6054fbf3f7d17a5994d09ffeffd8782662d074e6", func := "signalling/signallinglaw07.LayoutRemoves", spec := "layoutRemoves", unfollowed := true, recurses := true, named := ["signalling/rail.sideCounts"], plainKeys := false, apart := false, laid := [("signalling/rail.sideCounts", laid_signalling_rail_sideCounts)] }
def LayoutRemovesSaid : Prop := layoutRemovesRow.holds Tryd.pinned (OpenSpec.ofChange layoutRemovesSpec)

/-- ITS FALSE NEIGHBOUR: 'it returns false'. Refute it at one input. -/
def layoutRemovesWrong : ChangeSpec := { name := "layoutRemoves", fn := fun _ => fun
  | [d1, d2] => { results := [.lit (.bool false)], args := [d1, d2] }
  | _ => none }
def LayoutRemovesWrongFalsely : Prop := layoutRemovesRow.holds Tryd.pinned (OpenSpec.ofChange layoutRemovesWrong)

/- THE SECOND FORM. 'bulk': how many values and letters a reading holds, each counted each time it is reached (what is shared counts as often as it is met; a slice's spare places count too). A statement '..UptoSaid' is the law's where the arguments, and the package variables that the reading takes, are together of bulk at most 1048576: NARROWER than '..Said'. Prove '..Said' where nothing that the law and all that it calls make is longer than what came in: it says more and counts as full. Else prove '..UptoSaid'. A law counts once. -/
mutual
def uptoBulk {H : Type} : DataW H → Nat
  | .lit (.string bytes) => bytes.length + 1
  | .lit _ => 1
  | .nil => 1
  | .ptr d => uptoBulk d + 1
  | .slice elems spare => uptoBulkAll elems + uptoBulkAll spare + 1
  | .agg parts => uptoBulkAll parts + 1
  | .iface _ d => uptoBulk d + 1
  | .map entries => uptoBulkEntries entries + 1
  | .held _ => 1
def uptoBulkAll {H : Type} : List (DataW H) → Nat
  | [] => 0
  | d :: r => uptoBulk d + uptoBulkAll r
def uptoBulkEntries {H : Type} : List (Lit × DataW H) → Nat
  | [] => 0
  | x :: r => uptoBulkEntry x + uptoBulkEntries r
def uptoBulkEntry {H : Type} : Lit × DataW H → Nat
  | (.string bytes, d) => bytes.length + uptoBulk d + 1
  | (_, d) => uptoBulk d + 1
 end
def uptoSmall : (H : Type) → List (DataW H) → Bool := fun _ ds => decide (uptoBulkAll ds ≤ 1048576)
def OpenSpec.upto (s : _root_.Go.ChangeSpec) : _root_.Go.OpenSpec := { _root_.Go.OpenSpec.ofChange s with cond := some uptoSmall }

/-- 'signallinglaw07.LayoutChecks', WHERE WHAT IT READS IS OF BULK AT MOST 1048576: true; the input reads as it did. -/
def layoutChecksUptoRow : OpenClaim := { program := "ythoodaldmfojaaadoor", sum := "a183da135eac667a7592e76e6054fbf3f7d17a5994d09ffeffd8782662d074e6", func := "signalling/signallinglaw07.LayoutChecks", spec := "layoutChecks", unfollowed := true, recurses := true, named := ["signalling/rail.sideCounts"], plainKeys := false, apart := false, laid := [("signalling/rail.sideCounts", laid_signalling_rail_sideCounts)], narrowed := true }
def LayoutChecksUptoSaid : Prop := layoutChecksUptoRow.holds Tryd.pinned (OpenSpec.upto layoutChecksSpec)

/-- 'signallinglaw07.LayoutJoins', WHERE WHAT IT READS IS OF BULK AT MOST 1048576: true; the input reads as it did. -/
def layoutJoinsUptoRow : OpenClaim := { program := "ythoodaldmfojaaadoor", sum := "a183da135eac667a7592e76e6054fbf3f7d17a5994d09ffeffd8782662d074e6", func := "signalling/signallinglaw07.LayoutJoins", spec := "layoutJoins", unfollowed := true, recurses := true, named := ["signalling/rail.sideCounts"], plainKeys := false, apart := false, laid := [("signalling/rail.sideCounts", laid_signalling_rail_sideCounts)], narrowed := true }
def LayoutJoinsUptoSaid : Prop := layoutJoinsUptoRow.holds Tryd.pinned (OpenSpec.upto layoutJoinsSpec)

/-- 'signallinglaw07.LayoutParts', WHERE WHAT IT READS IS OF BULK AT MOST 1048576: true; the input reads as it did. -/
def layoutPartsUptoRow : OpenClaim := { program := "ythoodaldmfojaaadoor", sum := "a183da135eac667a7592e76e6054fbf3f7d17a5994d09ffeffd8782662d074e6", func := "signalling/signallinglaw07.LayoutParts", spec := "layoutParts", unfollowed := true, recurses := true, named := ["signalling/rail.sideCounts"], plainKeys := false, apart := false, laid := [("signalling/rail.sideCounts", laid_signalling_rail_sideCounts)], narrowed := true }
def LayoutPartsUptoSaid : Prop := layoutPartsUptoRow.holds Tryd.pinned (OpenSpec.upto layoutPartsSpec)

/-- 'signallinglaw07.LayoutRemoves', WHERE WHAT IT READS IS OF BULK AT MOST 1048576: true; the input reads as it did. -/
def layoutRemovesUptoRow : OpenClaim := { program := "ythoodaldmfojaaadoor", sum := "a183da135eac667a7592e76e6054fbf3f7d17a5994d09ffeffd8782662d074e6", func := "signalling/signallinglaw07.LayoutRemoves", spec := "layoutRemoves", unfollowed := true, recurses := true, named := ["signalling/rail.sideCounts"], plainKeys := false, apart := false, laid := [("signalling/rail.sideCounts", laid_signalling_rail_sideCounts)], narrowed := true }
def LayoutRemovesUptoSaid : Prop := layoutRemovesUptoRow.holds Tryd.pinned (OpenSpec.upto layoutRemovesSpec)

end Rows
end Go.Proofs.YthoodaldmfojaaaDoor
