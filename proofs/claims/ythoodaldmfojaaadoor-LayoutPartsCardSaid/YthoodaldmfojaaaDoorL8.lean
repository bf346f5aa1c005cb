/- Plain words for texts: a text as a list of bytes, and which texts are names. Conditions: none. -/
namespace Go.Proofs.YthoodaldmfojaaaDoor
abbrev L8 := List UInt8
def isDg (b : UInt8) : Bool := decide (48 ≤ b.toNat) && decide (b.toNat ≤ 57)
def isLt (b : UInt8) : Bool := decide (97 ≤ b.toNat) && decide (b.toNat ≤ 122)
def nmB (b : UInt8) : Bool := isLt b || (isDg b || decide (b = 95))
def isName (s : L8) : Bool := s.all nmB && ((match s.head? with | some b => isLt b | none => false) && decide (s.length ≤ 12))
end Go.Proofs.YthoodaldmfojaaaDoor
