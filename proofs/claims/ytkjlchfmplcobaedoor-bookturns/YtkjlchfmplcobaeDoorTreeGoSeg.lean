/- The parts to which the walks go, and the roots that paths and proofs have: plain mathematics. -/
import Derived.Test.YtkjlchfmplcobaeDoorTreeGoWalk
namespace Go.Proofs.YtkjlchfmplcobaeDoor

/-- The leaves of a part. -/
def seg (L : List (List Int)) (p : Nat × Nat) : List (List Int) := (L.take p.2).drop p.1
end Go.Proofs.YtkjlchfmplcobaeDoor
