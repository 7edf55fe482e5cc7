/- What the laws of chapter 2 ask of tree.Grows. -/
import Derived.Test.YtkjlchfmplcobaaDoorProg
import Derived.Test.YtkjlchfmplcobaaDoorRunAB
namespace Go.Proofs.YtkjlchfmplcobaaDoor
open Go.RowKit

def GrowsC : Prop := ∀ (L : List (List Int)) (m : Int) (a : Option Addr) (n c : Nat) (w : World), Ready w → Lists w a n c L →
  Calls Tryd.prog 28 #[.slice a n c, .int .i64 m] w fun e w' => ∃ xa xn xc, e = .returned (.tuple #[.slice xa xn xc, faultV (growF L m)]) ∧ ((growF L m).1 = 0 → OwnParts w' w.heap.size (.slice xa xn xc) (proofL L m.toNat true)) ∧ ((growF L m).1 ≠ 0 → xn = 0) ∧ Below w.heap.size w w'

end Go.Proofs.YtkjlchfmplcobaaDoor
