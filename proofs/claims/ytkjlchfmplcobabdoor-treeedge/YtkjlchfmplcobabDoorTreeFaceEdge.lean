/- What the laws of chapter 2 ask of tree.Push and tree.Top. -/
import Derived.Test.YtkjlchfmplcobabDoorProg
import Derived.Test.YtkjlchfmplcobabDoorTreeFace
namespace Go.Proofs.YtkjlchfmplcobabDoor
open Go.RowKit

def PushC : Prop := ∀ (size : Int) (ps : List (List Int)) (b : List Int) (bv : Value) (a : Option Addr) (n c : Nat) (w : World), Ready w → Lists w a n c ps → Some' w bv b →
  Calls Tryd.prog 16 #[.agg #[.int .i64 size, .slice a n c], bv] w fun e w' => ∃ xa xn xc, e = .returned (.tuple #[.agg #[.int .i64 (pushE size ps b).1, .slice xa xn xc], .int .i64 (pushE size ps b).2.1]) ∧ OwnParts w' w.heap.size (.slice xa xn xc) (pushE size ps b).2.2 ∧ Below w.heap.size w w'
def TopC : Prop := ∀ (size : Int) (ps : List (List Int)) (a : Option Addr) (n c : Nat) (w : World), Ready w → Lists w a n c ps →
  Calls Tryd.prog 17 #[.agg #[.int .i64 size, .slice a n c]] w fun e w' => ∃ x, e = .returned (.tuple #[x, .int .i64 (if rightL size 100 ps = true then 0 else 2)]) ∧ BytesAt w' x (if rightL size 100 ps = true then topL ps else []) ∧ Below w.heap.size w w'

end Go.Proofs.YtkjlchfmplcobabDoor
