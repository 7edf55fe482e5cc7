/- What TreeTells asks of tree.Leaf and tree.Node. -/
import Derived.Test.YtkjlchfmplcobaaDoorProg
import Derived.Test.YtkjlchfmplcobaaDoorRunAB
namespace Go.Proofs.YtkjlchfmplcobaaDoor
open Go.RowKit

def LeafC : Prop := ∀ (b : List Int) (v : Value) (w : World), Ready w → Some' w v b → b.length ≤ 70368744177664 →
  Calls Tryd.prog 17 #[v] w fun e w' => ∃ x, e = .returned x ∧ w'.ownsRow w.heap.size 5 1 x 32 ((leafL b).map (Value.int .u8)) ∧ Below w.heap.size w w'
def NodeC : Prop := ∀ (b1 b2 : List Int) (v1 v2 : Value) (w : World), Ready w → Some' w v1 b1 → Some' w v2 b2 → b1.length + b2.length ≤ 70368744177664 →
  Calls Tryd.prog 19 #[v1, v2] w fun e w' => ∃ x, e = .returned x ∧ w'.ownsRow w.heap.size 5 1 x 32 ((nodeL b1 b2).map (Value.int .u8)) ∧ Below w.heap.size w w'

end Go.Proofs.YtkjlchfmplcobaaDoor
