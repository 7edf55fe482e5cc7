/- The walk of the law TreeGrows, over package tree's faces. -/
import Derived.Test.YtkjlchfmplcobabDoorProg
import Derived.Test.YtkjlchfmplcobabDoorTreeFace
import Derived.Test.YtkjlchfmplcobabDoorTreeAlive
import Derived.WalkKit
import Derived.WalkSpells
import Derived.WalkLawsBesides
namespace Go.Proofs.YtkjlchfmplcobabDoor
open Go.RowKit

theorem box_frozen (w : World) (x y : Value) (t : TypeId) : (w.alloc (.cells #[x, y] t)).frozen? ⟨w.heap.size, 0, none⟩ = false ∧ (w.alloc (.cells #[x, y] t)).frozen? ⟨w.heap.size, 1, none⟩ = false := ⟨by simp, by simp⟩

end Go.Proofs.YtkjlchfmplcobabDoor
