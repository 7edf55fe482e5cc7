/- Small laws on worlds that the walks of package sha want; nothing of the program is in it. -/
import Derived.WalkKit
import Derived.WalkSmall
import Derived.Deep.MidRow
import Derived.Deep.Draws
namespace Go.Proofs.Ytkjlchfmplcobac
open Go.RowKit

/-- A block that was laid. -/
theorem new_cell (w : World) (t : TypeId) (C : Array Value) (j : Nat) (hj : j < C.size) : (w.alloc (.cells C t)).cell? ⟨w.heap.size, j, none⟩ = some C[j] := by
  rw [cell_of_row (w.alloc (.cells C t)) w.heap.size j C t (0, 0) (by show (w.heap.push _)[w.heap.size]? = _; simp)]
  simp [hj]

end Go.Proofs.Ytkjlchfmplcobac
