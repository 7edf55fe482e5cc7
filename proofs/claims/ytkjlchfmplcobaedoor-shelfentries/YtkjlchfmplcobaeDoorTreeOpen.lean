/- Lists of bytes that came in, opened as the faces take them. -/
import Derived.Test.YtkjlchfmplcobaeDoorShaLaid
import Derived.Test.YtkjlchfmplcobaeDoorShaSum
import Derived.WalkKit
import Derived.Deep.AppendLies
import Derived.Laws.AppendOwnNone
import Derived.Deep.Matrix
import Derived.Test.YtkjlchfmplcobaeDoorRunAC
namespace Go.Proofs.YtkjlchfmplcobaeDoor
open Go.ChangeShapes Go.WideShapes Go.ChangeAt Go.WideMaps Go.WideElems Go.RowKit

theorem ready_of_laid {W : World} (h : laidMetH Tryd.prog laidK W) : Ready W := by
  obtain ⟨h1, h2⟩ := tab_of_laid h
  exact ⟨h1, h2⟩

end Go.Proofs.YtkjlchfmplcobaeDoor
