/- The walks of Head, Path and Grows: package book as it landed. -/
import Derived.Test.YtkjlchfmplcobahDoorProg
import Derived.Test.YtkjlchfmplcobahDoorRunAE
import Derived.WalkKit
import Derived.WalkSpells
import Derived.WalkLawsBesides
import Derived.Deep.AppendLies
import Derived.Deep.RegionHeld3
import Derived.BigRegion
import Derived.OwnWalk
import Derived.Laws.CopyOwn
import Derived.Test.YtkjlchfmplcobahDoorBookRefRows
namespace Go.Proofs.YtkjlchfmplcobahDoor
open Go.RowKit

theorem RecsAt.form {w : World} {v : Value} {l : List Rec} (h : RecsAt w v l) : ∃ a c, v = .slice a l.length c := by
  obtain ⟨a, c, e, -⟩ := h; exact ⟨a, c, e⟩
end Go.Proofs.YtkjlchfmplcobahDoor
