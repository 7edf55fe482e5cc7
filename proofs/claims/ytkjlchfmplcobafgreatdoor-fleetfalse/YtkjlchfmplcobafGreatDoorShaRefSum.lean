/- The walk of yearref1.Sum: the document's digest. -/
import Derived.Test.YtkjlchfmplcobafGreatDoorProg
import Derived.Test.YtkjlchfmplcobafGreatDoorShaBits
import Derived.WalkKit
import Derived.WalkSpells
import Derived.WalkLawsBesides
import Derived.Laws.Externs
import Derived.Deep.QuietTactic
import Derived.BigQuiet
import Derived.Test.YtkjlchfmplcobafGreatDoorShaSum
import Derived.Deep.AppendLies
import Derived.Laws.AppendOwnNone
import Derived.Test.YtkjlchfmplcobafGreatDoorRunAF
import Derived.Deep.RegionHeld3
import Derived.BigRegion
namespace Go.Proofs.YtkjlchfmplcobafGreatDoor
open Go.RowKit

def hI : List Int := st0.list.map U
end Go.Proofs.YtkjlchfmplcobafGreatDoor
