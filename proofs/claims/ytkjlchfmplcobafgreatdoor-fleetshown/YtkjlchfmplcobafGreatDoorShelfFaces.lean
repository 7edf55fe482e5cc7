/- The faces of package shelf, as it landed, are as the laws ask. -/
import Derived.Test.YtkjlchfmplcobafGreatDoorProg
import Derived.Test.YtkjlchfmplcobafGreatDoorShelfGoExport
import Derived.Test.YtkjlchfmplcobafGreatDoorShelfGoSegment
import Derived.Test.YtkjlchfmplcobafGreatDoorRunAF
import Derived.WalkKit
import Derived.WalkSpells
import Derived.WalkLawsBesides
import Derived.Deep.QuietTactic
import Derived.BigQuiet
import Derived.Test.YtkjlchfmplcobafGreatDoorShelfGoVerify
import Derived.Test.YtkjlchfmplcobafGreatDoorRunAD
import Derived.Test.YtkjlchfmplcobafGreatDoorPackGoPack
import Derived.Test.YtkjlchfmplcobafGreatDoorPackGoUnpack
namespace Go.Proofs.YtkjlchfmplcobafGreatDoor
open Go.RowKit

theorem segmentC_holds : SegmentC := segmentC_of unpackRC_holds
theorem verifyC_holds : VerifyC := verifyC_of segmentC_holds rootC_holds

end Go.Proofs.YtkjlchfmplcobafGreatDoor
