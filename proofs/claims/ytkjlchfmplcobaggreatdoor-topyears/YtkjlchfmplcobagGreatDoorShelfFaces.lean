/- The faces of package shelf, as it landed, are as the laws ask. -/
import Derived.Test.YtkjlchfmplcobagGreatDoorProg
import Derived.Test.YtkjlchfmplcobagGreatDoorShelfGoExport
import Derived.Test.YtkjlchfmplcobagGreatDoorShelfGoSegment
import Derived.Test.YtkjlchfmplcobagGreatDoorRunAN
import Derived.WalkKit
import Derived.WalkSpells
import Derived.WalkLawsBesides
import Derived.Deep.QuietTactic
import Derived.BigQuiet
import Derived.Test.YtkjlchfmplcobagGreatDoorShelfGoVerify
import Derived.Test.YtkjlchfmplcobagGreatDoorRunAE
import Derived.Test.YtkjlchfmplcobagGreatDoorPackGoPack
import Derived.Test.YtkjlchfmplcobagGreatDoorPackGoUnpack
namespace Go.Proofs.YtkjlchfmplcobagGreatDoor
open Go.RowKit

theorem segmentC_holds : SegmentC := segmentC_of unpackRC_holds
theorem verifyC_holds : VerifyC := verifyC_of segmentC_holds rootC_holds

end Go.Proofs.YtkjlchfmplcobagGreatDoor
