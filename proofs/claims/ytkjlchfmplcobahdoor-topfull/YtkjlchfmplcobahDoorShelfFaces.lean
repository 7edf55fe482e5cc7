/- The faces of package shelf, as it landed, are as the laws ask. -/
import Derived.Test.YtkjlchfmplcobahDoorProg
import Derived.Test.YtkjlchfmplcobahDoorShelfGoExport
import Derived.Test.YtkjlchfmplcobahDoorShelfGoSegment
import Derived.Test.YtkjlchfmplcobahDoorRunAR
import Derived.WalkKit
import Derived.WalkSpells
import Derived.WalkLawsBesides
import Derived.Deep.QuietTactic
import Derived.BigQuiet
import Derived.Test.YtkjlchfmplcobahDoorShelfGoVerify
import Derived.Test.YtkjlchfmplcobahDoorRunAJ
import Derived.Test.YtkjlchfmplcobahDoorPackGoPack
import Derived.Test.YtkjlchfmplcobahDoorPackGoUnpack
namespace Go.Proofs.YtkjlchfmplcobahDoor
open Go.RowKit

theorem segmentC_holds : SegmentC := segmentC_of unpackRC_holds
theorem verifyC_holds : VerifyC := verifyC_of segmentC_holds rootC_holds

end Go.Proofs.YtkjlchfmplcobahDoor
