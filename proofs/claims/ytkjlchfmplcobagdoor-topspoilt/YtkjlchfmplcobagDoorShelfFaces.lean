/- The faces of package shelf, as it landed, are as the laws ask. -/
import Derived.Test.YtkjlchfmplcobagDoorProg
import Derived.Test.YtkjlchfmplcobagDoorShelfGoExport
import Derived.Test.YtkjlchfmplcobagDoorShelfGoSegment
import Derived.Test.YtkjlchfmplcobagDoorTreeGoShow
import Derived.WalkKit
import Derived.WalkSpells
import Derived.WalkLawsBesides
import Derived.Deep.QuietTactic
import Derived.BigQuiet
import Derived.Test.YtkjlchfmplcobagDoorShelfGoVerify
import Derived.Test.YtkjlchfmplcobagDoorRunAH
import Derived.Test.YtkjlchfmplcobagDoorPackGoPack
import Derived.Test.YtkjlchfmplcobagDoorPackGoUnpack
namespace Go.Proofs.YtkjlchfmplcobagDoor
open Go.RowKit

theorem segmentC_holds : SegmentC := segmentC_of unpackRC_holds
theorem verifyC_holds : VerifyC := verifyC_of segmentC_holds rootC_holds

end Go.Proofs.YtkjlchfmplcobagDoor
