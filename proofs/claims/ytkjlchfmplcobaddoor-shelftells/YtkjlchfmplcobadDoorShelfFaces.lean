/- The faces of package shelf, as it landed, are as the laws ask. -/
import Derived.Test.YtkjlchfmplcobadDoorProg
import Derived.Test.YtkjlchfmplcobadDoorShelfGoExport
import Derived.Test.YtkjlchfmplcobadDoorShelfGoEntry
import Derived.Test.YtkjlchfmplcobadDoorShelfGoVerify
import Derived.Test.YtkjlchfmplcobadDoorRunAD
import Derived.Test.YtkjlchfmplcobadDoorPackGoPack
import Derived.Test.YtkjlchfmplcobadDoorPackGoUnpack
namespace Go.Proofs.YtkjlchfmplcobadDoor
open Go.RowKit

theorem exportC_holds : ExportC := exportC_of rootC_holds packOC_holds
theorem segmentC_holds : SegmentC := segmentC_of unpackRC_holds
theorem entryC_holds : EntryC := entryC_of segmentC_holds
theorem verifyC_holds : VerifyC := verifyC_of segmentC_holds rootC_holds

end Go.Proofs.YtkjlchfmplcobadDoor
