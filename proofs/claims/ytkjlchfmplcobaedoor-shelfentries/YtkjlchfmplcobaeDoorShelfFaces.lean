/- The faces of package shelf, as it landed, are as the laws ask. -/
import Derived.Test.YtkjlchfmplcobaeDoorProg
import Derived.Test.YtkjlchfmplcobaeDoorShelfGoExport
import Derived.Test.YtkjlchfmplcobaeDoorShelfGoEntry
import Derived.Test.YtkjlchfmplcobaeDoorShelfGoVerify
import Derived.Test.YtkjlchfmplcobaeDoorTreeGoRoot
import Derived.Test.YtkjlchfmplcobaeDoorPackGoPack
import Derived.Test.YtkjlchfmplcobaeDoorPackGoUnpack
namespace Go.Proofs.YtkjlchfmplcobaeDoor
open Go.RowKit

theorem exportC_holds : ExportC := exportC_of rootC_holds packOC_holds
theorem segmentC_holds : SegmentC := segmentC_of unpackRC_holds
theorem entryC_holds : EntryC := entryC_of segmentC_holds
theorem verifyC_holds : VerifyC := verifyC_of segmentC_holds rootC_holds

end Go.Proofs.YtkjlchfmplcobaeDoor
