/- The faces of package shelf, as it landed, are as the laws ask. -/
import Derived.Test.YtbkkfchcdfhfgadDoorProg
import Derived.Test.YtbkkfchcdfhfgadDoorShelfGoExport
import Derived.Test.YtbkkfchcdfhfgadDoorRunAT
import Derived.Test.YtbkkfchcdfhfgadDoorShelfGoVerify
import Derived.Test.YtbkkfchcdfhfgadDoorTreeGoRoot
import Derived.Test.YtbkkfchcdfhfgadDoorPackGoPack
import Derived.Test.YtbkkfchcdfhfgadDoorPackGoUnpack
namespace Go.Proofs.YtbkkfchcdfhfgadDoor
open Go.RowKit

theorem exportC_holds : ExportC := exportC_of rootC_holds packOC_holds
theorem segmentC_holds : SegmentC := segmentC_of unpackRC_holds
theorem entryC_holds : EntryC := entryC_of segmentC_holds
theorem verifyC_holds : VerifyC := verifyC_of segmentC_holds rootC_holds

end Go.Proofs.YtbkkfchcdfhfgadDoor
