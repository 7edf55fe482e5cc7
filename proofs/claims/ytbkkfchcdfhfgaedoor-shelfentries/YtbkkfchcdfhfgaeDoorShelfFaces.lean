/- The faces of package shelf, as it landed, are as the laws ask. -/
import Derived.Test.YtbkkfchcdfhfgaeDoorProg
import Derived.Test.YtbkkfchcdfhfgaeDoorShelfGoExport
import Derived.Test.YtbkkfchcdfhfgaeDoorShelfGoEntry
import Derived.Test.YtbkkfchcdfhfgaeDoorShelfGoVerify
import Derived.Test.YtbkkfchcdfhfgaeDoorTreeGoRoot
import Derived.Test.YtbkkfchcdfhfgaeDoorPackGoPack
import Derived.Test.YtbkkfchcdfhfgaeDoorPackGoUnpack
namespace Go.Proofs.YtbkkfchcdfhfgaeDoor
open Go.RowKit

theorem exportC_holds : ExportC := exportC_of rootC_holds packOC_holds
theorem segmentC_holds : SegmentC := segmentC_of unpackRC_holds
theorem entryC_holds : EntryC := entryC_of segmentC_holds
theorem verifyC_holds : VerifyC := verifyC_of segmentC_holds rootC_holds

end Go.Proofs.YtbkkfchcdfhfgaeDoor
