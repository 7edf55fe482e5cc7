/- The faces of package fleet, as it landed, are as the laws ask. -/
import Derived.Test.YtkjlchfmplcobahDoorProg
import Derived.Test.YtkjlchfmplcobahDoorRunAU
import Derived.Test.YtkjlchfmplcobahDoorRunAT
import Derived.Test.YtkjlchfmplcobahDoorFleetGoAsked
import Derived.Test.YtkjlchfmplcobahDoorRunAE
import Derived.Test.YtkjlchfmplcobahDoorRunAF
import Derived.WalkKit
import Derived.WalkSpells
import Derived.WalkLawsBesides
import Derived.Test.YtkjlchfmplcobahDoorShelfGoVerify
import Derived.Deep.QuietTactic
import Derived.BigQuiet
import Derived.Test.YtkjlchfmplcobahDoorRunAK
import Derived.Deep.RegionHeld3
import Derived.Deep.RegionWith
import Derived.BigRegion
import Derived.Test.YtkjlchfmplcobahDoorRunAH
import Derived.Test.YtkjlchfmplcobahDoorShelfFaces
import Derived.Test.YtkjlchfmplcobahDoorRunAO
import Derived.Test.YtkjlchfmplcobahDoorBookGoBook
import Derived.Test.YtkjlchfmplcobahDoorTreeGoRoots
import Derived.Test.YtkjlchfmplcobahDoorRunAB
import Derived.Deep.RegionLaw
import Derived.Test.YtkjlchfmplcobahDoorRunAI
namespace Go.Proofs.YtkjlchfmplcobahDoor
open Go.RowKit

theorem exportOC_holds : ExportOC := exportO_of rootC_holds packOC_holds
theorem playC_holds : PlayC := playC_of rootC_holds exportOC_holds verifyC_holds
end Go.Proofs.YtkjlchfmplcobahDoor
