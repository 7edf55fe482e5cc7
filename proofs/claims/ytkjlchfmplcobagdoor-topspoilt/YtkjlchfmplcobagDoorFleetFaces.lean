/- The faces of package fleet, as it landed, are as the laws ask. -/
import Derived.Test.YtkjlchfmplcobagDoorProg
import Derived.Test.YtkjlchfmplcobagDoorFleetGoPlay
import Derived.Test.YtkjlchfmplcobagDoorFleetGoFind
import Derived.Test.YtkjlchfmplcobagDoorFleetGoAsked
import Derived.Test.YtkjlchfmplcobagDoorRunAC
import Derived.WalkKit
import Derived.WalkSpells
import Derived.WalkLawsBesides
import Derived.Test.YtkjlchfmplcobagDoorShelfGoVerify
import Derived.Deep.QuietTactic
import Derived.BigQuiet
import Derived.Test.YtkjlchfmplcobagDoorRunAG
import Derived.Deep.RegionHeld3
import Derived.Deep.RegionWith
import Derived.BigRegion
import Derived.Test.YtkjlchfmplcobagDoorRunAE
import Derived.Test.YtkjlchfmplcobagDoorTreeGoShow
import Derived.Test.YtkjlchfmplcobagDoorShelfFaces
import Derived.Test.YtkjlchfmplcobagDoorRunAM
import Derived.Test.YtkjlchfmplcobagDoorBookGoBook
import Derived.Test.YtkjlchfmplcobagDoorTreeGoRoots
import Derived.Test.YtkjlchfmplcobagDoorRunAA
import Derived.Deep.RegionLaw
import Derived.Test.YtkjlchfmplcobagDoorRunAH
namespace Go.Proofs.YtkjlchfmplcobagDoor
open Go.RowKit

theorem exportOC_holds : ExportOC := exportO_of rootC_holds packOC_holds
theorem playC_holds : PlayC := playC_of rootC_holds exportOC_holds verifyC_holds
end Go.Proofs.YtkjlchfmplcobagDoor
