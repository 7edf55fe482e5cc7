/- The faces of package fleet, as it landed, are as the laws ask. -/
import Derived.Test.YtkjlchfmplcobagGreatDoorProg
import Derived.Test.YtkjlchfmplcobagGreatDoorFleetGoPlay
import Derived.Test.YtkjlchfmplcobagGreatDoorFleetGoShowC
import Derived.Test.YtkjlchfmplcobagGreatDoorFleetGoCheck
import Derived.Test.YtkjlchfmplcobagGreatDoorShelfFaces
import Derived.Test.YtkjlchfmplcobagGreatDoorBookFaces
import Derived.Test.YtkjlchfmplcobagGreatDoorTreeGoStands
import Derived.Test.YtkjlchfmplcobagGreatDoorTreeGoRoots
namespace Go.Proofs.YtkjlchfmplcobagGreatDoor
open Go.RowKit

theorem exportOC_holds : ExportOC := exportO_of rootC_holds packOC_holds
theorem verifyOC_holds : VerifyOC := verifyO_of segmentC_holds rootC_holds
theorem playC_holds : PlayC := playC_of rootC_holds exportOC_holds verifyC_holds
theorem showC_holds : ShowC := showC_of verifyOC_holds pathC_holds bookPathC bookHeadC
theorem checkC_holds : CheckC := checkC_of recBytesC_holds standsC_holds

end Go.Proofs.YtkjlchfmplcobagGreatDoor
