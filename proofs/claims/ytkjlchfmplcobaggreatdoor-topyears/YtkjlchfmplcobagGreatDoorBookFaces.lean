/- What the laws of chapter 6 ask of package book, of the landed packages book and tree. -/
import Derived.Test.YtkjlchfmplcobagGreatDoorProg
import Derived.Test.YtkjlchfmplcobagGreatDoorRunAC
import Derived.Test.YtkjlchfmplcobagGreatDoorRunAK
import Derived.Test.YtkjlchfmplcobagGreatDoorRunAA
import Derived.WalkKit
import Derived.WalkSpells
import Derived.WalkLawsBesides
import Derived.Deep.RegionHeld3
import Derived.BigRegion
import Derived.Test.YtkjlchfmplcobagGreatDoorRunAH
import Derived.Test.YtkjlchfmplcobagGreatDoorTreeGoRoots
import Derived.Deep.RegionLaw
namespace Go.Proofs.YtkjlchfmplcobagGreatDoor

theorem bookHeadC : BookHeadC := bookHeadC_holds rootC_holds
theorem bookPathC : BookPathC := bookPathC_holds pathC_holds
end Go.Proofs.YtkjlchfmplcobagGreatDoor
