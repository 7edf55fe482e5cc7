/- What the laws of chapter 6 ask of package book, of the landed packages book and tree. -/
import Derived.Test.YtkjlchfmplcobafGreatDoorProg
import Derived.Test.YtkjlchfmplcobafGreatDoorRunAB
import Derived.Test.YtkjlchfmplcobafGreatDoorRunAK
import Derived.Test.YtkjlchfmplcobafGreatDoorRunAA
import Derived.WalkKit
import Derived.WalkSpells
import Derived.WalkLawsBesides
import Derived.Deep.RegionHeld3
import Derived.BigRegion
import Derived.Test.YtkjlchfmplcobafGreatDoorRunAG
import Derived.Test.YtkjlchfmplcobafGreatDoorTreeGoRoots
import Derived.Deep.RegionLaw
namespace Go.Proofs.YtkjlchfmplcobafGreatDoor

theorem bookHeadC : BookHeadC := bookHeadC_holds rootC_holds
theorem bookPathC : BookPathC := bookPathC_holds pathC_holds
end Go.Proofs.YtkjlchfmplcobafGreatDoor
