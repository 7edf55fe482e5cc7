/- What the laws of chapter 6 ask of package book, of the landed packages book and tree. -/
import Derived.Test.YtkjlchfmplcobaeDoorBookGoParse
import Derived.Test.YtkjlchfmplcobaeDoorBookGoBook
import Derived.Test.YtkjlchfmplcobaeDoorTreeGoRoots
import Derived.Test.YtkjlchfmplcobaeDoorProg
import Derived.Test.YtkjlchfmplcobaeDoorTreeFace
import Derived.WalkKit
import Derived.WalkSpells
import Derived.WalkLawsBesides
import Derived.Deep.RegionLaw
import Derived.Deep.RegionHeld3
import Derived.BigRegion
namespace Go.Proofs.YtkjlchfmplcobaeDoor

theorem bookHeadC : BookHeadC := bookHeadC_holds rootC_holds
end Go.Proofs.YtkjlchfmplcobaeDoor
