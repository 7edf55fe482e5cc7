/- What the laws of chapter 6 ask of package book, of the landed packages book and tree. -/
import Derived.Test.YtkjlchfmplcobaeDoorBookGoParse
import Derived.Test.YtkjlchfmplcobaeDoorBookGoBook
import Derived.Test.YtkjlchfmplcobaeDoorTreeGoRoots
import Derived.Test.YtkjlchfmplcobaeDoorTreeGoGrows
namespace Go.Proofs.YtkjlchfmplcobaeDoor

theorem bookHeadC : BookHeadC := bookHeadC_holds rootC_holds
theorem bookPathC : BookPathC := bookPathC_holds pathC_holds
theorem bookGrowsC : BookGrowsC := bookGrowsC_holds growsC_holds

end Go.Proofs.YtkjlchfmplcobaeDoor
