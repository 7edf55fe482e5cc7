/- Called with whatever is handed in, the law ClashTwo answers true: two leaves that are shown at one place under one root of leaves are the same, or clash.Stands tells two texts, unlike, with one digest; and the arguments read as they did. The condition: the table of the rounds' words reads as the program's text lays it (the card ties it). -/
import Derived.Test.YtkjlchfmplcobacDoorClashTwoCard
import Derived.Test.YtkjlchfmplcobacDoorClashGoStands
namespace Go.Proofs.YtkjlchfmplcobacDoor

theorem clashTwo_card_holds : Rows.ClashTwoCardSaid := clashTwo_card_of clashStandsC_holds

end Go.Proofs.YtkjlchfmplcobacDoor
