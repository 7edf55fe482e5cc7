/- Called with whatever is handed in, the law ClashStands answers true: what is shown under the root of leaves, at a place, is the leaf there, or clash.Stands tells two texts, unlike, with one digest; and the arguments read as they did. The condition: the table of the rounds' words reads as the program's text lays it (the card ties it). -/
import Derived.Test.YtkjlchfmplcobacDoorClashStandsCard
import Derived.Test.YtkjlchfmplcobacDoorClashGoStands
namespace Go.Proofs.YtkjlchfmplcobacDoor

theorem clashStands_card_holds : Rows.ClashStandsCardSaid := clashStands_card_of clashStandsC_holds

end Go.Proofs.YtkjlchfmplcobacDoor
