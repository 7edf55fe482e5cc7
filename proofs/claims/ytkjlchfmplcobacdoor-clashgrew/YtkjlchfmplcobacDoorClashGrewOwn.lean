/- Called with whatever is handed in, the law ClashGrew answers true: a head that is shown to be the beginning of leaves is theirs, or clash.Grew tells two texts, unlike, with one digest; and the arguments read as they did. The condition: the table of the rounds' words reads as the program's text lays it (the card ties it). -/
import Derived.Test.YtkjlchfmplcobacDoorClashGrewCard
import Derived.Test.YtkjlchfmplcobacDoorClashGoStands
import Derived.Test.YtkjlchfmplcobacDoorClashGoGrew
namespace Go.Proofs.YtkjlchfmplcobacDoor

theorem clashGrew_card_holds : Rows.ClashGrewCardSaid := clashGrew_card_of clashStandsC_holds clashGrewC_holds

end Go.Proofs.YtkjlchfmplcobacDoor
