/- Called with whatever is handed in, the law ClashTells answers true: where clash.Stands or clash.Grew tells two texts, they are unlike and have one digest; where none are told, both are nothing; and the arguments read as they did. The condition: the table of the rounds' words reads as the program's text lays it (the card ties it). -/
import Derived.Test.YtkjlchfmplcobabDoorClashTellsCard
import Derived.Test.YtkjlchfmplcobabDoorClashGoStands
import Derived.Test.YtkjlchfmplcobabDoorClashGoGrew
namespace Go.Proofs.YtkjlchfmplcobabDoor

theorem clashTells_card_holds : Rows.ClashTellsCardSaid := clashTells_card_of clashStandsC_holds clashGrewC_holds

end Go.Proofs.YtkjlchfmplcobabDoor
