/-
  DERIVED. GIVEN WITH THE SEED: THE CARDS: each row of YtkjlchfmplcobabDoorRows.lean that lists a variable, with what it lists TIED to the program's text (the seventh form; the later family's looks); each row that meets fmt, with fmt's text TOLD by the authors' own Lean function (tested against real Go, not proved from fmt's source: count such statements apart). THE CARD IS WHAT COUNTS. Prove the row's statement (the work); the ties are given (YtkjlchfmplcobabDoorTie.lean); close each card by the builder's one call (the guide's Derived/Test/ToyasCard.lean, 'card_holds'). Laid BY PROGRAM, IN A SANDBOX (cutbox-door.mjs). By AI agents, Wed Nov 11 2026. No macro, syntax, notation, axiom, sorry.
-/
import Derived.Test.YtkjlchfmplcobabDoorRows
import GoSem.ClaimSeven
namespace Go.Proofs.YtkjlchfmplcobabDoor
namespace Rows

/-- THE TIED CARD OF 'yearlaw2.TreeStands'. -/
def treeStandsCard : Claim7 := { stood := { row := treeStandsRow, standIns := [], harness := (true, "4e35a812b5b3665616f5cb7e97dffe5cdece21cbce469a19c37f3c9267349d54"), looks := false }, kinds := [], alts := [], laidByText := true, laidKinds := [.data], laidTests := true, laidLooks := .later }
def TreeStandsCardSaid : Prop := Claim7.holds Tryd.pinned (.plain (OpenSpec.ofChange treeStandsSpec)) treeStandsCard

/-- THE TIED CARD OF 'yearlaw2.TreeGrows'. -/
def treeGrowsCard : Claim7 := { stood := { row := treeGrowsRow, standIns := [], harness := (true, "4e35a812b5b3665616f5cb7e97dffe5cdece21cbce469a19c37f3c9267349d54"), looks := false }, kinds := [], alts := [], laidByText := true, laidKinds := [.data], laidTests := true, laidLooks := .later }
def TreeGrowsCardSaid : Prop := Claim7.holds Tryd.pinned (.plain (OpenSpec.ofChange treeGrowsSpec)) treeGrowsCard

/-- THE TIED CARD OF 'yearlaw2.TreeEdge'. -/
def treeEdgeCard : Claim7 := { stood := { row := treeEdgeRow, standIns := [], harness := (true, "4e35a812b5b3665616f5cb7e97dffe5cdece21cbce469a19c37f3c9267349d54"), looks := false }, kinds := [], alts := [], laidByText := true, laidKinds := [.data], laidTests := true, laidLooks := .later }
def TreeEdgeCardSaid : Prop := Claim7.holds Tryd.pinned (.plain (OpenSpec.ofChange treeEdgeSpec)) treeEdgeCard

/-- THE TIED CARD OF 'yearlaw2.TreeSizes'. -/
def treeSizesCard : Claim7 := { stood := { row := treeSizesRow, standIns := [], harness := (true, "4e35a812b5b3665616f5cb7e97dffe5cdece21cbce469a19c37f3c9267349d54"), looks := false }, kinds := [], alts := [], laidByText := true, laidKinds := [.data], laidTests := true, laidLooks := .later }
def TreeSizesCardSaid : Prop := Claim7.holds Tryd.pinned (.plain (OpenSpec.ofChange treeSizesSpec)) treeSizesCard

/-- THE TIED CARD OF 'yearlaw2.TreeChain'. -/
def treeChainCard : Claim7 := { stood := { row := treeChainRow, standIns := [], harness := (true, "4e35a812b5b3665616f5cb7e97dffe5cdece21cbce469a19c37f3c9267349d54"), looks := false }, kinds := [], alts := [], laidByText := true, laidKinds := [.data], laidTests := true, laidLooks := .later }
def TreeChainCardSaid : Prop := Claim7.holds Tryd.pinned (.plain (OpenSpec.ofChange treeChainSpec)) treeChainCard

/-- THE TIED CARD OF 'yearlaw3.ClashTells'. -/
def clashTellsCard : Claim7 := { stood := { row := clashTellsRow, standIns := [], harness := (true, "4e35a812b5b3665616f5cb7e97dffe5cdece21cbce469a19c37f3c9267349d54"), looks := false }, kinds := [], alts := [], laidByText := true, laidKinds := [.data], laidTests := true, laidLooks := .later }
def ClashTellsCardSaid : Prop := Claim7.holds Tryd.pinned (.plain (OpenSpec.ofChange clashTellsSpec)) clashTellsCard

/-- THE SECOND FORM's CARD OF 'yearlaw2.TreeStands'. -/
def treeStandsUptoCard : Claim7 := { stood := { row := treeStandsUptoRow, standIns := [], harness := (true, "4e35a812b5b3665616f5cb7e97dffe5cdece21cbce469a19c37f3c9267349d54"), looks := false }, kinds := [], alts := [], laidByText := true, laidKinds := [.data], laidTests := true, laidLooks := .later }
def TreeStandsUptoCardSaid : Prop := Claim7.holds Tryd.pinned (.plain (OpenSpec.upto treeStandsSpec)) treeStandsUptoCard

/-- THE SECOND FORM's CARD OF 'yearlaw2.TreeGrows'. -/
def treeGrowsUptoCard : Claim7 := { stood := { row := treeGrowsUptoRow, standIns := [], harness := (true, "4e35a812b5b3665616f5cb7e97dffe5cdece21cbce469a19c37f3c9267349d54"), looks := false }, kinds := [], alts := [], laidByText := true, laidKinds := [.data], laidTests := true, laidLooks := .later }
def TreeGrowsUptoCardSaid : Prop := Claim7.holds Tryd.pinned (.plain (OpenSpec.upto treeGrowsSpec)) treeGrowsUptoCard

/-- THE SECOND FORM's CARD OF 'yearlaw2.TreeEdge'. -/
def treeEdgeUptoCard : Claim7 := { stood := { row := treeEdgeUptoRow, standIns := [], harness := (true, "4e35a812b5b3665616f5cb7e97dffe5cdece21cbce469a19c37f3c9267349d54"), looks := false }, kinds := [], alts := [], laidByText := true, laidKinds := [.data], laidTests := true, laidLooks := .later }
def TreeEdgeUptoCardSaid : Prop := Claim7.holds Tryd.pinned (.plain (OpenSpec.upto treeEdgeSpec)) treeEdgeUptoCard

/-- THE SECOND FORM's CARD OF 'yearlaw2.TreeSizes'. -/
def treeSizesUptoCard : Claim7 := { stood := { row := treeSizesUptoRow, standIns := [], harness := (true, "4e35a812b5b3665616f5cb7e97dffe5cdece21cbce469a19c37f3c9267349d54"), looks := false }, kinds := [], alts := [], laidByText := true, laidKinds := [.data], laidTests := true, laidLooks := .later }
def TreeSizesUptoCardSaid : Prop := Claim7.holds Tryd.pinned (.plain (OpenSpec.upto treeSizesSpec)) treeSizesUptoCard

/-- THE SECOND FORM's CARD OF 'yearlaw2.TreeChain'. -/
def treeChainUptoCard : Claim7 := { stood := { row := treeChainUptoRow, standIns := [], harness := (true, "4e35a812b5b3665616f5cb7e97dffe5cdece21cbce469a19c37f3c9267349d54"), looks := false }, kinds := [], alts := [], laidByText := true, laidKinds := [.data], laidTests := true, laidLooks := .later }
def TreeChainUptoCardSaid : Prop := Claim7.holds Tryd.pinned (.plain (OpenSpec.upto treeChainSpec)) treeChainUptoCard

/-- THE SECOND FORM's CARD OF 'yearlaw3.ClashTells'. -/
def clashTellsUptoCard : Claim7 := { stood := { row := clashTellsUptoRow, standIns := [], harness := (true, "4e35a812b5b3665616f5cb7e97dffe5cdece21cbce469a19c37f3c9267349d54"), looks := false }, kinds := [], alts := [], laidByText := true, laidKinds := [.data], laidTests := true, laidLooks := .later }
def ClashTellsUptoCardSaid : Prop := Claim7.holds Tryd.pinned (.plain (OpenSpec.upto clashTellsSpec)) clashTellsUptoCard
end Rows
end Go.Proofs.YtkjlchfmplcobabDoor
