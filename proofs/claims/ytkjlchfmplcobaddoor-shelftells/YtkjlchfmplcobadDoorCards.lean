/-
  DERIVED. GIVEN WITH THE SEED: THE CARDS: each row of YtkjlchfmplcobadDoorRows.lean that lists a variable, with what it lists TIED to the program's text (the seventh form; the later family's looks); each row that meets fmt, with fmt's text TOLD by the authors' own Lean function (tested against real Go, not proved from fmt's source: count such statements apart). THE CARD IS WHAT COUNTS. Prove the row's statement (the work); the ties are given (YtkjlchfmplcobadDoorTie.lean); close each card by the builder's one call (the guide's Derived/Test/ToyasCard.lean, 'card_holds'). Laid BY PROGRAM, IN A SANDBOX (cutbox-door.mjs). By AI agents, Wed Nov 11 2026. No macro, syntax, notation, axiom, sorry.
-/
import Derived.Test.YtkjlchfmplcobadDoorRows
import GoSem.ClaimSeven
namespace Go.Proofs.YtkjlchfmplcobadDoor
namespace Rows

/-- THE TIED CARD OF 'yearlaw5.ShelfTells'. -/
def shelfTellsCard : Claim7 := { stood := { row := shelfTellsRow, standIns := [], harness := (true, "8959f9723b168155008c6436f1c815b69cb7fa5d7455167cdff7a3d4fb0af73a"), looks := false }, kinds := [], alts := [], laidByText := true, laidKinds := [.data], laidTests := true, laidLooks := .later }
def ShelfTellsCardSaid : Prop := Claim7.holds Tryd.pinned (.plain (OpenSpec.ofChange shelfTellsSpec)) shelfTellsCard

/-- THE TIED CARD OF 'yearlaw5.ShelfTurns'. -/
def shelfTurnsCard : Claim7 := { stood := { row := shelfTurnsRow, standIns := [], harness := (true, "8959f9723b168155008c6436f1c815b69cb7fa5d7455167cdff7a3d4fb0af73a"), looks := false }, kinds := [], alts := [], laidByText := true, laidKinds := [.data], laidTests := true, laidLooks := .later }
def ShelfTurnsCardSaid : Prop := Claim7.holds Tryd.pinned (.plain (OpenSpec.ofChange shelfTurnsSpec)) shelfTurnsCard

/-- THE TIED CARD OF 'yearlaw5.ShelfSpoilt'. -/
def shelfSpoiltCard : Claim7 := { stood := { row := shelfSpoiltRow, standIns := [], harness := (true, "8959f9723b168155008c6436f1c815b69cb7fa5d7455167cdff7a3d4fb0af73a"), looks := false }, kinds := [], alts := [], laidByText := true, laidKinds := [.data], laidTests := true, laidLooks := .later }
def ShelfSpoiltCardSaid : Prop := Claim7.holds Tryd.pinned (.plain (OpenSpec.ofChange shelfSpoiltSpec)) shelfSpoiltCard

/-- THE TIED CARD OF 'yearlaw5.ShelfParts'. -/
def shelfPartsCard : Claim7 := { stood := { row := shelfPartsRow, standIns := [], harness := (true, "8959f9723b168155008c6436f1c815b69cb7fa5d7455167cdff7a3d4fb0af73a"), looks := false }, kinds := [], alts := [], laidByText := true, laidKinds := [.data], laidTests := true, laidLooks := .later }
def ShelfPartsCardSaid : Prop := Claim7.holds Tryd.pinned (.plain (OpenSpec.ofChange shelfPartsSpec)) shelfPartsCard

/-- THE SECOND FORM's CARD OF 'yearlaw5.ShelfTells'. -/
def shelfTellsUptoCard : Claim7 := { stood := { row := shelfTellsUptoRow, standIns := [], harness := (true, "8959f9723b168155008c6436f1c815b69cb7fa5d7455167cdff7a3d4fb0af73a"), looks := false }, kinds := [], alts := [], laidByText := true, laidKinds := [.data], laidTests := true, laidLooks := .later }
def ShelfTellsUptoCardSaid : Prop := Claim7.holds Tryd.pinned (.plain (OpenSpec.upto shelfTellsSpec)) shelfTellsUptoCard

/-- THE SECOND FORM's CARD OF 'yearlaw5.ShelfTurns'. -/
def shelfTurnsUptoCard : Claim7 := { stood := { row := shelfTurnsUptoRow, standIns := [], harness := (true, "8959f9723b168155008c6436f1c815b69cb7fa5d7455167cdff7a3d4fb0af73a"), looks := false }, kinds := [], alts := [], laidByText := true, laidKinds := [.data], laidTests := true, laidLooks := .later }
def ShelfTurnsUptoCardSaid : Prop := Claim7.holds Tryd.pinned (.plain (OpenSpec.upto shelfTurnsSpec)) shelfTurnsUptoCard

/-- THE SECOND FORM's CARD OF 'yearlaw5.ShelfSpoilt'. -/
def shelfSpoiltUptoCard : Claim7 := { stood := { row := shelfSpoiltUptoRow, standIns := [], harness := (true, "8959f9723b168155008c6436f1c815b69cb7fa5d7455167cdff7a3d4fb0af73a"), looks := false }, kinds := [], alts := [], laidByText := true, laidKinds := [.data], laidTests := true, laidLooks := .later }
def ShelfSpoiltUptoCardSaid : Prop := Claim7.holds Tryd.pinned (.plain (OpenSpec.upto shelfSpoiltSpec)) shelfSpoiltUptoCard

/-- THE SECOND FORM's CARD OF 'yearlaw5.ShelfParts'. -/
def shelfPartsUptoCard : Claim7 := { stood := { row := shelfPartsUptoRow, standIns := [], harness := (true, "8959f9723b168155008c6436f1c815b69cb7fa5d7455167cdff7a3d4fb0af73a"), looks := false }, kinds := [], alts := [], laidByText := true, laidKinds := [.data], laidTests := true, laidLooks := .later }
def ShelfPartsUptoCardSaid : Prop := Claim7.holds Tryd.pinned (.plain (OpenSpec.upto shelfPartsSpec)) shelfPartsUptoCard
end Rows
end Go.Proofs.YtkjlchfmplcobadDoor
