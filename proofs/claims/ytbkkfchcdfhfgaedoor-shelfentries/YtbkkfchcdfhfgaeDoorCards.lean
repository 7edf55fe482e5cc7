/-
  DERIVED. GIVEN WITH THE SEED: THE CARDS: each row of YtbkkfchcdfhfgaeDoorRows.lean that lists a variable, with what it lists TIED to the program's text (the seventh form; the later family's looks); each row that meets fmt, with fmt's text TOLD by the authors' own Lean function (tested against real Go, not proved from fmt's source: count such statements apart). THE CARD IS WHAT COUNTS. Prove the row's statement (the work); the ties are given (YtbkkfchcdfhfgaeDoorTie.lean); close each card by the builder's one call (the guide's Derived/Test/ToyasCard.lean, 'card_holds'). Laid BY PROGRAM, IN A SANDBOX (cutbox-door.mjs). By AI agents, Wed Nov 11 2026. No macro, syntax, notation, axiom, sorry.
-/
import Derived.Test.YtbkkfchcdfhfgaeDoorRows
import GoSem.ClaimSeven
namespace Go.Proofs.YtbkkfchcdfhfgaeDoor
namespace Rows

/-- THE TIED CARD OF 'yearlaw5.ShelfEntries'. -/
def shelfEntriesCard : Claim7 := { stood := { row := shelfEntriesRow, standIns := [], harness := (true, "bb7520b078f41d1f1f695f2bd0922456cca7de2c35765e629821f3ac25dff3b6"), looks := false }, kinds := [], alts := [], laidByText := true, laidKinds := [.data], laidTests := true, laidLooks := .later }
def ShelfEntriesCardSaid : Prop := Claim7.holds Tryd.pinned (.plain (OpenSpec.ofChange shelfEntriesSpec)) shelfEntriesCard

/-- THE SECOND FORM's CARD OF 'yearlaw5.ShelfEntries'. -/
def shelfEntriesUptoCard : Claim7 := { stood := { row := shelfEntriesUptoRow, standIns := [], harness := (true, "bb7520b078f41d1f1f695f2bd0922456cca7de2c35765e629821f3ac25dff3b6"), looks := false }, kinds := [], alts := [], laidByText := true, laidKinds := [.data], laidTests := true, laidLooks := .later }
def ShelfEntriesUptoCardSaid : Prop := Claim7.holds Tryd.pinned (.plain (OpenSpec.upto shelfEntriesSpec)) shelfEntriesUptoCard
end Rows
end Go.Proofs.YtbkkfchcdfhfgaeDoor
