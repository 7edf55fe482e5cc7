/-
  DERIVED. GIVEN WITH THE SEED: THE CARDS: each row of YtkjlchfmplcobaeDoorRows.lean that lists a variable, with what it lists TIED to the program's text (the seventh form; the later family's looks); each row that meets fmt, with fmt's text TOLD by the authors' own Lean function (tested against real Go, not proved from fmt's source: count such statements apart). THE CARD IS WHAT COUNTS. Prove the row's statement (the work); the ties are given (YtkjlchfmplcobaeDoorTie.lean); close each card by the builder's one call (the guide's Derived/Test/ToyasCard.lean, 'card_holds'). Laid BY PROGRAM, IN A SANDBOX (cutbox-door.mjs). By AI agents, Wed Nov 11 2026. No macro, syntax, notation, axiom, sorry.
-/
import Derived.Test.YtkjlchfmplcobaeDoorRows
import GoSem.ClaimSeven
namespace Go.Proofs.YtkjlchfmplcobaeDoor
namespace Rows

/-- THE TIED CARD OF 'yearlaw5.ShelfEntries'. -/
def shelfEntriesCard : Claim7 := { stood := { row := shelfEntriesRow, standIns := [], harness := (true, "f950907d110f0e2ab8c7af8042fa07b20124eab401f1dbfd27491a43adb5acfb"), looks := false }, kinds := [], alts := [], laidByText := true, laidKinds := [.data], laidTests := true, laidLooks := .later }
def ShelfEntriesCardSaid : Prop := Claim7.holds Tryd.pinned (.plain (OpenSpec.ofChange shelfEntriesSpec)) shelfEntriesCard

/-- THE TIED CARD OF 'yearlaw6.BookTells'. -/
def bookTellsCard : Claim7 := { stood := { row := bookTellsRow, standIns := [], harness := (true, "f950907d110f0e2ab8c7af8042fa07b20124eab401f1dbfd27491a43adb5acfb"), looks := false }, kinds := [], alts := [], laidByText := true, laidKinds := [.data], laidTests := true, laidLooks := .later }
def BookTellsCardSaid : Prop := Claim7.holds Tryd.pinned (.plain (OpenSpec.ofChange bookTellsSpec)) bookTellsCard

/-- THE TIED CARD OF 'yearlaw6.BookTurns'. -/
def bookTurnsCard : Claim7 := { stood := { row := bookTurnsRow, standIns := [], harness := (true, "f950907d110f0e2ab8c7af8042fa07b20124eab401f1dbfd27491a43adb5acfb"), looks := false }, kinds := [], alts := [], laidByText := true, laidKinds := [.data], laidTests := true, laidLooks := .later }
def BookTurnsCardSaid : Prop := Claim7.holds Tryd.pinned (.plain (OpenSpec.ofChange bookTurnsSpec)) bookTurnsCard

/-- THE TIED CARD OF 'yearlaw6.BookStands'. -/
def bookStandsCard : Claim7 := { stood := { row := bookStandsRow, standIns := [], harness := (true, "f950907d110f0e2ab8c7af8042fa07b20124eab401f1dbfd27491a43adb5acfb"), looks := false }, kinds := [], alts := [], laidByText := true, laidKinds := [.data], laidTests := true, laidLooks := .later }
def BookStandsCardSaid : Prop := Claim7.holds Tryd.pinned (.plain (OpenSpec.ofChange bookStandsSpec)) bookStandsCard

/-- THE SECOND FORM's CARD OF 'yearlaw5.ShelfEntries'. -/
def shelfEntriesUptoCard : Claim7 := { stood := { row := shelfEntriesUptoRow, standIns := [], harness := (true, "f950907d110f0e2ab8c7af8042fa07b20124eab401f1dbfd27491a43adb5acfb"), looks := false }, kinds := [], alts := [], laidByText := true, laidKinds := [.data], laidTests := true, laidLooks := .later }
def ShelfEntriesUptoCardSaid : Prop := Claim7.holds Tryd.pinned (.plain (OpenSpec.upto shelfEntriesSpec)) shelfEntriesUptoCard

/-- THE SECOND FORM's CARD OF 'yearlaw6.BookTells'. -/
def bookTellsUptoCard : Claim7 := { stood := { row := bookTellsUptoRow, standIns := [], harness := (true, "f950907d110f0e2ab8c7af8042fa07b20124eab401f1dbfd27491a43adb5acfb"), looks := false }, kinds := [], alts := [], laidByText := true, laidKinds := [.data], laidTests := true, laidLooks := .later }
def BookTellsUptoCardSaid : Prop := Claim7.holds Tryd.pinned (.plain (OpenSpec.upto bookTellsSpec)) bookTellsUptoCard

/-- THE SECOND FORM's CARD OF 'yearlaw6.BookTurns'. -/
def bookTurnsUptoCard : Claim7 := { stood := { row := bookTurnsUptoRow, standIns := [], harness := (true, "f950907d110f0e2ab8c7af8042fa07b20124eab401f1dbfd27491a43adb5acfb"), looks := false }, kinds := [], alts := [], laidByText := true, laidKinds := [.data], laidTests := true, laidLooks := .later }
def BookTurnsUptoCardSaid : Prop := Claim7.holds Tryd.pinned (.plain (OpenSpec.upto bookTurnsSpec)) bookTurnsUptoCard

/-- THE SECOND FORM's CARD OF 'yearlaw6.BookStands'. -/
def bookStandsUptoCard : Claim7 := { stood := { row := bookStandsUptoRow, standIns := [], harness := (true, "f950907d110f0e2ab8c7af8042fa07b20124eab401f1dbfd27491a43adb5acfb"), looks := false }, kinds := [], alts := [], laidByText := true, laidKinds := [.data], laidTests := true, laidLooks := .later }
def BookStandsUptoCardSaid : Prop := Claim7.holds Tryd.pinned (.plain (OpenSpec.upto bookStandsSpec)) bookStandsUptoCard
end Rows
end Go.Proofs.YtkjlchfmplcobaeDoor
