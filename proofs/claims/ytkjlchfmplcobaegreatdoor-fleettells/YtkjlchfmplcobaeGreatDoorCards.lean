/-
  DERIVED. GIVEN WITH THE SEED: THE CARDS: each row of YtkjlchfmplcobaeGreatDoorRows.lean that lists a variable, with what it lists TIED to the program's text (the seventh form; the later family's looks); each row that meets fmt, with fmt's text TOLD by the authors' own Lean function (tested against real Go, not proved from fmt's source: count such statements apart). THE CARD IS WHAT COUNTS. Prove the row's statement (the work); the ties are given (YtkjlchfmplcobaeGreatDoorTie.lean); close each card by the builder's one call (the guide's Derived/Test/ToyasCard.lean, 'card_holds'). Laid BY PROGRAM, IN A SANDBOX (cutbox-door.mjs). By AI agents, Wed Nov 11 2026. No macro, syntax, notation, axiom, sorry.
-/
import Derived.Test.YtkjlchfmplcobaeGreatDoorRows
import GoSem.ClaimSeven
namespace Go.Proofs.YtkjlchfmplcobaeGreatDoor
namespace Rows

/-- THE TIED CARD OF 'yearlaw7.FleetTells'. -/
def fleetTellsCard : Claim7 := { stood := { row := fleetTellsRow, standIns := [], harness := (true, "bbbaf9fa445fed0b84be884268d0599f3585fdb34e06848631e4718e8149e6bc"), looks := false }, kinds := [], alts := [], laidByText := true, laidKinds := [.data], laidTests := true, laidLooks := .later }
def FleetTellsCardSaid : Prop := Claim7.holds Tryz.pinned (.plain (OpenSpec.ofChange fleetTellsSpec)) fleetTellsCard

/-- THE TIED CARD OF 'yearlaw7.FleetShows'. -/
def fleetShowsCard : Claim7 := { stood := { row := fleetShowsRow, standIns := [], harness := (true, "bbbaf9fa445fed0b84be884268d0599f3585fdb34e06848631e4718e8149e6bc"), looks := false }, kinds := [], alts := [], laidByText := true, laidKinds := [.data], laidTests := true, laidLooks := .later }
def FleetShowsCardSaid : Prop := Claim7.holds Tryz.pinned (.plain (OpenSpec.ofChange fleetShowsSpec)) fleetShowsCard

/-- THE SECOND FORM's CARD OF 'yearlaw7.FleetTells'. -/
def fleetTellsUptoCard : Claim7 := { stood := { row := fleetTellsUptoRow, standIns := [], harness := (true, "bbbaf9fa445fed0b84be884268d0599f3585fdb34e06848631e4718e8149e6bc"), looks := false }, kinds := [], alts := [], laidByText := true, laidKinds := [.data], laidTests := true, laidLooks := .later }
def FleetTellsUptoCardSaid : Prop := Claim7.holds Tryz.pinned (.plain (OpenSpec.upto fleetTellsSpec)) fleetTellsUptoCard

/-- THE SECOND FORM's CARD OF 'yearlaw7.FleetShows'. -/
def fleetShowsUptoCard : Claim7 := { stood := { row := fleetShowsUptoRow, standIns := [], harness := (true, "bbbaf9fa445fed0b84be884268d0599f3585fdb34e06848631e4718e8149e6bc"), looks := false }, kinds := [], alts := [], laidByText := true, laidKinds := [.data], laidTests := true, laidLooks := .later }
def FleetShowsUptoCardSaid : Prop := Claim7.holds Tryz.pinned (.plain (OpenSpec.upto fleetShowsSpec)) fleetShowsUptoCard
end Rows
end Go.Proofs.YtkjlchfmplcobaeGreatDoor
