/-
  DERIVED. GIVEN WITH THE SEED: THE CARDS: each row of YtkjlchfmplcobagGreatDoorRows.lean that lists a variable, with what it lists TIED to the program's text (the seventh form; the later family's looks); each row that meets fmt, with fmt's text TOLD by the authors' own Lean function (tested against real Go, not proved from fmt's source: count such statements apart). THE CARD IS WHAT COUNTS. Prove the row's statement (the work); the ties are given (YtkjlchfmplcobagGreatDoorTie.lean); close each card by the builder's one call (the guide's Derived/Test/ToyasCard.lean, 'card_holds'). Laid BY PROGRAM, IN A SANDBOX (cutbox-door.mjs). By AI agents, Wed Nov 11 2026. No macro, syntax, notation, axiom, sorry.
-/
import Derived.Test.YtkjlchfmplcobagGreatDoorRows
import GoSem.ClaimSeven
namespace Go.Proofs.YtkjlchfmplcobagGreatDoor
namespace Rows

/-- THE TIED CARD OF 'yearlaw7.FleetPast'. -/
def fleetPastCard : Claim7 := { stood := { row := fleetPastRow, standIns := [], harness := (true, "9b3dfcbb028cabb65e67735e21f93142b5468d43db100d8499ac02c58f75e09d"), looks := false }, kinds := [], alts := [], laidByText := true, laidKinds := [.data], laidTests := true, laidLooks := .later }
def FleetPastCardSaid : Prop := Claim7.holds Tryz.pinned (.plain (OpenSpec.ofChange fleetPastSpec)) fleetPastCard

/-- THE TIED CARD OF 'yearlaw7.FleetEarly'. -/
def fleetEarlyCard : Claim7 := { stood := { row := fleetEarlyRow, standIns := [], harness := (true, "9b3dfcbb028cabb65e67735e21f93142b5468d43db100d8499ac02c58f75e09d"), looks := false }, kinds := [], alts := [], laidByText := true, laidKinds := [.data], laidTests := true, laidLooks := .later }
def FleetEarlyCardSaid : Prop := Claim7.holds Tryz.pinned (.plain (OpenSpec.ofChange fleetEarlySpec)) fleetEarlyCard

/-- THE TIED CARD OF 'yearlaw7.FleetApart'. -/
def fleetApartCard : Claim7 := { stood := { row := fleetApartRow, standIns := [], harness := (true, "9b3dfcbb028cabb65e67735e21f93142b5468d43db100d8499ac02c58f75e09d"), looks := false }, kinds := [], alts := [], laidByText := true, laidKinds := [.data], laidTests := true, laidLooks := .later }
def FleetApartCardSaid : Prop := Claim7.holds Tryz.pinned (.plain (OpenSpec.ofChange fleetApartSpec)) fleetApartCard

/-- THE TIED CARD OF 'yeartop.TopYears'. -/
def topYearsCard : Claim7 := { stood := { row := topYearsRow, standIns := [], harness := (true, "9b3dfcbb028cabb65e67735e21f93142b5468d43db100d8499ac02c58f75e09d"), looks := false }, kinds := [], alts := [], laidByText := true, laidKinds := [.data], laidTests := true, laidLooks := .later }
def TopYearsCardSaid : Prop := Claim7.holds Tryz.pinned (.plain (OpenSpec.ofChange topYearsSpec)) topYearsCard

/-- THE SECOND FORM's CARD OF 'yearlaw7.FleetPast'. -/
def fleetPastUptoCard : Claim7 := { stood := { row := fleetPastUptoRow, standIns := [], harness := (true, "9b3dfcbb028cabb65e67735e21f93142b5468d43db100d8499ac02c58f75e09d"), looks := false }, kinds := [], alts := [], laidByText := true, laidKinds := [.data], laidTests := true, laidLooks := .later }
def FleetPastUptoCardSaid : Prop := Claim7.holds Tryz.pinned (.plain (OpenSpec.upto fleetPastSpec)) fleetPastUptoCard

/-- THE SECOND FORM's CARD OF 'yearlaw7.FleetEarly'. -/
def fleetEarlyUptoCard : Claim7 := { stood := { row := fleetEarlyUptoRow, standIns := [], harness := (true, "9b3dfcbb028cabb65e67735e21f93142b5468d43db100d8499ac02c58f75e09d"), looks := false }, kinds := [], alts := [], laidByText := true, laidKinds := [.data], laidTests := true, laidLooks := .later }
def FleetEarlyUptoCardSaid : Prop := Claim7.holds Tryz.pinned (.plain (OpenSpec.upto fleetEarlySpec)) fleetEarlyUptoCard

/-- THE SECOND FORM's CARD OF 'yearlaw7.FleetApart'. -/
def fleetApartUptoCard : Claim7 := { stood := { row := fleetApartUptoRow, standIns := [], harness := (true, "9b3dfcbb028cabb65e67735e21f93142b5468d43db100d8499ac02c58f75e09d"), looks := false }, kinds := [], alts := [], laidByText := true, laidKinds := [.data], laidTests := true, laidLooks := .later }
def FleetApartUptoCardSaid : Prop := Claim7.holds Tryz.pinned (.plain (OpenSpec.upto fleetApartSpec)) fleetApartUptoCard

/-- THE SECOND FORM's CARD OF 'yeartop.TopYears'. -/
def topYearsUptoCard : Claim7 := { stood := { row := topYearsUptoRow, standIns := [], harness := (true, "9b3dfcbb028cabb65e67735e21f93142b5468d43db100d8499ac02c58f75e09d"), looks := false }, kinds := [], alts := [], laidByText := true, laidKinds := [.data], laidTests := true, laidLooks := .later }
def TopYearsUptoCardSaid : Prop := Claim7.holds Tryz.pinned (.plain (OpenSpec.upto topYearsSpec)) topYearsUptoCard
end Rows
end Go.Proofs.YtkjlchfmplcobagGreatDoor
