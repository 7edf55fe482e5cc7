/-
  DERIVED. GIVEN WITH THE SEED: THE CARDS: each row of YtkjlchfmplcobafGreatDoorRows.lean that lists a variable, with what it lists TIED to the program's text (the seventh form; the later family's looks); each row that meets fmt, with fmt's text TOLD by the authors' own Lean function (tested against real Go, not proved from fmt's source: count such statements apart). THE CARD IS WHAT COUNTS. Prove the row's statement (the work); the ties are given (YtkjlchfmplcobafGreatDoorTie.lean); close each card by the builder's one call (the guide's Derived/Test/ToyasCard.lean, 'card_holds'). Laid BY PROGRAM, IN A SANDBOX (cutbox-door.mjs). By AI agents, Wed Nov 11 2026. No macro, syntax, notation, axiom, sorry.
-/
import Derived.Test.YtkjlchfmplcobafGreatDoorRows
import GoSem.ClaimSeven
namespace Go.Proofs.YtkjlchfmplcobafGreatDoor
namespace Rows

/-- THE TIED CARD OF 'yearlaw7.FleetShown'. -/
def fleetShownCard : Claim7 := { stood := { row := fleetShownRow, standIns := [], harness := (true, "c292bfdf19dd97054339a8391801511fa53bdacee43f31054778d1f0d1b18e95"), looks := false }, kinds := [], alts := [], laidByText := true, laidKinds := [.data], laidTests := true, laidLooks := .later }
def FleetShownCardSaid : Prop := Claim7.holds Tryz.pinned (.plain (OpenSpec.ofChange fleetShownSpec)) fleetShownCard

/-- THE TIED CARD OF 'yearlaw7.FleetKeeps'. -/
def fleetKeepsCard : Claim7 := { stood := { row := fleetKeepsRow, standIns := [], harness := (true, "c292bfdf19dd97054339a8391801511fa53bdacee43f31054778d1f0d1b18e95"), looks := false }, kinds := [], alts := [], laidByText := true, laidKinds := [.data], laidTests := true, laidLooks := .later }
def FleetKeepsCardSaid : Prop := Claim7.holds Tryz.pinned (.plain (OpenSpec.ofChange fleetKeepsSpec)) fleetKeepsCard

/-- THE TIED CARD OF 'yearlaw7.FleetOnce'. -/
def fleetOnceCard : Claim7 := { stood := { row := fleetOnceRow, standIns := [], harness := (true, "c292bfdf19dd97054339a8391801511fa53bdacee43f31054778d1f0d1b18e95"), looks := false }, kinds := [], alts := [], laidByText := true, laidKinds := [.data], laidTests := true, laidLooks := .later }
def FleetOnceCardSaid : Prop := Claim7.holds Tryz.pinned (.plain (OpenSpec.ofChange fleetOnceSpec)) fleetOnceCard

/-- THE TIED CARD OF 'yearlaw7.FleetBook'. -/
def fleetBookCard : Claim7 := { stood := { row := fleetBookRow, standIns := [], harness := (true, "c292bfdf19dd97054339a8391801511fa53bdacee43f31054778d1f0d1b18e95"), looks := false }, kinds := [], alts := [], laidByText := true, laidKinds := [.data], laidTests := true, laidLooks := .later }
def FleetBookCardSaid : Prop := Claim7.holds Tryz.pinned (.plain (OpenSpec.ofChange fleetBookSpec)) fleetBookCard

/-- THE TIED CARD OF 'yearlaw7.FleetRefused'. -/
def fleetRefusedCard : Claim7 := { stood := { row := fleetRefusedRow, standIns := [], harness := (true, "c292bfdf19dd97054339a8391801511fa53bdacee43f31054778d1f0d1b18e95"), looks := false }, kinds := [], alts := [], laidByText := true, laidKinds := [.data], laidTests := true, laidLooks := .later }
def FleetRefusedCardSaid : Prop := Claim7.holds Tryz.pinned (.plain (OpenSpec.ofChange fleetRefusedSpec)) fleetRefusedCard

/-- THE TIED CARD OF 'yearlaw7.FleetFalse'. -/
def fleetFalseCard : Claim7 := { stood := { row := fleetFalseRow, standIns := [], harness := (true, "c292bfdf19dd97054339a8391801511fa53bdacee43f31054778d1f0d1b18e95"), looks := false }, kinds := [], alts := [], laidByText := true, laidKinds := [.data], laidTests := true, laidLooks := .later }
def FleetFalseCardSaid : Prop := Claim7.holds Tryz.pinned (.plain (OpenSpec.ofChange fleetFalseSpec)) fleetFalseCard

/-- THE SECOND FORM's CARD OF 'yearlaw7.FleetShown'. -/
def fleetShownUptoCard : Claim7 := { stood := { row := fleetShownUptoRow, standIns := [], harness := (true, "c292bfdf19dd97054339a8391801511fa53bdacee43f31054778d1f0d1b18e95"), looks := false }, kinds := [], alts := [], laidByText := true, laidKinds := [.data], laidTests := true, laidLooks := .later }
def FleetShownUptoCardSaid : Prop := Claim7.holds Tryz.pinned (.plain (OpenSpec.upto fleetShownSpec)) fleetShownUptoCard

/-- THE SECOND FORM's CARD OF 'yearlaw7.FleetKeeps'. -/
def fleetKeepsUptoCard : Claim7 := { stood := { row := fleetKeepsUptoRow, standIns := [], harness := (true, "c292bfdf19dd97054339a8391801511fa53bdacee43f31054778d1f0d1b18e95"), looks := false }, kinds := [], alts := [], laidByText := true, laidKinds := [.data], laidTests := true, laidLooks := .later }
def FleetKeepsUptoCardSaid : Prop := Claim7.holds Tryz.pinned (.plain (OpenSpec.upto fleetKeepsSpec)) fleetKeepsUptoCard

/-- THE SECOND FORM's CARD OF 'yearlaw7.FleetOnce'. -/
def fleetOnceUptoCard : Claim7 := { stood := { row := fleetOnceUptoRow, standIns := [], harness := (true, "c292bfdf19dd97054339a8391801511fa53bdacee43f31054778d1f0d1b18e95"), looks := false }, kinds := [], alts := [], laidByText := true, laidKinds := [.data], laidTests := true, laidLooks := .later }
def FleetOnceUptoCardSaid : Prop := Claim7.holds Tryz.pinned (.plain (OpenSpec.upto fleetOnceSpec)) fleetOnceUptoCard

/-- THE SECOND FORM's CARD OF 'yearlaw7.FleetBook'. -/
def fleetBookUptoCard : Claim7 := { stood := { row := fleetBookUptoRow, standIns := [], harness := (true, "c292bfdf19dd97054339a8391801511fa53bdacee43f31054778d1f0d1b18e95"), looks := false }, kinds := [], alts := [], laidByText := true, laidKinds := [.data], laidTests := true, laidLooks := .later }
def FleetBookUptoCardSaid : Prop := Claim7.holds Tryz.pinned (.plain (OpenSpec.upto fleetBookSpec)) fleetBookUptoCard

/-- THE SECOND FORM's CARD OF 'yearlaw7.FleetRefused'. -/
def fleetRefusedUptoCard : Claim7 := { stood := { row := fleetRefusedUptoRow, standIns := [], harness := (true, "c292bfdf19dd97054339a8391801511fa53bdacee43f31054778d1f0d1b18e95"), looks := false }, kinds := [], alts := [], laidByText := true, laidKinds := [.data], laidTests := true, laidLooks := .later }
def FleetRefusedUptoCardSaid : Prop := Claim7.holds Tryz.pinned (.plain (OpenSpec.upto fleetRefusedSpec)) fleetRefusedUptoCard

/-- THE SECOND FORM's CARD OF 'yearlaw7.FleetFalse'. -/
def fleetFalseUptoCard : Claim7 := { stood := { row := fleetFalseUptoRow, standIns := [], harness := (true, "c292bfdf19dd97054339a8391801511fa53bdacee43f31054778d1f0d1b18e95"), looks := false }, kinds := [], alts := [], laidByText := true, laidKinds := [.data], laidTests := true, laidLooks := .later }
def FleetFalseUptoCardSaid : Prop := Claim7.holds Tryz.pinned (.plain (OpenSpec.upto fleetFalseSpec)) fleetFalseUptoCard
end Rows
end Go.Proofs.YtkjlchfmplcobafGreatDoor
