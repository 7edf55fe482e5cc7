/-
  DERIVED. GIVEN WITH THE SEED: THE CARDS: each row of YtkjlchfmplcobagDoorRows.lean that lists a variable, with what it lists TIED to the program's text (the seventh form; the later family's looks); each row that meets fmt, with fmt's text TOLD by the authors' own Lean function (tested against real Go, not proved from fmt's source: count such statements apart). THE CARD IS WHAT COUNTS. Prove the row's statement (the work); the ties are given (YtkjlchfmplcobagDoorTie.lean); close each card by the builder's one call (the guide's Derived/Test/ToyasCard.lean, 'card_holds'). Laid BY PROGRAM, IN A SANDBOX (cutbox-door.mjs). By AI agents, Wed Nov 11 2026. No macro, syntax, notation, axiom, sorry.
-/
import Derived.Test.YtkjlchfmplcobagDoorRows
import GoSem.ClaimSeven
namespace Go.Proofs.YtkjlchfmplcobagDoor
namespace Rows

/-- THE TIED CARD OF 'yeartop.TopSpoilt'. -/
def topSpoiltCard : Claim7 := { stood := { row := topSpoiltRow, standIns := [], harness := (true, "2c3bb7ebd510a7df4d5a8907e7a714ffaaa43bbb27dbcf7f47da12eb8ba0495a"), looks := false }, kinds := [], alts := [], laidByText := true, laidKinds := [.data], laidTests := true, laidLooks := .later }
def TopSpoiltCardSaid : Prop := Claim7.holds Tryd.pinned (.plain (OpenSpec.ofChange topSpoiltSpec)) topSpoiltCard

/-- THE TIED CARD OF 'yeartop.TopBorder'. -/
def topBorderCard : Claim7 := { stood := { row := topBorderRow, standIns := [], harness := (true, "2c3bb7ebd510a7df4d5a8907e7a714ffaaa43bbb27dbcf7f47da12eb8ba0495a"), looks := false }, kinds := [], alts := [], laidByText := true, laidKinds := [.data], laidTests := true, laidLooks := .later }
def TopBorderCardSaid : Prop := Claim7.holds Tryd.pinned (.plain (OpenSpec.ofChange topBorderSpec)) topBorderCard

/-- THE SECOND FORM's CARD OF 'yeartop.TopSpoilt'. -/
def topSpoiltUptoCard : Claim7 := { stood := { row := topSpoiltUptoRow, standIns := [], harness := (true, "2c3bb7ebd510a7df4d5a8907e7a714ffaaa43bbb27dbcf7f47da12eb8ba0495a"), looks := false }, kinds := [], alts := [], laidByText := true, laidKinds := [.data], laidTests := true, laidLooks := .later }
def TopSpoiltUptoCardSaid : Prop := Claim7.holds Tryd.pinned (.plain (OpenSpec.upto topSpoiltSpec)) topSpoiltUptoCard

/-- THE SECOND FORM's CARD OF 'yeartop.TopBorder'. -/
def topBorderUptoCard : Claim7 := { stood := { row := topBorderUptoRow, standIns := [], harness := (true, "2c3bb7ebd510a7df4d5a8907e7a714ffaaa43bbb27dbcf7f47da12eb8ba0495a"), looks := false }, kinds := [], alts := [], laidByText := true, laidKinds := [.data], laidTests := true, laidLooks := .later }
def TopBorderUptoCardSaid : Prop := Claim7.holds Tryd.pinned (.plain (OpenSpec.upto topBorderSpec)) topBorderUptoCard
end Rows
end Go.Proofs.YtkjlchfmplcobagDoor
