/-
  DERIVED. GIVEN WITH THE SEED: THE CARDS: each row of YtkjlchfmplcobacDoorRows.lean that lists a variable, with what it lists TIED to the program's text (the seventh form; the later family's looks); each row that meets fmt, with fmt's text TOLD by the authors' own Lean function (tested against real Go, not proved from fmt's source: count such statements apart). THE CARD IS WHAT COUNTS. Prove the row's statement (the work); the ties are given (YtkjlchfmplcobacDoorTie.lean); close each card by the builder's one call (the guide's Derived/Test/ToyasCard.lean, 'card_holds'). Laid BY PROGRAM, IN A SANDBOX (cutbox-door.mjs). By AI agents, Wed Nov 11 2026. No macro, syntax, notation, axiom, sorry.
-/
import Derived.Test.YtkjlchfmplcobacDoorRows
import GoSem.ClaimSeven
namespace Go.Proofs.YtkjlchfmplcobacDoor
namespace Rows

/-- THE TIED CARD OF 'yearlaw3.ClashStands'. -/
def clashStandsCard : Claim7 := { stood := { row := clashStandsRow, standIns := [], harness := (true, "f4c7d9eced607039d69ae4825cc459716a6e0061216bbc996ba629227cddc3b3"), looks := false }, kinds := [], alts := [], laidByText := true, laidKinds := [.data], laidTests := true, laidLooks := .later }
def ClashStandsCardSaid : Prop := Claim7.holds Tryd.pinned (.plain (OpenSpec.ofChange clashStandsSpec)) clashStandsCard

/-- THE TIED CARD OF 'yearlaw3.ClashGrew'. -/
def clashGrewCard : Claim7 := { stood := { row := clashGrewRow, standIns := [], harness := (true, "f4c7d9eced607039d69ae4825cc459716a6e0061216bbc996ba629227cddc3b3"), looks := false }, kinds := [], alts := [], laidByText := true, laidKinds := [.data], laidTests := true, laidLooks := .later }
def ClashGrewCardSaid : Prop := Claim7.holds Tryd.pinned (.plain (OpenSpec.ofChange clashGrewSpec)) clashGrewCard

/-- THE TIED CARD OF 'yearlaw3.ClashTwo'. -/
def clashTwoCard : Claim7 := { stood := { row := clashTwoRow, standIns := [], harness := (true, "f4c7d9eced607039d69ae4825cc459716a6e0061216bbc996ba629227cddc3b3"), looks := false }, kinds := [], alts := [], laidByText := true, laidKinds := [.data], laidTests := true, laidLooks := .later }
def ClashTwoCardSaid : Prop := Claim7.holds Tryd.pinned (.plain (OpenSpec.ofChange clashTwoSpec)) clashTwoCard

/-- THE SECOND FORM's CARD OF 'yearlaw3.ClashStands'. -/
def clashStandsUptoCard : Claim7 := { stood := { row := clashStandsUptoRow, standIns := [], harness := (true, "f4c7d9eced607039d69ae4825cc459716a6e0061216bbc996ba629227cddc3b3"), looks := false }, kinds := [], alts := [], laidByText := true, laidKinds := [.data], laidTests := true, laidLooks := .later }
def ClashStandsUptoCardSaid : Prop := Claim7.holds Tryd.pinned (.plain (OpenSpec.upto clashStandsSpec)) clashStandsUptoCard

/-- THE SECOND FORM's CARD OF 'yearlaw3.ClashGrew'. -/
def clashGrewUptoCard : Claim7 := { stood := { row := clashGrewUptoRow, standIns := [], harness := (true, "f4c7d9eced607039d69ae4825cc459716a6e0061216bbc996ba629227cddc3b3"), looks := false }, kinds := [], alts := [], laidByText := true, laidKinds := [.data], laidTests := true, laidLooks := .later }
def ClashGrewUptoCardSaid : Prop := Claim7.holds Tryd.pinned (.plain (OpenSpec.upto clashGrewSpec)) clashGrewUptoCard

/-- THE SECOND FORM's CARD OF 'yearlaw3.ClashTwo'. -/
def clashTwoUptoCard : Claim7 := { stood := { row := clashTwoUptoRow, standIns := [], harness := (true, "f4c7d9eced607039d69ae4825cc459716a6e0061216bbc996ba629227cddc3b3"), looks := false }, kinds := [], alts := [], laidByText := true, laidKinds := [.data], laidTests := true, laidLooks := .later }
def ClashTwoUptoCardSaid : Prop := Claim7.holds Tryd.pinned (.plain (OpenSpec.upto clashTwoSpec)) clashTwoUptoCard
end Rows
end Go.Proofs.YtkjlchfmplcobacDoor
