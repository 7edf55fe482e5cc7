/- What the row's condition on the table of the rounds' words gives the walks; and how a slice of bytes that came in is opened. -/
import Derived.Test.YtkjlchfmplcobadDoorRows
import Derived.Test.YtkjlchfmplcobadDoorTie
import Derived.Test.YtkjlchfmplcobadDoorShaSum
import Derived.WalkKit
import Derived.ProofKit
import Derived.LaidMore
import Derived.OpenShut
import Derived.Stop.Joined
import Derived.ShutString
import Derived.ChangeOld
import Derived.SizedLaws
import Derived.Lib.LaidTab
namespace Go.Proofs.YtkjlchfmplcobadDoor
open Go.ChangeShapes Go.WideShapes Go.ChangeAt Go.WideMaps Go.WideElems Go.RowKit

theorem own : ownKnob Tryd.prog.godebug = none := by kernel_rfl
theorem laidOut : laidOutB Tryd.prog = true := by kernel_rfl
abbrev laidK : List (String × DataW Unit) := [("yearbook/sha.roundWords", Rows.laid_yearbook_sha_roundWords)]
def kwI : List Int := kw.map U
theorem laid_tab : (Rows.laid_yearbook_sha_roundWords : DataW Unit) = Lib.tabData .u32 kwI := by kernel_rfl
theorem gK : Tryd.prog.globalNamed "yearbook/sha.roundWords" = some 0 := by kernel_rfl
theorem tK : (Tryd.prog.globals[0]?).map (·.type) = some 131 := by kernel_rfl

/-- The door's own heap meets the condition. -/
theorem door_met (os : Os) (args : Array Value) : laidMetH Tryd.prog laidK ((World.doorLaid Tryd.prog 14 os).forCall (fun _ _ => 0) ⟨#[], args, []⟩).memory :=
  laidMetH_of_parts3 (fuel := 8) (laidMet_of_run' 8 (by kernel_rfl) (by kernel_rfl)) (by kernel_rfl) (by kernel_rfl)

theorem tab_of_laid {W : World} (h : laidMetH Tryd.prog laidK W) : Tab W ∧ 0 < W.heap.size := by
  rw [MakeChecks.laidMetH_plain _ _ _ (by kernel_rfl)] at h
  have h' : laidMet Tryd.prog (("yearbook/sha.roundWords", Lib.tabData .u32 kwI) :: []) W := by rw [← laid_tab]; exact h
  have hT := Lib.tabIs_of_head gK tK Tryd.underlying131 Tryd.underlying76 (by kernel_rfl) (by kernel_rfl) h'
  have hc : Tab W := fun i hi => by
    have h1 := hT.cell gK i (by show i < (kw.map U).length; rw [List.length_map]; exact hi)
    rw [h1]
    congr 2
    show (kw.map U).getD i 0 = U (kw.getD i 0)
    rw [List.getD_eq_getElem?_getD, List.getD_eq_getElem?_getD, List.getElem?_map, List.getElem?_eq_getElem (show i < kw.length from hi)]
    rfl
  exact ⟨hc, World.block_lt_of_cell? _ _ (hc 0 (by omega))⟩

end Go.Proofs.YtkjlchfmplcobadDoor
