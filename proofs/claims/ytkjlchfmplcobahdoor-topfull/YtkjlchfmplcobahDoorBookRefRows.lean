/- The walk of yearref5.Rows. -/
import Derived.Test.YtkjlchfmplcobahDoorProg
import Derived.Test.YtkjlchfmplcobahDoorRunAE
import Derived.WalkKit
import Derived.Deep.AppendLies
import Derived.WalkSpells
import Derived.WalkLawsBesides
import Derived.Deep.RegionHeld3
import Derived.BigRegion
namespace Go.Proofs.YtkjlchfmplcobahDoor
open Go.RowKit

theorem OwnParts.far {w : World} {base k o : Nat} {v : Value} {L : List (List Int)} {c : Array Value} {t : TypeId} (h : OwnParts w base v L) (hk : w.heap[k]? = some (.cells c t (0, 0))) (h1 : t ≠ 5) (h2 : t ≠ 25) (u : Value) : OwnParts (w.setCell ⟨k, o, none⟩ u) base v L := by
  obtain ⟨vs, hr, he⟩ := h
  refine ⟨vs, ownsRow_setCell_other hr (a := ⟨k, o, none⟩) (own_box hr hk h2) u, fun j hj => ?_⟩
  obtain ⟨y, q1, q2⟩ := he j hj
  exact ⟨y, q1, ownsRow_setCell_other q2 (a := ⟨k, o, none⟩) (own_box q2 hk h1) u⟩
end Go.Proofs.YtkjlchfmplcobahDoor
