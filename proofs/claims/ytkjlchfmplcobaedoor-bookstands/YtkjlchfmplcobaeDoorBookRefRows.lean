/- The walk of yearref5.Rows. -/
import Derived.Test.YtkjlchfmplcobaeDoorProg
import Derived.Test.YtkjlchfmplcobaeDoorBookRefRow
import Derived.WalkKit
import Derived.WalkSpells
import Derived.WalkLawsBesides
namespace Go.Proofs.YtkjlchfmplcobaeDoor
open Go.RowKit

theorem refRows_snoc {l : List Rec} {k : Nat} (hk : k < l.length) : (rowsOf l).take (k + 1) = (rowsOf l).take k ++ [rowL (l.getD k rec0)] := by
  have h := rows_length l
  rw [List.take_succ_eq_append_getElem (by omega)]
  congr 2
  have := rows_get hk
  rwa [List.getD_eq_getElem?_getD, List.getElem?_eq_getElem (by omega)] at this
theorem OwnParts.far {w : World} {base k o : Nat} {v : Value} {L : List (List Int)} {c : Array Value} {t : TypeId} (h : OwnParts w base v L) (hk : w.heap[k]? = some (.cells c t (0, 0))) (h1 : t ≠ 5) (h2 : t ≠ 22) (u : Value) : OwnParts (w.setCell ⟨k, o, none⟩ u) base v L := by
  obtain ⟨vs, hr, he⟩ := h
  refine ⟨vs, ownsRow_setCell_other hr (a := ⟨k, o, none⟩) (own_box hr hk h2) u, fun j hj => ?_⟩
  obtain ⟨y, q1, q2⟩ := he j hj
  exact ⟨y, q1, ownsRow_setCell_other q2 (a := ⟨k, o, none⟩) (own_box q2 hk h1) u⟩
end Go.Proofs.YtkjlchfmplcobaeDoor
