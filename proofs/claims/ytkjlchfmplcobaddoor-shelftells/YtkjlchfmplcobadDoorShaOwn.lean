/- Slices of bytes and of words that are a call's own, and slices of slices. Nothing of the program's functions is in it. -/
import Derived.Test.YtkjlchfmplcobadDoorShaSum
import Derived.WalkKit
import Derived.Deep.AppendLies
import Derived.Laws.AppendOwnNone
namespace Go.Proofs.YtkjlchfmplcobadDoor
open Go.RowKit

theorem own_words {w : World} {base : Nat} {e : TypeId} {g n c : Nat} {l : List (BitVec 32)} (h : w.ownsRow base e 1 (.slice (some ⟨g, 0, none⟩) n c) n ((l.map U).map (Value.int .u32))) (q : Nat) (hq : q < n) :
    w.cell? ⟨g, q, none⟩ = some (.int .u32 (U (l.getD q 0))) := by
  have hl : l.length = n := by simpa using h.1
  rw [h.cellAt q (by omega), List.getElem?_map, List.getElem?_map, List.getElem?_eq_getElem (by omega), List.getD_eq_getElem?_getD, List.getElem?_eq_getElem (by omega)]
  rfl
end Go.Proofs.YtkjlchfmplcobadDoor
