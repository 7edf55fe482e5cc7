/- The walks of writePair, flagsOf, writeToken and writeGroup: package pack as it landed. -/
import Derived.Test.YtkjlchfmplcobaeGreatDoorRunAL
import Derived.RangeFuncOwn
namespace Go.Proofs.YtkjlchfmplcobaeGreatDoor
open Go.RowKit

/-- What is no row of bytes lies as it lay. -/
structure Kept' (w w' : World) : Prop where
 others : KeepsOthers w w'
 boxes : ∀ (k : Nat) (c : Array Value) (t : TypeId), w.heap[k]? = some (Obj.cells c t (0, 0)) → t ≠ 5 → w'.heap[k]? = some (Obj.cells c t (0, 0))
theorem Kept'.refl (w : World) : Kept' w w := ⟨KeepsOthers.refl w, fun _ _ _ h _ => h⟩
theorem Kept'.trans {a b c : World} (h : Kept' a b) (k : Kept' b c) : Kept' a c := ⟨h.others.trans k.others, fun j x t hj ht => k.boxes j x t (h.boxes j x t hj ht) ht⟩
theorem Kept'.alloc (w : World) (o : Obj) : Kept' w (w.alloc o) := ⟨KeepsOthers.alloc w o, fun _ _ _ h _ => box_old w o h⟩
end Go.Proofs.YtkjlchfmplcobaeGreatDoor
