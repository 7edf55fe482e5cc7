/- The walks of roots, Path and Grows. -/
import Derived.Test.YtkjlchfmplcobaeDoorProg
import Derived.Test.YtkjlchfmplcobaeDoorTreeGoSeg
import Derived.Test.YtkjlchfmplcobaeDoorTreeGoOf
import Derived.Test.YtkjlchfmplcobaeDoorTreeGoRoot
import Derived.WalkKit
import Derived.WalkSpells
import Derived.WalkLawsBesides
import Derived.Deep.RegionLaw
import Derived.Deep.RegionHeld3
import Derived.BigRegion
namespace Go.Proofs.YtkjlchfmplcobaeDoor
open Go.RowKit

/-- The roots of the parts that were visited lie in the variable bo; the leaves in bl. -/
def RootsI (w0 : World) (bo bl : Nat) (a : Option Addr) (n c : Nat) (L : List (List Int)) (done : List (Nat × Nat)) (w : World) : Prop :=
  Below w0.heap.size w0 w ∧ w.heap[bl]? = some (.cells #[.slice a n c] 29 (0, 0)) ∧ ∃ v, w.heap[bo]? = some (.cells #[v] 29 (0, 0)) ∧ OwnParts w w0.heap.size v (done.map (fun p => mth (seg L p)))
theorem RootsI.keep {w0 : World} {bo bl : Nat} {a : Option Addr} {n c : Nat} {L : List (List Int)} {done : List (Nat × Nat)} {w w' : World} (h : RootsI w0 bo bl a n c L done w) (hb : Below w.heap.size w w') : RootsI w0 bo bl a n c L done w' := by
  obtain ⟨h1, h2, v, h3, h4⟩ := h
  exact ⟨h1.trans (hb.mono h1.size), box_kept h2 hb, v, box_kept h3 hb, h4.below hb (Nat.le_refl _)⟩
theorem OwnEls.set {w : World} {base k : Nat} {t : TypeId} {vs : List Value} {L : List (List Int)} {c : Array Value} (h : OwnEls w base vs L) (hk : w.heap[k]? = some (.cells c t (0, 0))) (ht : t ≠ 5) (u : Value) : OwnEls (w.setCell ⟨k, 0, none⟩ u) base vs L := fun j hj => by
  obtain ⟨y, h1, h2⟩ := h j hj
  exact ⟨y, h1, own_set h2 hk ht u⟩

end Go.Proofs.YtkjlchfmplcobaeDoor
