/- Five cells written; old memory kept. Nothing of the program's functions is in it. -/
import Derived.Test.YtkjlchfmplcobaeDoorBookRefRec
namespace Go.Proofs.YtkjlchfmplcobaeDoor
open Go.RowKit

/-- Five cells written. -/
theorem five_set {w : World} {R : Nat} {a b c d e : Value} {t : TypeId} (h : w.heap[R]? = some (.cells #[a, b, c, d, e] t (0, 0))) (u0 u1 u2 u3 u4 : Value) : (((((w.setCell ⟨R, 0, none⟩ u0).setCell ⟨R, 1, none⟩ u1).setCell ⟨R, 2, none⟩ u2).setCell ⟨R, 3, none⟩ u3).setCell ⟨R, 4, none⟩ u4).heap[R]? = some (.cells #[u0, u1, u2, u3, u4] t (0, 0)) := by
  have h0 := heap_setCell_same w R 0 _ t u0 h
  have h1 := heap_setCell_same _ R 1 _ t u1 h0
  have h2 := heap_setCell_same _ R 2 _ t u2 h1
  have h3 := heap_setCell_same _ R 3 _ t u3 h2
  exact heap_setCell_same _ R 4 _ t u4 h3
theorem five_below {B R : Nat} {w0 w : World} (h : Below B w0 w) (hR : B ≤ R) (u0 u1 u2 u3 u4 : Value) : Below B w0 (((((w.setCell ⟨R, 0, none⟩ u0).setCell ⟨R, 1, none⟩ u1).setCell ⟨R, 2, none⟩ u2).setCell ⟨R, 3, none⟩ u3).setCell ⟨R, 4, none⟩ u4) := ((((h.setCell hR _).setCell hR _).setCell hR _).setCell hR _).setCell hR _
theorem five_own {w : World} {base R n : Nat} {e : TypeId} {v : Value} {xs : List Value} (h : w.ownsRow base e 1 v n xs) (hR : R < base) (u0 u1 u2 u3 u4 : Value) : (((((w.setCell ⟨R, 0, none⟩ u0).setCell ⟨R, 1, none⟩ u1).setCell ⟨R, 2, none⟩ u2).setCell ⟨R, 3, none⟩ u3).setCell ⟨R, 4, none⟩ u4).ownsRow base e 1 v n xs :=
  ownsRow_setCell_below (ownsRow_setCell_below (ownsRow_setCell_below (ownsRow_setCell_below (ownsRow_setCell_below h hR _) hR _) hR _) hR _) hR _
/-- Two cells written. -/
theorem two_set {w : World} {R : Nat} {a b : Value} {t : TypeId} (h : w.heap[R]? = some (.cells #[a, b] t (0, 0))) (u0 u1 : Value) : ((w.setCell ⟨R, 0, none⟩ u0).setCell ⟨R, 1, none⟩ u1).heap[R]? = some (.cells #[u0, u1] t (0, 0)) := by
  have h0 := heap_setCell_same w R 0 _ t u0 h
  exact heap_setCell_same _ R 1 _ t u1 h0
theorem two_below {B R : Nat} {w0 w : World} (h : Below B w0 w) (hR : B ≤ R) (u0 u1 : Value) : Below B w0 ((w.setCell ⟨R, 0, none⟩ u0).setCell ⟨R, 1, none⟩ u1) := (h.setCell hR _).setCell hR _
theorem two_own {w : World} {base R n : Nat} {e : TypeId} {v : Value} {xs : List Value} (h : w.ownsRow base e 1 v n xs) (hR : R < base) (u0 u1 : Value) : ((w.setCell ⟨R, 0, none⟩ u0).setCell ⟨R, 1, none⟩ u1).ownsRow base e 1 v n xs := ownsRow_setCell_below (ownsRow_setCell_below h hR _) hR _
theorem two_far {w : World} {R k : Nat} {x : Obj} (h : w.heap[k]? = some x) (hk : k ≠ R) (u0 u1 : Value) : ((w.setCell ⟨R, 0, none⟩ u0).setCell ⟨R, 1, none⟩ u1).heap[k]? = some x := box_set_far (box_set_far h hk) hk
end Go.Proofs.YtkjlchfmplcobaeDoor
