/- The walk of the law ClashStands, over the faces of packages tree and clash. -/
import Derived.Test.YtkjlchfmplcobacDoorProg
import Derived.Test.YtkjlchfmplcobacDoorClashAlive
import Derived.WalkKit
import Derived.WalkSpells
import Derived.WalkLawsBesides
namespace Go.Proofs.YtkjlchfmplcobacDoor
open Go.RowKit

/-- What is told, as two sees it. -/
theorem told_call {w w' : World} {vx vy : Value} {ok : Bool} (hR : Ready w) (h : Below w.heap.size w w') (ht : Told w' vx vy ok) : ∃ x y xa xc ya yc, vx = .slice xa x xc ∧ vy = .slice ya y yc ∧ (ok = false → x = 0 ∧ y = 0) ∧ Calls Tryd.prog 11 #[vx, vy] w' fun e w2 => e = .returned (.bool ok) ∧ Below w'.heap.size w' w2 := by
  obtain ⟨x, y, hx, hy, l1, l2, h1, h2⟩ := told_two ht
  obtain ⟨xa, xc, rfl⟩ := hx.at'.form
  obtain ⟨ya, yc, rfl⟩ := hy.at'.form
  have t := two_any x y _ _ w' (hR.below h) hx hy l1 l2
  rw [h1] at t
  exact ⟨_, _, xa, xc, ya, yc, rfl, rfl, fun e => by obtain ⟨rfl, rfl⟩ := h2 e; exact ⟨rfl, rfl⟩, t⟩
end Go.Proofs.YtkjlchfmplcobacDoor
