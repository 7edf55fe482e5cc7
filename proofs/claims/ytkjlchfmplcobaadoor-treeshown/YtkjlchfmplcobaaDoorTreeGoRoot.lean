/- The walks of root, Wrong and Root. -/
import Derived.Test.YtkjlchfmplcobaaDoorProg
import Derived.Test.YtkjlchfmplcobaaDoorTreeGoPart
import Derived.WalkKit
import Derived.WalkSpells
import Derived.WalkLawsBesides
import Derived.Deep.RegionHeld3
import Derived.BigRegion
namespace Go.Proofs.YtkjlchfmplcobaaDoor
open Go.RowKit

theorem some_own {w : World} {base : Nat} {x : Value} {d : List Int} (h : w.ownsRow base 5 1 x 32 (d.map (Value.int .u8))) (hb : Bytes d) : Some' w x d :=
  ⟨bytesAt_own h, hb, by have := h.1; simp at this; rw [this]; unfold maxLen; omega⟩

end Go.Proofs.YtkjlchfmplcobaaDoor
