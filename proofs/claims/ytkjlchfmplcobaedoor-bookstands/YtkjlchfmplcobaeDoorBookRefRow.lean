/- The walk of yearref5.Row. -/
import Derived.Test.YtkjlchfmplcobaeDoorProg
import Derived.Test.YtkjlchfmplcobaeDoorBookRefRec
import Derived.Test.YtkjlchfmplcobaeDoorRunAA
import Derived.WalkKit
import Derived.WalkSpells
import Derived.WalkLawsBesides
import Derived.Deep.RegionHeld3
import Derived.BigRegion
namespace Go.Proofs.YtkjlchfmplcobaeDoor
open Go.RowKit

theorem bytesAt_news {w : World} {ad : Addr} {n c : Nat} {zs : List Int} (h : BytesAt w (.slice (some ad) n c) zs) : ∀ j u, (zs.map (Value.int .u8))[j]? = some u → w.cell? (ad.add j) = some u := by
  obtain ⟨-, h | ⟨a, e, h⟩⟩ := h.src
  · cases h.1
  · cases e; exact h
end Go.Proofs.YtkjlchfmplcobaeDoor
