/- The walk of yearref4.Text: the document's own text of tokens. -/
import Derived.Test.YtbkkfchcdfhfgadDoorProg
import Derived.Test.YtbkkfchcdfhfgadDoorRunAH
import Derived.Test.YtbkkfchcdfhfgadDoorPackRefTokens
import Derived.WalkKit
import Derived.WalkSpells
import Derived.WalkLawsBesides
import Derived.Deep.RegionHeld3
import Derived.BigRegion
import Derived.Deep.QuietTactic
import Derived.BigQuiet
namespace Go.Proofs.YtbkkfchcdfhfgadDoor
open Go.RowKit

end Go.Proofs.YtbkkfchcdfhfgadDoor
