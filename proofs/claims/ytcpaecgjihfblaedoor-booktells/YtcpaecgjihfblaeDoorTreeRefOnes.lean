/- The walk of yearref2.Ones. -/
import Derived.Test.YtcpaecgjihfblaeDoorProg
import Derived.Test.YtcpaecgjihfblaeDoorRunAD
import Derived.WalkKit
import Derived.WalkSpells
import Derived.WalkLawsBesides
namespace Go.Proofs.YtcpaecgjihfblaeDoor
open Go.RowKit

end Go.Proofs.YtcpaecgjihfblaeDoor
