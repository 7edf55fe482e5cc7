/- The walks of yearref2.Wrong, Ones and Same. -/
import Derived.Test.YtcpaecgjihfblaeDoorProg
import Derived.Test.YtcpaecgjihfblaeDoorShaSame
import Derived.Test.YtcpaecgjihfblaeDoorTreeSame
import Derived.Test.YtcpaecgjihfblaeDoorShaSum
import Derived.Test.YtcpaecgjihfblaeDoorTreeRefMth
import Derived.WalkKit
import Derived.WalkSpells
import Derived.WalkLawsBesides
import Derived.Deep.QuietTactic
import Derived.BigQuiet
import Derived.Test.YtcpaecgjihfblaeDoorRunAD
import Derived.Test.YtcpaecgjihfblaeDoorTreeRefOnes
namespace Go.Proofs.YtcpaecgjihfblaeDoor
end Go.Proofs.YtcpaecgjihfblaeDoor
