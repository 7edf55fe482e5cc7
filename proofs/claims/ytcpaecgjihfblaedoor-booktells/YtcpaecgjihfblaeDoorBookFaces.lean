/- What the laws of chapter 6 ask of package book, of the landed packages book and tree. -/
import Derived.Test.YtcpaecgjihfblaeDoorBookGoParse
import Derived.Test.YtcpaecgjihfblaeDoorBookGoBook
import Derived.Test.YtcpaecgjihfblaeDoorTreeGoRoots
import Derived.Test.YtcpaecgjihfblaeDoorTreeGoGrows
namespace Go.Proofs.YtcpaecgjihfblaeDoor

theorem bookHeadC : BookHeadC := bookHeadC_holds rootC_holds
theorem bookPathC : BookPathC := bookPathC_holds pathC_holds
theorem bookGrowsC : BookGrowsC := bookGrowsC_holds growsC_holds

end Go.Proofs.YtcpaecgjihfblaeDoor
