/- What the last texts of chapter 4's laws share: a slice of bytes that came in, opened, with its room. -/
import Derived.Test.YtkjlchfmplcobacRows
import Derived.Test.YtkjlchfmplcobacPackFace
import Derived.Test.YtkjlchfmplcobacByteOpen
import Derived.WalkKit
import Derived.ProofKit
import Derived.OpenShut
import Derived.Stop.Joined
import Derived.ShutString
import Derived.ChangeOld
import Derived.SizedLaws
namespace Go.Proofs.Ytkjlchfmplcobac
open Go.ChangeShapes Go.WideShapes Go.ChangeAt Go.WideMaps Go.WideElems Go.RowKit

theorem own : ownKnob Try.prog.godebug = none := by kernel_rfl
theorem laidOut : laidOutB Try.prog = true := by kernel_rfl

end Go.Proofs.Ytkjlchfmplcobac
