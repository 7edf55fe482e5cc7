/- The walk of yearref1.Same: whether two slices hold the same bytes. -/
import Derived.Test.YtkjlchfmplcobadProg
import Derived.Test.YtkjlchfmplcobadByteMem
import Derived.WalkKit
import Derived.WalkSpells
import Derived.WalkLawsBesides
import Derived.Deep.QuietTactic
import Derived.BigQuiet
namespace Go.Proofs.Ytkjlchfmplcobad
open Go.RowKit

theorem drewN_two (w : World) (m n : Nat) : (w.drewN m).drewN n = w.drewN (m + n) := by simp [World.drewN, Nat.add_assoc]

end Go.Proofs.Ytkjlchfmplcobad
