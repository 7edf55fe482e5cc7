/- Bytes turned into a string: what it is, and that no other bytes give it. Nothing of the program's functions is in it. -/
import Derived.Test.YtkjlchfmplcobacProg
import Derived.Test.YtkjlchfmplcobacByteMem
import Derived.WalkKit
import Derived.WalkSpells
import Derived.WalkLawsBesides
import Derived.Laws.BytesArg
import Derived.Shelf.Bytes.SlSmallAll
namespace Go.Proofs.Ytkjlchfmplcobac
open Go.RowKit

theorem BytesAt.conv {w : World} {v : Value} {zs : List Int} (h : BytesAt w v zs) : (convert 22 9 v).run Try.prog w = .ok (.string (strOfNums zs)) w := by
  rcases h with ⟨rfl, a, c, rfl, -⟩ | ⟨b, off, cp, rfl, -, hc⟩
  · exact run_convert_bytes_zero w 22 5 Try.underlying22 Try.underlying5 a c 9 Try.underlying9
  · exact run_convert_bytes_arg (P := Try.prog) w 22 5 Try.underlying22 Try.underlying5 b off _ cp zs rfl hc 9 Try.underlying9

end Go.Proofs.Ytkjlchfmplcobac
