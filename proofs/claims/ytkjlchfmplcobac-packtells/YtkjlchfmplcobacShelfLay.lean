/- Chapter 5's mathematics: entries one behind the other, each with its length ahead, and read again. Nothing of the program is in it. -/
import Derived.Test.YtkjlchfmplcobacPackSizes
namespace Go.Proofs.Ytkjlchfmplcobac

theorem unpack_len (b : List Int) : (unpackL b).1.length ≤ 4000 := by
  unfold unpackL
  split
  · exact Nat.zero_le _
  · split
    · exact Nat.zero_le _
    · split
      · exact Nat.zero_le _
      · split
        · exact Nat.zero_le _
        · rename_i hS out at' flags he hc
          show out.length ≤ 4000
          omega

end Go.Proofs.Ytkjlchfmplcobac
