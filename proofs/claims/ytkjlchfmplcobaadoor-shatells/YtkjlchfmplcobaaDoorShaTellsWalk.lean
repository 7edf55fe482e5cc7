/- The walk of the law ShaTells: the program's digest is the document's, for whatever bytes. -/
import Derived.Test.YtkjlchfmplcobaaDoorProg
import Derived.Test.YtkjlchfmplcobaaDoorShaSame
import Derived.Test.YtkjlchfmplcobaaDoorShaSum
import Derived.WalkKit
import Derived.WalkSpells
import Derived.WalkLawsBesides
import Derived.Lib.ConvBytes
import Derived.Lib.SlBytesConst
import Derived.Test.YtkjlchfmplcobaaDoorShaOwn
import Derived.Test.YtkjlchfmplcobaaDoorShaRefSum
namespace Go.Proofs.YtkjlchfmplcobaaDoor
open Go.RowKit

set_option maxRecDepth 100000 in
set_option maxHeartbeats 1000000 in
theorem tells_any (zs : List Int) (v : Value) (w : World) (hv : BytesAt w v zs) (hm : zs.length ≤ 140737488351232) (hz : Bytes zs) (hK : Tab w) (h0 : 0 < w.heap.size) :
    Calls Tryd.prog 3 #[v] w fun e w' => e = .returned (.bool true) ∧ Below w.heap.size w w' := by
  go_enter Tryd.func3, Tryd.ntmps3
  go_wp2_with fail
  refine (sum_any zs v w hv (by omega) hz hK h0).mono ?_
  rintro e w1 ⟨g, rfl, ho1, hb1⟩
  have hs1 := hb1.size
  go_wp2_with fail
  refine (refSum_any zs v w1 (hv.below (Nat.le_refl _) hb1) hm hz).mono ?_
  rintro e w2 ⟨x, rfl, ho2, hb2⟩
  have hx1 : BytesAt w2 (.slice (some ⟨g, 0, none⟩) 32 32) (shaL zs) := (bytesAt_own ho1).below (Nat.le_refl _) hb2
  have hx2 : BytesAt w2 x (shaL zs) := bytesAt_own ho2
  have hl : (shaL zs).length = 32 := by simpa using ho2.1
  have hb : Below w.heap.size w w2 := hb1.trans (hb2.mono hs1)
  clear ho1 ho2 hb1 hb2
  generalize shaL zs = X at *
  go_wp2_with fail
  refine (same_any _ _ _ _ _ hx1 hx2 (by unfold maxLen; omega)).mono ?_
  rintro e w6 ⟨rfl, n, rfl⟩
  go_wp2_with fail
  go_ret
  exact ⟨by simp, below_drewN hb n⟩

end Go.Proofs.YtkjlchfmplcobaaDoor
