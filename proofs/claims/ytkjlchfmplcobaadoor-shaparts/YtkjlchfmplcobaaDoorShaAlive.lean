/- The walk of yearlaw1.alive: it answers true. -/
import Derived.Test.YtkjlchfmplcobaaDoorProg
import Derived.Test.YtkjlchfmplcobaaDoorShaHex
import Derived.WalkKit
import Derived.WalkSpells
import Derived.WalkLawsBesides
import Derived.Lib.SlBytesConst
import Derived.Test.YtkjlchfmplcobaaDoorShaSum
import Derived.Deep.AppendLies
import Derived.Laws.AppendOwnNone
namespace Go.Proofs.YtkjlchfmplcobaaDoor
open Go.RowKit

def abcHex : ByteArray := ⟨#[98, 97, 55, 56, 49, 54, 98, 102, 56, 102, 48, 49, 99, 102, 101, 97, 52, 49, 52, 49, 52, 48, 100, 101, 53, 100, 97, 101, 50, 50, 50, 51, 98, 48, 48, 51, 54, 49, 97, 51, 57, 54, 49, 55, 55, 97, 57, 99, 98, 52, 49, 48, 102, 102, 54, 49, 102, 50, 48, 48, 49, 53, 97, 100]⟩
set_option maxRecDepth 100000 in
theorem abc_sum : shaL [97, 98, 99] = hexTo abcHex 32 := by decide +kernel
theorem abc_size : abcHex.size = 64 := by decide +kernel
set_option maxRecDepth 100000 in
set_option maxHeartbeats 400000 in
theorem alive_any (w : World) (hK : Tab w) (h0 : 0 < w.heap.size) :
    Calls Tryd.prog 12 #[] w fun e w' => e = .returned (.bool true) ∧ Below w.heap.size w w' := by
  have kc := fun (w : World) (C : Array Value) (n c : Nat) => Lib.run_convert_bytes_const (P := Tryd.prog) w 22 5 C n c Tryd.underlying22 Tryd.underlying5
  have hv := const_bytes w 5 [97, 98, 99] 3 rfl (3, 4)
  have hb1 : Below w.heap.size w (w.alloc (.cells ([97, 98, 99].map (Value.int .u8)).toArray 5 (3, 4))) := (Below.refl _ _).alloc (Nat.le_refl _) _
  have hK1 := tab_below hK hb1 h0
  go_enter Tryd.func12, Tryd.ntmps12
  go_wp2_with fail
  refine (sum_any [97, 98, 99] _ _ hv (by decide) (fun j => by
    match j with
    | 0 => decide
    | 1 => decide
    | 2 => decide
    | n + 3 => exact ⟨by simp, by simp⟩) hK1 (by simp)).mono ?_
  rintro e w2 ⟨g, rfl, ho2, hb2⟩
  have hs2 := hb1.size
  have hb12 : Below w.heap.size w w2 := hb1.trans (hb2.mono hs2)
  have hs3 := hb12.size
  clear hv hK1 hb1 kc
  go_wp2_with fail
  refine (hex_any abcHex _ (by rw [abc_size]; omega)).mono ?_
  rintro e w3 ⟨v, rfl, ho3, hb3⟩
  have hb13 : Below w.heap.size w w3 := hb12.trans (hb3.mono hs3)
  have hv1 : BytesAt w3 (.slice (some ⟨g, 0, none⟩) 32 32) (shaL [97, 98, 99]) := (bytesAt_own ho2).below (Nat.le_refl _) hb3
  have hv2 : BytesAt w3 v (shaL [97, 98, 99]) := by
    rw [abc_size] at ho3
    rw [abc_sum]
    exact bytesAt_own ho3
  have hl : (shaL [97, 98, 99]).length ≤ maxLen := by rw [abc_sum, hexTo_length]; unfold maxLen; omega
  clear ho2 ho3 hb2 hb12 hb3
  go_wp2_with fail
  refine (same_any _ _ _ _ _ hv1 hv2 hl).mono ?_
  rintro e w4 ⟨rfl, n, rfl⟩
  go_wp2_with fail
  go_ret
  exact ⟨rfl, below_drewN hb13 n⟩

end Go.Proofs.YtkjlchfmplcobaaDoor
