/- The walk of bits.OnesCount at small numbers. -/
import Derived.Test.YtkjlchfmplcobaaDoorProg
import Derived.Test.YtkjlchfmplcobaaDoorRunAB
import Derived.WalkKit
import Derived.WalkSpells
import Derived.WalkLawsBesides
import Derived.Laws.BitsAll
namespace Go.Proofs.YtkjlchfmplcobaaDoor
open Go.RowKit

/-- The ones of a number below 128. -/
def sevenN (n : Nat) : Nat := n % 2 + (n / 2 % 2 + (n / 4 % 2 + (n / 8 % 2 + (n / 16 % 2 + (n / 32 % 2 + n / 64 % 2)))))
theorem onesN_step (n : Nat) : onesN n = n % 2 + onesN (n / 2) := by
  by_cases h : n = 0
  · subst h; rw [onesN_zero]
  · exact onesN_more h
theorem onesN_seven {n : Nat} (h : n ≤ 100) : onesN n = sevenN n := by
  unfold sevenN
  rw [onesN_step n, onesN_step (n / 2), onesN_step (n / 2 / 2), onesN_step (n / 2 / 2 / 2), onesN_step (n / 2 / 2 / 2 / 2), onesN_step (n / 2 / 2 / 2 / 2 / 2), onesN_step (n / 2 / 2 / 2 / 2 / 2 / 2), show n / 2 / 2 / 2 / 2 / 2 / 2 / 2 = 0 by omega, onesN_zero]
  omega
set_option maxRecDepth 100000 in
set_option maxHeartbeats 1000000 in
theorem ones64_any (x : Int) (w : World) (h0 : 0 ≤ x) (h1 : x ≤ 100) :
    Calls Tryd.prog 82 #[.int .u64 x] w fun e w' => e = .returned (.int .i64 (onesN x.toNat)) ∧ w' = w := by
  go_enter Tryd.func82, Tryd.ntmps82
  go_wp2
  go_ret
  refine ⟨congrArg Ending.returned (congrArg (Value.int IntKind.i64) ?_), rfl⟩
  rw [onesN_seven (by omega)]
  obtain ⟨n, hn, rfl⟩ : ∃ n : Nat, n < 101 ∧ x = (n : Int) := ⟨x.toNat, by omega, by omega⟩
  clear h0 h1
  revert hn
  revert n
  decide +kernel
set_option maxRecDepth 100000 in
theorem ones_any (x : Int) (w : World) (h0 : 0 ≤ x) (h1 : x ≤ 100) :
    Calls Tryd.prog 64 #[.int .u64 x] w fun e w' => e = .returned (.int .i64 (onesN x.toNat)) ∧ w' = w := by
  go_enter Tryd.func64, Tryd.ntmps64
  go_wp2_with (go_at_call 82; refine (ones64_any x w h0 h1).mono ?_; rintro e w' ⟨rfl, rfl⟩)
  go_ret
  exact ⟨rfl, rfl⟩

end Go.Proofs.YtkjlchfmplcobaaDoor
