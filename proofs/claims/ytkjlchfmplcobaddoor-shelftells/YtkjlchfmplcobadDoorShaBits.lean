/- Walks of the small bit functions of package sha: each answers what the function of the same name reckons, on words. -/
import Derived.Test.YtkjlchfmplcobadDoorProg
import Derived.Test.YtkjlchfmplcobadDoorRunAE
import Derived.WalkKit
import Derived.WalkSpells
import Derived.WalkLawsBesides
namespace Go.Proofs.YtkjlchfmplcobadDoor
open Go.RowKit

theorem and31 (k : Nat) (h1 : 0 < k) (h2 : k < 32) : bits BinOp.and IntKind.u64 (IntKind.u64.wrap (-(k : Int))) 31 = 32 - (k : Int) := by
  have e : IntKind.u64.wrap (-(k : Int)) = ((18446744073709551616 - k : Nat) : Int) := by
    simp [IntKind.wrap, IntKind.bits, IntKind.signed]; omega
  rw [e]
  show IntKind.u64.wrap ((BitVec.ofInt 64 (((18446744073709551616 - k : Nat)) : Int) &&& BitVec.ofInt 64 31).toNat : Int) = _
  rw [BitVec.toNat_and, BitVec.ofInt_natCast, BitVec.toNat_ofNat]
  have e31 : (BitVec.ofInt 64 31).toNat = 2 ^ 5 - 1 := by decide
  rw [e31, Nat.and_two_pow_sub_one_eq_mod]
  simp [IntKind.wrap, IntKind.bits, IntKind.signed]
  omega

set_option maxRecDepth 100000 in
set_option maxHeartbeats 400000 in
theorem rot_any (x : BitVec 32) (k : Nat) (w : World) (h3 : 0 < k) (h4 : k < 32) :
    Calls Tryd.prog 114 #[.int .u32 (U x), .int .i64 (-(k : Int))] w fun e w' => e = .returned (.int .u32 (U (rotr x k))) ∧ w' = w := by
  have e1 := and31 k h3 h4
  have h1 := U_lo x
  have h2 := U_hi x
  have e2 : 32 - (32 - k) = k := by omega
  have u1 := U_shl
  have u2 := U_shr
  have u3 := U_or
  go_enter Tryd.func114, Tryd.ntmps114
  go_wp2
  go_ret
  exact ⟨rfl, rfl⟩

set_option maxRecDepth 100000 in
set_option maxHeartbeats 400000 in
theorem right_any (x : BitVec 32) (n : Int) (w : World) (h3 : 0 < n) (h4 : n < 32) :
    Calls Tryd.prog 109 #[.int .u32 (U x), .int .i64 n] w fun e w' => e = .returned (.int .u32 (U (rotr x n.toNat))) ∧ w' = w := by
  obtain ⟨k, rfl⟩ := Int.eq_ofNat_of_zero_le (by omega : 0 ≤ n)
  go_enter Tryd.func109, Tryd.ntmps109
  go_wp2_with (go_at_call 114; refine (rot_any x k _ (by omega) (by omega)).mono ?_; rintro e w' ⟨rfl, rfl⟩)
  go_ret
  exact ⟨rfl, rfl⟩

set_option maxRecDepth 100000 in
set_option maxHeartbeats 400000 in
theorem part0_any (x : BitVec 32) (w : World) :
    Calls Tryd.prog 108 #[.int .u32 (U x)] w fun e w' => e = .returned (.int .u32 (U (ps0 x))) ∧ w' = w := by
  have h1 := U_lo x
  have h2 := U_hi x
  have u4 : bits .xor .u32 (U (rotr x 7 ^^^ rotr x 18)) (U x / 8) = U (ps0 x) := by
    have e : U x / (8 : Int) = U (x >>> 3) := U_shr x 3
    rw [e, U_xor]; rfl
  have u3 := U_xor
  go_enter Tryd.func108, Tryd.ntmps108
  go_wp2_with (go_at_call 109; refine (right_any x _ _ (by omega) (by omega)).mono ?_; rintro e w' ⟨rfl, rfl⟩)
  go_ret
  exact ⟨rfl, rfl⟩

set_option maxRecDepth 100000 in
set_option maxHeartbeats 400000 in
theorem part1_any (x : BitVec 32) (w : World) :
    Calls Tryd.prog 107 #[.int .u32 (U x)] w fun e w' => e = .returned (.int .u32 (U (ps1 x))) ∧ w' = w := by
  have h1 := U_lo x
  have h2 := U_hi x
  have u4 : bits .xor .u32 (U (rotr x 17 ^^^ rotr x 19)) (U x / 1024) = U (ps1 x) := by
    have e : U x / (1024 : Int) = U (x >>> 10) := U_shr x 10
    rw [e, U_xor]; rfl
  have u3 := U_xor
  go_enter Tryd.func107, Tryd.ntmps107
  go_wp2_with (go_at_call 109; refine (right_any x _ _ (by omega) (by omega)).mono ?_; rintro e w' ⟨rfl, rfl⟩)
  go_ret
  exact ⟨rfl, rfl⟩

set_option maxRecDepth 100000 in
set_option maxHeartbeats 400000 in
theorem sum0_any (x : BitVec 32) (w : World) :
    Calls Tryd.prog 95 #[.int .u32 (U x)] w fun e w' => e = .returned (.int .u32 (U (bs0 x))) ∧ w' = w := by
  have u3 := U_xor
  go_enter Tryd.func95, Tryd.ntmps95
  go_wp2_with (go_at_call 109; refine (right_any x _ _ (by omega) (by omega)).mono ?_; rintro e w' ⟨rfl, rfl⟩)
  go_ret
  exact ⟨rfl, rfl⟩

set_option maxRecDepth 100000 in
set_option maxHeartbeats 400000 in
theorem sum1_any (x : BitVec 32) (w : World) :
    Calls Tryd.prog 94 #[.int .u32 (U x)] w fun e w' => e = .returned (.int .u32 (U (bs1 x))) ∧ w' = w := by
  have u3 := U_xor
  go_enter Tryd.func94, Tryd.ntmps94
  go_wp2_with (go_at_call 109; refine (right_any x _ _ (by omega) (by omega)).mono ?_; rintro e w' ⟨rfl, rfl⟩)
  go_ret
  exact ⟨rfl, rfl⟩

end Go.Proofs.YtkjlchfmplcobadDoor
