/- Walks of the small bit functions of package sha: each answers what the function of the same name reckons, on words. -/
import Derived.Test.YtkjlchfmplcobabDoorProg
import Derived.Test.YtkjlchfmplcobabDoorRunAA
import Derived.WalkKit
import Derived.WalkSpells
import Derived.WalkLawsBesides
namespace Go.Proofs.YtkjlchfmplcobabDoor
open Go.RowKit

theorem and31 (k : Nat) (h1 : 0 < k) (h2 : k < 32) : bits BinOp.and IntKind.u64 (IntKind.u64.wrap (-(k : Int))) 31 = 32 - (k : Int) := by
  have e : IntKind.u64.wrap (-(k : Int)) = ((18446744073709551616 - k : Nat) : Int) := by
    simp [IntKind.wrap, IntKind.bits, IntKind.signed]; omega
  rw [e]
  show IntKind.u64.wrap ((BitVec.ofInt 64 (((18446744073709551616 - k : Nat)) : Int) &&& BitVec.ofInt 64 31).toNat : Int) = _
  rw [BitVec.toNat_and, BitVec.ofInt_natCast, BitVec.toNat_ofNat]
  have e31 : (BitVec.ofInt 64 31).toNat = 2 ^ 5 - 1 := by decide
  rw [e31, Nat.and_two_pow_sub_one_eq_mod]
  simp [IntKind.wrap, IntKind.bits, IntKind.signed]
  omega

set_option maxRecDepth 100000 in
set_option maxHeartbeats 400000 in
theorem rot_any (x : BitVec 32) (k : Nat) (w : World) (h3 : 0 < k) (h4 : k < 32) :
    Calls Tryd.prog 82 #[.int .u32 (U x), .int .i64 (-(k : Int))] w fun e w' => e = .returned (.int .u32 (U (rotr x k))) ∧ w' = w := by
  have e1 := and31 k h3 h4
  have h1 := U_lo x
  have h2 := U_hi x
  have e2 : 32 - (32 - k) = k := by omega
  have u1 := U_shl
  have u2 := U_shr
  have u3 := U_or
  go_enter Tryd.func82, Tryd.ntmps82
  go_wp2
  go_ret
  exact ⟨rfl, rfl⟩

set_option maxRecDepth 100000 in
set_option maxHeartbeats 400000 in
theorem right_any (x : BitVec 32) (n : Int) (w : World) (h3 : 0 < n) (h4 : n < 32) :
    Calls Tryd.prog 80 #[.int .u32 (U x), .int .i64 n] w fun e w' => e = .returned (.int .u32 (U (rotr x n.toNat))) ∧ w' = w := by
  obtain ⟨k, rfl⟩ := Int.eq_ofNat_of_zero_le (by omega : 0 ≤ n)
  go_enter Tryd.func80, Tryd.ntmps80
  go_wp2_with (go_at_call 82; refine (rot_any x k _ (by omega) (by omega)).mono ?_; rintro e w' ⟨rfl, rfl⟩)
  go_ret
  exact ⟨rfl, rfl⟩

set_option maxRecDepth 100000 in
set_option maxHeartbeats 400000 in
theorem part0_any (x : BitVec 32) (w : World) :
    Calls Tryd.prog 79 #[.int .u32 (U x)] w fun e w' => e = .returned (.int .u32 (U (ps0 x))) ∧ w' = w := by
  have h1 := U_lo x
  have h2 := U_hi x
  have u4 : bits .xor .u32 (U (rotr x 7 ^^^ rotr x 18)) (U x / 8) = U (ps0 x) := by
    have e : U x / (8 : Int) = U (x >>> 3) := U_shr x 3
    rw [e, U_xor]; rfl
  have u3 := U_xor
  go_enter Tryd.func79, Tryd.ntmps79
  go_wp2_with (go_at_call 80; refine (right_any x _ _ (by omega) (by omega)).mono ?_; rintro e w' ⟨rfl, rfl⟩)
  go_ret
  exact ⟨rfl, rfl⟩

set_option maxRecDepth 100000 in
set_option maxHeartbeats 400000 in
theorem part1_any (x : BitVec 32) (w : World) :
    Calls Tryd.prog 78 #[.int .u32 (U x)] w fun e w' => e = .returned (.int .u32 (U (ps1 x))) ∧ w' = w := by
  have h1 := U_lo x
  have h2 := U_hi x
  have u4 : bits .xor .u32 (U (rotr x 17 ^^^ rotr x 19)) (U x / 1024) = U (ps1 x) := by
    have e : U x / (1024 : Int) = U (x >>> 10) := U_shr x 10
    rw [e, U_xor]; rfl
  have u3 := U_xor
  go_enter Tryd.func78, Tryd.ntmps78
  go_wp2_with (go_at_call 80; refine (right_any x _ _ (by omega) (by omega)).mono ?_; rintro e w' ⟨rfl, rfl⟩)
  go_ret
  exact ⟨rfl, rfl⟩

set_option maxRecDepth 100000 in
set_option maxHeartbeats 400000 in
theorem sum0_any (x : BitVec 32) (w : World) :
    Calls Tryd.prog 75 #[.int .u32 (U x)] w fun e w' => e = .returned (.int .u32 (U (bs0 x))) ∧ w' = w := by
  have u3 := U_xor
  go_enter Tryd.func75, Tryd.ntmps75
  go_wp2_with (go_at_call 80; refine (right_any x _ _ (by omega) (by omega)).mono ?_; rintro e w' ⟨rfl, rfl⟩)
  go_ret
  exact ⟨rfl, rfl⟩

set_option maxRecDepth 100000 in
set_option maxHeartbeats 400000 in
theorem sum1_any (x : BitVec 32) (w : World) :
    Calls Tryd.prog 74 #[.int .u32 (U x)] w fun e w' => e = .returned (.int .u32 (U (bs1 x))) ∧ w' = w := by
  have u3 := U_xor
  go_enter Tryd.func74, Tryd.ntmps74
  go_wp2_with (go_at_call 80; refine (right_any x _ _ (by omega) (by omega)).mono ?_; rintro e w' ⟨rfl, rfl⟩)
  go_ret
  exact ⟨rfl, rfl⟩

end Go.Proofs.YtkjlchfmplcobabDoor
