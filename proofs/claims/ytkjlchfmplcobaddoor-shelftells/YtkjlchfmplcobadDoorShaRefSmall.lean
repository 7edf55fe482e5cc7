/- The walks of the document's answer's small functions: turn, Mul64, Add64, above. -/
import Derived.Test.YtkjlchfmplcobadDoorProg
import Derived.Test.YtkjlchfmplcobadDoorShaBits
import Derived.WalkKit
import Derived.WalkSpells
import Derived.WalkLawsBesides
import Derived.Laws.Externs
import Derived.Deep.QuietTactic
import Derived.BigQuiet
namespace Go.Proofs.YtkjlchfmplcobadDoor
open Go.RowKit

set_option maxRecDepth 100000 in
set_option maxHeartbeats 400000 in
theorem turn_any (x : BitVec 32) (n : Int) (w : World) (h3 : 0 < n) (h4 : n < 32) :
    Calls Tryd.prog 81 #[.int .u32 (U x), .int .i64 n] w fun e w' => e = .returned (.int .u32 (U (rotr x n.toNat))) ∧ ∃ q, w' = w.drewN q := by
  obtain ⟨k, rfl⟩ := Int.eq_ofNat_of_zero_le (by omega : 0 ≤ n)
  have h1 := U_lo x
  have h2 := U_hi x
  have w0 : IntKind.i64.wrap (32 - (k : Int)) = 32 - (k : Int) := by rw [IntKind.wrap_i64]; omega
  have t0 : (32 - (k : Int)).toNat = 32 - k := by omega
  have g0 : (0 : Int) ≤ 32 - (k : Int) := by omega
  have HE : Hid (bits BinOp.or IntKind.u32 (U x / 2 ^ k) (U x * 2 ^ (32 - k) % 4294967296) = U (rotr x (k : Int).toNat)) := by
    rw [U_shr, U_shl, U_or, Int.toNat_natCast]
    unfold rotr
    rw [BitVec.or_comm]
    rfl
  go_enter Tryd.func81, Tryd.ntmps81
  go_wp2
  go_quiet (fail)
  go_wp2
  go_ret
  exact ⟨by rw [← HE.out]; rfl, nq, rfl⟩

/-- The high word of a product, as the library reckons it. -/
def mulHi (x y : Int) : Int := IntKind.u64.wrap (IntKind.u64.wrap (IntKind.u64.wrap (x / 4294967296 * (y / 4294967296)) + IntKind.u64.wrap (IntKind.u64.wrap (x / 4294967296 * bits BinOp.and IntKind.u64 y 4294967295) + IntKind.u64.wrap (bits BinOp.and IntKind.u64 x 4294967295 * bits BinOp.and IntKind.u64 y 4294967295) / 4294967296) / 4294967296) +
  IntKind.u64.wrap (bits BinOp.and IntKind.u64 (IntKind.u64.wrap (IntKind.u64.wrap (x / 4294967296 * bits BinOp.and IntKind.u64 y 4294967295) + IntKind.u64.wrap (bits BinOp.and IntKind.u64 x 4294967295 * bits BinOp.and IntKind.u64 y 4294967295) / 4294967296)) 4294967295 + IntKind.u64.wrap (bits BinOp.and IntKind.u64 x 4294967295 * (y / 4294967296))) / 4294967296)
def mulLo (x y : Int) : Int := IntKind.u64.wrap (x * y)
theorem mulHi_nn (x y : Int) : 0 ≤ mulHi x y := wrap_u64_nonneg _
theorem mulLo_nn (x y : Int) : 0 ≤ mulLo x y := wrap_u64_nonneg _

set_option maxRecDepth 100000 in
set_option maxHeartbeats 400000 in
theorem mul64_any (x y : Int) (w : World) :
    Calls Tryd.prog 111 #[.int .u64 x, .int .u64 y] w fun e w' => e = .returned (.tuple #[.int .u64 (mulHi x y), .int .u64 (mulLo x y)]) ∧ w' = w := by
  go_enter Tryd.func111, Tryd.ntmps111
  go_wp2
  go_ret2
  exact ⟨rfl, rfl⟩

theorem add64_run (x y : Int) (h1 : 0 ≤ x) (h3 : 0 ≤ y) (w : World) :
    (callFunc 112 #[.int .u64 x, .int .u64 y, .int .u64 0]).run Tryd.prog w = .ok (.value (.tuple #[.int .u64 ((x + y) % 18446744073709551616), .int .u64 ((x + y) / 18446744073709551616)])) w := by
  rw [run_callFunc_extern Tryd.func112 (by kernel_rfl) (by kernel_rfl) (by kernel_rfl) (e := add64Entry) (by kernel_rfl), run_add64 x y 0 h1 h3 (by omega) (by omega), Int.add_zero]
  rfl

def abv2 (h l p : Int) : Bool := decide (p < h) || (h == p && decide (0 < l))
def abv3 (top mid b wt wm : Int) : Bool := decide (wt < top) || (top == wt && (decide (wm < mid) || (mid == wm && decide (0 < b))))
def aboveB (x p : Int) (two : Bool) : Bool :=
  if two then abv2 (mulHi x x) (mulLo x x) p else
    abv3 (IntKind.u64.wrap (mulHi (mulHi x x) x + (mulHi (mulLo x x) x + mulLo (mulHi x x) x) / 18446744073709551616)) ((mulHi (mulLo x x) x + mulLo (mulHi x x) x) % 18446744073709551616) (mulLo (mulLo x x) x)
      (p / 4294967296) (IntKind.u64.wrap (p * 4294967296))

set_option maxRecDepth 100000 in
set_option maxHeartbeats 400000 in
theorem above_two (x p : Int) (w : World) :
    Calls Tryd.prog 100 #[.int .u64 x, .int .u64 p, .bool true] w fun e w' => e = .returned (.bool (aboveB x p true)) ∧ w' = w := by
  have HB : Hid (aboveB x p true = abv2 (mulHi x x) (mulLo x x) p) := rfl
  go_enter Tryd.func100, Tryd.ntmps100
  go_wp2_with fail
  refine (mul64_any x x _).mono ?_
  rintro e w' ⟨rfl, rfl⟩
  obtain ⟨b, hb⟩ : ∃ b, aboveB x p true = b := ⟨_, rfl⟩
  have HB2 : Hid (aboveB x p true = b) := hb
  have HB3 : Hid (b = abv2 (mulHi x x) (mulLo x x) p) := by rw [← hb]; exact HB
  clear hb HB
  generalize mulHi x x = h at *
  generalize mulLo x x = l at *
  cases c1 : decide (p < h)
  · cases c2 : (h == p)
    · have HB4 : Hid (b = false) := HB3.out.trans (by simp [abv2, c1, c2])
      go_wp2_with fail
      go_ret
      exact ⟨by rw [HB2.out, HB4.out]; rfl, rfl⟩
    · cases c3 : decide (0 < l)
      · have HB4 : Hid (b = false) := HB3.out.trans (by simp [abv2, c1, c2, c3])
        go_wp2_with fail
        go_ret
        exact ⟨by rw [HB2.out, HB4.out]; rfl, rfl⟩
      · have HB4 : Hid (b = true) := HB3.out.trans (by simp [abv2, c1, c2, c3])
        go_wp2_with fail
        go_ret
        exact ⟨by rw [HB2.out, HB4.out]; rfl, rfl⟩
  · have HB4 : Hid (b = true) := HB3.out.trans (by simp [abv2, c1])
    go_wp2_with fail
    go_ret
    exact ⟨by rw [HB2.out, HB4.out]; rfl, rfl⟩

set_option maxRecDepth 100000 in
set_option maxHeartbeats 1000000 in
theorem above_three (x p : Int) (w : World) :
    Calls Tryd.prog 100 #[.int .u64 x, .int .u64 p, .bool false] w fun e w' => e = .returned (.bool (aboveB x p false)) ∧ w' = w := by
  have HB : Hid (aboveB x p false = abv3 (IntKind.u64.wrap (mulHi (mulHi x x) x + (mulHi (mulLo x x) x + mulLo (mulHi x x) x) / 18446744073709551616)) ((mulHi (mulLo x x) x + mulLo (mulHi x x) x) % 18446744073709551616) (mulLo (mulLo x x) x) (p / 4294967296) (IntKind.u64.wrap (p * 4294967296))) := rfl
  have hadd := add64_run _ _ (mulHi_nn (mulLo x x) x) (mulLo_nn (mulHi x x) x)
  obtain ⟨b, hb⟩ : ∃ b, aboveB x p false = b := ⟨_, rfl⟩
  have HB2 : Hid (aboveB x p false = b) := hb
  have HB3 : Hid (b = abv3 (IntKind.u64.wrap (mulHi (mulHi x x) x + (mulHi (mulLo x x) x + mulLo (mulHi x x) x) / 18446744073709551616)) ((mulHi (mulLo x x) x + mulLo (mulHi x x) x) % 18446744073709551616) (mulLo (mulLo x x) x) (p / 4294967296) (IntKind.u64.wrap (p * 4294967296))) := by rw [← hb]; exact HB
  clear hb HB
  go_enter Tryd.func100, Tryd.ntmps100
  go_wp2_with fail
  refine (mul64_any x x _).mono ?_
  rintro e w' ⟨rfl, rfl⟩
  go_wp2_with fail
  refine (mul64_any (mulLo x x) x _).mono ?_
  rintro e w' ⟨rfl, rfl⟩
  go_wp2_with fail
  refine (mul64_any (mulHi x x) x _).mono ?_
  rintro e w' ⟨rfl, rfl⟩
  generalize mulHi (mulLo x x) x = A at *
  generalize mulLo (mulHi x x) x = D at *
  generalize mulHi (mulHi x x) x = C at *
  generalize mulLo (mulLo x x) x = B at *
  cases c1 : decide (p / 4294967296 < IntKind.u64.wrap (C + (A + D) / 18446744073709551616))
  · cases c2 : (IntKind.u64.wrap (C + (A + D) / 18446744073709551616) == p / 4294967296)
    · have HB4 : Hid (b = false) := HB3.out.trans (by unfold abv3; rw [c1, c2]; rfl)
      go_wp2_with fail
      go_ret
      exact ⟨by rw [HB2.out, HB4.out]; rfl, rfl⟩
    · cases c3 : decide (IntKind.u64.wrap (p * 4294967296) < (A + D) % 18446744073709551616)
      · cases c4 : ((A + D) % 18446744073709551616 == IntKind.u64.wrap (p * 4294967296))
        · have HB4 : Hid (b = false) := HB3.out.trans (by unfold abv3; rw [c1, c2, c3, c4]; rfl)
          go_wp2_with fail
          go_ret
          exact ⟨by rw [HB2.out, HB4.out]; rfl, rfl⟩
        · cases c5 : decide (0 < B)
          · have HB4 : Hid (b = false) := HB3.out.trans (by unfold abv3; rw [c1, c2, c3, c4, c5]; rfl)
            go_wp2_with fail
            go_ret
            exact ⟨by rw [HB2.out, HB4.out]; rfl, rfl⟩
          · have HB4 : Hid (b = true) := HB3.out.trans (by unfold abv3; rw [c1, c2, c3, c4, c5]; rfl)
            go_wp2_with fail
            go_ret
            exact ⟨by rw [HB2.out, HB4.out]; rfl, rfl⟩
      · have HB4 : Hid (b = true) := HB3.out.trans (by unfold abv3; rw [c1, c2, c3]; rfl)
        go_wp2_with fail
        go_ret
        exact ⟨by rw [HB2.out, HB4.out]; rfl, rfl⟩
  · have HB4 : Hid (b = true) := HB3.out.trans (by unfold abv3; rw [c1]; rfl)
    go_wp2_with fail
    go_ret
    exact ⟨by rw [HB2.out, HB4.out]; rfl, rfl⟩

end Go.Proofs.YtkjlchfmplcobadDoor
