/- The walk of yearref1.Root: the bits behind the point of a root. -/
import Derived.Test.YtkjlchfmplcobadDoorProg
import Derived.Test.YtkjlchfmplcobadDoorShaRefSmall
import Derived.Test.YtkjlchfmplcobadDoorShaSum
import Derived.WalkKit
import Derived.WalkSpells
import Derived.WalkLawsBesides
namespace Go.Proofs.YtkjlchfmplcobadDoor
open Go.RowKit

theorem above_any (x p : Int) (two : Bool) (w : World) :
    Calls Tryd.prog 100 #[.int .u64 x, .int .u64 p, .bool two] w fun e w' => e = .returned (.bool (aboveB x p two)) ∧ w' = w := by
  cases two
  · exact above_three x p w
  · exact above_two x p w

/-- With one bit more. -/
def bitOn (x : Int) (k : Nat) : Int := bits BinOp.or IntKind.u64 x (IntKind.u64.wrap (2 ^ k))
/-- What the root is known to be, j bits tried. -/
def rootTo (p : Int) (two : Bool) : Nat → Int
  | 0 => 0
  | j + 1 => if aboveB (bitOn (rootTo p two j) (40 - j)) p two then rootTo p two j else bitOn (rootTo p two j) (40 - j)

set_option maxRecDepth 100000 in
set_option maxHeartbeats 400000 in
theorem root_any (p : Int) (two : Bool) (w : World) :
    Calls Tryd.prog 80 #[.int .u64 p, .bool two] w fun e w' => e = .returned (.int .u32 (IntKind.u32.wrap (rootTo p two 41))) ∧ w' = w := by
  go_enter Tryd.func80, Tryd.ntmps80
  go_wp2
  go_loop [5, 6] (fun x i => ∃ j : Nat, j ≤ 41 ∧ i = .int .i64 (40 - (j : Int)) ∧ x = .int .u64 (rootTo p two j)) (fun _ i => (intOf i + 1).toNat)
  case atStart => exact ⟨0, by omega, rfl, rfl⟩
  case round =>
    obtain ⟨j, hj, rfl, rfl⟩ := hrel
    by_cases hlt : j < 41
    · have HR : Hid (rootTo p two (j + 1) = if aboveB (bitOn (rootTo p two j) (40 - j)) p two then rootTo p two j else bitOn (rootTo p two j) (40 - j)) := rfl
      have i1 : (0 : Int) ≤ 40 - (j : Int) := by omega
      have t1 : (40 - (j : Int)).toNat = 40 - j := by omega
      generalize rootTo p two j = x at *
      obtain ⟨y, hy⟩ : ∃ y, bitOn x (40 - j) = y := ⟨_, rfl⟩
      have hyr : bits BinOp.or IntKind.u64 x (IntKind.u64.wrap (2 ^ (40 - j))) = y := hy
      rw [hy] at HR
      clear hy
      cases hb : aboveB y p two
      · have HR2 : Hid (rootTo p two (j + 1) = y) := HR.out.trans (if_neg (by rw [hb]; decide))
        go_wp2_with (go_at_call 100; refine (above_any y p two _).mono ?_; rintro e w' ⟨rfl, rfl⟩; rw [hb])
        go_round
        case rel => exact ⟨j + 1, by omega, by go_num, by rw [HR2.out]⟩
        case measure => simp [intOf]; omega
      · have HR2 : Hid (rootTo p two (j + 1) = x) := HR.out.trans (if_pos hb)
        go_wp2_with (go_at_call 100; refine (above_any y p two _).mono ?_; rintro e w' ⟨rfl, rfl⟩; rw [hb])
        go_round
        case rel => exact ⟨j + 1, by omega, by go_num, by rw [HR2.out]⟩
        case measure => simp [intOf]; omega
    · obtain rfl : j = 41 := by omega
      go_wp2
      go_ret
      exact ⟨rfl, rfl⟩

/-- The program's constants are the roots' bits. -/
def primeL : List Int := [2, 3, 5, 7, 11, 13, 17, 19, 23, 29, 31, 37, 41, 43, 47, 53, 59, 61, 67, 71, 73, 79, 83, 89, 97, 101, 103, 107, 109, 113, 127, 131, 137, 139, 149, 151, 157, 163, 167, 173, 179, 181, 191, 193, 197, 199, 211, 223, 227, 229, 233, 239, 241, 251, 257, 263, 269, 271, 277, 281, 283, 293, 307, 311]
set_option maxRecDepth 100000 in
theorem roots3 : primeL.map (fun p => IntKind.u32.wrap (rootTo p false 41)) = kw.map U := by decide +kernel
set_option maxRecDepth 100000 in
theorem roots2 : (primeL.take 8).map (fun p => IntKind.u32.wrap (rootTo p true 41)) = st0.list.map U := by decide +kernel

end Go.Proofs.YtkjlchfmplcobadDoor
