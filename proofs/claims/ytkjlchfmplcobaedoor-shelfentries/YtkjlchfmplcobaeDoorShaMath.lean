/- The plain mathematics of SHA-256 over words of 32 bits: what the walks of package sha come to. Nothing of the program is in it. -/
import Derived.WalkKit
namespace Go.Proofs.YtkjlchfmplcobaeDoor
open Go.RowKit

/-- A word as the walk writes it. -/
def U (x : BitVec 32) : Int := (x.toNat : Int)
theorem U_lo (x : BitVec 32) : 0 ≤ U x := Int.natCast_nonneg _
theorem U_hi (x : BitVec 32) : U x < 4294967296 := by unfold U; have := x.isLt; omega
theorem U_ofInt (x : BitVec 32) : BitVec.ofInt 32 (U x) = x := by unfold U; rw [BitVec.ofInt_natCast, BitVec.ofNat_toNat, BitVec.setWidth_eq]
theorem wrap_nat (r : BitVec 32) : IntKind.u32.wrap (r.toNat : Int) = U r := by
  unfold U; rw [IntKind.wrap_u32']; have := r.isLt; omega
theorem U_or (x y : BitVec 32) : bits .or .u32 (U x) (U y) = U (x ||| y) := by
  show IntKind.u32.wrap ((BitVec.ofInt 32 (U x) ||| BitVec.ofInt 32 (U y)).toNat : Int) = _
  rw [U_ofInt, U_ofInt, wrap_nat]
theorem U_and (x y : BitVec 32) : bits .and .u32 (U x) (U y) = U (x &&& y) := by
  show IntKind.u32.wrap ((BitVec.ofInt 32 (U x) &&& BitVec.ofInt 32 (U y)).toNat : Int) = _
  rw [U_ofInt, U_ofInt, wrap_nat]
theorem U_xor (x y : BitVec 32) : bits .xor .u32 (U x) (U y) = U (x ^^^ y) := by
  show IntKind.u32.wrap ((BitVec.ofInt 32 (U x) ^^^ BitVec.ofInt 32 (U y)).toNat : Int) = _
  rw [U_ofInt, U_ofInt, wrap_nat]
theorem U_add (x y : BitVec 32) : (U x + U y) % 4294967296 = U (x + y) := by
  unfold U; rw [BitVec.toNat_add]; omega
theorem U_wadd (x y : BitVec 32) : IntKind.u32.wrap (U x + U y) = U (x + y) := by rw [IntKind.wrap_u32', U_add]
theorem U_shl (x : BitVec 32) (n : Nat) : U x * 2 ^ n % 4294967296 = U (x <<< n) := by
  unfold U; rw [BitVec.toNat_shiftLeft, Nat.shiftLeft_eq]; simp
theorem U_shr (x : BitVec 32) (n : Nat) : U x / 2 ^ n = U (x >>> n) := by
  unfold U; rw [BitVec.toNat_ushiftRight, Nat.shiftRight_eq_div_pow]; simp
/-- Turned right by n bits. -/
def rotr (x : BitVec 32) (n : Nat) : BitVec 32 := x <<< (32 - n) ||| x >>> n
def ps0 (x : BitVec 32) : BitVec 32 := rotr x 7 ^^^ rotr x 18 ^^^ x >>> 3
def ps1 (x : BitVec 32) : BitVec 32 := rotr x 17 ^^^ rotr x 19 ^^^ x >>> 10
def bs0 (x : BitVec 32) : BitVec 32 := rotr x 2 ^^^ rotr x 13 ^^^ rotr x 22
def bs1 (x : BitVec 32) : BitVec 32 := rotr x 6 ^^^ rotr x 11 ^^^ rotr x 25

/-- The word of four bytes, the high one first. -/
def word (z0 z1 z2 z3 : Int) : BitVec 32 := BitVec.ofInt 32 (z0 * 16777216 + z1 * 65536 + z2 * 256 + z3)
theorem word_spelt (z0 z1 z2 z3 : Int) (a0 : 0 ≤ z0) (b0 : z0 < 256) (a1 : 0 ≤ z1) (b1 : z1 < 256) (a2 : 0 ≤ z2) (b2 : z2 < 256) (a3 : 0 ≤ z3) (b3 : z3 < 256) :
    bits BinOp.or IntKind.u32 (bits BinOp.or IntKind.u32 (bits BinOp.or IntKind.u32 (IntKind.u32.wrap (IntKind.u32.wrap z0 * 16777216)) (IntKind.u32.wrap (IntKind.u32.wrap z1 * 65536))) (IntKind.u32.wrap (IntKind.u32.wrap z2 * 256))) (IntKind.u32.wrap z3) = U (word z0 z1 z2 z3) := by
  obtain ⟨n0, rfl⟩ := Int.eq_ofNat_of_zero_le a0
  obtain ⟨n1, rfl⟩ := Int.eq_ofNat_of_zero_le a1
  obtain ⟨n2, rfl⟩ := Int.eq_ofNat_of_zero_le a2
  obtain ⟨n3, rfl⟩ := Int.eq_ofNat_of_zero_le a3
  have key : ∀ (m : Nat) (k : Nat) (h : m < 2 ^ k) (n : Nat), n * 2 ^ k ||| m = n * 2 ^ k + m := fun m k h n => by
    rw [← Nat.shiftLeft_eq, Nat.shiftLeft_add_eq_or_of_lt h]
  have e0 : IntKind.u32.wrap (IntKind.u32.wrap (n0 : Int) * 16777216) = U (BitVec.ofNat 32 (n0 * 16777216)) := by
    unfold U; rw [IntKind.wrap_u32', IntKind.wrap_u32', BitVec.toNat_ofNat]; omega
  have e1 : IntKind.u32.wrap (IntKind.u32.wrap (n1 : Int) * 65536) = U (BitVec.ofNat 32 (n1 * 65536)) := by
    unfold U; rw [IntKind.wrap_u32', IntKind.wrap_u32', BitVec.toNat_ofNat]; omega
  have e2 : IntKind.u32.wrap (IntKind.u32.wrap (n2 : Int) * 256) = U (BitVec.ofNat 32 (n2 * 256)) := by
    unfold U; rw [IntKind.wrap_u32', IntKind.wrap_u32', BitVec.toNat_ofNat]; omega
  have e3 : IntKind.u32.wrap (n3 : Int) = U (BitVec.ofNat 32 n3) := by
    unfold U; rw [IntKind.wrap_u32', BitVec.toNat_ofNat]; omega
  rw [e0, e1, e2, e3, U_or, U_or, U_or]
  congr 1
  apply BitVec.eq_of_toNat_eq
  unfold word
  have e4 : ((n0 : Int) * 16777216 + n1 * 65536 + n2 * 256 + n3) = ((n0 * 16777216 + n1 * 65536 + n2 * 256 + n3 : Nat) : Int) := by omega
  rw [e4, BitVec.ofInt_natCast]
  simp only [BitVec.toNat_or, BitVec.toNat_ofNat]
  rw [Nat.mod_eq_of_lt (show n0 * 16777216 < 2 ^ 32 by omega), Nat.mod_eq_of_lt (show n1 * 65536 < 2 ^ 32 by omega), Nat.mod_eq_of_lt (show n2 * 256 < 2 ^ 32 by omega), Nat.mod_eq_of_lt (show n3 < 2 ^ 32 by omega), Nat.mod_eq_of_lt (show n0 * 16777216 + n1 * 65536 + n2 * 256 + n3 < 2 ^ 32 by omega)]
  have k1 := key (n1 * 65536) 24 (by omega) n0
  have k2 := key (n2 * 256) 16 (by omega) (n0 * 256 + n1)
  have k3 := key n3 8 (by omega) (n0 * 65536 + n1 * 256 + n2)
  rw [show n0 * 16777216 = n0 * 2 ^ 24 by omega, k1, show n0 * 2 ^ 24 + n1 * 65536 = (n0 * 256 + n1) * 2 ^ 16 by omega, k2, show (n0 * 256 + n1) * 2 ^ 16 + n2 * 256 = (n0 * 65536 + n1 * 256 + n2) * 2 ^ 8 by omega, k3]

/-- The words of the first n rounds: of the block of bytes bs, and what is made of them. -/
def nextW (bs : List Int) (l : List (BitVec 32)) (n : Nat) : BitVec 32 :=
  if n < 16 then word (bs.getD (4 * n) 0) (bs.getD (4 * n + 1) 0) (bs.getD (4 * n + 2) 0) (bs.getD (4 * n + 3) 0) else
    ps1 (l.getD (n - 2) 0) + l.getD (n - 7) 0 + ps0 (l.getD (n - 15) 0) + l.getD (n - 16) 0
def schedTo (bs : List Int) : Nat → List (BitVec 32)
  | 0 => []
  | n + 1 => schedTo bs n ++ [nextW bs (schedTo bs n) n]
theorem schedTo_length (bs : List Int) (n : Nat) : (schedTo bs n).length = n := by
  induction n with
  | zero => rfl
  | succ n ih => simp [schedTo, ih]
theorem schedTo_last (bs : List Int) (n : Nat) : (schedTo bs (n + 1)).getD n 0 = nextW bs (schedTo bs n) n := by
  simp [schedTo, schedTo_length]
theorem schedTo_other (bs : List Int) (n j : Nat) (h : j ≠ n) : (schedTo bs (n + 1)).getD j 0 = (schedTo bs n).getD j 0 := by
  have hl := schedTo_length bs n
  rw [schedTo]
  simp only [List.getD_eq_getElem?_getD, List.getElem?_append]
  split
  · rfl
  · rw [List.getElem?_eq_none (by simp; omega), List.getElem?_eq_none (by omega)]

end Go.Proofs.YtkjlchfmplcobaeDoor
