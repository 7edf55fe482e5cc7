/- The plain mathematics of SHA-256: the rounds over a block. -/
import Derived.Test.YtkjlchfmplcobaeDoorShaMath
namespace Go.Proofs.YtkjlchfmplcobaeDoor
open Go.RowKit

/-- The eight words. -/
structure St where
  a : BitVec 32
  b : BitVec 32
  c : BitVec 32
  d : BitVec 32
  e : BitVec 32
  f : BitVec 32
  g : BitVec 32
  h : BitVec 32
/-- The words of the rounds. -/
def kw : List (BitVec 32) := [1116352408, 1899447441, 3049323471, 3921009573, 961987163, 1508970993, 2453635748, 2870763221, 3624381080, 310598401, 607225278, 1426881987, 1925078388, 2162078206, 2614888103, 3248222580, 3835390401, 4022224774, 264347078, 604807628, 770255983, 1249150122, 1555081692, 1996064986, 2554220882, 2821834349, 2952996808, 3210313671, 3336571891, 3584528711, 113926993, 338241895, 666307205, 773529912, 1294757372, 1396182291, 1695183700, 1986661051, 2177026350, 2456956037, 2730485921, 2820302411, 3259730800, 3345764771, 3516065817, 3600352804, 4094571909, 275423344, 430227734, 506948616, 659060556, 883997877, 958139571, 1322822218, 1537002063, 1747873779, 1955562222, 2024104815, 2227730452, 2361852424, 2428436474, 2756734187, 3204031479, 3329325298]
/-- One round, with its word and the block's. -/
def St.round (s : St) (k x : BitVec 32) : St :=
  let t1 := s.h + bs1 s.e + ((s.e &&& s.f) ^^^ (~~~s.e &&& s.g)) + k + x
  let t2 := bs0 s.a + ((s.a &&& s.b) ^^^ (s.a &&& s.c) ^^^ (s.b &&& s.c))
  ⟨t1 + t2, s.a, s.b, s.c, s.d + t1, s.e, s.f, s.g⟩
/-- The first n rounds, with the block's words x. -/
def St.rounds (x : List (BitVec 32)) (s : St) : Nat → St
  | 0 => s
  | n + 1 => (St.rounds x s n).round (kw.getD n 0) (x.getD n 0)
def St.add (s t : St) : St := ⟨s.a + t.a, s.b + t.b, s.c + t.c, s.d + t.d, s.e + t.e, s.f + t.f, s.g + t.g, s.h + t.h⟩
/-- The eight words, once a block of bytes has come to them. -/
def St.mix (s : St) (bs : List Int) : St := s.add (s.rounds (schedTo bs 64) 64)


theorem U_add3 (x y z : BitVec 32) : (U x + U y + U z) % 4294967296 = U (x + y + z) := by
  unfold U; rw [BitVec.toNat_add, BitVec.toNat_add]; omega
theorem U_add4 (x y z t : BitVec 32) : (U x + U y + U z + U t) % 4294967296 = U (x + y + z + t) := by
  unfold U; rw [BitVec.toNat_add, BitVec.toNat_add, BitVec.toNat_add]; omega
theorem U_flip (x : BitVec 32) : bits .xor .u32 (if IntKind.u32.signed = true then -1 else IntKind.u32.max) (U x) = U (~~~x) := by
  show IntKind.u32.wrap ((BitVec.ofInt 32 4294967295 ^^^ BitVec.ofInt 32 (U x)).toNat : Int) = _
  have e : BitVec.ofInt 32 4294967295 = BitVec.allOnes 32 := by decide
  rw [U_ofInt, wrap_nat, e, BitVec.allOnes_xor]

end Go.Proofs.YtkjlchfmplcobaeDoor
