/- ShaMath, ShaBits, ShaLaws, as one text. -/
import Derived.WalkKit
import Derived.Test.YtkjlchfmplcobagGreatDoorProg
import Derived.WalkSpells
import Derived.WalkLawsBesides
import Derived.WalkSmall
import Derived.Deep.MidRow
import Derived.Deep.Draws
/- The plain mathematics of SHA-256 over words of 32 bits: what the walks of package sha come to. Nothing of the program is in it. -/
namespace Go.Proofs.YtkjlchfmplcobagGreatDoor
open Go.RowKit

/-- A word as the walk writes it. -/
def U (x : BitVec 32) : Int := (x.toNat : Int)
theorem U_lo (x : BitVec 32) : 0 ≤ U x := Int.natCast_nonneg _
theorem U_hi (x : BitVec 32) : U x < 4294967296 := by unfold U; have := x.isLt; omega
theorem U_ofInt (x : BitVec 32) : BitVec.ofInt 32 (U x) = x := by unfold U; rw [BitVec.ofInt_natCast, BitVec.ofNat_toNat, BitVec.setWidth_eq]
theorem wrap_nat (r : BitVec 32) : IntKind.u32.wrap (r.toNat : Int) = U r := by
  unfold U; rw [IntKind.wrap_u32']; have := r.isLt; omega
theorem U_or (x y : BitVec 32) : bits .or .u32 (U x) (U y) = U (x ||| y) := by
  show IntKind.u32.wrap ((BitVec.ofInt 32 (U x) ||| BitVec.ofInt 32 (U y)).toNat : Int) = _
  rw [U_ofInt, U_ofInt, wrap_nat]
theorem U_and (x y : BitVec 32) : bits .and .u32 (U x) (U y) = U (x &&& y) := by
  show IntKind.u32.wrap ((BitVec.ofInt 32 (U x) &&& BitVec.ofInt 32 (U y)).toNat : Int) = _
  rw [U_ofInt, U_ofInt, wrap_nat]
theorem U_xor (x y : BitVec 32) : bits .xor .u32 (U x) (U y) = U (x ^^^ y) := by
  show IntKind.u32.wrap ((BitVec.ofInt 32 (U x) ^^^ BitVec.ofInt 32 (U y)).toNat : Int) = _
  rw [U_ofInt, U_ofInt, wrap_nat]
theorem U_add (x y : BitVec 32) : (U x + U y) % 4294967296 = U (x + y) := by
  unfold U; rw [BitVec.toNat_add]; omega
theorem U_wadd (x y : BitVec 32) : IntKind.u32.wrap (U x + U y) = U (x + y) := by rw [IntKind.wrap_u32', U_add]
theorem U_shl (x : BitVec 32) (n : Nat) : U x * 2 ^ n % 4294967296 = U (x <<< n) := by
  unfold U; rw [BitVec.toNat_shiftLeft, Nat.shiftLeft_eq]; simp
theorem U_shr (x : BitVec 32) (n : Nat) : U x / 2 ^ n = U (x >>> n) := by
  unfold U; rw [BitVec.toNat_ushiftRight, Nat.shiftRight_eq_div_pow]; simp
/-- Turned right by n bits. -/
def rotr (x : BitVec 32) (n : Nat) : BitVec 32 := x <<< (32 - n) ||| x >>> n
def ps0 (x : BitVec 32) : BitVec 32 := rotr x 7 ^^^ rotr x 18 ^^^ x >>> 3
def ps1 (x : BitVec 32) : BitVec 32 := rotr x 17 ^^^ rotr x 19 ^^^ x >>> 10
def bs0 (x : BitVec 32) : BitVec 32 := rotr x 2 ^^^ rotr x 13 ^^^ rotr x 22
def bs1 (x : BitVec 32) : BitVec 32 := rotr x 6 ^^^ rotr x 11 ^^^ rotr x 25

/-- The word of four bytes, the high one first. -/
def word (z0 z1 z2 z3 : Int) : BitVec 32 := BitVec.ofInt 32 (z0 * 16777216 + z1 * 65536 + z2 * 256 + z3)
theorem word_spelt (z0 z1 z2 z3 : Int) (a0 : 0 ≤ z0) (b0 : z0 < 256) (a1 : 0 ≤ z1) (b1 : z1 < 256) (a2 : 0 ≤ z2) (b2 : z2 < 256) (a3 : 0 ≤ z3) (b3 : z3 < 256) :
    bits BinOp.or IntKind.u32 (bits BinOp.or IntKind.u32 (bits BinOp.or IntKind.u32 (IntKind.u32.wrap (IntKind.u32.wrap z0 * 16777216)) (IntKind.u32.wrap (IntKind.u32.wrap z1 * 65536))) (IntKind.u32.wrap (IntKind.u32.wrap z2 * 256))) (IntKind.u32.wrap z3) = U (word z0 z1 z2 z3) := by
  obtain ⟨n0, rfl⟩ := Int.eq_ofNat_of_zero_le a0
  obtain ⟨n1, rfl⟩ := Int.eq_ofNat_of_zero_le a1
  obtain ⟨n2, rfl⟩ := Int.eq_ofNat_of_zero_le a2
  obtain ⟨n3, rfl⟩ := Int.eq_ofNat_of_zero_le a3
  have key : ∀ (m : Nat) (k : Nat) (h : m < 2 ^ k) (n : Nat), n * 2 ^ k ||| m = n * 2 ^ k + m := fun m k h n => by
    rw [← Nat.shiftLeft_eq, Nat.shiftLeft_add_eq_or_of_lt h]
  have e0 : IntKind.u32.wrap (IntKind.u32.wrap (n0 : Int) * 16777216) = U (BitVec.ofNat 32 (n0 * 16777216)) := by
    unfold U; rw [IntKind.wrap_u32', IntKind.wrap_u32', BitVec.toNat_ofNat]; omega
  have e1 : IntKind.u32.wrap (IntKind.u32.wrap (n1 : Int) * 65536) = U (BitVec.ofNat 32 (n1 * 65536)) := by
    unfold U; rw [IntKind.wrap_u32', IntKind.wrap_u32', BitVec.toNat_ofNat]; omega
  have e2 : IntKind.u32.wrap (IntKind.u32.wrap (n2 : Int) * 256) = U (BitVec.ofNat 32 (n2 * 256)) := by
    unfold U; rw [IntKind.wrap_u32', IntKind.wrap_u32', BitVec.toNat_ofNat]; omega
  have e3 : IntKind.u32.wrap (n3 : Int) = U (BitVec.ofNat 32 n3) := by
    unfold U; rw [IntKind.wrap_u32', BitVec.toNat_ofNat]; omega
  rw [e0, e1, e2, e3, U_or, U_or, U_or]
  congr 1
  apply BitVec.eq_of_toNat_eq
  unfold word
  have e4 : ((n0 : Int) * 16777216 + n1 * 65536 + n2 * 256 + n3) = ((n0 * 16777216 + n1 * 65536 + n2 * 256 + n3 : Nat) : Int) := by omega
  rw [e4, BitVec.ofInt_natCast]
  simp only [BitVec.toNat_or, BitVec.toNat_ofNat]
  rw [Nat.mod_eq_of_lt (show n0 * 16777216 < 2 ^ 32 by omega), Nat.mod_eq_of_lt (show n1 * 65536 < 2 ^ 32 by omega), Nat.mod_eq_of_lt (show n2 * 256 < 2 ^ 32 by omega), Nat.mod_eq_of_lt (show n3 < 2 ^ 32 by omega), Nat.mod_eq_of_lt (show n0 * 16777216 + n1 * 65536 + n2 * 256 + n3 < 2 ^ 32 by omega)]
  have k1 := key (n1 * 65536) 24 (by omega) n0
  have k2 := key (n2 * 256) 16 (by omega) (n0 * 256 + n1)
  have k3 := key n3 8 (by omega) (n0 * 65536 + n1 * 256 + n2)
  rw [show n0 * 16777216 = n0 * 2 ^ 24 by omega, k1, show n0 * 2 ^ 24 + n1 * 65536 = (n0 * 256 + n1) * 2 ^ 16 by omega, k2, show (n0 * 256 + n1) * 2 ^ 16 + n2 * 256 = (n0 * 65536 + n1 * 256 + n2) * 2 ^ 8 by omega, k3]

/-- The words of the first n rounds: of the block of bytes bs, and what is made of them. -/
def nextW (bs : List Int) (l : List (BitVec 32)) (n : Nat) : BitVec 32 :=
  if n < 16 then word (bs.getD (4 * n) 0) (bs.getD (4 * n + 1) 0) (bs.getD (4 * n + 2) 0) (bs.getD (4 * n + 3) 0) else
    ps1 (l.getD (n - 2) 0) + l.getD (n - 7) 0 + ps0 (l.getD (n - 15) 0) + l.getD (n - 16) 0
def schedTo (bs : List Int) : Nat → List (BitVec 32)
  | 0 => []
  | n + 1 => schedTo bs n ++ [nextW bs (schedTo bs n) n]
theorem schedTo_length (bs : List Int) (n : Nat) : (schedTo bs n).length = n := by
  induction n with
  | zero => rfl
  | succ n ih => simp [schedTo, ih]
theorem schedTo_last (bs : List Int) (n : Nat) : (schedTo bs (n + 1)).getD n 0 = nextW bs (schedTo bs n) n := by
  simp [schedTo, schedTo_length]
theorem schedTo_other (bs : List Int) (n j : Nat) (h : j ≠ n) : (schedTo bs (n + 1)).getD j 0 = (schedTo bs n).getD j 0 := by
  have hl := schedTo_length bs n
  rw [schedTo]
  simp only [List.getD_eq_getElem?_getD, List.getElem?_append]
  split
  · rfl
  · rw [List.getElem?_eq_none (by simp; omega), List.getElem?_eq_none (by omega)]

end Go.Proofs.YtkjlchfmplcobagGreatDoor

/- Walks of the small bit functions of package sha: each answers what the function of the same name reckons, on words. -/
namespace Go.Proofs.YtkjlchfmplcobagGreatDoor
open Go.RowKit

theorem and31 (k : Nat) (h1 : 0 < k) (h2 : k < 32) : bits BinOp.and IntKind.u64 (IntKind.u64.wrap (-(k : Int))) 31 = 32 - (k : Int) := by
  have e : IntKind.u64.wrap (-(k : Int)) = ((18446744073709551616 - k : Nat) : Int) := by
    simp [IntKind.wrap, IntKind.bits, IntKind.signed]; omega
  rw [e]
  show IntKind.u64.wrap ((BitVec.ofInt 64 (((18446744073709551616 - k : Nat)) : Int) &&& BitVec.ofInt 64 31).toNat : Int) = _
  rw [BitVec.toNat_and, BitVec.ofInt_natCast, BitVec.toNat_ofNat]
  have e31 : (BitVec.ofInt 64 31).toNat = 2 ^ 5 - 1 := by decide
  rw [e31, Nat.and_two_pow_sub_one_eq_mod]
  simp [IntKind.wrap, IntKind.bits, IntKind.signed]
  omega

set_option maxRecDepth 100000 in
set_option maxHeartbeats 400000 in
theorem rot_any (x : BitVec 32) (k : Nat) (w : World) (h3 : 0 < k) (h4 : k < 32) :
    Calls Tryz.prog 123 #[.int .u32 (U x), .int .i64 (-(k : Int))] w fun e w' => e = .returned (.int .u32 (U (rotr x k))) ∧ w' = w := by
  have e1 := and31 k h3 h4
  have h1 := U_lo x
  have h2 := U_hi x
  have e2 : 32 - (32 - k) = k := by omega
  have u1 := U_shl
  have u2 := U_shr
  have u3 := U_or
  go_enter Tryz.func123, Tryz.ntmps123
  go_wp2
  go_ret
  exact ⟨rfl, rfl⟩

set_option maxRecDepth 100000 in
set_option maxHeartbeats 400000 in
theorem right_any (x : BitVec 32) (n : Int) (w : World) (h3 : 0 < n) (h4 : n < 32) :
    Calls Tryz.prog 121 #[.int .u32 (U x), .int .i64 n] w fun e w' => e = .returned (.int .u32 (U (rotr x n.toNat))) ∧ w' = w := by
  obtain ⟨k, rfl⟩ := Int.eq_ofNat_of_zero_le (by omega : 0 ≤ n)
  go_enter Tryz.func121, Tryz.ntmps121
  go_wp2_with (go_at_call 123; refine (rot_any x k _ (by omega) (by omega)).mono ?_; rintro e w' ⟨rfl, rfl⟩)
  go_ret
  exact ⟨rfl, rfl⟩

set_option maxRecDepth 100000 in
set_option maxHeartbeats 400000 in
theorem part0_any (x : BitVec 32) (w : World) :
    Calls Tryz.prog 120 #[.int .u32 (U x)] w fun e w' => e = .returned (.int .u32 (U (ps0 x))) ∧ w' = w := by
  have h1 := U_lo x
  have h2 := U_hi x
  have u4 : bits .xor .u32 (U (rotr x 7 ^^^ rotr x 18)) (U x / 8) = U (ps0 x) := by
    have e : U x / (8 : Int) = U (x >>> 3) := U_shr x 3
    rw [e, U_xor]; rfl
  have u3 := U_xor
  go_enter Tryz.func120, Tryz.ntmps120
  go_wp2_with (go_at_call 121; refine (right_any x _ _ (by omega) (by omega)).mono ?_; rintro e w' ⟨rfl, rfl⟩)
  go_ret
  exact ⟨rfl, rfl⟩

set_option maxRecDepth 100000 in
set_option maxHeartbeats 400000 in
theorem part1_any (x : BitVec 32) (w : World) :
    Calls Tryz.prog 119 #[.int .u32 (U x)] w fun e w' => e = .returned (.int .u32 (U (ps1 x))) ∧ w' = w := by
  have h1 := U_lo x
  have h2 := U_hi x
  have u4 : bits .xor .u32 (U (rotr x 17 ^^^ rotr x 19)) (U x / 1024) = U (ps1 x) := by
    have e : U x / (1024 : Int) = U (x >>> 10) := U_shr x 10
    rw [e, U_xor]; rfl
  have u3 := U_xor
  go_enter Tryz.func119, Tryz.ntmps119
  go_wp2_with (go_at_call 121; refine (right_any x _ _ (by omega) (by omega)).mono ?_; rintro e w' ⟨rfl, rfl⟩)
  go_ret
  exact ⟨rfl, rfl⟩

set_option maxRecDepth 100000 in
set_option maxHeartbeats 400000 in
theorem sum0_any (x : BitVec 32) (w : World) :
    Calls Tryz.prog 113 #[.int .u32 (U x)] w fun e w' => e = .returned (.int .u32 (U (bs0 x))) ∧ w' = w := by
  have u3 := U_xor
  go_enter Tryz.func113, Tryz.ntmps113
  go_wp2_with (go_at_call 121; refine (right_any x _ _ (by omega) (by omega)).mono ?_; rintro e w' ⟨rfl, rfl⟩)
  go_ret
  exact ⟨rfl, rfl⟩

set_option maxRecDepth 100000 in
set_option maxHeartbeats 400000 in
theorem sum1_any (x : BitVec 32) (w : World) :
    Calls Tryz.prog 112 #[.int .u32 (U x)] w fun e w' => e = .returned (.int .u32 (U (bs1 x))) ∧ w' = w := by
  have u3 := U_xor
  go_enter Tryz.func112, Tryz.ntmps112
  go_wp2_with (go_at_call 121; refine (right_any x _ _ (by omega) (by omega)).mono ?_; rintro e w' ⟨rfl, rfl⟩)
  go_ret
  exact ⟨rfl, rfl⟩

end Go.Proofs.YtkjlchfmplcobagGreatDoor

/- Small laws on worlds that the walks of package sha want; nothing of the program is in it. -/
namespace Go.Proofs.YtkjlchfmplcobagGreatDoor
open Go.RowKit

/-- One result, that lies in memory. -/
theorem results_cell1 {fn : Func} {p : Tmp} {ty : TypeId} (h : fn.results = #[.cell p ty]) (tmps : Array Value) (P : Program) (w : World) (b o : Nat) (hp : tmps.getD p undef = .pointer (some ⟨b, o, none⟩))
    (cs : List Value) (d : TypeDesc) (hc : w.rangeAt b o cs) (hu : P.underlying ty = some d) (hd : d.isRow = true) (hi : (P.info? ty).map (·.size) = some cs.length) :
    (results fn tmps).run P w = .ok (.agg cs.toArray) w := by
  have hl := run_loadVar_mid (P := P) w b o ty cs d hc hu hd hi
  have hp' : tmps[p]?.getD undef = .pointer (some ⟨b, o, none⟩) := by simpa using hp
  simp only [results, h]
  simp [hp', asAddr, hl]

theorem below_setCells {B : Nat} {a : World} (b : Nat) (hb : B ≤ b) : ∀ (vs : List Value) (o : Nat) (w : World), Below B a w → Below B a (w.setCells b o vs)
  | [], _, _, h => h
  | v :: r, o, w, h => by
    rw [World.setCells]
    exact below_setCells b hb r (o + 1) _ (h.setCell (p := ⟨b, o, none⟩) hb v)

theorem size_setCells (b : Nat) : ∀ (vs : List Value) (o : Nat) (w : World), (w.setCells b o vs).heap.size = w.heap.size
  | [], _, _ => rfl
  | v :: r, o, w => by
    rw [World.setCells, size_setCells b r (o + 1) _]
    simp

/-- A block that was laid. -/
theorem new_cell (w : World) (t : TypeId) (C : Array Value) (j : Nat) (hj : j < C.size) : (w.alloc (.cells C t)).cell? ⟨w.heap.size, j, none⟩ = some C[j] := by
  rw [cell_of_row (w.alloc (.cells C t)) w.heap.size j C t (0, 0) (by show (w.heap.push _)[w.heap.size]? = _; simp)]
  simp [hj]

theorem old_cell (w : World) (o : Obj) (b j : Nat) (hb : b < w.heap.size) : (w.alloc o).cell? ⟨b, j, none⟩ = w.cell? ⟨b, j, none⟩ :=
  World.cell?_alloc_lt _ _ _ hb

theorem there_new (w : World) (t : TypeId) (C : Array Value) (n : Nat) (hn : C.size = n) : (w.alloc (.cells C t)).there w.heap.size 0 n := fun j hj => by
  refine ⟨by rw [Nat.zero_add, new_cell w t C j (by omega)]; rfl, ?_⟩
  simp

theorem cell_off {w : World} {b k j : Nat} {v u : Value} (hj : j ≠ k) (h : w.cell? ⟨b, j, none⟩ = some u) : ((w.setCell ⟨b, k, none⟩ v).drew).cell? ⟨b, j, none⟩ = some u := by
  show (w.setCell ⟨b, k, none⟩ v).cell? ⟨b, j, none⟩ = some u
  rw [World.cell?_setCell_other _ _ _ _ (by intro e; injection e; omega)]
  exact h

end Go.Proofs.YtkjlchfmplcobagGreatDoor
