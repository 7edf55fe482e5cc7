/- The walk of the law ShaKnown: the digests of FIPS 180-4's examples. -/
import Derived.Test.YtkjlchfmplcobaaDoorProg
import Derived.Test.YtkjlchfmplcobaaDoorShaHex
import Derived.WalkKit
import Derived.WalkSpells
import Derived.WalkLawsBesides
import Derived.Lib.SlBytesConst
import Derived.Test.YtkjlchfmplcobaaDoorShaSum
import Derived.Deep.AppendLies
import Derived.Laws.AppendOwnNone
import Derived.Deep.RegionHeld3
import Derived.BigRegion
namespace Go.Proofs.YtkjlchfmplcobaaDoor
open Go.RowKit

def kt0 : ByteArray := ⟨#[]⟩
def kh0 : ByteArray := ⟨#[101, 51, 98, 48, 99, 52, 52, 50, 57, 56, 102, 99, 49, 99, 49, 52, 57, 97, 102, 98, 102, 52, 99, 56, 57, 57, 54, 102, 98, 57, 50, 52, 50, 55, 97, 101, 52, 49, 101, 52, 54, 52, 57, 98, 57, 51, 52, 99, 97, 52, 57, 53, 57, 57, 49, 98, 55, 56, 53, 50, 98, 56, 53, 53]⟩
def kt1 : ByteArray := ⟨#[97, 98, 99]⟩
def kh1 : ByteArray := ⟨#[98, 97, 55, 56, 49, 54, 98, 102, 56, 102, 48, 49, 99, 102, 101, 97, 52, 49, 52, 49, 52, 48, 100, 101, 53, 100, 97, 101, 50, 50, 50, 51, 98, 48, 48, 51, 54, 49, 97, 51, 57, 54, 49, 55, 55, 97, 57, 99, 98, 52, 49, 48, 102, 102, 54, 49, 102, 50, 48, 48, 49, 53, 97, 100]⟩
def kt2 : ByteArray := ⟨#[97, 98, 99, 100, 98, 99, 100, 101, 99, 100, 101, 102, 100, 101, 102, 103, 101, 102, 103, 104, 102, 103, 104, 105, 103, 104, 105, 106, 104, 105, 106, 107, 105, 106, 107, 108, 106, 107, 108, 109, 107, 108, 109, 110, 108, 109, 110, 111, 109, 110, 111, 112, 110, 111, 112, 113]⟩
def kh2 : ByteArray := ⟨#[50, 52, 56, 100, 54, 97, 54, 49, 100, 50, 48, 54, 51, 56, 98, 56, 101, 53, 99, 48, 50, 54, 57, 51, 48, 99, 51, 101, 54, 48, 51, 57, 97, 51, 51, 99, 101, 52, 53, 57, 54, 52, 102, 102, 50, 49, 54, 55, 102, 54, 101, 99, 101, 100, 100, 52, 49, 57, 100, 98, 48, 54, 99, 49]⟩
def kt3 : ByteArray := ⟨#[97, 98, 99, 100, 101, 102, 103, 104, 98, 99, 100, 101, 102, 103, 104, 105, 99, 100, 101, 102, 103, 104, 105, 106, 100, 101, 102, 103, 104, 105, 106, 107, 101, 102, 103, 104, 105, 106, 107, 108, 102, 103, 104, 105, 106, 107, 108, 109, 103, 104, 105, 106, 107, 108, 109, 110, 104, 105, 106, 107, 108, 109, 110, 111, 105, 106, 107, 108, 109, 110, 111, 112, 106, 107, 108, 109, 110, 111, 112, 113, 107, 108, 109, 110, 111, 112, 113, 114, 108, 109, 110, 111, 112, 113, 114, 115, 109, 110, 111, 112, 113, 114, 115, 116, 110, 111, 112, 113, 114, 115, 116, 117]⟩
def kh3 : ByteArray := ⟨#[99, 102, 53, 98, 49, 54, 97, 55, 55, 56, 97, 102, 56, 51, 56, 48, 48, 51, 54, 99, 101, 53, 57, 101, 55, 98, 48, 52, 57, 50, 51, 55, 48, 98, 50, 52, 57, 98, 49, 49, 101, 56, 102, 48, 55, 97, 53, 49, 97, 102, 97, 99, 52, 53, 48, 51, 55, 97, 102, 101, 101, 57, 100, 49]⟩
def tx (j : Nat) : ByteArray × ByteArray := match j with | 0 => (kt0, kh0) | 1 => (kt1, kh1) | 2 => (kt2, kh2) | _ => (kt3, kh3)
/-- A text's bytes. -/
def bytesOf (s : ByteArray) : List Int := s.data.toList.map fun b => (b.toNat : Int)
set_option maxRecDepth 100000 in
theorem known0 : shaL (bytesOf kt0) = hexTo kh0 32 := by decide +kernel
set_option maxRecDepth 100000 in
theorem known1 : shaL (bytesOf kt1) = hexTo kh1 32 := by decide +kernel
set_option maxRecDepth 100000 in
theorem known2 : shaL (bytesOf kt2) = hexTo kh2 32 := by decide +kernel
set_option maxRecDepth 100000 in
theorem known3 : shaL (bytesOf kt3) = hexTo kh3 32 := by decide +kernel
theorem ksizes : kh0.size = 64 ∧ kh1.size = 64 ∧ kh2.size = 64 ∧ kh3.size = 64 ∧ kt0.size ≤ 1000 ∧ kt1.size ≤ 1000 ∧ kt2.size ≤ 1000 ∧ kt3.size ≤ 1000 := by decide +kernel
theorem tx_known (j : Nat) : shaL (bytesOf (tx j).1) = hexTo (tx j).2 ((tx j).2.size / 2) ∧ (tx j).2.size ≤ 1000 ∧ (tx j).1.size ≤ 1000 := by
  obtain ⟨a0, a1, a2, a3, b0, b1, b2, b3⟩ := ksizes
  match j with
  | 0 => exact ⟨by show _ = hexTo kh0 (kh0.size / 2); rw [a0]; exact known0, by show kh0.size ≤ _; omega, b0⟩
  | 1 => exact ⟨by show _ = hexTo kh1 (kh1.size / 2); rw [a1]; exact known1, by show kh1.size ≤ _; omega, b1⟩
  | 2 => exact ⟨by show _ = hexTo kh2 (kh2.size / 2); rw [a2]; exact known2, by show kh2.size ≤ _; omega, b2⟩
  | _ + 3 => exact ⟨by show _ = hexTo kh3 (kh3.size / 2); rw [a3]; exact known3, by show kh3.size ≤ _; omega, b3⟩
theorem bytesOf_length (s : ByteArray) : (bytesOf s).length = s.size := by simp [bytesOf]
theorem bytesOf_get (s : ByteArray) (j : Nat) : (bytesOf s).getD j 0 = ((s.data.toList.getD j 0).toNat : Int) := by
  unfold bytesOf
  rw [List.getD_eq_getElem?_getD, List.getElem?_map, List.getD_eq_getElem?_getD]
  cases s.data.toList[j]? <;> rfl
theorem bytesOf_bytes (s : ByteArray) : Bytes (bytesOf s) := fun j => by
  rw [bytesOf_get]
  have := (s.data.toList.getD j 0).toNat_lt
  omega

/-- What holds while the examples are gone through: B is the block of the texts. -/
def Kn (B : Nat) (w wr : World) : Prop :=
  (∀ j, j < 4 → wr.cell? ⟨B, j * 2, none⟩ = some (.string (tx j).1) ∧ wr.cell? ⟨B, j * 2 + 1, none⟩ = some (.string (tx j).2)) ∧ Below B w wr ∧ B < wr.heap.size
def knownCells : List Value := [.string kt0, .string kh0, .string kt1, .string kh1, .string kt2, .string kh2, .string kt3, .string kh3]
theorem known_start (w : World) (t : TypeId) (A : Array Value) (hA : A = knownCells.toArray) : Kn w.heap.size w (w.alloc (.cells A t)) := by
  subst hA
  refine ⟨fun j hj => ?_, (Below.refl _ _).alloc (Nat.le_refl _) _, by simp⟩
  have h : j = 0 ∨ j = 1 ∨ j = 2 ∨ j = 3 := by omega
  rcases h with rfl | rfl | rfl | rfl
  · exact ⟨new_cell _ _ _ 0 (by decide), new_cell _ _ _ 1 (by decide)⟩
  · exact ⟨new_cell _ _ _ 2 (by decide), new_cell _ _ _ 3 (by decide)⟩
  · exact ⟨new_cell _ _ _ 4 (by decide), new_cell _ _ _ 5 (by decide)⟩
  · exact ⟨new_cell _ _ _ 6 (by decide), new_cell _ _ _ 7 (by decide)⟩
theorem Kn.below {B : Nat} {w wr w' : World} (h : Kn B w wr) (hb : Below wr.heap.size wr w') : Kn B w w' := by
  obtain ⟨h1, h2, h3⟩ := h
  refine ⟨fun j hj => ?_, h2.trans (hb.mono (Nat.le_of_lt h3)), Nat.lt_of_lt_of_le h3 hb.size⟩
  rw [hb.cell (p := ⟨B, j * 2, none⟩) h3, hb.cell (p := ⟨B, j * 2 + 1, none⟩) h3]
  exact h1 j hj

theorem converted (w : World) (e : TypeId) (s : ByteArray) (c : Nat) : BytesAt (Lib.bytesWorld w e s) (.slice (some ⟨w.heap.size, 0, none⟩) s.size c) (bytesOf s) := by
  refine .inr ⟨w.heap.size, 0, c, by rw [bytesOf_length], by rw [Lib.bytesWorld_size]; omega, fun j hj => ?_⟩
  rw [bytesOf_length] at hj
  rw [Nat.zero_add, Lib.bytesWorld_cell _ _ _ _ hj, bytesOf_get]

theorem cast_known {P : Program} {c : Code} {Q : Exit → Act → World → Prop} {a : Act} {w w2 : World} (h : w2 = w) (h2 : c.wp P Q a w2) : c.wp P Q a w := by rw [← h]; exact h2

set_option maxRecDepth 100000 in
set_option maxHeartbeats 1000000 in
theorem known_any (w : World) (hK : Tab w) (h0 : 0 < w.heap.size) :
    Calls Tryd.prog 5 #[] w fun e w' => e = .returned (.bool true) ∧ Below w.heap.size w w' := by
  have hst := known_start w
  go_enter Tryd.func5, Tryd.ntmps5
  go_wp2_with fail
  go_loopw [9] (fun i wr => ∃ k : Nat, k ≤ 4 ∧ i = .int .i64 k ∧ Kn w.heap.size w wr) (fun i _ => 4 - (intOf i).toNat)
  case atStart => exact ⟨0, by omega, rfl, hst _ _ (by kernel_rfl)⟩
  case round =>
    clear hst
    obtain ⟨k, hk, rfl, hKn⟩ := hrel
    by_cases hlt : k < 4
    · have hc0 := (hKn.1 k hlt).1
      have hc1 := (hKn.1 k hlt).2
      obtain ⟨hq, hs1, hs0⟩ := tx_known k
      have HQ : Hid (shaL (bytesOf (tx k).1) = hexTo (tx k).2 ((tx k).2.size / 2)) := hq
      clear hq
      have hbk := hKn.2.1
      have hsk := hKn.2.2
      generalize (tx k).1 = s0 at *
      generalize (tx k).2 = s1 at *
      have i1 : (k : Int) < 4 := by omega
      have hK1 : Tab wr := fun i hi => by
        rw [hbk.cell (p := ⟨0, i, none⟩) h0]; exact hK i hi
      have x0 : (wr.alloc (.cells #[.string s0, .string s1] 30)).cell? ⟨wr.heap.size, 0, none⟩ = some (.string s0) := new_cell _ _ _ 0 (by simp)
      have x1 : (wr.alloc (.cells #[.string s0, .string s1] 30)).cell? ⟨wr.heap.size, 1, none⟩ = some (.string s1) := new_cell _ _ _ 1 (by simp)
      have hbX : Below wr.heap.size wr (wr.alloc (.cells #[.string s0, .string s1] 30)) := (Below.refl _ _).alloc (Nat.le_refl _) _
      have hsX : (wr.alloc (.cells #[.string s0, .string s1] 30)).heap.size = wr.heap.size + 1 := by simp
      go_wp2_with fail
      obtain ⟨W, hW⟩ : ∃ W, W = wr.alloc (.cells #[.string s0, .string s1] 30) := ⟨_, rfl⟩
      refine cast_known (w2 := W) hW ?_
      rw [← hW] at x0 x1 hbX hsX
      clear hW hc0 hc1
      have kc := Lib.run_convert_string_bytes (P := Tryd.prog) W.drew 9 22 5 s0 Tryd.underlying9 Tryd.underlying22 Tryd.underlying5
      have hBB : BytesAt (Lib.bytesWorld W.drew 5 s0) (.slice (some ⟨W.heap.size, 0, none⟩) s0.size (grownCap W.drew s0.size 0 5)) (bytesOf s0) := converted W.drew 5 s0 (grownCap W.drew s0.size 0 5)
      have hbB : Below W.drew.heap.size W.drew (Lib.bytesWorld W.drew 5 s0) := below_bytesWorld _ _ _
      have hsW : wr.heap.size < W.drew.heap.size := by show wr.heap.size < W.heap.size; omega
      clear hsX
      have hbXd : Below wr.heap.size wr W.drew := hbX.drew
      generalize grownCap W.drew s0.size 0 5 = cap0 at kc hBB
      generalize Lib.bytesWorld W.drew 5 s0 = WB at kc hBB hbB
      have y0 : WB.cell? ⟨wr.heap.size, 0, none⟩ = some (.string s0) := by rw [hbB.cell (p := ⟨wr.heap.size, 0, none⟩) (by show wr.heap.size < _; omega)]; exact x0
      have y1 : WB.cell? ⟨wr.heap.size, 1, none⟩ = some (.string s1) := by rw [hbB.cell (p := ⟨wr.heap.size, 1, none⟩) (by show wr.heap.size < _; omega)]; exact x1
      have hbWB : Below wr.heap.size wr WB := hbXd.trans (hbB.mono (by omega))
      have hKB : Tab WB := tab_below hK1 hbWB (by omega)
      have hsB := hbWB.size
      have hlB := hbB.size
      have hzb := bytesOf_bytes s0
      have hlz : (bytesOf s0).length ≤ 140737488355328 := by rw [bytesOf_length]; omega
      have hsl : (shaL (bytesOf s0)).length ≤ maxLen := by rw [show (shaL (bytesOf s0)).length = 32 from outTo_length _ 8 (by omega)]; unfold maxLen; omega
      have hgz : 0 < WB.heap.size := by omega
      go_region_with (first | (go_at_call 10; refine (sum_any (bytesOf s0) _ _ hBB hlz hzb hKB hgz).mono ?_; rintro e w4 ⟨g4, rfl, ho4, hb4⟩; have z1 := (hb4.cell (p := ⟨wr.heap.size, 1, none⟩) (by show wr.heap.size < _; omega)).trans y1) | (go_at_call 14; refine (hex_any s1 _ hs1).mono ?_; rintro e w5 ⟨v5, rfl, ho5, hb5⟩) | (go_at_call 9; refine (same_any (shaL (bytesOf s0)) (shaL (bytesOf s0)) _ _ _ ((bytesAt_own ho4).below (Nat.le_refl _) hb5) (by rw [HQ.out]; exact bytesAt_own ho5) hsl).mono ?_; rintro e w6 ⟨rfl, n6, rfl⟩))
      all_goals
        have hfin : Below wr.heap.size wr (w5.drewN n6) := below_drewN ((hbWB.trans (hb4.mono hsB)).trans (hb5.mono (Nat.le_trans hsB hb4.size))) n6
        have hend := hKn.below hfin
        clear hfin ho4 ho5 hb4 hb5 kc hBB hbB hbXd x0 x1 y0 y1
        go_wp2
        go_roundw
        case rel => exact ⟨k + 1, by omega, by go_num, hend⟩
        case measure => simp [intOf]; omega
    · obtain rfl : k = 4 := by omega
      go_wp2
      go_ret
      exact ⟨rfl, hKn.2.1⟩

end Go.Proofs.YtkjlchfmplcobaaDoor
