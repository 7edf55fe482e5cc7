/- ShaSpread, ShaRound, ShaMix, as one text. -/
import Derived.Test.YtheeepjlpcoeoacDoorProg
import Derived.Test.YtheeepjlpcoeoacDoorShaBits
import Derived.Test.YtheeepjlpcoeoacDoorShaLaws
import Derived.WalkKit
import Derived.WalkSpells
import Derived.WalkLawsBesides
import Derived.Deep.RegionHeld3
import Derived.BigRegion
import Derived.Test.YtheeepjlpcoeoacDoorShaMath
import Derived.Deep.WholeRow
import Derived.Deep.QuietTactic
import Derived.BigQuiet
/- The walk of sha.spread: it answers the sixty-four words of a block. -/
namespace Go.Proofs.YtheeepjlpcoeoacDoor
open Go.RowKit

/-- What holds behind k words, in the world wr: B is the block of the bytes, two behind it that of the words. -/
def Sp (bs : List Int) (B : Nat) (w wr : World) (k : Nat) : Prop :=
  (∀ j, j < 64 → wr.cell? ⟨B, j, none⟩ = some (.int .u8 (bs.getD j 0))) ∧
  (∀ j, j < 64 → wr.cell? ⟨B + 1 + 1, j, none⟩ = some (.int .u32 (U ((schedTo bs k).getD j 0))) ∧ wr.frozen? ⟨B + 1 + 1, j, none⟩ = false) ∧
  wr.there (B + 1) 0 64 ∧ wr.heap.size = B + 3 ∧ Below B w wr

theorem Sp.store {bs : List Int} {B : Nat} {w wr : World} {k : Nat} (h : Sp bs B w wr k) (hk : k < 64) {x : Int} (hx : x = U (nextW bs (schedTo bs k) k)) :
    Sp bs B w ((wr.setCell ⟨B + 1 + 1, k, none⟩ (.int .u32 x)).drew) (k + 1) := by
  obtain ⟨h1, h2, h3, h4, h5⟩ := h
  subst hx
  refine ⟨fun j hj => ?_, fun j hj => ⟨?_, ?_⟩, ?_, ?_, ?_⟩
  · show (wr.setCell ⟨B + 1 + 1, k, none⟩ _).cell? _ = _
    rw [World.cell?_setCell_other _ _ _ _ (by intro e; injection e; omega)]
    exact h1 j hj
  · show (wr.setCell ⟨B + 1 + 1, k, none⟩ _).cell? _ = _
    by_cases e : j = k
    · subst e
      rw [World.cell?_setCell_same _ _ _ (h2 j hj).1, schedTo_last]
    · rw [World.cell?_setCell_other _ _ _ _ (by intro e'; injection e'; omega), schedTo_other _ _ _ e]
      exact (h2 j hj).1
  · show (wr.setCell ⟨B + 1 + 1, k, none⟩ _).frozen? _ = _
    rw [World.frozen?_setCell]
    exact (h2 j hj).2
  · rw [World.there_drew]
    exact World.there_setCells h3 (B + 1 + 1) k [_]
  · simpa using h4
  · exact (h5.setCell (by show B ≤ B + 1 + 1; omega) _).drew

theorem sp_start (bs : List Int) (w : World) (hC : bs.length = 64) (t1 t2 : TypeId) (Z : Array Value) (hZ : Z = Array.replicate 64 (Value.int .u32 0)) :
    Sp bs w.heap.size w (((w.alloc (.cells (bs.map (Value.int .u8)).toArray t1)).alloc (.cells Z t2)).alloc (.cells Z t2)) 0 := by
  have s1 : (w.alloc (.cells (bs.map (Value.int .u8)).toArray t1)).heap.size = w.heap.size + 1 := by simp
  have s2 : ((w.alloc (.cells (bs.map (Value.int .u8)).toArray t1)).alloc (.cells Z t2)).heap.size = w.heap.size + 1 + 1 := by simp
  have hzs : Z.size = 64 := by rw [hZ, Array.size_replicate]
  refine ⟨fun j hj => ?_, fun j hj => ⟨?_, ?_⟩, ?_, ?_, ?_⟩
  · rw [old_cell _ _ _ _ (by omega), old_cell _ _ _ _ (by omega), new_cell _ _ _ _ (by simp; omega)]
    simp [hC, hj]
  · have := new_cell ((w.alloc (.cells (bs.map (Value.int .u8)).toArray t1)).alloc (.cells Z t2)) t2 Z j (by omega)
    rw [s2] at this
    rw [this]
    subst hZ
    rw [Array.getElem_replicate]
    rfl
  · have := (there_new ((w.alloc (.cells (bs.map (Value.int .u8)).toArray t1)).alloc (.cells Z t2)) t2 Z 64 hzs j hj).2
    rw [s2, Nat.zero_add] at this
    exact this
  · have := there_new (w.alloc (.cells (bs.map (Value.int .u8)).toArray t1)) t2 Z 64 hzs
    rw [s1] at this
    exact World.there_alloc this _
  · simp
  · exact (((Below.refl _ _).alloc (Nat.le_refl _) _).alloc (by simp) _).alloc (by simp; omega) _

set_option maxRecDepth 100000 in
set_option maxHeartbeats 1000000 in
theorem spread_any (bs : List Int) (w : World) (hC : bs.length = 64) (hb : ∀ j, 0 ≤ bs.getD j 0 ∧ bs.getD j 0 < 256) :
    Calls Tryd.prog 62 #[.agg (bs.map (Value.int .u8)).toArray] w fun e w' => e = .returned (.agg ((schedTo bs 64).map fun x => Value.int .u32 (U x)).toArray) ∧ Below w.heap.size w w' := by
  have hst := sp_start bs w hC
  go_enter Tryd.func62, Tryd.ntmps62
  go_wp2
  go_loopw [6] (fun i wr => ∃ k : Nat, k ≤ 16 ∧ i = .int .i64 k ∧ Sp bs w.heap.size w wr k) (fun i _ => 16 - (intOf i).toNat)
  case atStart => exact ⟨0, by omega, rfl, hst _ _ _ rfl⟩
  case round =>
    clear hst
    obtain ⟨k, hk, rfl, hS⟩ := hrel
    by_cases hlt : k < 16
    · have hn : ∀ x : Int, x = U (word (bs.getD (4 * k) 0) (bs.getD (4 * k + 1) 0) (bs.getD (4 * k + 2) 0) (bs.getD (4 * k + 3) 0)) → Sp bs w.heap.size w ((wr.setCell ⟨w.heap.size + 1 + 1, k, none⟩ (.int .u32 x)).drew) (k + 1) := fun x hx =>
        hS.store (by omega) (by rw [hx, nextW, if_pos hlt])
      obtain ⟨hB, hW, -, -, -⟩ := hS
      have c0 := hB (4 * k) (by omega)
      have c1 := hB (4 * k + 1) (by omega)
      have c2 := hB (4 * k + 2) (by omega)
      have c3 := hB (4 * k + 3) (by omega)
      have d := hW k (by omega)
      obtain ⟨d1, d2⟩ := d
      have b0 := hb (4 * k)
      have b1 := hb (4 * k + 1)
      have b2 := hb (4 * k + 2)
      have b3 := hb (4 * k + 3)
      clear hB hW hb
      generalize bs.getD (4 * k) 0 = z0 at *
      generalize bs.getD (4 * k + 1) 0 = z1 at *
      generalize bs.getD (4 * k + 2) 0 = z2 at *
      generalize bs.getD (4 * k + 3) 0 = z3 at *
      obtain ⟨b01, b02⟩ := b0
      obtain ⟨b11, b12⟩ := b1
      obtain ⟨b21, b22⟩ := b2
      obtain ⟨b31, b32⟩ := b3
      have hword := word_spelt z0 z1 z2 z3 b01 b02 b11 b12 b21 b22 b31 b32
      have hfin := hn _ rfl
      clear hn
      have hne : ¬ (w.heap.size + 1 + 1 = w.heap.size) := by omega
      have i0 : (0 : Int) ≤ 4 * (k : Int) := by omega
      have i1 : 4 * (k : Int) < 64 := by omega
      have i2 : 4 * (k : Int) + 1 < 64 := by omega
      have i3 : 4 * (k : Int) + 2 < 64 := by omega
      have i4 : 4 * (k : Int) + 3 < 64 := by omega
      have j1 : (0 : Int) ≤ 4 * (k : Int) + 1 := by omega
      have j2 : (0 : Int) ≤ 4 * (k : Int) + 2 := by omega
      have j3 : (0 : Int) ≤ 4 * (k : Int) + 3 := by omega
      have w0 : IntKind.i64.wrap (4 * (k : Int)) = 4 * (k : Int) := by rw [IntKind.wrap_i64]; omega
      have w1 : IntKind.i64.wrap (4 * (k : Int) + 1) = 4 * (k : Int) + 1 := by rw [IntKind.wrap_i64]; omega
      have w2 : IntKind.i64.wrap (4 * (k : Int) + 2) = 4 * (k : Int) + 2 := by rw [IntKind.wrap_i64]; omega
      have w3 : IntKind.i64.wrap (4 * (k : Int) + 3) = 4 * (k : Int) + 3 := by rw [IntKind.wrap_i64]; omega
      have i5 : (k : Int) < 64 := by omega
      have i6 : (0 : Int) ≤ (k : Int) := by omega
      have t0 : (4 * (k : Int)).toNat = 4 * k := by omega
      have t1 : (4 * (k : Int) + 1).toNat = 4 * k + 1 := by omega
      have t2 : (4 * (k : Int) + 2).toNat = 4 * k + 2 := by omega
      have t3 : (4 * (k : Int) + 3).toNat = 4 * k + 3 := by omega
      go_wp2
      go_region_held3 (fun w' => w'.cell? ⟨w.heap.size, 4 * k, none⟩ = some (.int .u8 z0) ∧ w'.cell? ⟨w.heap.size, 4 * k + 1, none⟩ = some (.int .u8 z1) ∧ w'.cell? ⟨w.heap.size, 4 * k + 2, none⟩ = some (.int .u8 z2) ∧ w'.cell? ⟨w.heap.size, 4 * k + 3, none⟩ = some (.int .u8 z3)) (go_keep) (fail)
      go_wp2
      go_roundw
      case rel => exact ⟨k + 1, by omega, by go_num, hfin⟩
      case measure => simp [intOf]; omega
    · obtain rfl : k = 16 := by omega
      clear hlt hk
      go_wp2
      go_loopw [5] (fun i wr => ∃ k : Nat, 16 ≤ k ∧ k ≤ 64 ∧ i = .int .i64 k ∧ Sp bs w.heap.size w wr k) (fun i _ => 64 - (intOf i).toNat)
      case atStart => exact ⟨16, by omega, by omega, rfl, hS⟩
      case round =>
        obtain ⟨k, hk1, hk, rfl, hS⟩ := hrel
        by_cases hlt : k < 64
        · have hfin := hS.store (by omega) (x := U (ps1 ((schedTo bs k).getD (k - 2) 0) + (schedTo bs k).getD (k - 7) 0 + ps0 ((schedTo bs k).getD (k - 15) 0) + (schedTo bs k).getD (k - 16) 0)) (by rw [nextW, if_neg (by omega)])
          obtain ⟨-, hW, -, -, -⟩ := hS
          have c0 := (hW (k - 2) (by omega)).1
          have c1 := (hW (k - 7) (by omega)).1
          have c2 := (hW (k - 15) (by omega)).1
          have c3 := (hW (k - 16) (by omega)).1
          have d := hW k (by omega)
          obtain ⟨d1, d2⟩ := d
          clear hW hb
          generalize (schedTo bs k).getD (k - 2) 0 = z0 at *
          generalize (schedTo bs k).getD (k - 7) 0 = z1 at *
          generalize (schedTo bs k).getD (k - 15) 0 = z2 at *
          generalize (schedTo bs k).getD (k - 16) 0 = z3 at *
          have n0 : ¬ (k = k - 2) := by omega
          have n1 : ¬ (k = k - 7) := by omega
          have n2 : ¬ (k = k - 15) := by omega
          have n3 : ¬ (k = k - 16) := by omega
          have i1 : (k : Int) - 2 < 64 := by omega
          have i2 : (k : Int) - 7 < 64 := by omega
          have i3 : (k : Int) - 15 < 64 := by omega
          have i4 : (k : Int) - 16 < 64 := by omega
          have j1 : (0 : Int) ≤ (k : Int) - 2 := by omega
          have j2 : (0 : Int) ≤ (k : Int) - 7 := by omega
          have j3 : (0 : Int) ≤ (k : Int) - 15 := by omega
          have j4 : (0 : Int) ≤ (k : Int) - 16 := by omega
          have l1 : (2 : Int) ≤ (k : Int) := by omega
          have l2 : (7 : Int) ≤ (k : Int) := by omega
          have l3 : (15 : Int) ≤ (k : Int) := by omega
          have l4 : (16 : Int) ≤ (k : Int) := by omega
          have w0 : IntKind.i64.wrap ((k : Int) - 2) = (k : Int) - 2 := by rw [IntKind.wrap_i64]; omega
          have w1 : IntKind.i64.wrap ((k : Int) - 7) = (k : Int) - 7 := by rw [IntKind.wrap_i64]; omega
          have w2 : IntKind.i64.wrap ((k : Int) - 15) = (k : Int) - 15 := by rw [IntKind.wrap_i64]; omega
          have w3 : IntKind.i64.wrap ((k : Int) - 16) = (k : Int) - 16 := by rw [IntKind.wrap_i64]; omega
          have i5 : (k : Int) < 64 := by omega
          have i6 : (0 : Int) ≤ (k : Int) := by omega
          have t0 : ((k : Int) - 2).toNat = k - 2 := by omega
          have t1 : ((k : Int) - 7).toNat = k - 7 := by omega
          have t2 : ((k : Int) - 15).toNat = k - 15 := by omega
          have t3 : ((k : Int) - 16).toNat = k - 16 := by omega
          have u0 := U_wadd
          go_wp2
          go_region_held3 (fun w' => w'.cell? ⟨w.heap.size + 1 + 1, k - 2, none⟩ = some (.int .u32 (U z0)) ∧ w'.cell? ⟨w.heap.size + 1 + 1, k - 7, none⟩ = some (.int .u32 (U z1)) ∧ w'.cell? ⟨w.heap.size + 1 + 1, k - 15, none⟩ = some (.int .u32 (U z2)) ∧ w'.cell? ⟨w.heap.size + 1 + 1, k - 16, none⟩ = some (.int .u32 (U z3))) (first | (go_keep; done) | exact ⟨cell_off (by omega) c0, cell_off (by omega) c1, cell_off (by omega) c2, cell_off (by omega) c3⟩)
            (first | (go_at_call 66; refine (part1_any _ _).mono ?_; rintro e w' ⟨rfl, rfl⟩) | (go_at_call 67; refine (part0_any _ _).mono ?_; rintro e w' ⟨rfl, rfl⟩))
          go_wp2
          go_roundw
          case rel => first | exact ⟨k + 1, by omega, by omega, by go_num, hfin⟩ | ((repeat apply Exists.intro); exact ⟨⟨k + 1, by omega, by omega, by go_num, hfin⟩, rfl⟩)
          case measure => simp [intOf]; omega
        · obtain rfl : k = 64 := by omega
          clear hlt hk hk1
          have hl := schedTo_length bs 64
          obtain ⟨-, hW, hT, hz, hnx⟩ := hS
          have hr : wr.rangeAt (w.heap.size + 1 + 1) 0 ((schedTo bs 64).map fun x => Value.int .u32 (U x)) := fun j v hv => by
            have hj : j < 64 := by have := (List.getElem?_eq_some_iff.1 hv).1; simp [hl] at this; exact this
            rw [Nat.zero_add, (hW j hj).1]
            rw [List.getElem?_map, List.getElem?_eq_getElem (by omega)] at hv
            rw [List.getD_eq_getElem?_getD, List.getElem?_eq_getElem (by omega)]
            simpa using hv
          have hlen : ((schedTo bs 64).map fun x => Value.int .u32 (U x)).length = 64 := by simp [hl]
          have hone : ∀ v ∈ ((schedTo bs 64).map fun x => Value.int .u32 (U x)), v.oneCell' = true := by
            intro v hv
            obtain ⟨x, -, rfl⟩ := List.mem_map.1 hv
            rfl
          have hi : (Tryd.prog.info? 90).map (·.size) = some ((schedTo bs 64).map fun x => Value.int .u32 (U x)).length := by rw [hlen]; kernel_rfl
          obtain ⟨D, hD⟩ : ∃ D, ((schedTo bs 64).map fun x => Value.int .u32 (U x)) = D := ⟨_, rfl⟩
          have HD : Hid (((schedTo bs 64).map fun x => Value.int .u32 (U x)) = D) := hD
          rw [hD] at hr hlen hone hi
          clear hD
          have hr2 : (wr.setCells (w.heap.size + 1) 0 D.toArray.toList).rangeAt (w.heap.size + 1) 0 D := World.rangeAt_setCells_same wr (w.heap.size + 1) 0 D (by rw [hlen]; exact hT)
          have hb2 : Below w.heap.size w (wr.setCells (w.heap.size + 1) 0 D.toArray.toList) := below_setCells _ (by omega) _ _ _ hnx
          have hsz : D.toArray.size = 64 := by simpa using hlen
          have hi' : (Tryd.prog.info? 90).map (·.size) = some D.toArray.size := by rw [hi]; simp
          have hT' : wr.there (w.heap.size + 1) 0 D.toArray.size := by rw [hsz]; exact hT
          clear hW hz hnx hl hlen hT hb hsz
          go_wp2_with (first | (refine wpList_load_mid rfl 90 (.tmp 3) rfl (w.heap.size + 1 + 1) 0 rfl D _ hr Tryd.underlying90 rfl hi ?_) | (refine wpList_store_mid rfl 90 (.tmp 2) (.tmp 68) rfl (w.heap.size + 1) 0 D.toArray rfl rfl hT' hi' (all_oneCell_toArray hone) ?_))
          refine bodyPost_ret (results_cell1 Tryd.results62 _ _ _ (w.heap.size + 1) 0 rfl D _ hr2 Tryd.underlying90 rfl hi) rfl ⟨by rw [HD.out], hb2⟩

end Go.Proofs.YtheeepjlpcoeoacDoor

/- The plain mathematics of SHA-256: the rounds over a block. -/
namespace Go.Proofs.YtheeepjlpcoeoacDoor
open Go.RowKit

/-- The eight words. -/
structure St where
  a : BitVec 32
  b : BitVec 32
  c : BitVec 32
  d : BitVec 32
  e : BitVec 32
  f : BitVec 32
  g : BitVec 32
  h : BitVec 32
/-- The words of the rounds. -/
def kw : List (BitVec 32) := [1116352408, 1899447441, 3049323471, 3921009573, 961987163, 1508970993, 2453635748, 2870763221, 3624381080, 310598401, 607225278, 1426881987, 1925078388, 2162078206, 2614888103, 3248222580, 3835390401, 4022224774, 264347078, 604807628, 770255983, 1249150122, 1555081692, 1996064986, 2554220882, 2821834349, 2952996808, 3210313671, 3336571891, 3584528711, 113926993, 338241895, 666307205, 773529912, 1294757372, 1396182291, 1695183700, 1986661051, 2177026350, 2456956037, 2730485921, 2820302411, 3259730800, 3345764771, 3516065817, 3600352804, 4094571909, 275423344, 430227734, 506948616, 659060556, 883997877, 958139571, 1322822218, 1537002063, 1747873779, 1955562222, 2024104815, 2227730452, 2361852424, 2428436474, 2756734187, 3204031479, 3329325298]
/-- One round, with its word and the block's. -/
def St.round (s : St) (k x : BitVec 32) : St :=
  let t1 := s.h + bs1 s.e + ((s.e &&& s.f) ^^^ (~~~s.e &&& s.g)) + k + x
  let t2 := bs0 s.a + ((s.a &&& s.b) ^^^ (s.a &&& s.c) ^^^ (s.b &&& s.c))
  ⟨t1 + t2, s.a, s.b, s.c, s.d + t1, s.e, s.f, s.g⟩
/-- The first n rounds, with the block's words x. -/
def St.rounds (x : List (BitVec 32)) (s : St) : Nat → St
  | 0 => s
  | n + 1 => (St.rounds x s n).round (kw.getD n 0) (x.getD n 0)
def St.add (s t : St) : St := ⟨s.a + t.a, s.b + t.b, s.c + t.c, s.d + t.d, s.e + t.e, s.f + t.f, s.g + t.g, s.h + t.h⟩
/-- The eight words, once a block of bytes has come to them. -/
def St.mix (s : St) (bs : List Int) : St := s.add (s.rounds (schedTo bs 64) 64)


theorem U_add3 (x y z : BitVec 32) : (U x + U y + U z) % 4294967296 = U (x + y + z) := by
  unfold U; rw [BitVec.toNat_add, BitVec.toNat_add]; omega
theorem U_add4 (x y z t : BitVec 32) : (U x + U y + U z + U t) % 4294967296 = U (x + y + z + t) := by
  unfold U; rw [BitVec.toNat_add, BitVec.toNat_add, BitVec.toNat_add]; omega
theorem U_flip (x : BitVec 32) : bits .xor .u32 (if IntKind.u32.signed = true then -1 else IntKind.u32.max) (U x) = U (~~~x) := by
  show IntKind.u32.wrap ((BitVec.ofInt 32 4294967295 ^^^ BitVec.ofInt 32 (U x)).toNat : Int) = _
  have e : BitVec.ofInt 32 4294967295 = BitVec.allOnes 32 := by decide
  rw [U_ofInt, wrap_nat, e, BitVec.allOnes_xor]

end Go.Proofs.YtheeepjlpcoeoacDoor

/- The walk of sha.mix: it answers the eight words, once a block has come to them. -/
namespace Go.Proofs.YtheeepjlpcoeoacDoor
open Go.RowKit

/-- The table of the rounds' words lies where the program has it. -/
def Tab (w : World) : Prop := ∀ i, i < 64 → w.cell? ⟨0, i, none⟩ = some (.int .u32 (U (kw.getD i 0)))

theorem range_new (w : World) (t : TypeId) (cs : List Value) : (w.alloc (.cells cs.toArray t)).rangeAt w.heap.size 0 cs := fun j v hv => by
  have hj := (List.getElem?_eq_some_iff.1 hv).1
  rw [Nat.zero_add, new_cell _ _ _ _ (by simpa using hj), ← hv, List.getElem?_eq_getElem hj]
  simp

/-- What holds in mix's world from its loop on: B is the block of the eight words, N that of the sixty-four. -/
def Mx (s : St) (x : List (BitVec 32)) (B N : Nat) (w wr : World) : Prop :=
  (wr.cell? ⟨B, 0, none⟩ = some (.int .u32 (U s.a)) ∧ wr.cell? ⟨B, 1, none⟩ = some (.int .u32 (U s.b)) ∧ wr.cell? ⟨B, 2, none⟩ = some (.int .u32 (U s.c)) ∧ wr.cell? ⟨B, 3, none⟩ = some (.int .u32 (U s.d)) ∧
    wr.cell? ⟨B, 4, none⟩ = some (.int .u32 (U s.e)) ∧ wr.cell? ⟨B, 5, none⟩ = some (.int .u32 (U s.f)) ∧ wr.cell? ⟨B, 6, none⟩ = some (.int .u32 (U s.g)) ∧ wr.cell? ⟨B, 7, none⟩ = some (.int .u32 (U s.h))) ∧
  (∀ j, j < 64 → wr.cell? ⟨N, j, none⟩ = some (.int .u32 (U (x.getD j 0)))) ∧ Tab wr ∧ wr.there (B + 1 + 1) 0 8 ∧ Below B w wr

theorem Mx.drewN {s : St} {x : List (BitVec 32)} {B N : Nat} {w wr : World} (h : Mx s x B N w wr) (n : Nat) : Mx s x B N w (wr.drewN n) := by
  obtain ⟨h1, h2, h3, h4, h5⟩ := h
  exact ⟨h1, h2, h3, h4, below_drewN h5 n⟩

theorem mx_start (s : St) (x : List (BitVec 32)) (hx : x.length = 64) (w w1 : World) (A8 A64 Z8 : Array Value) (t1 t2 t3 t4 : TypeId) (Z64 : Array Value) (hz : Z64.size = 64)
    (hA : A8 = #[.int .u32 (U s.a), .int .u32 (U s.b), .int .u32 (U s.c), .int .u32 (U s.d), .int .u32 (U s.e), .int .u32 (U s.f), .int .u32 (U s.g), .int .u32 (U s.h)]) (hz8 : Z8.size = 8)
    (hK : Tab w) (h0 : 0 < w.heap.size) (n : Nat) (hn : n = w.heap.size + 1 + 1 + 1)
    (hb : Below n (((w.alloc (.cells A8 t1)).alloc (.cells A64 t2)).alloc (.cells Z8 t3)) w1) :
    Mx s x w.heap.size w1.heap.size w ((w1.alloc (.cells Z64 t4)).setCells w1.heap.size 0 (x.map fun y => Value.int .u32 (U y))) ∧ w.heap.size + 1 + 1 < w1.heap.size ∧
      (w1.alloc (.cells Z64 t4)).there w1.heap.size 0 64 := by
  have hs := hb.size
  have s1 : (w.alloc (.cells A8 t1)).heap.size = w.heap.size + 1 := by simp
  have s2 : ((w.alloc (.cells A8 t1)).alloc (.cells A64 t2)).heap.size = w.heap.size + 1 + 1 := by simp
  have s3 : (((w.alloc (.cells A8 t1)).alloc (.cells A64 t2)).alloc (.cells Z8 t3)).heap.size = w.heap.size + 1 + 1 + 1 := by simp
  have hth := there_new w1 t4 Z64 64 hz
  have hbW : Below w.heap.size w (((w.alloc (.cells A8 t1)).alloc (.cells A64 t2)).alloc (.cells Z8 t3)) := (((Below.refl _ _).alloc (Nat.le_refl _) _).alloc (by simp) _).alloc (by simp; omega) _
  have hb1 : Below w.heap.size w w1 := hbW.trans (hb.mono (by omega))
  have hb2 : Below w.heap.size w ((w1.alloc (.cells Z64 t4)).setCells w1.heap.size 0 (x.map fun y => Value.int .u32 (U y))) :=
    below_setCells _ (by omega) _ _ _ (hb1.alloc (by omega) _)
  have far : ∀ b j, b < w1.heap.size → ((w1.alloc (.cells Z64 t4)).setCells w1.heap.size 0 (x.map fun y => Value.int .u32 (U y))).cell? ⟨b, j, none⟩ = w1.cell? ⟨b, j, none⟩ := fun b j hlt => by
    rw [World.cell?_setCells_out _ _ _ _ _ (fun e _ => by simp at e; omega), old_cell _ _ _ _ hlt]
  have words : ∀ j v, A8[j]? = some v → ((w1.alloc (.cells Z64 t4)).setCells w1.heap.size 0 (x.map fun y => Value.int .u32 (U y))).cell? ⟨w.heap.size, j, none⟩ = some v := fun j v hv => by
    rw [far _ _ (by omega), hb.cell (p := ⟨w.heap.size, j, none⟩) (by show w.heap.size < n; omega), old_cell _ _ _ _ (by omega), old_cell _ _ _ _ (by omega)]
    have hj := (Array.getElem?_eq_some_iff.1 hv).1
    rw [new_cell _ _ _ _ hj, ← hv, Array.getElem?_eq_getElem hj]
  refine ⟨⟨?_, fun j hj => ?_, fun i hi => ?_, ?_, hb2⟩, by omega, hth⟩
  · subst hA
    exact ⟨words 0 _ rfl, words 1 _ rfl, words 2 _ rfl, words 3 _ rfl, words 4 _ rfl, words 5 _ rfl, words 6 _ rfl, words 7 _ rfl⟩
  · have := World.cell?_setCells_in w1.heap.size (x.map fun y => Value.int .u32 (U y)) 0 (w1.alloc (.cells Z64 t4)) (fun j hj => (hth j (by simpa [hx] using hj)).1) j (by simpa [hx] using hj)
    rw [Nat.zero_add] at this
    rw [this]
    simp [hx, hj]
  · rw [hb2.cell (p := ⟨0, i, none⟩) h0]
    exact hK i hi
  · refine World.there_setCells (World.there_alloc ?_ _) _ _ _
    intro j hj
    have := there_new ((w.alloc (.cells A8 t1)).alloc (.cells A64 t2)) t3 Z8 8 hz8 j hj
    rw [s2] at this
    rw [hb.cell (p := ⟨w.heap.size + 1 + 1, 0 + j, none⟩) (by show w.heap.size + 1 + 1 < n; omega), hb.frozen (p := ⟨w.heap.size + 1 + 1, 0 + j, none⟩) (by show w.heap.size + 1 + 1 < n; omega)]
    exact this

theorem cast_world {P : Program} {c : Code} {Q : Exit → Act → World → Prop} {a : Act} {w w2 : World} (h : w2 = w) (h2 : c.wp P Q a w2) : c.wp P Q a w := by rw [← h]; exact h2

set_option maxRecDepth 100000 in
set_option maxHeartbeats 1000000 in
theorem mix_any (s : St) (bs : List Int) (w : World) (hC : bs.length = 64) (hb : ∀ j, 0 ≤ bs.getD j 0 ∧ bs.getD j 0 < 256) (hK : Tab w) (h0 : 0 < w.heap.size) :
    Calls Tryd.prog 56 #[.agg #[.int .u32 (U s.a), .int .u32 (U s.b), .int .u32 (U s.c), .int .u32 (U s.d), .int .u32 (U s.e), .int .u32 (U s.f), .int .u32 (U s.g), .int .u32 (U s.h)], .agg (bs.map (Value.int .u8)).toArray] w
      fun e w' => e = .returned (.agg #[.int .u32 (U (s.mix bs).a), .int .u32 (U (s.mix bs).b), .int .u32 (U (s.mix bs).c), .int .u32 (U (s.mix bs).d), .int .u32 (U (s.mix bs).e), .int .u32 (U (s.mix bs).f), .int .u32 (U (s.mix bs).g), .int .u32 (U (s.mix bs).h)]) ∧ Below w.heap.size w w' := by
  have hr : ∀ o1 : Obj, ∀ t : TypeId, ∀ A8 : Array Value, (((w.alloc (.cells A8 t)).alloc (.cells (bs.map (Value.int .u8)).toArray 73)).alloc o1).rangeAt (w.heap.size + 1) 0 (bs.map (Value.int .u8)) := fun o1 t A8 => by
    refine World.rangeAt_alloc ?_ _
    have := range_new (w.alloc (.cells A8 t)) 73 (bs.map (Value.int .u8))
    simpa using this
  have hi : (Tryd.prog.info? 73).map (·.size) = some (bs.map (Value.int .u8)).length := by rw [List.length_map, hC]; kernel_rfl
  go_enter Tryd.func56, Tryd.ntmps56
  go_wp2_with (refine wpList_load_mid rfl 73 (.tmp 3) rfl (w.heap.size + 1) 0 rfl (bs.map (Value.int .u8)) _ ?_ Tryd.underlying73 rfl hi ?_; exact hr _ _ _)
  refine (spread_any bs _ hC hb).mono ?_
  rintro e w1 ⟨rfl, hb1⟩
  have hx := schedTo_length bs 64
  have hms := mx_start s (schedTo bs 64) hx w w1
  have hi2 : (Tryd.prog.info? 90).map (·.size) = some ((schedTo bs 64).map fun x => Value.int .u32 (U x)).toArray.size := by simp only [List.size_toArray, List.length_map, hx]; kernel_rfl
  have hone : ((schedTo bs 64).map fun x => Value.int .u32 (U x)).toArray.all (·.oneCell') = true := all_oneCell_toArray (by
    intro v hv
    obtain ⟨x, -, rfl⟩ := List.mem_map.1 hv
    rfl)
  have hsz : ((schedTo bs 64).map fun x => Value.int .u32 (U x)).toArray.size = 64 := by simp only [List.size_toArray, List.length_map, hx]
  go_wp2_with (refine wpList_store_mid rfl 90 (.tmp 5) (.tmp 18) rfl w1.heap.size 0 _ rfl rfl ?_ hi2 hone ?_; (rw [hsz]; exact there_new _ _ _ 64 rfl))
  obtain ⟨hM, hN, -⟩ := hms _ _ _ _ _ _ 90 (Array.replicate 64 (Value.int .u32 0)) rfl rfl rfl hK h0 _ (by simp) hb1
  obtain ⟨w2, hw2⟩ : ∃ w2, w2 = (w1.alloc (.cells (Array.replicate 64 (Value.int .u32 0)) 90)).setCells w1.heap.size 0 ((schedTo bs 64).map fun x => Value.int .u32 (U x)) := ⟨_, rfl⟩
  rw [← hw2] at hM
  generalize w1.heap.size = N at *
  refine cast_world (w2 := w2) hw2 ?_
  clear hw2 hms hb1 hr hi hi2 hone hsz hK hb hC
  have HM := hM
  obtain ⟨⟨p0, p1, p2, p3, p4, p5, p6, p7⟩, -, -, -, -⟩ := hM
  go_quiet (fail)
  go_wp2
  go_quiet (fail)
  go_wp2
  go_loopw [6, 7, 8, 9, 10, 11, 12, 13, 35] (fun a b c d e f g h i wr => ∃ (k : Nat) (r : St), k ≤ 64 ∧ Hid (r = s.rounds (schedTo bs 64) k) ∧ i = .int .i64 k ∧ a = .int .u32 (U r.a) ∧ b = .int .u32 (U r.b) ∧ c = .int .u32 (U r.c) ∧ d = .int .u32 (U r.d) ∧
      e = .int .u32 (U r.e) ∧ f = .int .u32 (U r.f) ∧ g = .int .u32 (U r.g) ∧ h = .int .u32 (U r.h) ∧ Mx s (schedTo bs 64) w.heap.size N w wr) (fun _ _ _ _ _ _ _ _ i _ => 64 - (intOf i).toNat)
  case atStart => exact ⟨0, s, by omega, rfl, rfl, rfl, rfl, rfl, rfl, rfl, rfl, rfl, rfl, (HM.drewN _).drewN _⟩
  case round =>
    obtain ⟨k, r, hk, HR, rfl, rfl, rfl, rfl, rfl, rfl, rfl, rfl, rfl, hM⟩ := hrel
    clear HM p0 p1 p2 p3 p4 p5 p6 p7
    by_cases hlt : k < 64
    · have hx1 := hM.2.1 k hlt
      have hk1 := hM.2.2.1 k hlt
      have HN : Hid (r.round (kw.getD k 0) ((schedTo bs 64).getD k 0) = s.rounds (schedTo bs 64) (k + 1)) := by rw [HR.out]; rfl
      generalize kw.getD k 0 = kv at *
      generalize (schedTo bs 64).getD k 0 = xv at *
      clear HR hx
      have i1 : (k : Int) < 64 := by omega
      have i2 : (0 : Int) ≤ (k : Int) := by omega
      have u0 := U_wadd
      have u1 := U_add
      have u2 := U_and
      have u3 := U_xor
      have u4 := U_add3
      have u5 := U_add4
      have u6 := U_flip
      go_wp2
      go_quiet ((go_at_call 63; exact Calls.quiet_of_same (sum1_any _ _)))
      go_wp2_with (go_at_call 64; refine (sum0_any _ _).mono ?_; rintro e w' ⟨rfl, rfl⟩)
      go_roundw
      case rel =>
        clear u0 u1 u2 u3 u4 u5 u6
        exact ⟨k + 1, r.round kv xv, by omega, HN, by go_num, rfl, rfl, rfl, rfl, rfl, rfl, rfl, rfl, hM.drewN _⟩
      case measure => simp [intOf]; omega
    · obtain rfl : k = 64 := by omega
      clear hlt hk
      obtain ⟨⟨p0, p1, p2, p3, p4, p5, p6, p7⟩, -, -, hT, hB⟩ := hM
      have u0 := U_wadd
      have u1 := U_add
      have hi8 : (Tryd.prog.info? 72).map (·.size) = some 8 := by kernel_rfl
      have HF : Hid (s.add r = s.mix bs) := by rw [HR.out]; rfl
      clear HR hx
      have hr8 := World.rangeAt_setCells_same wr (w.heap.size + 1 + 1) 0 [.int .u32 (U (s.a + r.a)), .int .u32 (U (s.b + r.b)), .int .u32 (U (s.c + r.c)), .int .u32 (U (s.d + r.d)), .int .u32 (U (s.e + r.e)), .int .u32 (U (s.f + r.f)), .int .u32 (U (s.g + r.g)), .int .u32 (U (s.h + r.h))] hT
      have hb8 := below_setCells (w.heap.size + 1 + 1) (by omega) [.int .u32 (U (s.a + r.a)), .int .u32 (U (s.b + r.b)), .int .u32 (U (s.c + r.c)), .int .u32 (U (s.d + r.d)), .int .u32 (U (s.e + r.e)), .int .u32 (U (s.f + r.f)), .int .u32 (U (s.g + r.g)), .int .u32 (U (s.h + r.h))] 0 wr hB
      obtain ⟨v0, q0⟩ := Option.isSome_iff_exists.1 (hT 0 (by omega)).1
      have f0 := (hT 0 (by omega)).2
      rw [Nat.zero_add] at q0 f0
      obtain ⟨v1, q1⟩ := Option.isSome_iff_exists.1 (hT 1 (by omega)).1
      have f1 := (hT 1 (by omega)).2
      rw [Nat.zero_add] at q1 f1
      obtain ⟨v2, q2⟩ := Option.isSome_iff_exists.1 (hT 2 (by omega)).1
      have f2 := (hT 2 (by omega)).2
      rw [Nat.zero_add] at q2 f2
      obtain ⟨v3, q3⟩ := Option.isSome_iff_exists.1 (hT 3 (by omega)).1
      have f3 := (hT 3 (by omega)).2
      rw [Nat.zero_add] at q3 f3
      obtain ⟨v4, q4⟩ := Option.isSome_iff_exists.1 (hT 4 (by omega)).1
      have f4 := (hT 4 (by omega)).2
      rw [Nat.zero_add] at q4 f4
      obtain ⟨v5, q5⟩ := Option.isSome_iff_exists.1 (hT 5 (by omega)).1
      have f5 := (hT 5 (by omega)).2
      rw [Nat.zero_add] at q5 f5
      obtain ⟨v6, q6⟩ := Option.isSome_iff_exists.1 (hT 6 (by omega)).1
      have f6 := (hT 6 (by omega)).2
      rw [Nat.zero_add] at q6 f6
      obtain ⟨v7, q7⟩ := Option.isSome_iff_exists.1 (hT 7 (by omega)).1
      have f7 := (hT 7 (by omega)).2
      rw [Nat.zero_add] at q7 f7
      clear hT hB
      go_wp2_with fail
      refine bodyPost_ret (results_cell1 Tryd.results56 _ _ _ (w.heap.size + 1 + 1) 0 rfl [.int .u32 (U (s.a + r.a)), .int .u32 (U (s.b + r.b)), .int .u32 (U (s.c + r.c)), .int .u32 (U (s.d + r.d)), .int .u32 (U (s.e + r.e)), .int .u32 (U (s.f + r.f)), .int .u32 (U (s.g + r.g)), .int .u32 (U (s.h + r.h))] _ hr8 Tryd.underlying72 rfl hi8) rfl ⟨?_, hb8⟩
      rw [← HF.out]
      rfl

end Go.Proofs.YtheeepjlpcoeoacDoor
