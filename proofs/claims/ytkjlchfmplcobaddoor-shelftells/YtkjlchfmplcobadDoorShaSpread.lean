/- The walk of sha.spread: it answers the sixty-four words of a block. -/
import Derived.Test.YtkjlchfmplcobadDoorProg
import Derived.Test.YtkjlchfmplcobadDoorShaBits
import Derived.Test.YtkjlchfmplcobadDoorShaLaws
import Derived.WalkKit
import Derived.WalkSpells
import Derived.WalkLawsBesides
import Derived.Deep.RegionHeld3
import Derived.BigRegion
namespace Go.Proofs.YtkjlchfmplcobadDoor
open Go.RowKit

/-- What holds behind k words, in the world wr: B is the block of the bytes, two behind it that of the words. -/
def Sp (bs : List Int) (B : Nat) (w wr : World) (k : Nat) : Prop :=
  (∀ j, j < 64 → wr.cell? ⟨B, j, none⟩ = some (.int .u8 (bs.getD j 0))) ∧
  (∀ j, j < 64 → wr.cell? ⟨B + 1 + 1, j, none⟩ = some (.int .u32 (U ((schedTo bs k).getD j 0))) ∧ wr.frozen? ⟨B + 1 + 1, j, none⟩ = false) ∧
  wr.there (B + 1) 0 64 ∧ wr.heap.size = B + 3 ∧ Below B w wr

theorem Sp.store {bs : List Int} {B : Nat} {w wr : World} {k : Nat} (h : Sp bs B w wr k) (hk : k < 64) {x : Int} (hx : x = U (nextW bs (schedTo bs k) k)) :
    Sp bs B w ((wr.setCell ⟨B + 1 + 1, k, none⟩ (.int .u32 x)).drew) (k + 1) := by
  obtain ⟨h1, h2, h3, h4, h5⟩ := h
  subst hx
  refine ⟨fun j hj => ?_, fun j hj => ⟨?_, ?_⟩, ?_, ?_, ?_⟩
  · show (wr.setCell ⟨B + 1 + 1, k, none⟩ _).cell? _ = _
    rw [World.cell?_setCell_other _ _ _ _ (by intro e; injection e; omega)]
    exact h1 j hj
  · show (wr.setCell ⟨B + 1 + 1, k, none⟩ _).cell? _ = _
    by_cases e : j = k
    · subst e
      rw [World.cell?_setCell_same _ _ _ (h2 j hj).1, schedTo_last]
    · rw [World.cell?_setCell_other _ _ _ _ (by intro e'; injection e'; omega), schedTo_other _ _ _ e]
      exact (h2 j hj).1
  · show (wr.setCell ⟨B + 1 + 1, k, none⟩ _).frozen? _ = _
    rw [World.frozen?_setCell]
    exact (h2 j hj).2
  · rw [World.there_drew]
    exact World.there_setCells h3 (B + 1 + 1) k [_]
  · simpa using h4
  · exact (h5.setCell (by show B ≤ B + 1 + 1; omega) _).drew

theorem sp_start (bs : List Int) (w : World) (hC : bs.length = 64) (t1 t2 : TypeId) (Z : Array Value) (hZ : Z = Array.replicate 64 (Value.int .u32 0)) :
    Sp bs w.heap.size w (((w.alloc (.cells (bs.map (Value.int .u8)).toArray t1)).alloc (.cells Z t2)).alloc (.cells Z t2)) 0 := by
  have s1 : (w.alloc (.cells (bs.map (Value.int .u8)).toArray t1)).heap.size = w.heap.size + 1 := by simp
  have s2 : ((w.alloc (.cells (bs.map (Value.int .u8)).toArray t1)).alloc (.cells Z t2)).heap.size = w.heap.size + 1 + 1 := by simp
  have hzs : Z.size = 64 := by rw [hZ, Array.size_replicate]
  refine ⟨fun j hj => ?_, fun j hj => ⟨?_, ?_⟩, ?_, ?_, ?_⟩
  · rw [old_cell _ _ _ _ (by omega), old_cell _ _ _ _ (by omega), new_cell _ _ _ _ (by simp; omega)]
    simp [hC, hj]
  · have := new_cell ((w.alloc (.cells (bs.map (Value.int .u8)).toArray t1)).alloc (.cells Z t2)) t2 Z j (by omega)
    rw [s2] at this
    rw [this]
    subst hZ
    rw [Array.getElem_replicate]
    rfl
  · have := (there_new ((w.alloc (.cells (bs.map (Value.int .u8)).toArray t1)).alloc (.cells Z t2)) t2 Z 64 hzs j hj).2
    rw [s2, Nat.zero_add] at this
    exact this
  · have := there_new (w.alloc (.cells (bs.map (Value.int .u8)).toArray t1)) t2 Z 64 hzs
    rw [s1] at this
    exact World.there_alloc this _
  · simp
  · exact (((Below.refl _ _).alloc (Nat.le_refl _) _).alloc (by simp) _).alloc (by simp; omega) _

set_option maxRecDepth 100000 in
set_option maxHeartbeats 1000000 in
theorem spread_any (bs : List Int) (w : World) (hC : bs.length = 64) (hb : ∀ j, 0 ≤ bs.getD j 0 ∧ bs.getD j 0 < 256) :
    Calls Tryd.prog 93 #[.agg (bs.map (Value.int .u8)).toArray] w fun e w' => e = .returned (.agg ((schedTo bs 64).map fun x => Value.int .u32 (U x)).toArray) ∧ Below w.heap.size w w' := by
  have hst := sp_start bs w hC
  go_enter Tryd.func93, Tryd.ntmps93
  go_wp2
  go_loopw [6] (fun i wr => ∃ k : Nat, k ≤ 16 ∧ i = .int .i64 k ∧ Sp bs w.heap.size w wr k) (fun i _ => 16 - (intOf i).toNat)
  case atStart => exact ⟨0, by omega, rfl, hst _ _ _ rfl⟩
  case round =>
    clear hst
    obtain ⟨k, hk, rfl, hS⟩ := hrel
    by_cases hlt : k < 16
    · have hn : ∀ x : Int, x = U (word (bs.getD (4 * k) 0) (bs.getD (4 * k + 1) 0) (bs.getD (4 * k + 2) 0) (bs.getD (4 * k + 3) 0)) → Sp bs w.heap.size w ((wr.setCell ⟨w.heap.size + 1 + 1, k, none⟩ (.int .u32 x)).drew) (k + 1) := fun x hx =>
        hS.store (by omega) (by rw [hx, nextW, if_pos hlt])
      obtain ⟨hB, hW, -, -, -⟩ := hS
      have c0 := hB (4 * k) (by omega)
      have c1 := hB (4 * k + 1) (by omega)
      have c2 := hB (4 * k + 2) (by omega)
      have c3 := hB (4 * k + 3) (by omega)
      have d := hW k (by omega)
      obtain ⟨d1, d2⟩ := d
      have b0 := hb (4 * k)
      have b1 := hb (4 * k + 1)
      have b2 := hb (4 * k + 2)
      have b3 := hb (4 * k + 3)
      clear hB hW hb
      generalize bs.getD (4 * k) 0 = z0 at *
      generalize bs.getD (4 * k + 1) 0 = z1 at *
      generalize bs.getD (4 * k + 2) 0 = z2 at *
      generalize bs.getD (4 * k + 3) 0 = z3 at *
      obtain ⟨b01, b02⟩ := b0
      obtain ⟨b11, b12⟩ := b1
      obtain ⟨b21, b22⟩ := b2
      obtain ⟨b31, b32⟩ := b3
      have hword := word_spelt z0 z1 z2 z3 b01 b02 b11 b12 b21 b22 b31 b32
      have hfin := hn _ rfl
      clear hn
      have hne : ¬ (w.heap.size + 1 + 1 = w.heap.size) := by omega
      have i0 : (0 : Int) ≤ 4 * (k : Int) := by omega
      have i1 : 4 * (k : Int) < 64 := by omega
      have i2 : 4 * (k : Int) + 1 < 64 := by omega
      have i3 : 4 * (k : Int) + 2 < 64 := by omega
      have i4 : 4 * (k : Int) + 3 < 64 := by omega
      have j1 : (0 : Int) ≤ 4 * (k : Int) + 1 := by omega
      have j2 : (0 : Int) ≤ 4 * (k : Int) + 2 := by omega
      have j3 : (0 : Int) ≤ 4 * (k : Int) + 3 := by omega
      have w0 : IntKind.i64.wrap (4 * (k : Int)) = 4 * (k : Int) := by rw [IntKind.wrap_i64]; omega
      have w1 : IntKind.i64.wrap (4 * (k : Int) + 1) = 4 * (k : Int) + 1 := by rw [IntKind.wrap_i64]; omega
      have w2 : IntKind.i64.wrap (4 * (k : Int) + 2) = 4 * (k : Int) + 2 := by rw [IntKind.wrap_i64]; omega
      have w3 : IntKind.i64.wrap (4 * (k : Int) + 3) = 4 * (k : Int) + 3 := by rw [IntKind.wrap_i64]; omega
      have i5 : (k : Int) < 64 := by omega
      have i6 : (0 : Int) ≤ (k : Int) := by omega
      have t0 : (4 * (k : Int)).toNat = 4 * k := by omega
      have t1 : (4 * (k : Int) + 1).toNat = 4 * k + 1 := by omega
      have t2 : (4 * (k : Int) + 2).toNat = 4 * k + 2 := by omega
      have t3 : (4 * (k : Int) + 3).toNat = 4 * k + 3 := by omega
      go_wp2
      go_region_held3 (fun w' => w'.cell? ⟨w.heap.size, 4 * k, none⟩ = some (.int .u8 z0) ∧ w'.cell? ⟨w.heap.size, 4 * k + 1, none⟩ = some (.int .u8 z1) ∧ w'.cell? ⟨w.heap.size, 4 * k + 2, none⟩ = some (.int .u8 z2) ∧ w'.cell? ⟨w.heap.size, 4 * k + 3, none⟩ = some (.int .u8 z3)) (go_keep) (fail)
      go_wp2
      go_roundw
      case rel => exact ⟨k + 1, by omega, by go_num, hfin⟩
      case measure => simp [intOf]; omega
    · obtain rfl : k = 16 := by omega
      clear hlt hk
      go_wp2
      go_loopw [5] (fun i wr => ∃ k : Nat, 16 ≤ k ∧ k ≤ 64 ∧ i = .int .i64 k ∧ Sp bs w.heap.size w wr k) (fun i _ => 64 - (intOf i).toNat)
      case atStart => exact ⟨16, by omega, by omega, rfl, hS⟩
      case round =>
        obtain ⟨k, hk1, hk, rfl, hS⟩ := hrel
        by_cases hlt : k < 64
        · have hfin := hS.store (by omega) (x := U (ps1 ((schedTo bs k).getD (k - 2) 0) + (schedTo bs k).getD (k - 7) 0 + ps0 ((schedTo bs k).getD (k - 15) 0) + (schedTo bs k).getD (k - 16) 0)) (by rw [nextW, if_neg (by omega)])
          obtain ⟨-, hW, -, -, -⟩ := hS
          have c0 := (hW (k - 2) (by omega)).1
          have c1 := (hW (k - 7) (by omega)).1
          have c2 := (hW (k - 15) (by omega)).1
          have c3 := (hW (k - 16) (by omega)).1
          have d := hW k (by omega)
          obtain ⟨d1, d2⟩ := d
          clear hW hb
          generalize (schedTo bs k).getD (k - 2) 0 = z0 at *
          generalize (schedTo bs k).getD (k - 7) 0 = z1 at *
          generalize (schedTo bs k).getD (k - 15) 0 = z2 at *
          generalize (schedTo bs k).getD (k - 16) 0 = z3 at *
          have n0 : ¬ (k = k - 2) := by omega
          have n1 : ¬ (k = k - 7) := by omega
          have n2 : ¬ (k = k - 15) := by omega
          have n3 : ¬ (k = k - 16) := by omega
          have i1 : (k : Int) - 2 < 64 := by omega
          have i2 : (k : Int) - 7 < 64 := by omega
          have i3 : (k : Int) - 15 < 64 := by omega
          have i4 : (k : Int) - 16 < 64 := by omega
          have j1 : (0 : Int) ≤ (k : Int) - 2 := by omega
          have j2 : (0 : Int) ≤ (k : Int) - 7 := by omega
          have j3 : (0 : Int) ≤ (k : Int) - 15 := by omega
          have j4 : (0 : Int) ≤ (k : Int) - 16 := by omega
          have l1 : (2 : Int) ≤ (k : Int) := by omega
          have l2 : (7 : Int) ≤ (k : Int) := by omega
          have l3 : (15 : Int) ≤ (k : Int) := by omega
          have l4 : (16 : Int) ≤ (k : Int) := by omega
          have w0 : IntKind.i64.wrap ((k : Int) - 2) = (k : Int) - 2 := by rw [IntKind.wrap_i64]; omega
          have w1 : IntKind.i64.wrap ((k : Int) - 7) = (k : Int) - 7 := by rw [IntKind.wrap_i64]; omega
          have w2 : IntKind.i64.wrap ((k : Int) - 15) = (k : Int) - 15 := by rw [IntKind.wrap_i64]; omega
          have w3 : IntKind.i64.wrap ((k : Int) - 16) = (k : Int) - 16 := by rw [IntKind.wrap_i64]; omega
          have i5 : (k : Int) < 64 := by omega
          have i6 : (0 : Int) ≤ (k : Int) := by omega
          have t0 : ((k : Int) - 2).toNat = k - 2 := by omega
          have t1 : ((k : Int) - 7).toNat = k - 7 := by omega
          have t2 : ((k : Int) - 15).toNat = k - 15 := by omega
          have t3 : ((k : Int) - 16).toNat = k - 16 := by omega
          have u0 := U_wadd
          go_wp2
          go_region_held3 (fun w' => w'.cell? ⟨w.heap.size + 1 + 1, k - 2, none⟩ = some (.int .u32 (U z0)) ∧ w'.cell? ⟨w.heap.size + 1 + 1, k - 7, none⟩ = some (.int .u32 (U z1)) ∧ w'.cell? ⟨w.heap.size + 1 + 1, k - 15, none⟩ = some (.int .u32 (U z2)) ∧ w'.cell? ⟨w.heap.size + 1 + 1, k - 16, none⟩ = some (.int .u32 (U z3))) (first | (go_keep; done) | exact ⟨cell_off (by omega) c0, cell_off (by omega) c1, cell_off (by omega) c2, cell_off (by omega) c3⟩)
            (first | (go_at_call 107; refine (part1_any _ _).mono ?_; rintro e w' ⟨rfl, rfl⟩) | (go_at_call 108; refine (part0_any _ _).mono ?_; rintro e w' ⟨rfl, rfl⟩))
          go_wp2
          go_roundw
          case rel => first | exact ⟨k + 1, by omega, by omega, by go_num, hfin⟩ | ((repeat apply Exists.intro); exact ⟨⟨k + 1, by omega, by omega, by go_num, hfin⟩, rfl⟩)
          case measure => simp [intOf]; omega
        · obtain rfl : k = 64 := by omega
          clear hlt hk hk1
          have hl := schedTo_length bs 64
          obtain ⟨-, hW, hT, hz, hnx⟩ := hS
          have hr : wr.rangeAt (w.heap.size + 1 + 1) 0 ((schedTo bs 64).map fun x => Value.int .u32 (U x)) := fun j v hv => by
            have hj : j < 64 := by have := (List.getElem?_eq_some_iff.1 hv).1; simp [hl] at this; exact this
            rw [Nat.zero_add, (hW j hj).1]
            rw [List.getElem?_map, List.getElem?_eq_getElem (by omega)] at hv
            rw [List.getD_eq_getElem?_getD, List.getElem?_eq_getElem (by omega)]
            simpa using hv
          have hlen : ((schedTo bs 64).map fun x => Value.int .u32 (U x)).length = 64 := by simp [hl]
          have hone : ∀ v ∈ ((schedTo bs 64).map fun x => Value.int .u32 (U x)), v.oneCell' = true := by
            intro v hv
            obtain ⟨x, -, rfl⟩ := List.mem_map.1 hv
            rfl
          have hi : (Tryd.prog.info? 131).map (·.size) = some ((schedTo bs 64).map fun x => Value.int .u32 (U x)).length := by rw [hlen]; kernel_rfl
          obtain ⟨D, hD⟩ : ∃ D, ((schedTo bs 64).map fun x => Value.int .u32 (U x)) = D := ⟨_, rfl⟩
          have HD : Hid (((schedTo bs 64).map fun x => Value.int .u32 (U x)) = D) := hD
          rw [hD] at hr hlen hone hi
          clear hD
          have hr2 : (wr.setCells (w.heap.size + 1) 0 D.toArray.toList).rangeAt (w.heap.size + 1) 0 D := World.rangeAt_setCells_same wr (w.heap.size + 1) 0 D (by rw [hlen]; exact hT)
          have hb2 : Below w.heap.size w (wr.setCells (w.heap.size + 1) 0 D.toArray.toList) := below_setCells _ (by omega) _ _ _ hnx
          have hsz : D.toArray.size = 64 := by simpa using hlen
          have hi' : (Tryd.prog.info? 131).map (·.size) = some D.toArray.size := by rw [hi]; simp
          have hT' : wr.there (w.heap.size + 1) 0 D.toArray.size := by rw [hsz]; exact hT
          clear hW hz hnx hl hlen hT hb hsz
          go_wp2_with (first | (refine wpList_load_mid rfl 131 (.tmp 3) rfl (w.heap.size + 1 + 1) 0 rfl D _ hr Tryd.underlying131 rfl hi ?_) | (refine wpList_store_mid rfl 131 (.tmp 2) (.tmp 68) rfl (w.heap.size + 1) 0 D.toArray rfl rfl hT' hi' (all_oneCell_toArray hone) ?_))
          refine bodyPost_ret (results_cell1 Tryd.results93 _ _ _ (w.heap.size + 1) 0 rfl D _ hr2 Tryd.underlying131 rfl hi) rfl ⟨by rw [HD.out], hb2⟩

end Go.Proofs.YtkjlchfmplcobadDoor
