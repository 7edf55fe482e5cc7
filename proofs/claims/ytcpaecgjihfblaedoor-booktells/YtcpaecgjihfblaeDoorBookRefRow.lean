/- The walk of yearref5.Row. -/
import Derived.Test.YtcpaecgjihfblaeDoorProg
import Derived.Test.YtcpaecgjihfblaeDoorBookRefRec
import Derived.Test.YtcpaecgjihfblaeDoorRunAC
import Derived.WalkKit
import Derived.WalkSpells
import Derived.WalkLawsBesides
import Derived.Deep.RegionHeld3
import Derived.BigRegion
namespace Go.Proofs.YtcpaecgjihfblaeDoor
open Go.RowKit

theorem three_new (w : World) (u v x : Value) (t : TypeId) : ∀ (j : Nat) (y : Value), [u, v, x][j]? = some y → (w.alloc (.cells #[u, v, x] t)).cell? ((⟨w.heap.size, 0, none⟩ : Addr).add j) = some y := fun j y hj => by
  have hadd : (⟨w.heap.size, 0, none⟩ : Addr).add j = ⟨w.heap.size, 0 + j, none⟩ := Addr.add_mid _ _ _
  rw [hadd, Nat.zero_add]
  match j, hj with
  | 0, hj => rw [new_cell w t _ 0 (by simp)]; simpa using hj
  | 1, hj => rw [new_cell w t _ 1 (by simp)]; simpa using hj
  | 2, hj => rw [new_cell w t _ 2 (by simp)]; simpa using hj
  | j + 3, hj => simp at hj
theorem bytesAt_news {w : World} {ad : Addr} {n c : Nat} {zs : List Int} (h : BytesAt w (.slice (some ad) n c) zs) : ∀ j u, (zs.map (Value.int .u8))[j]? = some u → w.cell? (ad.add j) = some u := by
  obtain ⟨-, h | ⟨a, e, h⟩⟩ := h.src
  · cases h.1
  · cases e; exact h
set_option maxRecDepth 100000 in
set_option maxHeartbeats 4000000 in
theorem refRow_any (r : Rec) (v : Value) (w : World) (hv : RecV w v r) (hw : wrongRec r = 0) :
    Calls Tryd.prog 14 #[v] w fun e w' => ∃ xa xc, e = .returned (.slice xa 40 xc) ∧ w'.ownsRow w.heap.size 5 1 (.slice xa 40 xc) 40 ((rowL r).map (Value.int .u8)) ∧ Below w.heap.size w w' := by
  obtain ⟨i0, hi0, hz0, hz1, hz2⟩ := info_parts Tryd.info5b
  obtain ⟨ra, rc, rfl, hr⟩ := hv
  obtain ⟨h1, h2, h3, h4, h5, h6, h7, h8⟩ := wrongRec_ok hw
  obtain ⟨s, f, t, z, root⟩ := r
  dsimp only at hr h1 h2 h3 h4 h5 h6 h7 h8 ⊢
  rw [h8] at hr ⊢
  have hro := hr.at'
  obtain ⟨g, o, cR, eR⟩ := hro.some (by rw [h8]; omega)
  rw [h8] at eR
  cases eR
  have b0 : Below w.heap.size w (w.alloc (.cells #[.int .i64 s, .int .i64 f, .int .i64 t, .int .i64 z, .slice (some ⟨g, o, none⟩) 32 rc] 40)) := (Below.refl _ _).alloc (Nat.le_refl _) _
  have x0 := box_new w #[.int .i64 s, .int .i64 f, .int .i64 t, .int .i64 z, .slice (some ⟨g, o, none⟩) 32 rc] 40
  obtain ⟨s0, s1, s2, s3, s4⟩ := box_five x0
  clear hw
  go_enter Tryd.func14, Tryd.ntmps14
  go_wp2_with fail
  have hs0 : (w.alloc (.cells #[.int .i64 s, .int .i64 f, .int .i64 t, .int .i64 z, .slice (some ⟨g, o, none⟩) 32 rc] 40)).heap.size = w.heap.size + 1 := by simp
  have hlit := (World.ownsRow_lit (size := 1) (e := 5) (base := w.heap.size) (w.alloc (.cells #[.int .i64 s, .int .i64 f, .int .i64 t, .int .i64 z, .slice (some ⟨g, o, none⟩) 32 rc] 40)) #[.int .u8 s] 1 (by rw [hs0]; omega) (by unfold maxLen; omega) rfl).alloc (.cells #[.int .i64 f, .int .i64 t] 3)
  have x2 := box_old _ (.cells #[.int .i64 f, .int .i64 t] 3) (box_old _ (.cells #[.int .u8 s] 5) x0)
  have y2 := box_last (w.alloc (.cells #[.int .i64 s, .int .i64 f, .int .i64 t, .int .i64 z, .slice (some ⟨g, o, none⟩) 32 rc] 40)) (.cells #[.int .u8 s] 5) #[.int .i64 f, .int .i64 t] 3
  have b2 : Below w.heap.size w (((w.alloc (.cells #[.int .i64 s, .int .i64 f, .int .i64 t, .int .i64 z, .slice (some ⟨g, o, none⟩) 32 rc] 40)).alloc (.cells #[.int .u8 s] 5)).alloc (.cells #[.int .i64 f, .int .i64 t] 3)) := (b0.alloc (by rw [hs0]; omega) _).alloc (by simp; omega) _
  rw [hs0] at hlit y2
  generalize ((w.alloc (.cells #[.int .i64 s, .int .i64 f, .int .i64 t, .int .i64 z, .slice (some ⟨g, o, none⟩) 32 rc] 40)).alloc (.cells #[.int .u8 s] 5)).alloc (.cells #[.int .i64 f, .int .i64 t] 3) = w2 at *
  clear s0 s1 s2 s3 s4 x0 b0 hs0
  go_loopw [3, 16] (fun bv kv wr => ∃ (k : Nat) (va : Option Addr) (vc : Nat), k ≤ 2 ∧ kv = .int .i64 k ∧ bv = .slice va (1 + 3 * k) vc ∧ wr.ownsRow w.heap.size 5 1 (.slice va (1 + 3 * k) vc) (1 + 3 * k) ((s :: (threeB f ++ threeB t).take (3 * k)).map (Value.int .u8)) ∧ wr.heap[w.heap.size]? = some (.cells #[.int .i64 s, .int .i64 f, .int .i64 t, .int .i64 z, .slice (some ⟨g, o, none⟩) 32 rc] 40 (0, 0)) ∧ wr.heap[w.heap.size + 1 + 1]? = some (.cells #[.int .i64 f, .int .i64 t] 3 (0, 0)) ∧ Below w.heap.size w wr) (fun _ kv _ => 2 - (intOf kv).toNat)
  case atStart => exact ⟨0, _, _, by omega, rfl, rfl, hlit, x2, y2, b2⟩
  case round =>
    obtain ⟨wo, rfl⟩ : ∃ x, x = wr := ⟨wr, rfl⟩
    obtain ⟨k, va, vc, hk, rfl, rfl, hrow, xo, yo, hbr⟩ := hrel
    have hsr := hbr.size
    clear hlit x2 y2 b2
    obtain ⟨p0, p1, -, -⟩ := box_two yo
    rcases (show k = 0 ∨ k = 1 ∨ k = 2 by omega) with rfl | rfl | rfl
    · have hrowA := hrow.alloc (.cells #[.int .u8 (f / 65536), .int .u8 (f / 256 % 256), .int .u8 (f % 256)] 5)
      have hnew := three_new wo (.int .u8 (f / 65536)) (.int .u8 (f / 256 % 256)) (.int .u8 (f % 256)) 5
      have hone : ∀ y ∈ [Value.int .u8 (f / 65536), .int .u8 (f / 256 % 256), .int .u8 (f % 256)], y.oneCell' = true := by intro y hy; simp at hy; rcases hy with rfl | rfl | rfl <;> rfl
      have xA := box_old _ (.cells #[.int .u8 (f / 65536), .int .u8 (f / 256 % 256), .int .u8 (f % 256)] 5) xo
      have yA := box_old _ (.cells #[.int .u8 (f / 65536), .int .u8 (f / 256 % 256), .int .u8 (f % 256)] 5) yo
      have bA : Below w.heap.size w (wo.alloc (.cells #[.int .u8 (f / 65536), .int .u8 (f / 256 % 256), .int .u8 (f % 256)] 5)) := hbr.alloc hsr _
      have hsA := bA.size
      clear hrow
      go_wp2_with (at_builtin; refine wpList_append_own _ rfl (.tmp 20) (.tmp 31) 22 rfl w.heap.size 5 i0 _ 1 1 Tryd.underlying22 hi0 hz0 hz1 hz2 rfl (by decide) _ _ _ rfl hrowA _ 3 3 [.int .u8 (f / 65536), .int .u8 (f / 256 % 256), .int .u8 (f % 256)] rfl rfl hnew hone (by unfold maxLen; omega) (by omega) hsA ?_; intro v7 w7 ho7 hg7 _; obtain ⟨sa, sc, rfl⟩ := own_form' ho7)
      have b7 : Below w.heap.size w w7 := bA.grown hg7 hsA (fun _ h => own_block hrowA h)
      go_roundw
      case rel => exact ⟨1, sa, sc, by omega, rfl, rfl, ho7, grown_box hg7 hrowA xA (by decide), grown_box hg7 hrowA yA (by decide), b7⟩
      case measure => simp [intOf]
    · have hrowA := hrow.alloc (.cells #[.int .u8 (t / 65536), .int .u8 (t / 256 % 256), .int .u8 (t % 256)] 5)
      have hnew := three_new wo (.int .u8 (t / 65536)) (.int .u8 (t / 256 % 256)) (.int .u8 (t % 256)) 5
      have hone : ∀ y ∈ [Value.int .u8 (t / 65536), .int .u8 (t / 256 % 256), .int .u8 (t % 256)], y.oneCell' = true := by intro y hy; simp at hy; rcases hy with rfl | rfl | rfl <;> rfl
      have xA := box_old _ (.cells #[.int .u8 (t / 65536), .int .u8 (t / 256 % 256), .int .u8 (t % 256)] 5) xo
      have yA := box_old _ (.cells #[.int .u8 (t / 65536), .int .u8 (t / 256 % 256), .int .u8 (t % 256)] 5) yo
      have bA : Below w.heap.size w (wo.alloc (.cells #[.int .u8 (t / 65536), .int .u8 (t / 256 % 256), .int .u8 (t % 256)] 5)) := hbr.alloc hsr _
      have hsA := bA.size
      have ht0 : 0 ≤ t := by omega
      clear hrow
      go_wp2_with (at_builtin; refine wpList_append_own _ rfl (.tmp 20) (.tmp 31) 22 rfl w.heap.size 5 i0 _ 1 1 Tryd.underlying22 hi0 hz0 hz1 hz2 rfl (by decide) _ _ _ rfl hrowA _ 3 3 [.int .u8 (t / 65536), .int .u8 (t / 256 % 256), .int .u8 (t % 256)] rfl rfl hnew hone (by unfold maxLen; omega) (by omega) hsA ?_; intro v7 w7 ho7 hg7 _; obtain ⟨sa, sc, rfl⟩ := own_form' ho7)
      have b7 : Below w.heap.size w w7 := bA.grown hg7 hsA (fun _ h => own_block hrowA h)
      go_roundw
      case rel => exact ⟨2, sa, sc, by omega, rfl, rfl, ho7, grown_box hg7 hrowA xA (by decide), grown_box hg7 hrowA yA (by decide), b7⟩
      case measure => simp [intOf]
    · obtain ⟨s0, s1, s2, s3, s4⟩ := box_five xo
      have hbw := hbr
      go_wp2_with fail
      have hRow8 : (s :: (threeB f ++ threeB t).take (3 * 2)) ++ [z] ++ root = rowL ⟨s, f, t, z, root⟩ := by unfold rowL threeB; simp
      have HR8 : Hid ((s :: (threeB f ++ threeB t).take (3 * 2)) ++ [z] ++ root = rowL ⟨s, f, t, z, root⟩) := hRow8
      clear hRow8
      generalize (s :: (threeB f ++ threeB t).take (3 * 2)) = pre at *
      have HZ : Hid (IntKind.u8.wrap z = z) := by show _ = _; rw [IntKind.wrap_u8]; omega
      have hbz : Below w.heap.size w (wo.alloc (.cells #[.int .u8 (IntKind.u8.wrap z)] 5)).drew := (hbr.alloc hsr _).drew
      have hrowZ : (wo.alloc (.cells #[.int .u8 (IntKind.u8.wrap z)] 5)).drew.ownsRow w.heap.size 5 1 (.slice va 7 vc) 7 (pre.map (Value.int .u8)) := hrow.alloc (.cells #[.int .u8 (IntKind.u8.wrap z)] 5)
      have xZ : (wo.alloc (.cells #[.int .u8 (IntKind.u8.wrap z)] 5)).drew.heap[w.heap.size]? = _ := box_old _ (.cells #[.int .u8 (IntKind.u8.wrap z)] 5) xo
      have hsZ := hbz.size
      go_region_held3 (fun w' => w'.cell? ⟨w.heap.size, 3, none⟩ = some (.int .i64 z) ∧ w'.cell? ⟨w.heap.size, 4, none⟩ = some (.slice (some ⟨g, o, none⟩) 32 rc)) (first | exact ⟨s3, s4⟩ | exact ⟨q3, q4⟩ | exact ⟨q3', q4'⟩ | exact ⟨(old_cell _ _ _ _ (lt_heap xo)).trans s3, (old_cell _ _ _ _ (lt_heap xo)).trans s4⟩) (first | (refine step_append_kept _ rfl (.tmp 34) (.tmp 39) 22 rfl w.heap.size 5 i0 (.int .u8 0) 1 Tryd.underlying22 hi0 hz0 hz1 hz2 rfl _ _ _ rfl hrowZ _ 1 1 [.int .u8 (IntKind.u8.wrap z)] rfl rfl (cell_one_new _ _ _) (by intro u hu; simp at hu; subst hu; rfl) (by unfold maxLen; omega) (by omega) hsZ ?_; intro v6 w6 ho6 hg6 hk6; have x6 := grown_box hg6 hrowZ xZ (by decide); obtain ⟨-, -, -, q3, q4⟩ := box_five x6; have b6 : Below w.heap.size w w6 := hbz.grown hg6 hsZ (fun _ h => own_block hrowZ h); have hn6 := bytesAt_news (hro.below (Nat.le_refl _) b6); obtain ⟨ya, yc, rfl⟩ := own_form' ho6) | (refine step_append_kept _ rfl (.tmp 40) (.tmp 43) 22 rfl w.heap.size 5 i0 (.int .u8 0) 1 Tryd.underlying22 hi0 hz0 hz1 hz2 rfl _ _ _ rfl ho6 ⟨g, o, none⟩ 32 rc (root.map (Value.int .u8)) rfl (by rw [List.length_map, h8]) hn6 (by intro u hu; obtain ⟨y, -, rfl⟩ := List.mem_map.1 hu; rfl) (by unfold maxLen; omega) (by omega) b6.size ?_; intro v8 w8 ho8 hg8 hk8; have x8 := grown_box hg8 ho6 x6 (by decide); obtain ⟨-, -, -, q3', q4'⟩ := box_five x8))
      all_goals
        have b8 : Below w.heap.size w w8 := b6.grown hg8 b6.size (fun _ h => own_block ho6 h)
        obtain ⟨xa, xc, rfl⟩ := own_form' ho8
        go_wp2_with fail
        go_ret
        refine ⟨xa, xc, rfl, ?_, b8⟩
        rw [← HR8.out, List.map_append, List.map_append]
        rw [HZ.out] at ho8
        exact ho8

end Go.Proofs.YtcpaecgjihfblaeDoor
