/- BookRefRec, BookRefRow, BookRefRows, as one text. -/
import Derived.Test.YtkjlchfmplcobaeDoorProg
import Derived.Test.YtkjlchfmplcobaeDoorRunAC
import Derived.Test.YtkjlchfmplcobaeDoorHeadSame
import Derived.WalkKit
import Derived.WalkSpells
import Derived.WalkLawsBesides
import Derived.Test.YtkjlchfmplcobaeDoorRunAA
import Derived.Deep.RegionHeld3
import Derived.BigRegion
/- Boxes of records; the walks of yearref5.SameRecord and yearref5.WrongRecord. -/
namespace Go.Proofs.YtkjlchfmplcobaeDoor
open Go.RowKit

/-- What a variable of five cells holds. -/
theorem box_five {w : World} {k : Nat} {a b c d e : Value} {t : TypeId} (h : w.heap[k]? = some (.cells #[a, b, c, d, e] t (0, 0))) :
    w.cell? ⟨k, 0, none⟩ = some a ∧ w.cell? ⟨k, 1, none⟩ = some b ∧ w.cell? ⟨k, 2, none⟩ = some c ∧ w.cell? ⟨k, 3, none⟩ = some d ∧ w.cell? ⟨k, 4, none⟩ = some e :=
  ⟨cell_of_row w k 0 _ t _ h, cell_of_row w k 1 _ t _ h, cell_of_row w k 2 _ t _ h, cell_of_row w k 3 _ t _ h, cell_of_row w k 4 _ t _ h⟩
set_option maxRecDepth 100000 in
set_option maxHeartbeats 2000000 in
theorem sameRec_yes (r : Rec) (v1 v2 : Value) (w : World) (h1 : RecV w v1 r) (h2 : RecV w v2 r) :
    Calls Tryd.prog 17 #[v1, v2] w fun e w' => e = .returned (.bool true) ∧ Below w.heap.size w w' := by
  obtain ⟨ra, rc, rfl, hr⟩ := h1
  obtain ⟨ta, tc, rfl, ht⟩ := h2
  obtain ⟨s, f, t, z, root⟩ := r
  dsimp only at hr ht ⊢
  have b0 : Below w.heap.size w ((w.alloc (.cells #[.int .i64 s, .int .i64 f, .int .i64 t, .int .i64 z, .slice ra root.length rc] 40)).alloc (.cells #[.int .i64 s, .int .i64 f, .int .i64 t, .int .i64 z, .slice ta root.length tc] 40)) := ((Below.refl _ _).alloc (Nat.le_refl _) _).alloc (by simp) _
  obtain ⟨x0, x1, x2, x3, x4⟩ := box_five (box_one w #[.int .i64 s, .int .i64 f, .int .i64 t, .int .i64 z, .slice ra root.length rc] 40 (.cells #[.int .i64 s, .int .i64 f, .int .i64 t, .int .i64 z, .slice ta root.length tc] 40))
  obtain ⟨y0, y1, y2, y3, y4⟩ := box_five (box_last w (.cells #[.int .i64 s, .int .i64 f, .int .i64 t, .int .i64 z, .slice ra root.length rc] 40) #[.int .i64 s, .int .i64 f, .int .i64 t, .int .i64 z, .slice ta root.length tc] 40)
  have sE := sameHead_yes z root _ _ _ (hr.below b0) (ht.below b0)
  have q1 : (s == s) = true := by simp
  have q2 : (f == f) = true := by simp
  have q3 : (t == t) = true := by simp
  clear hr ht
  generalize root.length = n at *
  go_enter Tryd.func17, Tryd.ntmps17
  go_wp2_with fail
  refine sE.mono ?_
  rintro e w3 ⟨rfl, hb3⟩
  go_wp2_with fail
  go_ret
  exact ⟨rfl, b0.trans (hb3.mono b0.size)⟩
set_option maxRecDepth 100000 in
set_option maxHeartbeats 2000000 in
theorem refRecWrong_any (r : Rec) (v : Value) (w : World) (h : RecV w v r) :
    Calls Tryd.prog 12 #[v] w fun e w' => e = .returned (.int .i64 (wrongRec r)) ∧ Below w.heap.size w w' := by
  obtain ⟨ra, rc, rfl, hr⟩ := h
  obtain ⟨s, f, t, z, root⟩ := r
  dsimp only at hr ⊢
  have hsh := hr.short
  unfold maxLen at hsh
  have b0 : Below w.heap.size w (w.alloc (.cells #[.int .i64 s, .int .i64 f, .int .i64 t, .int .i64 z, .slice ra root.length rc] 40)) := (Below.refl _ _).alloc (Nat.le_refl _) _
  obtain ⟨x0, x1, x2, x3, x4⟩ := box_five (box_new w #[.int .i64 s, .int .i64 f, .int .i64 t, .int .i64 z, .slice ra root.length rc] 40)
  by_cases hw : s < 0 ∨ 7 < s ∨ f < 0 ∨ t ≤ f ∨ 1000000 < t ∨ z < 0 ∨ 100 < z
  · have HE : Hid (wrongRec ⟨s, f, t, z, root⟩ = 3) := by show _ = _; unfold wrongRec; rw [if_pos hw]
    have hc : s < 0 ∨ (¬ s < 0 ∧ 7 < s) ∨ (¬ s < 0 ∧ ¬ 7 < s ∧ f < 0) ∨ (¬ s < 0 ∧ ¬ 7 < s ∧ ¬ f < 0 ∧ t ≤ f) ∨ (¬ s < 0 ∧ ¬ 7 < s ∧ ¬ f < 0 ∧ ¬ t ≤ f ∧ 1000000 < t) ∨ (¬ s < 0 ∧ ¬ 7 < s ∧ ¬ f < 0 ∧ ¬ t ≤ f ∧ ¬ 1000000 < t ∧ z < 0) ∨ (¬ s < 0 ∧ ¬ 7 < s ∧ ¬ f < 0 ∧ ¬ t ≤ f ∧ ¬ 1000000 < t ∧ ¬ z < 0 ∧ 100 < z) := by omega
    clear hw hr hsh
    generalize root.length = n at *
    rcases hc with q1 | ⟨q1, q2⟩ | ⟨q1, q2, q3⟩ | ⟨q1, q2, q3, q4⟩ | ⟨q1, q2, q3, q4, q5⟩ | ⟨q1, q2, q3, q4, q5, q6⟩ | ⟨q1, q2, q3, q4, q5, q6, q7⟩
    all_goals
      go_enter Tryd.func12, Tryd.ntmps12
      go_wp2_with fail
      go_ret
      exact ⟨by rw [HE.out]; rfl, b0⟩
  · have q1 : ¬ s < 0 := by omega
    have q2 : ¬ 7 < s := by omega
    have q3 : ¬ f < 0 := by omega
    have q4 : ¬ t ≤ f := by omega
    have q5 : ¬ 1000000 < t := by omega
    have q6 : ¬ z < 0 := by omega
    have q7 : ¬ 100 < z := by omega
    by_cases h32 : root.length = 32
    · have HE : Hid (wrongRec ⟨s, f, t, z, root⟩ = 0) := by show _ = _; unfold wrongRec; rw [if_neg hw, if_neg (fun e => e h32)]
      rw [h32] at x0 x1 x2 x3 x4 b0 ⊢
      clear hw hr hsh h32
      go_enter Tryd.func12, Tryd.ntmps12
      go_wp2_with fail
      go_ret
      exact ⟨by rw [HE.out]; rfl, b0⟩
    · have HE : Hid (wrongRec ⟨s, f, t, z, root⟩ = 2) := by show _ = _; unfold wrongRec; rw [if_neg hw, if_pos h32]
      have h32' : ((root.length : Int) != 32) = true := by simp; omega
      clear hw hr h32
      generalize root.length = n at *
      go_enter Tryd.func12, Tryd.ntmps12
      go_wp2_with fail
      go_ret
      exact ⟨by rw [HE.out]; rfl, b0⟩

end Go.Proofs.YtkjlchfmplcobaeDoor

/- The walk of yearref5.Row. -/
namespace Go.Proofs.YtkjlchfmplcobaeDoor
open Go.RowKit

theorem three_new (w : World) (u v x : Value) (t : TypeId) : ∀ (j : Nat) (y : Value), [u, v, x][j]? = some y → (w.alloc (.cells #[u, v, x] t)).cell? ((⟨w.heap.size, 0, none⟩ : Addr).add j) = some y := fun j y hj => by
  have hadd : (⟨w.heap.size, 0, none⟩ : Addr).add j = ⟨w.heap.size, 0 + j, none⟩ := Addr.add_mid _ _ _
  rw [hadd, Nat.zero_add]
  match j, hj with
  | 0, hj => rw [new_cell w t _ 0 (by simp)]; simpa using hj
  | 1, hj => rw [new_cell w t _ 1 (by simp)]; simpa using hj
  | 2, hj => rw [new_cell w t _ 2 (by simp)]; simpa using hj
  | j + 3, hj => simp at hj
theorem bytesAt_news {w : World} {ad : Addr} {n c : Nat} {zs : List Int} (h : BytesAt w (.slice (some ad) n c) zs) : ∀ j u, (zs.map (Value.int .u8))[j]? = some u → w.cell? (ad.add j) = some u := by
  obtain ⟨-, h | ⟨a, e, h⟩⟩ := h.src
  · cases h.1
  · cases e; exact h
set_option maxRecDepth 100000 in
set_option maxHeartbeats 4000000 in
theorem refRow_any (r : Rec) (v : Value) (w : World) (hv : RecV w v r) (hw : wrongRec r = 0) :
    Calls Tryd.prog 14 #[v] w fun e w' => ∃ xa xc, e = .returned (.slice xa 40 xc) ∧ w'.ownsRow w.heap.size 5 1 (.slice xa 40 xc) 40 ((rowL r).map (Value.int .u8)) ∧ Below w.heap.size w w' := by
  obtain ⟨i0, hi0, hz0, hz1, hz2⟩ := info_parts Tryd.info5b
  obtain ⟨ra, rc, rfl, hr⟩ := hv
  obtain ⟨h1, h2, h3, h4, h5, h6, h7, h8⟩ := wrongRec_ok hw
  obtain ⟨s, f, t, z, root⟩ := r
  dsimp only at hr h1 h2 h3 h4 h5 h6 h7 h8 ⊢
  rw [h8] at hr ⊢
  have hro := hr.at'
  obtain ⟨g, o, cR, eR⟩ := hro.some (by rw [h8]; omega)
  rw [h8] at eR
  cases eR
  have b0 : Below w.heap.size w (w.alloc (.cells #[.int .i64 s, .int .i64 f, .int .i64 t, .int .i64 z, .slice (some ⟨g, o, none⟩) 32 rc] 40)) := (Below.refl _ _).alloc (Nat.le_refl _) _
  have x0 := box_new w #[.int .i64 s, .int .i64 f, .int .i64 t, .int .i64 z, .slice (some ⟨g, o, none⟩) 32 rc] 40
  obtain ⟨s0, s1, s2, s3, s4⟩ := box_five x0
  clear hw
  go_enter Tryd.func14, Tryd.ntmps14
  go_wp2_with fail
  have hs0 : (w.alloc (.cells #[.int .i64 s, .int .i64 f, .int .i64 t, .int .i64 z, .slice (some ⟨g, o, none⟩) 32 rc] 40)).heap.size = w.heap.size + 1 := by simp
  have hlit := (World.ownsRow_lit (size := 1) (e := 5) (base := w.heap.size) (w.alloc (.cells #[.int .i64 s, .int .i64 f, .int .i64 t, .int .i64 z, .slice (some ⟨g, o, none⟩) 32 rc] 40)) #[.int .u8 s] 1 (by rw [hs0]; omega) (by unfold maxLen; omega) rfl).alloc (.cells #[.int .i64 f, .int .i64 t] 3)
  have x2 := box_old _ (.cells #[.int .i64 f, .int .i64 t] 3) (box_old _ (.cells #[.int .u8 s] 5) x0)
  have y2 := box_last (w.alloc (.cells #[.int .i64 s, .int .i64 f, .int .i64 t, .int .i64 z, .slice (some ⟨g, o, none⟩) 32 rc] 40)) (.cells #[.int .u8 s] 5) #[.int .i64 f, .int .i64 t] 3
  have b2 : Below w.heap.size w (((w.alloc (.cells #[.int .i64 s, .int .i64 f, .int .i64 t, .int .i64 z, .slice (some ⟨g, o, none⟩) 32 rc] 40)).alloc (.cells #[.int .u8 s] 5)).alloc (.cells #[.int .i64 f, .int .i64 t] 3)) := (b0.alloc (by rw [hs0]; omega) _).alloc (by simp; omega) _
  rw [hs0] at hlit y2
  generalize ((w.alloc (.cells #[.int .i64 s, .int .i64 f, .int .i64 t, .int .i64 z, .slice (some ⟨g, o, none⟩) 32 rc] 40)).alloc (.cells #[.int .u8 s] 5)).alloc (.cells #[.int .i64 f, .int .i64 t] 3) = w2 at *
  clear s0 s1 s2 s3 s4 x0 b0 hs0
  go_loopw [3, 16] (fun bv kv wr => ∃ (k : Nat) (va : Option Addr) (vc : Nat), k ≤ 2 ∧ kv = .int .i64 k ∧ bv = .slice va (1 + 3 * k) vc ∧ wr.ownsRow w.heap.size 5 1 (.slice va (1 + 3 * k) vc) (1 + 3 * k) ((s :: (threeB f ++ threeB t).take (3 * k)).map (Value.int .u8)) ∧ wr.heap[w.heap.size]? = some (.cells #[.int .i64 s, .int .i64 f, .int .i64 t, .int .i64 z, .slice (some ⟨g, o, none⟩) 32 rc] 40 (0, 0)) ∧ wr.heap[w.heap.size + 1 + 1]? = some (.cells #[.int .i64 f, .int .i64 t] 3 (0, 0)) ∧ Below w.heap.size w wr) (fun _ kv _ => 2 - (intOf kv).toNat)
  case atStart => exact ⟨0, _, _, by omega, rfl, rfl, hlit, x2, y2, b2⟩
  case round =>
    obtain ⟨wo, rfl⟩ : ∃ x, x = wr := ⟨wr, rfl⟩
    obtain ⟨k, va, vc, hk, rfl, rfl, hrow, xo, yo, hbr⟩ := hrel
    have hsr := hbr.size
    clear hlit x2 y2 b2
    obtain ⟨p0, p1, -, -⟩ := box_two yo
    rcases (show k = 0 ∨ k = 1 ∨ k = 2 by omega) with rfl | rfl | rfl
    · have hrowA := hrow.alloc (.cells #[.int .u8 (f / 65536), .int .u8 (f / 256 % 256), .int .u8 (f % 256)] 5)
      have hnew := three_new wo (.int .u8 (f / 65536)) (.int .u8 (f / 256 % 256)) (.int .u8 (f % 256)) 5
      have hone : ∀ y ∈ [Value.int .u8 (f / 65536), .int .u8 (f / 256 % 256), .int .u8 (f % 256)], y.oneCell' = true := by intro y hy; simp at hy; rcases hy with rfl | rfl | rfl <;> rfl
      have xA := box_old _ (.cells #[.int .u8 (f / 65536), .int .u8 (f / 256 % 256), .int .u8 (f % 256)] 5) xo
      have yA := box_old _ (.cells #[.int .u8 (f / 65536), .int .u8 (f / 256 % 256), .int .u8 (f % 256)] 5) yo
      have bA : Below w.heap.size w (wo.alloc (.cells #[.int .u8 (f / 65536), .int .u8 (f / 256 % 256), .int .u8 (f % 256)] 5)) := hbr.alloc hsr _
      have hsA := bA.size
      clear hrow
      go_wp2_with (at_builtin; refine wpList_append_own _ rfl (.tmp 20) (.tmp 31) 22 rfl w.heap.size 5 i0 _ 1 1 Tryd.underlying22 hi0 hz0 hz1 hz2 rfl (by decide) _ _ _ rfl hrowA _ 3 3 [.int .u8 (f / 65536), .int .u8 (f / 256 % 256), .int .u8 (f % 256)] rfl rfl hnew hone (by unfold maxLen; omega) (by omega) hsA ?_; intro v7 w7 ho7 hg7 _; obtain ⟨sa, sc, rfl⟩ := own_form' ho7)
      have b7 : Below w.heap.size w w7 := bA.grown hg7 hsA (fun _ h => own_block hrowA h)
      go_roundw
      case rel => exact ⟨1, sa, sc, by omega, rfl, rfl, ho7, grown_box hg7 hrowA xA (by decide), grown_box hg7 hrowA yA (by decide), b7⟩
      case measure => simp [intOf]
    · have hrowA := hrow.alloc (.cells #[.int .u8 (t / 65536), .int .u8 (t / 256 % 256), .int .u8 (t % 256)] 5)
      have hnew := three_new wo (.int .u8 (t / 65536)) (.int .u8 (t / 256 % 256)) (.int .u8 (t % 256)) 5
      have hone : ∀ y ∈ [Value.int .u8 (t / 65536), .int .u8 (t / 256 % 256), .int .u8 (t % 256)], y.oneCell' = true := by intro y hy; simp at hy; rcases hy with rfl | rfl | rfl <;> rfl
      have xA := box_old _ (.cells #[.int .u8 (t / 65536), .int .u8 (t / 256 % 256), .int .u8 (t % 256)] 5) xo
      have yA := box_old _ (.cells #[.int .u8 (t / 65536), .int .u8 (t / 256 % 256), .int .u8 (t % 256)] 5) yo
      have bA : Below w.heap.size w (wo.alloc (.cells #[.int .u8 (t / 65536), .int .u8 (t / 256 % 256), .int .u8 (t % 256)] 5)) := hbr.alloc hsr _
      have hsA := bA.size
      have ht0 : 0 ≤ t := by omega
      clear hrow
      go_wp2_with (at_builtin; refine wpList_append_own _ rfl (.tmp 20) (.tmp 31) 22 rfl w.heap.size 5 i0 _ 1 1 Tryd.underlying22 hi0 hz0 hz1 hz2 rfl (by decide) _ _ _ rfl hrowA _ 3 3 [.int .u8 (t / 65536), .int .u8 (t / 256 % 256), .int .u8 (t % 256)] rfl rfl hnew hone (by unfold maxLen; omega) (by omega) hsA ?_; intro v7 w7 ho7 hg7 _; obtain ⟨sa, sc, rfl⟩ := own_form' ho7)
      have b7 : Below w.heap.size w w7 := bA.grown hg7 hsA (fun _ h => own_block hrowA h)
      go_roundw
      case rel => exact ⟨2, sa, sc, by omega, rfl, rfl, ho7, grown_box hg7 hrowA xA (by decide), grown_box hg7 hrowA yA (by decide), b7⟩
      case measure => simp [intOf]
    · obtain ⟨s0, s1, s2, s3, s4⟩ := box_five xo
      have hbw := hbr
      go_wp2_with fail
      have hRow8 : (s :: (threeB f ++ threeB t).take (3 * 2)) ++ [z] ++ root = rowL ⟨s, f, t, z, root⟩ := by unfold rowL threeB; simp
      have HR8 : Hid ((s :: (threeB f ++ threeB t).take (3 * 2)) ++ [z] ++ root = rowL ⟨s, f, t, z, root⟩) := hRow8
      clear hRow8
      generalize (s :: (threeB f ++ threeB t).take (3 * 2)) = pre at *
      have HZ : Hid (IntKind.u8.wrap z = z) := by show _ = _; rw [IntKind.wrap_u8]; omega
      have hbz : Below w.heap.size w (wo.alloc (.cells #[.int .u8 (IntKind.u8.wrap z)] 5)).drew := (hbr.alloc hsr _).drew
      have hrowZ : (wo.alloc (.cells #[.int .u8 (IntKind.u8.wrap z)] 5)).drew.ownsRow w.heap.size 5 1 (.slice va 7 vc) 7 (pre.map (Value.int .u8)) := hrow.alloc (.cells #[.int .u8 (IntKind.u8.wrap z)] 5)
      have xZ : (wo.alloc (.cells #[.int .u8 (IntKind.u8.wrap z)] 5)).drew.heap[w.heap.size]? = _ := box_old _ (.cells #[.int .u8 (IntKind.u8.wrap z)] 5) xo
      have hsZ := hbz.size
      go_region_held3 (fun w' => w'.cell? ⟨w.heap.size, 3, none⟩ = some (.int .i64 z) ∧ w'.cell? ⟨w.heap.size, 4, none⟩ = some (.slice (some ⟨g, o, none⟩) 32 rc)) (first | exact ⟨s3, s4⟩ | exact ⟨q3, q4⟩ | exact ⟨q3', q4'⟩ | exact ⟨(old_cell _ _ _ _ (lt_heap xo)).trans s3, (old_cell _ _ _ _ (lt_heap xo)).trans s4⟩) (first | (refine step_append_kept _ rfl (.tmp 34) (.tmp 39) 22 rfl w.heap.size 5 i0 (.int .u8 0) 1 Tryd.underlying22 hi0 hz0 hz1 hz2 rfl _ _ _ rfl hrowZ _ 1 1 [.int .u8 (IntKind.u8.wrap z)] rfl rfl (cell_one_new _ _ _) (by intro u hu; simp at hu; subst hu; rfl) (by unfold maxLen; omega) (by omega) hsZ ?_; intro v6 w6 ho6 hg6 hk6; have x6 := grown_box hg6 hrowZ xZ (by decide); obtain ⟨-, -, -, q3, q4⟩ := box_five x6; have b6 : Below w.heap.size w w6 := hbz.grown hg6 hsZ (fun _ h => own_block hrowZ h); have hn6 := bytesAt_news (hro.below (Nat.le_refl _) b6); obtain ⟨ya, yc, rfl⟩ := own_form' ho6) | (refine step_append_kept _ rfl (.tmp 40) (.tmp 43) 22 rfl w.heap.size 5 i0 (.int .u8 0) 1 Tryd.underlying22 hi0 hz0 hz1 hz2 rfl _ _ _ rfl ho6 ⟨g, o, none⟩ 32 rc (root.map (Value.int .u8)) rfl (by rw [List.length_map, h8]) hn6 (by intro u hu; obtain ⟨y, -, rfl⟩ := List.mem_map.1 hu; rfl) (by unfold maxLen; omega) (by omega) b6.size ?_; intro v8 w8 ho8 hg8 hk8; have x8 := grown_box hg8 ho6 x6 (by decide); obtain ⟨-, -, -, q3', q4'⟩ := box_five x8))
      all_goals
        have b8 : Below w.heap.size w w8 := b6.grown hg8 b6.size (fun _ h => own_block ho6 h)
        obtain ⟨xa, xc, rfl⟩ := own_form' ho8
        go_wp2_with fail
        go_ret
        refine ⟨xa, xc, rfl, ?_, b8⟩
        rw [← HR8.out, List.map_append, List.map_append]
        rw [HZ.out] at ho8
        exact ho8

end Go.Proofs.YtkjlchfmplcobaeDoor

/- The walk of yearref5.Rows. -/
namespace Go.Proofs.YtkjlchfmplcobaeDoor
open Go.RowKit

theorem refRows_snoc {l : List Rec} {k : Nat} (hk : k < l.length) : (rowsOf l).take (k + 1) = (rowsOf l).take k ++ [rowL (l.getD k rec0)] := by
  have h := rows_length l
  rw [List.take_succ_eq_append_getElem (by omega)]
  congr 2
  have := rows_get hk
  rwa [List.getD_eq_getElem?_getD, List.getElem?_eq_getElem (by omega)] at this
theorem OwnParts.far {w : World} {base k o : Nat} {v : Value} {L : List (List Int)} {c : Array Value} {t : TypeId} (h : OwnParts w base v L) (hk : w.heap[k]? = some (.cells c t (0, 0))) (h1 : t ≠ 5) (h2 : t ≠ 22) (u : Value) : OwnParts (w.setCell ⟨k, o, none⟩ u) base v L := by
  obtain ⟨vs, hr, he⟩ := h
  refine ⟨vs, ownsRow_setCell_other hr (a := ⟨k, o, none⟩) (own_box hr hk h2) u, fun j hj => ?_⟩
  obtain ⟨y, q1, q2⟩ := he j hj
  exact ⟨y, q1, ownsRow_setCell_other q2 (a := ⟨k, o, none⟩) (own_box q2 hk h1) u⟩
set_option maxRecDepth 100000 in
set_option maxHeartbeats 4000000 in
theorem refRows_any (l : List Rec) (a : Option Addr) (n c : Nat) (w : World) (hl : RecsAt w (.slice a n c) l) (hn : l.length = n) :
    Calls Tryd.prog 18 #[.slice a n c] w fun e w' => ∃ xa xn xc, e = .returned (.tuple #[.slice xa xn xc, faultV (wrongRecs l)]) ∧ ((wrongRecs l).1 = 0 → OwnParts w' w.heap.size (.slice xa xn xc) (rowsOf l)) ∧ Below w.heap.size w w' := by
  obtain ⟨i0, hi0, hz0, hz1, hz2⟩ := info_parts Tryd.info22b
  have hcap : n ≤ maxLen := by obtain ⟨a', c', e, h2, h3, -⟩ := hl; cases e; omega
  unfold maxLen at hcap
  have b0 : Below w.heap.size w (w.alloc (.cells #[.int .i64 0, .int .i64 0] 32)) := (Below.refl _ _).alloc (Nat.le_refl _) _
  have x0 := box_new w #[.int .i64 0, .int .i64 0] 32
  by_cases h8 : 8 < n
  · have HE : Hid (wrongRecs l = (5, 0)) := wrongRecs_many (by omega)
    have h8' : (8 : Int) < n := by omega
    clear hl
    go_enter Tryd.func18, Tryd.ntmps18
    go_wp2_with fail
    exact bodyPost_ret (v := .tuple #[.slice none 0 0, faultV (5, 0)]) (by simp [results, Tryd.results18, go_sem]) rfl ⟨none, 0, 0, by rw [HE.out], by rw [HE.out]; exact fun h => absurd h (by decide), (Below.refl _ _).alloc (Nat.le_refl _) _⟩
  · have h8' : ¬ (8 : Int) < n := by omega
    have hrl := rows_length l
    have HW1 : ∀ k : Nat, Hid (k < n → (∀ j, j < k → wrongRec (l.getD j rec0) = 0) → wrongRec (l.getD k rec0) ≠ 0 → wrongRecs l = (wrongRec (l.getD k rec0), (k : Int))) := fun k h1 h2 h3 => wrongRecs_at (by omega) (by omega) h2 h3
    have HW2 : Hid ((∀ j, j < n → wrongRec (l.getD j rec0) = 0) → wrongRecs l = (0, 0)) := fun h => wrongRecs_none (by omega) (fun j hj => h j (by omega))
    go_enter Tryd.func18, Tryd.ntmps18
    go_wp2_with fail
    generalize w.alloc (.cells #[.int .i64 0, .int .i64 0] 32) = w0 at *
    go_loopw [4, 14] (fun ov kv wr => ∃ (k : Nat) (va : Option Addr) (vc : Nat) (vs : List Value), k ≤ n ∧ kv = .int .i64 k ∧ ov = .slice va k vc ∧ wr.ownsRow w.heap.size 22 1 (.slice va k vc) k vs ∧ OwnEls wr w.heap.size vs ((rowsOf l).take k) ∧ Hid (∀ j, j < k → wrongRec (l.getD j rec0) = 0) ∧ wr.heap[w.heap.size]? = some (.cells #[.int .i64 0, .int .i64 0] 32 (0, 0)) ∧ Below w.heap.size w wr) (fun _ kv _ => n - (intOf kv).toNat)
    case atStart => exact ⟨0, none, 0, [], Nat.zero_le _, rfl, rfl, World.ownsRow_nil _ _ _ _, fun _ hj => absurd hj (by simp), fun _ hj => absurd hj (Nat.not_lt_zero _), x0, b0⟩
    case round =>
      obtain ⟨wo, rfl⟩ : ∃ x, x = wr := ⟨wr, rfl⟩
      obtain ⟨k, va, vc, vs, hk, rfl, rfl, hrow, hels, HO, xo, hbr⟩ := hrel
      have hsr := hbr.size
      clear x0 b0
      by_cases hlt : k < n
      · have hlt' : (k : Int) < n := by omega
        have hlo := hl.below hbr
        obtain ⟨a0, c0, e0, hn1, hn2, hn3, hcells⟩ := hlo
        rw [hn] at e0 hn1 hcells
        cases e0
        obtain ⟨g, o, rfl, hg, hcs⟩ := hcells.resolve_left (by omega)
        obtain ⟨d0, d1, d2, d3, qa, qc, d4, hroot⟩ := hcs k hlt
        have HV := HW1 k
        have HS : Hid ((rowsOf l).take (k + 1) = (rowsOf l).take k ++ [rowL (l.getD k rec0)]) := refRows_snoc (by omega)
        have hrl40 := fun h => row_length (r := l.getD k rec0) h
        have HF : Hid (wrongRec (l.getD k rec0) = 0 → ∀ j, j < k + 1 → wrongRec (l.getD j rec0) = 0) := fun h j hj => by
          by_cases e : j = k
          · rw [e]; exact h
          · exact HO.out j (by omega)
        clear hcells hcs HW1 HW2
        have hrt : ((rowsOf l).take k).length = k := by rw [List.length_take]; omega
        generalize (rowsOf l).take k = done at *
        generalize l.getD k rec0 = R at *
        have d5 : Below wo.heap.size wo (wo.alloc (.cells #[.int .i64 R.shard, .int .i64 R.from', .int .i64 R.to', .int .i64 R.size, .slice qa R.root.length qc] 40)) := (Below.refl _ _).alloc (Nat.le_refl _) _
        have y5 := box_new wo #[.int .i64 R.shard, .int .i64 R.from', .int .i64 R.to', .int .i64 R.size, .slice qa R.root.length qc] 40
        have hRV : RecV (wo.alloc (.cells #[.int .i64 R.shard, .int .i64 R.from', .int .i64 R.to', .int .i64 R.size, .slice qa R.root.length qc] 40)) (.agg #[.int .i64 R.shard, .int .i64 R.from', .int .i64 R.to', .int .i64 R.size, .slice qa R.root.length qc]) R := ⟨qa, qc, rfl, hroot.below d5⟩
        have cW := refRecWrong_any R _ _ hRV
        obtain ⟨s0, s1, s2, s3, s4⟩ := box_five y5
        have b5 := hbr.trans (d5.mono hsr)
        have hrow5 := own_below hrow d5 (Nat.le_refl _)
        have hels5 := hels.below d5 (Nat.le_refl _)
        have x5 := box_kept xo d5
        clear hrow hels xo hroot
        go_wp2_with fail
        generalize wo.alloc (.cells #[.int .i64 R.shard, .int .i64 R.from', .int .i64 R.to', .int .i64 R.size, .slice qa R.root.length qc] 40) = w5 at *
        refine cW.mono ?_
        rintro e w6 ⟨rfl, hb6⟩
        have b6 := b5.trans (hb6.mono b5.size)
        have hrow6 := own_below hrow5 hb6 (Nat.le_refl _)
        have hels6 := hels5.below hb6 (Nat.le_refl _)
        have x6 := box_kept x5 hb6
        obtain ⟨t0, t1, t2, t3, t4⟩ := box_five (box_kept y5 hb6)
        clear cW s0 s1 s2 s3 s4 y5 d0 d1 d2 d3 d4 hrow5 hels5 x5
        by_cases hw : wrongRec R = 0
        · have cR := refRow_any R _ w6 (hRV.below hb6) hw
          have h40 := hrl40 hw
          have HF2 := HF.out hw
          have HFh : Hid (∀ j, j < k + 1 → wrongRec (l.getD j rec0) = 0) := HF2
          rw [hw]
          clear HV hw hRV HF HF2 hrl40
          go_wp2_with fail
          refine cR.mono ?_
          rintro e w7 ⟨xa, xc, rfl, hx, hb7⟩
          have b7 := b6.trans (hb7.mono b6.size)
          have hrow7 := own_below hrow6 hb7 (Nat.le_refl _)
          have hels7 := hels6.below hb7 (Nat.le_refl _)
          have x7 := box_kept x6 hb7
          have hvl : vs.length = done.length := by rw [hrt]; simpa using hrow7.1
          have hy : w7.ownsRow w.heap.size 5 1 (.slice xa 40 xc) (rowL R).length ((rowL R).map (Value.int .u8)) := by rw [h40]; exact ownsRow_base hx b6.size
          have hsn := (hels7.snoc hvl hy).alloc (.cells #[.slice xa 40 xc] 22)
          have hrowA := hrow7.alloc (.cells #[.slice xa 40 xc] 22)
          have hnew := cell_one_new w7 (.slice xa 40 xc) 22
          have xA := box_old _ (.cells #[.slice xa 40 xc] 22) x7
          have bA : Below w.heap.size w (w7.alloc (.cells #[.slice xa 40 xc] 22)) := b7.alloc b7.size _
          have hsA := bA.size
          clear cR hx hy hrow6 hels6 hrow7 hels7 x6 x7 t0 t1 t2 t3 t4
          go_wp2_with (at_builtin; refine wpList_append_own _ rfl (.tmp 26) (.tmp 29) 29 rfl w.heap.size 22 i0 _ 1 24 Tryd.underlying29 hi0 hz0 hz1 hz2 rfl (by decide) _ _ _ rfl hrowA _ 1 1 [.slice xa 40 xc] rfl rfl hnew (by intro u hu; simp at hu; subst hu; rfl) (by unfold maxLen; omega) (by omega) hsA ?_; intro v8 w8 ho8 hg8 _; obtain ⟨sa, sc, rfl⟩ := own_form' ho8)
          have b8 : Below w.heap.size w w8 := bA.grown hg8 hsA (fun _ h => own_block hrowA h)
          have hels8 := hsn.kept hrowA hg8
          have x8 := grown_box hg8 hrowA xA (by decide)
          go_roundw
          case rel => exact ⟨k + 1, sa, sc, _, by omega, by go_num, rfl, ho8, by rw [HS.out]; exact hels8, HFh, x8, b8⟩
          case measure => simp [intOf]; omega
        · have HE : Hid (wrongRecs l = (wrongRec R, (k : Int))) := HV.out hlt HO.out hw
          have hw' : (wrongRec R != 0) = true := by simpa using hw
          have HNE : Hid (wrongRec R ≠ 0) := hw
          generalize wrongRec R = er at *
          obtain ⟨u0, u1, u2, u3⟩ := box_two x6
          clear HV HF hw hrow6 hels6
          go_wp2_with fail
          exact bodyPost_ret (v := .tuple #[.slice none 0 0, faultV (er, (k : Int))]) (by simp [results, Tryd.results18, go_sem, u0, u1]) rfl ⟨none, 0, 0, by rw [HE.out], by rw [HE.out]; exact fun h => absurd h HNE.out, (b6.setCell (Nat.le_refl _) _).setCell (Nat.le_refl _) _⟩
      · obtain rfl : k = n := by omega
        have hnl : ¬ (k : Int) < k := by omega
        have HE : Hid (wrongRecs l = (0, 0)) := HW2.out HO.out
        rw [List.take_of_length_le (by omega)] at hels
        have hO : OwnParts wo w.heap.size (.slice va k vc) (rowsOf l) := ⟨vs, by rw [hrl, hn]; exact hrow, hels⟩
        obtain ⟨u0, u1, u2, u3⟩ := box_two xo
        have hO2 := (hO.far (o := 0) xo (by decide) (by decide) (.int .i64 0)).far (o := 1) (heap_setCell_same _ _ 0 _ _ (.int .i64 0) xo) (by decide) (by decide) (.int .i64 0)
        clear HW1 HW2 HO hrow hels hl hn hrl
        go_wp2_with fail
        exact bodyPost_ret (v := .tuple #[.slice va k vc, faultV (0, 0)]) (by simp [results, Tryd.results18, go_sem, u0, u1]) rfl ⟨va, k, vc, by rw [HE.out], fun _ => hO2, (hbr.setCell (Nat.le_refl _) _).setCell (Nat.le_refl _) _⟩

end Go.Proofs.YtkjlchfmplcobaeDoor
