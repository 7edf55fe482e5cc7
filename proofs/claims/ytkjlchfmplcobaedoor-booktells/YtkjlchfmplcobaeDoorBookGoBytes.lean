/- The walk of Bytes: package book as it landed. -/
import Derived.Test.YtkjlchfmplcobaeDoorProg
import Derived.Test.YtkjlchfmplcobaeDoorBookGoRec
import Derived.Test.YtkjlchfmplcobaeDoorRunAD
import Derived.OwnWalk
import Derived.Laws.CopyOwn
import Derived.WalkKit
import Derived.WalkSpells
import Derived.WalkLawsBesides
import Derived.Deep.RegionHeld3
import Derived.BigRegion
namespace Go.Proofs.YtkjlchfmplcobaeDoor
open Go.RowKit

/-- A full row is its block. -/
theorem own_full {w : World} {base g n : Nat} {e : TypeId} {xs : List Value} (h : w.ownsRow base e 1 (.slice (some ⟨g, 0, none⟩) n n) n xs) : w.heap[g]? = some (.cells xs.toArray e (0, 0)) ∧ xs.length = n ∧ base ≤ g := by
  have hl : xs.length = n := by simpa using h.1
  rcases h.2 with ⟨h', -⟩ | ⟨g', cap, cur, h', hb, hg, hnc, hcm, hcs, htake⟩
  · cases h'
  · simp only [Value.slice.injEq, Option.some.injEq, Addr.mk.injEq, and_true, true_and] at h'
    obtain ⟨rfl, rfl⟩ := h'
    refine ⟨?_, hl, hb⟩
    rw [hg, ← htake, List.take_of_length_le (by rw [Array.length_toList, hcs]; omega)]
theorem full_own {w : World} {base g n : Nat} {e : TypeId} {xs : List Value} (h : w.heap[g]? = some (.cells xs.toArray e (0, 0))) (hl : xs.length = n) (hb : base ≤ g) (hn : n ≤ maxLen) : w.ownsRow base e 1 (.slice (some ⟨g, 0, none⟩) n n) n xs := by
  refine ⟨by simpa using hl, .inr ⟨g, n, xs.toArray, rfl, hb, h, Nat.le_refl _, hn, by simp [hl], ?_⟩⟩
  simp [← hl]
/-- What comes of a row of noughts. -/
theorem row_put (r : Rec) (h32 : r.root.length = 32) : splice ((putL (putL ((List.replicate 40 (Value.int .u8 0)).set 0 (.int .u8 r.shard)) 1 r.from' 3) 4 r.to' 3).set 7 (.int .u8 r.size)) 8 (r.root.map (Value.int .u8)) = (rowL r).map (Value.int .u8) := by
  unfold splice
  rw [List.length_map, h32]
  have e1 : ((putL (putL ((List.replicate 40 (Value.int .u8 0)).set 0 (.int .u8 r.shard)) 1 r.from' 3) 4 r.to' 3).set 7 (.int .u8 r.size)).drop (8 + 32) = [] := by
    apply List.drop_eq_nil_of_le
    simp [putL]
  rw [e1, List.append_nil]
  rfl
theorem zeros40 {w : World} {base g : Nat} (h : w.ownsRow base 5 1 (.slice (some ⟨g, 0, none⟩) 40 40) 40 (madeCells (Value.int IntKind.u8 0).cells (40 * 1)).toList) : w.ownsRow base 5 1 (.slice (some ⟨g, 0, none⟩) 40 40) 40 (List.replicate 40 (.int .u8 0)) := by
  have e : (madeCells (Value.int IntKind.u8 0).cells (40 * 1)).toList = List.replicate 40 (.int .u8 0) := by
    show (madeCells #[Value.int IntKind.u8 0] (40 * 1)).toList = _
    rw [toList_madeCells_one, Nat.mul_one]
  rw [e] at h
  exact h
set_option maxRecDepth 100000 in
set_option maxHeartbeats 4000000 in
theorem recBytesC_holds : RecBytesC := fun r v w h => by
  obtain ⟨i0, hi0, hz0, hz1, hz2⟩ := info_parts Tryd.info5b
  have cW := fun w' (hb : Below w.heap.size w w') => recWrongC_holds r v w' (h.below hb)
  obtain ⟨ra, rc, rfl, hr⟩ := h
  have b0 : Below w.heap.size w (w.alloc (.cells #[.int .i64 r.shard, .int .i64 r.from', .int .i64 r.to', .int .i64 r.size, .slice ra r.root.length rc] 40)) := (Below.refl _ _).alloc (Nat.le_refl _) _
  have x0 := box_new w #[.int .i64 r.shard, .int .i64 r.from', .int .i64 r.to', .int .i64 r.size, .slice ra r.root.length rc] 40
  have cW0 := cW _ b0
  clear cW
  by_cases hw : wrongRec r = 0
  · have HE : Hid (bytesE r = rowL r) := by show _ = _; unfold bytesE; rw [if_neg (fun e => e hw)]
    have HR : Hid (splice ((putL (putL ((List.replicate 40 (Value.int .u8 0)).set 0 (.int .u8 r.shard)) 1 r.from' 3) 4 r.to' 3).set 7 (.int .u8 r.size)) 8 (r.root.map (Value.int .u8)) = (rowL r).map (Value.int .u8)) := row_put r (wrongRec_ok hw).2.2.2.2.2.2.2
    obtain ⟨h1, h2, h3, h4, h5, h6, h7, h8⟩ := wrongRec_ok hw
    rw [hw] at cW0 ⊢
    have hrl : (rowL r).length = 40 := row_length hw
    have hro := hr.at'
    obtain ⟨G, O, cR, eR⟩ := hro.some (by rw [h8]; omega)
    rw [h8] at eR x0 b0 cW0 hro ⊢
    cases eR
    clear hw hr
    generalize bytesE r = BE at *
    generalize rowL r = RL at *
    obtain ⟨s, f, t, z, root⟩ := r
    dsimp only at *
    obtain ⟨s0, s1, s2, s3, s4⟩ := box_five x0
    go_enter Tryd.func13, Tryd.ntmps13
    go_wp2_with fail
    generalize w.alloc (.cells #[.int .i64 s, .int .i64 f, .int .i64 t, .int .i64 z, .slice (some ⟨G, O, none⟩) 32 rc] 40) = w0 at *
    refine cW0.mono ?_
    rintro e w1 ⟨rfl, hb1⟩
    have b1 := b0.trans (hb1.mono b0.size)
    have x1 := box_kept x0 hb1
    have hs1 := b1.size
    clear s0 s1 s2 s3 s4 cW0 x0 b0 hb1
    have hKg : w.heap.size < w1.heap.size := lt_heap x1
    go_wp2_with (at_make; refine wpList_make_full _ rfl _ _ 22 rfl w.heap.size 5 i0 (.int .u8 0) 1 Tryd.underlying22 hi0 hz0 hz1 .i64 .i64 _ _ 40 rfl rfl rfl rfl (by rw [hz2]; omega) (by unfold maxLen; omega) hs1 ?_; intro w2 hown hgrow; have b2 : Below w.heap.size w w2 := b1.grown hgrow hs1 (fun q h => by cases h); have hrow2 : w2.ownsRow w.heap.size 5 1 (.slice (some ⟨w1.heap.size, 0, none⟩) 40 40) 40 (List.replicate 40 (.int .u8 0)) := (zeros40 hown); have x2 := (hgrow.block w.heap.size hKg (by simp)).trans x1; obtain ⟨c0, c1, c2, c3, c4⟩ := box_five x2; have f0 := hrow2.frozenAt 0; have k0 : w2.cell? ⟨w1.heap.size, 0, none⟩ = some (.int .u8 0) := (hrow2.cellAt 0 (by omega)).trans rfl; clear hown)
    have hst := hrow2.stored 0 (.int .u8 s)
    have hrow3 := hst.1
    have x3 := box_set_far (o := 0) (v := .int .u8 s) x2 (show w.heap.size ≠ w1.heap.size by omega)
    have b3 : Below w.heap.size w (w2.setCell ⟨w1.heap.size, 0, none⟩ (.int .u8 s)) := b2.setCell (by show w.heap.size ≤ w1.heap.size; omega) _
    clear hst hrow2 x2 c0 c1 c2 c3 c4 f0 k0 hgrow b2 x1 b1 hs1
    generalize w1.heap.size = g at *
    generalize w2.setCell ⟨g, 0, none⟩ (.int .u8 s) = w3 at *
    obtain ⟨c0, c1, c2, c3, c4⟩ := box_five x3
    have hft : f < 16777216 := by omega
    have htt : t < 16777216 := by omega
    have ht0 : 0 ≤ t := by omega
    have hs3 := b3.size
    go_region_held3 (fun w' => w'.cell? ⟨w.heap.size, 1, none⟩ = some (.int .i64 f)) (first | exact c1 | exact d1) (first | (go_at_call 37; refine (putTime_any w.heap.size g 1 40 40 _ f _ _ (by omega) h3 hft hrow3.drew).mono ?_; rintro e w4 ⟨rfl, hrow4, hg4⟩; have x4 := (hg4.block w.heap.size (lt_heap x3) (by simp; omega)).trans x3; obtain ⟨d0, d1, d2, d3, d4⟩ := box_five x4))
    have b4 : Below w.heap.size w w4 := b3.drew.grown hg4 hs3 (fun q h => by cases h; omega)
    have hs4 := b4.size
    clear hg4 c0 c1 c2 c3 c4 hrow3 x3 b3 hs3
    go_wp2_with fail
    go_region_held3 (fun w' => w'.cell? ⟨w.heap.size, 2, none⟩ = some (.int .i64 t)) (first | exact d2 | exact e2) (first | (go_at_call 37; refine (putTime_any w.heap.size g 4 40 40 _ t _ _ (by omega) ht0 htt hrow4.drew).mono ?_; rintro e w5 ⟨rfl, hrow5, hg5⟩; have x5 := (hg5.block w.heap.size (lt_heap x4) (by simp; omega)).trans x4; obtain ⟨e0, e1, e2, e3, e4⟩ := box_five x5))
    have b5 : Below w.heap.size w w5 := b4.drew.grown hg5 hs4 (fun q h => by cases h; omega)
    clear hg5 d0 d1 d2 d3 d4 hrow4 x4 b4 hs4
    generalize putL (putL ((List.replicate 40 (Value.int .u8 0)).set 0 (.int .u8 s)) 1 f 3) 4 t 3 = ys at *
    have hyl : ys.length = 40 := by simpa using hrow5.1
    have f7 := hrow5.frozenAt 7
    obtain ⟨v7, k7⟩ : ∃ v, w5.cell? ⟨g, 7, none⟩ = some v := ⟨_, (hrow5.cellAt 7 (by omega)).trans (List.getElem?_eq_getElem (by omega))⟩
    have hrow6 := (hrow5.stored 7 (.int .u8 z)).1
    have x6 := box_set_far (o := 7) (v := .int .u8 z) x5 (show w.heap.size ≠ g by omega)
    have b6 : Below w.heap.size w (w5.setCell ⟨g, 7, none⟩ (.int .u8 z)) := b5.setCell (by show w.heap.size ≤ g; omega) _
    go_wp2_with fail
    clear f7 k7 e0 e1 e2 e3 e4 hrow5 x5 b5
    generalize w5.setCell ⟨g, 7, none⟩ (.int .u8 z) = w6 at *
    generalize ys.set 7 (.int .u8 z) = zs at *
    obtain ⟨q0, q1, q2, q3, q4⟩ := box_five x6
    obtain ⟨hG, hzl, -⟩ := own_full hrow6
    have hGd : w6.drew.heap[g]? = some (.cells zs.toArray 5 (0, 0)) := hG
    have hu1 : (Tryd.prog.info? 5).map (·.size) = some 1 := by kernel_rfl
    have hsrc := bytesAt_news (hro.below (Nat.le_refl _) b6.drew)
    have hgw : w.heap.size ≤ g := by omega
    go_region_held3 (fun w' => w'.cell? ⟨w.heap.size, 4, none⟩ = some (.slice (some ⟨G, O, none⟩) 32 rc)) (first | exact q4 | exact r4) (first | (refine step_copy_splice rfl (.tmp 34) (.tmp 37) 22 22 rfl 5 Tryd.underlying22 hu1 _ _ 32 _ 32 _ rfl rfl g 8 zs 5 hGd (root.map (Value.int .u8)) (by rw [List.length_map, h8]; rfl) (fun _ => ⟨rfl, _, rfl, hsrc⟩) (by rw [List.length_map, h8, hzl]; omega) (by intro u hu; obtain ⟨y, -, rfl⟩ := List.mem_map.1 hu; rfl) g w6.drew (Below.refl _ _) (Nat.le_refl _) ?_; intro w7 hg7 hb7; obtain ⟨-, -, -, -, r4⟩ := box_five (box_below (w := w6.drew) x6 hb7 hKg)))
    have b7 := b6.drew.trans (hb7.mono hgw)
    have hrow7 : w7.ownsRow w.heap.size 5 1 (.slice (some ⟨g, 0, none⟩) 40 40) 40 (RL.map (Value.int .u8)) := full_own (by rw [← HR.out]; exact hg7.out) (by rw [List.length_map, hrl]) hgw (by unfold maxLen; omega)
    clear hG hGd hrow6 hsrc q0 q1 q2 q3 q4 HR hg7
    go_wp2_with fail
    go_ret2
    exact ⟨_, _, _, rfl, by rw [HE.out]; exact hrow7, b7⟩
  · have HE : Hid (bytesE r = []) := by show _ = _; unfold bytesE; rw [if_pos hw]
    have hw' : (wrongRec r != 0) = true := by simpa using hw
    obtain ⟨s0, s1, s2, s3, s4⟩ := box_five x0
    clear hw hr
    generalize wrongRec r = er at *
    generalize bytesE r = BE at *
    generalize r.root.length = n at *
    generalize r.shard = s at *
    generalize r.from' = f at *
    generalize r.to' = t at *
    generalize r.size = z at *
    go_enter Tryd.func13, Tryd.ntmps13
    go_wp2_with fail
    generalize w.alloc (.cells #[.int .i64 s, .int .i64 f, .int .i64 t, .int .i64 z, .slice ra n rc] 40) = w0 at *
    refine cW0.mono ?_
    rintro e w1 ⟨rfl, hb1⟩
    have b1 := b0.trans (hb1.mono b0.size)
    clear s0 s1 s2 s3 s4 cW0
    go_wp2_with fail
    go_ret2
    exact ⟨none, 0, 0, rfl, by rw [HE.out]; exact World.ownsRow_nil _ _ _ _, b1⟩

end Go.Proofs.YtkjlchfmplcobaeDoor
