/- BookGoBytes, BookGoLeaves, BookGoBook, as one text. -/
import Derived.Test.YtkjlchfmplcobaeGreatDoorRunAP
import Derived.OwnWalk
import Derived.Laws.CopyOwn
/- The walk of Bytes: package book as it landed. -/
namespace Go.Proofs.YtkjlchfmplcobaeGreatDoor
open Go.RowKit

/-- A full row is its block. -/
theorem own_full {w : World} {base g n : Nat} {e : TypeId} {xs : List Value} (h : w.ownsRow base e 1 (.slice (some ⟨g, 0, none⟩) n n) n xs) : w.heap[g]? = some (.cells xs.toArray e (0, 0)) ∧ xs.length = n ∧ base ≤ g := by
 have hl : xs.length = n := by simpa using h.1
 rcases h.2 with ⟨h', -⟩ | ⟨g', cap, cur, h', hb, hg, hnc, hcm, hcs, htake⟩
 ·cases h'
 ·simp only [Value.slice.injEq, Option.some.injEq, Addr.mk.injEq, and_true, true_and] at h'
  obtain ⟨rfl, rfl⟩ := h'
  refine ⟨?_, hl, hb⟩
  rw [hg, ← htake, List.take_of_length_le (by rw [Array.length_toList, hcs]; omega)]
theorem full_own {w : World} {base g n : Nat} {e : TypeId} {xs : List Value} (h : w.heap[g]? = some (.cells xs.toArray e (0, 0))) (hl : xs.length = n) (hb : base ≤ g) (hn : n ≤ maxLen) : w.ownsRow base e 1 (.slice (some ⟨g, 0, none⟩) n n) n xs := by
 refine ⟨by simpa using hl, .inr ⟨g, n, xs.toArray, rfl, hb, h, Nat.le_refl _, hn, by simp [hl], ?_⟩⟩
 simp [← hl]
/-- What comes of a row of noughts. -/
theorem row_put (r : Rec) (h32 : r.root.length = 32) : splice ((putL (putL ((List.replicate 40 (Value.int .u8 0)).set 0 (.int .u8 r.shard)) 1 r.from' 3) 4 r.to' 3).set 7 (.int .u8 r.size)) 8 (r.root.map (Value.int .u8)) = (rowL r).map (Value.int .u8) := by
 unfold splice
 rw [List.length_map, h32]
 have e1 : ((putL (putL ((List.replicate 40 (Value.int .u8 0)).set 0 (.int .u8 r.shard)) 1 r.from' 3) 4 r.to' 3).set 7 (.int .u8 r.size)).drop (8 + 32) = [] := by
  apply List.drop_eq_nil_of_le
  simp [putL]
 rw [e1, List.append_nil]
 rfl
theorem zeros40 {w : World} {base g : Nat} (h : w.ownsRow base 5 1 (.slice (some ⟨g, 0, none⟩) 40 40) 40 (madeCells (Value.int IntKind.u8 0).cells (40 * 1)).toList) : w.ownsRow base 5 1 (.slice (some ⟨g, 0, none⟩) 40 40) 40 (List.replicate 40 (.int .u8 0)) := by
 have e : (madeCells (Value.int IntKind.u8 0).cells (40 * 1)).toList = List.replicate 40 (.int .u8 0) := by
  show (madeCells #[Value.int IntKind.u8 0] (40 * 1)).toList = _
  rw [toList_madeCells_one, Nat.mul_one]
 rw [e] at h
 exact h
set_option maxRecDepth 100000 in
set_option maxHeartbeats 4000000 in
theorem recBytesC_holds : RecBytesC := fun r v w h => by
 obtain ⟨i0, hi0, hz0, hz1, hz2⟩ := info_parts Tryz.info5b
 have cW := fun w' (hb : Below w.heap.size w w') => recWrongC_holds r v w' (h.below hb)
 obtain ⟨ra, rc, rfl, hr⟩ := h
 have b0 : Below w.heap.size w (w.alloc (.cells #[.int .i64 r.shard, .int .i64 r.from', .int .i64 r.to', .int .i64 r.size, .slice ra r.root.length rc] 45)) := (Below.refl _ _).alloc (Nat.le_refl _) _
 have x0 := box_new w #[.int .i64 r.shard, .int .i64 r.from', .int .i64 r.to', .int .i64 r.size, .slice ra r.root.length rc] 45
 have cW0 := cW _ b0
 clear cW
 by_cases hw : wrongRec r = 0
 ·have HE : Hid (bytesE r = rowL r) := by show _ = _; unfold bytesE; rw [if_neg (fun e => e hw)]
  have HR : Hid (splice ((putL (putL ((List.replicate 40 (Value.int .u8 0)).set 0 (.int .u8 r.shard)) 1 r.from' 3) 4 r.to' 3).set 7 (.int .u8 r.size)) 8 (r.root.map (Value.int .u8)) = (rowL r).map (Value.int .u8)) := row_put r (wrongRec_ok hw).2.2.2.2.2.2.2
  obtain ⟨h1, h2, h3, h4, h5, h6, h7, h8⟩ := wrongRec_ok hw
  rw [hw] at cW0 ⊢
  have hrl : (rowL r).length = 40 := row_length hw
  have hro := hr.at'
  obtain ⟨G, O, cR, eR⟩ := hro.some (by rw [h8]; omega)
  rw [h8] at eR x0 b0 cW0 hro ⊢
  cases eR
  clear hw hr
  generalize bytesE r = BE at *
  generalize rowL r = RL at *
  obtain ⟨s, f, t, z, root⟩ := r
  dsimp only at *
  obtain ⟨s0, s1, s2, s3, s4⟩ := box_five x0
  go_enter Tryz.func38, Tryz.ntmps38
  go_wp2_with fail
  generalize w.alloc (.cells #[.int .i64 s, .int .i64 f, .int .i64 t, .int .i64 z, .slice (some ⟨G, O, none⟩) 32 rc] 45) = w0 at *
  refine cW0.mono ?_
  rintro e w1 ⟨rfl, hb1⟩
  have b1 := b0.trans (hb1.mono b0.size)
  have x1 := box_kept x0 hb1
  have hs1 := b1.size
  clear s0 s1 s2 s3 s4 cW0 x0 b0 hb1
  have hKg : w.heap.size < w1.heap.size := lt_heap x1
  go_wp2_with (at_make; refine wpList_make_full _ rfl _ _ 37 rfl w.heap.size 5 i0 (.int .u8 0) 1 Tryz.underlying37 hi0 hz0 hz1 .i64 .i64 _ _ 40 rfl rfl rfl rfl (by rw [hz2]; omega) (by unfold maxLen; omega) hs1 ?_; intro w2 hown hgrow; have b2 : Below w.heap.size w w2 := b1.grown hgrow hs1 (fun q h => by cases h); have hrow2 : w2.ownsRow w.heap.size 5 1 (.slice (some ⟨w1.heap.size, 0, none⟩) 40 40) 40 (List.replicate 40 (.int .u8 0)) := (zeros40 hown); have x2 := (hgrow.block w.heap.size hKg (by simp)).trans x1; obtain ⟨c0, c1, c2, c3, c4⟩ := box_five x2; have f0 := hrow2.frozenAt 0; have k0 : w2.cell? ⟨w1.heap.size, 0, none⟩ = some (.int .u8 0) := (hrow2.cellAt 0 (by omega)).trans rfl; clear hown)
  have hst := hrow2.stored 0 (.int .u8 s)
  have hrow3 := hst.1
  have x3 := box_set_far (o := 0) (v := .int .u8 s) x2 (show w.heap.size ≠ w1.heap.size by omega)
  have b3 : Below w.heap.size w (w2.setCell ⟨w1.heap.size, 0, none⟩ (.int .u8 s)) := b2.setCell (by show w.heap.size ≤ w1.heap.size; omega) _
  clear hst hrow2 x2 c0 c1 c2 c3 c4 f0 k0 hgrow b2 x1 b1 hs1
  generalize w1.heap.size = g at *
  generalize w2.setCell ⟨g, 0, none⟩ (.int .u8 s) = w3 at *
  obtain ⟨c0, c1, c2, c3, c4⟩ := box_five x3
  have hft : f < 16777216 := by omega
  have htt : t < 16777216 := by omega
  have ht0 : 0 ≤ t := by omega
  have hs3 := b3.size
  go_region_held3 (fun w' => w'.cell? ⟨w.heap.size, 1, none⟩ = some (.int .i64 f)) (first | exact c1 | exact d1) (first | (go_at_call 66; refine (putTime_any w.heap.size g 1 40 40 _ f _ _ (by omega) h3 hft hrow3.drew).mono ?_; rintro e w4 ⟨rfl, hrow4, hg4⟩; have x4 := (hg4.block w.heap.size (lt_heap x3) (by simp; omega)).trans x3; obtain ⟨d0, d1, d2, d3, d4⟩ := box_five x4))
  have b4 : Below w.heap.size w w4 := b3.drew.grown hg4 hs3 (fun q h => by cases h; omega)
  have hs4 := b4.size
  clear hg4 c0 c1 c2 c3 c4 hrow3 x3 b3 hs3
  go_wp2_with fail
  go_region_held3 (fun w' => w'.cell? ⟨w.heap.size, 2, none⟩ = some (.int .i64 t)) (first | exact d2 | exact e2) (first | (go_at_call 66; refine (putTime_any w.heap.size g 4 40 40 _ t _ _ (by omega) ht0 htt hrow4.drew).mono ?_; rintro e w5 ⟨rfl, hrow5, hg5⟩; have x5 := (hg5.block w.heap.size (lt_heap x4) (by simp; omega)).trans x4; obtain ⟨e0, e1, e2, e3, e4⟩ := box_five x5))
  have b5 : Below w.heap.size w w5 := b4.drew.grown hg5 hs4 (fun q h => by cases h; omega)
  clear hg5 d0 d1 d2 d3 d4 hrow4 x4 b4 hs4
  generalize putL (putL ((List.replicate 40 (Value.int .u8 0)).set 0 (.int .u8 s)) 1 f 3) 4 t 3 = ys at *
  have hyl : ys.length = 40 := by simpa using hrow5.1
  have f7 := hrow5.frozenAt 7
  obtain ⟨v7, k7⟩ : ∃ v, w5.cell? ⟨g, 7, none⟩ = some v := ⟨_, (hrow5.cellAt 7 (by omega)).trans (List.getElem?_eq_getElem (by omega))⟩
  have hrow6 := (hrow5.stored 7 (.int .u8 z)).1
  have x6 := box_set_far (o := 7) (v := .int .u8 z) x5 (show w.heap.size ≠ g by omega)
  have b6 : Below w.heap.size w (w5.setCell ⟨g, 7, none⟩ (.int .u8 z)) := b5.setCell (by show w.heap.size ≤ g; omega) _
  go_wp2_with fail
  clear f7 k7 e0 e1 e2 e3 e4 hrow5 x5 b5
  generalize w5.setCell ⟨g, 7, none⟩ (.int .u8 z) = w6 at *
  generalize ys.set 7 (.int .u8 z) = zs at *
  obtain ⟨q0, q1, q2, q3, q4⟩ := box_five x6
  obtain ⟨hG, hzl, -⟩ := own_full hrow6
  have hGd : w6.drew.heap[g]? = some (.cells zs.toArray 5 (0, 0)) := hG
  have hu1 : (Tryz.prog.info? 5).map (·.size) = some 1 := by kernel_rfl
  have hsrc := bytesAt_news (hro.below (Nat.le_refl _) b6.drew)
  have hgw : w.heap.size ≤ g := by omega
  go_region_held3 (fun w' => w'.cell? ⟨w.heap.size, 4, none⟩ = some (.slice (some ⟨G, O, none⟩) 32 rc)) (first | exact q4 | exact r4) (first | (refine step_copy_splice rfl (.tmp 34) (.tmp 37) 37 37 rfl 5 Tryz.underlying37 hu1 _ _ 32 _ 32 _ rfl rfl g 8 zs 5 hGd (root.map (Value.int .u8)) (by rw [List.length_map, h8]; rfl) (fun _ => ⟨rfl, _, rfl, hsrc⟩) (by rw [List.length_map, h8, hzl]; omega) (by intro u hu; obtain ⟨y, -, rfl⟩ := List.mem_map.1 hu; rfl) g w6.drew (Below.refl _ _) (Nat.le_refl _) ?_; intro w7 hg7 hb7; obtain ⟨-, -, -, -, r4⟩ := box_five (box_below (w := w6.drew) x6 hb7 hKg)))
  have b7 := b6.drew.trans (hb7.mono hgw)
  have hrow7 : w7.ownsRow w.heap.size 5 1 (.slice (some ⟨g, 0, none⟩) 40 40) 40 (RL.map (Value.int .u8)) := full_own (by rw [← HR.out]; exact hg7.out) (by rw [List.length_map, hrl]) hgw (by unfold maxLen; omega)
  clear hG hGd hrow6 hsrc q0 q1 q2 q3 q4 HR hg7
  go_wp2_with fail
  go_ret2
  exact ⟨_, _, _, rfl, by rw [HE.out]; exact hrow7, b7⟩
 ·have HE : Hid (bytesE r = []) := by show _ = _; unfold bytesE; rw [if_pos hw]
  have hw' : (wrongRec r != 0) = true := by simpa using hw
  obtain ⟨s0, s1, s2, s3, s4⟩ := box_five x0
  clear hw hr
  generalize wrongRec r = er at *
  generalize bytesE r = BE at *
  generalize r.root.length = n at *
  generalize r.shard = s at *
  generalize r.from' = f at *
  generalize r.to' = t at *
  generalize r.size = z at *
  go_enter Tryz.func38, Tryz.ntmps38
  go_wp2_with fail
  generalize w.alloc (.cells #[.int .i64 s, .int .i64 f, .int .i64 t, .int .i64 z, .slice ra n rc] 45) = w0 at *
  refine cW0.mono ?_
  rintro e w1 ⟨rfl, hb1⟩
  have b1 := b0.trans (hb1.mono b0.size)
  clear s0 s1 s2 s3 s4 cW0
  go_wp2_with fail
  go_ret2
  exact ⟨none, 0, 0, rfl, by rw [HE.out]; exact World.ownsRow_nil _ _ _ _, b1⟩

end Go.Proofs.YtkjlchfmplcobaeGreatDoor

/- The walk of leaves: package book as it landed. -/
namespace Go.Proofs.YtkjlchfmplcobaeGreatDoor
open Go.RowKit

set_option maxRecDepth 100000 in
set_option maxHeartbeats 4000000 in
theorem leaves_any (l : List Rec) (a : Option Addr) (n c : Nat) (w : World) (hl : RecsAt w (.slice a n c) l) (hn : l.length = n) :
  Calls Tryz.prog 57 #[.slice a n c] w fun e w' => ∃ xa xn xc, e = .returned (.tuple #[.slice xa xn xc, faultV (wrongRecs l)]) ∧ ((wrongRecs l).1 = 0 → OwnParts w' w.heap.size (.slice xa xn xc) (rowsOf l) ∧ xn = n) ∧ Below w.heap.size w w' := by
 obtain ⟨i0, hi0, hz0, hz1, hz2⟩ := info_parts Tryz.info37b
 have hcap : n ≤ maxLen := by obtain ⟨a', c', e, h2, h3, -⟩ := hl; cases e; omega
 unfold maxLen at hcap
 have b0 : Below w.heap.size w (w.alloc (.cells #[.int .i64 0, .int .i64 0] 31)) := (Below.refl _ _).alloc (Nat.le_refl _) _
 have x0 := box_new w #[.int .i64 0, .int .i64 0] 31
 by_cases h8 : 8 < n
 ·have HE : Hid (wrongRecs l = (5, 0)) := wrongRecs_many (by omega)
  have h8' : (8 : Int) < n := by omega
  clear hl
  go_enter Tryz.func57, Tryz.ntmps57
  go_wp2_with fail
  exact bodyPost_ret (v := .tuple #[.slice none 0 0, faultV (5, 0)]) (by simp [results, Tryz.results57, go_sem]) rfl ⟨none, 0, 0, by rw [HE.out], by rw [HE.out]; exact fun h => absurd h (by decide), (Below.refl _ _).alloc (Nat.le_refl _) _⟩
 ·have h8' : ¬ (8 : Int) < n := by omega
  have hrl := rows_length l
  have HW1 : ∀ k : Nat, Hid (k < n → (∀ j, j < k → wrongRec (l.getD j rec0) = 0) → wrongRec (l.getD k rec0) ≠ 0 → wrongRecs l = (wrongRec (l.getD k rec0), (k : Int))) := fun k h1 h2 h3 => wrongRecs_at (by omega) (by omega) h2 h3
  have HW2 : Hid ((∀ j, j < n → wrongRec (l.getD j rec0) = 0) → wrongRecs l = (0, 0)) := fun h => wrongRecs_none (by omega) (fun j hj => h j (by omega))
  go_enter Tryz.func57, Tryz.ntmps57
  have hs0 := b0.size
  go_wp2_with (at_make; refine wpList_make_own _ rfl _ _ 43 rfl w.heap.size 37 i0 (.slice none 0 0) 1 Tryz.underlying43 hi0 hz0 hz1 .i64 .i64 _ n rfl rfl rfl (by rw [hz2]; omega) (by unfold maxLen; omega) hs0 ?_; intro w1 hown hgrow)
  have b1 : Below w.heap.size w w1 := b0.grown hgrow hs0 (fun q h => by cases h)
  have x1 := (hgrow.block w.heap.size (lt_heap x0) (by simp)).trans x0
  rw [World.size_alloc] at hown
  clear x0 b0 hs0 hgrow
  go_loopw [4, 18] (fun ov kv wr => ∃ (k : Nat) (va : Option Addr) (vc : Nat) (vs : List Value), k ≤ n ∧ kv = .int .i64 k ∧ ov = .slice va k vc ∧ wr.ownsRow w.heap.size 37 1 (.slice va k vc) k vs ∧ OwnEls wr w.heap.size vs ((rowsOf l).take k) ∧ Hid (∀ j, j < k → wrongRec (l.getD j rec0) = 0) ∧ wr.heap[w.heap.size]? = some (.cells #[.int .i64 0, .int .i64 0] 31 (0, 0)) ∧ Below w.heap.size w wr) (fun _ kv _ => n - (intOf kv).toNat)
  case atStart => exact ⟨0, _, _, [], Nat.zero_le _, rfl, rfl, hown, fun _ hj => absurd hj (by simp), fun _ hj => absurd hj (Nat.not_lt_zero _), x1, b1⟩
  case round =>
   obtain ⟨wo, rfl⟩ : ∃ x, x = wr := ⟨wr, rfl⟩
   obtain ⟨k, va, vc, vs, hk, rfl, rfl, hrow, hels, HO, xo, hbr⟩ := hrel
   have hsr := hbr.size
   clear x1 b1 hown
   by_cases hlt : k < n
   ·have hlt' : (k : Int) < n := by omega
    have hlo := hl.below hbr
    obtain ⟨a0, c0, e0, hn1, hn2, hn3, hcells⟩ := hlo
    rw [hn] at e0 hn1 hcells
    cases e0
    obtain ⟨g, o, rfl, hg, hcs⟩ := hcells.resolve_left (by omega)
    obtain ⟨d0, d1, d2, d3, qa, qc, d4, hroot⟩ := hcs k hlt
    have HV := HW1 k
    have HS : Hid ((rowsOf l).take (k + 1) = (rowsOf l).take k ++ [rowL (l.getD k rec0)]) := refRows_snoc (by omega)
    have hrl40 := fun h => row_length (r := l.getD k rec0) h
    have HF : Hid (wrongRec (l.getD k rec0) = 0 → ∀ j, j < k + 1 → wrongRec (l.getD j rec0) = 0) := fun h j hj => by
     by_cases e : j = k
     ·rw [e]; exact h
     ·exact HO.out j (by omega)
    clear hcells hcs HW1 HW2
    have hrt : ((rowsOf l).take k).length = k := by rw [List.length_take]; omega
    generalize (rowsOf l).take k = done at *
    generalize l.getD k rec0 = R at *
    have d5 : Below wo.heap.size wo (wo.alloc (.cells #[.int .i64 R.shard, .int .i64 R.from', .int .i64 R.to', .int .i64 R.size, .slice qa R.root.length qc] 45)) := (Below.refl _ _).alloc (Nat.le_refl _) _
    have y5 := box_new wo #[.int .i64 R.shard, .int .i64 R.from', .int .i64 R.to', .int .i64 R.size, .slice qa R.root.length qc] 45
    have hRV : RecV (wo.alloc (.cells #[.int .i64 R.shard, .int .i64 R.from', .int .i64 R.to', .int .i64 R.size, .slice qa R.root.length qc] 45)) (.agg #[.int .i64 R.shard, .int .i64 R.from', .int .i64 R.to', .int .i64 R.size, .slice qa R.root.length qc]) R := ⟨qa, qc, rfl, hroot.below d5⟩
    have cW := recBytesC_holds R _ _ hRV
    obtain ⟨s0, s1, s2, s3, s4⟩ := box_five y5
    have b5 := hbr.trans (d5.mono hsr)
    have hrow5 := own_below hrow d5 (Nat.le_refl _)
    have hels5 := hels.below d5 (Nat.le_refl _)
    have x5 := box_kept xo d5
    clear hrow hels xo hroot
    go_wp2_with fail
    generalize wo.alloc (.cells #[.int .i64 R.shard, .int .i64 R.from', .int .i64 R.to', .int .i64 R.size, .slice qa R.root.length qc] 45) = w5 at *
    refine cW.mono ?_
    rintro e w6 ⟨xa, xn, xc, rfl, hx, hb6⟩
    have b6 := b5.trans (hb6.mono b5.size)
    have hrow6 := own_below hrow5 hb6 (Nat.le_refl _)
    have hels6 := hels5.below hb6 (Nat.le_refl _)
    have x6 := box_kept x5 hb6
    obtain ⟨t0, t1, t2, t3, t4⟩ := box_five (box_kept y5 hb6)
    clear cW s0 s1 s2 s3 s4 y5 d0 d1 d2 d3 d4 hrow5 hels5 x5
    by_cases hw : wrongRec R = 0
    ·have h40 := hrl40 hw
     have hE : bytesE R = rowL R := by unfold bytesE; rw [if_neg (fun e => e hw)]
     have HF2 := HF.out hw
     have HFh : Hid (∀ j, j < k + 1 → wrongRec (l.getD j rec0) = 0) := HF2
     rw [hw]
     rw [hE] at hx
     obtain rfl : xn = 40 := by have := hx.1; rw [List.length_map, h40] at this; omega
     clear HV hw hRV HF HF2 hrl40 hE
     have hvl : vs.length = done.length := by rw [hrt]; simpa using hrow6.1
     have hy : w6.ownsRow w.heap.size 5 1 (.slice xa 40 xc) (rowL R).length ((rowL R).map (Value.int .u8)) := by rw [h40]; exact ownsRow_base hx b5.size
     have hsn := (hels6.snoc hvl hy).alloc (.cells #[.slice xa 40 xc] 37)
     have hrowA := hrow6.alloc (.cells #[.slice xa 40 xc] 37)
     have hnew := cell_one_new w6 (.slice xa 40 xc) 37
     have xA := box_old _ (.cells #[.slice xa 40 xc] 37) x6
     have bA : Below w.heap.size w (w6.alloc (.cells #[.slice xa 40 xc] 37)) := b6.alloc b6.size _
     have hsA := bA.size
     clear hx hy hrow6 hels6 x6 t0 t1 t2 t3 t4
     go_wp2_with (at_builtin; refine wpList_append_own _ rfl (.tmp 33) (.tmp 35) 43 rfl w.heap.size 37 i0 _ 1 24 Tryz.underlying43 hi0 hz0 hz1 hz2 rfl (by decide) _ _ _ rfl hrowA _ 1 1 [.slice xa 40 xc] rfl rfl hnew (by intro u hu; simp at hu; subst hu; rfl) (by unfold maxLen; omega) (by omega) hsA ?_; intro v8 w8 ho8 hg8 _; obtain ⟨sa, sc, rfl⟩ := own_form' ho8)
     have b8 : Below w.heap.size w w8 := bA.grown hg8 hsA (fun _ h => own_block hrowA h)
     have hels8 := hsn.kept hrowA hg8
     have x8 := grown_box hg8 hrowA xA (by decide)
     go_roundw
     case rel => exact ⟨k + 1, sa, sc, _, by omega, by go_num, rfl, ho8, by rw [HS.out]; exact hels8, HFh, x8, b8⟩
     case measure => simp [intOf]; omega
    ·have HE : Hid (wrongRecs l = (wrongRec R, (k : Int))) := HV.out hlt HO.out hw
     have hw' : (wrongRec R != 0) = true := by simpa using hw
     have HNE : Hid (wrongRec R ≠ 0) := hw
     generalize wrongRec R = er at *
     obtain ⟨u0, u1, u2, u3⟩ := box_two x6
     clear HV HF hw hrow6 hels6 hx
     go_wp2_with fail
     exact bodyPost_ret (v := .tuple #[.slice none 0 0, faultV (er, (k : Int))]) (by simp [results, Tryz.results57, go_sem, u0, u1]) rfl ⟨none, 0, 0, by rw [HE.out], by rw [HE.out]; exact fun h => absurd h HNE.out, (b6.setCell (Nat.le_refl _) _).setCell (Nat.le_refl _) _⟩
   ·obtain rfl : k = n := by omega
    have hnl : ¬ (k : Int) < k := by omega
    have HE : Hid (wrongRecs l = (0, 0)) := HW2.out HO.out
    rw [List.take_of_length_le (by omega)] at hels
    have hO : OwnParts wo w.heap.size (.slice va k vc) (rowsOf l) := ⟨vs, by rw [hrl, hn]; exact hrow, hels⟩
    obtain ⟨u0, u1, u2, u3⟩ := box_two xo
    have hO2 := (hO.far (o := 0) xo (by decide) (by decide) (.int .i64 0)).far (o := 1) (heap_setCell_same _ _ 0 _ _ (.int .i64 0) xo) (by decide) (by decide) (.int .i64 0)
    clear HW1 HW2 HO hrow hels hl hn hrl
    go_wp2_with fail
    exact bodyPost_ret (v := .tuple #[.slice va k vc, faultV (0, 0)]) (by simp [results, Tryz.results57, go_sem, u0, u1]) rfl ⟨va, k, vc, by rw [HE.out], fun _ => ⟨hO2, rfl⟩, (hbr.setCell (Nat.le_refl _) _).setCell (Nat.le_refl _) _⟩

end Go.Proofs.YtkjlchfmplcobaeGreatDoor

/- The walks of Head, Path and Grows: package book as it landed. -/
namespace Go.Proofs.YtkjlchfmplcobaeGreatDoor
open Go.RowKit

theorem RecsAt.form {w : World} {v : Value} {l : List Rec} (h : RecsAt w v l) : ∃ a c, v = .slice a l.length c := by
 obtain ⟨a, c, e, -⟩ := h; exact ⟨a, c, e⟩
theorem rows_mem_bytes {l : List Rec} (h : (wrongRecs l).1 = 0) (hb : ∀ j, Bytes (l.getD j rec0).root) : ∀ x ∈ rowsOf l, Bytes x := fun x hx => by
 obtain ⟨j, hj, rfl⟩ := List.mem_iff_getElem.1 hx
 have := rows_bytes h hb j
 rwa [List.getD_eq_getElem?_getD, List.getElem?_eq_getElem hj] at this
set_option maxRecDepth 100000 in
set_option maxHeartbeats 4000000 in
theorem bookHeadC_holds (hRoot : RootC) : BookHeadC := fun l lv w hR hl => by
 obtain ⟨a, c, rfl⟩ := hl.form
 have hlb := hl.bytes
 obtain ⟨n, hn⟩ : ∃ n, l.length = n := ⟨_, rfl⟩
 have b0 : Below w.heap.size w ((w.alloc (.cells #[.int .i64 0, .slice none 0 0] 39)).alloc (.cells #[.int .i64 0, .int .i64 0] 31)) := ((Below.refl _ _).alloc (Nat.le_refl _) _).alloc (by simp) _
 have y0 := box_one w #[.int .i64 0, .slice none 0 0] 39 (.cells #[.int .i64 0, .int .i64 0] 31)
 have z0 := box_last w (.cells #[.int .i64 0, .slice none 0 0] 39) #[.int .i64 0, .int .i64 0] 31
 rw [hn] at hl ⊢
 have cL := leaves_any l a n c _ (hl.below b0) hn
 have HS1 : Hid ((wrongRecs l).1 ≠ 0 → bookSize l = 0 ∧ bookRoot l = []) := fun h => ⟨by unfold bookSize; rw [if_pos h], by unfold bookRoot; rw [if_pos h]⟩
 have HS2 : Hid ((wrongRecs l).1 = 0 → bookSize l = (n : Int) ∧ bookRoot l = mth (rowsOf l)) := fun h => ⟨by unfold bookSize; rw [if_neg (fun g => g h), hn], by unfold bookRoot; rw [if_neg (fun g => g h)]⟩
 have HRW : Hid ((wrongRecs l).1 = 0 → wrongL (rowsOf l) = (0, 0) ∧ (∀ x ∈ rowsOf l, Bytes x) ∧ ∀ j, ((rowsOf l).getD j []).length ≤ maxLen) := fun h => ⟨rows_wrong h, rows_mem_bytes h hlb, fun j => by have := rows_short h j; unfold maxLen; omega⟩
 have HF0 : Hid ((wrongRecs l).1 = 0 → (wrongRecs l).2 = 0) := fun h => by rw [wrongRecs_whole h]
 have hml := mth_length (rowsOf l)
 have hmb := bytes_mth (rowsOf l)
 have cR := fun (xa : Option Addr) (xn xc : Nat) w' (h1 : Ready w') (h2 : Lists w' xa xn xc (rowsOf l)) => hRoot (rowsOf l) xa xn xc w' h1 h2
 clear hl hlb
 generalize wrongRecs l = F at *
 obtain ⟨F1, F2⟩ := F
 dsimp only [faultV] at *
 go_enter Tryz.func28, Tryz.ntmps28
 go_wp2_with fail
 generalize (w.alloc (.cells #[.int .i64 0, .slice none 0 0] 39)).alloc (.cells #[.int .i64 0, .int .i64 0] 31) = w0 at *
 refine cL.mono ?_
 rintro e w1 ⟨xa, xn, xc, rfl, hO, hb1⟩
 have b1 := b0.trans (hb1.mono b0.size)
 have d2 : Below w1.heap.size w1 (w1.alloc (.cells #[.int .i64 F1, .int .i64 F2] 31)) := (Below.refl _ _).alloc (Nat.le_refl _) _
 have b2 := b1.trans (d2.mono b1.size)
 have y2 := box_kept (box_kept y0 hb1) d2
 have z2 := box_kept (box_kept z0 hb1) d2
 have x2 := box_new w1 #[.int .i64 F1, .int .i64 F2] 31
 have hs01 : w.heap.size + 1 < w1.heap.size := lt_heap (box_kept z0 hb1)
 obtain ⟨p0, p1, -, -⟩ := box_two x2
 obtain ⟨q0, q1, q2, q3⟩ := box_two y2
 obtain ⟨r0, r1, r2, r3⟩ := box_two z2
 clear cL y0 z0 b0 hb1 b1
 by_cases hF : F1 = 0
 ·obtain ⟨hbs, hbr⟩ := HS2.out hF
  have HB : Hid (bookSize l = (n : Int) ∧ bookRoot l = mth (rowsOf l)) := ⟨hbs, hbr⟩
  obtain ⟨hw0, hmb', hsh⟩ := HRW.out hF
  obtain ⟨hO', rfl⟩ := hO hF
  obtain rfl : F2 = 0 := HF0.out hF
  subst hF
  have hLs := (hO'.lists hmb' hsh).below d2
  have cR2 := cR _ _ _ _ (hR.below b2) hLs
  rw [hw0] at cR2
  dsimp only [faultV] at cR2
  clear HS1 HS2 HRW hO cR hbs hbr hO' hLs hw0 hmb' hsh HF0
  go_wp2_with fail
  generalize w1.alloc (.cells #[.int .i64 0, .int .i64 0] 31) = w2 at *
  refine cR2.mono ?_
  rintro e w3 ⟨ra, rn, rc, rfl, hr, -, hb3⟩
  replace hr := hr (by trivial)
  obtain rfl := own_len hr
  have b3 := b2.trans (hb3.mono b2.size)
  have d4 : Below w3.heap.size w3 (w3.alloc (.cells #[.int .i64 0, .int .i64 0] 31)) := (Below.refl _ _).alloc (Nat.le_refl _) _
  have b4 := b3.trans (d4.mono b3.size)
  have y4 := box_kept (box_kept y2 hb3) d4
  have z4 := box_kept (box_kept z2 hb3) d4
  have hr4 := own_below hr d4 (Nat.le_refl _)
  have hK : w.heap.size < w2.heap.size := lt_heap y2
  have hK2 : w.heap.size + 1 < w2.heap.size := lt_heap z2
  clear p0 p1 q0 q1 q2 q3 r0 r1 r2 r3 y2 z2 x2 cR2 hr hb3 b2 b3 d2 d4
  obtain ⟨q0, q1, q2, q3⟩ := box_two y4
  obtain ⟨r0, r1, r2, r3⟩ := box_two z4
  go_wp2_with fail
  generalize w3.alloc (.cells #[.int .i64 0, .int .i64 0] 31) = w4 at *
  have yE := two_far (two_set y4 (.int .i64 (xn : Int)) (.slice ra 32 rc)) (Nat.ne_of_lt (Nat.lt_succ_self w.heap.size)) (.int .i64 0) (.int .i64 0)
  have zE := two_set (two_far z4 (Nat.ne_of_gt (Nat.lt_succ_self w.heap.size)) (.int .i64 (xn : Int)) (.slice ra 32 rc)) (.int .i64 0) (.int .i64 0)
  obtain ⟨e0, e1, -, -⟩ := box_two yE
  obtain ⟨e2, e3, -, -⟩ := box_two zE
  have bE := two_below (two_below b4 (Nat.le_refl w.heap.size) (.int .i64 (xn : Int)) (.slice ra 32 rc)) (Nat.le_succ w.heap.size) (.int .i64 0) (.int .i64 0)
  have hrE := two_own (two_own hr4 hK (.int .i64 (xn : Int)) (.slice ra 32 rc)) hK2 (.int .i64 0) (.int .i64 0)
  exact bodyPost_ret (v := .tuple #[.agg #[.int .i64 (xn : Int), .slice ra 32 rc], faultV (0, 0)]) (by simp [results, Tryz.results28, go_sem, e0, e1, e2, e3]) rfl ⟨ra, rc, by rw [HB.out.1, HB.out.2, hml], by rw [HB.out.2, hml]; exact ⟨bytesAt_own hrE, hmb, by rw [hml]; unfold maxLen; omega⟩, bE⟩
 ·have hF' : (F1 != 0) = true := by simpa using hF
  obtain ⟨hbs, hbr⟩ := HS1.out hF
  have HB : Hid (bookSize l = 0 ∧ bookRoot l = []) := ⟨hbs, hbr⟩
  have n1 : w.heap.size ≠ w1.heap.size := by omega
  have n2 : w.heap.size + 1 ≠ w1.heap.size := by omega
  clear HS1 HS2 HRW hO cR hF hbs hbr
  go_wp2_with fail
  generalize w1.alloc (.cells #[.int .i64 F1, .int .i64 F2] 31) = w2 at *
  generalize w1.heap.size = B at *
  have t1 := two_far x2 n1.symm (.int .i64 0) (.slice none 0 0)
  have t2 := two_far t1 n2.symm (.int .i64 F1) (.int .i64 F2)
  have hS0 : w2.drew.cell? ⟨B, 0, none⟩ = some (.int .i64 F1) ∧ w2.drew.cell? ⟨B, 1, none⟩ = some (.int .i64 F2) := ⟨(box_two x2).1, (box_two x2).2.1⟩
  have hS1 : ((w2.setCell ⟨w.heap.size, 0, none⟩ (.int .i64 0)).setCell ⟨w.heap.size, 1, none⟩ (.slice none 0 0)).drew.cell? ⟨B, 0, none⟩ = some (.int .i64 F1) ∧ ((w2.setCell ⟨w.heap.size, 0, none⟩ (.int .i64 0)).setCell ⟨w.heap.size, 1, none⟩ (.slice none 0 0)).drew.cell? ⟨B, 1, none⟩ = some (.int .i64 F2) := ⟨(box_two t1).1, (box_two t1).2.1⟩
  have hS2 : ((((w2.setCell ⟨w.heap.size, 0, none⟩ (.int .i64 0)).setCell ⟨w.heap.size, 1, none⟩ (.slice none 0 0)).setCell ⟨w.heap.size + 1, 0, none⟩ (.int .i64 F1)).setCell ⟨w.heap.size + 1, 1, none⟩ (.int .i64 F2)).drew.cell? ⟨B, 0, none⟩ = some (.int .i64 F1) ∧ ((((w2.setCell ⟨w.heap.size, 0, none⟩ (.int .i64 0)).setCell ⟨w.heap.size, 1, none⟩ (.slice none 0 0)).setCell ⟨w.heap.size + 1, 0, none⟩ (.int .i64 F1)).setCell ⟨w.heap.size + 1, 1, none⟩ (.int .i64 F2)).drew.cell? ⟨B, 1, none⟩ = some (.int .i64 F2) := ⟨(box_two t2).1, (box_two t2).2.1⟩
  go_region_held3 (fun w' => w'.cell? ⟨B, 0, none⟩ = some (.int .i64 F1) ∧ w'.cell? ⟨B, 1, none⟩ = some (.int .i64 F2)) (first | (with_reducible exact hS0) | (with_reducible exact hS1) | (with_reducible exact hS2)) (fail)
  have yE := two_far (two_set y2 (.int .i64 0) (.slice none 0 0)) (Nat.ne_of_lt (Nat.lt_succ_self w.heap.size)) (.int .i64 F1) (.int .i64 F2)
  have zE := two_set (two_far z2 (Nat.ne_of_gt (Nat.lt_succ_self w.heap.size)) (.int .i64 0) (.slice none 0 0)) (.int .i64 F1) (.int .i64 F2)
  obtain ⟨e0, e1, -, -⟩ := box_two yE
  obtain ⟨e2, e3, -, -⟩ := box_two zE
  have bE := (two_below (two_below b2 (Nat.le_refl w.heap.size) (.int .i64 0) (.slice none 0 0)) (Nat.le_succ w.heap.size) (.int .i64 F1) (.int .i64 F2)).drew
  clear p0 p1 q0 q1 q2 q3 r0 r1 r2 r3 y2 z2 x2 t1 t2 hS0 hS1 hS2
  go_wp2_with fail
  exact bodyPost_ret (v := .tuple #[.agg #[.int .i64 0, .slice none 0 0], faultV (F1, F2)]) (by simp [results, Tryz.results28, go_sem, e0, e1, e2, e3]) rfl ⟨none, 0, by rw [HB.out.1, HB.out.2]; rfl, by rw [HB.out.2]; exact ⟨bytesAt_nil _, nil_bytes, Nat.zero_le _⟩, bE⟩

set_option maxRecDepth 100000 in
set_option maxHeartbeats 4000000 in
theorem bookPathC_holds (hT : PathC) : BookPathC := fun l m lv w hR hl => by
 obtain ⟨a, c, rfl⟩ := hl.form
 have hlb := hl.bytes
 obtain ⟨n, hn⟩ : ∃ n, l.length = n := ⟨_, rfl⟩
 have b0 : Below w.heap.size w (w.alloc (.cells #[.int .i64 0, .int .i64 0] 31)) := (Below.refl _ _).alloc (Nat.le_refl _) _
 have y0 := box_new w #[.int .i64 0, .int .i64 0] 31
 rw [hn] at hl ⊢
 have cL := leaves_any l a n c _ (hl.below b0) hn
 have HS1 : Hid ((wrongRecs l).1 ≠ 0 → bookPathF l m = wrongRecs l) := fun h => if_pos h
 have HS2 : Hid ((wrongRecs l).1 = 0 → bookPathF l m = pathF (rowsOf l) m) := fun h => if_neg (fun g => g h)
 have HRW : Hid ((wrongRecs l).1 = 0 → (∀ x ∈ rowsOf l, Bytes x) ∧ ∀ j, ((rowsOf l).getD j []).length ≤ maxLen) := fun h => ⟨rows_mem_bytes h hlb, fun j => by have := rows_short h j; unfold maxLen; omega⟩
 have cR := fun (xa : Option Addr) (xn xc : Nat) w' (h1 : Ready w') (h2 : Lists w' xa xn xc (rowsOf l)) => hT (rowsOf l) m xa xn xc w' h1 h2
 clear hl hlb
 generalize wrongRecs l = F at *
 generalize bookPathF l m = PF at *
 obtain ⟨F1, F2⟩ := F
 obtain ⟨PF1, PF2⟩ := PF
 dsimp only [faultV] at *
 go_enter Tryz.func27, Tryz.ntmps27
 go_wp2_with fail
 generalize w.alloc (.cells #[.int .i64 0, .int .i64 0] 31) = w0 at *
 refine cL.mono ?_
 rintro e w1 ⟨xa, xn, xc, rfl, hO, hb1⟩
 have b1 := b0.trans (hb1.mono b0.size)
 have d2 : Below w1.heap.size w1 (w1.alloc (.cells #[.int .i64 F1, .int .i64 F2] 31)) := (Below.refl _ _).alloc (Nat.le_refl _) _
 have b2 := b1.trans (d2.mono b1.size)
 have y2 := box_kept (box_kept y0 hb1) d2
 have x2 := box_new w1 #[.int .i64 F1, .int .i64 F2] 31
 have hs01 : w.heap.size < w1.heap.size := lt_heap (box_kept y0 hb1)
 obtain ⟨p0, p1, -, -⟩ := box_two x2
 obtain ⟨q0, q1, q2, q3⟩ := box_two y2
 clear cL y0 b0 hb1 b1
 by_cases hF : F1 = 0
 ·have HE := HS2.out hF
  obtain ⟨hmb', hsh⟩ := HRW.out hF
  obtain ⟨hO', rfl⟩ := hO hF
  have hLs := (hO'.lists hmb' hsh).below d2
  have cR2 := cR _ _ _ _ (hR.below b2) hLs
  rw [← HE] at cR2
  subst hF
  dsimp only [faultV] at cR2
  clear HS1 HS2 HRW hO cR hO' hLs hmb' hsh HE
  go_wp2_with fail
  generalize w1.alloc (.cells #[.int .i64 0, .int .i64 F2] 31) = w2 at *
  refine cR2.mono ?_
  rintro e w3 ⟨pa, pn, pc, rfl, hp1, hp2, hb3⟩
  have b3 := b2.trans (hb3.mono b2.size)
  have y3 := box_kept y2 hb3
  have hK : w.heap.size < w2.heap.size := lt_heap y2
  clear p0 p1 q0 q1 q2 q3 y2 x2 cR2 b2 d2
  obtain ⟨q0, q1, q2, q3⟩ := box_two y3
  go_wp2_with fail
  obtain ⟨e0, e1, -, -⟩ := box_two (two_set y3 (.int .i64 PF1) (.int .i64 PF2))
  have bE := two_below b3 (Nat.le_refl w.heap.size) (.int .i64 PF1) (.int .i64 PF2)
  exact bodyPost_ret (v := .tuple #[.slice pa pn pc, faultV (PF1, PF2)]) (by simp [results, Tryz.results27, go_sem, e0, e1]) rfl ⟨pa, pn, pc, rfl, fun h => ((((hp1 h).far (o := 0) y3 (by decide) (by decide) (.int .i64 PF1)).far (o := 1) (heap_setCell_same _ _ 0 _ _ (.int .i64 PF1) y3) (by decide) (by decide) (.int .i64 PF2)).base (Nat.le_of_lt hK)), hp2, bE⟩
 ·have hF' : (F1 != 0) = true := by simpa using hF
  obtain ⟨rfl, rfl⟩ : PF1 = F1 ∧ PF2 = F2 := by have := HS1.out hF; simp at this; exact this
  have HNE : Hid (PF1 ≠ 0) := hF
  have n1 : w.heap.size ≠ w1.heap.size := by omega
  clear HS1 HS2 HRW hO cR hF
  go_wp2_with fail
  generalize w1.alloc (.cells #[.int .i64 PF1, .int .i64 PF2] 31) = w2 at *
  generalize w1.heap.size = B at *
  have t1 := two_far x2 n1.symm (.int .i64 PF1) (.int .i64 PF2)
  have hS0 : w2.drew.cell? ⟨B, 0, none⟩ = some (.int .i64 PF1) ∧ w2.drew.cell? ⟨B, 1, none⟩ = some (.int .i64 PF2) := ⟨(box_two x2).1, (box_two x2).2.1⟩
  have hS1 : ((w2.setCell ⟨w.heap.size, 0, none⟩ (.int .i64 PF1)).setCell ⟨w.heap.size, 1, none⟩ (.int .i64 PF2)).drew.cell? ⟨B, 0, none⟩ = some (.int .i64 PF1) ∧ ((w2.setCell ⟨w.heap.size, 0, none⟩ (.int .i64 PF1)).setCell ⟨w.heap.size, 1, none⟩ (.int .i64 PF2)).drew.cell? ⟨B, 1, none⟩ = some (.int .i64 PF2) := ⟨(box_two t1).1, (box_two t1).2.1⟩
  go_region_held3 (fun w' => w'.cell? ⟨B, 0, none⟩ = some (.int .i64 PF1) ∧ w'.cell? ⟨B, 1, none⟩ = some (.int .i64 PF2)) (first | (with_reducible exact hS0) | (with_reducible exact hS1)) (fail)
  obtain ⟨e0, e1, -, -⟩ := box_two (two_set y2 (.int .i64 PF1) (.int .i64 PF2))
  have bE := (two_below b2 (Nat.le_refl w.heap.size) (.int .i64 PF1) (.int .i64 PF2)).drew
  clear p0 p1 q0 q1 q2 q3 y2 x2 t1 hS0 hS1
  go_wp2_with fail
  exact bodyPost_ret (v := .tuple #[.slice none 0 0, faultV (PF1, PF2)]) (by simp [results, Tryz.results27, go_sem, e0, e1]) rfl ⟨none, 0, 0, rfl, fun h => absurd h HNE.out, fun _ => rfl, bE⟩
end Go.Proofs.YtkjlchfmplcobaeGreatDoor
